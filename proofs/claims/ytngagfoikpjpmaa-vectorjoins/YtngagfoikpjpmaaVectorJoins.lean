/-
  The walk of the law VectorJoins: vector.Join and the document's answer are alike.
-/
import Derived.Test.YtngagfoikpjpmaaVJn
import Derived.Test.YtngagfoikpjpmaaRVc
import Derived.BigQuiet
import Derived.Deep.QuietTactic
namespace Go.Proofs.Ytngagfoikpjpmaa
open Go.RowKit Go.Maps

def JnsRel (w wr : World) : Prop := Below w.heap.size w wr

set_option maxHeartbeats 1000000 in
theorem vectorJoins_law (w : World) (A1 : Option Addr) (c1 : Nat) (a : List Int) (h1 : Nums w w.heap.size A1 a) (_hf1 : NumFits a) (_hc1 : a.length ≤ c1) (_hm1 : a.length ≤ maxLen) (hs1 : a.length ≤ 17592186044416) (A2 : Option Addr) (c2 : Nat) (b : List Int) (h2 : Nums w w.heap.size A2 b) (_hf2 : NumFits b) (_hc2 : b.length ≤ c2) (_hm2 : b.length ≤ maxLen) (hs2 : b.length ≤ 17592186044416) :
    Calls Try.prog 5 #[.slice A1 a.length c1, .slice A2 b.length c2] w fun e w' => e = .returned (.bool true) ∧ Below w.heap.size w w' := by
  by_cases h0 : vcode a b = 0
  · have hg := Lib.hid ((vcode_ok a b).1 h0)
    have h0H := Lib.hid h0
    have hsame := Lib.hid hg.out.same
    have hlen := hg.out.len
    clear h0
    go_enter Try.func5, Try.ntmps5
    go_wp2_with fail
    refine (vjoin_ok A1 A2 c1 c2 a b _ h1 h2 hg.out).mono ?_
    rintro e w1 ⟨g1, rfl, hN1, hB1⟩
    go_wp2_with fail
    refine (rvcheck_any A1 A2 c1 c2 a b _ ((h1.below hB1).more hB1.size) ((h2.below hB1).more hB1.size) hs1 hs2).mono ?_
    rintro e w2 ⟨rfl, hB2'⟩
    have hN2 := hN1.below hB2'
    have hN3 := hN2.more hB2'.size
    have hB2 := hB1.trans (hB2'.mono hB1.size)
    clear hB2' hB1 hN1 hN2
    rw [h0H.out, hsame.out]
    go_wp2_with fail
    go_loopw [8] (fun t wr => ∃ k : Nat, k ≤ a.length ∧ t = .int .i64 k ∧ JnsRel w2 wr) (fun t _ => a.length - (intOf t).toNat)
    case atStart => exact ⟨0, Nat.zero_le _, rfl, Below.refl _ _⟩
    case round =>
      obtain ⟨k, hk, rfl, hB3⟩ := hrel
      unfold JnsRel at hB3
      have hB4 := hB2.trans (hB3.mono hB2.size)
      by_cases hlt : k < a.length
      · obtain ⟨b1, o1, rfl, hb1, x1⟩ := nums_at (h1.below hB4) hlt
        obtain ⟨b2, o2, rfl, hb2, x2⟩ := nums_at (h2.below hB4) (i := k) (by have := hsame.out; omega)
        obtain ⟨b3, o3, e3, hb3, x3⟩ := nums_at (hN3.below hB3) (i := k) (by rw [vjoin_len]; exact hlt)
        obtain ⟨rfl, rfl⟩ : g1 = b3 ∧ 0 = o3 := by injection e3 with e3; injection e3 with e3 e4; exact ⟨e3, e4⟩
        rw [vjoin_at a b hlt, Nat.zero_add] at x3
        clear e3
        generalize vat a k = x at *
        generalize vat b k = y at *
        obtain ⟨z, hz⟩ : ∃ z, Hid (z = max x y) := ⟨_, rfl⟩
        rw [← hz.out] at x3
        have d1 : decide (z < x) = false := by have := hz.out; simp; omega
        have d2 : decide (z < y) = false := by have := hz.out; simp; omega
        have hkI : (k : Int) < (a.length : Int) := by omega
        by_cases e1 : z = x
        · have d3 : (z != x) = false := by simp [e1]
          have d3' : (z == x) = true := by simp [e1]
          clear e1
          go_wp2_with fail
          go_quiet (fail)
          go_wp2_with fail
          go_roundw
          case rel => exact ⟨k + 1, by omega, by go_num, below_drewN hB3 _⟩
          case measure => simp [intOf]; omega
        · have d3 : (z != x) = true := by simp [e1]
          have e2 : z = y := by have := hz.out; omega
          have d4 : (z != y) = false := by simp [e2]
          clear e1 e2
          go_wp2_with fail
          go_quiet (fail)
          go_wp2_with fail
          go_roundw
          case rel => exact ⟨k + 1, by omega, by go_num, below_drewN hB3 _⟩
          case measure => simp [intOf]; omega
      · have hkl : k = a.length := by omega
        subst hkl
        go_wp2_with fail
        go_ret
        exact ⟨rfl, hB4⟩
  · have hr : (vcode a b != 0) = true := by simp [h0]
    have h0H := Lib.hid h0
    clear h0
    go_enter Try.func5, Try.ntmps5
    go_wp2_with fail
    refine (vjoin_no A1 A2 c1 c2 a b _ h1 h2 hs1 hs2 h0H.out).mono ?_
    rintro e w1 ⟨rfl, hB1⟩
    go_wp2_with fail
    refine (rvcheck_any A1 A2 c1 c2 a b _ ((h1.below hB1).more hB1.size) ((h2.below hB1).more hB1.size) hs1 hs2).mono ?_
    rintro e w2 ⟨rfl, hB2'⟩
    have hB2 := hB1.trans (hB2'.mono hB1.size)
    go_wp2_with fail
    go_ret
    exact ⟨by simp, hB2⟩

#print axioms vectorJoins_law
end Go.Proofs.Ytngagfoikpjpmaa
