/-
  The walk of the law TokenFew: how many messages are sent.
-/
import Derived.Test.YtejckoffllhjcaaKcm
import Derived.Test.YtejckoffllhjcaaKfy
namespace Go.Proofs.Ytejckoffllhjcaa
open Go.RowKit Go.Maps
set_option linter.unusedVariables false

set_option maxHeartbeats 1000000 in
theorem kfew_no (w : World) (A0 : Option Addr) (cap0 : Nat) (ul : List Int) (hE0 : Nums w w.heap.size A0 ul) (hl0 : ul.length ≤ maxLen) (A : Option Addr) (cap : Nat) (l : List Mv) (hl : l.length ≤ maxLen) (h0 : checkK ul l.length ≠ 0) :
    Calls Try.prog 6 #[.slice A0 ul.length cap0, .slice A l.length cap] w fun e w' => e = .returned (.bool true) ∧ Below w.heap.size w w' := by
  have hp := Lib.hid (play_no A0 cap0 ul A cap l.length w hE0 hl0 hl h0)
  have htr := Lib.hid (fun (w2 : World) (hE2 : Nums w2 w2.heap.size A0 ul) => treed_no (cap := cap0) hE2 hl0 h0)
  have hcb : (checkK ul l.length != 0) = true := by rw [bne_iff_ne]; exact h0
  have hEH := Lib.hid hE0
  generalize checkK ul l.length = c at *
  clear h0 hE0
  unfold noVal at hp
  go_enter Try.func6, Try.ntmps6
  go_wp2_with fail
  refine hp.out.mono ?_
  rintro e w1 ⟨rfl, hB1⟩
  have hB2 := hB1.alloc hB1.size (.cells #[.slice none 0 0, .int .u32 0, .int .u32 0, .int .i64 0] 27)
  have ht := Lib.hid (htr.out _ ((hEH.out.below hB2).more hB2.size))
  clear hB1 htr hp
  go_wp2_with fail
  refine ht.out.mono ?_
  rintro e w5 ⟨rfl, rfl⟩
  go_wp2_with fail
  go_ret
  exact ⟨rfl, hB2⟩

def FwRel (w5 : World) (wr : World) : Prop := Below w5.heap.size w5 wr
theorem mul_le60 {a : Int} {m : Nat} (h0 : 0 ≤ a) (h1 : a ≤ 20) (hm : m ≤ 60) : 0 ≤ a * (m : Int) ∧ a * (m : Int) ≤ 1200 := by
  constructor
  · exact Int.mul_nonneg h0 (by omega)
  · have h2 : a * (m : Int) ≤ 20 * (m : Int) := Int.mul_le_mul_of_nonneg_right h1 (by omega)
    omega

set_option maxHeartbeats 4000000 in
set_option maxRecDepth 100000 in
theorem kfew_ok (w : World) (A0 : Option Addr) (cap0 : Nat) (ul : List Int) (hE0 : Nums w w.heap.size A0 ul) (hl0 : ul.length ≤ maxLen) (A : Option Addr) (cap : Nat) (l : List Mv) (hE : Mvs w w.heap.size A l) (hF : MFits l) (hl : l.length ≤ maxLen) (h0 : checkK ul l.length = 0) :
    Calls Try.prog 6 #[.slice A0 ul.length cap0, .slice A l.length cap] w fun e w' => e = .returned (.bool true) ∧ Below w.heap.size w w' := by
  have hp := Lib.hid (play_ok A0 cap0 ul A cap l w hE0 hl0 hE hF hl h0)
  have htr := Lib.hid (fun (w2 : World) (hE2 : Nums w2 w2.heap.size A0 ul) => treed_yes (cap := cap0) hE2 hl0 h0)
  obtain ⟨h1, h2, h3, hrb, htb⟩ := checkK_ok h0
  have hP := PInv.at_ (PInv.begin (KInv.tree hrb htb) (RInv.begin (itU (upN ul)) (fun _ => rfl) (fun _ _ => rfl) (treeB_iff.1 htb).1)) l l.length
  have hfb : Hid ((tooksK ul.length (upN ul) l l.length : Int) + wayK ul.length (kAt ul.length (upN ul) l l.length) ≤ 4 * ((ul.length : Int) - 1) * (wantsK ul.length (upN ul) l l.length : Int)) := hP.bound h1
  have hl0' : Hid (0 ≤ wayK ul.length (kAt ul.length (upN ul) l l.length)) := wayK_nonneg _ _
  have hzr : Hid ((wantsK ul.length (upN ul) l l.length : Int) = 0 → wordB ul.length (kAt ul.length (upN ul) l l.length).ins = 0 ∧ wordB ul.length (wantB (kAt ul.length (upN ul) l l.length)) = 0) := fun h => by
    obtain ⟨z1, z2, z3, _⟩ := hP.zero h
    refine ⟨(wordB_zero _ _).2 fun i _ => z3 i, (wordB_zero _ _).2 fun i _ => ?_⟩
    unfold wantB
    rw [z1]; simp
  have hEH := Lib.hid hE
  have hUH := Lib.hid hE0
  have h60 : l.length ≤ 60 := h3
  clear h0 hE hF hE0 hrb htb hP h3
  unfold PlkRes at hp
  generalize hu : upN ul = pf at *
  clear hu
  have hn : ul.length ≤ 6 := h2
  have hn1 : 1 ≤ ul.length := h1
  clear h1 h2
  go_enter Try.func6, Try.ntmps6
  go_wp2_with fail
  refine hp.out.mono ?_
  rintro e w1 ⟨gc, rfl, hO1, hgc1, hB1⟩
  unfold ttVal
  generalize wordB ul.length (kAt ul.length pf l l.length).ins = V at *
  generalize wordB ul.length (wantB (kAt ul.length pf l l.length)) = W at *
  generalize wayK ul.length (kAt ul.length pf l l.length) = y at *
  have hR2 := Row.made w1 27 [.slice (some ⟨gc, 0, none⟩) l.length l.length, .int .u32 (V : Int), .int .u32 (W : Int), .int .i64 y]
  have hO2 := Row.alloc hO1 (.cells #[.slice (some ⟨gc, 0, none⟩) l.length l.length, .int .u32 (V : Int), .int .u32 (W : Int), .int .i64 y] 27)
  have hB2 := hB1.alloc hB1.size (.cells #[.slice (some ⟨gc, 0, none⟩) l.length l.length, .int .u32 (V : Int), .int .u32 (W : Int), .int .i64 y] 27)
  have ht := Lib.hid (htr.out _ ((hUH.out.below hB2).more hB2.size))
  clear hB1 hO1 hgc1 hp htr
  go_wp2_with fail
  generalize w1.alloc (.cells #[.slice (some ⟨gc, 0, none⟩) l.length l.length, .int .u32 (V : Int), .int .u32 (W : Int), .int .i64 y] 27) = w2 at *
  generalize w1.heap.size = b1 at *
  refine ht.out.mono ?_
  rintro e w5 ⟨rfl, rfl⟩
  have ll : ((l.length : Int) != (l.length : Int)) = false := by simp
  have y0 := hR2.cell (i := 0) (by simp)
  simp only [List.getElem_cons_zero] at y0
  go_wp2_with fail
  have hE5 := Lib.hid ((hEH.out.below hB2).more hB2.size)
  have hR2H := Lib.hid hR2
  have hO2H := Lib.hid hO2
  have hB2H := Lib.hid hB2
  clear hR2 hO2 hB2 y0 ll ht
  go_loopw [36, 7, 8, 9, 10] (fun t u v _ _ wr => ∃ k : Nat, k ≤ l.length ∧ t = .int .i64 k ∧ u = .int .i64 (wantsK ul.length pf l k : Int) ∧ v = .int .i64 (tooksK ul.length pf l k : Int) ∧ FwRel w2 wr) (fun t _ _ _ _ _ => l.length - (intOf t).toNat)
  case atStart => exact ⟨0, Nat.zero_le _, rfl, rfl, rfl, Below.refl _ _⟩
  case round =>
    obtain ⟨k, hk, rfl, rfl, rfl, hB⟩ := hrel
    unfold FwRel at hB
    have hwt := wantsK_le ul.length pf l k
    obtain ⟨hwt1, hwt2⟩ := hwt
    have hRr := hR2H.out.below hB hR2H.out.lt
    have y0 := hRr.cell (i := 0) (by simp)
    have y3 := hRr.cell (i := 3) (by simp)
    simp only [List.getElem_cons_zero, List.getElem_cons_succ] at y0 y3
    by_cases hlt : k < l.length
    · have hkI : (k : Int) < (l.length : Int) := by omega
      obtain ⟨b, off, rfl, hb, hc⟩ := (hE5.out.below hB) (by omega)
      obtain ⟨c0, c1, c2, c3⟩ := hc k hlt
      clear hc
      rw [mv_get l hlt] at c0 c1 c2 c3
      have hOr : CodRow wr gc l.length (codeK ul.length pf l) := Row.below hO2H.out hB (Row.lt hO2H.out)
      have x1 := CodRow.at_ hOr hlt
      have x2 : ∀ o, (wr.alloc o).cell? ⟨gc, k, none⟩ = some (.int .i64 (codeK ul.length pf l k)) := fun o => CodRow.at_ (Row.alloc hOr o) hlt
      have y0' : ∀ o, (wr.alloc o).cell? ⟨b1, 0, none⟩ = some (.slice (some ⟨gc, 0, none⟩) l.length l.length) := fun o => (hRr.alloc o).cell (i := 0) (by simp)
      have hw1 : Hid (wantsK ul.length pf l (k + 1) = wantsK ul.length pf l k + if codeK ul.length pf l k = 0 ∧ (mv l k).k = 1 then 1 else 0) := rfl
      have ht1 : Hid (tooksK ul.length pf l (k + 1) = tooksK ul.length pf l k + if codeK ul.length pf l k = 0 ∧ (mv l k).k = 2 then 1 else 0) := rfl
      generalize codeK ul.length pf l k = cd at *
      generalize mv l k = m at *
      obtain ⟨mk, mf, mt, mv'⟩ := m
      simp only at c0 c1 c2 c3 hw1 ht1
      have hBa := Lib.hid (hB.alloc hB.size (.cells #[.int .i64 mk, .int .i64 mf, .int .i64 mt, .int .i64 mv'] 40))
      clear hB hOr hRr
      generalize wantsK ul.length pf l k = u at *
      generalize tooksK ul.length pf l k = v at *
      by_cases hcd : cd = 0
      · subst hcd
        by_cases h1 : mk = 1
        · have e1 : Hid (wantsK ul.length pf l (k + 1) = u + 1) := by unfold Hid; rw [hw1.out, if_pos ⟨rfl, h1⟩]
          have e2 : Hid (tooksK ul.length pf l (k + 1) = v) := by unfold Hid; rw [ht1.out, if_neg (fun h => by have := h.2; omega)]; omega
          subst h1
          clear hw1 ht1
          go_wp2_with fail
          go_roundw
          case rel => exact ⟨k + 1, by omega, by go_num, by rw [e1.out]; go_num, by rw [e2.out], hBa.out⟩
          case measure => simp [intOf]; omega
        · by_cases h2 : mk = 2
          · have e1 : Hid (wantsK ul.length pf l (k + 1) = u) := by unfold Hid; rw [hw1.out, if_neg (fun h => h1 h.2)]; omega
            have e2 : Hid (tooksK ul.length pf l (k + 1) = v + 1) := by unfold Hid; rw [ht1.out, if_pos ⟨rfl, h2⟩]
            subst h2
            clear hw1 ht1 h1
            go_wp2_with fail
            go_roundw
            case rel => exact ⟨k + 1, by omega, by go_num, by rw [e1.out], by rw [e2.out]; go_num, hBa.out⟩
            case measure => simp [intOf]; omega
          · have e1 : Hid (wantsK ul.length pf l (k + 1) = u) := by unfold Hid; rw [hw1.out, if_neg (fun h => h1 h.2)]; omega
            have e2 : Hid (tooksK ul.length pf l (k + 1) = v) := by unfold Hid; rw [ht1.out, if_neg (fun h => h2 h.2)]; omega
            have k1 : (mk == 1) = false := by simpa using h1
            have k2 : (mk == 2) = false := by simpa using h2
            clear hw1 ht1 h1 h2
            go_wp2_with fail
            go_roundw
            case rel => exact ⟨k + 1, by omega, by go_num, by rw [e1.out], by rw [e2.out], hBa.out⟩
            case measure => simp [intOf]; omega
      · have e1 : Hid (wantsK ul.length pf l (k + 1) = u) := by unfold Hid; rw [hw1.out, if_neg (fun h => hcd h.1)]; omega
        have e2 : Hid (tooksK ul.length pf l (k + 1) = v) := by unfold Hid; rw [ht1.out, if_neg (fun h => hcd h.1)]; omega
        have k1 : (cd != 0) = true := by simpa using hcd
        clear hw1 ht1 hcd
        go_wp2_with fail
        go_roundw
        case rel => exact ⟨k + 1, by omega, by go_num, by rw [e1.out], by rw [e2.out], hBa.out⟩
        case measure => simp [intOf]; omega
    · have hkl : k = l.length := by omega
      rw [hkl] at hwt1 hwt2 hlt hk
      subst hkl
      have f1 := hfb.out
      have hy0 := hl0'.out
      have hBz := Lib.hid (hB2H.out.trans (hB.mono hB2H.out.size))
      have y1 := hRr.cell (i := 1) (by simp)
      have y2 := hRr.cell (i := 2) (by simp)
      simp only [List.getElem_cons_zero, List.getElem_cons_succ] at y1 y2
      have hz := Lib.hid hzr.out
      clear hB hRr hzr hfb
      generalize wantsK ul.length pf l l.length = uu at *
      generalize tooksK ul.length pf l l.length = vv at *
      generalize ul.length = n at *
      obtain ⟨m1, m2⟩ := mul_le60 (a := 4 * ((n : Int) - 1)) (m := uu) (by omega) (by omega) (by omega)
      by_cases e1 : n = 1
      · have e0 : y = 0 := by
          rw [e1] at f1
          simp at f1
          omega
        subst e0
        have e2 : ¬ (1 : Int) < (n : Int) := by omega
        clear e1
        by_cases e3 : uu = 0
        · obtain ⟨z1, z2⟩ := hz.out (by omega)
          subst z1 z2
          have e4 : ¬ (0 : Int) < (uu : Int) := by omega
          clear e3 hz
          go_wp2_with fail
          go_ret
          exact ⟨rfl, hBz.out⟩
        · have e4 : (0 : Int) < (uu : Int) := by omega
          clear e3 hz
          go_wp2_with fail
          go_ret
          exact ⟨rfl, hBz.out⟩
      · have e2 : (1 : Int) < (n : Int) := by omega
        clear e1
        by_cases e3 : uu = 0
        · obtain ⟨z1, z2⟩ := hz.out (by omega)
          subst z1 z2
          have e4 : ¬ (0 : Int) < (uu : Int) := by omega
          clear e3 hz
          go_wp2_with fail
          go_ret
          exact ⟨rfl, hBz.out⟩
        · have e4 : (0 : Int) < (uu : Int) := by omega
          clear e3 hz
          go_wp2_with fail
          go_ret
          exact ⟨rfl, hBz.out⟩

theorem tokenFew_law (w : World) (A0 : Option Addr) (cap0 : Nat) (ul : List Int) (hE0 : Nums w w.heap.size A0 ul) (hF0 : NumFits ul) (hc0 : ul.length ≤ cap0) (hl0 : ul.length ≤ maxLen) (hs0 : ul.length ≤ 17592186044416)
    (A : Option Addr) (cap : Nat) (l : List Mv) (hE : Mvs w w.heap.size A l) (hF : MFits l) (hcap : l.length ≤ cap) (hl : l.length ≤ maxLen) (hs : l.length ≤ 17592186044416) :
    Calls Try.prog 6 #[.slice A0 ul.length cap0, .slice A l.length cap] w fun e w' => e = .returned (.bool true) ∧ Below w.heap.size w w' := by
  by_cases h0 : checkK ul l.length = 0
  · exact kfew_ok w A0 cap0 ul hE0 hl0 A cap l hE hF hl h0
  · exact kfew_no w A0 cap0 ul hE0 hl0 A cap l hl h0

#print axioms tokenFew_law
end Go.Proofs.Ytejckoffllhjcaa
