/-
  The contract of (*network).receive of package echo.
-/
import Derived.Test.YtjmkmfeibempjaaNtk
import Derived.Test.YtjmkmfeibempjaaNdl
namespace Go.Proofs.Ytjmkmfeibempjaa
open Go.RowKit Go.Maps
set_option linter.unusedVariables false

/-- What is asked of a network that receives. -/
structure Mild (n s : Nat) (nb : Nat → List Nat) (S : ES) : Prop where
  msg : ∀ m ∈ S.way, m.1 < n ∧ m.2 < n
  nbl : ∀ i, (nb i).length ≤ 100
  took : ∀ i, S.took i ≤ 1000
  par : ∀ t, t ≠ s → 0 < S.took t → ∃ p : Nat, S.par t = (p : Int)
  way : S.way.length ≤ 700
  sent : S.sent ≤ 700
  six : n ≤ 6

theorem cellE_lt {w : World} {a : Addr} {v : Value} (h : w.cell? a = some v) : a.block < w.heap.size := by
  rcases Nat.lt_or_ge a.block w.heap.size with h1 | h1
  · exact h1
  · unfold World.cell? at h
    rw [Array.getElem?_eq_none h1] at h
    cases h
theorem OwnM.at_ {w : World} {B cap : Nat} {A : Option Addr} {l : List (Nat × Nat)} (h : OwnM w B (.slice A l.length cap) l) {k : Nat} (hk : k < l.length) : ∃ g, A = some ⟨g, 0, none⟩ ∧ g < w.heap.size ∧ w.cell? ⟨g, k * 2, none⟩ = some (.int .i64 (l[k].1 : Int)) ∧ w.cell? ⟨g, k * 2 + 1, none⟩ = some (.int .i64 (l[k].2 : Int)) := by
  obtain ⟨A', cap', hv, _, _, hc⟩ := h.shape
  injection hv with e1 e2 e3
  subst e1
  obtain ⟨g, rfl, c0, c1⟩ := hc k hk
  exact ⟨g, rfl, cellE_lt c0, c0, c1⟩

def RecRes (w : World) (B N P n s : Nat) (nv : Nat → Value) (nb : Nat → List Nat) (S : ES) (x : Int) (e : Ending) (w' : World) : Prop := e = .returned (.int .i64 (S.code x)) ∧ Net w' B N P n s nv nb (S.step nb s x) ∧ BE B w w'

set_option maxHeartbeats 3200000 in
theorem receive_any (w : World) (B N P n s : Nat) (nv : Nat → Value) (nb : Nat → List Nat) (S : ES) (h : Net w B N P n s nv nb S) (hm : Mild n s nb S) (x : Int) (hx : I64 x) :
    Calls Try.prog 19 #[.pointer (some ⟨N, 0, none⟩), .int .i64 x] w (RecRes w B N P n s nv nb S x) := by
  have hRes : ∃ R, R = RecRes w B N P n s nv nb S x := ⟨_, rfl⟩
  obtain ⟨R, hR⟩ := hRes
  rw [← hR]
  have hRH := Lib.hid hR
  clear hR
  have hno : Hid (inWay S x ≠ true → R (.returned (.int .i64 4)) w) := by
    intro hin
    rw [hRH.out]
    refine ⟨by unfold ES.code; rw [if_neg hin], ?_, BE.refl B w⟩
    unfold ES.step; rw [if_neg hin]; exact h
  obtain ⟨tv, hA⟩ := h
  obtain ⟨A9, cap9, hv9, hc91, hc92, -⟩ := hA.tra.shape
  subst hv9
  obtain ⟨s0, s1, s2, s3⟩ := hA.cells
  by_cases hneg : x < 0
  · have v1 : decide (x < 0) = true := decide_eq_true hneg
    have hfin := Lib.hid (hno.out (by unfold inWay; simp; omega))
    clear hA hno hRH hm hneg
    go_enter Try.func19, Try.ntmps19
    go_wp2_with fail
    exact hfin.out
  · have v1 : decide (x < 0) = false := decide_eq_false hneg
    by_cases hge : (S.way.length : Int) ≤ x
    · have v2 : decide (x ≥ (S.way.length : Int)) = true := decide_eq_true hge
      have v2' : decide ((S.way.length : Int) ≤ x) = true := decide_eq_true hge
      have hfin := Lib.hid (hno.out (by unfold inWay; simp; omega))
      clear hA hno hRH hm
      generalize S.way.length = L at *
      go_enter Try.func19, Try.ntmps19
      go_wp2_with fail
      exact hfin.out
    · have v2 : decide (x ≥ (S.way.length : Int)) = false := decide_eq_false hge
      have v2' : decide ((S.way.length : Int) ≤ x) = false := decide_eq_false hge
      obtain ⟨k, rfl⟩ : ∃ k : Nat, x = (k : Int) := ⟨x.toNat, by omega⟩
      have hk : k < S.way.length := by omega
      have hkI : (k : Int) < (S.way.length : Int) := by omega
      have hin : inWay S (k : Int) = true := by unfold inWay; simp; omega
      obtain ⟨g, rfl, hgl, c0, c1⟩ := hA.tra.at_ hk
      have hmsg := hm.msg S.way[k] (List.getElem_mem hk)
      have hstep : Hid (S.step nb s (k : Int) = ES.take ⟨S.took, S.par, S.way.take k ++ S.way.drop (k + 1), S.sent⟩ nb s S.way[k].1 S.way[k].2) := by
        unfold Hid ES.step
        rw [if_pos hin, Int.toNat_natCast, ES.recv]
        simp [hk]
      have hcode : Hid (S.code (k : Int) = 0) := by unfold Hid ES.code; rw [if_pos hin]
      obtain ⟨f, t, hft⟩ : ∃ f t, S.way[k] = (f, t) := ⟨_, _, rfl⟩
      rw [hft] at c0 c1 hmsg hstep
      simp only at c0 c1 hmsg
      have hlen : (S.way.take k ++ S.way.drop (k + 1)).length ≤ 700 := by have := hm.way; simp; omega
      have hAa := hA.alloc (.cells #[.int .i64 (f : Int), .int .i64 (t : Int)] 65)
      have hBa := (BE.refl B w).alloc hA.sz (.cells #[.int .i64 (f : Int), .int .i64 (t : Int)] 65)
      have hrow := Row.made w 65 [.int .i64 (f : Int), .int .i64 (t : Int)]
      have hwsz : g ≠ w.heap.size := by omega
      have hwr : IntKind.i64.wrap ((k : Int) + 1) = (k : Int) + 1 := by rw [IntKind.wrap_i64]; have := hm.way; omega
      have hdel := Lib.hid (delM_any _ B _ S.way k hAa.tra hk)
      obtain ⟨z0, z1, z2, z3⟩ := hAa.cells
      have hAH := Lib.hid hAa
      have hBH := Lib.hid hBa
      have hrowH := Lib.hid hrow
      have hmH := Lib.hid hm
      clear hno hge hneg hin hA hAa hBa hrow hm hft
      go_enter Try.func19, Try.ntmps19
      go_wp2_with fail
      refine hdel.out.mono ?_
      rintro e w1 ⟨v', rfl, hown, hgr, hob⟩
      obtain ⟨A1, cap1, hv1, -⟩ := hown.shape
      generalize hl9 : (S.way.take k ++ S.way.drop (k + 1)).length = L9 at hv1
      subst hv1
      have hN1 := Lib.hid (hAH.out.setT hown hgr)
      have hneN : (Value.slice (some ⟨g, 0, none⟩) S.way.length cap9).ownBlock ≠ some N := owns_ne_row hAH.out.tra hAH.out.top (by decide)
      have x1 := hAH.out.top.grown hgr (fun e => hneN e.symm)
      have y2 := (hAH.out.top.grown hgr (fun e => hneN e.symm)).cell (i := 2) (by simp)
      have ff2 := x1.frozen 2
      have hr1 := hrowH.out.grown hgr (by show some w.heap.size ≠ some g; simp; omega)
      have hlN := hAH.out.lowN
      have hnN : w.heap.size ≠ N := row_ne hrowH.out hAH.out.top (by decide)
      have hr2 := hr1.far (p := ⟨N, 2, none⟩) hnN (.slice A1 L9 cap1)
      have m0 := hr2.cell (i := 0) (by simp)
      have m1 := hr2.cell (i := 1) (by simp)
      simp only [List.getElem_cons_zero, List.getElem_cons_succ] at m0 m1 y2
      have hB1 := Lib.hid ((hBH.out.grownM hgr hAH.out.tra (by have := hAH.out.sz; exact this)).setRow (p := ⟨N, 2, none⟩) x1 (by decide) hlN (.slice A1 L9 cap1))
      have hcall := Lib.hid (take_any _ B N P n s nv nb _ ⟨_, hN1.out⟩ f t hmsg.2 hmsg.1 hmH.out.six (hmH.out.nbl t) hlen hmH.out.sent (hmH.out.took t) (hmH.out.par t))
      clear hown hgr hob hneN x1 hr1 hr2 hdel hAH hBH hrowH hmH
      go_wp2_with fail
      refine hcall.out.mono ?_
      rintro e w2 ⟨rfl, hN2, hB2⟩
      have hfin : Hid (R (.returned (.int .i64 0)) w2) := by
        unfold Hid
        rw [hRH.out]
        refine ⟨by rw [hcode.out], ?_, hB1.out.trans hB2⟩
        rw [hstep.out]; exact hN2
      clear hN2 hB2 hcall hN1 hB1
      go_wp2_with fail
      exact hfin.out
#print axioms receive_any
end Go.Proofs.Ytjmkmfeibempjaa
