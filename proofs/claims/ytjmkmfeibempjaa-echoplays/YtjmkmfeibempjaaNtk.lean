/-
  The contract of (*network).take of package echo.
-/
import Derived.Test.YtjmkmfeibempjaaNsd
namespace Go.Proofs.Ytjmkmfeibempjaa
open Go.RowKit Go.Maps
set_option linter.unusedVariables false

theorem Net.cells {w : World} {B N P n s : Nat} {nv : Nat → Value} {nb : Nat → List Nat} {S : ES} (h : Net w B N P n s nv nb S) {i : Nat} (hi : i < n) : w.cell? ⟨N, 0, none⟩ = some (.slice (some ⟨P, 0, none⟩) n n) ∧ w.cell? ⟨N, 1, none⟩ = some (.int .i64 (s : Int)) ∧ w.cell? ⟨P, i * 3 + 1, none⟩ = some (.int .i64 (S.par i)) ∧ w.cell? ⟨P, i * 3 + 2, none⟩ = some (.int .i64 (S.took i : Int)) ∧ w.frozen? ⟨P, i * 3 + 1, none⟩ = false ∧ w.frozen? ⟨P, i * 3 + 2, none⟩ = false := by
  obtain ⟨tv, h⟩ := h
  exact ⟨h.cells.1, h.cells.2.1, (h.prc.cells hi).2.1, (h.prc.cells hi).2.2, h.prc.frozen _, h.prc.frozen _⟩
theorem Net.setTook {w : World} {B N P n s : Nat} {nv : Nat → Value} {nb : Nat → List Nat} {S : ES} (h : Net w B N P n s nv nb S) {i : Nat} (hi : i < n) (v : Nat) : Net (w.setCell ⟨P, i * 3 + 2, none⟩ (.int .i64 (v : Int))) B N P n s nv nb ⟨upN S.took i v, S.par, S.way, S.sent⟩ ∧ BE B w (w.setCell ⟨P, i * 3 + 2, none⟩ (.int .i64 (v : Int))) := by
  obtain ⟨tv, h⟩ := h
  obtain ⟨xs, hP, _⟩ := h.prc
  exact ⟨⟨tv, h.setTook hi v⟩, (BE.refl B w).setRow (p := ⟨P, i * 3 + 2, none⟩) hP (by decide) h.lowP _⟩
theorem Net.setPar {w : World} {B N P n s : Nat} {nv : Nat → Value} {nb : Nat → List Nat} {S : ES} (h : Net w B N P n s nv nb S) {i : Nat} (hi : i < n) (v : Int) : Net (w.setCell ⟨P, i * 3 + 1, none⟩ (.int .i64 v)) B N P n s nv nb ⟨S.took, upZ S.par i v, S.way, S.sent⟩ ∧ BE B w (w.setCell ⟨P, i * 3 + 1, none⟩ (.int .i64 v)) := by
  obtain ⟨tv, h⟩ := h
  obtain ⟨xs, hP, _⟩ := h.prc
  exact ⟨⟨tv, h.setPar hi v⟩, (BE.refl B w).setRow (p := ⟨P, i * 3 + 1, none⟩) hP (by decide) h.lowP _⟩
theorem Net.sz {w : World} {B N P n s : Nat} {nv : Nat → Value} {nb : Nat → List Nat} {S : ES} (h : Net w B N P n s nv nb S) : B ≤ w.heap.size := by obtain ⟨tv, h⟩ := h; exact h.sz

def TakRes (w : World) (B N P n s : Nat) (nv : Nat → Value) (nb : Nat → List Nat) (S : ES) (e : Ending) (w' : World) : Prop := e = .returned (.tuple #[]) ∧ Net w' B N P n s nv nb S ∧ BE B w w'

set_option maxHeartbeats 3200000 in
theorem take_any (w : World) (B N P n s : Nat) (nv : Nat → Value) (nb : Nat → List Nat) (S : ES) (h : Net w B N P n s nv nb S) (f t : Nat) (ht : t < n) (hf : f < n) (hn : n ≤ 6) (hq : (nb t).length ≤ 100) (hl : S.way.length ≤ 700) (hsn : S.sent ≤ 700) (htk : S.took t ≤ 1000)
    (hpar : t ≠ s → 0 < S.took t → ∃ p : Nat, S.par t = (p : Int)) :
    Calls Try.prog 31 #[.pointer (some ⟨N, 0, none⟩), .int .i64 (f : Int), .int .i64 (t : Int)] w (TakRes w B N P n s nv nb (S.take nb s f t)) := by
  obtain ⟨s0, s1, p1, p2, f1, f2⟩ := h.cells ht
  have htI : (t : Int) < (n : Int) := by omega
  obtain ⟨hN1, hB1⟩ := h.setTook ht (S.took t + 1)
  obtain ⟨a0, a1, q1, q2, g1, g2⟩ := hN1.cells ht
  simp only at q1 q2
  rw [upN_same] at q2
  have hRes : ∃ R, R = TakRes w B N P n s nv nb (S.take nb s f t) := ⟨_, rfl⟩
  obtain ⟨R, hR⟩ := hRes
  rw [← hR]
  have hRH := Lib.hid hR
  clear hR
  by_cases hts : t = s
  · have v1 : ((t : Int) == (s : Int)) = true := by simp [hts]
    have hfin : Hid (R (.returned (.tuple #[])) (w.setCell ⟨P, t * 3 + 2, none⟩ (.int .i64 ((S.took t + 1 : Nat) : Int)))) := by
      unfold Hid
      rw [hRH.out]
      refine ⟨rfl, ?_, hB1⟩
      rw [ES.take, if_pos hts]
      exact hN1
    clear hts hN1 hB1 h hRH hpar
    generalize S.took t = k at *
    generalize S.par t = p at *
    go_enter Try.func31, Try.ntmps31
    go_wp2_with fail
    (try simp only [Exit.inBlock, Exit.then])
    first
      | (go_end0; exact hfin.out)
      | exact bodyPost_ret (results_none rfl _ _ _) rfl hfin.out
  · have v1 : ((t : Int) == (s : Int)) = false := by simp; omega
    by_cases h0 : S.took t = 0
    · have v2 : (((S.took t + 1 : Nat) : Int) == 1) = true := by simp [h0]
      obtain ⟨hN2, hB2⟩ := hN1.setPar ht (f : Int)
      have hres : Hid (S.take nb s f t = (ES.spread ⟨upN S.took t (S.took t + 1), upZ S.par t f, S.way, S.sent⟩ t (nb t)).back (nb t).length t) := by
        unfold Hid
        rw [ES.take, if_neg hts, if_pos h0, h0]
      have hcall := Lib.hid (spread_any _ B N P n s nv nb _ hN2 t ht hq (by show S.way.length ≤ 800; omega) (by show S.sent ≤ 800; omega))
      have hB2H := Lib.hid (hB1.trans hB2)
      have hT1 : Hid ((ES.spread ⟨upN S.took t (S.took t + 1), upZ S.par t f, S.way, S.sent⟩ t (nb t)).par t = (f : Int)) := upZ_same _ _ _
      have hT2 := Lib.hid (spread_len ⟨upN S.took t (S.took t + 1), upZ S.par t f, S.way, S.sent⟩ t (nb t))
      clear hN1 hN2 hB1 hB2 h hpar hts h0
      simp only at hcall
      generalize ES.spread ⟨upN S.took t (S.took t + 1), upZ S.par t f, S.way, S.sent⟩ t (nb t) = T at *
      generalize S.took t = k at *
      generalize S.par t = p at *
      go_enter Try.func31, Try.ntmps31
      go_wp2_with fail
      refine hcall.out.mono ?_
      rintro e w3 ⟨rfl, hN3, hK3⟩
      have hB3 := Lib.hid (hB2H.out.trans hK3.be)
      have hN3H := Lib.hid hN3
      have hsz3 := hN3.sz
      clear hN3 hK3 hcall hB2H
      go_wp2_with fail
      refine (complete_any w3 B N P n s nv nb T hN3H.out t ht).mono ?_
      rintro e w4 ⟨rfl, hB4⟩
      have hN4H := Lib.hid (hN3H.out.below hB4)
      have hB5 : Hid (BE B w w4) := ⟨hB3.out.low.trans (hB4.mono hsz3), fun g xs hg => (hB3.out.err g xs hg).below hB4 (Row.lt (hB3.out.err g xs hg))⟩
      clear hN3H hB3 hB4
      obtain ⟨b0, b1, r1, r2, _, _⟩ := hN4H.out.cells ht
      rw [hT1.out] at r1
      by_cases hc : T.took t = (nb t).length
      · have hcd : decide (T.took t = (nb t).length) = true := decide_eq_true hc
        have hbk : Hid (T.back (nb t).length t = T.send t f) := by unfold Hid; rw [ES.back, if_pos hc, hT1.out]; rfl
        have hlen : T.way.length ≤ S.way.length + (nb t).length ∧ T.sent ≤ S.sent + (nb t).length := hT2.out
        have hcall := Lib.hid (send_any w4 B N P n s nv nb T hN4H.out t f (by omega) (by omega))
        clear hN4H hc
        rw [hcd]
        go_wp2_with fail
        refine hcall.out.mono ?_
        rintro e w5 ⟨rfl, hN5, hK5⟩
        have hfin : Hid (R (.returned (.tuple #[])) w5) := by
          unfold Hid
          rw [hRH.out]
          refine ⟨rfl, ?_, hB5.out.trans hK5.be⟩
          rw [hres.out, hbk.out]
          exact hN5
        clear hN5 hK5 hcall
        go_wp2_with fail
        go_end0
        exact hfin.out
      · have hcd : decide (T.took t = (nb t).length) = false := decide_eq_false hc
        have hfin : Hid (R (.returned (.tuple #[])) w4) := by
          unfold Hid
          rw [hRH.out]
          refine ⟨rfl, ?_, hB5.out⟩
          rw [hres.out, ES.back, if_neg hc]
          exact hN4H.out
        clear hN4H hc
        rw [hcd]
        go_wp2_with fail
        go_end0
        exact hfin.out
    · have v2 : (((S.took t + 1 : Nat) : Int) == 1) = false := by simp; omega
      obtain ⟨p, hp⟩ := hpar hts (by omega)
      have hres : Hid (S.take nb s f t = (ES.mk (upN S.took t (S.took t + 1)) S.par S.way S.sent).back (nb t).length t) := by
        unfold Hid
        rw [ES.take, if_neg hts, if_neg h0]
      have hN1H := Lib.hid hN1
      have hB1H := Lib.hid hB1
      have hsz1 := hN1.sz
      have hT1 : Hid ((ES.mk (upN S.took t (S.took t + 1)) S.par S.way S.sent).par t = (p : Int)) := hp
      have hT2 : Hid ((ES.mk (upN S.took t (S.took t + 1)) S.par S.way S.sent).way.length ≤ 800 ∧ (ES.mk (upN S.took t (S.took t + 1)) S.par S.way S.sent).sent ≤ 800) := ⟨by show S.way.length ≤ 800; omega, by show S.sent ≤ 800; omega⟩
      clear hN1 hB1 h hpar hts h0 hp
      generalize ES.mk (upN S.took t (S.took t + 1)) S.par S.way S.sent = T at *
      generalize S.took t = k at *
      generalize S.par t = p' at *
      go_enter Try.func31, Try.ntmps31
      go_wp2_with fail
      refine (complete_any _ B N P n s nv nb T hN1H.out t ht).mono ?_
      rintro e w4 ⟨rfl, hB4⟩
      have hN4H := Lib.hid (hN1H.out.below hB4)
      have hB5 : Hid (BE B w w4) := ⟨hB1H.out.low.trans (hB4.mono hsz1), fun g xs hg => (hB1H.out.err g xs hg).below hB4 (Row.lt (hB1H.out.err g xs hg))⟩
      clear hN1H hB1H hB4
      obtain ⟨b0, b1, r1, r2, _, _⟩ := hN4H.out.cells ht
      rw [hT1.out] at r1
      by_cases hc : T.took t = (nb t).length
      · have hcd : decide (T.took t = (nb t).length) = true := decide_eq_true hc
        have hbk : Hid (T.back (nb t).length t = T.send t p) := by unfold Hid; rw [ES.back, if_pos hc, hT1.out]; rfl
        have hlen := hT2.out
        have hcall := Lib.hid (send_any w4 B N P n s nv nb T hN4H.out t p (by omega) (by omega))
        clear hN4H hc
        rw [hcd]
        go_wp2_with fail
        refine hcall.out.mono ?_
        rintro e w5 ⟨rfl, hN5, hK5⟩
        have hfin : Hid (R (.returned (.tuple #[])) w5) := by
          unfold Hid
          rw [hRH.out]
          refine ⟨rfl, ?_, hB5.out.trans hK5.be⟩
          rw [hres.out, hbk.out]
          exact hN5
        clear hN5 hK5 hcall
        go_wp2_with fail
        go_end0
        exact hfin.out
      · have hcd : decide (T.took t = (nb t).length) = false := decide_eq_false hc
        have hfin : Hid (R (.returned (.tuple #[])) w4) := by
          unfold Hid
          rw [hRH.out]
          refine ⟨rfl, ?_, hB5.out⟩
          rw [hres.out, ES.back, if_neg hc]
          exact hN4H.out
        clear hN4H hc
        rw [hcd]
        go_wp2_with fail
        go_end0
        exact hfin.out
#print axioms take_any
end Go.Proofs.Ytjmkmfeibempjaa
