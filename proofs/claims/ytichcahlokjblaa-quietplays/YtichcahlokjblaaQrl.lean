/-
  The contracts of (*system).has, idle, release, acknowledge, rest of package quiet.
-/
import Derived.Test.YtichcahlokjblaaQsy
import Derived.BigQuiet
import Derived.Deep.QuietTactic
namespace Go.Proofs.Ytichcahlokjblaa
open Go.RowKit Go.Maps
set_option linter.unusedVariables false

set_option maxHeartbeats 800000 in
theorem has_any (w : World) (s n P : Nat) (x : Int) (s0 : w.cell? ⟨s, 0, none⟩ = some (.slice (some ⟨P, 0, none⟩) n n)) (C : Bool) (hC : C = true ↔ (0 ≤ x ∧ x < n)) :
    Calls Try.prog 20 #[.pointer (some ⟨s, 0, none⟩), .int .i64 x] w fun e w' => e = .returned (.bool C) ∧ w = w' := by
  have hCH := Lib.hid hC
  clear hC
  by_cases h1 : 0 ≤ x
  · by_cases h2 : x < n
    · have : C = true := hCH.out.2 ⟨h1, h2⟩
      subst this
      clear hCH
      go_enter Try.func20, Try.ntmps20
      go_wp2_with fail
      go_ret
      exact ⟨rfl, rfl⟩
    · have : C = false := by
        cases C with
        | false => rfl
        | true => exact absurd (hCH.out.1 rfl).2 h2
      subst this
      clear hCH
      go_enter Try.func20, Try.ntmps20
      go_wp2_with fail
      go_ret
      exact ⟨rfl, rfl⟩
  · have : C = false := by
      cases C with
      | false => rfl
      | true => exact absurd (hCH.out.1 rfl).1 h1
    subst this
    clear hCH
    go_enter Try.func20, Try.ntmps20
    go_wp2_with fail
    go_ret
    exact ⟨rfl, rfl⟩

set_option maxHeartbeats 800000 in
theorem idle_any (w : World) (B s P M n c : Nat) (S : QS) (ex : Nat → Int) (hS : SysQ w B s P M n c S ex) (i : Nat) (hi : i < n) (hn : n ≤ 6) (C : Bool) (hC : C = true ↔ (S.act i = false ∧ ex i = 0)) :
    Calls Try.prog 13 #[.pointer (some ⟨s, 0, none⟩), .int .i64 (i : Int)] w fun e w' => e = .returned (.bool C) ∧ Below w.heap.size w w' := by
  obtain ⟨s0, s1⟩ := hS.cells
  obtain ⟨p0, p1, p2, p3⟩ := hS.prs.cells hi
  have hiI : (i : Int) < (n : Int) := by omega
  generalize S.act i = a at *
  generalize S.eng i = g at *
  generalize S.par i = r at *
  generalize ex i = x at *
  have hB1 := (Below.refl w.heap.size w).alloc (Nat.le_refl _) (.cells #[.bool a, .bool g, .int .i64 (r : Int), .int .i64 x] 56)
  have hCH := Lib.hid hC
  clear hS hC
  cases a with
  | true =>
    have : C = false := by
      cases C with
      | false => rfl
      | true => exact absurd (hCH.out.1 rfl).1 (by decide)
    subst this
    clear hCH
    go_enter Try.func13, Try.ntmps13
    go_wp2_with fail
    go_ret
    exact ⟨rfl, hB1⟩
  | false =>
    by_cases hx : x = 0
    · have : C = true := hCH.out.2 ⟨rfl, hx⟩
      subst this
      subst hx
      clear hCH
      go_enter Try.func13, Try.ntmps13
      go_wp2_with fail
      go_ret
      exact ⟨rfl, hB1⟩
    · have : C = false := by
        cases C with
        | false => rfl
        | true => exact absurd (hCH.out.1 rfl).2 hx
      subst this
      have hx1 : (x == 0) = false := by simpa using hx
      clear hCH
      go_enter Try.func13, Try.ntmps13
      go_wp2_with fail
      go_ret
      exact ⟨rfl, hB1⟩

/-- What release leaves. -/
def RelRes (w : World) (B s P M n c : Nat) (T : QS) (e : Ending) (w' : World) : Prop := e = .returned (.tuple #[]) ∧ SysQ w' B s P M n c T (T.exp n) ∧ KQ B P M w w'

set_option maxHeartbeats 800000 in
theorem ack_step (w : World) (B s P M n c : Nat) (T T' : QS) (ex : Nat → Int) (hS : SysQ w B s P M n c T ex) (i : Nat) (hi : i < n) (hn : n ≤ 6) (hex : ∀ a, a < n → ex a = if a = i then T.exp n a + 1 else T.exp n a) (htr : ∀ a b, T.tr a b ≤ 900)
    (hrel : ∀ w1, SysQ w1 B s P M n c T (T.exp n) → Calls Try.prog 24 #[.pointer (some ⟨s, 0, none⟩), .int .i64 (i : Int)] w1 (RelRes w1 B s P M n c T')) :
    Calls Try.prog 25 #[.pointer (some ⟨s, 0, none⟩), .int .i64 (i : Int)] w (RelRes w B s P M n c T') := by
  obtain ⟨s0, s1⟩ := hS.cells
  obtain ⟨p0, p1, p2, p3⟩ := hS.prs.cells hi
  have pf := hS.prs.frozen (i * 4 + 3)
  have hiI : (i : Int) < (n : Int) := by omega
  have hle := QS.exp_le T n i 900 (htr i)
  have h0 := QS.exp_nonneg T n i
  have hexi : ex i = T.exp n i + 1 := by rw [hex i hi, if_pos rfl]
  rw [hexi] at p3
  have hle2 : T.exp n i ≤ 6000 := by
    have : (n : Int) * (((900 : Nat) : Int) + 1) ≤ 6 * 901 := by
      have : (((900 : Nat) : Int) + 1) = 901 := rfl
      rw [this]
      omega
    omega
  have hS2 := hS.setEx hi (T.exp n i)
  have hS3 := hS2.congr (ex' := T.exp n) (fun a ha => by
    by_cases e : a = i
    · subst e; rw [up1_same]
    · rw [up1_other _ _ e, hex a ha, if_neg e])
  have hK := Lib.hid ((KQ.refl B P M w).setP hS.lowP (i * 4 + 3) (.int .i64 (T.exp n i)))
  have hcall := Lib.hid (hrel _ hS3)
  clear hS hS2 hS3 hrel hex hexi hle htr
  generalize T.exp n i = x at *
  go_enter Try.func25, Try.ntmps25
  go_wp2_with fail
  refine hcall.out.mono ?_
  rintro e w2 ⟨rfl, hS4, hK4⟩
  go_wp2_with fail
  go_end0
  exact ⟨rfl, hS4, hK.out.trans hK4⟩

set_option maxHeartbeats 1600000 in
theorem release_any (B s P M n c : Nat) (hn : n ≤ 6) (dep : Nat → Nat) : ∀ (f : Nat) (w : World) (S : QS) (i : Nat), SysQ w B s P M n c S (S.exp n) → QInv n S dep → S.eng i = true → cntB n S.eng ≤ f → (∀ a b, S.tr a b ≤ 900) →
    Calls Try.prog 24 #[.pointer (some ⟨s, 0, none⟩), .int .i64 (i : Int)] w (RelRes w B s P M n c (rel n f S i))
  | 0, w, S, i, hS, hI, he, hf, htr => by
    have := cntB_pos (hI.engL i he) he
    omega
  | f + 1, w, S, i, hS, hI, he, hf, htr => by
    have hin := hI.engL i he
    have hiI : (i : Int) < (n : Int) := by omega
    have hszB := hS.sz
    by_cases h0 : i = 0
    · subst h0
      have hrl : rel n (f + 1) S 0 = S := by unfold rel; rw [if_pos (.inl rfl)]
      rw [hrl]
      have hSH := Lib.hid hS
      clear hS hI htr hrl
      go_enter Try.func24, Try.ntmps24
      go_wp2_with fail
      go_end0
      exact ⟨rfl, hSH.out, KQ.refl _ _ _ _⟩
    · have hi0 : ((i : Int) == 0) = false := by simpa using h0
      by_cases hst : S.act i = true ∨ S.exp n i ≠ 0
      · have hrl : rel n (f + 1) S i = S := by unfold rel; rw [if_pos (.inr hst)]
        rw [hrl]
        have hidle := Lib.hid (idle_any w B s P M n c S _ hS i hin hn false ⟨(nomatch ·), fun h => by
          rcases hst with h1 | h1
          · rw [h.1] at h1; cases h1
          · exact absurd h.2 h1⟩)
        have hSH := Lib.hid hS
        clear hS hI htr hrl hst
        go_enter Try.func24, Try.ntmps24
        go_wp2_with fail
        refine hidle.out.mono ?_
        rintro e w1 ⟨rfl, hB1⟩
        go_wp2_with fail
        go_end0
        exact ⟨rfl, hSH.out.below hB1, KQ.below hszB hB1⟩
      · have ha : S.act i = false := by
          cases hh : S.act i with
          | false => rfl
          | true => exact absurd (.inl hh) hst
        have hx : S.exp n i = 0 := by
          by_cases hh : S.exp n i = 0
          · exact hh
          · exact absurd (.inr hh) hst
        have hrl : rel n (f + 1) S i = rel n f (S.off i) (S.par i) := by
          rw [rel, if_neg]
          rintro (h | h | h)
          · exact h0 h
          · rw [ha] at h; cases h
          · exact h hx
        rw [hrl]
        have hidle := Lib.hid (idle_any w B s P M n c S _ hS i hin hn true ⟨fun _ => ⟨ha, hx⟩, fun _ => rfl⟩)
        have hI2 := hI.off h0 ha hx
        obtain ⟨hpe, hpd⟩ := hI.parE i h0 he
        have hpi : S.par i ≠ i := fun e => by rw [e] at hpd; omega
        have hpn := hI.parL i
        have hpe2 : (S.off i).eng (S.par i) = true := by
          show up1 S.eng i false (S.par i) = true
          rw [up1_other _ _ hpi]; exact hpe
        have hcnt : cntB n (S.off i).eng ≤ f := by
          have := cntB_off hin he
          show cntB n (up1 S.eng i false) ≤ f
          omega
        have hoff := QS.exp_off (n := n) hin h0 he
        have hack := Lib.hid (fun w2 (h2 : SysQ w2 B s P M n c (S.off i) (S.exp n)) => ack_step w2 B s P M n c (S.off i) (rel n f (S.off i) (S.par i)) (S.exp n) h2 (S.par i) hpn hn (fun a _ => by
          rw [hoff a]
          by_cases e : a = S.par i
          · rw [if_pos e, if_pos e]; omega
          · rw [if_neg e, if_neg e]) htr (fun w3 h3 => release_any B s P M n c hn dep f w3 (S.off i) (S.par i) h3 hI2 hpe2 hcnt htr))
        have hSH := Lib.hid hS
        clear hS hI htr hrl hst hI2 hpe hpd hoff hcnt hpe2
        go_enter Try.func24, Try.ntmps24
        go_wp2_with fail
        refine hidle.out.mono ?_
        rintro e w1 ⟨rfl, hB1⟩
        have hS1 := hSH.out.below hB1
        obtain ⟨s0, s1⟩ := hS1.cells
        obtain ⟨p0, p1, p2, p3⟩ := hS1.prs.cells hin
        have pf := hS1.prs.frozen (i * 4 + 1)
        have hS2 := hS1.setEng hin false
        obtain ⟨q0, q1, q2, q3⟩ := hS2.prs.cells hin
        have hK2 := Lib.hid ((KQ.below (P := P) (M := M) hszB hB1).setP hS1.lowP (i * 4 + 1) (.bool false))
        have hcall := Lib.hid (hack.out _ hS2)
        have hpp : Hid (∀ x, S.par i = x → (up1 S.eng i false) = up1 S.eng i false) := fun _ _ => rfl
        clear hS1 hS2 hB1 hidle hack hSH
        generalize S.par i = p at *
        go_wp2_with fail
        refine hcall.out.mono ?_
        rintro e w3 ⟨rfl, hS4, hK4⟩
        go_wp2_with fail
        go_end0
        exact ⟨rfl, hS4, hK2.out.trans hK4⟩


/-- What a move leaves: its code, and the system. -/
def MovRes (B s P M n c : Nat) (w : World) (T : QS) (cd : Int) (e : Ending) (w' : World) : Prop := e = .returned (.int .i64 cd) ∧ SysQ w' B s P M n (c + 1) T (T.exp n) ∧ KQ B P M w w'

set_option maxHeartbeats 1600000 in
theorem rest_no (w : World) (B s P M n c : Nat) (S : QS) (hS : SysQ w B s P M n c S (S.exp n)) (i : Nat) (hi : i < n) (hn : n ≤ 6) (ha : S.act i = false) :
    Calls Try.prog 21 #[.pointer (some ⟨s, 0, none⟩), .int .i64 (i : Int)] w (MovRes B s P M n c w S 7) := by
  obtain ⟨s0, s1⟩ := hS.cells
  obtain ⟨p0, p1, p2, p3⟩ := hS.prs.cells hi
  have hiI : (i : Int) < (n : Int) := by omega
  rw [ha] at p0
  have hSH := Lib.hid (hS.mono (Nat.le_succ c))
  clear hS
  go_enter Try.func21, Try.ntmps21
  go_wp2_with fail
  go_ret
  exact ⟨rfl, hSH.out, KQ.refl _ _ _ _⟩
set_option maxHeartbeats 1600000 in
theorem rest_yes (w : World) (B s P M n c : Nat) (S : QS) (hS : SysQ w B s P M n c S (S.exp n)) (hO : QOk n S) (i : Nat) (hi : i < n) (hn : n ≤ 6) (ha : S.act i = true) (htr : ∀ a b, S.tr a b ≤ 900) :
    Calls Try.prog 21 #[.pointer (some ⟨s, 0, none⟩), .int .i64 (i : Int)] w (MovRes B s P M n c w (rel n (n + 1) (S.rest i) i) 0) := by
  obtain ⟨dep, hI, _⟩ := hO
  obtain ⟨s0, s1⟩ := hS.cells
  obtain ⟨p0, p1, p2, p3⟩ := hS.prs.cells hi
  have pf := hS.prs.frozen (i * 4)
  have hiI : (i : Int) < (n : Int) := by omega
  have hS2 := hS.setAct hi false
  have hK := Lib.hid ((KQ.refl B P M w).setP hS.lowP (i * 4) (.bool false))
  have hcall := Lib.hid (release_any B s P M n c hn dep (n + 1) _ (S.rest i) i hS2 (hI.rest i) (hI.actE i ha) (by have := cntB_le n (S.rest i).eng; omega) htr)
  rw [ha] at p0
  clear hS hS2 hI htr
  generalize rel n (n + 1) (S.rest i) i = T at *
  go_enter Try.func21, Try.ntmps21
  go_wp2_with fail
  refine hcall.out.mono ?_
  rintro e w2 ⟨rfl, hS4, hK4⟩
  have hS5 := Lib.hid (hS4.mono (Nat.le_succ c))
  clear hS4
  go_wp2_with fail
  go_ret
  exact ⟨rfl, hS5.out, hK.out.trans hK4⟩

#print axioms release_any
#print axioms rest_yes
end Go.Proofs.Ytichcahlokjblaa
