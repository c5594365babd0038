/-
  The sets of events that happen before, as the program builds them, and what happens before what: plain.
-/
import Derived.Test.YtpofmhlmaejmoaaPure
namespace Go.Proofs.Ytpofmhlmaejmoaa

theorem snoc_ind {P : List Ev → Prop} (h0 : P []) (h1 : ∀ l e, P l → P (l ++ [e])) (l : List Ev) : P l := by
  have key : ∀ r : List Ev, P r.reverse := by
    intro r
    induction r with
    | nil => exact h0
    | cons e r ih => rw [List.reverse_cons]; exact h1 _ _ ih
  have := key l.reverse
  rwa [List.reverse_reverse] at this

def putN (f : Int → Nat) (k : Int) (v : Nat) : Int → Nat := fun x => if x = k then v else f x

structure St where
  lat : Int → Nat
  car : Int → Nat
  res : List Nat

def St.past (s : St) (e : Ev) : Nat := if e.k = 3 then s.lat e.p ||| s.car e.m else s.lat e.p
def St.next (s : St) (e : Ev) : Nat := s.past e ||| 2 ^ s.res.length
def St.step (s : St) (e : Ev) : St := ⟨putN s.lat e.p (s.next e), if e.k = 2 then putN s.car e.m (s.next e) else s.car, s.res ++ [s.past e]⟩
def St.zero : St := ⟨fun _ => 0, fun _ => 0, []⟩
def stOf (l : List Ev) : St := l.foldl St.step St.zero
def pasts (l : List Ev) : List Nat := (stOf l).res

theorem stOf_snoc (l : List Ev) (e : Ev) : stOf (l ++ [e]) = (stOf l).step e := by simp [stOf, List.foldl_append]
theorem stOf_len (l : List Ev) : (stOf l).res.length = l.length := by
  induction l using snoc_ind with
  | h0 => rfl
  | h1 l e ih => rw [stOf_snoc]; simp [St.step, ih]
theorem pasts_len (l : List Ev) : (pasts l).length = l.length := stOf_len l

theorem or_lt {a b n : Nat} (ha : a < 2 ^ n) (hb : b < 2 ^ n) : a ||| b < 2 ^ n := Nat.or_lt_two_pow ha hb
theorem pow_le {a n : Nat} (h : a < 2 ^ n) : a < 2 ^ (n + 1) := by rw [Nat.pow_succ]; omega

theorem st_lt (l : List Ev) : (∀ p, (stOf l).lat p < 2 ^ l.length) ∧ (∀ m, (stOf l).car m < 2 ^ l.length) ∧ ∀ e, (stOf l).past e < 2 ^ l.length := by
  have hpast : ∀ l : List Ev, (∀ p, (stOf l).lat p < 2 ^ l.length) → (∀ m, (stOf l).car m < 2 ^ l.length) → ∀ e, (stOf l).past e < 2 ^ l.length := by
    intro l h1 h2 e
    unfold St.past
    split
    · exact or_lt (h1 _) (h2 _)
    · exact h1 _
  have key : (∀ p, (stOf l).lat p < 2 ^ l.length) ∧ (∀ m, (stOf l).car m < 2 ^ l.length) := by
    refine snoc_ind (P := fun l => (∀ p, (stOf l).lat p < 2 ^ l.length) ∧ (∀ m, (stOf l).car m < 2 ^ l.length)) ⟨fun p => by simp [stOf, St.zero], fun m => by simp [stOf, St.zero]⟩ (fun l e ih => ?_) l
    have hp := hpast l ih.1 ih.2 e
    have hn : (stOf l).next e < 2 ^ (l.length + 1) := by
      unfold St.next
      rw [stOf_len]
      exact or_lt (pow_le hp) (by rw [Nat.pow_succ]; have := Nat.two_pow_pos l.length; omega)
    rw [stOf_snoc, List.length_append]
    refine ⟨fun p => ?_, fun m => ?_⟩
    · show putN _ _ _ p < _
      unfold putN
      split
      · exact hn
      · exact pow_le (ih.1 p)
    · show (if e.k = 2 then putN (stOf l).car e.m ((stOf l).next e) else (stOf l).car) m < _
      split
      · unfold putN
        split
        · exact hn
        · exact pow_le (ih.2 m)
      · exact pow_le (ih.2 m)
  exact ⟨key.1, key.2, hpast l key.1 key.2⟩

/-! ### What happens before what -/

def ev (l : List Ev) (i : Nat) : Ev := l.getD i ⟨0, 0, 0⟩
theorem ev_get (l : List Ev) {i : Nat} (h : i < l.length) : ev l i = l[i] := by simp [ev, h]
theorem ev_left (l : List Ev) (e : Ev) {i : Nat} (h : i < l.length) : ev (l ++ [e]) i = ev l i := by simp [ev, List.getElem?_append_left h]
theorem ev_last (l : List Ev) (e : Ev) : ev (l ++ [e]) l.length = e := by simp [ev]
theorem ev_take (l : List Ev) {m i : Nat} (h : i < m) : ev (l.take m) i = ev l i := by simp [ev, h]

/-- Directly: by one process, or by a message. -/
def Link (a b : Ev) : Prop := a.p = b.p ∨ (a.k = 2 ∧ b.k = 3 ∧ a.m = b.m)
def Dir (l : List Ev) (i j : Nat) : Prop := i < j ∧ j < l.length ∧ Link (ev l i) (ev l j)
def HB (l : List Ev) (i j : Nat) : Prop := Relation.TransGen (Dir l) i j

theorem HB.lt {l : List Ev} {i j : Nat} (h : HB l i j) : i < j ∧ j < l.length := by
  induction h with
  | single h => exact ⟨h.1, h.2.1⟩
  | tail _ h ih => exact ⟨Nat.lt_trans ih.1 h.1, h.2.1⟩
theorem HB.trans {l : List Ev} {i j k : Nat} (h : HB l i j) (h' : HB l j k) : HB l i k := Relation.TransGen.trans h h'
theorem HB.of {l : List Ev} {i j : Nat} (h : Dir l i j) : HB l i j := .single h
theorem HB.last {l : List Ev} {i k : Nat} (h : HB l i k) : ∃ j, Dir l j k ∧ (i = j ∨ HB l i j) := by
  cases h with
  | single h => exact ⟨i, h, .inl rfl⟩
  | tail h h' => exact ⟨_, h', .inr h⟩
theorem HB.join {l : List Ev} {i j k : Nat} (h : i = j ∨ HB l i j) (h' : Dir l j k) : HB l i k := by
  rcases h with rfl | h
  · exact .of h'
  · exact .tail h h'

theorem HB.mono {l l' : List Ev} (h : ∀ i j, Dir l i j → Dir l' i j) {i j : Nat} (hh : HB l i j) : HB l' i j := by
  induction hh with
  | single a => exact .single (h _ _ a)
  | tail _ a ih => exact .tail ih (h _ _ a)

theorem dir_take (l : List Ev) {m i j : Nat} (hj : j < (l.take m).length) : Dir (l.take m) i j ↔ Dir l i j := by
  have hm : j < m := by simp at hj; omega
  have hl : j < l.length := by simp at hj; omega
  unfold Dir
  constructor
  · rintro ⟨h1, _, h3⟩
    rw [ev_take l (by omega), ev_take l hm] at h3
    exact ⟨h1, hl, h3⟩
  · rintro ⟨h1, _, h3⟩
    rw [ev_take l (by omega), ev_take l hm]
    exact ⟨h1, hj, h3⟩

theorem hb_take (l : List Ev) {m i j : Nat} (hj : j < (l.take m).length) : HB (l.take m) i j ↔ HB l i j := by
  constructor
  · exact HB.mono fun i j h => (dir_take l h.2.1).1 h
  · intro h
    induction h with
    | single a => exact .single ((dir_take l hj).2 a)
    | tail _ a ih =>
      refine .tail (ih ?_) ((dir_take l hj).2 a)
      have := a.1
      omega

theorem hb_left (l : List Ev) (e : Ev) {i j : Nat} (hj : j < l.length) : HB (l ++ [e]) i j ↔ HB l i j := by
  have := hb_take (l ++ [e]) (m := l.length) (i := i) (j := j) (by simp; exact hj)
  rw [List.take_left'] at this
  · exact this.symm
  · rfl

/-- No two sends of one message. -/
def Sole (l : List Ev) : Prop := ∀ i j, i < j → j < l.length → (ev l i).k = 2 → (ev l j).k = 2 → (ev l i).m ≠ (ev l j).m

theorem Sole.left {l : List Ev} {e : Ev} (h : Sole (l ++ [e])) : Sole l := by
  intro i j hij hj hi2 hj2
  have := h i j hij (by simp; omega)
  rw [ev_left l e (by omega), ev_left l e hj] at this
  exact this hi2 hj2

structure Tells (l : List Ev) : Prop where
  lat : ∀ p i, ((stOf l).lat p).testBit i ↔ ∃ j, j < l.length ∧ (ev l j).p = p ∧ (i = j ∨ HB l i j)
  car : ∀ m i, ((stOf l).car m).testBit i ↔ ∃ j, j < l.length ∧ (ev l j).k = 2 ∧ (ev l j).m = m ∧ (i = j ∨ HB l i j)
  res : ∀ i j, j < l.length → (((pasts l).getD j 0).testBit i ↔ HB l i j)

theorem Tells.past {l : List Ev} (h : Tells l) (e : Ev) (i : Nat) : ((stOf l).past e).testBit i ↔ HB (l ++ [e]) i l.length := by
  have key : (((stOf l).past e).testBit i ↔ ∃ j, j < l.length ∧ Link (ev l j) e ∧ (i = j ∨ HB l i j)) := by
    unfold St.past Link
    split
    · rename_i hk
      rw [Nat.testBit_or, Bool.or_eq_true, h.lat, h.car]
      constructor
      · rintro (⟨j, h1, h2, h3⟩ | ⟨j, h1, h2, h3, h4⟩)
        · exact ⟨j, h1, .inl h2, h3⟩
        · exact ⟨j, h1, .inr ⟨h2, hk, h3⟩, h4⟩
      · rintro ⟨j, h1, (h2 | ⟨h2, _, h3⟩), h4⟩
        · exact .inl ⟨j, h1, h2, h4⟩
        · exact .inr ⟨j, h1, h2, h3, h4⟩
    · rename_i hk
      rw [h.lat]
      constructor
      · rintro ⟨j, h1, h2, h3⟩
        exact ⟨j, h1, .inl h2, h3⟩
      · rintro ⟨j, h1, (h2 | ⟨_, h2, _⟩), h4⟩
        · exact ⟨j, h1, h2, h4⟩
        · exact absurd h2 hk
  rw [key]
  constructor
  · rintro ⟨j, h1, h2, h3⟩
    refine HB.join (j := j) ?_ ⟨h1, by simp, by rw [ev_left l e h1, ev_last]; exact h2⟩
    rcases h3 with h3 | h3
    · exact .inl h3
    · exact .inr ((hb_left l e h1).2 h3)
  · intro hh
    obtain ⟨j, ⟨h1, _, h2⟩, h3⟩ := hh.last
    rw [ev_left l e h1, ev_last] at h2
    refine ⟨j, h1, h2, ?_⟩
    rcases h3 with h3 | h3
    · exact .inl h3
    · exact .inr ((hb_left l e h1).1 h3)

theorem Tells.next {l : List Ev} (h : Tells l) (e : Ev) (i : Nat) : ((stOf l).next e).testBit i ↔ (i = l.length ∨ HB (l ++ [e]) i l.length) := by
  unfold St.next
  rw [Nat.testBit_or, Bool.or_eq_true, h.past, stOf_len, Nat.testBit_two_pow]
  simp only [decide_eq_true_eq]
  constructor
  · rintro (h1 | h1)
    · exact .inr h1
    · exact .inl h1.symm
  · rintro (h1 | h1)
    · exact .inr h1.symm
    · exact .inl h1

theorem tells (l : List Ev) : Sole l → Tells l := by
  refine snoc_ind (P := fun l => Sole l → Tells l) (fun _ => ⟨fun p i => ?_, fun m i => ?_, fun i j h => absurd h (by simp)⟩) (fun l e ih hs => ?_) l
  · simp [stOf, St.zero]
  · simp [stOf, St.zero]
  have h := ih hs.left
  refine ⟨fun p i => ?_, fun m i => ?_, fun i j hj => ?_⟩
  · rw [stOf_snoc]
    show (putN (stOf l).lat e.p ((stOf l).next e) p).testBit i = true ↔ _
    unfold putN
    by_cases hp : p = e.p
    · rw [if_pos hp, h.next]
      constructor
      · intro hh
        exact ⟨l.length, by simp, by rw [ev_last]; exact hp.symm, hh⟩
      · rintro ⟨j, hj, h1, h2⟩
        rw [List.length_append, List.length_singleton] at hj
        rcases Nat.lt_or_ge j l.length with hlt | hge
        · refine .inr (HB.join h2 ⟨hlt, by simp, .inl ?_⟩)
          rw [h1, ev_last]; exact hp
        · have : j = l.length := by omega
          subst this
          exact h2
    · rw [if_neg hp, h.lat]
      constructor
      · rintro ⟨j, hj, h1, h2⟩
        refine ⟨j, by simp; omega, by rw [ev_left l e hj]; exact h1, ?_⟩
        rcases h2 with h2 | h2
        · exact .inl h2
        · exact .inr ((hb_left l e hj).2 h2)
      · rintro ⟨j, hj, h1, h2⟩
        rw [List.length_append, List.length_singleton] at hj
        rcases Nat.lt_or_ge j l.length with hlt | hge
        · refine ⟨j, hlt, by rw [ev_left l e hlt] at h1; exact h1, ?_⟩
          rcases h2 with h2 | h2
          · exact .inl h2
          · exact .inr ((hb_left l e hlt).1 h2)
        · have : j = l.length := by omega
          subst this
          rw [ev_last] at h1
          exact absurd h1.symm hp
  · rw [stOf_snoc]
    have old : (((stOf l).car m).testBit i = true ↔ ∃ j, j < l.length ∧ (ev (l ++ [e]) j).k = 2 ∧ (ev (l ++ [e]) j).m = m ∧ (i = j ∨ HB (l ++ [e]) i j)) := by
      rw [h.car]
      constructor
      · rintro ⟨j, hj, h1, h2, h3⟩
        refine ⟨j, hj, by rw [ev_left l e hj]; exact h1, by rw [ev_left l e hj]; exact h2, ?_⟩
        rcases h3 with h3 | h3
        · exact .inl h3
        · exact .inr ((hb_left l e hj).2 h3)
      · rintro ⟨j, hj, h1, h2, h3⟩
        rw [ev_left l e hj] at h1 h2
        refine ⟨j, hj, h1, h2, ?_⟩
        rcases h3 with h3 | h3
        · exact .inl h3
        · exact .inr ((hb_left l e hj).1 h3)
    show ((if e.k = 2 then putN (stOf l).car e.m ((stOf l).next e) else (stOf l).car) m).testBit i = true ↔ _
    by_cases hk : e.k = 2
    · rw [if_pos hk]
      unfold putN
      by_cases hm : m = e.m
      · rw [if_pos hm, h.next]
        constructor
        · intro hh
          exact ⟨l.length, by simp, by rw [ev_last]; exact hk, by rw [ev_last]; exact hm.symm, hh⟩
        · rintro ⟨j, hj, h1, h2, h3⟩
          rw [List.length_append, List.length_singleton] at hj
          rcases Nat.lt_or_ge j l.length with hlt | hge
          · have := hs j l.length hlt (by simp) h1 (by rw [ev_last]; exact hk)
            rw [ev_last, h2] at this
            exact absurd hm this
          · have : j = l.length := by omega
            subst this
            exact h3
      · rw [if_neg hm, old]
        constructor
        · rintro ⟨j, hj, h1⟩
          exact ⟨j, by simp; omega, h1⟩
        · rintro ⟨j, hj, h1, h2, h3⟩
          rw [List.length_append, List.length_singleton] at hj
          rcases Nat.lt_or_ge j l.length with hlt | hge
          · exact ⟨j, hlt, h1, h2, h3⟩
          · have : j = l.length := by omega
            subst this
            rw [ev_last] at h2
            exact absurd h2.symm hm
    · rw [if_neg hk, old]
      constructor
      · rintro ⟨j, hj, h1⟩
        exact ⟨j, by simp; omega, h1⟩
      · rintro ⟨j, hj, h1, h2, h3⟩
        rw [List.length_append, List.length_singleton] at hj
        rcases Nat.lt_or_ge j l.length with hlt | hge
        · exact ⟨j, hlt, h1, h2, h3⟩
        · have : j = l.length := by omega
          subst this
          rw [ev_last] at h1
          exact absurd h1 hk
  · have hr : pasts (l ++ [e]) = pasts l ++ [(stOf l).past e] := by unfold pasts; rw [stOf_snoc]; rfl
    rw [hr]
    rw [List.length_append, List.length_singleton] at hj
    rcases Nat.lt_or_ge j l.length with hlt | hge
    · rw [List.getD_eq_getElem?_getD, List.getElem?_append_left (by rw [pasts_len]; exact hlt), ← List.getD_eq_getElem?_getD, h.res i j hlt, hb_left l e hlt]
    · have : j = l.length := by omega
      subst this
      rw [List.getD_eq_getElem?_getD, List.getElem?_append_right (by rw [pasts_len]; exact Nat.le_refl _)]
      simp only [pasts_len, Nat.sub_self, List.getElem?_cons_zero, Option.getD_some]
      exact h.past e i

def aheadCode (n : Int) (l : List Ev) (i j : Int) : Int :=
  if checkCode n l = 0 then (if (0 ≤ i ∧ i < l.length) ∧ (0 ≤ j ∧ j < l.length) then 0 else 4) else checkCode n l
/-- Bit i of the past of event j. -/
def bitAt (l : List Ev) (i j : Nat) : Bool := ((pasts l).getD j 0).testBit i
def aheadB (n : Int) (l : List Ev) (i j : Int) : Bool := if aheadCode n l i j = 0 then bitAt l i.toNat j.toNat else false

theorem check_small {n : Int} {l : List Ev} (h : checkCode n l = 0) : 1 ≤ n ∧ n ≤ 6 ∧ l.length ≤ 30 := by
  unfold checkCode at h
  by_cases hc : n < 1 ∨ 6 < n ∨ 30 < l.length
  · rw [if_pos hc] at h; omega
  · omega

theorem past_lt (l : List Ev) (h : l.length ≤ 30) (j : Nat) (hj : j < (pasts l).length) : (pasts l)[j] < 1073741824 := by
  have key : ∀ l : List Ev, ∀ x ∈ pasts l, x < 2 ^ l.length := by
    intro l
    induction l using snoc_ind with
    | h0 => intro x hx; cases hx
    | h1 l e ih =>
      intro x hx
      have hr : pasts (l ++ [e]) = pasts l ++ [(stOf l).past e] := by unfold pasts; rw [stOf_snoc]; rfl
      rw [hr, List.mem_append, List.mem_singleton] at hx
      rw [List.length_append, List.length_singleton]
      rcases hx with hx | hx
      · exact pow_le (ih x hx)
      · rw [hx]; exact pow_le ((st_lt l).2.2 e)
  have h1 := key l _ (List.getElem_mem hj)
  have h2 : 2 ^ l.length ≤ 2 ^ 30 := Nat.pow_le_pow_right (by omega) h
  omega

#print axioms tells
end Go.Proofs.Ytpofmhlmaejmoaa
