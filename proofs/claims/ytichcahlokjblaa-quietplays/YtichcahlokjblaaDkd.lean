/-
  Termination detection by the document's messages: on the way, taken and not answered, answered; how they follow the states. Plain.
-/
import Derived.Test.YtichcahlokjblaaDks
import Derived.Lib.Hide
namespace Go.Proofs.Ytichcahlokjblaa

/-- A message: from, to, and 0: on the way, 1: taken and not answered, 2: answered. -/
structure Ml where
  f : Nat
  t : Nat
  s : Nat
def ml (L : List Ml) (k : Nat) : Ml := (L[k]?).getD ⟨0, 0, 0⟩
theorem ml_get (L : List Ml) {k : Nat} (h : k < L.length) : L[k] = ml L k := by simp [ml, h]
def setS (L : List Ml) (k x : Nat) : List Ml := L.set k ⟨(ml L k).f, (ml L k).t, x⟩
theorem setS_len (L : List Ml) (k x : Nat) : (setS L k x).length = L.length := by simp [setS]
theorem setS_same {L : List Ml} {k : Nat} (h : k < L.length) (x : Nat) : ml (setS L k x) k = ⟨(ml L k).f, (ml L k).t, x⟩ := by simp [ml, setS, h]
theorem setS_other {L : List Ml} {k j : Nat} (x : Nat) (h : j ≠ k) : ml (setS L k x) j = ml L j := by
  unfold ml setS
  rw [List.getElem?_set_ne (fun e => h e.symm)]
theorem setS_twice (L : List Ml) (k x y : Nat) : setS (setS L k x) k y = setS L k y := by
  by_cases h : k < L.length
  · unfold setS
    have e : ml (L.set k ⟨(ml L k).f, (ml L k).t, x⟩) k = ⟨(ml L k).f, (ml L k).t, x⟩ := setS_same h x
    rw [e, List.set_set]
  · unfold setS
    rw [List.set_eq_of_length_le (by rw [List.length_set]; omega), List.set_eq_of_length_le (by omega), List.set_eq_of_length_le (by omega)]
theorem ml_snoc (L : List Ml) (m : Ml) (k : Nat) : ml (L ++ [m]) k = if k = L.length then m else ml L k := by
  unfold ml
  by_cases e : k = L.length
  · subst e; simp
  · rw [if_neg e]
    by_cases h : k < L.length
    · rw [List.getElem?_append_left h]
    · rw [List.getElem?_eq_none (by simp; omega), List.getElem?_eq_none (by omega)]
theorem countP_setS (p : Ml → Bool) (x : Nat) : ∀ (L : List Ml) (k : Nat), k < L.length → (setS L k x).countP p + (if p (ml L k) = true then 1 else 0) = L.countP p + if p ⟨(ml L k).f, (ml L k).t, x⟩ = true then 1 else 0
  | [], k, h => by simp at h
  | a :: r, 0, _ => by
    have e : setS (a :: r) 0 x = ⟨a.f, a.t, x⟩ :: r := rfl
    have e2 : ml (a :: r) 0 = a := rfl
    rw [e, e2, List.countP_cons, List.countP_cons]
    omega
  | a :: r, k + 1, h => by
    have e : setS (a :: r) (k + 1) x = a :: setS r k x := rfl
    have e2 : ml (a :: r) (k + 1) = ml r k := rfl
    have ih := countP_setS p x r k (by simpa using h)
    rw [e, e2, List.countP_cons, List.countP_cons]
    omega

/-- How many that i has sent are not answered. -/
def owedB (i : Nat) (m : Ml) : Bool := decide (m.f = i) && decide (m.s < 2)
def owed (L : List Ml) (i : Nat) : Nat := L.countP (owedB i)
theorem owed_le (L : List Ml) (i : Nat) : owed L i ≤ L.length := List.countP_le_length
theorem owed_take (L : List Ml) (i : Nat) {k : Nat} (hk : k < L.length) : owed (L.take (k + 1)) i = owed (L.take k) i + if owedB i (ml L k) = true then 1 else 0 := by
  unfold owed
  rw [List.take_add_one, List.getElem?_eq_getElem hk, List.countP_append, ml_get L hk]
  simp [List.countP_cons]
theorem owed_all (L : List Ml) (i : Nat) : owed (L.take L.length) i = owed L i := by rw [List.take_length]
/-- The message that engages i, if there is one: which is it, else -1. -/
def engB (i : Nat) (m : Ml) : Bool := decide (m.t = i) && decide (m.s = 1)
def IsBnd (L : List Ml) (i : Nat) (r : Int) : Prop := (∃ k : Nat, r = (k : Int) ∧ k < L.length ∧ engB i (ml L k) = true ∧ ∀ j, j < k → engB i (ml L j) = false) ∨ (r = -1 ∧ ∀ j, j < L.length → engB i (ml L j) = false)
theorem first_of (p : Nat → Bool) : ∀ n : Nat, (∃ k, k < n ∧ p k = true ∧ ∀ j, j < k → p j = false) ∨ ∀ j, j < n → p j = false
  | 0 => .inr fun j h => absurd h (by omega)
  | n + 1 => by
    rcases first_of p n with ⟨k, h1, h2⟩ | h
    · exact .inl ⟨k, by omega, h2⟩
    · cases hp : p n with
      | true => exact .inl ⟨n, by omega, hp, h⟩
      | false =>
        refine .inr fun j hj => ?_
        by_cases e : j = n
        · rw [e]; exact hp
        · exact h j (by omega)
theorem bnd_some (L : List Ml) (i : Nat) : ∃ r, IsBnd L i r := by
  rcases first_of (fun k => engB i (ml L k)) L.length with ⟨k, h1, h2, h3⟩ | h
  · exact ⟨k, .inl ⟨k, rfl, h1, h2, h3⟩⟩
  · exact ⟨-1, .inr ⟨rfl, h⟩⟩
theorem engB_iff (i : Nat) (m : Ml) : engB i m = true ↔ m.t = i ∧ m.s = 1 := by simp [engB]

def wayB (i j : Nat) (m : Ml) : Bool := decide (m.f = i) && decide (m.t = j) && decide (m.s = 0)
theorem wayB_iff (i j : Nat) (m : Ml) : wayB i j m = true ↔ m.f = i ∧ m.t = j ∧ m.s = 0 := by simp [wayB, and_assoc]
/-- The messages follow the state. -/
structure RelM (n : Nat) (S : QS) (L : List Ml) : Prop where
  tr : ∀ i j, S.tr i j = L.countP (wayB i j)
  has : ∀ j, j ≠ 0 → S.eng j = true → ∃ k, k < L.length ∧ (ml L k).t = j ∧ (ml L k).s = 1
  one : ∀ k, k < L.length → (ml L k).s = 1 → (ml L k).t ≠ 0 ∧ S.eng (ml L k).t = true ∧ (ml L k).f = S.par (ml L k).t
  uni : ∀ k j, k < L.length → j < L.length → (ml L k).s = 1 → (ml L j).s = 1 → (ml L k).t = (ml L j).t → k = j
  lt : ∀ k, k < L.length → (ml L k).f < n ∧ (ml L k).t < n ∧ (ml L k).s ≤ 2
theorem RelM.begin (n : Nat) : RelM n QS.begin [] :=
  ⟨fun _ _ => rfl, fun j hj h => absurd (by simpa [QS.begin] using h) hj, fun k h => absurd h (by simp), fun k j h => absurd h (by simp), fun k h => absurd h (by simp)⟩
theorem countP_some {p : Ml → Bool} {L : List Ml} (h : L.countP p ≠ 0) : ∃ k, k < L.length ∧ p (ml L k) = true := by
  have h1 : 0 < L.countP p := by omega
  obtain ⟨a, ha, hp⟩ := List.countP_pos_iff.1 h1
  obtain ⟨k, hk, rfl⟩ := List.getElem_of_mem ha
  exact ⟨k, hk, by rw [← ml_get L hk]; exact hp⟩
theorem countP_of {p : Ml → Bool} {L : List Ml} {k : Nat} (hk : k < L.length) (h : p (ml L k) = true) : L.countP p ≠ 0 := by
  have : 0 < L.countP p := List.countP_pos_iff.2 ⟨L[k], List.getElem_mem hk, by rw [ml_get L hk]; exact h⟩
  omega
section
variable {n : Nat} {S : QS} {L : List Ml}
theorem RelM.owed0 (h : RelM n S L) (i : Nat) : owed L i = 0 ↔ S.exp n i = 0 := by
  rw [QS.exp_zero]
  constructor
  · intro h0 j hj
    refine ⟨?_, ?_⟩
    · by_cases e : S.tr i j = 0
      · exact e
      · rw [h.tr] at e
        obtain ⟨k, hk, hp⟩ := countP_some e
        obtain ⟨h1, h2, h3⟩ := (wayB_iff _ _ _).1 hp
        exact absurd h0 (countP_of hk (by simp [owedB, h1, h3]))
    · cases hkd : S.kid i j with
      | false => rfl
      | true =>
        obtain ⟨h1, h2, h3⟩ := (S.kid_iff i j).1 hkd
        obtain ⟨k, hk, h4, h5⟩ := h.has j h1 h2
        obtain ⟨_, _, h6⟩ := h.one k hk h5
        exact absurd h0 (countP_of hk (by simp [owedB, h5, h6, h4, h3]))
  · intro h0
    by_cases e : owed L i = 0
    · exact e
    · obtain ⟨k, hk, hp⟩ := countP_some e
      obtain ⟨h1, h2⟩ : (ml L k).f = i ∧ (ml L k).s < 2 := by simpa [owedB] using hp
      have hlt := h.lt k hk
      obtain ⟨h3, h4⟩ := h0 (ml L k).t hlt.2.1
      have : (ml L k).s = 0 ∨ (ml L k).s = 1 := by omega
      rcases this with h5 | h5
      · rw [h.tr] at h3
        exact absurd h3 (countP_of hk ((wayB_iff _ _ _).2 ⟨h1, rfl, h5⟩))
      · obtain ⟨h6, h7, h8⟩ := h.one k hk h5
        have : S.kid i (ml L k).t = true := (S.kid_iff _ _).2 ⟨h6, h7, by rw [← h8]; exact h1⟩
        rw [h4] at this; cases this
theorem RelM.bnd_yes (h : RelM n S L) {i : Nat} (h0 : i ≠ 0) (he : S.eng i = true) {r : Int} (hr : IsBnd L i r) : ∃ k : Nat, r = (k : Int) ∧ k < L.length ∧ (ml L k).t = i ∧ (ml L k).s = 1 := by
  rcases hr with ⟨k, h1, h2, h3, _⟩ | ⟨_, h1⟩
  · exact ⟨k, h1, h2, (engB_iff _ _).1 h3⟩
  · obtain ⟨k, hk, h2, h3⟩ := h.has i h0 he
    have := h1 k hk
    rw [(engB_iff _ _).2 ⟨h2, h3⟩] at this; cases this
theorem RelM.bnd_no (h : RelM n S L) {i : Nat} (he : i = 0 ∨ S.eng i = false) {r : Int} (hr : IsBnd L i r) : r = -1 := by
  rcases hr with ⟨k, h1, h2, h3, _⟩ | ⟨h1, _⟩
  · obtain ⟨h4, h5⟩ := (engB_iff _ _).1 h3
    obtain ⟨h6, h7, _⟩ := h.one k h2 h5
    rw [h4] at h6 h7
    rcases he with he | he
    · exact absurd he h6
    · rw [he] at h7; cases h7
  · exact h1
theorem RelM.congr {T : QS} (h : RelM n S L) (h1 : T.tr = S.tr) (h2 : T.eng = S.eng) (h3 : T.par = S.par) : RelM n T L :=
  ⟨by rw [h1]; exact h.tr, by rw [h2]; exact h.has, by rw [h2, h3]; exact h.one, h.uni, h.lt⟩
/-- A message is answered. -/
theorem RelM.off (h : RelM n S L) {k : Nat} (hk : k < L.length) (h1 : (ml L k).s = 1) : RelM n (S.off (ml L k).t) (setS L k 2) := by
  refine ⟨fun i j => ?_, fun j hj0 hj => ?_, fun a ha h2 => ?_, fun a b ha hb h2 h3 h4 => ?_, fun a ha => ?_⟩
  · show S.tr i j = _
    have := countP_setS (wayB i j) 2 L k hk
    have e1 : ¬ wayB i j (ml L k) = true := fun e => by have := ((wayB_iff _ _ _).1 e).2.2; omega
    have e2 : ¬ wayB i j ⟨(ml L k).f, (ml L k).t, 2⟩ = true := fun e => by have := ((wayB_iff _ _ _).1 e).2.2; simp at this
    rw [if_neg e1, if_neg e2] at this
    rw [h.tr]; omega
  · have hj' : up1 S.eng (ml L k).t false j = true := hj
    by_cases e : j = (ml L k).t
    · rw [e, up1_same] at hj'; cases hj'
    · rw [up1_other _ _ e] at hj'
      obtain ⟨a, ha, h2, h3⟩ := h.has j hj0 hj'
      have hak : a ≠ k := fun e2 => e (by rw [← h2, e2])
      exact ⟨a, by rw [setS_len]; exact ha, by rw [setS_other _ hak]; exact h2, by rw [setS_other _ hak]; exact h3⟩
  · rw [setS_len] at ha
    by_cases e : a = k
    · rw [e, setS_same hk] at h2; simp at h2
    · rw [setS_other _ e] at h2 ⊢
      obtain ⟨h3, h4, h5⟩ := h.one a ha h2
      refine ⟨h3, ?_, h5⟩
      show up1 S.eng (ml L k).t false _ = true
      rw [up1_other _ _ (fun e2 => e (h.uni a k ha hk h2 h1 e2))]
      exact h4
  · rw [setS_len] at ha hb
    have ea : a ≠ k := fun e => by rw [e, setS_same hk] at h2; simp at h2
    have eb : b ≠ k := fun e => by rw [e, setS_same hk] at h3; simp at h3
    rw [setS_other _ ea] at h2 h4
    rw [setS_other _ eb] at h3 h4
    exact h.uni a b ha hb h2 h3 h4
  · rw [setS_len] at ha
    by_cases e : a = k
    · rw [e, setS_same hk]
      have := h.lt k hk
      exact ⟨this.1, this.2.1, by simp⟩
    · rw [setS_other _ e]; exact h.lt a ha
/-- One is sent. -/
theorem RelM.send (h : RelM n S L) {i j : Nat} (hi : i < n) (hj : j < n) : RelM n (S.send i j) (L ++ [⟨i, j, 0⟩]) := by
  have hcase : ∀ a, a < (L ++ [(⟨i, j, 0⟩ : Ml)]).length → (ml (L ++ [⟨i, j, 0⟩]) a).s = 1 → a < L.length ∧ ml (L ++ [⟨i, j, 0⟩]) a = ml L a := fun a ha hs => by
    have e := ml_snoc L ⟨i, j, 0⟩ a
    by_cases e2 : a = L.length
    · rw [if_pos e2] at e; rw [e] at hs; simp at hs
    · rw [if_neg e2] at e
      exact ⟨by simp at ha; omega, e⟩
  refine ⟨fun a b => ?_, fun a ha0 ha => ?_, fun a ha h2 => ?_, fun a b ha hb h2 h3 h4 => ?_, fun a ha => ?_⟩
  · show up2 S.tr i j (S.tr i j + 1) a b = _
    rw [List.countP_append, ← h.tr a b, List.countP_singleton]
    by_cases e : a = i ∧ b = j
    · obtain ⟨rfl, rfl⟩ := e
      rw [up2_same, if_pos ((wayB_iff a b ⟨a, b, 0⟩).2 ⟨rfl, rfl, rfl⟩)]
    · rw [up2_other _ _ e, if_neg (fun e2 => e (by have := (wayB_iff _ _ _).1 e2; exact ⟨this.1.symm, this.2.1.symm⟩))]
      rfl
  · obtain ⟨k, hk, h2, h3⟩ := h.has a ha0 ha
    have e := ml_snoc L ⟨i, j, 0⟩ k
    rw [if_neg (by omega)] at e
    exact ⟨k, by simp; omega, by rw [e]; exact h2, by rw [e]; exact h3⟩
  · obtain ⟨h3, h4⟩ := hcase a ha h2
    rw [h4] at h2 ⊢
    exact h.one a h3 h2
  · obtain ⟨a1, a2⟩ := hcase a ha h2
    obtain ⟨b1, b2⟩ := hcase b hb h3
    rw [a2] at h2 h4
    rw [b2] at h3 h4
    exact h.uni a b a1 b1 h2 h3 h4
  · have e := ml_snoc L ⟨i, j, 0⟩ a
    by_cases e2 : a = L.length
    · rw [if_pos e2] at e; rw [e]; exact ⟨hi, hj, by simp⟩
    · rw [if_neg e2] at e; rw [e]; exact h.lt a (by simp at ha; omega)
theorem RelM.way (h : RelM n S L) {k i j : Nat} (hk : k < L.length) (hw : wayB i j (ml L k) = true) (x : Nat) (hx : x ≠ 0) (a b : Nat) : (S.got i j).tr a b = (setS L k x).countP (wayB a b) := by
  obtain ⟨h1, h2, h3⟩ := (wayB_iff _ _ _).1 hw
  show up2 S.tr i j (S.tr i j - 1) a b = _
  have := countP_setS (wayB a b) x L k hk
  have e2 : ¬ wayB a b ⟨(ml L k).f, (ml L k).t, x⟩ = true := fun e => hx ((wayB_iff _ _ _).1 e).2.2
  rw [if_neg e2] at this
  by_cases e : a = i ∧ b = j
  · obtain ⟨rfl, rfl⟩ := e
    rw [if_pos hw] at this
    rw [up2_same, h.tr]; omega
  · rw [if_neg (fun e3 => e (by have := (wayB_iff _ _ _).1 e3; exact ⟨this.1.symm.trans h1, this.2.1.symm.trans h2⟩))] at this
    rw [up2_other _ _ e, h.tr]; omega
/-- One is received by a process that is engaged: it is answered at once. -/
theorem RelM.got (h : RelM n S L) {k i j : Nat} (hk : k < L.length) (hw : wayB i j (ml L k) = true) : RelM n (S.got i j) (setS L k 2) := by
  obtain ⟨h1, h2, h3⟩ := (wayB_iff _ _ _).1 hw
  have hne : ∀ a, (ml (setS L k 2) a).s = 1 → a ≠ k := fun a ha e => by rw [e, setS_same hk] at ha; simp at ha
  refine ⟨fun a b => h.way hk hw 2 (by simp) a b, fun a ha0 ha => ?_, fun a ha hs => ?_, fun a b ha hb hs ht he => ?_, fun a ha => ?_⟩
  · obtain ⟨c, hc, h4, h5⟩ := h.has a ha0 ha
    have hck : c ≠ k := fun e => by rw [e, h3] at h5; cases h5
    exact ⟨c, by rw [setS_len]; exact hc, by rw [setS_other _ hck]; exact h4, by rw [setS_other _ hck]; exact h5⟩
  · rw [setS_len] at ha
    have e := hne a hs
    rw [setS_other _ e] at hs ⊢
    exact h.one a ha hs
  · rw [setS_len] at ha hb
    have ea := hne a hs
    have eb := hne b ht
    rw [setS_other _ ea] at hs he
    rw [setS_other _ eb] at ht he
    exact h.uni a b ha hb hs ht he
  · rw [setS_len] at ha
    by_cases e : a = k
    · rw [e, setS_same hk]
      have := h.lt k hk
      exact ⟨this.1, this.2.1, by simp⟩
    · rw [setS_other _ e]; exact h.lt a ha
/-- .. by one that is not: it engages it. -/
theorem RelM.bind (h : RelM n S L) {k i j : Nat} (hk : k < L.length) (hw : wayB i j (ml L k) = true) (h0 : j ≠ 0) (he : S.eng j = false) : RelM n ((S.got i j).bind i j) (setS L k 1) := by
  obtain ⟨h1, h2, h3⟩ := (wayB_iff _ _ _).1 hw
  have hno : ∀ a, a < L.length → (ml L a).s = 1 → (ml L a).t ≠ j := fun a ha hs e => by
    have := (h.one a ha hs).2.1
    rw [e, he] at this; cases this
  have eE : ∀ x, ((S.got i j).bind i j).eng x = up1 S.eng j true x := fun _ => rfl
  have eP : ∀ x, ((S.got i j).bind i j).par x = up1 S.par j i x := fun _ => rfl
  refine ⟨fun a b => h.way hk hw 1 (by simp) a b, fun a ha0 ha => ?_, fun a ha hs => ?_, fun a b ha hb hs ht hab => ?_, fun a ha => ?_⟩
  · by_cases e : a = j
    · subst e
      exact ⟨k, by rw [setS_len]; exact hk, by rw [setS_same hk]; exact h2, by rw [setS_same hk]⟩
    · rw [eE, up1_other _ _ e] at ha
      obtain ⟨c, hc, h4, h5⟩ := h.has a ha0 ha
      have hck : c ≠ k := fun e => by rw [e, h3] at h5; cases h5
      exact ⟨c, by rw [setS_len]; exact hc, by rw [setS_other _ hck]; exact h4, by rw [setS_other _ hck]; exact h5⟩
  · rw [setS_len] at ha
    by_cases e : a = k
    · rw [e, setS_same hk]
      simp only
      rw [eE, eP, h2, h1, up1_same, up1_same]
      exact ⟨h0, rfl, rfl⟩
    · rw [setS_other _ e] at hs ⊢
      have h4 := hno a ha hs
      rw [eE, eP, up1_other _ _ h4, up1_other _ _ h4]
      exact h.one a ha hs
  · rw [setS_len] at ha hb
    by_cases ea : a = k
    · by_cases eb : b = k
      · rw [ea, eb]
      · rw [setS_other _ eb] at ht hab
        rw [ea, setS_same hk] at hab
        exact absurd (by rw [← hab]; exact h2) (hno b hb ht)
    · rw [setS_other _ ea] at hs hab
      by_cases eb : b = k
      · rw [eb, setS_same hk] at hab
        exact absurd (by rw [hab]; exact h2) (hno a ha hs)
      · rw [setS_other _ eb] at ht hab
        exact h.uni a b ha hb hs ht hab
  · rw [setS_len] at ha
    by_cases e : a = k
    · rw [e, setS_same hk]
      have := h.lt k hk
      exact ⟨this.1, this.2.1, by simp⟩
    · rw [setS_other _ e]; exact h.lt a ha
end
theorem RelTo.refl {n : Nat} {S : QS} {dep : Nat → Nat} (h : QInv n S dep) (hs : Stuck n S S.eng) : RelTo n dep S S := ⟨h, rfl, rfl, rfl, fun _ h => h, hs, fun _ hG _ j hj => hG j hj⟩

/-! Settling: E: who is engaged yet. -/
def QS.to (S : QS) (E : Nat → Bool) : QS := { S with eng := E }
/-- Half settled: between the state that it began with and the one that it comes to. -/
structure Half (n : Nat) (S T : QS) (E : Nat → Bool) (L : List Ml) : Prop where
  rel : RelM n (S.to E) L
  sub : ∀ j, E j = true → S.eng j = true
  sup : ∀ j, T.eng j = true → E j = true
theorem Half.start {n : Nat} {S T : QS} {dep : Nat → Nat} {L : List Ml} (h : RelM n S L) (hT : RelTo n dep S T) : Half n S T S.eng L := ⟨h, fun _ h => h, hT.sub⟩
/-- One can be let go: it is not among those that stay. -/
theorem Half.step {n : Nat} {S T : QS} {dep : Nat → Nat} {E : Nat → Bool} {L : List Ml} (h : Half n S T E L) (hT : RelTo n dep S T) {k i : Nat} (h0 : i ≠ 0) (hk : k < L.length) (hi : (ml L k).t = i) (h1 : (ml L k).s = 1) (ha : S.act i = false) (ho : owed L i = 0) :
    Half n S T (up1 E i false) (setS L k 2) ∧ E i = true := by
  have hx : QS.exp (S.to E) n i = 0 := (h.rel.owed0 i).1 ho
  have hE : E i = true := by
    have := (h.rel.one k hk h1).2.1
    rw [hi] at this; exact this
  refine ⟨⟨?_, fun j hj => ?_, fun j hj => ?_⟩, hE⟩
  · have := h.rel.off hk h1
    rw [hi] at this; exact this
  · by_cases e : j = i
    · rw [e, up1_same] at hj; cases hj
    · rw [up1_other _ _ e] at hj; exact h.sub j hj
  · by_cases e : j = i
    · subst e
      rcases hT.stuck j h0 hj with h2 | h2
      · rw [hT.act, ha] at h2; cases h2
      · exfalso
        refine h2 ?_
        have e1 : QS.exp { T with eng := T.eng } n j = QS.exp { (S.to E) with eng := T.eng } n j := QS.exp_congr n j fun x _ => ⟨by show T.tr j x = S.tr j x; rw [hT.tr], by
          unfold QS.kid
          show (decide (x ≠ 0) && T.eng x && decide (T.par x = j)) = (decide (x ≠ 0) && T.eng x && decide (S.par x = j))
          rw [hT.par]⟩
        rw [e1]
        exact exp_sub (S := S.to E) h.sup hx
    · rw [up1_other _ _ e]; exact h.sup j hj
/-- Nobody can be let go: it is settled. -/
theorem Half.done {n : Nat} {S T : QS} {dep : Nat → Nat} {E : Nat → Bool} {L : List Ml} (h : Half n S T E L) (hT : RelTo n dep S T) (hs : ∀ i, 0 < i → i < n → E i = true → S.act i = true ∨ owed L i ≠ 0) (hn : ∀ j, S.eng j = true → j < n) : RelM n T L := by
  have hst : Stuck n S E := fun j hj0 hj => by
    rcases hs j (by omega) (hn j (h.sub j hj)) hj with h1 | h1
    · exact .inl h1
    · right
      intro e
      exact h1 ((h.rel.owed0 j).2 e)
  have e : E = T.eng := hT.same h.sub hst h.sup
  exact h.rel.congr (by rw [hT.tr]; rfl) (by rw [← e]; rfl) (by rw [hT.par]; rfl)
/-- What keeps i from being let go, by what the program asks. -/
theorem Half.keep {n : Nat} {S T : QS} {E : Nat → Bool} {L : List Ml} (h : Half n S T E L) {i : Nat} (h0 : i ≠ 0) {r : Int} (hr : IsBnd L i r) (hno : ¬ (0 ≤ r ∧ S.act i = false ∧ owed L i = 0)) : E i = true → S.act i = true ∨ owed L i ≠ 0 := by
  intro hE
  obtain ⟨k, h1, h2, h3, h4⟩ := h.rel.bnd_yes h0 hE hr
  cases ha : S.act i with
  | true => exact .inl rfl
  | false =>
    right
    intro ho
    exact hno ⟨by omega, ha, ho⟩

#print axioms Half.done
#print axioms RelM.bind
end Go.Proofs.Ytichcahlokjblaa
