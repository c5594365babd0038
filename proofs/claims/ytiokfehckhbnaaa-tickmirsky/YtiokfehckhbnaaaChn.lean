/-
  The longest chain of events, the first one of several: as the program and as the document find it: plain.
-/
import Derived.Test.YtiokfehckhbnaaaTks
namespace Go.Proofs.Ytiokfehckhbnaaa

def After (l : List Ev) (last : Option Nat) (i : Nat) : Prop := ∀ x, last = some x → HB l x i
/-- The first event by which m still can come. -/
structure Pick (l : List Ev) (D : Nat → Nat) (last : Option Nat) (m i : Nat) : Prop where
  lt : i < l.length
  at_ : D i = m
  on : After l last i
  first : ∀ x, x < i → D x = m → ¬ After l last x
theorem Pick.same {l : List Ev} {D : Nat → Nat} {last : Option Nat} {m i j : Nat} (h : Pick l D last m i) (h' : Pick l D last m j) : i = j := by
  rcases Nat.lt_trichotomy i j with h1 | h1 | h1
  · exact absurd h.on (h'.first i h1 h.at_)
  · exact h1
  · exact absurd h'.on (h.first j h1 h'.at_)

def lastAt (out : List Nat) (t : Nat) : Option Nat := if t = 0 then none else out[t - 1]?
structure Chain (l : List Ev) (D : Nat → Nat) (M : Nat) (out : List Nat) : Prop where
  len : out.length ≤ M
  at_ : ∀ t, (h : t < out.length) → Pick l D (lastAt out t) (M - t) out[t]

/-- M is the greatest. -/
structure Most (D : Nat → Nat) (c M : Nat) : Prop where
  le : ∀ i, i < c → D i ≤ M
  zero : c = 0 → M = 0
  some_ : 0 < c → ∃ i, i < c ∧ D i = M
theorem Most.same {D D' : Nat → Nat} {c M M' : Nat} (h : Most D c M) (h' : Most D' c M') (e : ∀ i, i < c → D i = D' i) : M = M' := by
  rcases Nat.eq_zero_or_pos c with h0 | h0
  · rw [h.zero h0, h'.zero h0]
  · obtain ⟨i, h1, h2⟩ := h.some_ h0
    obtain ⟨j, h3, h4⟩ := h'.some_ h0
    have := h'.le i h1
    have := h.le j h3
    rw [← e i h1] at *
    rw [← e j h3] at *
    omega

theorem Chain.nil (l : List Ev) (D : Nat → Nat) (M : Nat) : Chain l D M [] := ⟨Nat.zero_le _, fun t h => absurd h (by simp)⟩
theorem lastAt_push (out : List Nat) (i : Nat) {t : Nat} (h : t ≤ out.length) : lastAt (out ++ [i]) t = lastAt out t := by
  unfold lastAt
  by_cases h0 : t = 0
  · rw [if_pos h0, if_pos h0]
  · rw [if_neg h0, if_neg h0, List.getElem?_append_left (by omega)]
theorem lastAt_end (out : List Nat) : lastAt out out.length = out.getLast? := by
  unfold lastAt
  cases out with
  | nil => rfl
  | cons a r => rw [if_neg (by simp), List.getLast?_eq_getElem?]
theorem Chain.push {l : List Ev} {D : Nat → Nat} {M : Nat} {out : List Nat} (h : Chain l D M out) (hl : out.length < M) {i : Nat} (hp : Pick l D out.getLast? (M - out.length) i) : Chain l D M (out ++ [i]) := by
  refine ⟨by simp; omega, fun t ht => ?_⟩
  rw [List.length_append, List.length_singleton] at ht
  rw [lastAt_push out i (by omega)]
  rcases Nat.lt_or_ge t out.length with h1 | h1
  · rw [List.getElem_append_left h1]; exact h.at_ t h1
  · have : t = out.length := by omega
    subst this
    rw [lastAt_end]
    simpa using hp
theorem Chain.same {l : List Ev} {D D' : Nat → Nat} {M : Nat} {out out' : List Nat} (e : ∀ i, i < l.length → D i = D' i) (h : Chain l D M out) (h' : Chain l D' M out') (hl : out.length = out'.length) : out = out' := by
  have key : ∀ t, (h1 : t < out.length) → (h2 : t < out'.length) → out[t] = out'[t] := by
    intro t
    induction t with
    | zero =>
      intro h1 h2
      have p := h.at_ 0 h1
      have p' := h'.at_ 0 h2
      have p2 : Pick l D (lastAt out' 0) (M - 0) out'[0] := ⟨p'.lt, by rw [e _ p'.lt]; exact p'.at_, p'.on, fun x hx hd => p'.first x hx (by rw [← e x (by have := p'.lt; omega)]; exact hd)⟩
      exact p.same p2
    | succ t ih =>
      intro h1 h2
      have p := h.at_ (t + 1) h1
      have p' := h'.at_ (t + 1) h2
      have el : lastAt out (t + 1) = lastAt out' (t + 1) := by
        unfold lastAt
        rw [if_neg (by omega), if_neg (by omega), Nat.add_sub_cancel, List.getElem?_eq_getElem (by omega), List.getElem?_eq_getElem (by omega), ih (by omega) (by omega)]
      rw [el] at p
      have p2 : Pick l D (lastAt out' (t + 1)) (M - (t + 1)) out'[t + 1] := ⟨p'.lt, by rw [e _ p'.lt]; exact p'.at_, p'.on, fun x hx hd => p'.first x hx (by rw [← e x (by have := p'.lt; omega)]; exact hd)⟩
      exact p.same p2
  exact List.ext_getElem hl key
theorem Chain.last {l : List Ev} {D : Nat → Nat} {M : Nat} {out : List Nat} (h : Chain l D M out) {x : Nat} (hx : out.getLast? = some x) : x < l.length ∧ D x + out.length = M + 1 ∧ 0 < out.length := by
  have h0 : 0 < out.length := by
    cases out with
    | nil => cases hx
    | cons a r => simp
  rw [List.getLast?_eq_getElem?, List.getElem?_eq_getElem (by omega)] at hx
  injection hx with hx
  have p := h.at_ (out.length - 1) (by omega)
  rw [hx] at p
  have := p.at_
  have := h.len
  exact ⟨p.lt, by omega, h0⟩

section
variable {l : List Ev} {D : Nat → Nat} {M : Nat} {out : List Nat}
/-- There is a next one. -/
theorem Chain.more (h : Chain l D M out) (hD : Rank (fun i j => HB l j i) l.length D) (hM : Most D l.length M) (hl : out.length < M) : ∃ i, i < l.length ∧ D i = M - out.length ∧ After l out.getLast? i := by
  cases hx : out.getLast? with
  | none =>
    have : out = [] := by cases out with | nil => rfl | cons a r => simp at hx
    subst this
    have hc : 0 < l.length := by
      rcases Nat.eq_zero_or_pos l.length with h0 | h0
      · have := hM.zero h0; simp at hl; omega
      · exact h0
    obtain ⟨i, h1, h2⟩ := hM.some_ hc
    exact ⟨i, h1, by simpa using h2, fun x e => by cases e⟩
  | some x =>
    obtain ⟨h1, h2, h3⟩ := h.last hx
    rcases hD.at_ x h1 with h4 | ⟨i, h4, h5⟩
    · omega
    · exact ⟨i, h4.lt.2, by omega, fun y e => by injection e with e; subst e; exact h4⟩

/-- Of events that follow, one whose rank is next follows directly. -/
theorem next_direct (hs : Sole l) (hD : Rank (fun i j => HB l j i) l.length D) {x i : Nat} (h : HB l x i) (hd : D x = D i + 1) : Nxt l x i := by
  have ht := (hb_nxt hs x i).1 h
  have hstep : ∃ k, Nxt l x k ∧ (k = i ∨ Relation.TransGen (Nxt l) k i) := by
    clear hd h
    induction ht with
    | single a => exact ⟨_, a, .inl rfl⟩
    | tail _ a ih =>
      obtain ⟨k, h1, h2⟩ := ih
      refine ⟨k, h1, .inr ?_⟩
      rcases h2 with rfl | h2
      · exact .single a
      · exact .tail h2 a
  obtain ⟨k, h1, h2⟩ := hstep
  rcases h2 with rfl | h2
  · exact h1
  · have hk := (hb_nxt hs k i).2 h2
    have a1 := hD.up i k (by have := h1.lt; omega) hk
    have a2 := hD.up k x (by have := h1.lt; omega) ((hb_nxt hs x k).2 (.single h1))
    omega

/-- The first of the greatest. -/
structure FirstMax (D : Nat → Nat) (cs : List Nat) (v : Nat) : Prop where
  at_ : ∃ t, ∃ h : t < cs.length, cs[t] = v ∧ ∀ s, (hs : s < t) → D (cs[s]'(by omega)) < D v
  le : ∀ s, (h : s < cs.length) → D cs[s] ≤ D v

/-- What the program chooses among. -/
def Cand (l : List Ev) (out : List Nat) (cs : List Nat) : Prop := (out = [] ∧ cs = List.range l.length) ∨ ∃ x, out.getLast? = some x ∧ cs = fol l x

theorem Cand.pick (hs : Sole l) (hD : Rank (fun i j => HB l j i) l.length D) (hM : Most D l.length M) (h : Chain l D M out) {cs : List Nat} (hc : Cand l out cs) {v : Nat} (hv : FirstMax D cs v) : out.length < M ∧ Pick l D out.getLast? (M - out.length) v := by
  obtain ⟨t, ht, htv, hfirst⟩ := hv.at_
  rcases hc with ⟨rfl, rfl⟩ | ⟨x, hx, rfl⟩
  · have htl : t < l.length := by simpa using ht
    have htv' : t = v := by simpa using htv
    subst htv'
    obtain ⟨i, h1, h2⟩ := hM.some_ (by omega)
    have h3 := hv.le i (by simpa using h1)
    rw [List.getElem_range] at h3
    have h4 := hM.le t htl
    have h5 : D t = M := by omega
    have h6 := hD.one t htl
    refine ⟨by simp; omega, ⟨htl, by simpa using h5, (fun y e => by cases e), fun y hy hd => ?_⟩⟩
    have := hfirst y hy
    rw [List.getElem_range] at this
    simp at hd
    omega
  · obtain ⟨h1, h2, h3⟩ := h.last hx
    have hmem : v ∈ fol l x := htv ▸ List.getElem_mem ht
    have hvn := (fol_mem l x v).1 hmem
    have hvh : HB l x v := (hb_nxt hs x v).2 (.single hvn)
    have hv1 := hD.up v x h1 hvh
    have hv2 := hD.one v hvn.lt.2
    have hex : ∃ i, HB l x i ∧ D x = D i + 1 := by
      rcases hD.at_ x h1 with h4 | h4
      · omega
      · exact h4
    obtain ⟨i, hi1, hi2⟩ := hex
    have him := (fol_mem l x i).2 (next_direct hs hD hi1 hi2)
    obtain ⟨si, hsi, rfl⟩ := List.getElem_of_mem him
    have hle := hv.le si hsi
    have hDv : D x = D v + 1 := by omega
    refine ⟨by omega, ⟨hvn.lt.2, by omega, fun y e => by rw [hx] at e; injection e with e; subst e; exact hvh, fun y hy hd ha => ?_⟩⟩
    have hyh := ha x hx
    have hym := (fol_mem l x y).2 (next_direct hs hD hyh (by omega))
    obtain ⟨sy, hsy, rfl⟩ := List.getElem_of_mem hym
    have hsort : (fol l x).Pairwise (· ≤ ·) := folTo_sorted l l.length x
    have hlt : sy < t := by
      rcases Nat.lt_or_ge sy t with h5 | h5
      · exact h5
      · rcases Nat.lt_or_ge t sy with h6 | h6
        · have := (List.pairwise_iff_getElem.1 hsort) t sy ht hsy h6
          omega
        · have : sy = t := by omega
          subst this
          omega
    have := hfirst sy hlt
    omega

/-- Where there is nothing to choose among the chain is whole. -/
theorem Cand.done (hs : Sole l) (hD : Rank (fun i j => HB l j i) l.length D) (hM : Most D l.length M) (h : Chain l D M out) (hc : Cand l out []) : out.length = M := by
  rcases hc with ⟨rfl, hr⟩ | ⟨x, hx, hf⟩
  · have : l.length = 0 := by have := congrArg List.length hr; simpa using this.symm
    rw [hM.zero this]; rfl
  · obtain ⟨h1, h2, h3⟩ := h.last hx
    have h4 := hD.one x h1
    rcases hD.at_ x h1 with h5 | ⟨i, h5, h6⟩
    · omega
    · have := (fol_mem l x i).2 (next_direct hs hD h5 h6)
      rw [← hf] at this
      cases this
theorem Cand.lt {cs : List Nat} (hc : Cand l out cs) {x : Nat} (hx : x ∈ cs) : x < l.length := by
  rcases hc with ⟨_, rfl⟩ | ⟨y, _, rfl⟩
  · exact List.mem_range.1 hx
  · exact ((fol_mem l y x).1 hx).lt.2

/-- The greatest rank from below is the greatest from above. -/
theorem most_same {T : Nat → Nat} {M' : Nat} (hT : Rank (HB l) l.length T) (hD : Rank (fun i j => HB l j i) l.length D) (hM : Most D l.length M) (hM' : Most T l.length M') : M = M' := by
  rcases Nat.eq_zero_or_pos l.length with h0 | h0
  · rw [hM.zero h0, hM'.zero h0]
  · obtain ⟨i, h1, h2⟩ := hM.some_ h0
    obtain ⟨j, h3, h4⟩ := hM'.some_ h0
    obtain ⟨x, hx, h5⟩ := hT.high hb_lt hD _ j h3 rfl
    obtain ⟨y, hy, h6⟩ := Rank.high (R := fun i j => HB l j i) (D := T) (fun i j _ h => h.lt.2) hD hT _ i h1 rfl
    have := hM.le x hx
    have := hM'.le y hy
    have := hD.one j h3
    have := hT.one i h1
    omega
end

#print axioms Cand.pick
end Go.Proofs.Ytiokfehckhbnaaa
