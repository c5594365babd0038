/-
  The echo algorithm: how many messages; who is joined with the start; that it ends. Plain.
-/
import Derived.Test.YtjmkmfeibempjaaEch
namespace Go.Proofs.Ytjmkmfeibempjaa

theorem strict_ext : ∀ (a b : List Nat), a.Pairwise (· < ·) → b.Pairwise (· < ·) → (∀ x, x ∈ a ↔ x ∈ b) → a = b
  | [], [], _, _, _ => rfl
  | [], y :: b, _, _, h => absurd ((h y).2 (by simp)) (by simp)
  | x :: a, [], _, _, h => absurd ((h x).1 (by simp)) (by simp)
  | x :: a, y :: b, ha, hb, h => by
    obtain ⟨ha1, ha2⟩ := List.pairwise_cons.1 ha
    obtain ⟨hb1, hb2⟩ := List.pairwise_cons.1 hb
    have hx := (h x).1 (by simp)
    have hy := (h y).2 (by simp)
    have e : x = y := by
      rcases List.mem_cons.1 hx with e | e
      · exact e
      · rcases List.mem_cons.1 hy with e' | e'
        · exact e'.symm
        · have := hb1 x e; have := ha1 y e'; omega
    subst e
    rw [strict_ext a b ha2 hb2 fun z => ?_]
    constructor
    · intro hz
      have := ha1 z hz
      rcases List.mem_cons.1 ((h z).1 (by simp [hz])) with e | e
      · omega
      · exact e
    · intro hz
      have := hb1 z hz
      rcases List.mem_cons.1 ((h z).2 (by simp [hz])) with e | e
      · omega
      · exact e
theorem nbs_strict (l : List Lk) (n i : Nat) : (nbs l n i).Pairwise (· < ·) := List.Pairwise.sublist List.filter_sublist List.pairwise_lt_range

/-- The neighbors in the order of the links. -/
def join1 (x : Lk) (i : Nat) : List Nat := (if x.a = (i : Int) then [x.b.toNat] else []) ++ (if x.b = (i : Int) then [x.a.toNat] else [])
def joinL (l : List Lk) (i : Nat) : List Nat := l.flatMap fun x => join1 x i
theorem joinL_snoc (l : List Lk) (x : Lk) (i : Nat) : joinL (l ++ [x]) i = joinL l i ++ join1 x i := by simp [joinL, List.flatMap_append]
theorem joinL_mem {l : List Lk} {n i j : Nat} (h : LkOk n l) : j ∈ joinL l i ↔ j ∈ nbs l n i := by
  rw [nbs_mem, adj_iff]
  unfold joinL
  rw [List.mem_flatMap]
  constructor
  · rintro ⟨x, hx, hj⟩
    have := h x hx
    unfold join1 at hj
    rcases List.mem_append.1 hj with h1 | h1
    · split at h1
      · next e => have e2 : j = x.b.toNat := by simpa using h1
                  exact ⟨by omega, x, hx, .inl ⟨e, by omega⟩⟩
      · cases h1
    · split at h1
      · next e => have e2 : j = x.a.toNat := by simpa using h1
                  exact ⟨by omega, x, hx, .inr ⟨e, by omega⟩⟩
      · cases h1
  · rintro ⟨h1, x, hx, e⟩
    refine ⟨x, hx, ?_⟩
    unfold join1
    rcases e with ⟨e1, e2⟩ | ⟨e1, e2⟩
    · rw [if_pos e1, e2]; simp
    · rw [if_pos e1, e2]; simp
theorem join1_len {x : Lk} (h : x.a ≠ x.b) (i : Nat) : (join1 x i).length ≤ 1 := by
  unfold join1
  by_cases e1 : x.a = (i : Int)
  · rw [if_pos e1, if_neg (fun e => h (e1.trans e.symm))]; simp
  · rw [if_neg e1]; split <;> simp
theorem joinL_len {n : Nat} {l : List Lk} (h : LkOk n l) (i : Nat) : (joinL l i).length ≤ l.length := by
  induction l with
  | nil => simp [joinL]
  | cons x l ih =>
    have h1 := ih (fun y hy => h y (by simp [hy]))
    have h2 := join1_len (h x (by simp)).2.2.2.2 i
    simp only [joinL, List.flatMap_cons, List.length_append, List.length_cons] at *
    omega
theorem joinL_nodup {n : Nat} {l : List Lk} (h : LkOk n l) (ho : Once l) (i : Nat) : (joinL l i).Nodup := by
  induction l with
  | nil => simp [joinL]
  | cons x l ih =>
    obtain ⟨o1, o2⟩ := List.pairwise_cons.1 ho
    have hl : LkOk n l := fun y hy => h y (by simp [hy])
    have h1 := ih hl o2
    have hx := h x (by simp)
    have e : joinL (x :: l) i = join1 x i ++ joinL l i := by simp [joinL, List.flatMap_cons]
    rw [e, List.nodup_append]
    refine ⟨?_, h1, ?_⟩
    · have := join1_len hx.2.2.2.2 i
      match hj : join1 x i with
      | [] => simp
      | [_] => simp
      | _ :: _ :: _ => rw [hj] at this; simp at this
    · intro a ha b hb e
      subst e
      obtain ⟨y, hy, hj⟩ := (adj_iff l i a).1 (nbs_mem.1 ((joinL_mem hl).1 hb)).2
      have ha' := (adj_iff [x] i a).1 (nbs_mem.1 ((joinL_mem (l := [x]) (n := n) (fun z hz => by simp at hz; rw [hz]; exact hx)).1 (by simpa [joinL] using ha))).2
      obtain ⟨z, hz, hj2⟩ := ha'
      have : z = x := by simpa using hz
      subst this
      apply o1 y hy
      unfold SameL
      omega
/-- Sorted, they are the neighbors in rising order. -/
theorem sorted_nbs {n : Nat} {l : List Lk} (h : LkOk n l) (ho : Once l) (i : Nat) {q : List Nat} (hp : q.Perm (joinL l i)) (hs : q.Pairwise (· ≤ ·)) : q = nbs l n i := by
  refine strict_ext _ _ ?_ (nbs_strict l n i) fun x => ?_
  · have hn : q.Nodup := hp.nodup_iff.2 (joinL_nodup h ho i)
    have := List.pairwise_iff_getElem.1 hs
    have h2 := List.pairwise_iff_getElem.1 hn
    exact List.pairwise_iff_getElem.2 fun a b ha hb hab => by have := this a b ha hb hab; have := h2 a b ha hb hab; omega
  · rw [hp.mem_iff, joinL_mem h]

/-! How many messages. -/
def dirs (l : List Lk) : List (Nat × Nat) := l.flatMap fun x => [(x.a.toNat, x.b.toNat), (x.b.toNat, x.a.toNat)]
theorem dirs_len (l : List Lk) : (dirs l).length = 2 * l.length := by
  induction l with
  | nil => rfl
  | cons x l ih => simp only [dirs, List.flatMap_cons, List.length_append, List.length_cons, List.length_nil] at *; omega
theorem dirs_mem {n : Nat} {l : List Lk} (h : LkOk n l) {i j : Nat} : (i, j) ∈ dirs l ↔ j ∈ nbs l n i := by
  rw [nbs_mem, adj_iff]
  unfold dirs
  rw [List.mem_flatMap]
  constructor
  · rintro ⟨x, hx, hj⟩
    have := h x hx
    simp only [List.mem_cons, List.not_mem_nil, or_false, Prod.mk.injEq] at hj
    exact ⟨by omega, x, hx, by omega⟩
  · rintro ⟨h1, x, hx, e⟩
    refine ⟨x, hx, ?_⟩
    simp only [List.mem_cons, List.not_mem_nil, or_false, Prod.mk.injEq]
    omega
theorem dirs_nodup {n : Nat} {l : List Lk} (h : LkOk n l) (ho : Once l) : (dirs l).Nodup := by
  induction l with
  | nil => simp [dirs]
  | cons x l ih =>
    obtain ⟨o1, o2⟩ := List.pairwise_cons.1 ho
    have hl : LkOk n l := fun y hy => h y (by simp [hy])
    have h1 := ih hl o2
    have hx := h x (by simp)
    have e : dirs (x :: l) = [(x.a.toNat, x.b.toNat), (x.b.toNat, x.a.toNat)] ++ dirs l := by simp [dirs, List.flatMap_cons]
    rw [e, List.nodup_append]
    refine ⟨?_, h1, ?_⟩
    · simp; omega
    · rintro ⟨a, b⟩ ha ⟨c, d⟩ hb e
      injection e with e1 e2
      subst e1 e2
      obtain ⟨y, hy, hj⟩ := (adj_iff l a b).1 (nbs_mem.1 ((dirs_mem hl).1 hb)).2
      simp only [List.mem_cons, List.not_mem_nil, or_false, Prod.mk.injEq] at ha
      have := hl y hy
      apply o1 y hy
      unfold SameL
      omega
theorem LkOk.filter {n : Nat} {l : List Lk} (h : LkOk n l) (p : Lk → Bool) : LkOk n (l.filter p) := fun x hx => h x (List.mem_filter.1 hx).1
theorem Once.filter {l : List Lk} (h : Once l) (p : Lk → Bool) : Once (l.filter p) := List.Pairwise.sublist List.filter_sublist h
theorem EInv.sent_le {n s : Nat} {l : List Lk} {S : ES} {got : List (Nat × Nat)} {dep : Nat → Nat} {hs : List Nat} (h : EInv n (nbs l n) s S got dep hs) (hl : LkOk n l) : S.sent ≤ 2 * l.length := by
  have := sub_len (S.way ++ got) (dirs l) h.once (fun m hm => by
    obtain ⟨i, j⟩ := m
    exact (dirs_mem hl).2 ((h.mem i j).1 hm).1)
  rw [dirs_len, List.length_append] at this
  rw [h.sent]; exact this

/-! Whatever was taken: when then the first is taken, again and again, nothing is in transit. -/
theorem esAt_ext (nb : Nat → List Nat) (s : Nat) {o p : List Int} (m : Nat) (h : ∀ i, i < m → o.getD i 0 = p.getD i 0) : esAt nb s o m = esAt nb s p m := by
  induction m with
  | zero => rfl
  | succ m ih => rw [esAt, esAt, ih (fun i hi => h i (by omega)), h m (by omega)]
theorem all_taken {n s : Nat} {l : List Lk} (hl : LkOk n l) (hs : s < n) (h15 : l.length ≤ 15) (o : List Int) :
    ∃ got dep hs, EInv n (nbs l n) s (esAt (nbs l n) s (o ++ List.replicate 30 0) (o.length + 30)) got dep hs ∧ (esAt (nbs l n) s (o ++ List.replicate 30 0) (o.length + 30)).way = [] := by
  have N := nbs_ok hl
  have key : ∀ j, j ≤ 30 → ∃ got dep hs, EInv n (nbs l n) s (esAt (nbs l n) s (o ++ List.replicate 30 0) (o.length + j)) got dep hs ∧ ((esAt (nbs l n) s (o ++ List.replicate 30 0) (o.length + j)).way = [] ∨ j ≤ got.length) := by
    intro j
    induction j with
    | zero =>
      intro _
      obtain ⟨g, d, q, h⟩ := esAt_inv N hs (o ++ List.replicate 30 0) (o.length + 0)
      exact ⟨g, d, q, h, .inr (Nat.zero_le _)⟩
    | succ j ih =>
      intro hj
      obtain ⟨g, d, q, h, hw⟩ := ih (by omega)
      have hz : (o ++ List.replicate 30 0).getD (o.length + j) 0 = (0 : Int) := by
        rw [List.getD_eq_getElem?_getD, List.getElem?_append_right (by omega), List.getElem?_replicate]
        split <;> rfl
      have e : esAt (nbs l n) s (o ++ List.replicate 30 0) (o.length + (j + 1)) = (esAt (nbs l n) s (o ++ List.replicate 30 0) (o.length + j)).step (nbs l n) s 0 := by
        rw [← Nat.add_assoc, esAt, hz]
      rw [e]
      obtain ⟨g', d', q', h', hl'⟩ := h.step N 0
      refine ⟨g', d', q', h', ?_⟩
      by_cases hin : inWay (esAt (nbs l n) s (o ++ List.replicate 30 0) (o.length + j)) 0 = true
      · right
        rw [hl' hin]
        rcases hw with hw | hw
        · rw [inWay, hw] at hin; simp at hin
        · omega
      · left
        rw [ES.step, if_neg hin]
        unfold inWay at hin
        simp at hin
        exact hin
  obtain ⟨g, d, q, h, hw⟩ := key 30 (Nat.le_refl _)
  refine ⟨g, d, q, h, ?_⟩
  rcases hw with hw | hw
  · exact hw
  · have h1 := h.sent_le hl
    have h2 := h.sent
    exact List.eq_nil_of_length_eq_zero (by omega)

/-! Who is joined with the start, as a word. -/
def jnW (W : Nat) (x : Lk) : Nat := if (W.testBit x.a.toNat || W.testBit x.b.toNat) = true then W ||| 2 ^ x.a.toNat ||| 2 ^ x.b.toNat else W
def jround (l : List Lk) (W : Nat) : Nat := l.foldl jnW W
def jset (l : List Lk) (s : Nat) : Nat → Nat
  | 0 => 2 ^ s
  | k + 1 => jround l (jset l s k)
theorem jnW_bit (W : Nat) (x : Lk) (i : Nat) : (jnW W x).testBit i = (W.testBit i || ((W.testBit x.a.toNat || W.testBit x.b.toNat) && (decide (x.a.toNat = i) || decide (x.b.toNat = i)))) := by
  unfold jnW
  by_cases h : (W.testBit x.a.toNat || W.testBit x.b.toNat) = true
  · rw [if_pos h, h, Nat.testBit_or, Nat.testBit_or, Nat.testBit_two_pow, Nat.testBit_two_pow, Bool.true_and, Bool.or_assoc]
  · rw [if_neg h]
    rw [Bool.not_eq_true] at h
    rw [h]; simp
theorem jround_snoc (l : List Lk) (x : Lk) (W : Nat) : jround (l ++ [x]) W = jnW (jround l W) x := by simp [jround]
theorem jnW_mono {W : Nat} {x : Lk} {i : Nat} (h : W.testBit i = true) : (jnW W x).testBit i = true := by rw [jnW_bit, h]; rfl
theorem jround_mono (l : List Lk) {W i : Nat} (h : W.testBit i = true) : (jround l W).testBit i = true := by
  induction l generalizing W with
  | nil => exact h
  | cons x l ih => exact ih (jnW_mono h)
theorem jround_link (l : List Lk) {W : Nat} {x : Lk} (hx : x ∈ l) (h : W.testBit x.a.toNat = true ∨ W.testBit x.b.toNat = true) : (jround l W).testBit x.a.toNat = true ∧ (jround l W).testBit x.b.toNat = true := by
  induction l generalizing W with
  | nil => cases hx
  | cons y l ih =>
    rcases List.mem_cons.1 hx with rfl | hx
    · have e : (W.testBit x.a.toNat || W.testBit x.b.toNat) = true := by rcases h with h | h <;> simp [h]
      exact ⟨jround_mono l (by rw [jnW_bit, e]; simp), jround_mono l (by rw [jnW_bit, e]; simp)⟩
    · refine ih hx ?_
      rcases h with h | h
      · exact .inl (jnW_mono h)
      · exact .inr (jnW_mono h)
theorem jround_sub (l : List Lk) {H : Nat → Prop} (hc : ∀ x ∈ l, H x.a.toNat ∨ H x.b.toNat → H x.a.toNat ∧ H x.b.toNat) {W : Nat} (h : ∀ i, W.testBit i = true → H i) : ∀ i, (jround l W).testBit i = true → H i := by
  induction l generalizing W with
  | nil => exact h
  | cons x l ih =>
    refine ih (fun y hy => hc y (by simp [hy])) fun i hi => ?_
    rw [jnW_bit] at hi
    rcases Bool.or_eq_true _ _ ▸ hi with h1 | h1
    · exact h i h1
    · simp only [Bool.and_eq_true, Bool.or_eq_true, decide_eq_true_eq] at h1
      have h2 := hc x (by simp) (by
        rcases h1.1 with h3 | h3
        · exact .inl (h _ h3)
        · exact .inr (h _ h3))
      rcases h1.2 with h3 | h3
      · rw [← h3]; exact h2.1
      · rw [← h3]; exact h2.2
theorem jset_mono (l : List Lk) (s : Nat) {k m i : Nat} (hkm : k ≤ m) (h : (jset l s k).testBit i = true) : (jset l s m).testBit i = true := by
  induction m with
  | zero => have : k = 0 := by omega
            subst this; exact h
  | succ m ih =>
    by_cases e : k = m + 1
    · subst e; exact h
    · exact jround_mono l (ih (by omega))
theorem jset_sub (l : List Lk) (s : Nat) {H : Nat → Prop} (hs : H s) (hc : ∀ x ∈ l, H x.a.toNat ∨ H x.b.toNat → H x.a.toNat ∧ H x.b.toNat) (k : Nat) : ∀ i, (jset l s k).testBit i = true → H i := by
  induction k with
  | zero =>
    intro i hi
    rw [jset, Nat.testBit_two_pow] at hi
    have : s = i := by simpa using hi
    rw [← this]; exact hs
  | succ k ih => exact jround_sub l hc ih
theorem jset_link {n : Nat} {l : List Lk} (hl : LkOk n l) (s : Nat) {k i j : Nat} (h : (jset l s k).testBit i = true) (hj : j ∈ nbs l n i) : (jset l s (k + 1)).testBit j = true := by
  obtain ⟨x, hx, e⟩ := (adj_iff l i j).1 (nbs_mem.1 hj).2
  have := hl x hx
  have h2 := jround_link l (W := jset l s k) hx (by
    rcases e with ⟨e1, e2⟩ | ⟨e1, e2⟩
    · left; rw [e1]; exact h
    · right; rw [e1]; exact h)
  rcases e with ⟨e1, e2⟩ | ⟨e1, e2⟩
  · have : x.b.toNat = j := by omega
    rw [← this]; exact h2.2
  · have : x.a.toNat = j := by omega
    rw [← this]; exact h2.1
theorem jnW_lt {n W : Nat} {x : Lk} (h : W < 2 ^ n) (ha : x.a.toNat < n) (hb : x.b.toNat < n) : jnW W x < 2 ^ n := by
  unfold jnW
  split
  · exact Nat.or_lt_two_pow (Nat.or_lt_two_pow h (Nat.pow_lt_pow_right (by omega) ha)) (Nat.pow_lt_pow_right (by omega) hb)
  · exact h
theorem jround_lt {n : Nat} (l : List Lk) (hl : LkOk n l) {W : Nat} (h : W < 2 ^ n) : jround l W < 2 ^ n := by
  induction l generalizing W with
  | nil => exact h
  | cons x l ih =>
    have := hl x (by simp)
    exact ih (fun y hy => hl y (by simp [hy])) (jnW_lt h (by omega) (by omega))
theorem jset_lt {n : Nat} (l : List Lk) (hl : LkOk n l) {s : Nat} (hs : s < n) (k : Nat) : jset l s k < 2 ^ n := by
  induction k with
  | zero => exact Nat.pow_lt_pow_right (by omega) hs
  | succ k ih => exact jround_lt l hl ih
def ownL (l : List Lk) (W : Nat) : List Lk := l.filter fun x => W.testBit x.a.toNat

section
variable {n s : Nat} {l : List Lk} {S : ES} {got : List (Nat × Nat)} {dep : Nat → Nat} {hs : List Nat}
/-- Who has heard is joined with the start. -/
theorem EInv.joined (h : EInv n (nbs l n) s S got dep hs) (hl : LkOk n l) : ∀ (d i : Nat), dep i ≤ d → (i = s ∨ 0 < S.took i) → (jset l s (dep i)).testBit i = true := by
  intro d
  induction d with
  | zero =>
    intro i hi hh
    by_cases e : i = s
    · rw [e, h.dep0, jset, Nat.testBit_two_pow]; simp
    · obtain ⟨p, _, _, _, h4⟩ := h.par1 i e (hh.resolve_left e); omega
  | succ d ih =>
    intro i hi hh
    by_cases e : i = s
    · rw [e, h.dep0, jset, Nat.testBit_two_pow]; simp
    · obtain ⟨p, h1, h2, h3, h4⟩ := h.par1 i e (hh.resolve_left e)
      rw [h4]
      exact jset_link hl s (ih p (by omega) h3) (nbs_comm hl h2)
theorem EInv.dep_lt (h : EInv n (nbs l n) s S got dep hs) (hl : LkOk n l) {i : Nat} (hi : i = s ∨ 0 < S.took i) : dep i < n := by
  have := h.hsLen (nbs_ok hl)
  by_cases e : i = s
  · rw [e, h.dep0]; omega
  · have := h.depL i e (hi.resolve_left e); omega
theorem EInv.own_ge (h : EInv n (nbs l n) s S got dep hs) (hl : LkOk n l) : S.sent ≤ 2 * (ownL l (jset l s n)).length := by
  have := sub_len (S.way ++ got) (dirs (ownL l (jset l s n))) h.once (fun m hm => by
    obtain ⟨i, j⟩ := m
    have hS := (h.mem i j).1 hm
    have hi : i = s ∨ 0 < S.took i := by
      rcases hS.2 with e | e
      · exact .inl e
      · exact .inr e.1
    have hd := h.dep_lt hl hi
    have hJ := h.joined hl (dep i) i (Nat.le_refl _) hi
    have hJi := jset_mono l s (Nat.le_of_lt hd) hJ
    have hJj := jset_mono l s (show dep i + 1 ≤ n by omega) (jset_link hl s hJ hS.1)
    unfold ownL
    rw [dirs_mem (hl.filter _), nbs_mem, adj_iff]
    obtain ⟨x, hx, e⟩ := (adj_iff l i j).1 (nbs_mem.1 hS.1).2
    have hlx := hl x hx
    refine ⟨(nbs_mem.1 hS.1).1, x, List.mem_filter.2 ⟨hx, ?_⟩, e⟩
    rcases e with ⟨e1, e2⟩ | ⟨e1, e2⟩
    · rw [e1]; exact hJi
    · rw [e2]; exact hJj)
  rw [dirs_len, List.length_append] at this
  rw [h.sent]; exact this
theorem EInv.own_pos (h : EInv n (nbs l n) s S got dep hs) (hl : LkOk n l) (hd : S.took s ≠ (nbs l n s).length) : 0 < (ownL l (jset l s n)).length := by
  have h1 := h.took_le (nbs_ok hl) s
  have h2 : 0 < (nbs l n s).length := by omega
  obtain ⟨j, hj⟩ := List.exists_mem_of_length_pos h2
  obtain ⟨x, hx, e⟩ := (adj_iff l s j).1 (nbs_mem.1 hj).2
  have h0 : (jset l s 0).testBit s = true := by rw [jset, Nat.testBit_two_pow]; simp
  have hn : 1 ≤ n := by have := h.lts; omega
  have hJs := jset_mono l s (Nat.zero_le n) h0
  have hJj := jset_mono l s hn (jset_link hl s h0 hj)
  refine List.length_pos_of_mem (a := x) (List.mem_filter.2 ⟨hx, ?_⟩)
  rcases e with ⟨e1, e2⟩ | ⟨e1, e2⟩
  · rw [e1]; exact hJs
  · rw [e2]; exact hJj
/-- Done: the joined ones are those that have heard. -/
theorem EInv.joined_iff (h : EInv n (nbs l n) s S got dep hs) (hl : LkOk n l) (hd : S.took s = (nbs l n s).length) (i : Nat) : (jset l s n).testBit i = true ↔ (i = s ∨ 0 < S.took i) := by
  constructor
  · refine jset_sub l s (H := fun i => i = s ∨ 0 < S.took i) (.inl rfl) (fun x hx hab => ?_) n i
    have hlx := hl x hx
    have e1 : x.b.toNat ∈ nbs l n x.a.toNat := nbs_mem.2 ⟨by omega, (adj_iff _ _ _).2 ⟨x, hx, .inl (by omega)⟩⟩
    rcases hab with h1 | h1
    · exact ⟨h1, (h.done_closed (nbs_ok hl) hd h1 e1).1⟩
    · exact ⟨(h.done_closed (nbs_ok hl) hd h1 (nbs_comm hl e1)).1, h1⟩
  · intro hi
    exact jset_mono l s (Nat.le_of_lt (h.dep_lt hl hi)) (h.joined hl (dep i) i (Nat.le_refl _) hi)
theorem EInv.own_eq (h : EInv n (nbs l n) s S got dep hs) (hl : LkOk n l) (ho : Once l) (hd : S.took s = (nbs l n s).length) : S.sent = 2 * (ownL l (jset l s n)).length := by
  have h1 := h.own_ge hl
  have h2 := sub_len (dirs (ownL l (jset l s n))) (S.way ++ got) (dirs_nodup (hl.filter _) (ho.filter _)) (fun m hm => by
    obtain ⟨i, j⟩ := m
    unfold ownL at hm
    rw [dirs_mem (hl.filter _), nbs_mem, adj_iff] at hm
    obtain ⟨hj, x, hx, e⟩ := hm
    obtain ⟨hx1, hx2⟩ := List.mem_filter.1 hx
    have hlx := hl x hx1
    have e1 : x.b.toNat ∈ nbs l n x.a.toNat := nbs_mem.2 ⟨by omega, (adj_iff _ _ _).2 ⟨x, hx1, .inl (by omega)⟩⟩
    have ha := (h.joined_iff hl hd _).1 hx2
    have hb := h.done_closed (nbs_ok hl) hd ha e1
    rcases e with ⟨e2, e3⟩ | ⟨e2, e3⟩
    · have e4 : x.a.toNat = i := by omega
      have e5 : x.b.toNat = j := by omega
      rw [e4, e5] at hb
      exact hb.2
    · have e4 : x.a.toNat = j := by omega
      have e5 : x.b.toNat = i := by omega
      have := (h.done_closed (nbs_ok hl) hd hb.1 (nbs_comm hl e1)).2
      rw [e4, e5] at this
      exact this)
  rw [dirs_len, List.length_append, ← h.sent] at h2
  omega
end
#print axioms EInv.own_eq
#print axioms all_taken
#print axioms sorted_nbs
end Go.Proofs.Ytjmkmfeibempjaa
