/-
  Causal broadcast: the states, the steps, and what they keep. Plain.
-/
import Derived.Test.YtkchccaeopdemaaMov
namespace Go.Proofs.Ytkchccaeopdemaa

/-- How many messages; who sent each, what each depends on; for process i, list 2i: what was delivered, list 2i + 1: what waits. -/
structure CS where
  m : Nat
  sd : Nat → Nat
  bh : Nat → List Nat
  ls : Nat → List Nat
def CS.td (S : CS) (i : Nat) : List Nat := S.ls (2 * i)
def CS.wt (S : CS) (i : Nat) : List Nat := S.ls (2 * i + 1)
def CS.begin : CS := ⟨0, fun _ => 0, fun _ => [], fun _ => []⟩

def rdy (bh : Nat → List Nat) (t : List Nat) (k : Nat) : Bool := (bh k).all fun x => t.contains x
theorem rdy_iff {bh : Nat → List Nat} {t : List Nat} {k : Nat} : rdy bh t k = true ↔ ∀ x ∈ bh k, x ∈ t := by simp [rdy]
/-- Which message is delivered next. -/
def dstep (bh : Nat → List Nat) (t q : List Nat) : Option Nat := q.find? (rdy bh t)
theorem dstep_some {bh : Nat → List Nat} {t q : List Nat} {k : Nat} (h : dstep bh t q = some k) : k ∈ q ∧ rdy bh t k = true := ⟨List.mem_of_find?_eq_some h, List.find?_some h⟩
theorem dstep_none {bh : Nat → List Nat} {t q : List Nat} : dstep bh t q = none ↔ ∀ k ∈ q, rdy bh t k = false := by simp [dstep, List.find?_eq_none]
def delv (bh : Nat → List Nat) : Nat → List Nat → List Nat → List Nat × List Nat
  | 0, t, q => (t, q)
  | f + 1, t, q => match dstep bh t q with
    | none => (t, q)
    | some k => delv bh f (t ++ [k]) (q.erase k)
/-- What is delivered, and what waits, when no more can be delivered. -/
def dlv (bh : Nat → List Nat) (t q : List Nat) : List Nat × List Nat := delv bh q.length t q
theorem dlv_none {bh : Nat → List Nat} {t q : List Nat} (h : dstep bh t q = none) : dlv bh t q = (t, q) := by
  unfold dlv
  cases q with
  | nil => rfl
  | cons a r => simp only [List.length_cons, delv, h]
theorem dlv_some {bh : Nat → List Nat} {t q : List Nat} {k : Nat} (h : dstep bh t q = some k) : dlv bh t q = dlv bh (t ++ [k]) (q.erase k) := by
  have hk := (dstep_some h).1
  have hl := List.length_erase_of_mem hk
  have h0 : 0 < q.length := List.length_pos_of_mem hk
  unfold dlv
  rw [hl]
  obtain ⟨n, hn⟩ : ∃ n, q.length = n + 1 := ⟨q.length - 1, by omega⟩
  rw [hn]
  simp only [delv, h, Nat.add_sub_cancel]
theorem delv_ind {bh : Nat → List Nat} {Q : List Nat → List Nat → Prop} (hs : ∀ t q k, Q t q → dstep bh t q = some k → Q (t ++ [k]) (q.erase k)) :
    ∀ f t q, q.length ≤ f → Q t q → Q (delv bh f t q).1 (delv bh f t q).2 ∧ dstep bh (delv bh f t q).1 (delv bh f t q).2 = none := by
  intro f
  induction f with
  | zero =>
    intro t q hq h
    have : q = [] := List.eq_nil_of_length_eq_zero (by omega)
    subst this
    exact ⟨h, rfl⟩
  | succ f ih =>
    intro t q hq h
    cases hd : dstep bh t q with
    | none =>
      have e : delv bh (f + 1) t q = (t, q) := by simp only [delv, hd]
      rw [e]
      exact ⟨h, hd⟩
    | some k =>
      have e : delv bh (f + 1) t q = delv bh f (t ++ [k]) (q.erase k) := by simp only [delv, hd]
      rw [e]
      have hl := List.length_erase_of_mem (dstep_some hd).1
      exact ih _ _ (by omega) (hs t q k h hd)
theorem dlv_ind {bh : Nat → List Nat} {Q : List Nat → List Nat → Prop} (hs : ∀ t q k, Q t q → dstep bh t q = some k → Q (t ++ [k]) (q.erase k)) {t q : List Nat} (h : Q t q) :
    Q (dlv bh t q).1 (dlv bh t q).2 ∧ dstep bh (dlv bh t q).1 (dlv bh t q).2 = none := delv_ind hs _ t q (Nat.le_refl _) h
theorem dlv_pre (bh : Nat → List Nat) (t q : List Nat) : ∃ s, (dlv bh t q).1 = t ++ s :=
  (dlv_ind (Q := fun t' _ => ∃ s, t' = t ++ s) (fun t' q' k h _ => by obtain ⟨s, rfl⟩ := h; exact ⟨s ++ [k], by simp⟩) ⟨[], by simp⟩).1
theorem dlv_len (bh : Nat → List Nat) (t q : List Nat) : (dlv bh t q).1.length + (dlv bh t q).2.length = t.length + q.length :=
  (dlv_ind (Q := fun t' q' => t'.length + q'.length = t.length + q.length) (fun t' q' k h hd => by
    have hl := List.length_erase_of_mem (dstep_some hd).1
    have h0 : 0 < q'.length := List.length_pos_of_mem (dstep_some hd).1
    rw [List.length_append, List.length_singleton, hl]; omega) rfl).1
theorem dlv_mem (bh : Nat → List Nat) (t q : List Nat) (x : Nat) (hx : x ∈ t ∨ x ∈ q) : x ∈ (dlv bh t q).1 ∨ x ∈ (dlv bh t q).2 :=
  (dlv_ind (Q := fun t' q' => x ∈ t' ∨ x ∈ q') (fun t' q' k h _ => by
    by_cases e : x = k
    · left; simp [e]
    · rcases h with h | h
      · left; simp [h]
      · right; exact (List.mem_erase_of_ne e).2 h) hx).1
theorem dlv_mem' (bh : Nat → List Nat) (t q : List Nat) (x : Nat) (hx : x ∈ (dlv bh t q).1 ∨ x ∈ (dlv bh t q).2) : x ∈ t ∨ x ∈ q :=
  (dlv_ind (Q := fun t' q' => (x ∈ t' ∨ x ∈ q') → (x ∈ t ∨ x ∈ q)) (fun t' q' k h hd => by
    intro h2
    apply h
    rcases h2 with h2 | h2
    · rcases List.mem_append.1 h2 with h3 | h3
      · exact .inl h3
      · rw [List.mem_singleton] at h3; rw [h3]; exact .inr (dstep_some hd).1
    · exact .inr (List.mem_of_mem_erase h2)) id).1 hx

/-- v among numbers that rise. -/
def ins (v : Nat) : List Nat → List Nat
  | [] => [v]
  | a :: q => if a < v then a :: ins v q else v :: a :: q
theorem ins_mem (v : Nat) (q : List Nat) (x : Nat) : x ∈ ins v q ↔ x = v ∨ x ∈ q := by
  induction q with
  | nil => simp [ins]
  | cons a q ih =>
    unfold ins
    split
    · rw [List.mem_cons, ih, List.mem_cons]
      constructor
      · rintro (h | h | h)
        · exact .inr (.inl h)
        · exact .inl h
        · exact .inr (.inr h)
      · rintro (h | h | h)
        · exact .inr (.inl h)
        · exact .inl h
        · exact .inr (.inr h)
    · rw [List.mem_cons]
theorem ins_len (v : Nat) (q : List Nat) : (ins v q).length = q.length + 1 := by
  induction q with
  | nil => rfl
  | cons a q ih =>
    unfold ins
    split
    · rw [List.length_cons, ih, List.length_cons]
    · simp
theorem ins_sorted {v : Nat} {q : List Nat} (h : q.Pairwise (· < ·)) (hv : v ∉ q) : (ins v q).Pairwise (· < ·) := by
  induction q with
  | nil => simp [ins]
  | cons a q ih =>
    rw [List.pairwise_cons] at h
    unfold ins
    split
    · next hlt =>
      rw [List.pairwise_cons]
      refine ⟨fun x hx => ?_, ih h.2 (fun h2 => hv (List.mem_cons_of_mem _ h2))⟩
      rcases (ins_mem v q x).1 hx with e | hx
      · rw [e]; exact hlt
      · exact h.1 x hx
    · next hlt =>
      have hne : v ≠ a := fun e => hv (by simp [e])
      rw [List.pairwise_cons, List.pairwise_cons]
      refine ⟨fun x hx => ?_, h⟩
      rcases List.mem_cons.1 hx with e | hx
      · omega
      · have := h.1 x hx; omega
theorem ins_eq {v : Nat} {q : List Nat} (h : q.Pairwise (· < ·)) : ins v q = q.take (q.countP (· < v)) ++ v :: q.drop (q.countP (· < v)) := by
  induction q with
  | nil => rfl
  | cons a q ih =>
    rw [List.pairwise_cons] at h
    unfold ins
    by_cases hlt : a < v
    · rw [if_pos hlt, List.countP_cons_of_pos (by simpa using hlt), List.take_succ_cons, List.drop_succ_cons, ih h.2]
      rfl
    · have h0 : q.countP (· < v) = 0 := by
        rw [List.countP_eq_zero]
        intro x hx
        have := h.1 x hx
        simp; omega
      rw [if_neg hlt, List.countP_cons_of_neg (by simpa using hlt), h0]
      rfl

def CS.tell (S : CS) (i : Nat) : CS := ⟨S.m + 1, up1 S.sd S.m i, up1 S.bh S.m (S.td i), up1 S.ls (2 * i) (S.td i ++ [S.m])⟩
/-- Process i has been delivered t, and q waits. -/
def CS.put (S : CS) (i : Nat) (t q : List Nat) : CS := { S with ls := up1 (up1 S.ls (2 * i) t) (2 * i + 1) q }
def CS.come (S : CS) (v i : Nat) : CS := S.put i (dlv S.bh (S.td i) (ins v (S.wt i))).1 (dlv S.bh (S.td i) (ins v (S.wt i))).2
theorem CS.put_td (S : CS) (i : Nat) (t q : List Nat) (j : Nat) : (S.put i t q).td j = if j = i then t else S.td j := by
  show up1 (up1 S.ls (2 * i) t) (2 * i + 1) q (2 * j) = _
  rw [up1_other _ _ (by omega)]
  by_cases e : j = i
  · subst e; rw [up1_same, if_pos rfl]
  · rw [up1_other _ _ (by omega), if_neg e]; rfl
theorem CS.put_wt (S : CS) (i : Nat) (t q : List Nat) (j : Nat) : (S.put i t q).wt j = if j = i then q else S.wt j := by
  show up1 (up1 S.ls (2 * i) t) (2 * i + 1) q (2 * j + 1) = _
  by_cases e : j = i
  · subst e; rw [up1_same, if_pos rfl]
  · rw [up1_other _ _ (by omega), up1_other _ _ (by omega), if_neg e]; rfl
theorem CS.tell_td (S : CS) (i j : Nat) : (S.tell i).td j = if j = i then S.td i ++ [S.m] else S.td j := by
  show up1 S.ls (2 * i) _ (2 * j) = _
  by_cases e : j = i
  · subst e; rw [up1_same, if_pos rfl]
  · rw [up1_other _ _ (by omega), if_neg e]; rfl
theorem CS.tell_wt (S : CS) (i j : Nat) : (S.tell i).wt j = S.wt j := by
  show up1 S.ls (2 * i) _ (2 * j + 1) = _
  rw [up1_other _ _ (by omega)]; rfl

open Classical in
noncomputable def stepC (n : Nat) (S : CS) (m : Mv) : CS × Int :=
  if m.k = 1 then
    if 0 ≤ m.f ∧ m.f < n then (S.tell m.f.toNat, 0) else (S, 2)
  else if m.k = 2 then
    if 0 ≤ m.t ∧ m.t < n then
      if m.v < 0 ∨ (S.m : Int) ≤ m.v then (S, 4)
      else if m.v.toNat ∈ S.wt m.t.toNat ∨ m.v.toNat ∈ S.td m.t.toNat then (S, 7)
      else (S.come m.v.toNat m.t.toNat, 0)
    else (S, 2)
  else (S, 6)
noncomputable def cAt (n : Nat) (l : List Mv) : Nat → CS
  | 0 => CS.begin
  | k + 1 => (stepC n (cAt n l k) (mv l k)).1
noncomputable def codeC (n : Nat) (l : List Mv) (k : Nat) : Int := (stepC n (cAt n l k) (mv l k)).2

/-- What one process's lists keep. -/
structure PI (m : Nat) (bh : Nat → List Nat) (t q : List Nat) : Prop where
  tl : ∀ x ∈ t, x < m
  ql : ∀ x ∈ q, x < m
  nd : t.Nodup
  so : q.Pairwise (· < ·)
  ap : ∀ x ∈ q, x ∉ t
  od : ∀ (k y : Nat), t[k]? = some y → ∀ x ∈ bh y, x ∈ t.take k
theorem sorted_nodup {q : List Nat} (h : q.Pairwise (· < ·)) : q.Nodup := by
  unfold List.Nodup
  exact List.pairwise_iff_getElem.2 fun i j hi hj hij => Nat.ne_of_lt (List.pairwise_iff_getElem.1 h i j hi hj hij)
theorem PI.step {m : Nat} {bh : Nat → List Nat} {t q : List Nat} {k : Nat} (h : PI m bh t q) (hd : dstep bh t q = some k) : PI m bh (t ++ [k]) (q.erase k) := by
  obtain ⟨hk, hr⟩ := dstep_some hd
  have hnd := sorted_nodup h.so
  refine ⟨fun x hx => ?_, fun x hx => h.ql x (List.mem_of_mem_erase hx), ?_, h.so.sublist List.erase_sublist, fun x hx => ?_, fun j y hj x hx => ?_⟩
  · rcases List.mem_append.1 hx with hx | hx
    · exact h.tl x hx
    · rw [List.mem_singleton] at hx; rw [hx]; exact h.ql k hk
  · rw [List.nodup_append]
    refine ⟨h.nd, by simp, fun a ha b hb => ?_⟩
    rw [List.mem_singleton] at hb
    subst hb
    intro e
    exact h.ap b hk (e ▸ ha)
  · have h1 := (List.Nodup.mem_erase_iff hnd).1 hx
    rw [List.mem_append, List.mem_singleton]
    rintro (h2 | h2)
    · exact h.ap x h1.2 h2
    · exact h1.1 h2
  · by_cases hlt : j < t.length
    · rw [List.getElem?_append_left hlt] at hj
      rw [List.take_append_of_le_length (by omega)]
      exact h.od j y hj x hx
    · rw [List.getElem?_append_right (by omega)] at hj
      have e : j - t.length = 0 := by
        rcases Nat.eq_zero_or_pos (j - t.length) with h1 | h1
        · exact h1
        · rw [List.getElem?_eq_none (by simp; omega)] at hj; cases hj
      rw [e] at hj
      simp at hj
      subst hj
      have ej : j = t.length := by omega
      subst ej
      rw [List.take_left' rfl]
      exact rdy_iff.1 hr x hx
theorem PI.dlv {m : Nat} {bh : Nat → List Nat} {t q : List Nat} (h : PI m bh t q) : PI m bh (dlv bh t q).1 (dlv bh t q).2 ∧ dstep bh (Go.Proofs.Ytkchccaeopdemaa.dlv bh t q).1 (Go.Proofs.Ytkchccaeopdemaa.dlv bh t q).2 = none :=
  dlv_ind (Q := PI m bh) (fun _ _ _ h hd => h.step hd) h
theorem PI.ins {m : Nat} {bh : Nat → List Nat} {t q : List Nat} {v : Nat} (h : PI m bh t q) (hv : v < m) (hq : v ∉ q) (ht : v ∉ t) : PI m bh t (ins v q) :=
  ⟨h.tl, fun x hx => by rcases (ins_mem v q x).1 hx with e | hx; exact e ▸ hv; exact h.ql x hx, h.nd, ins_sorted h.so hq, fun x hx => by rcases (ins_mem v q x).1 hx with e | hx; exact e ▸ ht; exact h.ap x hx, h.od⟩

structure CInv (n : Nat) (S : CS) : Prop where
  pi : ∀ i, PI S.m S.bh (S.td i) (S.wt i)
  st : ∀ i, dstep S.bh (S.td i) (S.wt i) = none
  sd : ∀ k, k < S.m → S.sd k < n
  ow : ∀ k, k < S.m → (S.td (S.sd k)).take (S.bh k).length = S.bh k ∧ (S.td (S.sd k))[(S.bh k).length]? = some k
  bl : ∀ k, k < S.m → ∀ x ∈ S.bh k, x < k
theorem CInv.begin (n : Nat) : CInv n CS.begin :=
  ⟨fun i => ⟨fun x hx => (by cases hx), fun x hx => (by cases hx), List.nodup_nil, List.Pairwise.nil, fun x hx => (by cases hx), fun k y h => (by simp [CS.begin, CS.td] at h)⟩, fun _ => rfl, fun k hk => absurd hk (Nat.not_lt_zero _), fun k hk => absurd hk (Nat.not_lt_zero _), fun k hk => absurd hk (Nat.not_lt_zero _)⟩
theorem CInv.tell {n : Nat} {S : CS} (h : CInv n S) {i : Nat} (hi : i < n) : CInv n (S.tell i) := by
  have hbk : ∀ k, k < S.m → (S.tell i).bh k = S.bh k := fun k hk => up1_other _ _ (by omega)
  have hbm : (S.tell i).bh S.m = S.td i := up1_same _ _ _
  have hsk : ∀ k, k < S.m → (S.tell i).sd k = S.sd k := fun k hk => up1_other _ _ (by omega)
  have hsm : (S.tell i).sd S.m = i := up1_same _ _ _
  have hm : (S.tell i).m = S.m + 1 := rfl
  have hpre : ∀ j, ∃ s, (S.tell i).td j = S.td j ++ s := fun j => by
    rw [S.tell_td]
    by_cases e : j = i
    · subst e; exact ⟨[S.m], by rw [if_pos rfl]⟩
    · exact ⟨[], by rw [if_neg e]; simp⟩
  have hmem : ∀ j x, x ∈ (S.tell i).td j → x < S.m → x ∈ S.td j := fun j x hx hlt => by
    rw [S.tell_td] at hx
    by_cases e : j = i
    · rw [if_pos e] at hx
      rcases List.mem_append.1 hx with h2 | h2
      · rw [e]; exact h2
      · rw [List.mem_singleton] at h2; omega
    · rw [if_neg e] at hx; exact hx
  refine ⟨fun j => ⟨fun x hx => ?_, fun x hx => ?_, ?_, ?_, fun x hx => ?_, fun k y hk x hx => ?_⟩, fun j => ?_, fun k hk => ?_, fun k hk => ?_, fun k hk x hx => ?_⟩
  · rw [hm]
    rw [S.tell_td] at hx
    by_cases e : j = i
    · rw [if_pos e] at hx
      rcases List.mem_append.1 hx with h2 | h2
      · have := (h.pi i).tl x h2; omega
      · rw [List.mem_singleton] at h2; omega
    · rw [if_neg e] at hx
      have := (h.pi j).tl x hx; omega
  · rw [S.tell_wt] at hx
    have := (h.pi j).ql x hx
    rw [hm]; omega
  · rw [S.tell_td]
    by_cases e : j = i
    · rw [if_pos e, List.nodup_append]
      refine ⟨(h.pi i).nd, by simp, fun a ha b hb => ?_⟩
      rw [List.mem_singleton] at hb
      have := (h.pi i).tl a ha
      omega
    · rw [if_neg e]; exact (h.pi j).nd
  · rw [S.tell_wt]; exact (h.pi j).so
  · rw [S.tell_wt] at hx
    intro h2
    exact (h.pi j).ap x hx (hmem j x h2 ((h.pi j).ql x hx))
  · rw [S.tell_td] at hk ⊢
    by_cases e : j = i
    · rw [if_pos e] at hk ⊢
      by_cases hlt : k < (S.td i).length
      · rw [List.getElem?_append_left hlt] at hk
        have hym := (h.pi i).tl y (List.mem_of_getElem? hk)
        rw [hbk y hym] at hx
        rw [List.take_append_of_le_length (by omega)]
        exact (h.pi i).od k y hk x hx
      · rw [List.getElem?_append_right (by omega)] at hk
        have e0 : k - (S.td i).length = 0 := by
          rcases Nat.eq_zero_or_pos (k - (S.td i).length) with h1 | h1
          · exact h1
          · rw [List.getElem?_eq_none (by simp; omega)] at hk; cases hk
        rw [e0] at hk
        simp at hk
        subst hk
        rw [hbm] at hx
        have ek : k = (S.td i).length := by omega
        rw [ek, List.take_left' rfl]
        exact hx
    · rw [if_neg e] at hk ⊢
      have hym := (h.pi j).tl y (List.mem_of_getElem? hk)
      rw [hbk y hym] at hx
      exact (h.pi j).od k y hk x hx
  · rw [dstep_none, S.tell_wt]
    intro k hk
    have hkm := (h.pi j).ql k hk
    have h1 := dstep_none.1 (h.st j) k hk
    rw [← Bool.not_eq_true, rdy_iff] at h1 ⊢
    intro h2
    rw [hbk k hkm] at h2
    exact h1 fun x hx => hmem j x (h2 x hx) (Nat.lt_trans (h.bl k hkm x hx) hkm)
  · by_cases e : k = S.m
    · rw [e, hsm]; exact hi
    · rw [hm] at hk
      rw [hsk k (by omega)]; exact h.sd k (by omega)
  · by_cases e : k = S.m
    · rw [e, hsm, hbm, S.tell_td, if_pos rfl]
      exact ⟨List.take_left' rfl, by rw [List.getElem?_append_right (Nat.le_refl _)]; simp⟩
    · rw [hm] at hk
      have hk' : k < S.m := by omega
      rw [hsk k hk', hbk k hk']
      obtain ⟨s, hs⟩ := hpre (S.sd k)
      obtain ⟨h1, h2⟩ := h.ow k hk'
      have hlt : (S.bh k).length < (S.td (S.sd k)).length := (List.getElem?_eq_some_iff.1 h2).1
      rw [hs, List.take_append_of_le_length (by omega), List.getElem?_append_left hlt]
      exact ⟨h1, h2⟩
  · by_cases e : k = S.m
    · rw [e] at hx ⊢
      rw [hbm] at hx
      exact (h.pi i).tl x hx
    · rw [hm] at hk
      rw [hbk k (by omega)] at hx
      exact h.bl k (by omega) x hx
theorem CInv.come {n : Nat} {S : CS} (h : CInv n S) {i v : Nat} (hv : v < S.m) (h1 : v ∉ S.wt i) (h2 : v ∉ S.td i) : CInv n (S.come v i) := by
  have hp := ((h.pi i).ins hv h1 h2).dlv
  obtain ⟨s, hs⟩ := dlv_pre S.bh (S.td i) (ins v (S.wt i))
  have htd : ∀ j, ∃ s, (S.come v i).td j = S.td j ++ s := fun j => by
    unfold CS.come
    rw [CS.put_td]
    by_cases e : j = i
    · rw [if_pos e, hs, e]; exact ⟨s, rfl⟩
    · rw [if_neg e]; exact ⟨[], by simp⟩
  refine ⟨fun j => ?_, fun j => ?_, h.sd, fun k hk => ?_, h.bl⟩
  · show PI S.m S.bh ((S.come v i).td j) ((S.come v i).wt j)
    unfold CS.come
    rw [CS.put_td, CS.put_wt]
    by_cases e : j = i
    · rw [if_pos e, if_pos e]; exact hp.1
    · rw [if_neg e, if_neg e]; exact h.pi j
  · show dstep S.bh ((S.come v i).td j) ((S.come v i).wt j) = none
    unfold CS.come
    rw [CS.put_td, CS.put_wt]
    by_cases e : j = i
    · rw [if_pos e, if_pos e]; exact hp.2
    · rw [if_neg e, if_neg e]; exact h.st j
  · show ((S.come v i).td (S.sd k)).take (S.bh k).length = S.bh k ∧ ((S.come v i).td (S.sd k))[(S.bh k).length]? = some k
    obtain ⟨s, hs⟩ := htd (S.sd k)
    obtain ⟨h1, h2⟩ := h.ow k hk
    have hlt : (S.bh k).length < (S.td (S.sd k)).length := (List.getElem?_eq_some_iff.1 h2).1
    rw [hs, List.take_append_of_le_length (by omega), List.getElem?_append_left hlt]
    exact ⟨h1, h2⟩
theorem stepC_cases (n : Nat) (S : CS) (m : Mv) : (stepC n S m).1 = S ∨ (∃ i : Nat, i < n ∧ m.k = 1 ∧ m.f = (i : Int) ∧ stepC n S m = (S.tell i, 0)) ∨ (∃ i v : Nat, i < n ∧ v < S.m ∧ m.k = 2 ∧ v ∉ S.wt i ∧ v ∉ S.td i ∧ m.v = (v : Int) ∧ m.t = (i : Int) ∧ stepC n S m = (S.come v i, 0)) := by
  unfold stepC
  split
  · next hk =>
    split
    · next h => exact .inr (.inl ⟨m.f.toNat, by omega, hk, by omega, rfl⟩)
    · exact .inl rfl
  · split
    · next hk =>
      split
      · split
        · exact .inl rfl
        · split
          · exact .inl rfl
          · next h1 h2 h3 => exact .inr (.inr ⟨m.t.toNat, m.v.toNat, by omega, by omega, hk, fun h => h3 (.inl h), fun h => h3 (.inr h), by omega, by omega, rfl⟩)
      · exact .inl rfl
    · exact .inl rfl
theorem CInv.step {n : Nat} {S : CS} (h : CInv n S) (m : Mv) : CInv n (stepC n S m).1 := by
  rcases stepC_cases n S m with e | ⟨i, hi, _, _, e⟩ | ⟨i, v, hi, hv, _, h1, h2, _, _, e⟩
  · rw [e]; exact h
  · rw [e]; exact h.tell hi
  · rw [e]; exact h.come hv h1 h2
theorem CInv.at_ (n : Nat) (l : List Mv) (k : Nat) : CInv n (cAt n l k) := by
  induction k with
  | zero => exact CInv.begin n
  | succ k ih => exact ih.step _

theorem step_td (n : Nat) (S : CS) (m : Mv) (j : Nat) : ∃ s, (stepC n S m).1.td j = S.td j ++ s := by
  rcases stepC_cases n S m with e | ⟨i, hi, _, _, e⟩ | ⟨i, v, hi, hv, _, h1, h2, _, _, e⟩
  · rw [e]; exact ⟨[], by simp⟩
  · rw [e]
    show ∃ s, (S.tell i).td j = _
    rw [CS.tell_td]
    by_cases e : j = i
    · rw [if_pos e, e]; exact ⟨_, rfl⟩
    · rw [if_neg e]; exact ⟨[], by simp⟩
  · rw [e]
    show ∃ s, (S.come v i).td j = _
    obtain ⟨s, hs⟩ := dlv_pre S.bh (S.td i) (ins v (S.wt i))
    unfold CS.come
    rw [CS.put_td]
    by_cases e : j = i
    · rw [if_pos e, hs, e]; exact ⟨s, rfl⟩
    · rw [if_neg e]; exact ⟨[], by simp⟩
theorem cAt_td (n : Nat) (l : List Mv) {q k : Nat} (h : q ≤ k) (j : Nat) : ∃ s, (cAt n l k).td j = (cAt n l q).td j ++ s := by
  induction k with
  | zero => have : q = 0 := by omega
            subst this; exact ⟨[], by simp⟩
  | succ k ih =>
    by_cases e : q = k + 1
    · subst e; exact ⟨[], by simp⟩
    · obtain ⟨s, hs⟩ := ih (by omega)
      obtain ⟨s', hs'⟩ := step_td n (cAt n l k) (mv l k) j
      exact ⟨s ++ s', by rw [← List.append_assoc, ← hs]; exact hs'⟩
theorem step_len2 (n : Nat) (S : CS) (m : Mv) (j : Nat) : ((stepC n S m).1.td j).length + ((stepC n S m).1.wt j).length ≤ (S.td j).length + (S.wt j).length + 1 ∧ (stepC n S m).1.m ≤ S.m + 1 := by
  rcases stepC_cases n S m with e | ⟨i, hi, _, _, e⟩ | ⟨i, v, hi, hv, _, h1, h2, _, _, e⟩
  · rw [e]; omega
  · rw [e]
    refine ⟨?_, Nat.le_refl _⟩
    show ((S.tell i).td j).length + ((S.tell i).wt j).length ≤ _
    rw [CS.tell_td, CS.tell_wt]
    by_cases e : j = i
    · rw [if_pos e, e, List.length_append, List.length_singleton]; omega
    · rw [if_neg e]; omega
  · rw [e]
    refine ⟨?_, Nat.le_succ _⟩
    show ((S.come v i).td j).length + ((S.come v i).wt j).length ≤ _
    have hl := dlv_len S.bh (S.td i) (ins v (S.wt i))
    rw [ins_len] at hl
    unfold CS.come
    rw [CS.put_td, CS.put_wt]
    by_cases e : j = i
    · rw [if_pos e, if_pos e, e]; omega
    · rw [if_neg e, if_neg e]; omega
theorem cAt_len (n : Nat) (l : List Mv) (k j : Nat) : ((cAt n l k).td j).length + ((cAt n l k).wt j).length ≤ k ∧ (cAt n l k).m ≤ k := by
  induction k with
  | zero => exact ⟨Nat.le_refl _, Nat.le_refl _⟩
  | succ k ih =>
    have := step_len2 n (cAt n l k) (mv l k) j
    exact ⟨Nat.le_trans this.1 (by omega), Nat.le_trans this.2 (by omega)⟩
theorem codeC_le (n : Nat) (S : CS) (m : Mv) : 0 ≤ (stepC n S m).2 ∧ (stepC n S m).2 ≤ 7 := by
  unfold stepC
  repeat' split
  all_goals (constructor <;> simp)
theorem mvC_take (l : List Mv) {q k : Nat} (h : k < q) : mv (l.take q) k = mv l k := by
  unfold mv
  rw [List.getElem?_take_of_lt h]
theorem cAt_take (n : Nat) (l : List Mv) {q k : Nat} (h : k ≤ q) : cAt n (l.take q) k = cAt n l k := by
  induction k with
  | zero => rfl
  | succ k ih => unfold cAt; rw [ih (by omega), mvC_take l (by omega)]

#print axioms CInv.at_
#print axioms cAt_td
end Go.Proofs.Ytkchccaeopdemaa
