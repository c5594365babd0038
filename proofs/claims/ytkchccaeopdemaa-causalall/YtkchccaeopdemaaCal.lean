/-
  Causal broadcast: when all messages have come to all, all are delivered. Plain.
-/
import Derived.Test.YtkchccaeopdemaaCau
namespace Go.Proofs.Ytkchccaeopdemaa

/-- Message k comes to process i. -/
def cmM (i k : Nat) : Mv := ⟨2, 0, (i : Int), (k : Int)⟩
/-- The last j of M messages come to i, the last ones first. -/
def cmRow (i M : Nat) : Nat → List Mv
  | 0 => []
  | j + 1 => cmRow i M j ++ [cmM i (M - 1 - j)]
def cmAll (M : Nat) : Nat → List Mv
  | 0 => []
  | i + 1 => cmAll M i ++ cmRow i M M
def scrA (l : List Mv) (M i j : Nat) : List Mv := l ++ cmAll M i ++ cmRow i M j
theorem cmRow_len (i M j : Nat) : (cmRow i M j).length = j := by
  induction j with
  | zero => rfl
  | succ j ih => rw [cmRow, List.length_append, ih]; rfl
theorem cmAll_len (M i : Nat) : (cmAll M i).length = i * M := by
  induction i with
  | zero => simp [cmAll]
  | succ i ih => rw [cmAll, List.length_append, ih, cmRow_len, Nat.succ_mul]
theorem scrA_len (l : List Mv) (M i j : Nat) : (scrA l M i j).length = l.length + i * M + j := by
  unfold scrA
  rw [List.length_append, List.length_append, cmAll_len, cmRow_len]
theorem scrA_zero (l : List Mv) (M : Nat) : scrA l M 0 0 = l := by simp [scrA, cmAll, cmRow]
theorem scrA_more (l : List Mv) (M i j : Nat) : scrA l M i (j + 1) = scrA l M i j ++ [cmM i (M - 1 - j)] := by
  unfold scrA
  rw [cmRow, ← List.append_assoc]
theorem scrA_row (l : List Mv) (M i : Nat) : scrA l M (i + 1) 0 = scrA l M i M := by simp [scrA, cmAll, cmRow]
theorem cmRow_mem {i M j : Nat} {m : Mv} (h : m ∈ cmRow i M j) : ∃ k, m = cmM i k ∧ (0 < M → k < M) := by
  induction j with
  | zero => cases h
  | succ j ih =>
    rw [cmRow] at h
    rcases List.mem_append.1 h with h | h
    · exact ih h
    · exact ⟨_, List.mem_singleton.1 h, fun _ => by omega⟩
theorem cmRow_all {i M : Nat} {j k : Nat} (hj : j ≤ M) (hk : M - j ≤ k) (hkM : k < M) : cmM i k ∈ cmRow i M j := by
  induction j with
  | zero => omega
  | succ j ih =>
    rw [cmRow, List.mem_append]
    by_cases e : k = M - 1 - j
    · right; rw [e]; simp
    · left; exact ih (by omega) (by omega)
theorem cmAll_mem {M i : Nat} {m : Mv} (h : m ∈ cmAll M i) : ∃ a k, a < i ∧ m = cmM a k ∧ (0 < M → k < M) := by
  induction i with
  | zero => cases h
  | succ i ih =>
    rw [cmAll] at h
    rcases List.mem_append.1 h with h | h
    · obtain ⟨a, k, h1, h2⟩ := ih h
      exact ⟨a, k, by omega, h2⟩
    · obtain ⟨k, h1, h2⟩ := cmRow_mem h
      exact ⟨i, k, by omega, h1, h2⟩
theorem cmAll_all {M i a k : Nat} (ha : a < i) (hk : k < M) : cmM a k ∈ cmAll M i := by
  induction i with
  | zero => omega
  | succ i ih =>
    rw [cmAll, List.mem_append]
    by_cases e : a = i
    · right; subst e; exact cmRow_all (Nat.le_refl _) (by omega) hk
    · left; exact ih (by omega)

/-- The state behind a list of moves. -/
noncomputable def runC (n : Nat) (S : CS) : List Mv → CS
  | [] => S
  | m :: r => runC n (stepC n S m).1 r
theorem runC_append (n : Nat) (S : CS) (a b : List Mv) : runC n S (a ++ b) = runC n (runC n S a) b := by
  induction a generalizing S with
  | nil => rfl
  | cons m r ih => exact ih _
theorem cAt_run (n : Nat) (l : List Mv) : ∀ k, k ≤ l.length → cAt n l k = runC n CS.begin (l.take k) := by
  intro k
  induction k with
  | zero => intro _; simp [cAt, runC]
  | succ k ih =>
    intro hk
    have e : l.take (k + 1) = l.take k ++ [l[k]'(by omega)] := by simp
    rw [e, runC_append, ← ih (by omega)]
    show (stepC n (cAt n l k) (mv l k)).1 = _
    rw [mv_get l (by omega)]
    rfl
theorem cAt_all (n : Nat) (l : List Mv) : cAt n l l.length = runC n CS.begin l := by rw [cAt_run n l l.length (Nat.le_refl _), List.take_length]
/-- What has come stays. -/
theorem step_seen {n : Nat} {S : CS} {m : Mv} {i x : Nat} (h : x ∈ S.td i ∨ x ∈ S.wt i) : x ∈ (stepC n S m).1.td i ∨ x ∈ (stepC n S m).1.wt i := by
  rcases stepC_cases n S m with e | ⟨j, hj, _, _, e⟩ | ⟨j, v, hj, hv, _, h1, h2, _, _, e⟩
  · rw [e]; exact h
  · rw [e]
    show x ∈ (S.tell j).td i ∨ x ∈ (S.tell j).wt i
    rw [CS.tell_td, CS.tell_wt]
    rcases h with h | h
    · left
      by_cases e : i = j
      · rw [if_pos e, List.mem_append]; left; rw [← e]; exact h
      · rw [if_neg e]; exact h
    · exact .inr h
  · rw [e]
    show x ∈ (S.come v j).td i ∨ x ∈ (S.come v j).wt i
    unfold CS.come
    rw [CS.put_td, CS.put_wt]
    by_cases e : i = j
    · rw [if_pos e, if_pos e]
      exact dlv_mem S.bh _ _ x (by rw [ins_mem, ← e]; rcases h with h | h; exact .inl h; exact .inr (.inr h))
    · rw [if_neg e, if_neg e]; exact h
theorem run_seen {n : Nat} {i x : Nat} : ∀ (l : List Mv) (S : CS), (x ∈ S.td i ∨ x ∈ S.wt i) → x ∈ (runC n S l).td i ∨ x ∈ (runC n S l).wt i
  | [], _, h => h
  | _ :: r, _, h => run_seen r _ (step_seen h)
theorem step_cm {n : Nat} {S : CS} {i k : Nat} (hi : i < n) (hk : k < S.m) : k ∈ (stepC n S (cmM i k)).1.td i ∨ k ∈ (stepC n S (cmM i k)).1.wt i := by
  by_cases h : k ∈ S.wt i ∨ k ∈ S.td i
  · rcases h with h | h
    · exact step_seen (.inr h)
    · exact step_seen (.inl h)
  · have e : stepC n S (cmM i k) = (S.come k i, 0) := by
      unfold stepC cmM
      simp only
      rw [if_neg (by omega), if_pos True.intro, if_pos (by omega), if_neg (by omega), if_neg (by simpa using h)]
      rfl
    rw [e]
    show k ∈ (S.come k i).td i ∨ k ∈ (S.come k i).wt i
    unfold CS.come
    rw [CS.put_td, CS.put_wt, if_pos rfl, if_pos rfl]
    exact dlv_mem S.bh _ _ k (.inr ((ins_mem _ _ _).2 (.inl rfl)))
theorem step_m2 {n : Nat} {S : CS} {m : Mv} (h : m.k = 2) : (stepC n S m).1.m = S.m := by
  rcases stepC_cases n S m with e | ⟨j, hj, h1, _, e⟩ | ⟨j, v, hj, hv, _, h1, h2, _, _, e⟩
  · rw [e]
  · omega
  · rw [e]; rfl
theorem run_m2 {n : Nat} : ∀ (l : List Mv) (S : CS), (∀ m ∈ l, m.k = 2) → (runC n S l).m = S.m
  | [], _, _ => rfl
  | m :: r, S, h => by
    rw [runC, run_m2 r _ (fun x hx => h x (List.mem_cons_of_mem _ hx)), step_m2 (h m (by simp))]
theorem run_cm {n : Nat} {i k : Nat} (hi : i < n) : ∀ (l : List Mv) (S : CS), (∀ m ∈ l, m.k = 2) → k < S.m → cmM i k ∈ l → k ∈ (runC n S l).td i ∨ k ∈ (runC n S l).wt i
  | [], _, _, _, h => by cases h
  | m :: r, S, h2, hk, h => by
    rw [runC]
    rcases List.mem_cons.1 h with e | h
    · rw [← e]
      exact run_seen r _ (step_cm hi hk)
    · exact run_cm hi r _ (fun x hx => h2 x (List.mem_cons_of_mem _ hx)) (by rw [step_m2 (h2 m (by simp))]; exact hk) h
theorem wt_nil {n : Nat} {S : CS} (h : CInv n S) {i : Nat} (hall : ∀ k, k < S.m → k ∈ S.td i ∨ k ∈ S.wt i) : S.wt i = [] := by
  cases hw : S.wt i with
  | nil => rfl
  | cons x r =>
    exfalso
    have hx : x ∈ S.wt i := by rw [hw]; simp
    have hxm := (h.pi i).ql x hx
    have hso := (h.pi i).so
    rw [hw, List.pairwise_cons] at hso
    have hf := dstep_none.1 (h.st i) x hx
    rw [← Bool.not_eq_true, rdy_iff] at hf
    apply hf
    intro y hy
    have hyx := h.bl x hxm y hy
    rcases hall y (by omega) with h1 | h1
    · exact h1
    · exfalso
      rw [hw] at h1
      rcases List.mem_cons.1 h1 with e | h1
      · omega
      · have := hso.1 y h1; omega
theorem all_told {n : Nat} (l : List Mv) {i : Nat} (hi : i < n) :
    (∀ k, k < (cAt n l l.length).m → k ∈ (runC n CS.begin (scrA l (cAt n l l.length).m n 0)).td i) ∧ ((runC n CS.begin (scrA l (cAt n l l.length).m n 0)).td i).length = (cAt n l l.length).m := by
  have e0 : scrA l (cAt n l l.length).m n 0 = l ++ cmAll (cAt n l l.length).m n := by simp [scrA, cmRow]
  have hS : runC n CS.begin (scrA l (cAt n l l.length).m n 0) = runC n (cAt n l l.length) (cmAll (cAt n l l.length).m n) := by rw [e0, runC_append, ← cAt_all]
  have hI : CInv n (runC n CS.begin (scrA l (cAt n l l.length).m n 0)) := by rw [← cAt_all]; exact CInv.at_ _ _ _
  have h2 : ∀ m ∈ cmAll (cAt n l l.length).m n, m.k = 2 := fun m hm => by
    obtain ⟨a, k, _, e, _⟩ := cmAll_mem hm
    rw [e]; rfl
  have hm : (runC n CS.begin (scrA l (cAt n l l.length).m n 0)).m = (cAt n l l.length).m := by rw [hS]; exact run_m2 _ _ h2
  have hall : ∀ k, k < (runC n CS.begin (scrA l (cAt n l l.length).m n 0)).m → k ∈ (runC n CS.begin (scrA l (cAt n l l.length).m n 0)).td i ∨ k ∈ (runC n CS.begin (scrA l (cAt n l l.length).m n 0)).wt i := fun k hk => by
    rw [hm] at hk
    rw [hS]
    exact run_cm hi _ _ h2 hk (cmAll_all hi hk)
  have hw := wt_nil hI hall
  generalize runC n CS.begin (scrA l (cAt n l l.length).m n 0) = S at *
  rw [← hm]
  have h1 : ∀ k, k < S.m → k ∈ S.td i := fun k hk => by
    rcases hall k hk with h | h
    · exact h
    · rw [hw] at h; cases h
  refine ⟨h1, ?_⟩
  have ha := List.Nodup.length_le_of_subset (hI.pi i).nd (l₂ := List.range S.m) (fun x hx => List.mem_range.2 ((hI.pi i).tl x hx))
  have hb := List.Nodup.length_le_of_subset (List.nodup_range (n := S.m)) (l₂ := S.td i) (fun x hx => h1 x (List.mem_range.1 hx))
  rw [List.length_range] at ha hb
  omega

#print axioms all_told
end Go.Proofs.Ytkchccaeopdemaa
