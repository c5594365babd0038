/-
  Behind a short script, a mark and six rounds of receipts all is recorded.
-/
import Derived.Test.YtebighmddimnkaaMov
import Derived.Test.YtebighmddimnkaaMon
namespace Go.Proofs.Ytebighmddimnkaa

def tkM (i j : Nat) : Mv := ⟨2, (i : Int), (j : Int), 0⟩
def mkM : Mv := ⟨3, 0, 0, 0⟩
def rowL (i : Nat) : Nat → List Mv
  | 0 => []
  | j + 1 => if i ≠ j then rowL i j ++ [tkM i j] else rowL i j
def rndL (n : Nat) : Nat → List Mv
  | 0 => []
  | i + 1 => rndL n i ++ rowL i n
def rdsL (n : Nat) : Nat → List Mv
  | 0 => []
  | k + 1 => rdsL n k ++ rndL n n
theorem rowL_len (i j : Nat) : (rowL i j).length ≤ j := by
  induction j with
  | zero => exact Nat.le_refl _
  | succ j ih =>
    rw [rowL]
    split
    · rw [List.length_append, List.length_singleton]; omega
    · omega
theorem rndL_len (n i : Nat) : (rndL n i).length ≤ i * n := by
  induction i with
  | zero => simp [rndL]
  | succ i ih =>
    have := rowL_len i n
    rw [rndL, List.length_append, Nat.succ_mul]; omega
theorem rdsL_len (n k : Nat) : (rdsL n k).length ≤ k * (n * n) := by
  induction k with
  | zero => simp [rdsL]
  | succ k ih =>
    have := rndL_len n n
    rw [rdsL, List.length_append, Nat.succ_mul]; omega
theorem rowL_mem {i j b : Nat} (hb : b < j) (hne : i ≠ b) : tkM i b ∈ rowL i j := by
  induction j with
  | zero => omega
  | succ j ih =>
    rw [rowL]
    by_cases e : b = j
    · subst e
      rw [if_pos hne]
      simp
    · have := ih (by omega)
      split
      · exact List.mem_append.2 (.inl this)
      · exact this
theorem rndL_mem {n i a b : Nat} (ha : a < i) (hb : b < n) (hne : a ≠ b) : tkM a b ∈ rndL n i := by
  induction i with
  | zero => omega
  | succ i ih =>
    rw [rndL]
    by_cases e : a = i
    · subst e; exact List.mem_append.2 (.inr (rowL_mem hb hne))
    · exact List.mem_append.2 (.inl (ih (by omega)))
def TakeL (n : Nat) (ps : List Mv) : Prop := ∀ m ∈ ps, ∃ i j, i < n ∧ j < n ∧ i ≠ j ∧ m = tkM i j
theorem rowL_take {n i j : Nat} (hi : i < n) (hj : j ≤ n) : TakeL n (rowL i j) := by
  induction j with
  | zero => intro m hm; cases hm
  | succ j ih =>
    rw [rowL]
    split
    · next h =>
      intro m hm
      rcases List.mem_append.1 hm with h1 | h1
      · exact ih (by omega) m h1
      · rw [List.mem_singleton.1 h1]
        exact ⟨i, j, hi, by omega, h, rfl⟩
    · exact ih (by omega)
theorem rndL_take {n i : Nat} (hi : i ≤ n) : TakeL n (rndL n i) := by
  induction i with
  | zero => intro m hm; cases hm
  | succ i ih =>
    rw [rndL]
    intro m hm
    rcases List.mem_append.1 hm with h1 | h1
    · exact ih (by omega) m h1
    · exact rowL_take (by omega) (Nat.le_refl _) m h1

def runL (n : Nat) (S : St) : List Mv → St
  | [] => S
  | m :: r => runL n (stepS n S m).1 r
theorem runL_append (n : Nat) (S : St) (a b : List Mv) : runL n S (a ++ b) = runL n (runL n S a) b := by
  induction a generalizing S with
  | nil => rfl
  | cons m r ih => rw [List.cons_append, runL, runL, ih]
theorem stAt_run (n : Nat) (l : List Mv) (k : Nat) (hk : k ≤ l.length) : stAt n l k = runL n St.begin (l.take k) := by
  induction k with
  | zero => rfl
  | succ k ih =>
    rw [stAt, ih (by omega), List.take_add_one, runL_append, List.getElem?_eq_getElem (by omega)]
    simp only [Option.toList]
    rw [runL, runL, mv_get l (by omega)]
theorem stAt_all (n : Nat) (l : List Mv) : stAt n l l.length = runL n St.begin l := by rw [stAt_run n l _ (Nat.le_refl _), List.take_length]
theorem runL_inv {n : Nat} {S : St} (h : SInv n S) (l : List Mv) : SInv n (runL n S l) := by
  induction l generalizing S with
  | nil => exact h
  | cons m r ih => exact ih (h.step m)
theorem runL_rc {n : Nat} {S : St} {a : Nat} (h : S.rc a = true) (l : List Mv) : (runL n S l).rc a = true := by
  induction l generalizing S with
  | nil => exact h
  | cons m r ih => exact ih (step_rc n S m a h)
theorem runL_cl {n : Nat} {S : St} {a b : Nat} (h : S.cl a b = true) (l : List Mv) : (runL n S l).cl a b = true := by
  induction l generalizing S with
  | nil => exact h
  | cons m r ih => exact ih (step_cl n S m a b h)

/-- How many amounts lie ahead of the marker of a channel that is not closed. -/
def ahN (S : St) (x y : Nat) : Nat := if S.cl x y = true then 0 else (ah (S.q x y)).length
theorem record_ahN {n : Nat} {S : St} (h : SInv n S) {i : Nat} (hr : ¬ S.rc i = true) {x y : Nat} (hx : x < n) (hy : y < n) (hne : x ≠ y) : ahN (S.record n i) x y = ahN S x y := by
  unfold ahN
  show (if S.cl x y = true then 0 else (ah (if x = i ∧ y ≠ i ∧ y < n then S.q x y ++ [0] else S.q x y)).length) = _
  by_cases e : x = i ∧ y ≠ i ∧ y < n
  · rw [if_pos e]
    have hno : (0 : Int) ∉ S.q x y := fun h0 => hr (by rw [← e.1]; exact (h.mrk x y hx hy hne).2 (.inl h0))
    rw [ah_mark hno]
  · rw [if_neg e]
theorem take_step (n : Nat) (S : St) {i j : Nat} (hi : i < n) (hj : j < n) (hne : i ≠ j) : (stepS n S (tkM i j)).1 = if S.q i j = [] then S else S.take n i j := by
  unfold stepS tkM
  simp only
  rw [if_neg (by omega), if_neg (by omega), if_neg (by omega), if_neg (by omega)]
  simp only [Int.toNat_natCast]
  split <;> rfl
theorem take_ahN {n : Nat} {S : St} (h : SInv n S) {i j : Nat} (hi : i < n) (hj : j < n) (hne : i ≠ j) {x y : Nat} (hx : x < n) (hy : y < n) (hxy : x ≠ y) :
    ahN (stepS n S (tkM i j)).1 x y ≤ ahN S x y ∧ (x = i → y = j → ahN (stepS n S (tkM i j)).1 x y ≤ ahN S x y - 1) := by
  rw [take_step n S hi hj hne]
  by_cases hq : S.q i j = []
  · rw [if_pos hq]
    refine ⟨Nat.le_refl _, ?_⟩
    rintro rfl rfl
    unfold ahN
    rw [hq]
    split <;> simp [ah]
  · rw [if_neg hq]
    obtain ⟨z, r, hqr⟩ : ∃ z r, S.q i j = z :: r := by
      cases hc : S.q i j with
      | nil => exact absurd hc hq
      | cons a r => exact ⟨a, r, rfl⟩
    by_cases hz : z = 0
    · subst hz
      have ht : S.take n i j = ((S.pop i j).recIf n j).close i j := by
        unfold St.take
        rw [if_pos (by rw [hqr]; rfl)]
      rw [ht]
      by_cases e : x = i ∧ y = j
      · obtain ⟨rfl, rfl⟩ := e
        have : ahN (((S.pop x y).recIf n y).close x y) x y = 0 := by
          unfold ahN
          rw [if_pos (show ((((S.pop x y).recIf n y).close x y).cl x y) = true from up2_same _ _ _ _)]
        rw [this]
        exact ⟨Nat.zero_le _, fun _ _ => Nat.zero_le _⟩
      · refine ⟨?_, fun e1 e2 => absurd ⟨e1, e2⟩ e⟩
        have e1 : ahN (((S.pop i j).recIf n j).close i j) x y = ahN ((S.pop i j).recIf n j) x y := by
          unfold ahN
          have : (((S.pop i j).recIf n j).close i j).cl x y = ((S.pop i j).recIf n j).cl x y := up2_other _ _ e
          rw [this]; rfl
        have e2 : ahN ((S.pop i j).recIf n j) x y = ahN (S.recIf n j) x y := by
          unfold St.recIf
          by_cases hr : S.rc j = true
          · rw [if_pos hr, if_pos (show (S.pop i j).rc j = true from hr)]
            unfold ahN
            have : (S.pop i j).q x y = S.q x y := up2_other _ _ e
            rw [this]; rfl
          · rw [if_neg hr, if_neg (show ¬ (S.pop i j).rc j = true from hr), St.pop_record n S hne]
            unfold ahN
            have : ((S.record n j).pop i j).q x y = (S.record n j).q x y := up2_other _ _ e
            rw [this]; rfl
        rw [e1, e2]
        unfold St.recIf
        split
        · exact Nat.le_refl _
        · next hr => rw [record_ahN h hr hx hy hxy]; exact Nat.le_refl _
    · have ht : S.take n i j = (S.pop i j).got i j z := by
        have e : (S.q i j).headD 0 = z := by rw [hqr]; rfl
        unfold St.take
        rw [if_neg (by rw [e]; exact hz), e]
      have hcl : ((S.pop i j).got i j z).cl = S.cl := by unfold St.got; split <;> rfl
      have hqq : ((S.pop i j).got i j z).q = (S.pop i j).q := by unfold St.got; split <;> rfl
      rw [ht]
      unfold ahN
      rw [hcl, hqq]
      by_cases e : x = i ∧ y = j
      · obtain ⟨rfl, rfl⟩ := e
        have : (S.pop x y).q x y = r := (up2_same _ _ _ _).trans (by rw [hqr]; rfl)
        rw [this, hqr, ah, if_neg hz]
        split
        · exact ⟨Nat.le_refl _, fun _ _ => Nat.zero_le _⟩
        · simp
      · have : (S.pop i j).q x y = S.q x y := up2_other _ _ e
        rw [this]
        exact ⟨Nat.le_refl _, fun e1 e2 => absurd ⟨e1, e2⟩ e⟩
theorem take_close {n : Nat} {S : St} (h : SInv n S) {i j : Nat} (hi : i < n) (hj : j < n) (hne : i ≠ j) (h0 : ahN S i j = 0) (hr : S.rc i = true) : (stepS n S (tkM i j)).1.cl i j = true := by
  by_cases hc : S.cl i j = true
  · exact step_cl n S _ i j hc
  · have hm : (0 : Int) ∈ S.q i j := ((h.mrk i j hi hj hne).1 hr).resolve_right hc
    unfold ahN at h0
    rw [if_neg hc] at h0
    rw [take_step n S hi hj hne]
    obtain ⟨z, r, hqr⟩ : ∃ z r, S.q i j = z :: r := by
      cases hc : S.q i j with
      | nil => rw [hc] at hm; cases hm
      | cons a r => exact ⟨a, r, rfl⟩
    rw [if_neg (by rw [hqr]; simp)]
    have hz : z = 0 := by
      rw [hqr, ah] at h0
      split at h0
      · next h => exact h
      · simp at h0
    subst hz
    have ht : S.take n i j = ((S.pop i j).recIf n j).close i j := by
      unfold St.take
      rw [if_pos (by rw [hqr]; rfl)]
    rw [ht]
    exact up2_same _ _ _ _
theorem run_ahN {n : Nat} {S : St} (h : SInv n S) {ps : List Mv} (hp : TakeL n ps) {x y : Nat} (hx : x < n) (hy : y < n) (hxy : x ≠ y) : ahN (runL n S ps) x y ≤ ahN S x y := by
  induction ps generalizing S with
  | nil => exact Nat.le_refl _
  | cons m r ih =>
    obtain ⟨i, j, hi, hj, hne, rfl⟩ := hp m List.mem_cons_self
    exact Nat.le_trans (ih (h.step _) (fun m hm => hp m (List.mem_cons_of_mem _ hm))) (take_ahN h hi hj hne hx hy hxy).1
theorem run_less {n : Nat} {S : St} (h : SInv n S) {ps : List Mv} (hp : TakeL n ps) {x y : Nat} (hx : x < n) (hy : y < n) (hxy : x ≠ y) (hm : tkM x y ∈ ps) : ahN (runL n S ps) x y ≤ ahN S x y - 1 := by
  obtain ⟨a, b, rfl⟩ := List.append_of_mem hm
  have ha : TakeL n a := fun m hm => hp m (List.mem_append.2 (.inl hm))
  have hb : TakeL n b := fun m hm => hp m (List.mem_append.2 (.inr (List.mem_cons_of_mem _ hm)))
  rw [runL_append, runL]
  have h1 := run_ahN h ha hx hy hxy
  have h2 := (take_ahN (runL_inv h a) hx hy hxy hx hy hxy).2 rfl rfl
  have h3 := run_ahN ((runL_inv h a).step (tkM x y)) hb hx hy hxy
  omega
theorem run_close {n : Nat} {S : St} (h : SInv n S) {ps : List Mv} (hp : TakeL n ps) {x y : Nat} (hx : x < n) (hy : y < n) (hxy : x ≠ y) (hm : tkM x y ∈ ps) (h0 : ahN S x y = 0) (hr : S.rc x = true) : (runL n S ps).cl x y = true := by
  obtain ⟨a, b, rfl⟩ := List.append_of_mem hm
  have ha : TakeL n a := fun m hm => hp m (List.mem_append.2 (.inl hm))
  rw [runL_append, runL]
  have h1 := run_ahN h ha hx hy hxy
  exact runL_cl (take_close (runL_inv h a) hx hy hxy (by omega) (runL_rc hr a)) b
theorem step_ahN {n : Nat} {S : St} (h : SInv n S) (m : Mv) {x y : Nat} (hx : x < n) (hy : y < n) (hxy : x ≠ y) : ahN (stepS n S m).1 x y ≤ ahN S x y + 1 := by
  unfold stepS
  split
  · exact Nat.le_succ _
  split
  · split
    · exact Nat.le_succ _
    · next hb =>
      split
      · exact Nat.le_succ _
      · next hr => rw [record_ahN h hr hx hy hxy]; exact Nat.le_succ _
  split
  · exact Nat.le_succ _
  · next hb =>
    split
    · split
      · exact Nat.le_succ _
      · unfold ahN
        show (if S.cl x y = true then 0 else (ah (up2 S.q m.f.toNat m.t.toNat (S.q m.f.toNat m.t.toNat ++ [m.v]) x y)).length) ≤ _
        split
        · exact Nat.zero_le _
        · unfold up2
          split
          · next e =>
            rw [e.1, e.2]
            by_cases h0 : (0 : Int) ∈ S.q m.f.toNat m.t.toNat
            · rw [ah_yes h0]; exact Nat.le_succ _
            · rw [ah_no h0, List.length_append, ah_self h0]
              have := ah_le [m.v]
              simp only [List.length_singleton] at this
              omega
          · exact Nat.le_succ _
    · split
      · exact Nat.le_succ _
      · next hq =>
        have hi : m.f.toNat < n := by omega
        have hj : m.t.toNat < n := by omega
        have hne : m.f.toNat ≠ m.t.toNat := by omega
        have := (take_ahN h hi hj hne hx hy hxy).1
        rw [take_step n S hi hj hne, if_neg hq] at this
        show ahN (S.take n m.f.toNat m.t.toNat) x y ≤ _
        omega
theorem mark_step (n : Nat) (S : St) (hn : 0 < n) : (stepS n S mkM).1 = if S.rc 0 = true then S else S.record n 0 := by
  unfold stepS
  rw [if_neg (by show ¬ ((3 : Int) < 1 ∨ (3 : Int) < 3); omega), if_pos (show mkM.k = 3 from rfl), if_neg (by show ¬ ¬ ((0 : Int) ≤ 0 ∧ (0 : Int) < (n : Int)); omega)]
  show (if S.rc 0 = true then (S, (7 : Int)) else (S.record n 0, 0)).1 = _
  split <;> rfl
theorem mark_ahN {n : Nat} {S : St} (h : SInv n S) (hn : 0 < n) {x y : Nat} (hx : x < n) (hy : y < n) (hxy : x ≠ y) : ahN (stepS n S mkM).1 x y ≤ ahN S x y := by
  rw [mark_step n S hn]
  split
  · exact Nat.le_refl _
  · next hr => rw [record_ahN h hr hx hy hxy]; exact Nat.le_refl _
theorem mark_rc {n : Nat} {S : St} (hn : 0 < n) : (stepS n S mkM).1.rc 0 = true := by
  rw [mark_step n S hn]
  split
  · next hr => exact hr
  · show up1 S.rc 0 true 0 = true
    exact up1_same _ _ _
theorem begin_ahN (l : List Mv) (n : Nat) {x y : Nat} (hx : x < n) (hy : y < n) (hxy : x ≠ y) : ∀ {S : St}, SInv n S → ahN (runL n S l) x y ≤ ahN S x y + l.length := by
  induction l with
  | nil => intro S _; exact Nat.le_refl _
  | cons m r ih =>
    intro S h
    have h1 := ih (h.step m)
    have h2 := step_ahN h m hx hy hxy
    rw [runL, List.length_cons]
    omega
/-- Behind all that the law plays, all is recorded. -/
theorem done_all (n : Nat) (hn : 0 < n) (l : List Mv) (hl : l.length ≤ 4) : DoneS n (runL n St.begin (l ++ [mkM] ++ rdsL n 6)) := by
  have hb := SInv.begin n
  generalize hS1 : runL n St.begin (l ++ [mkM]) = S1
  have hI1 : SInv n S1 := by rw [← hS1]; exact runL_inv hb _
  have hr1 : S1.rc 0 = true := by rw [← hS1, runL_append]; exact mark_rc hn
  have ha1 : ∀ x y, x < n → y < n → x ≠ y → ahN S1 x y ≤ 4 := fun x y hx hy hxy => by
    rw [← hS1, runL_append]
    have h1 := begin_ahN l n hx hy hxy hb
    have h2 := mark_ahN (runL_inv hb l) hn hx hy hxy
    have h3 : ahN St.begin x y = 0 := rfl
    rw [h3] at h1
    exact Nat.le_trans h2 (by omega)
  have htk := rndL_take (n := n) (Nat.le_refl n)
  have hall : ∀ k x y, x < n → y < n → x ≠ y → ahN (runL n S1 (rdsL n k)) x y ≤ 4 - k := fun k => by
    induction k with
    | zero => exact fun x y hx hy hxy => ha1 x y hx hy hxy
    | succ k ih =>
      intro x y hx hy hxy
      rw [rdsL, runL_append]
      have h1 := ih x y hx hy hxy
      have h2 := run_less (runL_inv hI1 (rdsL n k)) htk hx hy hxy (rndL_mem hx hy hxy)
      omega
  have hrc5 : ∀ j, j < n → (runL n S1 (rdsL n 5)).rc j = true := fun j hj => by
    by_cases e : j = 0
    · subst e; exact runL_rc hr1 _
    · rw [rdsL, runL_append]
      have h0 := hall 4 0 j hn hj (fun h => e h.symm)
      have hcl := run_close (runL_inv hI1 (rdsL n 4)) htk hn hj (fun h => e h.symm) (rndL_mem hn hj (fun h => e h.symm)) (by omega) (runL_rc hr1 _)
      exact (runL_inv (runL_inv hI1 (rdsL n 4)) _).clr 0 j hcl
  rw [runL_append, hS1]
  have e6 : rdsL n 6 = rdsL n 5 ++ rndL n n := rfl
  rw [e6, runL_append]
  refine ⟨fun i hi => runL_rc (hrc5 i hi) _, fun i j hi hj hne => ?_⟩
  have h0 := hall 5 i j hi hj hne
  exact run_close (runL_inv hI1 (rdsL n 5)) htk hi hj hne (rndL_mem hi hj hne) (by omega) (hrc5 i hi)

#print axioms done_all
end Go.Proofs.Ytebighmddimnkaa
