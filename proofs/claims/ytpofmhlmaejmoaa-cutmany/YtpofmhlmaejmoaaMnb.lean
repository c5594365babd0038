/-
  How many cuts are whole: more than events; just one more where no two events are concurrent: plain.
-/
import Derived.Test.YtpofmhlmaejmoaaMny
import Derived.Test.YtpofmhlmaejmoaaCnt
namespace Go.Proofs.Ytpofmhlmaejmoaa

theorem own_off {c : Nat} {l : List Ev} (g : Good (c : Int) l) {x : Nat} (hx : c ≤ x) : ∀ k, k ≤ l.length → own l (x : Int) k = 0 := by
  intro k
  induction k with
  | zero => intro _; rfl
  | succ k ih =>
    intro hk
    have h1 := g.proc k (by omega)
    rw [own_succ, ih (by omega), if_neg (by omega)]
/-- The first i events. -/
def prefF (l : List Ev) (i : Nat) : Nat → Nat := fun p => own l (p : Int) i
theorem prefF_in {c : Nat} {l : List Ev} (g : Good (c : Int) l) {i j : Nat} (hj : j < l.length) : inC l (up (prefF l i)) j = true ↔ j < i := by
  obtain ⟨p, hp, he⟩ := g.procN hj
  rw [inC_at he]
  unfold up prefF
  constructor
  · intro h
    rcases Nat.lt_or_ge j i with h1 | h1
    · exact h1
    · have := own_mono l (p : Int) h1
      omega
  · intro h
    have := own_lt l h he
    omega
theorem prefF_cut {c : Nat} {l : List Ev} (g : Good (c : Int) l) {i : Nat} (hi : i ≤ l.length) : CutF l c (prefF l i) :=
  ⟨fun x hx => own_off g hx i hi, fun x _ => own_mono l (x : Int) hi, fun a b ha hb h1 h2 => by
    rw [prefF_in g ha]
    rw [prefF_in g hb] at h1
    have := h2.lt
    omega⟩
theorem prefF_ne {c : Nat} {l : List Ev} (g : Good (c : Int) l) {i j : Nat} (hij : i < j) (hj : j ≤ l.length) : prefF l i ≠ prefF l j := fun e => by
  have h1 := (prefF_in (i := j) g (show i < l.length by omega)).2 hij
  rw [← e, prefF_in g (by omega)] at h1
  omega
theorem prefs_nodup {c : Nat} {l : List Ev} (g : Good (c : Int) l) : ((List.range (l.length + 1)).map (prefF l)).Nodup := by
  rw [List.Nodup, List.pairwise_map]
  rw [List.pairwise_iff_getElem]
  intro i j hi hj hij
  rw [List.length_range] at hj
  simp only [List.getElem_range]
  exact prefF_ne g hij (by omega)
theorem cuts_more {c : Nat} {l : List Ev} (g : Good (c : Int) l) : l.length < (cutsL l c).length := by
  have h := fun_sub (prefs_nodup g) (b := cutsL l c) fun x hx => by
    obtain ⟨i, hi, rfl⟩ := List.mem_map.1 hx
    have := List.mem_range.1 hi
    exact (cutsL_mem l c _).2 (prefF_cut g (by omega))
  rw [List.length_map, List.length_range] at h
  omega

theorem cut_ext {c : Nat} {l : List Ev} {F G : Nat → Nat} (hF : CutF l c F) (hG : CutF l c G) (h : ∀ i, i < l.length → (inC l (up F) i = true ↔ inC l (up G) i = true)) : F = G := by
  funext p
  rcases Nat.lt_or_ge p c with hp | hp
  · have h1 := pcnt_inC l (hF.ranged p hp).1 l.length
    have h2 := pcnt_inC l (hG.ranged p hp).1 l.length
    have h3 := hF.ranged p hp
    have h4 := hG.ranged p hp
    rw [pcnt_congr (S' := inC l (up G)) fun i hi _ => h i hi] at h1
    unfold up at *
    omega
  · rw [hF.off p hp, hG.off p hp]

theorem rowCnt_pos (f : Nat → Bool) (k : Nat) : 0 < rowCnt f k ↔ ∃ i, i < k ∧ f i = false := by
  induction k with
  | zero => simp [rowCnt]
  | succ k ih =>
    unfold rowCnt
    by_cases h : f k = true
    · rw [if_pos h, Nat.add_zero, ih]
      constructor
      · rintro ⟨i, h1, h2⟩; exact ⟨i, by omega, h2⟩
      · rintro ⟨i, h1, h2⟩
        by_cases e : i = k
        · rw [e, h] at h2; cases h2
        · exact ⟨i, by omega, h2⟩
    · rw [if_neg h]
      constructor
      · intro _; exact ⟨k, by omega, by simpa using h⟩
      · intro _; omega
theorem apartTo_pos {l : List Ev} (hs : Sole l) (k : Nat) (hk : k ≤ l.length) : 0 < apartTo l k ↔ ∃ i j, i < j ∧ j < k ∧ ¬ HB l i j := by
  induction k with
  | zero => simp [apartTo]
  | succ k ih =>
    have h1 := ih (by omega)
    unfold apartTo
    have h2 := rowCnt_pos (fun i => bitAt l i k) k
    have h3 : ∀ i, i < k → (bitAt l i k = false ↔ ¬ HB l i k) := fun i hi => by
      rw [← (tells l hs).res i k (by omega)]
      unfold bitAt
      simp
    constructor
    · intro h
      by_cases h4 : 0 < apartTo l k
      · obtain ⟨i, j, h5, h6, h7⟩ := h1.1 h4
        exact ⟨i, j, h5, by omega, h7⟩
      · obtain ⟨i, h5, h6⟩ := h2.1 (by omega)
        exact ⟨i, k, h5, by omega, (h3 i h5).1 h6⟩
    · rintro ⟨i, j, h5, h6, h7⟩
      by_cases e : j = k
      · subst e
        have := h2.2 ⟨i, h5, (h3 i h5).2 h7⟩
        omega
      · have := h1.2 ⟨i, j, h5, by omega, h7⟩
        omega

/-- The least cut with event j. -/
def vecF (l : List Ev) (j : Nat) : Nat → Nat := fun p => vec l j (p : Int)
theorem vecF_cut {c : Nat} {l : List Ev} (g : Good (c : Int) l) {j : Nat} (hj : j < l.length) : CutF l c (vecF l j) :=
  ⟨fun x hx => by have h1 := vec_own_le l j (x : Int); rw [own_off g hx _ (Nat.le_refl _)] at h1; exact Nat.le_zero.1 h1, fun x _ => vec_own_le l j (x : Int), least_whole g hj⟩
theorem cuts_apart {c : Nat} {l : List Ev} (g : Good (c : Int) l) {i j : Nat} (hij : i < j) (hj : j < l.length) (hno : ¬ HB l i j) : l.length + 1 < (cutsL l c).length := by
  have hnot : vecF l j ∉ (List.range (l.length + 1)).map (prefF l) := fun h => by
    obtain ⟨m, _, hm⟩ := List.mem_map.1 h
    have h1 : inC l (up (vecF l j)) j = true := (least_in g hj hj).2 (knows_self l j)
    rw [← hm, prefF_in g hj] at h1
    have h2 : inC l (up (vecF l j)) i = true := by
      rw [← hm, prefF_in g (by omega)]
      omega
    have h3 := (least_in g (show i < l.length by omega) hj).1 h2
    rcases (knows_iff g.sole hj i).1 h3 with h4 | h4
    · omega
    · exact hno h4
  have h := fun_sub (a := vecF l j :: (List.range (l.length + 1)).map (prefF l)) (List.nodup_cons.2 ⟨hnot, prefs_nodup g⟩) (b := cutsL l c) fun x hx => by
    rcases List.mem_cons.1 hx with e | e
    · rw [e]; exact (cutsL_mem l c _).2 (vecF_cut g hj)
    · obtain ⟨i, hi, rfl⟩ := List.mem_map.1 e
      have := List.mem_range.1 hi
      exact (cutsL_mem l c _).2 (prefF_cut g (by omega))
  rw [List.length_cons, List.length_map, List.length_range] at h
  omega
theorem cuts_chain {c : Nat} {l : List Ev} (g : Good (c : Int) l) (hall : ∀ i j, i < j → j < l.length → HB l i j) : (cutsL l c).length ≤ l.length + 1 := by
  have h := fun_sub (cutsL_nodup l c) (b := (List.range (l.length + 1)).map (prefF l)) fun F hF => by
    have hc := (cutsL_mem l c F).1 hF
    by_cases h0 : ∃ i, i < l.length ∧ inC l (up F) i = true
    · obtain ⟨i, hi, hin⟩ := h0
      obtain ⟨j, hj, hjn, hmax⟩ := max_of (fun i => inC l (up F) i = true) l.length i hi hin
      refine List.mem_map.2 ⟨j + 1, List.mem_range.2 (by omega), ?_⟩
      refine cut_ext (prefF_cut g (by omega)) hc fun x hx => ?_
      rw [prefF_in g hx]
      constructor
      · intro h1
        by_cases e : x = j
        · rw [e]; exact hjn
        · exact hc.whole x j hx hj hjn (hall x j (by omega) hj)
      · intro h1
        have := hmax x hx h1
        omega
    · refine List.mem_map.2 ⟨0, List.mem_range.2 (by omega), ?_⟩
      refine cut_ext (prefF_cut g (by omega)) hc fun x hx => ?_
      rw [prefF_in g hx]
      constructor
      · intro h1; omega
      · intro h1; exact absurd ⟨x, hx, h1⟩ h0
  rw [List.length_map, List.length_range] at h
  exact h
theorem cuts_many {c : Nat} {l : List Ev} (g : Good (c : Int) l) : 0 < apartTo l l.length ↔ l.length + 1 < (cutsL l c).length := by
  rw [apartTo_pos g.sole l.length (Nat.le_refl _)]
  constructor
  · rintro ⟨i, j, h1, h2, h3⟩
    exact cuts_apart g h1 h2 h3
  · intro h
    rcases Classical.em (∃ i j, i < j ∧ j < l.length ∧ ¬ HB l i j) with h1 | h1
    · exact h1
    · have := cuts_chain g fun i j hij hj => by
        rcases Classical.em (HB l i j) with h2 | h2
        · exact h2
        · exact absurd ⟨i, j, hij, hj, h2⟩ h1
      omega

#print axioms cuts_many
end Go.Proofs.Ytpofmhlmaejmoaa
