/-
  Links as an argument, and what is asked of them. Plain, and words for memory.
-/
import Derived.Test.YtieicimoolegoaaEch
import Derived.Test.YtieicimoolegoaaWords
namespace Go.Proofs.Ytieicimoolegoaa
open Go.RowKit Go.Maps

/-- The links of a slice whose array begins at A: in memory below block B. -/
def Lks (w : World) (B : Nat) (A : Option Addr) (l : List Lk) : Prop :=
  0 < l.length → ∃ b off, A = some ⟨b, off, none⟩ ∧ b < B ∧ ∀ i, (hi : i < l.length) → w.cell? ⟨b, off + i * 2, none⟩ = some (.int .i64 l[i].a) ∧ w.cell? ⟨b, off + i * 2 + 1, none⟩ = some (.int .i64 l[i].b)
def LFits (l : List Lk) : Prop := ∀ x ∈ l, I64 x.a ∧ I64 x.b
def lat (l : List Lk) (i : Nat) : Lk := l.getD i ⟨0, 0⟩
theorem lat_get (l : List Lk) {i : Nat} (h : i < l.length) : lat l i = l[i] := by simp [lat, h]
theorem lat_mem (l : List Lk) {i : Nat} (h : i < l.length) : lat l i ∈ l := by rw [lat_get l h]; exact List.getElem_mem h
theorem lat_take (l : List Lk) {i k : Nat} (h : i < k) : lat (l.take k) i = lat l i := by simp [lat, h]
section
variable {w w' : World} {B B' : Nat} {A : Option Addr} {l : List Lk}
theorem Lks.keep (h : Lks w B A l) (hk : ∀ p : Addr, p.block < B → w'.cell? p = w.cell? p) : Lks w' B A l := by
  intro h0
  obtain ⟨b, off, e, hb, hc⟩ := h h0
  exact ⟨b, off, e, hb, fun i hi => by rw [hk _ hb, hk _ hb]; exact hc i hi⟩
theorem Lks.below (h : Lks w B A l) (hb : Below B w w') : Lks w' B A l := h.keep fun _ hp => hb.cell hp
theorem Lks.more (h : Lks w B A l) (hB : B ≤ B') : Lks w B' A l := by
  intro h0
  obtain ⟨b, off, e, hb, hc⟩ := h h0
  exact ⟨b, off, e, by omega, hc⟩
theorem Lks.alloc (h : Lks w w.heap.size A l) (o : Obj) : Lks (w.alloc o) (w.alloc o).heap.size A l := (h.below ((Below.refl w.heap.size w).alloc (Nat.le_refl _) o)).more (by simp)
theorem Lks.on (h : Lks w w.heap.size A l) (hb : Below w.heap.size w w') : Lks w' w'.heap.size A l := (h.below hb).more hb.size
theorem Lks.take (h : Lks w B A l) (n : Nat) : Lks w B A (l.take n) := by
  intro h0
  have hl : (l.take n).length ≤ l.length := by simp; omega
  obtain ⟨b, off, e, hb, hc⟩ := h (by omega)
  exact ⟨b, off, e, hb, fun i hi => by simp only [List.getElem_take]; exact hc i (by omega)⟩
theorem Lks.at_ (h : Lks w B A l) {i : Nat} (hi : i < l.length) : ∃ b off, A = some ⟨b, off, none⟩ ∧ b < B ∧ w.cell? ⟨b, off + i * 2, none⟩ = some (.int .i64 (lat l i).a) ∧ w.cell? ⟨b, off + i * 2 + 1, none⟩ = some (.int .i64 (lat l i).b) := by
  obtain ⟨b, off, e, hb, hc⟩ := h (by omega)
  exact ⟨b, off, e, hb, by rw [lat_get l hi]; exact hc i hi⟩
theorem Lks.cells (h : Lks w B A l) (h0 : 0 < l.length) : ∃ b off, A = some ⟨b, off, none⟩ ∧ b < B ∧ ∀ i, i < l.length → w.cell? ⟨b, off + i * 2, none⟩ = some (.int .i64 (lat l i).a) ∧ w.cell? ⟨b, off + i * 2 + 1, none⟩ = some (.int .i64 (lat l i).b) := by
  obtain ⟨b, off, e, hb, hc⟩ := h h0
  exact ⟨b, off, e, hb, fun i hi => by rw [lat_get l hi]; exact hc i hi⟩
end

/-- Is it a process? -/
def inP (n x : Int) : Bool := decide (0 ≤ x) && decide (x < n)
theorem inP_iff (n x : Int) : inP n x = true ↔ 0 ≤ x ∧ x < n := by simp [inP]
def okL (n : Int) (x : Lk) : Bool := inP n x.a && inP n x.b && !decide (x.a = x.b)
theorem okL_iff (n : Int) (x : Lk) : okL n x = true ↔ 0 ≤ x.a ∧ x.a < n ∧ 0 ≤ x.b ∧ x.b < n ∧ x.a ≠ x.b := by simp [okL, inP]; omega
def LOk (n : Int) (l : List Lk) : Prop := ∀ x ∈ l, okL n x = true
theorem LOk.nil (n : Int) : LOk n [] := fun x hx => by cases hx
theorem LOk.succ {n : Int} {l : List Lk} {k : Nat} (h : LOk n (l.take k)) (hk : k < l.length) (hx : okL n (lat l k) = true) : LOk n (l.take (k + 1)) := by
  rw [List.take_succ_eq_append_getElem hk]
  intro x hm
  rcases List.mem_append.1 hm with h1 | h1
  · exact h x h1
  · rw [List.mem_singleton.1 h1, ← lat_get l hk]; exact hx
theorem LOk.lk {n : Nat} {l : List Lk} (h : LOk (n : Int) l) : LkOk n l := fun x hx => (okL_iff _ _).1 (h x hx)
/-- Is one as the k-th ahead of it? -/
def Twin (l : List Lk) (k : Nat) : Prop := ∃ j, j < k ∧ SameL (lat l k) (lat l j)
theorem once_take {l : List Lk} {k : Nat} (hk : k < l.length) (h : Once (l.take k)) (hn : ¬ Twin l k) : Once (l.take (k + 1)) := by
  unfold Once at *
  rw [List.take_succ_eq_append_getElem hk, List.pairwise_append]
  refine ⟨h, by simp, fun a ha b hb hs => hn ?_⟩
  obtain ⟨j, hj, e⟩ := List.getElem_of_mem ha
  have hj' : j < k := by simp at hj; omega
  rw [List.getElem_take, ← lat_get l (by omega)] at e
  rw [List.mem_singleton.1 hb, ← lat_get l hk, ← e] at hs
  exact ⟨j, hj', hs⟩
theorem not_once {l : List Lk} {k : Nat} (hk : k < l.length) (h : Twin l k) : ¬ Once l := by
  intro hO
  obtain ⟨j, hj, hs⟩ := h
  have := List.pairwise_iff_getElem.1 hO j k (by omega) hk hj
  rw [← lat_get l hk, ← lat_get l (by omega)] at this
  exact this hs
def LargeL (n : Int) (l : List Lk) : Prop := n < 1 ∨ 6 < n ∨ 15 < l.length
open Classical in
/-- The document's first error of the links. -/
noncomputable def lcode (n : Int) (l : List Lk) : Int := if LargeL n l then 1 else if LOk n l then 0 else 2
open Classical in
/-- The document's first error of the arguments: n, links, start, the order's length. -/
noncomputable def ecode (n : Int) (l : List Lk) (s : Int) (m : Nat) : Int := if LargeL n l ∨ 60 < m then 1 else if ¬ LOk n l then 2 else if inP n s = false then 2 else if Once l then 0 else 3
theorem ecode_large {n : Int} {l : List Lk} {s : Int} {m : Nat} (h : LargeL n l ∨ 60 < m) : ecode n l s m = 1 := by unfold ecode; rw [if_pos h]
theorem ecode_bad {n : Int} {l : List Lk} {s : Int} {m : Nat} (h : ¬ (LargeL n l ∨ 60 < m)) (h2 : ¬ LOk n l) : ecode n l s m = 2 := by unfold ecode; rw [if_neg h, if_pos h2]
theorem ecode_start {n : Int} {l : List Lk} {s : Int} {m : Nat} (h : ¬ (LargeL n l ∨ 60 < m)) (h2 : LOk n l) (h3 : inP n s = false) : ecode n l s m = 2 := by unfold ecode; rw [if_neg h, if_neg (fun h => h h2), if_pos h3]
theorem ecode_twice {n : Int} {l : List Lk} {s : Int} {m : Nat} (h : ¬ (LargeL n l ∨ 60 < m)) (h2 : LOk n l) (h3 : inP n s = true) (h4 : ¬ Once l) : ecode n l s m = 3 := by unfold ecode; rw [if_neg h, if_neg (fun h => h h2), if_neg (by rw [h3]; simp), if_neg h4]
theorem ecode_ok {n : Int} {l : List Lk} {s : Int} {m : Nat} (h : ¬ (LargeL n l ∨ 60 < m)) (h2 : LOk n l) (h3 : inP n s = true) (h4 : Once l) : ecode n l s m = 0 := by unfold ecode; rw [if_neg h, if_neg (fun h => h h2), if_neg (by rw [h3]; simp), if_pos h4]
theorem ecode_zero {n : Int} {l : List Lk} {s : Int} {m : Nat} (h : ecode n l s m = 0) : ¬ LargeL n l ∧ m ≤ 60 ∧ LOk n l ∧ inP n s = true ∧ Once l := by
  unfold ecode at h
  split at h
  · omega
  · next h1 =>
    split at h
    · omega
    · next h2 =>
      split at h
      · omega
      · next h3 =>
        split at h
        · next h4 => exact ⟨fun h => h1 (.inl h), by have : ¬ 60 < m := fun h => h1 (.inr h); omega, Classical.not_not.1 h2, by simpa using h3, h4⟩
        · omega
theorem lcode_zero {n : Int} {l : List Lk} (h : lcode n l = 0) : ¬ LargeL n l ∧ LOk n l := by
  unfold lcode at h
  split at h
  · omega
  · next h1 =>
    split at h
    · next h2 => exact ⟨h1, h2⟩
    · omega
theorem lcode_large {n : Int} {l : List Lk} (h : LargeL n l) : lcode n l = 1 := by unfold lcode; rw [if_pos h]
theorem lcode_bad {n : Int} {l : List Lk} (h : ¬ LargeL n l) (h2 : ¬ LOk n l) : lcode n l = 2 := by unfold lcode; rw [if_neg h, if_neg h2]
theorem lcode_ok {n : Int} {l : List Lk} (h : ¬ LargeL n l) (h2 : LOk n l) : lcode n l = 0 := by unfold lcode; rw [if_neg h, if_pos h2]
theorem not_LOk {n : Int} {l : List Lk} {k : Nat} (hk : k < l.length) (h : okL n (lat l k) = false) : ¬ LOk n l := fun hL => by
  have := hL _ (lat_mem l hk)
  rw [h] at this; cases this
/-- Some one of the first k is the same as x, as two numbers. -/
theorem twin_iff (l : List Lk) (k : Nat) (hk : k ≤ l.length) : Twin l k ↔ (∃ y ∈ l.take k, y.a = (lat l k).a ∧ y.b = (lat l k).b) ∨ (∃ y ∈ l.take k, y.a = (lat l k).b ∧ y.b = (lat l k).a) := by
  have hm : ∀ j, j < k → lat l j ∈ l.take k := fun j hj => by
    rw [← lat_take l hj]
    exact lat_mem _ (by simp; omega)
  constructor
  · rintro ⟨j, hj, h | h⟩
    · exact .inl ⟨_, hm j hj, by omega⟩
    · exact .inr ⟨_, hm j hj, by omega⟩
  · have key : ∀ y ∈ l.take k, ∃ j, j < k ∧ y = lat l j := fun y hy => by
      obtain ⟨j, hj, e⟩ := List.getElem_of_mem hy
      have hj' : j < k := by simp at hj; omega
      exact ⟨j, hj', by rw [← e, ← lat_take l hj', lat_get _ hj]⟩
    rintro (⟨y, hy, h⟩ | ⟨y, hy, h⟩)
    · obtain ⟨j, hj, rfl⟩ := key y hy; exact ⟨j, hj, .inl (by omega)⟩
    · obtain ⟨j, hj, rfl⟩ := key y hy; exact ⟨j, hj, .inr (by omega)⟩
#print axioms twin_iff
end Go.Proofs.Ytieicimoolegoaa
