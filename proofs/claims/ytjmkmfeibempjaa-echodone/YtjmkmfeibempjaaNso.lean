/-
  The contract of slices.Sort at the neighbors of a process.
-/
import Derived.Test.YtjmkmfeibempjaaNjn
import Derived.Test.YtjmkmfeibempjaaLayE
import Derived.Shelf.Sort.Plain
import Derived.Shelf.Slices.In.SortNone
import Derived.Sort.OwnSortedInts
namespace Go.Proofs.Ytjmkmfeibempjaa
open Go.RowKit Go.Maps Go.Shelf Go.Sort
set_option linter.unusedVariables false

theorem sort_nat (q : List Nat) : ∃ q' : List Nat, q'.Perm q ∧ q'.Pairwise (· ≤ ·) ∧ ((q.map fun (x : Nat) => (x : Int)).mergeSort fun x y => decide (x ≤ y)) = q'.map fun (x : Nat) => (x : Int) := by
  obtain ⟨zs, hz⟩ : ∃ zs, zs = q.map fun (x : Nat) => (x : Int) := ⟨_, rfl⟩
  rw [← hz]
  have hp := List.mergeSort_perm zs fun x y => decide (x ≤ y)
  have hs := List.pairwise_mergeSort (le := fun (x y : Int) => decide (x ≤ y)) (fun a b c h1 h2 => by simp at *; omega) (fun a b => by simp; omega) zs
  generalize (zs.mergeSort fun x y => decide (x ≤ y)) = ts at *
  have hpos : ∀ x ∈ ts, 0 ≤ x := fun x hx => by
    have := hp.mem_iff.1 hx
    rw [hz] at this
    obtain ⟨y, _, rfl⟩ := List.mem_map.1 this
    omega
  refine ⟨ts.map Int.toNat, ?_, ?_, ?_⟩
  · have := hp.map Int.toNat
    rw [hz] at this
    simpa [Function.comp_def] using this
  · rw [List.pairwise_map]
    rw [List.pairwise_iff_getElem]
    intro a b ha hb hab
    have := List.pairwise_iff_getElem.1 hs a b ha hb hab
    simp at this
    omega
  · rw [List.map_map]
    symm
    conv => rhs; rw [← List.map_id ts]
    exact List.map_congr_left fun x hx => by have := hpos x hx; simp; omega

theorem sort_any (w : World) (B N P n s : Nat) (nv : Nat → Value) (nb : Nat → List Nat) (tv : Value) (S : ES) (h : NetAt w B N P n s nv nb tv S) (i : Nat) (hi : i < n) (hq : (nb i).length ≤ 1000) (r : List Nat) (hr : ∀ q' : List Nat, q'.Perm (nb i) → q'.Pairwise (· ≤ ·) → q' = r) :
    Calls Try.prog 28 #[nv i] w fun e w' => e = .returned (.tuple #[]) ∧ NetV w' B N P n s (upL nb i r) S ∧ Below B w w' := by
  have hown := h.nbr i hi
  obtain ⟨q', hp, hs, hm⟩ := sort_nat (nb i)
  have e1 := hr q' hp hs
  subst e1
  rcases hown.2 with ⟨hv, h0⟩ | ⟨g, cap, cur, hv, hBg, hg, hn, hmx, hsz, ht⟩
  · rw [hv]
    refine (Any.slices_Sort_int_none sortI none 0 w).mono ?_
    rintro e w' ⟨rfl, rfl⟩
    have hq0 : nb i = [] := List.eq_nil_of_length_eq_zero h0
    have hr0 : q' = [] := by rw [hq0] at hp; exact hp.eq_nil
    refine ⟨rfl, ⟨nv, tv, ?_⟩, Below.refl _ _⟩
    have : upL nb i q' = nb := by
      funext x
      unfold upL
      split
      · next e => rw [e, hq0, hr0]
      · rfl
    rw [this]; exact h
  · have ht1 : cur.toList.take (nb i).length = nvE (nb i) := by rw [Nat.mul_one] at ht; exact ht
    have hzl : ((nb i).map fun (x : Nat) => (x : Int)).length = (nb i).length := by simp
    have hzv : ((nb i).map fun (x : Nat) => (x : Int)).map (Value.int .i64) = nvE (nb i) := by simp [nvE, Function.comp_def]
    have hH : Holds (Value.int .i64) w g 0 ((nb i).map fun (x : Nat) => (x : Int)).toArray := holds_of_blockI hg (by rw [hzl, hzv]; exact ht1)
    have hblk : g < w.heap.size := (World.ownsRow.lt hown g (by rw [hv]; rfl)).2
    have hcall := Any.slices_Sort_int sortI g 0 cap ((nb i).map fun (x : Nat) => (x : Int)) w hH hblk (by simp; omega)
    rw [hzl] at hcall
    rw [hv]
    refine hcall.mono ?_
    rintro e w' ⟨rfl, m, os, rfl⟩
    rw [hm]
    have hl' : (q'.map fun (x : Nat) => (x : Int)).length = ((nb i).map fun (x : Nat) => (x : Int)).length := by simp [hp.length_eq]
    have hgr := grownBy_sortedI (w := w) (g := g) (n := m) (os := os) (q'.map fun (x : Nat) => (x : Int)).toArray
    have hown' := ownsRow_sortedI (w := w) (base := B) (g := g) (cap := cap) (n := m) (e := 3) (os := os) (cur := cur) (ss := (nb i).map fun (x : Nat) => (x : Int)) (ts := q'.map fun (x : Nat) => (x : Int)) hl' hBg hg (by rw [hzl]; exact hn) hmx hsz
    generalize hw' : Sort.grow (Sort.putRow (Value.int .i64) (Sort.ahead w m) g 0 (q'.map fun (x : Nat) => (x : Int)).toArray) os = w' at *
    have hown2 : OwnE w' B (nv i) q' := by
      unfold OwnE
      rw [hv, hp.length_eq]
      rw [hzl] at hown'
      have : (q'.map fun (x : Nat) => (x : Int)).map (Value.int .i64) = nvE q' := by simp [nvE, Function.comp_def]
      rw [← this]
      exact hown'
    obtain ⟨xs, hPr, _⟩ := h.prc
    have hneP : (nv i).ownBlock ≠ some P := owns_ne_row hown hPr (by decide)
    have hgr2 : w.grownBy w' (nv i).ownBlock := by rw [hv]; exact hgr
    have hprc : PrcE w' P n (vputV nv i (nv i)) S.par S.took := by
      have : vputV nv i (nv i) = nv := by funext x; unfold vputV; split <;> simp_all
      rw [this]
      exact h.prc.block (hgr2.block P h.prc.lt (fun e => hneP e.symm))
    refine ⟨rfl, ⟨_, tv, h.turn (w1 := w') (w2 := w') hi hown2 hgr2 (.inl rfl) (fun _ _ => rfl) hprc⟩, ?_⟩
    exact (Below.refl B w).grown hgr2 h.sz (fun b hb => (World.ownsRow.lt hown b hb).1)
#print axioms sort_any
end Go.Proofs.Ytjmkmfeibempjaa
