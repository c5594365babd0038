/-
  The contract of (*network).join of package echo.
-/
import Derived.Test.YtjmkmfeibempjaaNsd
namespace Go.Proofs.Ytjmkmfeibempjaa
open Go.RowKit Go.Maps
set_option linter.unusedVariables false

def NetV (w : World) (B N P n s : Nat) (nb : Nat → List Nat) (S : ES) : Prop := ∃ nv tv, NetAt w B N P n s nv nb tv S
theorem NetV.below {w w' : World} {B N P n s : Nat} {nb : Nat → List Nat} {S : ES} (h : NetV w B N P n s nb S) (hb : Below w.heap.size w w') : NetV w' B N P n s nb S := by obtain ⟨nv, tv, h⟩ := h; exact ⟨nv, tv, h.below hb⟩
theorem NetV.alloc {w : World} {B N P n s : Nat} {nb : Nat → List Nat} {S : ES} (h : NetV w B N P n s nb S) (o : Obj) : NetV (w.alloc o) B N P n s nb S := by obtain ⟨nv, tv, h⟩ := h; exact ⟨nv, tv, h.alloc o⟩
theorem NetV.sz {w : World} {B N P n s : Nat} {nb : Nat → List Nat} {S : ES} (h : NetV w B N P n s nb S) : B ≤ w.heap.size := by obtain ⟨nv, tv, h⟩ := h; exact h.sz

/-- Kept by the joining: nothing below B, and no row of pairs. -/
structure KJ (B : Nat) (w w' : World) : Prop where
  low : Below B w w'
  lnk : ∀ g xs, Row w g 38 xs → Row w' g 38 xs
theorem KJ.refl (B : Nat) (w : World) : KJ B w w := ⟨Below.refl B w, fun _ _ h => h⟩
theorem KJ.trans {B : Nat} {a b c : World} (h : KJ B a b) (k : KJ B b c) : KJ B a c := ⟨h.low.trans k.low, fun g xs hg => k.lnk g xs (h.lnk g xs hg)⟩
theorem KJ.alloc {B : Nat} {w w' : World} (h : KJ B w w') (hs : B ≤ w'.heap.size) (o : Obj) : KJ B w (w'.alloc o) := ⟨h.low.alloc hs o, fun g xs hg => (h.lnk g xs hg).alloc o⟩

set_option maxHeartbeats 1600000 in
theorem join_any (w : World) (B N P n s : Nat) (nb : Nat → List Nat) (S : ES) (h : NetV w B N P n s nb S) (i j : Nat) (hi : i < n) (hq : (nb i).length ≤ 1000) :
    Calls Try.prog 27 #[.pointer (some ⟨N, 0, none⟩), .int .i64 (i : Int), .int .i64 (j : Int)] w fun e w' => e = .returned (.tuple #[]) ∧ NetV w' B N P n s (upL nb i (nb i ++ [j])) S ∧ KJ B w w' := by
  obtain ⟨nv, tv, hA⟩ := h
  obtain ⟨j0, hi0, hz0, hz1, hz2⟩ := info_parts infoInt
  have hJi := Lib.hid hi0; have hJz := Lib.hid hz0; have hJs := Lib.hid hz1; have hJb := Lib.hid hz2
  clear hi0 hz0 hz1 hz2
  obtain ⟨s0, s1, s2, s3⟩ := hA.cells
  obtain ⟨p0, p1, p2⟩ := hA.prc.cells hi
  obtain ⟨A9, cap9, hv9, hc91, hc92, -⟩ := (hA.nbr i hi).shape
  rw [hv9] at p0
  have hiI : (i : Int) < (n : Int) := by omega
  have hsz := hA.sz
  have hAm := hA.alloc (.cells #[.int .i64 (j : Int)] 3)
  have hB0 := Lib.hid ((KJ.refl B w).alloc hsz (.cells #[.int .i64 (j : Int)] 3))
  have hTa := hAm.nbr i hi
  have hvH := Lib.hid hv9
  unfold OwnE at hTa
  rw [hv9] at hTa
  have hAmH := Lib.hid hAm
  have hnews := Lib.hid (newsV (w := w) (g := w.heap.size) (.int .i64 (j : Int)) 3 rfl)
  have hbase : B ≤ (w.alloc (.cells #[.int .i64 (j : Int)] 3)).heap.size := by simp; omega
  obtain ⟨xs, hPr, _⟩ := hAm.prc
  have hne : Hid ((Value.slice A9 (nb i).length cap9).ownBlock ≠ some P) := by have := owns_ne_row (hAm.nbr i hi) hPr (by decide); rwa [hv9] at this
  have pa0 := (hAm.prc.cells hi).1
  rw [hv9] at pa0
  have hqq : Hid (∀ q, nb i = q → upL nb i (nb i ++ [j]) = upL nb i (q ++ [j])) := fun q e => by rw [e]
  clear hA hAm p1 p2 hv9 hPr
  go_enter Try.func27, Try.ntmps27
  go_wp2_with (first
    | (at_builtin; refine wpList_append_lies _ rfl (.tmp 17) (.tmp 19) 23 rfl B 3 j0 (.int .i64 0) 1 8 Try.underlying23 hJi.out hJz.out hJs.out hJb.out rfl (by decide) (.slice A9 (nb i).length cap9) (nb i).length (nvE (nb i)) rfl hTa ⟨w.heap.size, 0, none⟩ 1 1 [.int .i64 (j : Int)] rfl rfl hnews.out (by simp [Value.oneCell']) (by omega) (by unfold maxLen; omega) (by omega) hbase _ rfl ?_; intro g cap w1 hown hgr hat hlt
       have f1 := hAmH.out.prc.block (hgr.block P hAmH.out.prc.lt (fun e => hne.out e.symm))
       have x2 := (f1.cells hi).1
       rw [hvH.out] at x2
       have ff2 := f1.frozen (i * 3)
       have hgr2 : (w.alloc (.cells #[.int .i64 (j : Int)] 3)).grownBy w1 (nv i).ownBlock := by rw [hvH.out]; exact hgr
       have hA1 := Lib.hid (hAmH.out.turn (w2 := w1.setCell ⟨P, i * 3, none⟩ (.slice (some ⟨g, 0, none⟩) ((nb i).length + 1) cap)) hi (OwnE.push hown) hgr2 (by rw [hvH.out]; rcases hat with h | h; exact .inl h.symm; exact .inr ⟨g, rfl, by omega⟩) (fun k hk => Below.heap_setCell w1 ⟨P, i * 3, none⟩ _ k hk) (f1.setNb hi _))
       have hK1 : Hid (KJ B w (w1.setCell ⟨P, i * 3, none⟩ (.slice (some ⟨g, 0, none⟩) ((nb i).length + 1) cap))) := ⟨(hB0.out.low.grown hgr hbase (fun b hb => by have := (World.ownsRow.lt (hAmH.out.nbr i hi) b (by rw [hvH.out]; exact hb)).1; exact this)).setCell (p := ⟨P, i * 3, none⟩) hAmH.out.lowP _, fun q ys hq => by
         have r0 := hB0.out.lnk q ys hq
         have r1 := r0.grown hgr (fun e => owns_ne_row (hAmH.out.nbr i hi) r0 (by decide) (by rw [hvH.out]; exact e.symm))
         obtain ⟨zs, hPz, _⟩ := f1
         exact r1.far (p := ⟨P, i * 3, none⟩) (row_ne r1 hPz (by decide)) _⟩
       clear hown hgr hgr2 hat f1 hTa hAmH hB0))
  go_end0
  exact ⟨rfl, ⟨_, _, hA1.out⟩, hK1.out⟩
#print axioms join_any
end Go.Proofs.Ytjmkmfeibempjaa
