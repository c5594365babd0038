/-
  Words for the contract of beaconryref.Token: its start as its loops find it.
-/
import Derived.Test.YtejckoffllhjcaaRkr
import Derived.Test.YtejckoffllhjcaaKck
namespace Go.Proofs.Ytejckoffllhjcaa
open Go.RowKit Go.Maps
set_option linter.unusedVariables false

theorem OwnInts.pts {w : World} {B : Nat} {v : Value} {xs : List Int} (h : OwnInts w B v xs) (h0 : 0 < xs.length) (hr : rngB xs = true) : ∃ P cp, v = .slice (some ⟨P, 0, none⟩) xs.length cp ∧ B ≤ P ∧ xs.length ≤ cp ∧ PtsK w P xs.length (fun i => (upN xs i : Int)) := by
  rcases h.2 with ⟨h1, h2⟩ | ⟨g, cap, cur, hv, hB, hg, hn, hm, hsz, ht⟩
  · omega
  · rw [Nat.mul_one] at hsz ht
    refine ⟨g, cap, hv, hB, hn, cur.toList, (by unfold Row; rw [hg]), fun i hi => ?_⟩
    have h3 : (intVals xs)[i]? = some (.int .i64 (upN xs i : Int)) := by simp [intVals, hi, upN_cast hr hi]
    rw [← ht, List.getElem?_take_of_lt (by omega)] at h3
    exact h3
structure HsB (W7 : World) (B n : Nat) (b : KB) (u : Nat → Nat) (k : Nat) (w wr : World) : Prop where
  row : BRowG wr b.A n (fun j => if j < k then decide (u j = j) else false)
  oth : ∀ q, q ≠ b.A → wr.heap[q]? = W7.heap[q]?
  sz : wr.heap.size = W7.heap.size
  bl : Below B w wr
theorem hsb_facts (w w4 : World) (n P cp bR bo B : Nat) (u : Nat → Nat) (ZT ZB : List Value) (hB : ZB = List.replicate n (.bool false)) (hT : ZT = List.replicate n (.slice none 0 0)) (hRR : Row w4 bR 27 [.slice none 0 0, .int .u32 0, .int .u32 0, .int .i64 0]) (hRO : Row w4 bo 27 [.slice none 0 0, .int .u32 0, .int .u32 0, .int .i64 0]) (hne : bo ≠ bR)
    (hP : PtsK w4 P n (fun i => (u i : Int))) (l1 : B ≤ bR) (l2 : B ≤ bo) (l3 : B ≤ P) (hbl : Below B w w4) :
    HsB (w7K w4 n P cp ZT ZB) B n (b7K bR bo P cp w4.heap.size) u 0 w (w7K w4 n P cp ZT ZB) ∧
    (∀ wl, HsB (w7K w4 n P cp ZT ZB) B n (b7K bR bo P cp w4.heap.size) u n w wl → RkS ((wl.alloc (.cells #[.slice none 0 0] 50)).alloc (.cells #[giveF (b7K bR bo P cp w4.heap.size)] 53)) B n (b7K bR bo P cp w4.heap.size) (KS.begin u) 0 []) ∧
    (∀ k wl, HsB (w7K w4 n P cp ZT ZB) B n (b7K bR bo P cp w4.heap.size) u k w wl → wl.cell? ⟨(b7K bR bo P cp w4.heap.size).bh, 0, none⟩ = some (.slice (some ⟨(b7K bR bo P cp w4.heap.size).A, 0, none⟩) n n)) ∧
    (∀ k wl, HsB (w7K w4 n P cp ZT ZB) B n (b7K bR bo P cp w4.heap.size) u k w wl → wl.heap.size = (b7K bR bo P cp w4.heap.size).bw) ∧ B ≤ (b7K bR bo P cp w4.heap.size).A := by
  have hB4 : B ≤ w4.heap.size := by have := hP.lt; omega
  have hsz7 : (w7K w4 n P cp ZT ZB).heap.size = w4.heap.size + 1 + 1 + 1 + 1 + 1 + 1 + 1 := by unfold w7K; simp
  have r3 : Row (w7K w4 n P cp ZT ZB) (w4.heap.size + 1 + 1 + 1) 4 ZB := ((((made_atG _ (by simp) 4 ZB).alloc _).alloc _).alloc _)
  have r4 : Row (w7K w4 n P cp ZT ZB) (w4.heap.size + 1 + 1 + 1 + 1) 49 [.slice (some ⟨w4.heap.size + 1 + 1 + 1, 0, none⟩) n n] := (((made_atG _ (by simp) 49 [.slice (some ⟨w4.heap.size + 1 + 1 + 1, 0, none⟩) n n]).alloc _).alloc _)
  have hB7 : Below B w (w7K w4 n P cp ZT ZB) := by
    unfold w7K
    refine ((((((hbl.alloc ?_ _).alloc ?_ _).alloc ?_ _).alloc ?_ _).alloc ?_ _).alloc ?_ _).alloc ?_ _ <;> (try simp) <;> omega
  have hB2 : ZB = boolG (fun _ => false) n := by rw [hB, boolG_zero]
  refine ⟨⟨?_, fun _ _ => rfl, rfl, hB7⟩, fun wl hl => ?_, fun k wl hl => ?_, fun k wl hl => ?_, ?_⟩
  · have r3' : BRowG (w7K w4 n P cp ZT ZB) (b7K bR bo P cp w4.heap.size).A n (fun _ => false) := by
      unfold BRowG
      rw [← hB2]
      exact r3
    exact BRowG.congr r3' (fun j hj => by rw [if_neg (by omega)])
  · exact rk_start w4 n P cp bR bo B u ZT ZB hB hT hRR hRO hne hP l1 l2 l3 w wl ⟨hl.row, hl.oth, hl.sz, hl.bl⟩
  · have hA : (b7K bR bo P cp w4.heap.size).A = w4.heap.size + 1 + 1 + 1 := rfl
    have h1 : Row wl (w4.heap.size + 1 + 1 + 1 + 1) 49 [.slice (some ⟨w4.heap.size + 1 + 1 + 1, 0, none⟩) n n] := r4.block (hl.oth _ (by rw [hA]; omega))
    exact h1.cell (by simp)
  · exact hl.sz.trans hsz7
  · simp only [b7K]; omega
/-- Within a move. -/
structure RkAt (w : World) (B n : Nat) (b : KB) (S : KS) (N : Nat) (cs : List Int) (vs : Nat → Value) (vl : Value) (L : List Lt) (vc : Value) (wr : World) : Prop where
  rf : RfK wr B n b vs (rwK S) (ptK S) (holdB S) S.ins vl L vc cs R0K
  rl : RelL n S.q L
  ll : L.length ≤ N
  bl : Below B w wr
section
variable {w wr w' : World} {B n : Nat} {b : KB} {S : KS} {N : Nat} {cs : List Int} {vs : Nat → Value} {vl : Value} {L : List Lt} {vc : Value}
theorem RkAt.below (h : RkAt w B n b S N cs vs vl L vc wr) (hb : Below wr.heap.size wr w') : RkAt w B n b S N cs vs vl L vc w' := ⟨h.rf.below hb, h.rl, h.ll, h.bl.trans (hb.mono h.rf.sz)⟩
theorem RkAt.drewN (h : RkAt w B n b S N cs vs vl L vc wr) (k : Nat) : RkAt w B n b S N cs vs vl L vc (wr.drewN k) := ⟨h.rf.drewN k, h.rl, h.ll, below_drewN h.bl k⟩
theorem RkAt.s (h : RkAt w B n b S N cs vs vl L vc wr) : RkS wr B n b S N cs := ⟨vs, vl, L, vc, h.rf, h.rl, h.ll⟩
theorem RkAt.alloc (h : RkAt w B n b S N cs vs vl L vc wr) (o : Obj) : RkAt w B n b S N cs vs vl L vc (wr.alloc o) := ⟨h.rf.alloc o, h.rl, h.ll, h.bl.alloc h.rf.sz o⟩
end
theorem RkS.at_ {w wr : World} {B n : Nat} {b : KB} {S : KS} {N : Nat} {cs : List Int} (h : RkS wr B n b S N cs) (hb : Below B w wr) : ∃ vs vl L vc, RkAt w B n b S N cs vs vl L vc wr := by
  obtain ⟨vs, vl, L, vc, h1, h2, h3⟩ := h
  exact ⟨vs, vl, L, vc, h1, h2, h3, hb⟩

#print axioms hsb_facts
#print axioms OwnInts.pts
end Go.Proofs.Ytejckoffllhjcaa
