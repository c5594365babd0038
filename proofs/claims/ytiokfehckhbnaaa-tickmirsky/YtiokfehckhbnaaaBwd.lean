/-
  slices.Backward over a row of slices: the call, and what its iterator does, for every loop body that keeps the row.
-/
import Derived.Test.YtiokfehckhbnaaaRows
import Derived.Test.YtiokfehckhbnaaaNat
import Derived.RangeFuncNested
import Derived.RangeFuncBound
import Derived.RangeFuncCalls
import Derived.RangeFuncLeaves
import Derived.RangeFuncFrom
import Derived.RangeFuncBox
import Derived.Shelf.Abstract
import Derived.Shelf.RegionOpen
import Derived.WalkKit
import Derived.OwnWalkIn
import Derived.TacticsInMore
import Derived.LoopNIn
import Derived.LoopIn
import Derived.KernelRfl
namespace Go.Proofs.Ytiokfehckhbnaaa
open Go.RowKit Go.Shelf

attribute [local go_sem] Oper.semAt_some

/-- A place of a row of c, while there is one. -/
abbrev Idx (c : Nat) : Type := { x : Nat // x < c ∨ c = 0 }
/-- The place that comes t rounds on, from the last one down. -/
def down (c t : Nat) : Idx c := ⟨c - 1 - t, by omega⟩
def downs (c k : Nat) : List (Idx c) := (List.range k).map (down c)
theorem downs_succ (c k : Nat) : downs c (k + 1) = downs c k ++ [down c k] := by simp [downs, List.range_succ]
theorem downs_len (c k : Nat) : (downs c k).length = k := by simp [downs]

set_option maxHeartbeats 1000000 in
theorem backward_in (F : Fence) (n : Nat) (h1 : F.fn 41) (hro : F.round = none) (a : Option Addr) (len cap : Nat) (w : World) :
    CallsIn F n Try.prog 41 #[.slice a len cap] w fun e w' => e = .returned (.func (.func 53) #[] #[.pointer (some ⟨w.heap.size, 0, none⟩)]) ∧ w' = w.alloc (.cells #[.slice a len cap] 45) := by
  refine callsIn_of_wp Try.func41 rfl h1 ?_ hro
  simp only [Try.ntmps41, List.size_toArray, List.length_cons, List.length_nil, Nat.reduceAdd, Nat.reduceSub, Array.replicate_succ, Array.replicate_zero, List.push_toArray, List.append_toArray, List.nil_append, List.cons_append]
  gi_wp2
  go_ret
  exact ⟨rfl, rfl⟩

/-- What a round keeps: all below, and the iterator's own box. -/
def KpB (n₀ Bs : Nat) (W W' : World) : Prop := Below n₀ W W' ∧ W'.heap[Bs]? = W.heap[Bs]?
theorem KpB.t {n₀ Bs : Nat} {A B C : World} (h : KpB n₀ Bs A B) (h' : KpB n₀ Bs B C) : KpB n₀ Bs A C := ⟨h.1.trans h'.1, h'.2.trans h.2⟩

set_option maxRecDepth 100000 in
set_option maxHeartbeats 2000000 in
theorem backward1_in (F : Fence) (n : Nat) (h1 : F.fn 53) (hro : F.round = none) (hn : 1 ≤ n) (l Bs n₀ T c cap : Nat) (hc30 : c ≤ 1000000) (vs : Nat → Value) (hT : T < n₀) (J Jx : List (Idx c) → World → Prop)
    (hY : ∀ pre x W, J pre W → pre.length < c → YieldAt F (n - 1) Try.prog l #[.int .i64 ((x : Idx c).val : Int), vs x.val] W fun e W' =>
      (e = .returned (.bool true) ∧ J (pre ++ [x]) W' ∧ KpB n₀ Bs W W') ∨ (e = .returned (.bool false) ∧ Jx (pre ++ [x]) W'))
    (W : World) (hBs : W.cell? ⟨Bs, 0, none⟩ = some (.slice (some ⟨T, 0, none⟩) c cap)) (hc : ∀ j, j < c → W.cell? ⟨T, j, none⟩ = some (vs j)) (h0 : J [] W) :
    CallsIn F n Try.prog 53 #[.func (.yield l) #[] #[], .pointer (some ⟨Bs, 0, none⟩)] W fun e W' => (∃ v, e = .returned v) ∧
      ((∃ ys, ys = downs c c ∧ J ys W') ∨ (∃ pre, (∃ k, k ≤ c ∧ pre = downs c k) ∧ Jx pre W')) := by
  refine callsIn_of_wp Try.func53 rfl h1 ?_ hro
  simp only [Try.ntmps53, List.size_toArray, List.length_cons, List.length_nil, Nat.reduceAdd, Nat.reduceSub, Array.replicate_succ, Array.replicate_zero, List.push_toArray, List.append_toArray, List.nil_append, List.cons_append]
  gi_wp2
  gi_loopw [3] (fun i wr => ∃ m : Nat, m ≤ c ∧ i = .int .i64 ((m : Int) - 1) ∧ J (downs c (c - m)) wr ∧ KpB n₀ Bs W wr)
    (fun i _ => (intOf i + 1).toNat)
  case atStart => exact ⟨c, Nat.le_refl _, rfl, by rw [Nat.sub_self]; exact h0, Below.refl _ _, rfl⟩
  case round =>
    obtain ⟨m, hm, rfl, hJs, hnx⟩ := hrel
    cases m with
    | succ m =>
      have hcx : wr.cell? ⟨T, m, none⟩ = some (vs m) := (hnx.1.cell (p := ⟨T, m, none⟩) hT).trans (hc _ (by omega))
      have hbx : wr.cell? ⟨Bs, 0, none⟩ = some (.slice (some ⟨T, 0, none⟩) c cap) := (World.cell?_of_block (a := ⟨Bs, 0, none⟩) hnx.2).trans hBs
      obtain ⟨fn, tmps, assign, body, hy, hR⟩ := hY _ (down c (c - (m + 1))) wr hJs (by rw [downs_len]; omega)
      have hev : Hid ((down c (c - (m + 1))).val = m) := by show c - 1 - (c - (m + 1)) = m; omega
      rw [hev.out] at hy
      have hds : Hid (downs c (c - (m + 1)) ++ [down c (c - (m + 1))] = downs c (c - m)) := by unfold Hid; rw [← downs_succ, show c - (m + 1) + 1 = c - m by omega]
      rw [hds.out] at hR
      have e1 : ((m + 1 : Nat) : Int) - 1 = (m : Int) := by omega
      rw [e1]
      clear e1
      have hmc : (m : Int) < (c : Int) := by omega
      gi_wp2
      refine hR.mono ?_
      rintro e W3 (⟨rfl, hJ3, hk3⟩ | ⟨rfl, hJx3⟩)
      · gi_wp2
        go_roundw
        case rel => exact ⟨m, by omega, rfl, hJ3, hnx.t hk3⟩
        case measure => simp [intOf]
      · gi_wp2
        refine bodyPost_ret (results_none rfl _ _ _) rfl ?_
        exact ⟨⟨_, rfl⟩, .inr ⟨_, ⟨c - m, by omega, rfl⟩, hJx3⟩⟩
    | zero =>
      have e1 : ((0 : Nat) : Int) - 1 = -1 := rfl
      rw [e1]
      clear e1
      gi_wp2
      go_end0
      exact ⟨⟨_, rfl⟩, .inl ⟨_, rfl, hJs⟩⟩

theorem backward_stops (F : Fence) (n : Nat) (h1 : F.fn 53) (hro : F.round = none) (hn : 1 ≤ n) (Bs n₀ T c cap : Nat) (hc30 : c ≤ 1000000) (vs : Nat → Value) (hT : T < n₀) (w : World) (hBs : Bs < w.heap.size) (hn₀ : n₀ ≤ w.heap.size)
    (hb : w.cell? ⟨Bs, 0, none⟩ = some (.slice (some ⟨T, 0, none⟩) c cap)) (hc : ∀ j, j < c → w.cell? ⟨T, j, none⟩ = some (vs j)) :
    SeqStopsK F n Try.prog 53 #[.pointer (some ⟨Bs, 0, none⟩)] (fun x : Idx c => #[Value.int .i64 (x.val : Int), vs x.val]) (KpB n₀ Bs) (fun ys => ys = downs c c) (fun pre => ∃ k, k ≤ c ∧ pre = downs c k) c w :=
  fun l J Jx W hW _ _ hY h0 => backward1_in F n h1 hro hn l Bs n₀ T c cap hc30 vs hT J Jx hY W ((hW.cell (p := ⟨Bs, 0, none⟩) hBs).trans hb) (fun j hj => (hW.cell (p := ⟨T, j, none⟩) (show T < w.heap.size by omega)).trans (hc j hj)) h0

#print axioms backward1_in
end Go.Proofs.Ytiokfehckhbnaaa
