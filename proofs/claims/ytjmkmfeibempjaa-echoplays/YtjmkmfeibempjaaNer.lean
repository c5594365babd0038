/-
  The contract of beaconryref.near.
-/
import Derived.Test.YtjmkmfeibempjaaEcd
import Derived.Test.YtjmkmfeibempjaaLks
import Derived.Test.YtjmkmfeibempjaaNet
namespace Go.Proofs.Ytjmkmfeibempjaa
open Go.RowKit Go.Maps
set_option linter.unusedVariables false

/-- How many links join the two. -/
def cntJ (l : List Lk) (i j : Nat) : Nat := (l.filter fun x => joins x i j).length
theorem cntJ_succ {l : List Lk} {k : Nat} (i j : Nat) (h : k < l.length) : cntJ (l.take (k + 1)) i j = cntJ (l.take k) i j + if joins (lat l k) i j = true then 1 else 0 := by
  unfold cntJ
  rw [List.take_succ_eq_append_getElem h, List.filter_append, List.length_append, lat_get l h]
  congr 1
  by_cases hb : joins l[k] i j = true
  · rw [if_pos hb]; simp [hb]
  · rw [if_neg hb]; simp [hb]
theorem cntJ_le (l : List Lk) (i j : Nat) : cntJ l i j ≤ l.length := List.length_filter_le _ _
theorem cntJ_eq {l : List Lk} (h : Once l) (i j : Nat) : cntJ l i j = if adj l i j = true then 1 else 0 := by
  induction l with
  | nil => rfl
  | cons x l ih =>
    obtain ⟨o1, o2⟩ := List.pairwise_cons.1 h
    have h1 := ih o2
    unfold cntJ adj at *
    rw [List.filter_cons, List.any_cons]
    by_cases hx : joins x i j = true
    · rw [if_pos hx, hx, Bool.true_or, if_pos rfl, List.length_cons]
      have hn : ¬ (l.any fun x => joins x i j) = true := fun e => by
        obtain ⟨y, hy, hj⟩ := List.any_eq_true.1 e
        apply o1 y hy
        have a1 := (joins_iff _ _ _).1 hx
        have a2 := (joins_iff _ _ _).1 hj
        unfold SameL
        omega
      rw [h1, if_neg hn]
    · rw [if_neg hx, h1]
      rw [Bool.not_eq_true] at hx
      rw [hx, Bool.false_or]
/-- The neighbors up to the j-th process. -/
def nearL (l : List Lk) (i : Nat) : Nat → List Nat
  | 0 => []
  | j + 1 => nearL l i j ++ List.replicate (cntJ l i j) j
theorem nearL_nbs {l : List Lk} (h : Once l) (i n : Nat) : nearL l i n = nbs l n i := by
  induction n with
  | zero => simp [nearL, nbs]
  | succ n ih =>
    rw [nearL, ih, cntJ_eq h]
    unfold nbs
    rw [List.range_succ, List.filter_append]
    congr 1
    by_cases e : adj l i n = true
    · rw [if_pos e]; simp [e]
    · rw [if_neg e]; simp [e]
theorem nearL_len (l : List Lk) (i j : Nat) : (nearL l i j).length ≤ j * l.length := by
  induction j with
  | zero => simp [nearL]
  | succ j ih =>
    have := cntJ_le l i j
    rw [nearL, List.length_append, List.length_replicate, Nat.add_mul]
    omega

def NerRel (w : World) (q : List Nat) (v : Value) (wr : World) : Prop := OwnE wr w.heap.size v q ∧ Below w.heap.size w wr
theorem OwnE.blk {w w' : World} {B : Nat} {v : Value} {q : List Nat} (h : OwnE w B v q) (hb : ∀ g, v.ownBlock = some g → w'.heap[g]? = w.heap[g]?) : OwnE w' B v q := owns_blk h hb
theorem OwnE.alloc {w : World} {B : Nat} {v : Value} {q : List Nat} (h : OwnE w B v q) (o : Obj) : OwnE (w.alloc o) B v q := h.blk fun g e => Below.heap_alloc w o g (World.ownsRow.lt h g e).2

set_option maxHeartbeats 3200000 in
theorem near_any (A : Option Addr) (cap : Nat) (l : List Lk) (n i : Nat) (w : World) (hE : Lks w w.heap.size A l) (hl : l.length ≤ 15) (hn : n ≤ 6) (hO : Once l) :
    Calls Try.prog 23 #[.int .i64 (n : Int), .slice A l.length cap, .int .i64 (i : Int)] w fun e w' => ∃ v, e = .returned v ∧ OwnE w' w.heap.size v (nbs l n i) ∧ Below w.heap.size w w' := by
  have hEH := Lib.hid hE
  have hfinL := Lib.hid (nearL_nbs hO i n)
  clear hE hO
  obtain ⟨j0, hi0, hz0, hz1, hz2⟩ := info_parts infoInt
  have hJi := Lib.hid hi0; have hJz := Lib.hid hz0; have hJs := Lib.hid hz1; have hJb := Lib.hid hz2
  clear hi0 hz0 hz1 hz2
  go_enter Try.func23, Try.ntmps23
  go_wp2_with fail
  go_loopw [8, 7] (fun t v wr => ∃ j : Nat, j ≤ n ∧ t = .int .i64 j ∧ NerRel w (nearL l i j) v wr) (fun t _ _ => n - (intOf t).toNat)
  case atStart => exact ⟨0, Nat.zero_le _, rfl, OwnE.nil _ _, Below.refl _ _⟩
  case round =>
    obtain ⟨j, hj, rfl, hW, hB⟩ := hrel
    rename World => w1
    by_cases hlt : j < n
    · have hjI : (j : Int) < (n : Int) := by omega
      have hnl : Hid (nearL l i (j + 1) = nearL l i j ++ List.replicate (cntJ (l.take l.length) i j) j) := by unfold Hid; rw [List.take_length]; rfl
      have hlen : Hid ((nearL l i j).length ≤ 90) := by
        have h1 := nearL_len l i j
        have h2 : j * l.length ≤ 6 * 15 := Nat.mul_le_mul (by omega) hl
        unfold Hid; omega
      have hst : Hid (NerRel w (nearL l i j ++ List.replicate (cntJ (l.take 0) i j) j) _ w1) := ⟨by simpa [cntJ] using hW, hB⟩
      clear hW hB
      generalize nearL l i j = q0 at *
      go_wp2_with fail
      go_loopw [18, 7] (fun t v wr => ∃ m : Nat, m ≤ l.length ∧ t = .int .i64 m ∧ NerRel w (q0 ++ List.replicate (cntJ (l.take m) i j) j) v wr) (fun t _ _ => l.length - (intOf t).toNat)
      case atStart => exact ⟨0, Nat.zero_le _, rfl, hst.out⟩
      case round =>
        clear hst
        obtain ⟨m, hm, rfl, hW, hB⟩ := hrel
        rename World => wr
        by_cases hml : m < l.length
        · obtain ⟨b, off, rfl, hb, c3, c4⟩ := (hEH.out.below hB).at_ hml
          have hmI : (m : Int) < (l.length : Int) := by omega
          have hnx := Lib.hid (cntJ_succ i j hml)
          have hcl : Hid (cntJ (l.take m) i j ≤ 15) := by have := cntJ_le (l.take m) i j; simp at this; unfold Hid; omega
          have hsz := hB.size
          have hB1 := Lib.hid (hB.alloc hsz (.cells #[.int .i64 (lat l m).a, .int .i64 (lat l m).b] 38))
          have hW1 := hW.alloc (.cells #[.int .i64 (lat l m).a, .int .i64 (lat l m).b] 38)
          have hR1 := Row.made wr 38 [.int .i64 (lat l m).a, .int .i64 (lat l m).b]
          have d0 := hR1.cell (i := 0) (by simp)
          have d1 := hR1.cell (i := 1) (by simp)
          simp only [List.getElem_cons_zero, List.getElem_cons_succ] at d0 d1
          have hjd : Hid (joins (lat l m) i j = (decide ((lat l m).a = (i : Int)) && decide ((lat l m).b = (j : Int)) || decide ((lat l m).b = (i : Int)) && decide ((lat l m).a = (j : Int)))) := rfl
          generalize joins (lat l m) i j = G at *
          clear hR1 hB hW
          generalize (lat l m).a = x at *
          generalize (lat l m).b = y at *
          have hxk : (x == (i : Int)) = decide (x = (i : Int)) := by rw [Bool.eq_iff_iff]; simp
          have hyp : (y == (j : Int)) = decide (y = (j : Int)) := by rw [Bool.eq_iff_iff]; simp
          have hyk : (y == (i : Int)) = decide (y = (i : Int)) := by rw [Bool.eq_iff_iff]; simp
          have hxp : (x == (j : Int)) = decide (x = (j : Int)) := by rw [Bool.eq_iff_iff]; simp
          generalize decide (x = (i : Int)) = b1 at *
          generalize decide (y = (j : Int)) = b2 at *
          generalize decide (y = (i : Int)) = b3 at *
          generalize decide (x = (j : Int)) = b4 at *
          generalize hcc : cntJ (l.take m) i j = cc at *
          generalize hcn : cntJ (l.take (m + 1)) i j = cn at *
          have hcnH := Lib.hid hcn
          clear hcc hcn
          obtain ⟨A9, cap9, hv9, hc91, hc92, -⟩ := hW1.shape
          subst hv9
          generalize hwa : wr.alloc (.cells #[.int .i64 x, .int .i64 y] 38) = wa at *
          have hsza : w.heap.size ≤ wa.heap.size := by rw [← hwa]; simp; omega
          have hWb := hW1.alloc (.cells #[.int .i64 (j : Int)] 3)
          unfold OwnE at hWb
          have hBb := Lib.hid (hB1.out.alloc hsza (.cells #[.int .i64 (j : Int)] 3))
          have hW1H := Lib.hid hW1
          have hnews := Lib.hid (newsV (w := wa) (g := wa.heap.size) (.int .i64 (j : Int)) 3 rfl)
          have hbase : w.heap.size ≤ (wa.alloc (.cells #[.int .i64 (j : Int)] 3)).heap.size := by simp; omega
          have hlq : (q0 ++ List.replicate cc j).length ≤ 110 := by have := hlen.out; have := hcl.out; simp; omega
          have hsnoc : Hid (q0 ++ List.replicate (cc + 1) j = (q0 ++ List.replicate cc j) ++ [j]) := by unfold Hid; rw [List.append_assoc, List.replicate_succ']
          have hlow : Hid (∀ b, (Value.slice A9 (q0 ++ List.replicate cc j).length cap9).ownBlock = some b → w.heap.size ≤ b) := fun b hb => (World.ownsRow.lt hW1 b hb).1
          generalize hqq : q0 ++ List.replicate cc j = q at *
          have hqH := Lib.hid hqq
          clear hW1 hqq
          cases b1 <;> cases b2 <;> cases b3 <;> cases b4
          all_goals first
            | (have hG : Hid (cn = cc + 1) := by (have hg : G = true := by (rw [hjd.out]; rfl)); unfold Hid; rw [hnx.out, if_pos hg]
               clear hnx hjd
               go_wp2_with (first
                 | (at_builtin; refine wpList_append_lies _ rfl (.tmp 44) (.tmp 46) 23 rfl w.heap.size 3 j0 (.int .i64 0) 1 8 Try.underlying23 hJi.out hJz.out hJs.out hJb.out rfl (by decide) (.slice A9 q.length cap9) q.length (nvE q) rfl hWb ⟨wa.heap.size, 0, none⟩ 1 1 [.int .i64 (j : Int)] rfl rfl hnews.out (by simp [Value.oneCell']) (by omega) (by unfold maxLen; omega) (by omega) hbase _ rfl ?_; intro g cap w7 hown hgr hat hlt
                    have hB7 := Lib.hid (hBb.out.grown hgr hbase hlow.out)
                    have hW7 := Lib.hid (OwnE.push hown)
                    clear hown hgr hat hlt hWb))
               go_roundw
               case rel => exact ⟨m + 1, by omega, by go_num, by rw [hcnH.out, hG.out, hsnoc.out]; exact hW7.out, hB7.out⟩
               case measure => simp [intOf]; omega)
            | (have hG : Hid (cn = cc) := by (have hg : G = false := by (rw [hjd.out]; rfl)); unfold Hid; rw [hnx.out, hg]; rfl
               clear hnx hjd hWb
               go_wp2_with fail
               go_roundw
               case rel => exact ⟨m + 1, by omega, by go_num, by rw [hcnH.out, hG.out, hqH.out]; exact hW1H.out, hB1.out⟩
               case measure => simp [intOf]; omega)
        · have hml' : m = l.length := by omega
          subst hml'
          rw [← hnl.out] at hW
          have hWH := Lib.hid hW
          have hBH := Lib.hid hB
          clear hW hB
          go_wp2_with fail
          go_roundw
          case rel => exact ⟨j + 1, by omega, by go_num, hWH.out, hBH.out⟩
          case measure => simp [intOf]; omega
    · have hjn : j = n := by omega
      subst hjn
      rw [hfinL.out] at hW
      have hWH := Lib.hid hW
      have hBH := Lib.hid hB
      clear hW hB
      go_wp2_with fail
      go_ret
      exact ⟨_, rfl, hWH.out, hBH.out⟩
#print axioms near_any
end Go.Proofs.Ytjmkmfeibempjaa
