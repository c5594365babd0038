/-
  The contracts of slices.Insert, Delete, BinarySearch, Index, Contains at slices of ints that the call has made.
-/
import Derived.Test.YtkchccaeopdemaaLayC
import Derived.Test.YtkchccaeopdemaaCau
import Derived.Test.YtkchccaeopdemaaPck
import Derived.Shelf.Spec.SlicesInsert
import Derived.Shelf.Spec.SlicesInsertGrow
import Derived.Shelf.Slices.Cells
import Derived.Shelf.Slices.SearchI
import Derived.Shelf.Slices.Empties
namespace Go.Proofs.Ytkchccaeopdemaa
open Go.RowKit Go.Maps Go.Shelf

def nv (q : List Nat) : List Value := q.map fun (x : Nat) => Value.int .i64 (x : Int)
def zs (q : List Nat) : List Int := q.map fun (x : Nat) => (x : Int)
theorem nv_len (q : List Nat) : (nv q).length = q.length := by simp [nv]
theorem zs_len (q : List Nat) : (zs q).length = q.length := by simp [zs]
theorem nv_zs (q : List Nat) : nv q = intVals (zs q) := by simp [nv, zs, intVals]
theorem zs_mem (q : List Nat) (x : Nat) : (x : Int) ∈ zs q ↔ x ∈ q := by
  unfold zs
  rw [List.mem_map]
  constructor
  · rintro ⟨a, h, e⟩
    have : a = x := by omega
    exact this ▸ h
  · exact fun h => ⟨x, h, rfl⟩
theorem nv_one (q : List Nat) : ∀ v ∈ nv q, v.oneCell' = true := by
  intro v hv
  obtain ⟨x, _, rfl⟩ := List.mem_map.1 hv
  rfl
/-- The call's own slice v holds the numbers q. -/
def OwnN (w : World) (B : Nat) (v : Value) (q : List Nat) : Prop := w.ownsRow B 3 1 v q.length (nv q)
theorem OwnN.ints {w : World} {B : Nat} {v : Value} {q : List Nat} (h : OwnN w B v q) : OwnInts w B v (zs q) := by
  unfold OwnInts
  rw [zs_len, ← nv_zs]; exact h
theorem OwnN.of {w : World} {B g cap : Nat} {cur : Array Value} {q : List Nat} (hg : w.heap[g]? = some (.cells cur 3 (0, 0))) (hB : B ≤ g) (h1 : q.length ≤ cap) (h2 : cap ≤ maxLen) (h3 : cur.size = cap) (h4 : cur.toList.take q.length = nv q) :
    OwnN w B (.slice (some ⟨g, 0, none⟩) q.length cap) q := ⟨by rw [nv_len, Nat.mul_one], .inr ⟨g, cap, cur, rfl, hB, hg, h1, h2, by rw [Nat.mul_one]; exact h3, by rw [Nat.mul_one]; exact h4⟩⟩

theorem setCells_block (g : Nat) (e : TypeId) : ∀ (vs : List Value) (o : Nat) (w : World) (cur : Array Value), w.heap[g]? = some (.cells cur e (0, 0)) → o + vs.length ≤ cur.size →
    (w.setCells g o vs).heap[g]? = some (.cells (cur.toList.take o ++ vs ++ cur.toList.drop (o + vs.length)).toArray e (0, 0))
  | [], o, w, cur, h, _ => by
    rw [World.setCells, h]
    simp
  | v :: r, o, w, cur, h, hl => by
    have h1 := heap_setCell_same w g o cur e v h
    have h2 := setCells_block g e r (o + 1) (w.setCell ⟨g, o, none⟩ v) (cur.setIfInBounds o v) h1 (by simp at hl ⊢; omega)
    rw [World.setCells, h2]
    have hlt : o < cur.toList.length := by simp at hl ⊢; omega
    obtain ⟨A, x, D, hL, hA⟩ : ∃ A x D, cur.toList = A ++ x :: D ∧ A.length = o := ⟨cur.toList.take o, cur.toList[o], cur.toList.drop (o + 1), by rw [← List.drop_eq_getElem_cons hlt, List.take_append_drop], by simp; simp at hlt; omega⟩
    have hset : (cur.setIfInBounds o v).toList = A ++ v :: D := by
      rw [Array.toList_setIfInBounds, hL, ← hA]
      simp
    rw [hset, hL, ← hA, List.take_length_add_append, List.take_left' rfl, Nat.add_assoc, List.drop_length_add_append, List.drop_length_add_append, Nat.add_comm 1, List.drop_succ_cons, List.length_cons, List.drop_succ_cons]
    simp
theorem setCells_grown (g : Nat) : ∀ (vs : List Value) (o : Nat) (w : World), w.grownBy (w.setCells g o vs) (some g)
  | [], _, w => ⟨rfl, rfl, rfl, Nat.le_refl _, fun _ _ _ => rfl⟩
  | v :: r, o, w => by
    have h := setCells_grown g r (o + 1) (w.setCell ⟨g, o, none⟩ v)
    refine ⟨h.os, h.tape, h.output, Nat.le_trans (by simp) h.size, fun k hk hne => ?_⟩
    rw [World.setCells, h.block k (by simp; exact hk) hne]
    exact Below.heap_setCell w _ _ k (fun e => hne (by rw [e]))
theorem grown_trans {a b c : World} {r : Option Nat} (h1 : a.grownBy b r) (h2 : b.grownBy c r) : a.grownBy c r :=
  ⟨h2.os.trans h1.os, h2.tape.trans h1.tape, h2.output.trans h1.output, Nat.le_trans h1.size h2.size, fun k hk hne => (h2.block k (Nat.lt_of_lt_of_le hk h1.size) hne).trans (h1.block k hk hne)⟩
theorem grown_new {a b c : World} {r : Option Nat} (h1 : a.grownBy b r) (h2 : b.grownBy c (some a.heap.size)) : a.grownBy c r :=
  ⟨h2.os.trans h1.os, h2.tape.trans h1.tape, h2.output.trans h1.output, Nat.le_trans h1.size h2.size, fun k hk hne => (h2.block k (Nat.lt_of_lt_of_le hk h1.size) (fun e => by injection e with e; omega)).trans (h1.block k hk hne)⟩
theorem grown_drew (w : World) (r : Option Nat) : w.grownBy w.drew r := ⟨rfl, rfl, rfl, Nat.le_refl _, fun _ _ _ => rfl⟩
theorem grown_drewN (w : World) (n : Nat) (r : Option Nat) : w.grownBy (w.drewN n) r := ⟨rfl, rfl, rfl, Nat.le_refl _, fun _ _ _ => rfl⟩

theorem splice_take (L V : List Value) (o : Nat) (h : o + V.length ≤ L.length) : (L.take o ++ V ++ L.drop (o + V.length)).take (o + V.length) = L.take o ++ V := by
  rw [List.take_left' (by simp; omega)]
theorem splice_len (L V : List Value) (o : Nat) (h : o + V.length ≤ L.length) : (L.take o ++ V ++ L.drop (o + V.length)).length = L.length := by
  simp; omega
theorem splice_ahead (L V : List Value) (o c : Nat) (h : o + V.length ≤ L.length) (hc : c ≤ o) : (L.take o ++ V ++ L.drop (o + V.length)).take c = L.take c := by
  rw [List.append_assoc, List.take_append_of_le_length (by simp; omega), List.take_take, Nat.min_eq_left hc]
theorem splice_from (L V : List Value) (o : Nat) (h : o + V.length ≤ L.length) : (L.take o ++ V ++ L.drop (o + V.length)).drop o = V ++ L.drop (o + V.length) := by
  rw [List.append_assoc, List.drop_left' (by simp; omega)]

/-- What has become of a slice: another one in its place. -/
def Turned (w : World) (B : Nat) (v : Value) (q : List Nat) (e : Ending) (w' : World) : Prop :=
  ∃ v', e = .returned v' ∧ OwnN w' B v' q ∧ w.grownBy w' v.ownBlock ∧ (v'.ownBlock = v.ownBlock ∨ ∃ g, v'.ownBlock = some g ∧ w.heap.size ≤ g)

theorem insert_any (w : World) (B : Nat) (v : Value) (q : List Nat) (x c vb : Nat) (h : OwnN w B v q) (hB : B ≤ w.heap.size) (hq : q.length ≤ 1000) (hc : c ≤ q.length) (hx : w.heap[vb]? = some (.cells #[.int .i64 (x : Int)] 3 (0, 0))) (hvb : v.ownBlock ≠ some vb) :
    Calls Try.prog 25 #[v, .int .i64 (c : Int), .slice (some ⟨vb, 0, none⟩) 1 1] w (Turned w B v (q.take c ++ x :: q.drop c)) := by
  have hvs : ∀ j u, [Value.int .i64 (x : Int)][j]? = some u → w.cell? ⟨vb, 0 + j, none⟩ = some u := fun j u hj => by
    rw [cell_of_row w vb (0 + j) _ 3 (0, 0) hx, Nat.zero_add]
    simpa using hj
  have h1v : ∀ u ∈ [Value.int .i64 (x : Int)], u.oneCell' = true := fun u hu => by rw [List.mem_singleton.1 hu]; rfl
  have hres : nv (q.take c ++ x :: q.drop c) = (nv q).take c ++ Value.int .i64 (x : Int) :: (nv q).drop c := by simp [nv, List.map_take, List.map_drop]
  have hrl : (q.take c ++ x :: q.drop c).length = q.length + 1 := by simp; omega
  have newrow : ∀ (cap : Nat) (L : List Value) (w' : World) (r : Option Nat), w'.heap[w.heap.size]? = some (.cells L.toArray 3 (0, 0)) → L.length = grownCap w (q.length + 1) cap 3 → L.take (q.length + 1) = (nv q).take c ++ Value.int .i64 (x : Int) :: (nv q).drop c → w.grownBy w' v.ownBlock →
      Turned w B v (q.take c ++ x :: q.drop c) (.returned (.slice (some ⟨w.heap.size, 0, none⟩) (q.length + 1) (grownCap w (q.length + 1) cap 3))) w' := fun cap L w' r h1 h2 h3 h4 => by
    refine ⟨_, rfl, ?_, h4, .inr ⟨w.heap.size, rfl, Nat.le_refl _⟩⟩
    rw [← hrl]
    rw [← hrl] at h2
    exact OwnN.of h1 hB (grownCap_ge w _ cap 3) (grownCap_le_maxLen w _ cap 3 (by rw [hrl]; unfold maxLen; omega)) (by simpa using h2) (by rw [hrl, hres]; exact h3)
  have hcs' : ∀ {g : Nat} {cap : Nat} {cur : Array Value}, v = .slice (some ⟨g, 0, none⟩) q.length cap → w.heap[g]? = some (.cells cur 3 (0, 0)) → cur.toList.take (q.length * 1) = nv q → ∀ j u, (nv q)[j]? = some u → w.cell? ⟨g, 0 + j, none⟩ = some u := fun {g cap cur} hv hg ht j u hj => by
    have hj2 : j < q.length := by
      rcases Nat.lt_or_ge j q.length with hh | hh
      · exact hh
      · rw [List.getElem?_eq_none (by rw [nv_len]; exact hh)] at hj; cases hj
    rw [cell_of_row w g (0 + j) cur 3 (0, 0) hg, Nat.zero_add]
    rw [Nat.mul_one] at ht
    rw [← ht, List.getElem?_take_of_lt hj2, Array.getElem?_toList] at hj
    exact hj
  rcases h.2 with ⟨hv, h0⟩ | ⟨g, cap, cur, hv, hBg, hg, hn, hm, hs, ht⟩
  · have hq0 : q = [] := List.eq_nil_of_length_eq_zero h0
    subst hq0
    have hc0 : c = 0 := by simpa using hc
    subst hc0
    subst hv
    refine (Any2.slices_Insert_int_end_grow insL none 0 0 vb 0 1 1 [] [.int .i64 (x : Int)] w (by omega) (by omega) (by omega) (by omega) rfl rfl (fun _ => rfl) (fun a ha => by cases ha) hvs h1v).mono ?_
    rintro e w' ⟨rfl, rfl⟩
    refine newrow 0 ((([] : List Value) ++ [Value.int .i64 (x : Int)]) ++ (Builtin.zeroCells (Value.int .i64 0).cells (grownCap w (0 + 1) 0 3 - (0 + 1))).toList) _ none ?_ ?_ ?_ ?_
    · have := heap_alloc_new w.drew (.cells ((([] : List Value) ++ [Value.int .i64 (x : Int)]).toArray ++ Builtin.zeroCells (Value.int .i64 0).cells (grownCap w (0 + 1) 0 (insL_ren.t 3) - (0 + 1))) (insL_ren.t 3))
      rw [show w.drew.heap.size = w.heap.size from rfl] at this
      rw [this]
      simp [insL_ren]
    · have hge : 1 ≤ grownCap w 1 0 3 := grownCap_ge w (0 + 1) 0 3
      have : (Builtin.zeroCells #[Value.int .i64 0] (grownCap w 1 0 3 - 1)).size = grownCap w 1 0 3 - 1 := by simp [size_zeroCells]
      simp [Value.cells]
      show (Builtin.zeroCells #[Value.int .i64 0] (grownCap w 1 0 3 - 1)).size + 1 = grownCap w 1 0 3
      omega
    · simp [nv]
    · exact ⟨rfl, rfl, rfl, by simp, fun k hk _ => Below.heap_alloc w.drew _ k hk⟩
  · subst hv
    have hsz : cur.size = cap := by rw [hs, Nat.mul_one]
    have hL : cur.toList.length = cap := by simpa using hsz
    have ht1 : cur.toList.take q.length = nv q := by rw [Nat.mul_one] at ht; exact ht
    have hcs := hcs' rfl hg ht
    have hne : vb ≠ g := fun e => hvb (by rw [e]; rfl)
    have hfz : ∀ i, w.frozen? ⟨g, i, none⟩ = false := fun i => frozen_of_row w g i cur 3 hg
    have hcell : ∀ i, i < cap → (w.cell? ⟨g, i, none⟩).isSome = true := fun i hi => by
      rw [cell_of_row w g i cur 3 (0, 0) hg, Array.getElem?_eq_getElem (by omega)]; rfl
    have hcap63 : cap ≤ 9223372036854775807 := by unfold maxLen at hm; omega
    by_cases hend : c = q.length
    · subst hend
      by_cases hroom : q.length + 1 ≤ cap
      · refine (Any2.slices_Insert_int_end_room insL g 0 q.length cap vb 0 1 1 [.int .i64 (x : Int)] w (by omega) hroom hcap63 rfl (fun j hj => hcell _ (by omega)) (fun j _ => hfz _) hvs h1v).mono ?_
        rintro e w' ⟨rfl, rfl⟩
        have hblk := setCells_block g 3 [.int .i64 (x : Int)] (0 + q.length) w cur hg (by simp; omega)
        refine ⟨_, rfl, ?_, setCells_grown g _ _ w, .inl rfl⟩
        have e : q.length + 1 = (q.take q.length ++ x :: q.drop q.length).length := hrl.symm
        rw [e]
        refine OwnN.of hblk hBg (by rw [hrl]; exact hroom) hm ?_ ?_
        · have := splice_len cur.toList [.int .i64 (x : Int)] (0 + q.length) (by simp; omega)
          simp only [List.size_toArray, this]; exact hL
        · have := splice_take cur.toList [.int .i64 (x : Int)] (0 + q.length) (by simp; omega)
          rw [hrl, hres]
          simp only [Nat.zero_add, List.length_singleton] at this ⊢
          rw [this, ht1]
          have : (nv q).length = q.length := nv_len q
          rw [List.take_of_length_le (by omega), List.drop_eq_nil_of_le (by omega)]
      · refine (Any2.slices_Insert_int_end_grow insL (some ⟨g, 0, none⟩) q.length cap vb 0 1 1 (nv q) [.int .i64 (x : Int)] w (by omega) hn (by omega) (by omega) (nv_len q) rfl (fun e => by cases e) (fun a ha j u hj => by
          injection ha with ha
          subst ha
          rw [Addr.add_lit]
          exact hcs j u hj) hvs h1v).mono ?_
        rintro e w' ⟨rfl, rfl⟩
        refine newrow cap ((nv q ++ [Value.int .i64 (x : Int)]) ++ (Builtin.zeroCells (Value.int .i64 0).cells (grownCap w (q.length + 1) cap 3 - (q.length + 1))).toList) _ none ?_ ?_ ?_ ?_
        · have := heap_alloc_new w.drew (.cells ((nv q ++ [Value.int .i64 (x : Int)]).toArray ++ Builtin.zeroCells (Value.int .i64 0).cells (grownCap w (q.length + 1) cap (insL_ren.t 3) - (q.length + 1))) (insL_ren.t 3))
          rw [show w.drew.heap.size = w.heap.size from rfl] at this
          rw [this]
          simp [insL_ren]
        · have hge := grownCap_ge w (q.length + 1) cap 3
          have : (Builtin.zeroCells #[Value.int .i64 0] (grownCap w (q.length + 1) cap 3 - (q.length + 1))).size = grownCap w (q.length + 1) cap 3 - (q.length + 1) := by simp [size_zeroCells]
          simp [Value.cells, nv_len]
          omega
        · have hnl : (nv q).length = q.length := nv_len q
          rw [List.take_left' (by simp [nv_len]), List.take_of_length_le (by omega), List.drop_eq_nil_of_le (by omega)]
        · exact ⟨rfl, rfl, rfl, by simp, fun k hk _ => Below.heap_alloc w.drew _ k hk⟩
    · have hlt : c < q.length := by omega
      have hnl : (nv q).length = q.length := nv_len q
      have hdl : ((nv q).drop c).length = q.length - c := by simp [nv_len]
      by_cases hroom : q.length + 1 ≤ cap
      · refine (Any2.slices_Insert_int_shift insL g 0 q.length cap c vb 0 1 1 (nv q) [.int .i64 (x : Int)] w hlt (by omega) hroom hcap63 hne (nv_len q) rfl hcs (fun j hj => hcell _ (by omega)) (fun j _ => hfz _) hvs (nv_one q) h1v 3 3 1 cap
          (by simp [World.shape?, hx]) (by simp [World.shape?, hg, hsz]) (by omega) (frozen_of_row w vb _ _ 3 hx) (frozen_of_row w vb _ _ 3 hx)).mono ?_
        rintro e w' ⟨rfl, rfl⟩
        have hblk1 := setCells_block g 3 ((nv q).drop c) (0 + (c + 1)) w.drew cur hg (by rw [hdl]; omega)
        have hl1 := splice_len cur.toList ((nv q).drop c) (0 + (c + 1)) (by rw [hdl, hL]; omega)
        have ha1 := splice_ahead cur.toList ((nv q).drop c) (0 + (c + 1)) c (by rw [hdl, hL]; omega) (by omega)
        have hf1 := splice_from cur.toList ((nv q).drop c) (0 + (c + 1)) (by rw [hdl, hL]; omega)
        generalize hcur1 : cur.toList.take (0 + (c + 1)) ++ (nv q).drop c ++ cur.toList.drop (0 + (c + 1) + ((nv q).drop c).length) = L1 at *
        have hblk2 := setCells_block g 3 [.int .i64 (x : Int)] (0 + c) (w.drew.setCells g (0 + (c + 1)) ((nv q).drop c)) L1.toArray hblk1 (by simp; omega)
        refine ⟨_, rfl, ?_, grown_trans (grown_trans (grown_drew w _) (setCells_grown g _ _ _)) (setCells_grown g _ _ _), .inl rfl⟩
        have e : q.length + 1 = (q.take c ++ x :: q.drop c).length := hrl.symm
        rw [e]
        refine OwnN.of hblk2 hBg (by rw [hrl]; exact hroom) hm ?_ ?_
        · have := splice_len L1 [.int .i64 (x : Int)] (0 + c) (by simp; omega)
          simp only [List.size_toArray] at this ⊢
          rw [this, hl1, hL]
        · rw [hrl, hres]
          simp only [Nat.zero_add, List.length_singleton] at hf1 ha1 ⊢
          rw [ha1]
          have h5 : cur.toList.take c = (nv q).take c := by rw [← ht1, List.take_take, Nat.min_eq_left hc]
          rw [h5, hf1]
          have h6 : ((nv q).take c ++ [Value.int .i64 (x : Int)] ++ ((nv q).drop c ++ cur.toList.drop (c + 1 + ((nv q).drop c).length))) = ((nv q).take c ++ Value.int .i64 (x : Int) :: (nv q).drop c) ++ cur.toList.drop (c + 1 + ((nv q).drop c).length) := by simp
          rw [h6, List.take_left' (by simp [nv_len]; omega)]
      · refine (Any2.slices_Insert_int_grow insL g 0 q.length cap c vb 0 1 1 (nv q) [.int .i64 (x : Int)] w hlt (by omega) hn (by omega) (by omega) (nv_len q) rfl hcs hvs (nv_one q) h1v).mono ?_
        rintro e w' ⟨rfl, rfl⟩
        have hge := grownCap_ge w (q.length + 1) cap 3
        obtain ⟨L0, hL0, hL0l, hL0t⟩ : ∃ L0 : List Value, (((nv q).take c).toArray ++ Builtin.zeroCells (Value.int .i64 0).cells (q.length + 1 - c) ++ Builtin.zeroCells (Value.int .i64 0).cells (grownCap w (q.length + 1) cap (insL_ren.t 3) - (q.length + 1))) = L0.toArray ∧ L0.length = grownCap w (q.length + 1) cap 3 ∧ L0.take c = (nv q).take c := by
          refine ⟨(((nv q).take c).toArray ++ Builtin.zeroCells (Value.int .i64 0).cells (q.length + 1 - c) ++ Builtin.zeroCells (Value.int .i64 0).cells (grownCap w (q.length + 1) cap (insL_ren.t 3) - (q.length + 1))).toList, Array.toArray_toList.symm, ?_, ?_⟩
          · have e1 : (Builtin.zeroCells #[Value.int .i64 0] (grownCap w (q.length + 1) cap 3 - (q.length + 1))).size = grownCap w (q.length + 1) cap 3 - (q.length + 1) := by simp [size_zeroCells]
            have e2 : (Builtin.zeroCells #[Value.int .i64 0] (q.length + 1 - c)).size = q.length + 1 - c := by simp [size_zeroCells]
            simp [Value.cells, nv_len, insL_ren]
            omega
          · simp only [Array.toList_append, List.append_assoc]
            rw [List.take_left' (by simp [nv_len]; omega)]
        rw [hL0]
        have hblk0 : (w.alloc (.cells L0.toArray (insL_ren.t 3))).drew.heap[w.heap.size]? = some (.cells L0.toArray 3 (0, 0)) := heap_alloc_new w _
        have hblk1 := setCells_block w.heap.size 3 [.int .i64 (x : Int)] c _ L0.toArray hblk0 (by simp; omega)
        have hl1 := splice_len L0 [.int .i64 (x : Int)] c (by simp; omega)
        have ha1 := splice_take L0 [.int .i64 (x : Int)] c (by simp; omega)
        generalize hcur1 : L0.take c ++ [Value.int .i64 (x : Int)] ++ L0.drop (c + [Value.int .i64 (x : Int)].length) = L1 at *
        have hblk2 := setCells_block w.heap.size 3 ((nv q).drop c) (c + 1) (((w.alloc (.cells L0.toArray (insL_ren.t 3))).drew.setCells w.heap.size c [.int .i64 (x : Int)]).drew) L1.toArray hblk1 (by rw [hdl]; simp; omega)
        have hl2 := splice_len L1 ((nv q).drop c) (c + 1) (by rw [hdl]; omega)
        have ha2 := splice_take L1 ((nv q).drop c) (c + 1) (by rw [hdl]; omega)
        refine newrow cap _ _ none hblk2 (hl2.trans (hl1.trans hL0l)) ?_ ?_
        · rw [hdl, show c + 1 + (q.length - c) = q.length + 1 by omega] at ha2
          rw [hdl, show c + 1 + (q.length - c) = q.length + 1 by omega, ha2]
          rw [List.length_singleton] at ha1
          rw [ha1, hL0t]
          simp
        · exact grown_new (grown_new (b := (w.alloc (.cells L0.toArray (insL_ren.t 3))).drew) ⟨rfl, rfl, rfl, by show _ ≤ (w.alloc _).heap.size; simp, fun k hk _ => Below.heap_alloc w _ k hk⟩ (setCells_grown w.heap.size [.int .i64 (x : Int)] c ((w.alloc (.cells L0.toArray (insL_ren.t 3))).drew))) (grown_trans (grown_drew _ _) (setCells_grown w.heap.size ((nv q).drop c) (c + 1) _))

theorem del_any (w : World) (B : Nat) (v : Value) (q : List Nat) (i : Nat) (h : OwnN w B v q) (hi : i < q.length) :
    Calls Try.prog 35 #[v, .int .i64 (i : Int), .int .i64 ((i : Int) + 1)] w (Turned w B v (q.take i ++ q.drop (i + 1))) := by
  rcases h.2 with ⟨hv, h0⟩ | ⟨g, cap, cur, hv, hBg, hg, hn, hm, hs, ht⟩
  · omega
  · subst hv
    have hsz : cur.size = cap := by rw [hs, Nat.mul_one]
    have hL : cur.toList.length = cap := by simpa using hsz
    have ht1 : cur.toList.take q.length = nv q := by rw [Nat.mul_one] at ht; exact ht
    have hc : ∀ j, j < (zs q).length → w.cell? ⟨g, 0 + j, none⟩ = some (.int .i64 ((zs q).getD j 0)) := fun j hj => by
      have hj2 : j < q.length := by rw [zs_len] at hj; exact hj
      rw [cell_of_row w g (0 + j) cur 3 (0, 0) hg, Nat.zero_add]
      have : (nv q)[j]? = some (.int .i64 ((zs q).getD j 0)) := by simp [nv, zs, hj2]
      rw [← ht1, List.getElem?_take_of_lt hj2, Array.getElem?_toList] at this
      exact this
    have h1 := Any.slices_Delete_int_cells delL g 0 q.length cap i (i + 1) (zs q) w (by rw [zs_len]; exact Nat.le_refl _) hn (by unfold maxLen at hm; omega) (by omega) (by omega) hc (fun j _ => frozen_of_row w g _ cur 3 hg)
    rw [show (((i + 1 : Nat) : Int)) = (i : Int) + 1 by omega] at h1
    refine h1.mono ?_
    rintro e w' ⟨rfl, n, rfl⟩
    have hzt : (zs q).take q.length = zs q := List.take_of_length_le (by rw [zs_len]; exact Nat.le_refl _)
    rw [hzt]
    generalize hV : ((zs q).take i ++ (zs q).drop (i + 1) ++ List.replicate (i + 1 - i) 0).map (Value.int .i64) = V at *
    have hVl : V.length = q.length := by rw [← hV]; simp [zs_len]; omega
    have hVt : V.take (q.length - 1) = nv (q.take i ++ q.drop (i + 1)) := by
      rw [← hV, List.map_append, List.take_left' (by simp [zs_len]; omega)]
      simp [nv, zs, List.map_take, List.map_drop, Function.comp_def]
    have hblk := setCells_block g 3 V 0 (w.drewN n) cur hg (by omega)
    have hl := splice_len cur.toList V 0 (by omega)
    have htk := splice_take cur.toList V 0 (by omega)
    have hrl : (q.take i ++ q.drop (i + 1)).length = q.length - 1 := by simp; omega
    refine ⟨_, rfl, ?_, grown_trans (grown_drewN w n _) (setCells_grown g _ _ _), .inl rfl⟩
    rw [show q.length - (i + 1 - i) = (q.take i ++ q.drop (i + 1)).length by omega]
    refine OwnN.of hblk hBg (by omega) hm (by simp only [List.size_toArray]; omega) ?_
    rw [hrl, ← hVt]
    simp only [List.take_zero, List.nil_append, Nat.zero_add] at htk ⊢
    rw [List.take_append_of_le_length (by omega)]

theorem zs_count (q : List Nat) (x : Nat) : (zs q).countP (· < (x : Int)) = q.countP (· < x) := by
  unfold zs
  rw [List.countP_map]
  apply List.countP_congr
  intro a _
  simp
theorem bs_any (w : World) (B : Nat) (v : Value) (q : List Nat) (x : Nat) (h : OwnN w B v q) (hq : q.length ≤ 1000) (hs : q.Pairwise (· < ·)) (C : Bool) (hC : C = true ↔ x ∈ q) :
    Calls Try.prog 23 #[v, .int .i64 (x : Int)] w fun e w' => e = .returned (.tuple #[.int .i64 ((q.countP (· < x) : Nat) : Int), .bool C]) ∧ Below w.heap.size w w' := by
  obtain ⟨A, cap, hv, h1, h2, hN⟩ := h.ints.nums
  rw [zs_len] at hv h1
  subst hv
  by_cases h0 : q.length = 0
  · have hq0 : q = [] := List.eq_nil_of_length_eq_zero h0
    subst hq0
    refine (Any.slices_BinarySearch_int_empty bsL A cap (x : Int) w).mono ?_
    rintro e w' ⟨rfl, rfl⟩
    have : C = false := by rw [← Bool.not_eq_true, hC]; simp
    rw [this]
    exact ⟨rfl, Below.refl _ _⟩
  · obtain ⟨b, off, rfl, hb, hc⟩ := hN (by rw [zs_len]; omega)
    have hzt : (zs q).take q.length = zs q := List.take_of_length_le (by rw [zs_len]; exact Nat.le_refl _)
    have := Any.slices_BinarySearch_int bsL b off q.length cap (zs q) (x : Int) w (by rw [zs_len]; exact Nat.le_refl _) (by omega) (fun j hj => by
      rw [hc j hj]; simp [hj]) (by
        rw [hzt]
        unfold zs
        rw [List.pairwise_map]
        exact List.pairwise_iff_getElem.2 fun i j hi hj hij => (by have := List.pairwise_iff_getElem.1 hs i j hi hj hij; omega))
    rw [hzt, zs_count] at this
    refine this.mono ?_
    rintro e w' ⟨rfl, n, rfl⟩
    have hcc : (zs q).contains (x : Int) = C := by
      rw [Bool.eq_iff_iff, hC, ← zs_mem]
      simp
    rw [hcc]
    exact ⟨rfl, below_drewN (Below.refl _ _) _⟩

set_option maxHeartbeats 400000 in
theorem index_any (A : Option Addr) (cap : Nat) (o : List Int) (x : Int) (w : World) (hE : Nums w w.heap.size A o) (hl : o.length ≤ 1000) :
    Calls Try.prog 29 #[.slice A o.length cap, .int .i64 x] w fun e w' => ∃ k : Int, e = .returned (.int .i64 k) ∧ (0 ≤ k ↔ x ∈ o) ∧ w = w' := by
  go_enter Try.func29, Try.ntmps29
  go_wp2
  go_loop [8] (fun i => ∃ k : Nat, k ≤ o.length ∧ i = .int .i64 k ∧ Hid (∀ j, (h : j < o.length) → j < k → o[j] ≠ x)) (fun i => o.length - (intOf i).toNat)
  case atStart => exact ⟨0, Nat.zero_le _, rfl, fun _ _ h => absurd h (Nat.not_lt_zero _)⟩
  case round =>
    obtain ⟨k, hk, rfl, hr⟩ := hrel
    by_cases hlt : k < o.length
    · obtain ⟨b, off, rfl, hb, hc⟩ := hE (by omega)
      have c0 := hc k hlt
      clear hc
      by_cases he : o[k] = x
      · have hf : Hid (x ∈ o) := by unfold Hid; rw [← he]; exact List.getElem_mem hlt
        generalize o[k] = y at *
        have hb1 : (x == y) = true := by simp [he]
        clear he
        go_wp2
        go_ret
        exact ⟨k, rfl, ⟨fun _ => hf.out, fun _ => by omega⟩, rfl⟩
      · have hn : Hid (∀ j, (h : j < o.length) → j < k + 1 → o[j] ≠ x) := fun j h hj => by
          by_cases e : j = k
          · subst e; exact he
          · exact hr.out j h (by omega)
        generalize o[k] = y at *
        have hb1 : (x == y) = false := by simp; exact fun h => he h.symm
        clear he
        go_wp2
        go_round
        case rel => exact ⟨k + 1, by omega, by go_num, hn⟩
        case measure => simp [intOf]; omega
    · have hf : Hid (¬ x ∈ o) := by
        unfold Hid
        intro h
        obtain ⟨j, hj, e⟩ := List.getElem_of_mem h
        exact hr.out j hj (by omega) e
      go_wp2
      go_ret
      exact ⟨-1, rfl, ⟨fun h => absurd h (by omega), fun h => absurd h hf.out⟩, rfl⟩

set_option maxHeartbeats 400000 in
theorem contains_any (A : Option Addr) (cap : Nat) (o : List Int) (x : Int) (w : World) (hE : Nums w w.heap.size A o) (hl : o.length ≤ 1000) (C : Bool) (hC : C = true ↔ x ∈ o) :
    Calls Try.prog 24 #[.slice A o.length cap, .int .i64 x] w fun e w' => e = .returned (.bool C) ∧ w = w' := by
  have hCH := Lib.hid hC
  have hEH := Lib.hid hE
  clear hC hE
  go_enter Try.func24, Try.ntmps24
  go_wp2_with fail
  refine (index_any A cap o x w hEH.out hl).mono ?_
  rintro e w1 ⟨k, rfl, hk, rfl⟩
  have hkC : Hid (C = decide (0 ≤ k)) := by
    unfold Hid
    rw [Bool.eq_iff_iff, hCH.out, ← hk]
    simp
  clear hk hCH
  go_wp2_with fail
  go_ret
  exact ⟨by rw [hkC.out]; rfl, rfl⟩

#print axioms insert_any
#print axioms del_any
#print axioms bs_any
#print axioms contains_any
end Go.Proofs.Ytkchccaeopdemaa
