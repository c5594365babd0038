/-
  A run of stores, at the block: general.
-/
import Derived.Test.YtgamppdfjbcbeaaRowW
import Derived.Deep.AppendLies
namespace Go.Proofs.Ytgamppdfjbcbeaa
open Go.RowKit Go.Maps

theorem sc_setCells_block (g : Nat) (e : TypeId) : ∀ (vs : List Value) (o : Nat) (w : World) (cur : Array Value), w.heap[g]? = some (.cells cur e (0, 0)) → o + vs.length ≤ cur.size →
    (w.setCells g o vs).heap[g]? = some (.cells (cur.toList.take o ++ vs ++ cur.toList.drop (o + vs.length)).toArray e (0, 0))
  | [], o, w, cur, h, _ => by
    rw [World.setCells, h]
    simp
  | v :: r, o, w, cur, h, hl => by
    have h1 := heap_setCell_same w g o cur e v h
    have h2 := sc_setCells_block g e r (o + 1) (w.setCell ⟨g, o, none⟩ v) (cur.setIfInBounds o v) h1 (by simp at hl ⊢; omega)
    rw [World.setCells, h2]
    have hlt : o < cur.toList.length := by simp at hl ⊢; omega
    obtain ⟨A, x, D, hL, hA⟩ : ∃ A x D, cur.toList = A ++ x :: D ∧ A.length = o := ⟨cur.toList.take o, cur.toList[o], cur.toList.drop (o + 1), by rw [← List.drop_eq_getElem_cons hlt, List.take_append_drop], by simp; simp at hlt; omega⟩
    have hset : (cur.setIfInBounds o v).toList = A ++ v :: D := by
      rw [Array.toList_setIfInBounds, hL, ← hA]
      simp
    rw [hset, hL, ← hA, List.take_length_add_append, List.take_left' rfl, Nat.add_assoc, List.drop_length_add_append, List.drop_length_add_append, Nat.add_comm 1, List.drop_succ_cons, List.length_cons, List.drop_succ_cons]
    simp
theorem sc_setCells_grown (g : Nat) : ∀ (vs : List Value) (o : Nat) (w : World), w.grownBy (w.setCells g o vs) (some g)
  | [], _, w => ⟨rfl, rfl, rfl, Nat.le_refl _, fun _ _ _ => rfl⟩
  | v :: r, o, w => by
    have h := sc_setCells_grown g r (o + 1) (w.setCell ⟨g, o, none⟩ v)
    refine ⟨h.os, h.tape, h.output, Nat.le_trans (by simp) h.size, fun k hk hne => ?_⟩
    rw [World.setCells, h.block k (by simp; exact hk) hne]
    exact Below.heap_setCell w _ _ k (fun e => hne (by rw [e]))
theorem sc_grown_trans {a b c : World} {r : Option Nat} (h1 : a.grownBy b r) (h2 : b.grownBy c r) : a.grownBy c r :=
  ⟨h2.os.trans h1.os, h2.tape.trans h1.tape, h2.output.trans h1.output, Nat.le_trans h1.size h2.size, fun k hk hne => (h2.block k (Nat.lt_of_lt_of_le hk h1.size) hne).trans (h1.block k hk hne)⟩
theorem sc_grown_new {a b c : World} {r : Option Nat} (h1 : a.grownBy b r) (h2 : b.grownBy c (some a.heap.size)) : a.grownBy c r :=
  ⟨h2.os.trans h1.os, h2.tape.trans h1.tape, h2.output.trans h1.output, Nat.le_trans h1.size h2.size, fun k hk hne => (h2.block k (Nat.lt_of_lt_of_le hk h1.size) (fun e => by injection e with e; omega)).trans (h1.block k hk hne)⟩
theorem sc_grown_drew (w : World) (r : Option Nat) : w.grownBy w.drew r := ⟨rfl, rfl, rfl, Nat.le_refl _, fun _ _ _ => rfl⟩
theorem sc_grown_drewN (w : World) (n : Nat) (r : Option Nat) : w.grownBy (w.drewN n) r := ⟨rfl, rfl, rfl, Nat.le_refl _, fun _ _ _ => rfl⟩

theorem sc_splice_take (L V : List Value) (o : Nat) (h : o + V.length ≤ L.length) : (L.take o ++ V ++ L.drop (o + V.length)).take (o + V.length) = L.take o ++ V := by
  rw [List.take_left' (by simp; omega)]
theorem sc_splice_len (L V : List Value) (o : Nat) (h : o + V.length ≤ L.length) : (L.take o ++ V ++ L.drop (o + V.length)).length = L.length := by
  simp; omega
theorem sc_splice_ahead (L V : List Value) (o c : Nat) (h : o + V.length ≤ L.length) (hc : c ≤ o) : (L.take o ++ V ++ L.drop (o + V.length)).take c = L.take c := by
  rw [List.append_assoc, List.take_append_of_le_length (by simp; omega), List.take_take, Nat.min_eq_left hc]
theorem sc_splice_from (L V : List Value) (o : Nat) (h : o + V.length ≤ L.length) : (L.take o ++ V ++ L.drop (o + V.length)).drop o = V ++ L.drop (o + V.length) := by
  rw [List.append_assoc, List.drop_left' (by simp; omega)]


#print axioms sc_setCells_block
end Go.Proofs.Ytgamppdfjbcbeaa
