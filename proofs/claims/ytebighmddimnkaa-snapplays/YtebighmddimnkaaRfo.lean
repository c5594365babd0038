/-
  The end of beaconryref.Snap: the relation of its two last loops.
-/
import Derived.Test.YtebighmddimnkaaRfn
namespace Go.Proofs.Ytebighmddimnkaa
open Go.RowKit Go.Maps

def FinR (w : World) (B2 n : Nat) (b : RB) (vw : Value) (l : List Mv) (i j : Nat) (wr : World) : Prop :=
  ∃ d vl vc L, RefM wr w.heap.size B2 n n b (stAt n l l.length) d vw vl vc L ((List.range l.length).map (codeAt n l)) ∧ (d = true ↔ finP n (stAt n l l.length) i j) ∧ Below w.heap.size w wr
theorem FinR.num {w wr : World} {B2 n i j : Nat} {b : RB} {vw : Value} {l : List Mv} (h : FinR w B2 n b vw l i j wr) : wr.cell? ⟨b.bn, 0, none⟩ = some (.int .i64 (n : Int)) := by
  obtain ⟨d, vl, vc, L, hR, _, _⟩ := h
  exact hR.rn.cell (i := 0) (by simp)
theorem FinR.row {w wr : World} {B2 n i : Nat} {b : RB} {vw : Value} {l : List Mv} (h : FinR w B2 n b vw l i n wr) : FinR w B2 n b vw l (i + 1) 0 wr := by
  obtain ⟨d, vl, vc, L, hR, hd, hB⟩ := h
  exact ⟨d, vl, vc, L, hR, by rw [finP_row]; exact hd, hB⟩
theorem results_cell1 {fn : Func} {p : Tmp} {ty : TypeId} (h : fn.results = #[.cell p ty]) (tmps : Array Value) (P : Program) (w : World) :
    (results fn tmps).run P w = ((asAddr (tmps.getD p undef)).run P w).andThen fun a w₁ => (loadVar ty a).run P w₁ := by
  simp only [results, h]
  simp [Sem.run_bind, Result.andThen]

#print axioms results_cell1
end Go.Proofs.Ytebighmddimnkaa
