/-
  Words for the walk of beaconryref.Causal.
-/
import Derived.Test.YtkchccaeopdemaaExc
import Derived.Test.YtkchccaeopdemaaTld
import Derived.Test.YtkchccaeopdemaaRcM
import Derived.Test.YtkchccaeopdemaaRcp
import Derived.Test.YtkchccaeopdemaaCpy
import Derived.Test.YtkchccaeopdemaaHcs
import Derived.Test.YtkchccaeopdemaaHld
import Derived.Deep.LoopGhost
import Derived.Deep.CutRange
import Derived.BigQuiet
import Derived.Deep.QuietTactic
namespace Go.Proofs.Ytkchccaeopdemaa
open Go.RowKit Go.Maps Go.Deep

noncomputable def codesL (n : Nat) (l : List Mv) (k : Nat) : List Int := (List.range k).map (codeC n l)
theorem codesL_len (n : Nat) (l : List Mv) (k : Nat) : (codesL n l k).length = k := by simp [codesL]
theorem codesL_succ (n : Nat) (l : List Mv) (k : Nat) : codesL n l (k + 1) = codesL n l k ++ [codeC n l k] := by
  unfold codesL
  rw [List.range_succ, List.map_append]; rfl
def RcRel (w1 : World) (B o T C n : Nat) (l : List Mv) (k : Nat) (vb vh : Value) (wr : World) : Prop :=
  ∃ vs vc cm, RC wr B o T C n (cAt n l k).m vs vc vh (codesL n l k) (famF n (cAt n l k) cm) ∧ vb = vs (2 * n) ∧ CmI n (cAt n l k) cm ∧ (∀ i, i < n → (cm i).length ≤ k) ∧ Below B w1 wr
/-- A message has come, and none has been delivered yet. -/
def ComR (w1 : World) (B o T C n : Nat) (S : CS) (cs : List Int) (cm : Nat → List Nat) (vs : Nat → Value) (vc vh : Value) (i v bm : Nat) (mvs : List Value) (wx : World) : Prop :=
  ∃ v', RC wx B o T C n S.m (up1 vs (n + i) v') vc vh cs (famF n S (up1 cm i (cm i ++ [v]))) ∧ Below B w1 wx ∧ Row wx bm 39 mvs
/-- In the midst of delivery. -/
def DvR (w1 : World) (B o T C n : Nat) (S : CS) (cs : List Int) (cm : Nat → List Nat) (vb vc vh : Value) (i v bm : Nat) (mvs : List Value) (g : Nat) (wr : World) : Prop :=
  ∃ t q vs, q.length = g ∧ RC wr B o T C n S.m vs vc vh cs (famF n (S.put i t q) (up1 cm i (cm i ++ [v]))) ∧ vs (2 * n) = vb ∧ Below B w1 wr ∧ Row wr bm 39 mvs ∧ dlv S.bh t q = dlv S.bh (S.td i) (ins v (S.wt i)) ∧ PI S.m S.bh t q ∧ MI S.sd i (cm i ++ [v]) t q ∧ t.length + q.length ≤ 61
theorem famF_self (n : Nat) (S : CS) (cm : Nat → List Nat) (i : Nat) (q : List Nat) (j : Nat) : famF n S cm j = famF n (S.put i (S.td i) q) cm j := by
  unfold famF
  have hb : byS (S.put i (S.td i) q) = byS S := rfl
  have hh : (S.put i (S.td i) q).bh = S.bh := rfl
  rw [hb, hh]
  by_cases h1 : j < n
  · rw [if_pos h1, if_pos h1, CS.put_td]
    by_cases e : j = i
    · rw [if_pos e, e]
    · rw [if_neg e]
  · rw [if_neg h1, if_neg h1]
theorem CS.put2 (S : CS) (i : Nat) (t q t' q' : List Nat) : (S.put i t q).put i t' q' = S.put i t' q' := CS.put_put S i t q t' q'
theorem all_take_succ (l t : List Nat) {c : Nat} (h : c < l.length) : ((l.take (c + 1)).all fun x => t.contains x) = (((l.take c).all fun x => t.contains x) && t.contains l[c]) := by
  have e : l.take (c + 1) = l.take c ++ [l[c]] := by simp
  rw [e, List.all_append]
  simp
/-- What stands behind the move, ahead of its code's laying down. -/
def RcCut (w1 : World) (B o T C n : Nat) (l : List Mv) (k : Nat) (Ac : Option Addr) (cc : Nat) (vb vh e : Value) (wx : World) : Prop :=
  ∃ vs cm, RC wx B o T C n (cAt n l (k + 1)).m vs (.slice Ac k cc) vh (codesL n l k) (famF n (cAt n l (k + 1)) cm) ∧ vb = vs (2 * n) ∧ CmI n (cAt n l (k + 1)) cm ∧ (∀ i, i < n → (cm i).length ≤ k + 1) ∧ Below B w1 wx ∧ e = .int .i64 (codeC n l k)
def RcRes (w : World) (n : Nat) (l : List Mv) (e : Ending) (w' : World) : Prop :=
  ∃ Ac cc T o C vs vh cm, e = .returned (.agg #[.slice Ac l.length cc, .slice (some ⟨T, 0, none⟩) n n]) ∧ RC w' (w.heap.size + 1) o T C n (cAt n l l.length).m vs (.slice Ac l.length cc) vh (codesL n l l.length) (famF n (cAt n l l.length) cm) ∧ Below w.heap.size w w'
theorem hdrs_nil (a n : Nat) : List.replicate n (Value.slice none 0 0) = hdrs (fun _ => .slice none 0 0) a n := by
  apply List.ext_getElem
  · simp [hdrs]
  · intro b h1 h2; simp [hdrs]
theorem RC.lsts {w : World} {B o T C n : Nat} {vs : Nat → Value} {vc vh : Value} {cs : List Int} {S : CS} {cm : Nat → List Nat} (h : RC w B o T C n S.m vs vc vh cs (famF n S cm)) : Lsts w w.heap.size (some ⟨T, 0, none⟩) (toldL n S) := fun _ => by
  refine ⟨T, 0, rfl, h.told.lt, fun i hi => ?_⟩
  have hin : i < n := by simpa [toldL] using hi
  obtain ⟨At, ct, hvt, hl, _, hN⟩ := h.nums (j := i) (by omega)
  rw [famF_td hin] at hvt hN
  have e : (toldL n S)[i] = zs (S.td i) := by simp [toldL]
  refine ⟨At, ct, ?_, by rw [e]; exact hN⟩
  rw [Nat.zero_add, h.tcell hin, hvt, e, zs_len]
theorem RC.codes {w : World} {B o T C n m : Nat} {vs : Nat → Value} {A : Option Addr} {len cap : Nat} {vh : Value} {cs : List Int} {f : Nat → List Nat} (h : RC w B o T C n m vs (.slice A len cap) vh cs f) : Nums w w.heap.size A cs := by
  have hlt := h.cod.lt
  have hcells := @World.ownsRow.cells _ _ _ _ _ _ _ h.cod
  rcases h.cod.2 with ⟨h7, h8⟩ | ⟨g, cap', cur, hv, hb', hg', hc1, hc2, _⟩
  · intro h0; omega
  · injection hv with e1 e2 e3
    subst e1
    refine fun _ => ⟨g, 0, rfl, (hlt g rfl).2, fun q hq => ?_⟩
    have := hcells (g := g) rfl q (.int .i64 cs[q]) (by simp [intVals, hq])
    have hadd : (⟨g, 0, none⟩ : Addr).add q = ⟨g, q, none⟩ := by unfold Addr.add; split <;> simp_all
    rw [hadd] at this
    rw [Nat.zero_add]
    exact this

#print axioms RC.lsts
end Go.Proofs.Ytkchccaeopdemaa
