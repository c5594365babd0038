/-
  The end of beaconryref.Snap: words and small facts.
-/
import Derived.Test.YtebighmddimnkaaRsn
namespace Go.Proofs.Ytebighmddimnkaa
open Go.RowKit Go.Maps

def okP (S : St) (a c : Nat) : Prop := S.rc a = true ∧ (a = c ∨ S.cl a c = true)
def finP (n : Nat) (S : St) (i j : Nat) : Prop := (∀ a, a < i → ∀ c, c < n → okP S a c) ∧ ∀ c, c < j → okP S i c
theorem finP_zero (n : Nat) (S : St) : finP n S 0 0 := ⟨fun a h => by omega, fun c h => by omega⟩
theorem finP_step {n : Nat} {S : St} {i j : Nat} : finP n S i (j + 1) ↔ finP n S i j ∧ okP S i j := by
  constructor
  · intro h
    exact ⟨⟨h.1, fun c hc => h.2 c (by omega)⟩, h.2 j (by omega)⟩
  · rintro ⟨h1, h2⟩
    refine ⟨h1.1, fun c hc => ?_⟩
    by_cases e : c = j
    · subst e; exact h2
    · exact h1.2 c (by omega)
theorem finP_row {n : Nat} {S : St} {i : Nat} : finP n S (i + 1) 0 ↔ finP n S i n := by
  constructor
  · intro h
    exact ⟨fun a ha => h.1 a (by omega), fun c hc => h.1 i (by omega) c hc⟩
  · intro h
    refine ⟨fun a ha c hc => ?_, fun c hc => by omega⟩
    by_cases e : a = i
    · subst e; exact h.2 c hc
    · exact h.1 a (by omega) c hc
theorem finP_done {n : Nat} {S : St} (hn : 1 ≤ n) : finP n S n 0 ↔ DoneS n S := by
  constructor
  · intro h
    exact ⟨fun i hi => (h.1 i hi 0 (by omega)).1, fun i j hi hj hne => ((h.1 i hi j hj).2).resolve_left hne⟩
  · intro h
    refine ⟨fun a ha c hc => ⟨h.1 a ha, ?_⟩, fun c hc => by omega⟩
    by_cases e : a = c
    · exact .inl e
    · exact .inr (h.2 a c ha hc e)
theorem err_nums {w : World} {B : Nat} {v : Value} {cs : List Int} (h : w.ownsRow B 28 1 v cs.length (intVals cs)) : ∃ A cap, v = .slice A cs.length cap ∧ Nums w w.heap.size A cs := by
  have hlt := World.ownsRow.lt h
  have hcells := @World.ownsRow.cells _ _ _ _ _ _ _ h
  rcases h.2 with ⟨h7, h8⟩ | ⟨g, cap, cur, hv, hb', hg', hc1, hc2, _⟩
  · exact ⟨none, 0, by rw [h7, h8], fun hh => by omega⟩
  · refine ⟨_, cap, hv, fun _ => ⟨g, 0, rfl, (hlt g (by rw [hv]; rfl)).2, fun q hq => ?_⟩⟩
    have := hcells (g := g) (by rw [hv]; rfl) q (.int .i64 cs[q]) (by simp [intVals, hq])
    have hadd : (⟨g, 0, none⟩ : Addr).add q = ⟨g, q, none⟩ := by unfold Addr.add; split <;> simp_all
    rw [hadd] at this
    rw [Nat.zero_add]
    exact this
def RsnRes (w : World) (n : Nat) (l : List Mv) (e : Ending) (w' : World) : Prop :=
  ∃ (Ac : Option Addr) (capc : Nat) (D : Bool) (gk Tw capw : Nat) (rw : Nat → Nat), e = .returned (.agg #[.slice Ac l.length capc, .bool D, .slice (some ⟨gk, 0, none⟩) n n, .slice (some ⟨Tw, 0, none⟩) n capw]) ∧ (D = true ↔ DoneS n (stAt n l l.length)) ∧
    Nums w' w'.heap.size Ac ((List.range l.length).map (codeAt n l)) ∧ IntRow w' gk n (stAt n l l.length).kp ∧
    (∀ i, i < n → w'.cell? ⟨Tw, i, none⟩ = some (.slice (some ⟨rw i, 0, none⟩) n n) ∧ Tw < w'.heap.size ∧ IntRow w' (rw i) n ((stAt n l l.length).wy i)) ∧ Below w.heap.size w w'
theorem owns_cell {w : World} {B e n Tw cap : Nat} {xs : List Value} (h : w.ownsRow B e 1 (.slice (some ⟨Tw, 0, none⟩) n cap) n xs) {i : Nat} {v : Value} (hi : xs[i]? = some v) : w.cell? ⟨Tw, i, none⟩ = some v := by
  have := World.ownsRow.cells h (g := Tw) rfl i v hi
  have hadd : (⟨Tw, 0, none⟩ : Addr).add i = ⟨Tw, i, none⟩ := by unfold Addr.add; split <;> simp_all
  rw [hadd] at this
  exact this
/-- What the result reads as, once it is laid into its own block. -/
theorem refM_out {w0 w W : World} {B B2 n : Nat} {b : RB} {S : St} {d : Bool} {vl vc : Value} {L : List Lt} {Tw capw : Nat} {l : List Mv} {cs : List Int} (hS : S = stAt n l l.length) (hcs : cs = (List.range l.length).map (codeAt n l)) (h : RefM w B B2 n n b S d (.slice (some ⟨Tw, 0, none⟩) n capw) vl vc L cs) (hn : 1 ≤ n)
    (hW : ∀ g, g ≠ b.bR → W.heap[g]? = w.heap[g]?) (hB : Below w0.heap.size w0 W) (hd : d = true ↔ DoneS n S) :
    RsnRes w0 n l (.returned (.agg #[vc, .bool d, .slice (some ⟨b.ib 1, 0, none⟩) n n, .slice (some ⟨Tw, 0, none⟩) n capw])) W := by
  have hoc : W.ownsRow B 28 1 vc cs.length (intVals cs) := owns_block h.oc (fun g e => hW g (fun e2 => owns_ne_row h.oc h.rx (by decide) (by rw [e, e2])))
  have how : W.ownsRow B2 24 1 (.slice (some ⟨Tw, 0, none⟩) n capw) n (wtop n n b.ib) := owns_block h.ow (fun g e => hW g (fun e2 => owns_ne_row h.ow h.rx (by decide) (by rw [e, e2])))
  have hri : ∀ x, x < n + 2 → IntRow W (b.ib x) n (ic S x) := fun x hx => Row.block (h.ri x hx) (hW _ (Row.ne (h.ri x hx) h.rx (by decide)))
  obtain ⟨Ac, capc, hvc, hN⟩ := err_nums hoc
  have hl : cs.length = l.length := by rw [hcs]; simp
  rw [hl] at hvc
  subst hvc
  refine ⟨Ac, capc, d, b.ib 1, Tw, capw, fun i => b.ib (i + 2), rfl, by rw [← hS]; exact hd, by rw [← hcs]; exact hN, ?_, fun i hi => ⟨owns_cell how (by simp [wtop, hi]), (World.ownsRow.lt how Tw rfl).2, ?_⟩, hB⟩
  · have := hri 1 (by omega)
    rw [← hS]; exact this
  · have := hri (i + 2) (by omega)
    rw [← hS]; exact this

#print axioms refM_out
end Go.Proofs.Ytebighmddimnkaa
