/-
  Words for memory: what beaconryref.Leader holds.
-/
import Derived.Test.YtcmfpnghejapbaaEst
namespace Go.Proofs.Ytcmfpnghejapbaa
open Go.RowKit Go.Maps

def valZ (f : Nat → Option Int) : Nat → Int := fun p => (f p).getD 0
theorem someB_upd (f : Nat → Option Int) (q : Nat) (x : Int) : updB (someB f) q true = someB (updO f q x) := by
  funext p
  unfold updB someB updO
  by_cases e : p = q
  · rw [if_pos e, if_pos e]; rfl
  · rw [if_neg e, if_neg e]
theorem valZ_upd (f : Nat → Option Int) (q : Nat) (x : Int) : updI (valZ f) q x = valZ (updO f q x) := by
  funext p
  unfold updI valZ updO
  by_cases e : p = q
  · rw [if_pos e, if_pos e]; rfl
  · rw [if_neg e, if_neg e]

/-- A row of bools, of which the first n are told. -/
def SentR (w : World) (S n : Nat) (f : Nat → Bool) : Prop := ∃ xs, Row w S 4 xs ∧ n ≤ xs.length ∧ ∀ i, i < n → xs[i]? = some (.bool (f i))
section
variable {w w' : World} {S n : Nat} {f : Nat → Bool}
theorem SentR.lt (h : SentR w S n f) : S < w.heap.size := by obtain ⟨_, h1, _⟩ := h; exact h1.lt
theorem SentR.at_ (h : SentR w S n f) {j : Nat} (hj : j < n) : w.cell? ⟨S, j, none⟩ = some (.bool (f j)) := by
  obtain ⟨xs, h1, h2, h3⟩ := h
  rw [h1.cell (by omega)]
  have := h3 j hj
  rw [List.getElem?_eq_getElem (by omega)] at this
  exact this
theorem SentR.frozen (h : SentR w S n f) (j : Nat) : w.frozen? ⟨S, j, none⟩ = false := by obtain ⟨_, h1, _⟩ := h; exact h1.frozen j
theorem SentR.block (h : SentR w S n f) (hb : w'.heap[S]? = w.heap[S]?) : SentR w' S n f := by
  obtain ⟨xs, h1, h2⟩ := h
  exact ⟨xs, h1.block hb, h2⟩
theorem SentR.far (h : SentR w S n f) {p : Addr} (hp : S ≠ p.block) (u : Value) : SentR (w.setCell p u) S n f := h.block (Below.heap_setCell w p u S hp)
theorem SentR.alloc (h : SentR w S n f) (o : Obj) : SentR (w.alloc o) S n f := h.block (Below.heap_alloc w o S h.lt)
theorem SentR.put (h : SentR w S n f) (j : Nat) (v : Bool) : SentR (w.setCell ⟨S, j, none⟩ (.bool v)) S n (updB f j v) := by
  obtain ⟨xs, h1, h2, h3⟩ := h
  refine ⟨_, h1.set j _, by rw [List.length_set]; exact h2, fun i hi => ?_⟩
  unfold updB
  by_cases e : i = j
  · subst e
    rw [if_pos rfl, List.getElem?_set_self (by omega)]
  · rw [if_neg e, List.getElem?_set_ne (fun h => e h.symm)]
    exact h3 i hi
theorem SentR.congr {f' : Nat → Bool} (h : SentR w S n f) (e : ∀ i, i < n → f i = f' i) : SentR w S n f' := by
  obtain ⟨xs, h1, h2, h3⟩ := h
  exact ⟨xs, h1, h2, fun i hi => by rw [← e i hi]; exact h3 i hi⟩
theorem SentR.ne_row (h : SentR w S n f) {g : Nat} {t : TypeId} {xs : List Value} (hr : Row w g t xs) (ht : 4 ≠ t) : S ≠ g := by
  obtain ⟨_, h1, _⟩ := h
  exact h1.ne hr ht
end

/-- Before the rounds: the numbers of the first k places are on the way. -/
structure Le0 (w0 w : World) (l : List Int) (b : Nat → Bool) (S C V k : Nat) : Prop where
  sent : SentR w S l.length b
  come : BoolRow w C l.length (someB (rs0To l b k).tr)
  what : IntRow w V l.length (valZ (rs0To l b k).tr)
  ne : S ≠ C
  lowS : w0.heap.size ≤ S
  lowC : w0.heap.size ≤ C
  lowV : w0.heap.size ≤ V
  bel : Below w0.heap.size w0 w
/-- Between the rounds. -/
structure LeR (w0 w : World) (l : List Int) (R : RS) (S C V : Nat) : Prop where
  sent : SentR w S l.length R.sent
  come : BoolRow w C l.length (someB R.tr)
  what : IntRow w V l.length (valZ R.tr)
  ne : S ≠ C
  lowS : w0.heap.size ≤ S
  lowC : w0.heap.size ≤ C
  lowV : w0.heap.size ≤ V
  bel : Below w0.heap.size w0 w
/-- In a round, behind k places. -/
structure LeI (w0 w : World) (l : List Int) (R : RS) (S C V N W k : Nat) : Prop where
  sent : SentR w S l.length (rsTo l R k).sent
  come : BoolRow w C l.length (someB R.tr)
  what : IntRow w V l.length (valZ R.tr)
  next : BoolRow w N l.length (someB (rsTo l R k).tr)
  now : IntRow w W l.length (valZ (rsTo l R k).tr)
  ne : S ≠ C ∧ S ≠ N ∧ C ≠ N ∧ V ≠ W
  lowS : w0.heap.size ≤ S
  lowC : w0.heap.size ≤ C
  lowV : w0.heap.size ≤ V
  lowN : w0.heap.size ≤ N
  lowW : w0.heap.size ≤ W
  bel : Below w0.heap.size w0 w

section
variable {w0 w : World} {l : List Int} {b : Nat → Bool} {R : RS} {S C V N W k : Nat}
theorem Le0.none_ (h : Le0 w0 w l b S C V k) (hb : b k = false) : Le0 w0 w l b S C V (k + 1) := by
  obtain ⟨h1, h2, h3, h4, h5, h6, h7, h8⟩ := h
  refine ⟨h1, ?_, ?_, h4, h5, h6, h7, h8⟩ <;> rw [rs0_none hb]
  · exact h2
  · exact h3
theorem Le0.some_ (h : Le0 w0 w l b S C V k) (hk : k < l.length) (hb : b k = true) {q : Nat} (hq : q = (k + 1) % l.length) :
    Le0 w0 (((w.setCell ⟨C, q, none⟩ (.bool true)).drew).setCell ⟨V, q, none⟩ (.int .i64 (vat l k))) l b S C V (k + 1) := by
  obtain ⟨h1, h2, h3, h4, h5, h6, h7, h8⟩ := h
  have hSV : S ≠ V := h1.ne_row h3 (by decide)
  have hCV : C ≠ V := Row.ne h2 h3 (by decide)
  have hd : ∀ x : Nat, ((w.setCell ⟨C, q, none⟩ (.bool true)).drew).heap[x]? = (w.setCell ⟨C, q, none⟩ (.bool true)).heap[x]? := fun _ => rfl
  refine ⟨?_, ?_, ?_, h4, h5, h6, h7, ?_⟩
  · exact ((h1.far (p := ⟨C, q, none⟩) h4 _).block (hd S)).far (p := ⟨V, q, none⟩) hSV _
  · rw [rs0_some hk hb, ← hq]
    have := (BoolRow.put h2 q true)
    rw [someB_upd _ q (vat l k)] at this
    exact Row.far (Row.block this (hd C)) (p := ⟨V, q, none⟩) hCV _
  · rw [rs0_some hk hb, ← hq]
    show IntRow _ V l.length (valZ (updO (rs0To l b k).tr q (vat l k)))
    rw [← valZ_upd]
    exact IntRow.put (Row.block (Row.far h3 (p := ⟨C, q, none⟩) (fun e => hCV e.symm) _) (hd V)) q _
  · exact Below.setCell (Below.drew (Below.setCell h8 (p := ⟨C, q, none⟩) h6 _)) (p := ⟨V, q, none⟩) h7 _
theorem Le0.done (h : Le0 w0 w l b S C V l.length) : LeR w0 w l (sim l b 0) S C V := by
  obtain ⟨h1, h2, h3, h4, h5, h6, h7, h8⟩ := h
  exact ⟨h1.congr fun i hi => by show b i = sentTo (fun _ => false) b l.length i; rw [sentTo_all _ _ hi]; rfl, h2, h3, h4, h5, h6, h7, h8⟩
theorem LeI.drewN (h : LeI w0 w l R S C V N W k) (j : Nat) : LeI w0 (w.drewN j) l R S C V N W k := by
  obtain ⟨h1, h2, h3, h4, h5, h6, h7, h8, h9, ha, hb, hc⟩ := h
  exact ⟨h1.block rfl, Row.block h2 rfl, Row.block h3 rfl, Row.block h4 rfl, Row.block h5 rfl, h6, h7, h8, h9, ha, hb, below_drewN hc _⟩
theorem LeI.same (h : LeI w0 w l R S C V N W k) (h1 : outS l R k = none) (h2 : ownS l R k = false) : LeI w0 w l R S C V N W (k + 1) := by
  obtain ⟨g1, g2, g3, g4, g5, g6, g7, g8, g9, ga, gb, gc⟩ := h
  refine ⟨?_, g2, g3, ?_, ?_, g6, g7, g8, g9, ga, gb, gc⟩ <;> rw [rsTo_none h1 h2]
  · exact g1
  · exact g4
  · exact g5
/-- A number is passed on (its own one, if o). -/
theorem LeI.out (h : LeI w0 w l R S C V N W k) (hk : k < l.length) {x : Int} (h1 : outS l R k = some x) {o : Bool} (h2 : ownS l R k = o) {q : Nat} (hq : q = (k + 1) % l.length) :
    LeI w0 (((if o = true then w.setCell ⟨S, k, none⟩ (.bool true) else w).setCell ⟨N, q, none⟩ (.bool true)).setCell ⟨W, q, none⟩ (.int .i64 x)) l R S C V N W (k + 1) := by
  obtain ⟨g1, g2, g3, g4, g5, ⟨n1, n2, n3, n4⟩, lS, lC, lV, lN, lW, hB⟩ := h
  have hSV : S ≠ V := g1.ne_row g3 (by decide)
  have hSW : S ≠ W := g1.ne_row g5 (by decide)
  have hCW : C ≠ W := Row.ne g2 g5 (by decide)
  have hNV : N ≠ V := Row.ne g4 g3 (by decide)
  have hNW : N ≠ W := Row.ne g4 g5 (by decide)
  have e1 : (rsTo l R (k + 1)).tr = updO (rsTo l R k).tr q x := by
    cases o with
    | true => rw [rsTo_own hk h1 h2, hq]
    | false => rw [rsTo_pass hk h1 h2, hq]
  have key : SentR (if o = true then w.setCell ⟨S, k, none⟩ (.bool true) else w) S l.length (rsTo l R (k + 1)).sent ∧ BoolRow (if o = true then w.setCell ⟨S, k, none⟩ (.bool true) else w) C l.length (someB R.tr) ∧ IntRow (if o = true then w.setCell ⟨S, k, none⟩ (.bool true) else w) V l.length (valZ R.tr) ∧ BoolRow (if o = true then w.setCell ⟨S, k, none⟩ (.bool true) else w) N l.length (someB (rsTo l R k).tr) ∧ IntRow (if o = true then w.setCell ⟨S, k, none⟩ (.bool true) else w) W l.length (valZ (rsTo l R k).tr) ∧ Below w0.heap.size w0 (if o = true then w.setCell ⟨S, k, none⟩ (.bool true) else w) := by
    cases o with
    | true =>
      rw [if_pos rfl]
      refine ⟨by rw [rsTo_own hk h1 h2]; exact g1.put k true, Row.far g2 (p := ⟨S, k, none⟩) (fun e => n1 e.symm) _, Row.far g3 (p := ⟨S, k, none⟩) (fun e => hSV e.symm) _, Row.far g4 (p := ⟨S, k, none⟩) (fun e => n2 e.symm) _, Row.far g5 (p := ⟨S, k, none⟩) (fun e => hSW e.symm) _, Below.setCell hB (p := ⟨S, k, none⟩) lS _⟩
    | false =>
      rw [if_neg (by simp)]
      exact ⟨by rw [rsTo_pass hk h1 h2]; exact g1, g2, g3, g4, g5, hB⟩
  generalize (if o = true then w.setCell ⟨S, k, none⟩ (.bool true) else w) = w1 at key
  obtain ⟨k1, k2, k3, k4, k5, k6⟩ := key
  refine ⟨(k1.far (p := ⟨N, q, none⟩) n2 _).far (p := ⟨W, q, none⟩) hSW _, Row.far (Row.far k2 (p := ⟨N, q, none⟩) n3 _) (p := ⟨W, q, none⟩) hCW _, Row.far (Row.far k3 (p := ⟨N, q, none⟩) (fun e => hNV e.symm) _) (p := ⟨W, q, none⟩) n4 _, ?_, ?_, ⟨n1, n2, n3, n4⟩, lS, lC, lV, lN, lW, Below.setCell (Below.setCell k6 (p := ⟨N, q, none⟩) lN _) (p := ⟨W, q, none⟩) lW _⟩
  · rw [e1, ← someB_upd]
    exact Row.far (BoolRow.put k4 q true) (p := ⟨W, q, none⟩) hNW _
  · rw [e1, ← valZ_upd]
    exact IntRow.put (Row.far k5 (p := ⟨N, q, none⟩) (fun e => hNW e.symm) _) q x
theorem LeI.done (h : LeI w0 w l R S C V N W l.length) : LeR w0 w l (rsTo l R l.length) S N W := by
  obtain ⟨h1, h2, h3, h4, h5, h6, h7, h8, h9, ha, hb, hc⟩ := h
  exact ⟨h1, h4, h5, h6.2.1, h7, ha, hb, hc⟩
end
#print axioms LeI.out
end Go.Proofs.Ytcmfpnghejapbaa
