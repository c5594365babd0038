/-
  Words for memory: bools of a slice; a row of bools that a function gives; a map[int]int that tells what it lacks; an election of package ring.
-/
import Derived.Test.YtcmfpnghejapbaaRck
import Derived.Test.YtcmfpnghejapbaaRsi
import Derived.Test.YtcmfpnghejapbaaIntW
namespace Go.Proofs.Ytcmfpnghejapbaa
open Go.RowKit Go.Maps

theorem infoBool : (Try.prog.info? 4).map (fun i => (i.zero, i.size, i.bytes)) = some (some (.bool false), 1, 1) := by kernel_rfl

theorem Row.ne {w : World} {a b : Nat} {t t' : TypeId} {xs ys : List Value} (h : Row w a t xs) (h' : Row w b t' ys) (hne : t ≠ t') : a ≠ b := by
  intro e
  subst e
  unfold Row at h h'
  rw [h] at h'
  injection h' with h'
  injection h' with _ h'
  exact hne h'

/-- A bool of a list. -/
def bat (l : List Bool) (i : Nat) : Bool := l.getD i false
theorem bat_get (l : List Bool) {i : Nat} (h : i < l.length) : bat l i = l[i] := by
  unfold bat
  rw [List.getD_eq_getElem?_getD, List.getElem?_eq_getElem h]
  rfl
/-- The bools of a slice whose array begins at A: in memory below block B. -/
def Bits (w : World) (B : Nat) (A : Option Addr) (l : List Bool) : Prop :=
  0 < l.length → ∃ b off, A = some ⟨b, off, none⟩ ∧ b < B ∧ ∀ i, i < l.length → w.cell? ⟨b, off + i, none⟩ = some (.bool (bat l i))
section
variable {w w' : World} {B B' : Nat} {A : Option Addr} {l : List Bool}
theorem Bits.keep (h : Bits w B A l) (hk : ∀ p : Addr, p.block < B → w'.cell? p = w.cell? p) : Bits w' B A l := by
  intro h0
  obtain ⟨b, off, e, hb, hc⟩ := h h0
  exact ⟨b, off, e, hb, fun i hi => by rw [hk _ hb]; exact hc i hi⟩
theorem Bits.below (h : Bits w B A l) (hb : Below B w w') : Bits w' B A l := h.keep fun _ hp => hb.cell hp
theorem Bits.more (h : Bits w B A l) (hB : B ≤ B') : Bits w B' A l := by
  intro h0
  obtain ⟨b, off, e, hb, hc⟩ := h h0
  exact ⟨b, off, e, by omega, hc⟩
end

def updB (A : Nat → Bool) (j : Nat) (v : Bool) : Nat → Bool := fun x => if x = j then v else A x
def boolRow (A : Nat → Bool) (c : Nat) : List Value := (List.range c).map fun j => Value.bool (A j)
theorem boolRow_len (A : Nat → Bool) (c : Nat) : (boolRow A c).length = c := by simp [boolRow]
theorem boolRow_get (A : Nat → Bool) {c j : Nat} (h : j < c) : (boolRow A c)[j]'(by rw [boolRow_len]; exact h) = .bool (A j) := by simp [boolRow]
theorem boolRow_congr {A A' : Nat → Bool} {c : Nat} (h : ∀ j, j < c → A j = A' j) : boolRow A c = boolRow A' c := by
  unfold boolRow
  exact List.map_congr_left fun j hj => by rw [h j (List.mem_range.1 hj)]
theorem boolRow_set (A : Nat → Bool) (c j : Nat) (v : Bool) : (boolRow A c).set j (.bool v) = boolRow (updB A j v) c := by
  apply List.ext_getElem
  · simp [boolRow]
  · intro b h1 h2
    rw [List.getElem_set]
    by_cases e : j = b
    · subst e; simp [boolRow, updB]
    · rw [if_neg e]
      have : ¬ b = j := fun h => e h.symm
      simp [boolRow, updB, this]
theorem boolRow_zero (c : Nat) : List.replicate c (Value.bool false) = boolRow (fun _ => false) c := by
  apply List.ext_getElem
  · simp [boolRow]
  · intro b h1 h2; simp [boolRow]
abbrev BoolRow (w : World) (g c : Nat) (A : Nat → Bool) : Prop := Row w g 4 (boolRow A c)
section
variable {w w' : World} {g c : Nat} {A : Nat → Bool}
theorem BoolRow.at_ (h : BoolRow w g c A) {j : Nat} (hj : j < c) : w.cell? ⟨g, j, none⟩ = some (.bool (A j)) := by
  rw [Row.cell h (by rw [boolRow_len]; exact hj), boolRow_get A hj]
theorem BoolRow.put (h : BoolRow w g c A) (j : Nat) (v : Bool) : BoolRow (w.setCell ⟨g, j, none⟩ (.bool v)) g c (updB A j v) := by
  have := Row.set h j (.bool v)
  rw [boolRow_set] at this
  exact this
theorem BoolRow.congr {A' : Nat → Bool} (h : BoolRow w g c A) (e : ∀ j, j < c → A j = A' j) : BoolRow w g c A' := by
  unfold BoolRow at *
  rw [← boolRow_congr e]; exact h
theorem BoolRow.bits (h : BoolRow w g c A) {B : Nat} (hB : g < B) {l : List Bool} (hl : l.length = c) (he : ∀ j, j < l.length → bat l j = A j) : Bits w B (some ⟨g, 0, none⟩) l := by
  intro _
  refine ⟨g, 0, rfl, hB, fun i hi => ?_⟩
  rw [Nat.zero_add, h.at_ (by omega), he i hi]
end

/-- Block B is a map of at most n entries, ints to ints, that reads as the function f at the small keys. -/
def MapZ (w : World) (B n : Nat) (f : Nat → Option Int) : Prop :=
  ∃ D : DataW Unit, w.ownsMap Try.prog 3 (plainElem Try.prog 3) B n D ∧ ∀ k : Nat, k ≤ 1000 → D.atKey (.int .i64 (k : Int)) (.lit (.int .i64 0)) = .lit (.int .i64 ((f k).getD 0)) ∧ Maps.has D (.int .i64 (k : Int)) = (f k).isSome
def updO (f : Nat → Option Int) (k : Nat) (v : Int) : Nat → Option Int := fun x => if x = k then some v else f x
section
variable {w w' : World} {B n : Nat} {f : Nat → Option Int}
theorem MapZ.lt (h : MapZ w B n f) : B < w.heap.size := by obtain ⟨_, h, _⟩ := h; exact h.lt
theorem MapZ.made (w : World) : MapZ (w.alloc (.map #[] 0)) w.heap.size 0 (fun _ => none) :=
  ⟨.map [], World.ownsMap_made _ _ _ _, fun _ _ => ⟨rfl, rfl⟩⟩
theorem MapZ.mono (h : MapZ w B n f) {n' : Nat} (hn : n ≤ n') : MapZ w B n' f := by obtain ⟨D, h1, h2⟩ := h; exact ⟨D, h1.mono hn, h2⟩
theorem MapZ.block (h : MapZ w B n f) (hb : w'.heap[B]? = w.heap[B]?) : MapZ w' B n f := by
  obtain ⟨D, ⟨es, c, h1, h3⟩, h2⟩ := h
  exact ⟨D, ⟨es, c, hb.trans h1, h3⟩, h2⟩
theorem MapZ.far (h : MapZ w B n f) {p : Addr} (hp : B ≠ p.block) (u : Value) : MapZ (w.setCell p u) B n f := h.block (Below.heap_setCell w p u B hp)
theorem MapZ.alloc (h : MapZ w B n f) (o : Obj) : MapZ (w.alloc o) B n f := h.block (Below.heap_alloc w o B h.lt)
theorem MapZ.congr {f' : Nat → Option Int} (h : MapZ w B n f) (e : ∀ k, f k = f' k) : MapZ w B n f' := by
  obtain ⟨D, h1, h2⟩ := h
  exact ⟨D, h1, fun k hk => by rw [← e k]; exact h2 k hk⟩
theorem MapZ.ne_row (h : MapZ w B n f) {g : Nat} {t : TypeId} {xs : List Value} (hr : Row w g t xs) : B ≠ g := by
  intro e
  subst e
  obtain ⟨D, ⟨es, c, h1, _⟩, _⟩ := h
  unfold Row at hr
  rw [h1] at hr
  injection hr with hr
  cases hr
theorem wf_small {k : Nat} (hk : k ≤ 1000) : (Lit.int .i64 (k : Int)).wf = true := WalkArith.wf_i64 ⟨by omega, by omega⟩
theorem wpList_lookZ {ops : Array Oper} {rest : List Oper} {o : Oper} {a : Act} {Q : Exit → Act → World → Prop}
    (hg : o.guard = none) (m x : Operand) (hop : o.op = Op.lookup 46 m x true)
    (hz : (zeroValue 3).run Try.prog w = .ok (.int .i64 0) w) (B n : Nat) (f : Nat → Option Int) (k : Nat) (y : Option Int)
    (hm : a.eval m = .map (some B)) (hown : MapZ w B n f) (hx : a.eval x = .int .i64 (k : Int)) (hk : k ≤ 1000) (hf : f k = y)
    (hh : wpList Try.prog ops Q rest (a.put o.dst (.tuple #[.int .i64 (y.getD 0), .bool y.isSome])) w) :
    wpList Try.prog ops Q (o :: rest) a w := by
  obtain ⟨D, h1, h2⟩ := hown
  refine wpList_lookup_own_ok_int w hg m x _ hop 3 3 .i64 (int_keyed Try.underlying3) Try.underlying46 Try.underlying3 hz B n D hm h1 _ _ hx (keyOf_int_mk Try.underlying3 (wf_small hk)) ?_
  intro c hat hwc
  rw [(h2 k hk).1, hf] at hat
  have e : y.getD 0 = c := by injection hat with hat; injection hat
  rw [← e, (h2 k hk).2, hf]
  exact hh
theorem MapZ.update (h : MapZ w B n f) (hn : n < maxLen) {k : Nat} (hk : k ≤ 1000) {v : Int} (hv : I64 v) :
    ∃ w', (Instr.mapUpdate 46 (.map (some B)) (.int .i64 (k : Int)) (.int .i64 v)).run Try.prog w = .ok () w' ∧ MapZ w' B (n + 1) (updO f k v) ∧ w.grownBy w' (some B) := by
  obtain ⟨D, h1, h2⟩ := h
  have hK := keyOf_int_mk (P := Try.prog) Try.underlying3 (wf_small hk)
  have hkey := (int_keyed (P := Try.prog) Try.underlying3).key hK
  obtain ⟨w1, hrun, hown1, hgrow1⟩ := h1.update (int_keyed Try.underlying3) Try.underlying46 hn hK (plainElem_int Try.underlying3 (WalkArith.wf_i64 hv))
  refine ⟨w1, hrun, ⟨_, hown1, fun k' hk' => ?_⟩, hgrow1⟩
  by_cases e : k' = k
  · subst e
    rw [atKey_put_same (isMap_of D h1) hkey, has_put_same (isMap_of D h1) hkey]
    simp [updO]
  · have hne : ¬ (Lit.int .i64 (k' : Int)) = Lit.int .i64 (k : Int) := fun h => e (by injection h with _ h; omega)
    rw [atKey_put_other (by intro h; exact hne h), has_put_other (by intro h; exact hne h)]
    simp only [updO, if_neg e]
    exact h2 k' hk'
end

/-- An election: its block E, the row S of who has sent its own number, the map M of at most c numbers on the way. -/
structure Elec (w : World) (B E S M c n : Nat) (A : Option Addr) (cap : Nat) (R : RS) : Prop where
  top : Row w E 48 [.slice A n cap, .slice (some ⟨S, 0, none⟩) n n, .map (some M), .int .i64 (R.ms : Int)]
  sent : BoolRow w S n R.sent
  tr : MapZ w M c R.tr
  lowE : B ≤ E
  lowS : B ≤ S
  lowM : B ≤ M
/-- Nothing has turned but the blocks of an election; nothing below B. -/
structure Kp (B E S M : Nat) (w w' : World) : Prop where
  low : Below B w w'
  blk : ∀ b, b < w.heap.size → b ≠ E → b ≠ S → b ≠ M → w'.heap[b]? = w.heap[b]?
theorem Kp.refl (B E S M : Nat) (w : World) : Kp B E S M w w := ⟨Below.refl _ _, fun _ _ _ _ _ => rfl⟩
theorem Kp.trans {B E S M : Nat} {a b c : World} (h : Kp B E S M a b) (k : Kp B E S M b c) : Kp B E S M a c :=
  ⟨h.low.trans k.low, fun x hx h1 h2 h3 => (k.blk x (by have := h.low.size; omega) h1 h2 h3).trans (h.blk x hx h1 h2 h3)⟩
section
variable {w w' : World} {B E S M c n : Nat} {A : Option Addr} {cap : Nat} {R : RS}
theorem Elec.cells (h : Elec w B E S M c n A cap R) : w.cell? ⟨E, 0, none⟩ = some (.slice A n cap) ∧ w.cell? ⟨E, 1, none⟩ = some (.slice (some ⟨S, 0, none⟩) n n) ∧ w.cell? ⟨E, 2, none⟩ = some (.map (some M)) ∧ w.cell? ⟨E, 3, none⟩ = some (.int .i64 (R.ms : Int)) :=
  ⟨h.top.cell (i := 0) (by simp), h.top.cell (i := 1) (by simp), h.top.cell (i := 2) (by simp), h.top.cell (i := 3) (by simp)⟩
theorem Elec.apart (h : Elec w B E S M c n A cap R) : E ≠ S ∧ M ≠ E ∧ M ≠ S := ⟨h.top.ne h.sent (by decide), h.tr.ne_row h.top, h.tr.ne_row h.sent⟩
theorem Elec.lts (h : Elec w B E S M c n A cap R) : E < w.heap.size ∧ S < w.heap.size ∧ M < w.heap.size := ⟨h.top.lt, h.sent.lt, h.tr.lt⟩
theorem Elec.mono (h : Elec w B E S M c n A cap R) {c' : Nat} (hc : c ≤ c') : Elec w B E S M c' n A cap R := ⟨h.top, h.sent, h.tr.mono hc, h.lowE, h.lowS, h.lowM⟩
theorem Elec.drewN (h : Elec w B E S M c n A cap R) (k : Nat) : Elec (w.drewN k) B E S M c n A cap R :=
  ⟨h.top.block rfl, Row.block h.sent rfl, h.tr.block rfl, h.lowE, h.lowS, h.lowM⟩
/-- A number is sent. -/
theorem Elec.send (h : Elec w B E S M c n A cap R) {q : Nat} {x : Int} (hM : MapZ w' M (c + 1) (updO R.tr q x)) (hg : w.grownBy w' (some M)) {v : Int} (hv : v = ((R.ms + 1 : Nat) : Int)) :
    Elec (w'.setCell ⟨E, 3, none⟩ (.int .i64 v)) B E S M (c + 1) n A cap ⟨R.sent, updO R.tr q x, R.ms + 1⟩ ∧ Kp B E S M w (w'.setCell ⟨E, 3, none⟩ (.int .i64 v)) := by
  subst hv
  obtain ⟨h1, h2, h3⟩ := h.apart
  have hE := h.top.grown hg (by simp; exact fun e => h2 e.symm)
  have hS := Row.grown h.sent hg (by simp; exact fun e => h3 e.symm)
  refine ⟨⟨hE.set 3 _, Row.far hS (p := ⟨E, 3, none⟩) (fun e => h1 e.symm) _, hM.far (p := ⟨E, 3, none⟩) h2 _, h.lowE, h.lowS, h.lowM⟩, ?_, fun b hb n1 n2 n3 => ?_⟩
  · refine Below.setCell ?_ (p := ⟨E, 3, none⟩) h.lowE _
    exact (Below.refl B w).grown hg (by have := h.lowE; have := h.top.lt; omega) (fun k hk => by injection hk with hk; rw [← hk]; exact h.lowM)
  · rw [Below.heap_setCell _ _ _ _ (by exact n1)]
    exact hg.block b hb (by simp; exact n3)
/-- It has sent its own number. -/
theorem Elec.own (h : Elec w B E S M c n A cap R) (p : Nat) :
    Elec (w.setCell ⟨S, p, none⟩ (.bool true)) B E S M c n A cap ⟨updB R.sent p true, R.tr, R.ms⟩ ∧ Kp B E S M w (w.setCell ⟨S, p, none⟩ (.bool true)) := by
  obtain ⟨h1, h2, h3⟩ := h.apart
  refine ⟨⟨h.top.far (p := ⟨S, p, none⟩) h1 _, BoolRow.put h.sent p true, h.tr.far (p := ⟨S, p, none⟩) h3 _, h.lowE, h.lowS, h.lowM⟩, Below.setCell (Below.refl _ _) (p := ⟨S, p, none⟩) h.lowS _, fun b hb n1 n2 n3 => ?_⟩
  rw [Below.heap_setCell _ _ _ _ (by exact n2)]
theorem Elec.congr {R' : RS} (h : Elec w B E S M c n A cap R) (h1 : R.sent = R'.sent) (h2 : R.tr = R'.tr) (h3 : R.ms = R'.ms) : Elec w B E S M c n A cap R' := by
  have : R = R' := by cases R; cases R'; simp_all
  rw [← this]; exact h
end

/-! The places of a round, one after the other. -/
theorem trTo_none {n : Nat} {o : Nat → Option Int} {k : Nat} (h : o k = none) : trTo n o (k + 1) = trTo n o k := by
  funext p
  unfold trTo
  by_cases e : p < n ∧ bef n p < k
  · rw [if_pos e, if_pos ⟨e.1, by omega⟩]
  · rw [if_neg e]
    by_cases e2 : p < n ∧ bef n p < k + 1
    · rw [if_pos e2]
      have : bef n p = k := by omega
      rw [this, h]
    · rw [if_neg e2]
theorem trTo_some {n : Nat} {o : Nat → Option Int} {k : Nat} (hk : k < n) {x : Int} (h : o k = some x) : trTo n o (k + 1) = updO (trTo n o k) ((k + 1) % n) x := by
  funext p
  unfold updO
  by_cases e0 : p = (k + 1) % n
  · rw [if_pos e0]
    subst e0
    unfold trTo
    rw [bef_next hk, if_pos ⟨Nat.mod_lt _ (by omega), by omega⟩, h]
  · rw [if_neg e0]
    unfold trTo
    by_cases e : p < n ∧ bef n p < k
    · rw [if_pos e, if_pos ⟨e.1, by omega⟩]
    · rw [if_neg e, if_neg]
      rintro ⟨e1, e2⟩
      have : bef n p = k := by omega
      exact e0 (by rw [← this, next_bef e1])
theorem sentTo_none {s o : Nat → Bool} {k : Nat} (h : o k = false) : sentTo s o (k + 1) = sentTo s o k := by
  funext p
  unfold sentTo
  by_cases e : p = k
  · rw [e, h, Bool.and_false, Bool.and_false]
  · have : decide (p < k + 1) = decide (p < k) := by simp; omega
    rw [this]
theorem sentTo_some {s o : Nat → Bool} {k : Nat} (h : o k = true) : sentTo s o (k + 1) = updB (sentTo s o k) k true := by
  funext p
  unfold sentTo updB
  by_cases e : p = k
  · rw [if_pos e, e, h]; simp
  · rw [if_neg e]
    have : decide (p < k + 1) = decide (p < k) := by simp; omega
    rw [this]
theorem sentTo_at (s o : Nat → Bool) (k : Nat) : sentTo s o k k = s k := by unfold sentTo; simp
theorem cnt_none {o : Nat → Option Int} {k : Nat} (h : o k = none) : cnt (someB o) (k + 1) = cnt (someB o) k := by
  show cnt (someB o) k + _ = _
  unfold someB
  rw [h]; rfl
theorem cnt_some {o : Nat → Option Int} {k : Nat} {x : Int} (h : o k = some x) : cnt (someB o) (k + 1) = cnt (someB o) k + 1 := by
  show cnt (someB o) k + _ = _
  unfold someB
  rw [h]; rfl

#print axioms MapZ.update
#print axioms Elec.send
end Go.Proofs.Ytcmfpnghejapbaa
