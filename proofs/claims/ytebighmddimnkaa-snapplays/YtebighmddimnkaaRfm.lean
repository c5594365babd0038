/-
  Words for memory: what beaconryref.Snap holds.
-/
import Derived.Test.YtebighmddimnkaaLtr
import Derived.Test.YtebighmddimnkaaSys
namespace Go.Proofs.Ytebighmddimnkaa
open Go.RowKit Go.Maps

def boolRow (f : Nat → Bool) (n : Nat) : List Value := (List.range n).map fun j => Value.bool (f j)
theorem boolRow_len (f : Nat → Bool) (n : Nat) : (boolRow f n).length = n := by simp [boolRow]
theorem boolRow_get (f : Nat → Bool) {n j : Nat} (h : j < n) : (boolRow f n)[j]'(by rw [boolRow_len]; exact h) = .bool (f j) := by simp [boolRow]
theorem boolRow_set (f : Nat → Bool) (n j : Nat) (v : Bool) : (boolRow f n).set j (.bool v) = boolRow (up1 f j v) n := by
  apply List.ext_getElem
  · simp [boolRow]
  · intro b h1 h2
    rw [List.getElem_set]
    by_cases e : j = b
    · subst e; simp [boolRow, up1]
    · rw [if_neg e]
      have : ¬ b = j := fun h => e h.symm
      simp [boolRow, up1, this]
abbrev BRow (w : World) (g n : Nat) (f : Nat → Bool) : Prop := Row w g 4 (boolRow f n)
theorem BRow.at_ {w : World} {g n : Nat} {f : Nat → Bool} (h : BRow w g n f) {j : Nat} (hj : j < n) : w.cell? ⟨g, j, none⟩ = some (.bool (f j)) := by
  rw [Row.cell h (by rw [boolRow_len]; exact hj), boolRow_get f hj]
theorem BRow.congr {w : World} {g n : Nat} {f f' : Nat → Bool} (h : BRow w g n f) (e : ∀ j, j < n → f j = f' j) : BRow w g n f' := by
  have : boolRow f n = boolRow f' n := List.map_congr_left fun j hj => by rw [e j (List.mem_range.1 hj)]
  unfold BRow at *
  rw [← this]; exact h

theorem owns_far {w : World} {B e size n : Nat} {v : Value} {xs : List Value} (h : w.ownsRow B e size v n xs) {p : Addr} {t : TypeId} {ys : List Value} (hr : Row w p.block t ys) (hne : e ≠ t) (u : Value) : (w.setCell p u).ownsRow B e size v n xs := by
  have hb := owns_ne_row h hr hne
  refine ⟨h.1, ?_⟩
  rcases h.2 with h7 | ⟨g, cap, cur, hv, hb', hg, rest⟩
  · exact .inl h7
  · refine .inr ⟨g, cap, cur, hv, hb', ?_, rest⟩
    rw [Below.heap_setCell w p u g (fun e => hb (by rw [hv]; simp [Value.ownBlock, e]))]
    exact hg
theorem owns_block {w w' : World} {B e size n : Nat} {v : Value} {xs : List Value} (h : w.ownsRow B e size v n xs) (hb : ∀ g, v.ownBlock = some g → w'.heap[g]? = w.heap[g]?) : w'.ownsRow B e size v n xs := by
  refine ⟨h.1, ?_⟩
  rcases h.2 with h7 | ⟨g, cap, cur, hv, hb', hg, rest⟩
  · exact .inl h7
  · exact .inr ⟨g, cap, cur, hv, hb', (hb g (by rw [hv]; rfl)).trans hg, rest⟩
theorem owns_ne {w : World} {B B' e e' size size' n n' : Nat} {v v' : Value} {xs xs' : List Value} (h : w.ownsRow B e size v n xs) (h' : w.ownsRow B' e' size' v' n' xs') (hne : e ≠ e') : v.ownBlock = none ∨ v.ownBlock ≠ v'.ownBlock := by
  rcases h.2 with ⟨rfl, _⟩ | ⟨g, cap, cur, rfl, _, hg, _⟩
  · exact .inl rfl
  · right
    intro eq
    rcases h'.2 with ⟨rfl, _⟩ | ⟨g', cap', cur', rfl, _, hg', _⟩
    · cases eq
    · have : g = g' := by simpa [Value.ownBlock] using eq
      subst this
      rw [hg] at hg'
      injection hg' with hg'
      injection hg' with _ ht
      exact hne ht

/-- Where the variables and the rows lie. -/
structure RB where
  bn : Nat
  bR : Nat
  bo : Nat
  bh : Nat
  br : Nat
  bw : Nat
  Tc : Nat
  ib : Nat → Nat
  bb : Nat → Nat
def ic (S : St) : Nat → Nat → Int
  | 0 => S.hv
  | 1 => S.kp
  | i + 2 => S.wy i
def bc (S : St) : Nat → Nat → Bool
  | 0 => S.rc
  | i + 1 => S.cl i
def wtop (n m : Nat) (ib : Nat → Nat) : List Value := (List.range m).map fun i => Value.slice (some ⟨ib (i + 2), 0, none⟩) n n
def ctop (n m : Nat) (bb : Nat → Nat) : List Value := (List.range n).map fun i => if i < m then Value.slice (some ⟨bb (i + 1), 0, none⟩) n n else .slice none 0 0
/-- All of it, m processes laid. -/
structure RefM (w : World) (B B2 n m : Nat) (b : RB) (S : St) (d : Bool) (vw vl vc : Value) (L : List Lt) (cs : List Int) : Prop where
  rn : Row w b.bn 3 [.int .i64 (n : Int)]
  rx : Row w b.bR 27 [.slice none 0 0, .bool false, .slice none 0 0, .slice none 0 0]
  ro : Row w b.bo 27 [vc, .bool d, .slice (some ⟨b.ib 1, 0, none⟩) n n, vw]
  rh : Row w b.bh 24 [.slice (some ⟨b.ib 0, 0, none⟩) n n]
  rr : Row w b.br 47 [.slice (some ⟨b.bb 0, 0, none⟩) n n]
  rl : Row w b.bw 49 [vl]
  ri : ∀ x, x < m + 2 → IntRow w (b.ib x) n (ic S x)
  rb : ∀ x, x < m + 1 → BRow w (b.bb x) n (bc S x)
  tc : Row w b.Tc 47 (ctop n m b.bb)
  ow : w.ownsRow B2 24 1 vw m (wtop n m b.ib)
  ol : OwnL w B vl L
  oc : w.ownsRow B 28 1 vc cs.length (intVals cs)
  ii : ∀ x y, x < m + 2 → y < m + 2 → x ≠ y → b.ib x ≠ b.ib y
  jj : ∀ x y, x < m + 1 → y < m + 1 → x ≠ y → b.bb x ≠ b.bb y
  ni : ∀ x, x < m + 2 → b.bn ≠ b.ib x
  rt : b.br ≠ b.Tc
  xo : b.bR ≠ b.bo
  hb : b.bh < B2
  lo : B ≤ b.bn ∧ B ≤ b.bo ∧ B ≤ b.bh ∧ B ≤ b.br ∧ B ≤ b.bw ∧ B ≤ b.Tc ∧ B ≤ B2 ∧ B ≤ b.bR
  li : ∀ x, x < m + 2 → B ≤ b.ib x
  lb : ∀ x, x < m + 1 → B ≤ b.bb x
section
variable {w w' : World} {B B2 n m : Nat} {b : RB} {S T : St} {d : Bool} {vw vl vc : Value} {L : List Lt} {cs : List Int}
theorem RefM.blocks (h : RefM w B B2 n m b S d vw vl vc L cs) (hk : ∀ g, B ≤ g → g < w.heap.size → w'.heap[g]? = w.heap[g]?) : RefM w' B B2 n m b S d vw vl vc L cs := by
  obtain ⟨l1, l2, l3, l4, l5, l6, l7, l8⟩ := h.lo
  exact ⟨h.rn.block (hk _ l1 h.rn.lt), h.rx.block (hk _ l8 h.rx.lt), h.ro.block (hk _ l2 h.ro.lt), h.rh.block (hk _ l3 h.rh.lt), h.rr.block (hk _ l4 h.rr.lt), h.rl.block (hk _ l5 h.rl.lt),
    fun x hx => Row.block (h.ri x hx) (hk _ (h.li x hx) (Row.lt (h.ri x hx))), fun x hx => Row.block (h.rb x hx) (hk _ (h.lb x hx) (Row.lt (h.rb x hx))), h.tc.block (hk _ l6 h.tc.lt),
    owns_block h.ow (fun g e => hk g (Nat.le_trans l7 (World.ownsRow.lt h.ow g e).1) (World.ownsRow.lt h.ow g e).2), owns_block h.ol (fun g e => hk g (World.ownsRow.lt h.ol g e).1 (World.ownsRow.lt h.ol g e).2),
    owns_block h.oc (fun g e => hk g (World.ownsRow.lt h.oc g e).1 (World.ownsRow.lt h.oc g e).2), h.ii, h.jj, h.ni, h.rt, h.xo, h.hb, h.lo, h.li, h.lb⟩
theorem RefM.alloc (h : RefM w B B2 n m b S d vw vl vc L cs) (o : Obj) : RefM (w.alloc o) B B2 n m b S d vw vl vc L cs := h.blocks fun g _ hg => Below.heap_alloc w o g hg
theorem RefM.below (h : RefM w B B2 n m b S d vw vl vc L cs) (hb : Below w.heap.size w w') : RefM w' B B2 n m b S d vw vl vc L cs := h.blocks fun g _ hg => hb.block g hg
theorem RefM.congr (h : RefM w B B2 n m b S d vw vl vc L cs) (e1 : ∀ x j, x < m + 2 → j < n → ic T x j = ic S x j) (e2 : ∀ x j, x < m + 1 → j < n → bc T x j = bc S x j) : RefM w B B2 n m b T d vw vl vc L cs :=
  { h with ri := fun x hx => IntRow.congr (h.ri x hx) (fun j hj => (e1 x j hx hj).symm), rb := fun x hx => BRow.congr (h.rb x hx) (fun j hj => (e2 x j hx hj).symm) }
/-- A number is stored. -/
theorem RefM.setI (h : RefM w B B2 n m b S d vw vl vc L cs) {x : Nat} (hx : x < m + 2) (j : Nat) (v : Int) (e1 : ∀ y a, y < m + 2 → a < n → ic T y a = up2 (ic S) x j v y a) (e2 : ∀ y a, y < m + 1 → a < n → bc T y a = bc S y a) :
    RefM (w.setCell ⟨b.ib x, j, none⟩ (.int .i64 v)) B B2 n m b T d vw vl vc L cs := by
  have hr := h.ri x hx
  refine ⟨h.rn.far (h.ni x hx) _, h.rx.far (h.rx.ne hr (by decide)) _, h.ro.far (h.ro.ne hr (by decide)) _, h.rh.far (h.rh.ne hr (by decide)) _, h.rr.far (h.rr.ne hr (by decide)) _, h.rl.far (h.rl.ne hr (by decide)) _, fun y hy => ?_,
    fun y hy => BRow.congr (Row.far (h.rb y hy) (Row.ne (h.rb y hy) hr (by decide)) _) (fun a ha => (e2 y a hy ha).symm), h.tc.far (h.tc.ne hr (by decide)) _, owns_far h.ow hr (by decide) _, owns_far h.ol hr (by decide) _, owns_far h.oc hr (by decide) _, h.ii, h.jj, h.ni, h.rt, h.xo, h.hb, h.lo, h.li, h.lb⟩
  by_cases e : y = x
  · subst e
    refine IntRow.congr (IntRow.put hr j v) (fun a ha => ?_)
    rw [e1 y a hy ha]
    unfold updI up2
    by_cases ea : a = j
    · rw [if_pos ea, if_pos ⟨rfl, ea⟩]
    · rw [if_neg ea, if_neg (fun h => ea h.2)]
  · refine IntRow.congr (Row.far (h.ri y hy) (h.ii y x hy hx e) _) (fun a ha => ?_)
    rw [e1 y a hy ha, up2_other _ _ (fun h => e h.1)]
/-- A bool is stored. -/
theorem RefM.setB (h : RefM w B B2 n m b S d vw vl vc L cs) {x : Nat} (hx : x < m + 1) (j : Nat) (v : Bool) (e1 : ∀ y a, y < m + 2 → a < n → ic T y a = ic S y a) (e2 : ∀ y a, y < m + 1 → a < n → bc T y a = up2 (bc S) x j v y a) :
    RefM (w.setCell ⟨b.bb x, j, none⟩ (.bool v)) B B2 n m b T d vw vl vc L cs := by
  have hr := h.rb x hx
  refine ⟨h.rn.far (h.rn.ne hr (by decide)) _, h.rx.far (h.rx.ne hr (by decide)) _, h.ro.far (h.ro.ne hr (by decide)) _, h.rh.far (h.rh.ne hr (by decide)) _, h.rr.far (h.rr.ne hr (by decide)) _, h.rl.far (h.rl.ne hr (by decide)) _,
    fun y hy => IntRow.congr (Row.far (h.ri y hy) (Row.ne (h.ri y hy) hr (by decide)) _) (fun a ha => (e1 y a hy ha).symm), fun y hy => ?_, h.tc.far (h.tc.ne hr (by decide)) _, owns_far h.ow hr (by decide) _, owns_far h.ol hr (by decide) _, owns_far h.oc hr (by decide) _, h.ii, h.jj, h.ni, h.rt, h.xo, h.hb, h.lo, h.li, h.lb⟩
  by_cases e : y = x
  · subst e
    have h1 := Row.set hr j (.bool v)
    rw [boolRow_set] at h1
    refine BRow.congr h1 (fun a ha => ?_)
    rw [e2 y a hy ha]
    unfold up1 up2
    by_cases ea : a = j
    · rw [if_pos ea, if_pos ⟨rfl, ea⟩]
    · rw [if_neg ea, if_neg (fun h => ea h.2)]
  · refine BRow.congr (Row.far (h.rb y hy) (h.jj y x hy hx e) _) (fun a ha => ?_)
    rw [e2 y a hy ha, up2_other _ _ (fun h => e h.1)]
/-- The letters are another list now. -/
theorem RefM.setL (h : RefM w B B2 n m b S d vw vl vc L cs) {row : Option Nat} {vl' : Value} {L' : List Lt} (hg : w.grownBy w' row) (hrow : row = none ∨ row = vl.ownBlock) (hl : OwnL w' B vl' L') : RefM (w'.setCell ⟨b.bw, 0, none⟩ vl') B B2 n m b S d vw vl' vc L' cs := by
  have hne : ∀ {g t xs}, Row w g t xs → 51 ≠ t → some g ≠ row := fun {g t xs} hr ht e => by
    rcases hrow with h1 | h1
    · rw [h1] at e; cases e
    · exact owns_ne_row h.ol hr ht (by rw [← h1, ← e])
  have hk : ∀ {g t xs}, Row w g t xs → 51 ≠ t → Row w' g t xs := fun hr ht => hr.grown hg (hne hr ht)
  have hok : ∀ {B' e size k v xs}, w.ownsRow B' e size v k xs → e ≠ 51 → w'.ownsRow B' e size v k xs := fun {B' e size k v xs} ho ht => World.ownsRow.kept ho hg (by
    rcases hrow with h1 | h1
    · rw [h1]; cases hv : Value.ownBlock _ <;> simp
    · rw [h1]; exact owns_ne ho h.ol ht)
  have hl1 := hk h.rl (by decide)
  refine ⟨(hk h.rn (by decide)).far ((hk h.rn (by decide)).ne hl1 (by decide)) _, (hk h.rx (by decide)).far ((hk h.rx (by decide)).ne hl1 (by decide)) _, (hk h.ro (by decide)).far ((hk h.ro (by decide)).ne hl1 (by decide)) _, (hk h.rh (by decide)).far ((hk h.rh (by decide)).ne hl1 (by decide)) _, (hk h.rr (by decide)).far ((hk h.rr (by decide)).ne hl1 (by decide)) _, ?_,
    fun x hx => Row.far (hk (h.ri x hx) (by decide)) (Row.ne (hk (h.ri x hx) (by decide)) hl1 (by decide)) _, fun x hx => Row.far (hk (h.rb x hx) (by decide)) (Row.ne (hk (h.rb x hx) (by decide)) hl1 (by decide)) _,
    (hk h.tc (by decide)).far ((hk h.tc (by decide)).ne hl1 (by decide)) _, owns_far (hok h.ow (by decide)) hl1 (by decide) _, owns_far hl hl1 (by decide) _, owns_far (hok h.oc (by decide)) hl1 (by decide) _, h.ii, h.jj, h.ni, h.rt, h.xo, h.hb, h.lo, h.li, h.lb⟩
  exact hl1.set 0 vl'
/-- A code more. -/
theorem RefM.setC (h : RefM w B B2 n m b S d vw vl vc L cs) {vc' : Value} {cs' : List Int} (hg : w.grownBy w' vc.ownBlock) (hl : w'.ownsRow B 28 1 vc' cs'.length (intVals cs')) : RefM (w'.setCell ⟨b.bo, 0, none⟩ vc') B B2 n m b S d vw vl vc' L cs' := by
  have hne : ∀ {g t xs}, Row w g t xs → 28 ≠ t → some g ≠ vc.ownBlock := fun {g t xs} hr ht e => owns_ne_row h.oc hr ht e.symm
  have hk : ∀ {g t xs}, Row w g t xs → 28 ≠ t → Row w' g t xs := fun hr ht => hr.grown hg (hne hr ht)
  have hok : ∀ {B' e size k v xs}, w.ownsRow B' e size v k xs → e ≠ 28 → w'.ownsRow B' e size v k xs := fun {B' e size k v xs} ho ht => World.ownsRow.kept ho hg (owns_ne ho h.oc ht)
  have hl1 := hk h.ro (by decide)
  refine ⟨(hk h.rn (by decide)).far ((hk h.rn (by decide)).ne hl1 (by decide)) _, (hk h.rx (by decide)).far h.xo _, ?_, (hk h.rh (by decide)).far ((hk h.rh (by decide)).ne hl1 (by decide)) _, (hk h.rr (by decide)).far ((hk h.rr (by decide)).ne hl1 (by decide)) _, (hk h.rl (by decide)).far ((hk h.rl (by decide)).ne hl1 (by decide)) _,
    fun x hx => Row.far (hk (h.ri x hx) (by decide)) (Row.ne (hk (h.ri x hx) (by decide)) hl1 (by decide)) _, fun x hx => Row.far (hk (h.rb x hx) (by decide)) (Row.ne (hk (h.rb x hx) (by decide)) hl1 (by decide)) _,
    (hk h.tc (by decide)).far ((hk h.tc (by decide)).ne hl1 (by decide)) _, owns_far (hok h.ow (by decide)) hl1 (by decide) _, owns_far (hok h.ol (by decide)) hl1 (by decide) _, owns_far hl hl1 (by decide) _, h.ii, h.jj, h.ni, h.rt, h.xo, h.hb, h.lo, h.li, h.lb⟩
  exact hl1.set 0 vc'
/-- Done is stored. -/
theorem RefM.setD (h : RefM w B B2 n m b S d vw vl vc L cs) (d' : Bool) : RefM (w.setCell ⟨b.bo, 1, none⟩ (.bool d')) B B2 n m b S d' vw vl vc L cs := by
  have hl1 := h.ro
  refine ⟨h.rn.far (h.rn.ne hl1 (by decide)) _, h.rx.far h.xo _, ?_, h.rh.far (h.rh.ne hl1 (by decide)) _, h.rr.far (h.rr.ne hl1 (by decide)) _, h.rl.far (h.rl.ne hl1 (by decide)) _,
    fun x hx => Row.far (h.ri x hx) (Row.ne (h.ri x hx) hl1 (by decide)) _, fun x hx => Row.far (h.rb x hx) (Row.ne (h.rb x hx) hl1 (by decide)) _,
    h.tc.far (h.tc.ne hl1 (by decide)) _, owns_far h.ow hl1 (by decide) _, owns_far h.ol hl1 (by decide) _, owns_far h.oc hl1 (by decide) _, h.ii, h.jj, h.ni, h.rt, h.xo, h.hb, h.lo, h.li, h.lb⟩
  exact hl1.set 1 (.bool d')
end

#print axioms RefM.setL
end Go.Proofs.Ytebighmddimnkaa
