/-
  Words for memory: the group of package causal.
-/
import Derived.Test.YtkchccaeopdemaaLbr
namespace Go.Proofs.Ytkchccaeopdemaa
open Go.RowKit Go.Maps

theorem Row.ne {w : World} {a b : Nat} {t t' : TypeId} {xs ys : List Value} (h : Row w a t xs) (h' : Row w b t' ys) (hne : t ≠ t') : a ≠ b := by
  intro e
  subst e
  unfold Row at h h'
  rw [h] at h'
  injection h' with h'
  injection h' with _ h'
  exact hne h'
theorem owns_ne_owns {w : World} {B : Nat} {e e' : TypeId} {s s' n n' : Nat} {v v' : Value} {xs ys : List Value} (h : w.ownsRow B e s v n xs) (h' : w.ownsRow B e' s' v' n' ys) (hne : e ≠ e') : v.ownBlock = none ∨ v.ownBlock ≠ v'.ownBlock := by
  rcases h.2 with ⟨rfl, _⟩ | ⟨g, cap, cur, rfl, _, hg, _⟩
  · exact .inl rfl
  · right
    intro e1
    rcases h'.2 with ⟨rfl, _⟩ | ⟨g', cap', cur', rfl, _, hg', _⟩
    · cases e1
    · have : g = g' := by simpa [Value.ownBlock] using e1
      subst this
      rw [hg] at hg'
      injection hg' with h1
      injection h1 with _ h2
      exact hne h2
theorem owns_blocks {w w' : World} {B : Nat} {e : TypeId} {size n : Nat} {v : Value} {xs : List Value} (h : w.ownsRow B e size v n xs) (hb : ∀ g, B ≤ g → g < w.heap.size → w'.heap[g]? = w.heap[g]?) : w'.ownsRow B e size v n xs := by
  have hlt := h.lt
  refine ⟨h.1, ?_⟩
  rcases h.2 with h7 | ⟨g, cap, cur, hv, hb', hg, rest⟩
  · exact .inl h7
  · refine .inr ⟨g, cap, cur, hv, hb', ?_, rest⟩
    have := hlt g (by rw [hv]; rfl)
    rw [hb g this.1 this.2]; exact hg
theorem owns_far {w : World} {B : Nat} {e : TypeId} {size n : Nat} {v : Value} {xs : List Value} (h : w.ownsRow B e size v n xs) {p : Addr} (hp : v.ownBlock ≠ some p.block) (u : Value) : (w.setCell p u).ownsRow B e size v n xs := by
  refine ⟨h.1, ?_⟩
  rcases h.2 with h7 | ⟨g, cap, cur, hv, hb', hg, rest⟩
  · exact .inl h7
  · refine .inr ⟨g, cap, cur, hv, hb', ?_, rest⟩
    rw [Below.heap_setCell w p u g (fun e => hp (by rw [hv]; simp [Value.ownBlock, e]))]
    exact hg

def fputV (f : Nat → List Value) (i : Nat) (xs : List Value) : Nat → List Value := fun x => if x = i then xs else f x
section
variable {tt et : TypeId} {w w' : World} {B T c : Nat} {vs : Nat → Value} {f : Nat → List Value}
theorem LV.blocks (h : LV tt et w B T c vs f) (hb : ∀ g, B ≤ g → g < w.heap.size → w'.heap[g]? = w.heap[g]?) : LV tt et w' B T c vs f := by
  have hT := h.topLt
  obtain ⟨⟨xs, h1, h2⟩, h3, h4, h5, hne⟩ := h
  exact ⟨⟨xs, h1.block (hb T h5 hT), h2⟩, fun i hi => owns_blocks (h3 i hi) hb, h4, h5, hne⟩
/-- Another list in the place of one. -/
theorem LV.put (h : LV tt et w B T c vs f) {i : Nat} {v' : Value} {xs' : List Value} (hi : i < c) (hown : w'.ownsRow B et 1 v' xs'.length xs')
    (hg : w.grownBy w' (vs i).ownBlock) (hat : v'.ownBlock = (vs i).ownBlock ∨ ∃ g, v'.ownBlock = some g ∧ w.heap.size ≤ g) :
    LV tt et (w'.setCell ⟨T, i, none⟩ v') B T c (vputV vs i v') (fputV f i xs') := by
  have hT := h.topLt
  have hneT : v'.ownBlock ≠ some T := by
    rcases hat with h1 | ⟨g, h1, h2⟩
    · rw [h1]; exact h.neTop hi
    · rw [h1]; intro e; injection e with e; omega
  have hoth : ∀ x, x < c → x ≠ i → (vs x).ownBlock = none ∨ (vs x).ownBlock ≠ v'.ownBlock := by
    intro x hx hne
    rcases hat with h1 | ⟨g, h1, h2⟩
    · rw [h1]; exact h.apart x i hx hi hne
    · right
      intro e
      have := ((h.row x hx).lt g (e.trans h1)).2
      omega
  obtain ⟨⟨xs, h1, h2, h3⟩, h4, h5, h6, hnn⟩ := h
  have h1' : Row w' T tt xs := h1.grown hg (fun e => owns_ne_row (h4 i hi) h1 hnn e.symm)
  refine ⟨⟨_, h1'.set i _, by rw [List.length_set]; exact h2, fun x hx => ?_⟩, fun x hx => ?_, fun x y hx hy hne => ?_, h6, hnn⟩
  · by_cases e : x = i
    · subst e
      rw [List.getElem?_set_self (by omega)]
      simp [vputV]
    · rw [List.getElem?_set_ne (fun h => e h.symm), h3 x hx]
      simp [vputV, e]
  · by_cases e : x = i
    · subst e
      simp only [vputV, fputV, if_pos]
      exact owns_far hown hneT _
    · simp only [vputV, fputV, if_neg e]
      exact owns_far ((h4 x hx).kept hg (h5 x i hx hi e)) (owns_ne_row (h4 x hx) h1 hnn) _
  · by_cases e1 : x = i
    · by_cases e2 : y = i
      · omega
      · simp only [vputV, if_pos e1, if_neg e2]
        cases hv : v'.ownBlock with
        | none => exact .inl rfl
        | some g =>
          right
          intro hh
          rcases hoth y hy e2 with h | h
          · rw [h] at hh; cases hh
          · exact h (hh.symm.trans hv.symm)
    · by_cases e2 : y = i
      · simp only [vputV, if_neg e1, if_pos e2]
        exact hoth x hx e1
      · simp only [vputV, if_neg e1, if_neg e2]
        exact h5 x y hx hy hne
end

/-- The cells of the messages. -/
def flatG (m : Nat) (sd : Nat → Nat) (bh : Nat → List Nat) : List Value := (List.range m).flatMap fun k => [Value.int .i64 (sd k : Int), Value.int .i64 ((bh k).length : Int)]
theorem flatG_len (m : Nat) (sd : Nat → Nat) (bh : Nat → List Nat) : (flatG m sd bh).length = m * 2 := by
  unfold flatG
  induction m with
  | zero => rfl
  | succ m ih => rw [List.range_succ, List.flatMap_append, List.length_append, ih]; simp; omega
theorem flatG_congr {m : Nat} {sd sd' : Nat → Nat} {bh bh' : Nat → List Nat} (h : ∀ k, k < m → sd k = sd' k ∧ bh k = bh' k) : flatG m sd bh = flatG m sd' bh' := by
  unfold flatG
  induction m with
  | zero => rfl
  | succ m ih =>
    rw [List.range_succ, List.flatMap_append, List.flatMap_append, ih fun k hk => h k (by omega)]
    simp [(h m (by omega)).1, (h m (by omega)).2]
theorem flatG_push (m : Nat) (sd : Nat → Nat) (bh : Nat → List Nat) (s : Nat) (b : List Nat) : flatG (m + 1) (up1 sd m s) (up1 bh m b) = flatG m sd bh ++ [Value.int .i64 (s : Int), Value.int .i64 (b.length : Int)] := by
  have e : flatG (m + 1) (up1 sd m s) (up1 bh m b) = flatG m (up1 sd m s) (up1 bh m b) ++ [Value.int .i64 ((up1 sd m s m : Nat) : Int), Value.int .i64 ((up1 bh m b m).length : Int)] := by
    unfold flatG
    rw [List.range_succ, List.flatMap_append]
    simp
  rw [e, up1_same, up1_same, flatG_congr fun k hk => ⟨up1_other sd s (by omega), up1_other bh b (by omega)⟩]
theorem flatG_at (m : Nat) (sd : Nat → Nat) (bh : Nat → List Nat) {k : Nat} (hk : k < m) : (flatG m sd bh)[k * 2]? = some (.int .i64 (sd k : Int)) ∧ (flatG m sd bh)[k * 2 + 1]? = some (.int .i64 ((bh k).length : Int)) := by
  induction m with
  | zero => omega
  | succ m ih =>
    have e : flatG (m + 1) sd bh = flatG m sd bh ++ [Value.int .i64 (sd m : Int), Value.int .i64 ((bh m).length : Int)] := by
      unfold flatG
      rw [List.range_succ, List.flatMap_append]
      simp
    have hl := flatG_len m sd bh
    rw [e]
    by_cases h : k = m
    · subst h
      rw [List.getElem?_append_right (by omega), List.getElem?_append_right (by omega), hl, Nat.sub_self, Nat.add_sub_cancel_left]
      exact ⟨rfl, rfl⟩
    · rw [List.getElem?_append_left (by omega), List.getElem?_append_left (by omega)]
      exact ih (by omega)

structure GrpAt (w : World) (B gb n P : Nat) (vs : Nat → Value) (vm : Value) (S : CS) : Prop where
  grp : Row w gb 50 [.slice (some ⟨P, 0, none⟩) n n, vm]
  lv : LV 56 3 w B P (2 * n) vs (fun j => nv (S.ls j))
  msg : w.ownsRow B 59 2 vm S.m (flatG S.m S.sd S.bh)
  low : B ≤ gb
def Grp (w : World) (B gb n P : Nat) (S : CS) : Prop := ∃ vs vm, GrpAt w B gb n P vs vm S

/-- Nothing below B has turned, and no row of other things than ints, messages, processes, groups. -/
structure Bl (B : Nat) (w w' : World) : Prop where
  low : Below B w w'
  kept : ∀ g t xs, t ≠ 3 → t ≠ 59 → t ≠ 56 → t ≠ 50 → Row w g t xs → Row w' g t xs
section
variable {B : Nat} {w w' w2 : World}
theorem Bl.refl (B : Nat) (w : World) : Bl B w w := ⟨Below.refl B w, fun _ _ _ _ _ _ _ h => h⟩
theorem Bl.trans (h : Bl B w w') (k : Bl B w' w2) : Bl B w w2 := ⟨h.low.trans k.low, fun g t xs a b c d hg => k.kept g t xs a b c d (h.kept g t xs a b c d hg)⟩
theorem Bl.setRow (h : Bl B w w') {p : Addr} {t : TypeId} {ys : List Value} (hr : Row w' p.block t ys) (ht : t = 56 ∨ t = 50) (hp : B ≤ p.block) (u : Value) : Bl B w (w'.setCell p u) :=
  ⟨h.low.setCell hp u, fun g t' xs a b c d hg => (h.kept g t' xs a b c d hg).far ((h.kept g t' xs a b c d hg).ne hr (by rcases ht with rfl | rfl; exact c; exact d)) u⟩
theorem Bl.alloc (h : Bl B w w') (hs : B ≤ w'.heap.size) (o : Obj) : Bl B w (w'.alloc o) := ⟨h.low.alloc hs o, fun g t xs a b c d hg => (h.kept g t xs a b c d hg).alloc o⟩
theorem Bl.grown (h : Bl B w w') {v : Value} {e : TypeId} {size n : Nat} {xs : List Value} (hg : w'.grownBy w2 v.ownBlock) (ho : w'.ownsRow B e size v n xs) (he : e = 3 ∨ e = 59) (hs : B ≤ w'.heap.size) : Bl B w w2 :=
  ⟨h.low.grown hg hs (fun b hb => (ho.lt b hb).1), fun g t ys a b c d hr => (h.kept g t ys a b c d hr).grown hg (fun e2 => owns_ne_row ho (h.kept g t ys a b c d hr) (by rcases he with rfl | rfl; exact fun e => a e.symm; exact fun e => b e.symm) e2.symm)⟩
theorem Bl.below (h : Bl B w w') (hb : Below w'.heap.size w' w2) (hs : B ≤ w'.heap.size) : Bl B w w2 :=
  ⟨h.low.trans (hb.mono hs), fun g t xs a b c d hg => (h.kept g t xs a b c d hg).below hb (h.kept g t xs a b c d hg).lt⟩
end

section
variable {w w' : World} {B gb n P : Nat} {vs : Nat → Value} {vm : Value} {S : CS}
theorem GrpAt.sz (h : GrpAt w B gb n P vs vm S) : B ≤ w.heap.size := Nat.le_of_lt (Nat.lt_of_le_of_lt h.low h.grp.lt)
theorem GrpAt.blocks (h : GrpAt w B gb n P vs vm S) (hb : ∀ g, B ≤ g → g < w.heap.size → w'.heap[g]? = w.heap[g]?) : GrpAt w' B gb n P vs vm S :=
  ⟨h.grp.block (hb gb h.low h.grp.lt), h.lv.blocks hb, owns_blocks h.msg hb, h.low⟩
theorem GrpAt.alloc (h : GrpAt w B gb n P vs vm S) (o : Obj) : GrpAt (w.alloc o) B gb n P vs vm S := h.blocks fun g _ hg => Below.heap_alloc w o g hg
theorem GrpAt.below (h : GrpAt w B gb n P vs vm S) (hb : Below w.heap.size w w') : GrpAt w' B gb n P vs vm S := h.blocks fun g _ hg => hb.block g hg
theorem GrpAt.cells (h : GrpAt w B gb n P vs vm S) : w.cell? ⟨gb, 0, none⟩ = some (.slice (some ⟨P, 0, none⟩) n n) ∧ w.cell? ⟨gb, 1, none⟩ = some vm := ⟨h.grp.cell (by simp), h.grp.cell (i := 1) (by simp)⟩
theorem GrpAt.proc (h : GrpAt w B gb n P vs vm S) {i : Nat} (hi : i < n) : w.cell? ⟨P, i * 2, none⟩ = some (vs (2 * i)) ∧ w.cell? ⟨P, i * 2 + 1, none⟩ = some (vs (2 * i + 1)) := by
  rw [Nat.mul_comm i 2]
  exact ⟨h.lv.slot (by omega), h.lv.slot (by omega)⟩
theorem GrpAt.procLt (h : GrpAt w B gb n P vs vm S) : P < w.heap.size := h.lv.topLt
theorem GrpAt.own (h : GrpAt w B gb n P vs vm S) {j : Nat} (hj : j < 2 * n) : OwnN w B (vs j) (S.ls j) := by
  have := h.lv.row j hj
  simp only [nv_len] at this
  exact this
theorem Grp.alloc (h : Grp w B gb n P S) (o : Obj) : Grp (w.alloc o) B gb n P S := by obtain ⟨vs, vm, h⟩ := h; exact ⟨vs, vm, h.alloc o⟩
theorem Grp.below (h : Grp w B gb n P S) (hb : Below w.heap.size w w') : Grp w' B gb n P S := by obtain ⟨vs, vm, h⟩ := h; exact ⟨vs, vm, h.below hb⟩
theorem Grp.sz (h : Grp w B gb n P S) : B ≤ w.heap.size := by obtain ⟨vs, vm, h⟩ := h; exact h.sz
/-- Another list in the place of one. -/
theorem GrpAt.put (h : GrpAt w B gb n P vs vm S) {j : Nat} {v' : Value} {q : List Nat} (hj : j < 2 * n) (hown : OwnN w' B v' q) (hg : w.grownBy w' (vs j).ownBlock) (hat : v'.ownBlock = (vs j).ownBlock ∨ ∃ g, v'.ownBlock = some g ∧ w.heap.size ≤ g) :
    GrpAt (w'.setCell ⟨P, j, none⟩ v') B gb n P (vputV vs j v') vm { S with ls := up1 S.ls j q } := by
  obtain ⟨xs, hP, _⟩ := h.lv.top
  have ho := h.own hj
  have h1 := h.lv.put (w' := w') (xs' := nv q) hj (by rw [nv_len]; exact hown) hg hat
  refine ⟨(h.grp.grown hg (fun e => owns_ne_row ho h.grp (by decide) e.symm)).far (h.grp.ne hP (by decide)) v', h1.congr fun x _ => ?_, owns_far (h.msg.kept hg (owns_ne_owns h.msg ho (by decide))) (owns_ne_row h.msg hP (by decide)) v', h.low⟩
  show fputV (fun j => nv (S.ls j)) j (nv q) x = nv (up1 S.ls j q x)
  unfold fputV up1
  split <;> rfl
/-- One more message. -/
theorem GrpAt.more (h : GrpAt w B gb n P vs vm S) {v' : Value} {s : Nat} {b : List Nat} (hown : w'.ownsRow B 59 2 v' (S.m + 1) (flatG S.m S.sd S.bh ++ [Value.int .i64 (s : Int), Value.int .i64 (b.length : Int)])) (hg : w.grownBy w' vm.ownBlock) :
    GrpAt (w'.setCell ⟨gb, 1, none⟩ v') B gb n P vs v' { S with m := S.m + 1, sd := up1 S.sd S.m s, bh := up1 S.bh S.m b } := by
  obtain ⟨xs, hP, _⟩ := h.lv.top
  have hr1 : Row w' gb 50 [.slice (some ⟨P, 0, none⟩) n n, vm] := h.grp.grown hg (fun e => owns_ne_row h.msg h.grp (by decide) e.symm)
  have hlv : LV 56 3 w' B P (2 * n) vs (fun j => nv (S.ls j)) := h.lv.kept hg (fun e => owns_ne_row h.msg hP (by decide) e.symm) (fun i hi => owns_ne_owns (h.lv.row i hi) h.msg (by decide))
  have hP' : Row w' P 56 xs := hP.grown hg (fun e => owns_ne_row h.msg hP (by decide) e.symm)
  refine ⟨?_, hlv.far (hP'.ne hr1 (by decide)) (fun i hi => owns_ne_row (hlv.row i hi) hr1 (by decide)) v', ?_, h.low⟩
  · have := hr1.set 1 v'
    exact this
  · rw [← flatG_push] at hown
    exact owns_far hown (owns_ne_row hown hr1 (by decide)) v'
end

#print axioms GrpAt.put
#print axioms GrpAt.more
end Go.Proofs.Ytkchccaeopdemaa
