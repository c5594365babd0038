/-
  The contract of tick.remaining.
-/
import Derived.Test.YtiokfehckhbnaaaBwd
import Derived.Test.YtiokfehckhbnaaaNum
import Derived.Test.YtiokfehckhbnaaaPull
import Derived.Test.YtiokfehckhbnaaaTks
import Derived.Test.YtiokfehckhbnaaaRound
namespace Go.Proofs.Ytiokfehckhbnaaa
open Go.RowKit Go.Shelf

attribute [local go_sem] Oper.semAt_some

/-- 'make([]T, n)' at elements of one cell, inside a fence. -/
theorem wpListIn_make_row {F : Fence} {k : Nat} {P : Program} (w : World) {ops : Array Oper} {rest : List Oper} {o : Oper} {a : Act} {Q : Exit → Act → World → Prop}
    (hg : o.guard = none) (l c : Operand) (t : TypeId) (hop : o.op = Op.makeSlice t l c)
    (e : TypeId) (i : TypeInfo) (z : Value) (h1 : P.underlying t = some (.slice e)) (h2 : P.info? e = some i) (h3 : i.zero = some z) (h4 : i.size = 1) (hz1 : z.cells = #[z])
    (kl kc : IntKind) (L C : Int) (n : Nat) (hl : a.eval l = .int kl L) (hc : a.eval c = .int kc C) (hL : L = (n : Int)) (hC : C = (n : Int)) (b2 : i.bytes * n ≤ 281474976710656) (b3 : n ≤ maxLen)
    (hK : ∀ w', Row w' w.heap.size e (List.replicate n z) → w.grownBy w' none → wpListIn F k P ops Q rest (a.put o.dst (.slice (some ⟨w.heap.size, 0, none⟩) n n)) w') :
    wpListIn F k P ops Q (o :: rest) a w := by
  refine wpListIn_plain hg fun K hK' => ?_
  obtain ⟨w', hrun, hown, hgrow⟩ := run_make_full (P := P) w w.heap.size t e i z 1 h1 h2 h3 h4 kl kc n b2 b3 (Nat.le_refl _)
  subst hL
  subst hC
  have hrow : Row w' w.heap.size e (List.replicate n z) := by
    rw [hz1, Nat.mul_one, toList_madeCells_one] at hown
    rcases hown.2 with ⟨h', _⟩ | ⟨g', cap', cur, h', _, hb, _, _, hcs, htake⟩
    · simp at h'
    · simp only [Value.slice.injEq, Option.some.injEq, Addr.mk.injEq, and_true, true_and] at h'
      obtain ⟨rfl, rfl⟩ := h'
      rw [List.take_of_length_le (by rw [Array.length_toList, hcs]; exact Nat.le_refl _)] at htake
      have : cur = (List.replicate n z).toArray := by rw [← htake]
      unfold Row
      rw [hb, this]
  unfold Oper.wpIn
  refine ⟨?_, ?_⟩
  · simp [Oper.about, hop]
  · rw [Oper.semAt_plain F _ _ (by rw [hop]; intro c hc'; cases hc')]
    simp [execOp, hop, hl, hc, hrun, Result.andThen]
    exact hK' _ _ (hK w' hrow hgrow)

/-- The lengths of the longest lists that begin with each event. -/
def RemRes (l : List Ev) (w : World) (e : Ending) (w' : World) : Prop :=
  ∃ D, e = .returned (.slice (some ⟨w.heap.size, 0, none⟩) l.length l.length) ∧ NatRow w' w.heap.size l.length D ∧ Rank (fun i j => HB l j i) l.length D ∧ (∀ j, j < l.length → D j ≤ l.length) ∧ Below w.heap.size w w'

/-- A turn of a block that is no cells leaves a row as it was. -/
theorem row_abides {W W' : World} {row : Option Nat} {g : Nat} {e : TypeId} {xs : List Value} (h : Row W g e xs) (hg : W.grownBy W' row) (hr : ∀ r, row = some r → ∃ o : Obj, W.heap[r]? = some o ∧ o.isCells = false) : Row W' g e xs := by
  refine h.grown hg (fun e => ?_)
  obtain ⟨o, h1, h2⟩ := hr g e.symm
  unfold Row at h
  rw [h] at h1
  injection h1 with h1
  subst h1
  cases h2
theorem lists_abides {W W' : World} {row : Option Nat} {B T c : Nat} {vs : Nat → Value} {f : Nat → List Nat} (h : Lists W B T c vs f) (hg : W.grownBy W' row) (hr : ∀ r, row = some r → ∃ o : Obj, W.heap[r]? = some o ∧ o.isCells = false) : Lists W' B T c vs f := by
  refine h.kept hg (fun e => ?_) (fun i hi => ?_)
  · obtain ⟨xs, h1, _⟩ := h.top
    obtain ⟨o, h3, h4⟩ := hr T e.symm
    unfold Row at h1
    rw [h1] at h3
    injection h3 with h3
    subst h3
    cases h4
  · rcases (h.row i hi).2 with ⟨hv, _⟩ | ⟨g, cap, cur, hv, _, hgb, _⟩
    · left; rw [hv]; rfl
    · right
      intro e
      rw [hv] at e
      obtain ⟨o, h3, h4⟩ := hr g e.symm
      rw [hgb] at h3
      injection h3 with h3
      subst h3
      cases h4

/-- Between two rounds. -/
def RemI (l : List Ev) (F T g bx : Nat) (vs : Nat → Value) (pre : List (Idx l.length)) (W : World) : Prop :=
  ∃ A, NatRow W g l.length A ∧ (∀ j, j < l.length → A j ≤ pre.length) ∧ (pre = downs l.length pre.length → Done (fun i j => Nxt l j i) l.length pre.length (fun j => l.length ≤ j + pre.length ∧ j < l.length) A) ∧
    W.cell? ⟨bx, 0, none⟩ = some (.slice (some ⟨g, 0, none⟩) l.length l.length) ∧ Lists W F T l.length vs (fol l)
/-- Inside a round, q of the followers taken. -/
def RemQ (l : List Ev) (F T g bx Bs : Nat) (vs : Nat → Value) (k x q : Nat) (good : Prop) (W1 W : World) : Prop :=
  ∃ A, NatRow W g l.length A ∧ (∀ j, j < l.length → A j ≤ k) ∧ (good → Pull (fun i j => Nxt l j i) l.length k (fun j => l.length ≤ j + k ∧ j < l.length) x (fun i => i ∈ (fol l x).take q) A) ∧
    W.cell? ⟨bx, 0, none⟩ = some (.slice (some ⟨g, 0, none⟩) l.length l.length) ∧ Lists W F T l.length vs (fol l) ∧ KeepsOthers W1 W ∧ Below g W1 W ∧ W.heap[Bs]? = W1.heap[Bs]?

theorem trans_flip {r : Nat → Nat → Prop} {a b : Nat} (h : Relation.TransGen (fun i j => r j i) a b) : Relation.TransGen r b a := by
  induction h with
  | single h => exact .single h
  | tail _ h ih => exact Relation.TransGen.trans (.single h) ih
theorem rem_rank {l : List Ev} (hs : Sole l) {N : Nat} {S : Nat → Prop} {A : Nat → Nat} (h : Done (fun i j => Nxt l j i) l.length N S A) (hS : ∀ j, j < l.length → S j) : Rank (fun i j => HB l j i) l.length A := by
  refine ((h.rank hS).trans (fun i j _ h => h.lt.2)).iff fun i j => ?_
  rw [hb_nxt hs]
  exact ⟨trans_flip, fun h => trans_flip (r := fun i j => Nxt l j i) h⟩

set_option maxRecDepth 100000 in
set_option maxHeartbeats 4000000 in
theorem remaining_in (n : Nat) (hn : 3 ≤ n) (l : List Ev) (w : World) (F T : Nat) (vs : Nat → Value) (hL : Lists w F T l.length vs (fol l)) (h30 : l.length ≤ 30) (hs : Sole l) :
    CallsIn Fence.wide n Try.prog 30 #[.slice (some ⟨T, 0, none⟩) l.length l.length] w (RemRes l w) := by
  have hro : Fence.wide.round = none := rfl
  have h1 : 1 ≤ n := by omega
  obtain ⟨i0, hi0, hz0, hz1, hz2⟩ := info_parts info3
  have hz2' : i0.bytes * l.length ≤ 281474976710656 := by rw [hz2]; omega
  have hHi := Lib.hid hi0; have hHz := Lib.hid hz0; have hHs := Lib.hid hz1
  clear hi0 hz0 hz1 hz2
  have hf1 : Fence.wide.fn 41 := trivial
  have hf2 : Fence.wide.fn 53 := trivial
  refine callsIn_of_wp_marks Try.func30 rfl trivial ?_ hro
  simp only [Try.ntmps30, List.size_toArray, List.length_cons, List.length_nil, Nat.reduceAdd, Nat.reduceSub, Array.replicate_succ, Array.replicate_zero, List.push_toArray, List.append_toArray, List.nil_append, List.cons_append]
  gi_wp2_with (first
    | (gi_at_make; refine wpListIn_make_row _ rfl _ _ 23 rfl 3 i0 (.int .i64 0) Try.underlying23 hHi.out hHz.out hHs.out rfl .i64 .i64 _ _ l.length rfl rfl rfl rfl hz2' (by unfold maxLen; omega) ?_; intro w1 hR1 hG1)
    | (gi_at_call 41; refine (backward_in Fence.wide (n - 1) hf1 hro _ _ _ _).mono ?_; rintro e w' ⟨rfl, rfl⟩))
  have hB1 : Below w.heap.size w w1 := (Below.refl _ _).grown hG1 (Nat.le_refl _) (by simp)
  have hlt1 := hR1.lt
  rw [natRow_zero] at hR1
  have hTl := hL.topLt
  have hB0 : Below w.heap.size w ((w1.alloc (.cells #[.slice (some ⟨w.heap.size, 0, none⟩) l.length l.length] 23)).alloc (.cells #[.slice (some ⟨T, 0, none⟩) l.length l.length] 45)) := (hB1.alloc hB1.size _).alloc (by simp; have := hB1.size; omega) _
  have bX := Boxed.new w1 23 (.slice (some ⟨w.heap.size, 0, none⟩) l.length l.length)
  have bS := Boxed.new (w1.alloc (.cells #[.slice (some ⟨w.heap.size, 0, none⟩) l.length l.length] 23)) 45 (.slice (some ⟨T, 0, none⟩) l.length l.length)
  rw [World.size_alloc] at bS
  have hL0 := ((hL.grown hG1).alloc (.cells #[.slice (some ⟨w.heap.size, 0, none⟩) l.length l.length] 23)).alloc (.cells #[.slice (some ⟨T, 0, none⟩) l.length l.length] 45)
  have hR0 : NatRow ((w1.alloc (.cells #[.slice (some ⟨w.heap.size, 0, none⟩) l.length l.length] 23)).alloc (.cells #[.slice (some ⟨T, 0, none⟩) l.length l.length] 45)) w.heap.size l.length (fun _ => 0) := Row.alloc (Row.alloc hR1 _) _
  have hs0 : ((w1.alloc (.cells #[.slice (some ⟨w.heap.size, 0, none⟩) l.length l.length] 23)).alloc (.cells #[.slice (some ⟨T, 0, none⟩) l.length l.length] 45)).heap.size = w1.heap.size + 2 := by simp
  have bX0 := bX.alloc (.cells #[.slice (some ⟨T, 0, none⟩) l.length l.length] 45)
  generalize (w1.alloc (.cells #[.slice (some ⟨w.heap.size, 0, none⟩) l.length l.length] 23)).alloc (.cells #[.slice (some ⟨T, 0, none⟩) l.length l.length] 45) = W0 at *
  have hs0H := Lib.hid hs0
  have hs0' : w1.heap.size + 1 < W0.heap.size := by omega
  clear hs0 bX hR1 hG1 hB1
  refine wpIn_rangeFunc_ownF hro h1 (gf := 53) (lb := #[.pointer (some ⟨w1.heap.size + 1, 0, none⟩)]) rfl hf2 (enters_of Try.func53 (by kernel_rfl) rfl)
    (backward_stops Fence.wide (n - 1) hf2 hro (by omega) (w1.heap.size + 1) w.heap.size T l.length l.length (by omega) vs hTl W0 hs0' hB0.size bS.cell (fun j hj => hL0.slot hj))
    (fun h h' => KpB.t h h')
    (fun W l' o o' hl' ho hoc how => ⟨belowK_b hB0.size W l' o o' hl' ho hoc how, (grownBy_putObj' W l' o').block _ (by have := (Array.getElem?_eq_some_iff.1 ho).1; omega) (by simp; omega)⟩)
    (Below.refl _ _) (fun _ => rfl)
    (fun pre W => RemI l F T w.heap.size w1.heap.size vs pre W ∧ Below w.heap.size w W)
    (fun _ _ _ => False)
    (OwnFrom.and (Own.from (fun s A B row hs hg hr => by obtain ⟨D, d1, d2, d3, d4, d5⟩ := hs; exact ⟨D, row_abides d1 hg hr, d2, d3, cell_kept d4 hg hr, lists_abides d5 hg hr⟩) _) (ownFrom_below (Nat.le_refl _) hB0.size))
    (fun _ _ _ _ _ hs _ _ => hs)
    ⟨⟨_, hR0, fun j _ => Nat.zero_le _, fun _ => Done.begin _ _ (fun j h => by have := h.1; have := h.2; simp at *; omega), bX0.cell, hL0⟩, hB0⟩
    (fun x => { tmps := #[.slice (some ⟨T, 0, none⟩) l.length l.length, undef, .slice none 0 0, .pointer (some ⟨w1.heap.size, 0, none⟩), .int .i64 (x.val : Int), vs x.val, undef, undef, .slice (some ⟨T, 0, none⟩) l.length l.length, .int .i64 l.length, .slice (some ⟨w.heap.size, 0, none⟩) l.length l.length, .slice (some ⟨T, 0, none⟩) l.length l.length, .func (.func 53) #[] #[.pointer (some ⟨w1.heap.size + 1, 0, none⟩)], .int .i64 (x.val : Int), vs x.val, undef, undef, undef, undef, undef, undef, undef, undef, undef, undef, undef, undef, undef, undef, undef, undef, undef, undef, undef, undef, undef, undef, undef, undef, undef, undef], defers := [] }) ?assign ?body ?done ?stop
  case assign =>
    intro l x W K hK
    gi_wp2
    exact hK
  case body =>
    rintro l' pre x W ⟨⟨A, a1, a2, a3, a4, a5⟩, hB⟩ hpl
    have hxc : x.val < l.length := by rcases x.2 with h | h <;> omega
    obtain ⟨good, hgood⟩ : ∃ good : Prop, Hid (good = (pre ++ [x] = downs l.length (pre.length + 1))) := ⟨_, rfl⟩
    have hg1 : Hid (good → pre = downs l.length pre.length ∧ x.val + pre.length + 1 = l.length) := by
      intro h
      rw [hgood.out, downs_succ] at h
      obtain ⟨h2, h3⟩ := List.append_inj' h rfl
      have h4 : x = down l.length pre.length := by simpa using h3
      refine ⟨h2, ?_⟩
      rw [h4]
      show l.length - 1 - pre.length + pre.length + 1 = l.length
      omega
    have hpl2 : (pre ++ [x]).length = pre.length + 1 := by simp
    obtain ⟨Ak, ck, hvk, hck, hck2, _⟩ := a5.shape hxc
    have hvH := Lib.hid hvk
    rw [hvk]
    clear hvk
    have hoff : Hid (∀ i, i < l.length → (vs i).ownBlock ≠ some w.heap.size) := fun i hi e => by have := ((hL.row i hi).lt _ e).2; omega
    have hfl := folTo_len l l.length x.val
    have hfl2 : (fol l x.val).length ≤ 60 := by unfold fol; omega
    have hq0 : RemQ l F T w.heap.size w1.heap.size (w1.heap.size + 1) vs pre.length x.val 0 good W W :=
      ⟨A, a1, a2, fun hg => by
        obtain ⟨e1, e2⟩ := hg1.out hg
        exact (a3 e1).pull (by omega) (fun i hi => by simp at hi), a4, a5, KeepsOthers.refl _, Below.refl _ _, rfl⟩
    clear a1 a2 a3 a4 a5 hpl2
    gi_wp2
    gi_loopw [17] (fun t wr => ∃ q : Nat, q ≤ (fol l x.val).length ∧ t = .int .i64 q ∧ RemQ l F T w.heap.size w1.heap.size (w1.heap.size + 1) vs pre.length x.val q good W wr) (fun t _ => (fol l x.val).length - (intOf t).toNat)
    case atStart => exact ⟨0, Nat.zero_le _, rfl, hq0⟩
    case round =>
      obtain ⟨q, hq, rfl, U, u1, u2, u3, u4, u5, u6, u7, u8⟩ := hrel
      clear hq0
      by_cases hql : q < (fol l x.val).length
      · obtain ⟨gk, rfl, hgF, hgl, cq⟩ := u5.cellAt hxc hvH.out hql
        have hn0 := (fol_mem l x.val _).1 (List.getElem_mem hql)
        have htk : Hid ((fol l x.val).take (q + 1) = (fol l x.val).take q ++ [(fol l x.val)[q]]) := by unfold Hid; rw [List.take_succ_eq_append_getElem hql]
        generalize (fol l x.val)[q] = j0 at *
        have hjl := hn0.lt.2
        have x1 := NatRow.at_ u1 hxc
        have x2 := NatRow.at_ u1 hjl
        have xf := Row.frozen u1 x.val
        have t1 := u2 x.val hxc
        have t2 := u2 j0 hjl
        have hRn := NatRow.put u1 x.val (max (U x.val) (U j0))
        have hLn := u5.far (p := ⟨w.heap.size, x.val, none⟩) (show T ≠ w.heap.size by omega) hoff.out (.int .i64 ((max (U x.val) (U j0) : Nat) : Int))
        have u2n : Hid (∀ j, j < l.length → upd U x.val (max (U x.val) (U j0)) j ≤ pre.length) := fun j hj => by
          by_cases e : j = x.val
          · rw [e, upd_same]; omega
          · rw [upd_other U _ e]; exact u2 j hj
        have u3n : Hid (good → Pull (fun i j => Nxt l j i) l.length pre.length (fun j => l.length ≤ j + pre.length ∧ j < l.length) x.val (fun i => i ∈ (fol l x.val).take (q + 1)) (upd U x.val (max (U x.val) (U j0)))) := fun hg => by
          obtain ⟨e1, e2⟩ := hg1.out hg
          exact (u3 hg).take (fun i j hj hij => by have := hij.lt; omega) (by omega) (fun i hi => by have := hi.lt; omega) hjl hn0 (fun i hi => by rw [htk.out, List.mem_append, List.mem_singleton] at hi; exact hi)
        generalize upd U x.val (max (U x.val) (U j0)) = U1 at *
        clear u1 u2 u3 u5
        have hxI : (x.val : Int) < (l.length : Int) := by omega
        have hjI : (j0 : Int) < (l.length : Int) := by omega
        generalize U x.val = a at *
        generalize U j0 = b at *
        generalize x.val = xv at *
        have hne1 : ¬ w1.heap.size = w.heap.size := by omega
        have hne2 : ¬ w.heap.size = w1.heap.size := by omega
        have hmx : Try.prog.follows .mixedOrders = true := by kernel_rfl
        have u4n : ∀ v, (wr.setCell ⟨w.heap.size, xv, none⟩ v).cell? ⟨w1.heap.size, 0, none⟩ = some (.slice (some ⟨w.heap.size, 0, none⟩) l.length l.length) := fun v => (World.cell?_setCell_other wr _ _ v (fun e => by injection e with e1; omega)).trans u4
        have u4H := Lib.hid u4n
        have u8n : Hid (∀ v, (wr.setCell ⟨w.heap.size, xv, none⟩ v).heap[w1.heap.size + 1]? = W.heap[w1.heap.size + 1]?) := fun v => (Below.heap_setCell wr ⟨w.heap.size, xv, none⟩ v _ (by show w1.heap.size + 1 ≠ w.heap.size; omega)).trans u8
        clear u4n u8
        rcases Nat.lt_or_ge a b with hab | hab
        · rw [Nat.max_eq_right (by omega)] at hRn hLn
          gi_wp2
          refine wpIn_round_tail 12 (fun _ => trivial) hmx (by kernel_rfl) (by kernel_rfl) ?_
          simp only [List.take_succ_cons, List.take_zero, List.drop_succ_cons, List.drop_zero]
          repeat still_step
          refine wpStill_nil ?_
          go_wp2_with fail
          gi_wp2
          go_roundw
          case rel => exact ⟨q + 1, by omega, by go_num, U1, hRn.heap rfl, u2n.out, u3n.out, u4H.out _, hLn.heap rfl, (u6.trans (KeepsOthers.setCell _ _ _)).trans (KeepsOthers.drew _), (u7.setCell (p := ⟨w.heap.size, xv, none⟩) (Nat.le_refl _) _).drew, u8n.out _⟩
          case measure => simp [intOf]; omega
        · rw [Nat.max_eq_left (by omega)] at hRn hLn
          gi_wp2
          refine wpIn_round_tail 12 (fun _ => trivial) hmx (by kernel_rfl) (by kernel_rfl) ?_
          simp only [List.take_succ_cons, List.take_zero, List.drop_succ_cons, List.drop_zero]
          repeat still_step
          refine wpStill_nil ?_
          go_wp2_with fail
          gi_wp2
          go_roundw
          case rel => exact ⟨q + 1, by omega, by go_num, U1, hRn.heap rfl, u2n.out, u3n.out, u4H.out _, hLn.heap rfl, (u6.trans (KeepsOthers.setCell _ _ _)).trans (KeepsOthers.drew _), (u7.setCell (p := ⟨w.heap.size, xv, none⟩) (Nat.le_refl _) _).drew, u8n.out _⟩
          case measure => simp [intOf]; omega
      · have hql' : q = (fol l x.val).length := by omega
        subst hql'
        have x1 := NatRow.at_ u1 hxc
        have xf := Row.frozen u1 x.val
        have t1 := u2 x.val hxc
        have hRn := NatRow.put u1 x.val (U x.val + 1)
        have hLn := u5.far (p := ⟨w.heap.size, x.val, none⟩) (show T ≠ w.heap.size by omega) hoff.out (.int .i64 ((U x.val + 1 : Nat) : Int))
        have u2n : Hid (∀ j, j < l.length → upd U x.val (U x.val + 1) j ≤ (pre ++ [x]).length) := fun j hj => by
          rw [List.length_append, List.length_singleton]
          by_cases e : j = x.val
          · rw [e, upd_same]; omega
          · rw [upd_other U _ e]; have := u2 j hj; omega
        have u3n : Hid (pre ++ [x] = downs l.length (pre ++ [x]).length → Done (fun i j => Nxt l j i) l.length (pre ++ [x]).length (fun j => l.length ≤ j + (pre ++ [x]).length ∧ j < l.length) (upd U x.val (U x.val + 1))) := fun hh => by
          rw [List.length_append, List.length_singleton] at hh ⊢
          have hg : good := by rw [hgood.out]; exact hh
          obtain ⟨e1, e2⟩ := hg1.out hg
          exact (u3 hg).done (fun i j hj hij => by have := hij.lt; omega) (by omega) (fun i hi => by rw [List.take_length, fol_mem]; exact hi) (fun i hi => by have := hi.lt; omega) (fun j => by omega)
        have u4n : Hid (∀ v, (wr.setCell ⟨w.heap.size, x.val, none⟩ v).cell? ⟨w1.heap.size, 0, none⟩ = some (.slice (some ⟨w.heap.size, 0, none⟩) l.length l.length)) := fun v => (World.cell?_setCell_other wr _ _ v (fun e => by injection e with e1; omega)).trans u4
        have u8n : Hid (∀ v, (wr.setCell ⟨w.heap.size, x.val, none⟩ v).heap[w1.heap.size + 1]? = W.heap[w1.heap.size + 1]?) := fun v => (Below.heap_setCell wr ⟨w.heap.size, x.val, none⟩ v _ (by show w1.heap.size + 1 ≠ w.heap.size; omega)).trans u8
        have hcast : ((U x.val + 1 : Nat) : Int) = (U x.val : Int) + 1 := by omega
        rw [hcast] at hRn hLn
        clear hcast u1 u2 u3 u5 u8
        generalize upd U x.val (U x.val + 1) = U1 at *
        have hxI : (x.val : Int) < (l.length : Int) := by omega
        generalize U x.val = a at *
        gi_wp2
        exact ⟨u6.trans (KeepsOthers.setCell _ _ _), ⟨u7.setCell (p := ⟨w.heap.size, x.val, none⟩) (Nat.le_refl _) _, u8n.out _⟩, ⟨U1, hRn, u2n.out, u3n.out, u4n.out _, hLn⟩, (hB.trans u7).setCell (p := ⟨w.heap.size, x.val, none⟩) (Nat.le_refl _) _⟩
  case done =>
    rintro D ys W hD rfl ⟨⟨A, a1, a2, a3, a4, a5⟩, hB⟩ hK
    gi_wp2
    refine ⟨by simp, .inl ⟨_, _, rfl, run_takeDeferred hK, ?_⟩⟩
    have hab : ∀ r, some D = some r → ∃ o : Obj, W.heap[r]? = some o ∧ o.isCells = false := fun r e => by cases e; exact ⟨_, hK, rfl⟩
    rw [downs_len] at a2 a3
    exact ⟨_, results_tmp rfl _ _ _, A, rfl, row_abides a1 (grownBy_putObj' _ D (.deferred none)) hab, rem_rank hs (a3 rfl) (fun j hj => ⟨by omega, hj⟩), a2, hB.trans (belowK_b (w := w) (Nat.le_refl _) W D _ _ (by have := hB0.size; omega) hK rfl rfl)⟩
  case stop =>
    rintro D c pre W _ _ h _
    exact h.elim

#print axioms remaining_in
end Go.Proofs.Ytiokfehckhbnaaa
