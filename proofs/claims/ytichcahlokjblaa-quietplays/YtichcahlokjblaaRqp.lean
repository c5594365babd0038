/-
  Words for the contract of beaconryref.Quiet: its start, its receipts, its sums.
-/
import Derived.Test.YtichcahlokjblaaDse
import Derived.Test.YtichcahlokjblaaEnds
import Derived.Test.YtichcahlokjblaaQpl
import Derived.Deep.CutRange
import Derived.Deep.AppendLies
import Derived.Laws.ResultCell
import Derived.Laws.EntriesVeiled
namespace Go.Proofs.Ytichcahlokjblaa
open Go.RowKit Go.Maps
set_option linter.unusedVariables false

theorem infoBl : (Try.prog.info? 4).map (fun i => (i.zero, i.size, i.bytes)) = some (some (.bool false), 1, 1) := by kernel_rfl
def R0 : List Value := [.bool false, .int .u32 0, .int .i64 0]
/-- The start: where all lies. -/
theorem rfq_start {w2 : World} {B n bn br W : Nat} (h1 : Row w2 bn 3 [.int .i64 (n : Int)]) (h2 : Row w2 br 26 [.slice none 0 0, .bool false, .int .u32 0, .int .i64 0]) (h3 : BRowD w2 W n (fun _ => false)) (l1 : B ≤ bn) (l2 : B ≤ br) (l3 : B ≤ W) :
    RfQ ((((((w2.alloc (.cells #[.slice (some ⟨W, 0, none⟩) n n] 44)).setCell ⟨W, 0, none⟩ (.bool true)).alloc (.cells #[.slice none 0 0] 45)).alloc (.cells #[.func (.func 16) #[] #[.pointer (some ⟨w2.heap.size + 1, 0, none⟩)]] 48)).alloc (.cells #[.func (.func 17) #[] #[.pointer (some ⟨w2.heap.size + 1, 0, none⟩)]] 48)).alloc (.cells #[.slice none 0 0, .bool false, .int .u32 0, .int .i64 0] 26)) B n
      ⟨bn, br, w2.heap.size, W, w2.heap.size + 1, w2.heap.size + 1 + 1, w2.heap.size + 1 + 1 + 1, w2.heap.size + 1 + 1 + 1 + 1⟩ QS.begin.act (.slice none 0 0) [] (.slice none 0 0) [] R0 := by
  have hW := Row.lt h3
  have hbn := h1.lt
  have hbr := h2.lt
  have a1 := Row.made w2 44 [.slice (some ⟨W, 0, none⟩) n n]
  have a2 := h1.alloc (.cells #[.slice (some ⟨W, 0, none⟩) n n] 44)
  have a3 := h2.alloc (.cells #[.slice (some ⟨W, 0, none⟩) n n] 44)
  have a4 := Row.alloc h3 (.cells #[.slice (some ⟨W, 0, none⟩) n n] 44)
  have hz1 : (w2.alloc (.cells #[.slice (some ⟨W, 0, none⟩) n n] 44)).heap.size = w2.heap.size + 1 := by simp
  generalize w2.alloc (.cells #[.slice (some ⟨W, 0, none⟩) n n] 44) = w3 at *
  have hne : ∀ g, g ≠ W → (w3.setCell ⟨W, 0, none⟩ (.bool true)).heap[g]? = w3.heap[g]? := fun g hg => Below.heap_setCell w3 ⟨W, 0, none⟩ _ g hg
  have b1 := a1.block (hne _ (rowD_ne a1 a4 (by decide)))
  have b2 := a2.block (hne _ (rowD_ne a2 a4 (by decide)))
  have b3 := a3.block (hne _ (rowD_ne a3 a4 (by decide)))
  have b4 := BRowD.put a4 0 true
  have hz2 : (w3.setCell ⟨W, 0, none⟩ (.bool true)).heap.size = w2.heap.size + 1 := by simp; exact hz1
  generalize w3.setCell ⟨W, 0, none⟩ (.bool true) = w4 at *
  have c5 := Row.made w4 45 [.slice none 0 0]
  have c1 := b1.alloc (.cells #[.slice none 0 0] 45)
  have c2 := b2.alloc (.cells #[.slice none 0 0] 45)
  have c3 := b3.alloc (.cells #[.slice none 0 0] 45)
  have c4 := Row.alloc b4 (.cells #[.slice none 0 0] 45)
  have hz3 : (w4.alloc (.cells #[.slice none 0 0] 45)).heap.size = w2.heap.size + 1 + 1 := by simp; exact hz2
  rw [hz2] at c5
  generalize w4.alloc (.cells #[.slice none 0 0] 45) = w5 at *
  have d6 := Row.made w5 48 [owedF (w2.heap.size + 1)]
  have d1 := c1.alloc (.cells #[owedF (w2.heap.size + 1)] 48)
  have d2 := c2.alloc (.cells #[owedF (w2.heap.size + 1)] 48)
  have d3 := c3.alloc (.cells #[owedF (w2.heap.size + 1)] 48)
  have d4 := Row.alloc c4 (.cells #[owedF (w2.heap.size + 1)] 48)
  have d5 := c5.alloc (.cells #[owedF (w2.heap.size + 1)] 48)
  have hz4 : (w5.alloc (.cells #[owedF (w2.heap.size + 1)] 48)).heap.size = w2.heap.size + 1 + 1 + 1 := by simp; exact hz3
  rw [hz3] at d6
  have hw6 : w5.alloc (.cells #[.func (.func 16) #[] #[.pointer (some ⟨w2.heap.size + 1, 0, none⟩)]] 48) = w5.alloc (.cells #[owedF (w2.heap.size + 1)] 48) := rfl
  rw [hw6]
  generalize w5.alloc (.cells #[owedF (w2.heap.size + 1)] 48) = w6 at *
  have e7 := Row.made w6 48 [boundF (w2.heap.size + 1)]
  have e1 := d1.alloc (.cells #[boundF (w2.heap.size + 1)] 48)
  have e2 := d2.alloc (.cells #[boundF (w2.heap.size + 1)] 48)
  have e3 := d3.alloc (.cells #[boundF (w2.heap.size + 1)] 48)
  have e4 := Row.alloc d4 (.cells #[boundF (w2.heap.size + 1)] 48)
  have e5 := d5.alloc (.cells #[boundF (w2.heap.size + 1)] 48)
  have e6 := d6.alloc (.cells #[boundF (w2.heap.size + 1)] 48)
  have hz5 : (w6.alloc (.cells #[boundF (w2.heap.size + 1)] 48)).heap.size = w2.heap.size + 1 + 1 + 1 + 1 := by simp; exact hz4
  rw [hz4] at e7
  have hw7 : w6.alloc (.cells #[.func (.func 17) #[] #[.pointer (some ⟨w2.heap.size + 1, 0, none⟩)]] 48) = w6.alloc (.cells #[boundF (w2.heap.size + 1)] 48) := rfl
  rw [hw7]
  generalize w6.alloc (.cells #[boundF (w2.heap.size + 1)] 48) = w7 at *
  have f8 := Row.made w7 26 [.slice none 0 0, .bool false, .int .u32 0, .int .i64 0]
  rw [hz5] at f8
  exact ⟨e2.alloc _, e3.alloc _, e1.alloc _, BRowD.congr (Row.alloc e4 _) (fun j _ => by
    show up1 (fun _ => false) 0 true j = decide (j = 0)
    by_cases e : j = 0
    · rw [e, up1_same]; rfl
    · rw [up1_other _ _ e]; simp [e]), e5.alloc _, ⟨rfl, .inl ⟨rfl, rfl⟩⟩, e6.alloc _, e7.alloc _, f8, ⟨rfl, .inl ⟨rfl, rfl⟩⟩, by show br ≠ w2.heap.size + 1 + 1 + 1 + 1; omega, l1, l2, by show B ≤ w2.heap.size; omega, l3, by show B ≤ w2.heap.size + 1; omega, by show B ≤ w2.heap.size + 1 + 1; omega, by show B ≤ w2.heap.size + 1 + 1 + 1; omega, by show B ≤ w2.heap.size + 1 + 1 + 1 + 1; omega⟩
theorem below_start {w w2 : World} {B n W : Nat} (h : Below B w w2) (hB : B ≤ w2.heap.size) (hW : B ≤ W) (v1 v2 : Value) :
    Below B w ((((((w2.alloc (.cells #[.slice (some ⟨W, 0, none⟩) n n] 44)).setCell ⟨W, 0, none⟩ (.bool true)).alloc (.cells #[.slice none 0 0] 45)).alloc (.cells #[v1] 48)).alloc (.cells #[v2] 48)).alloc (.cells #[.slice none 0 0, .bool false, .int .u32 0, .int .i64 0] 26)) :=
  (((((h.alloc hB _).setCell (p := ⟨W, 0, none⟩) hW _).alloc (by simp; omega) _).alloc (by simp; omega) _).alloc (by simp; omega) _).alloc (by simp; omega) _

/-- The codes of the first k moves. -/
def codesQ (n : Nat) (l : List Mv) (k : Nat) : List Int := (List.range k).map (codeQ n l)
theorem codesQ_succ (n : Nat) (l : List Mv) (k : Nat) : codesQ n l (k + 1) = codesQ n l k ++ [codeQ n l k] := by simp [codesQ, List.range_succ]
theorem codesQ_len (n : Nat) (l : List Mv) (k : Nat) : (codesQ n l k).length = k := by simp [codesQ]
/-- Behind k moves. -/
def RqRel (w : World) (B n : Nat) (b : QB) (l : List Mv) (k : Nat) (wr : World) : Prop :=
  ∃ va L vc, RfQ wr B n b (qAt n l k).act va L vc (codesQ n l k) R0 ∧ RelM n (qAt n l k) L ∧ L.length ≤ k ∧ Below B w wr
/-- What Quiet returns. -/
def RquRes (w : World) (n : Nat) (l : List Mv) (e : Ending) (w' : World) : Prop :=
  ∃ A cap, e = .returned (.agg #[.slice A l.length cap, .bool (doneB n (qAt n l l.length)), .int .u32 (wordB n (qAt n l l.length).act : Int), .int .i64 (wayS n (qAt n l l.length))]) ∧
    OwnK w' w.heap.size (.slice A l.length cap) (codesQ n l l.length) ∧ Below w.heap.size w w'
/-- Behind the branches of a move: its code. -/
def RqCut (w : World) (B n : Nat) (b : QB) (l : List Mv) (k : Nat) (e : Value) (wr : World) : Prop :=
  ∃ va L vc, e = .int .i64 (codeQ n l k) ∧ RfQ wr B n b (qAt n l (k + 1)).act va L vc (codesQ n l k) R0 ∧ RelM n (qAt n l (k + 1)) L ∧ L.length ≤ k + 1 ∧ Below B w wr
theorem RqCut.of {w wr : World} {B n : Nat} {b : QB} {l : List Mv} {k : Nat} {T : QS} {c : Int} {va : Value} {L : List Ml} {vc : Value} (hst : qAt n l (k + 1) = T) (hcd : codeQ n l k = c) (hM : RfQ wr B n b T.act va L vc (codesQ n l k) R0) (hR : RelM n T L) (hl : L.length ≤ k + 1) (hB : Below B w wr) : RqCut w B n b l k (.int .i64 c) wr :=
  ⟨va, L, vc, by rw [hcd], by rw [hst]; exact hM, by rw [hst]; exact hR, hl, hB⟩
/-- In a receipt: the first message, and what becomes of it. -/
theorem first_way (L : List Ml) (i j : Nat) : (∃ k, k < L.length ∧ wayB i j (ml L k) = true ∧ ∀ m, m < k → wayB i j (ml L m) = false) ∨ ∀ m, m < L.length → wayB i j (ml L m) = false := first_of (fun k => wayB i j (ml L k)) L.length
theorem tr_none {n : Nat} {S : QS} {L : List Ml} (h : RelM n S L) {i j : Nat} (hn : ∀ m, m < L.length → wayB i j (ml L m) = false) : S.tr i j = 0 := by
  rw [h.tr]
  by_cases e : L.countP (wayB i j) = 0
  · exact e
  · obtain ⟨k, hk, hp⟩ := countP_some e
    rw [hn k hk] at hp; cases hp
/-- Of which state it is when o of the others have been looked at. -/
def Tk3 (S : QS) (L : List Ml) (k0 t o x : Nat) : Prop := (x = 1 ∨ x = 2) ∧ (x = 2 → t = 0 ∨ S.eng t = true) ∧ (x = 1 → t ≠ 0 ∧ ∀ o', o' < o → o' ≠ k0 → engB t (ml L o') = false)
theorem Tk3.start2 {S : QS} {L : List Ml} {k0 t : Nat} (h : t = 0 ∨ S.eng t = true) : Tk3 S L k0 t 0 2 := ⟨.inr rfl, fun _ => h, fun h => (by cases h)⟩
theorem Tk3.start1 {S : QS} {L : List Ml} {k0 t : Nat} (h : t ≠ 0) : Tk3 S L k0 t 0 1 := ⟨.inl rfl, fun h => (by cases h), fun _ => ⟨h, fun _ h => absurd h (by omega)⟩⟩
theorem Tk3.skip {S : QS} {L : List Ml} {k0 t o x : Nat} (h : Tk3 S L k0 t o x) (ho : o ≠ k0 → engB t (ml L o) = false) : Tk3 S L k0 t (o + 1) x := ⟨h.1, h.2.1, fun hx => ⟨(h.2.2 hx).1, fun o' h1 h2 => by
  by_cases e : o' = o
  · rw [e]; exact ho (by rw [← e]; exact h2)
  · exact (h.2.2 hx).2 o' (by omega) h2⟩⟩
theorem Tk3.hit {n : Nat} {S : QS} {L : List Ml} {k0 t o : Nat} (hR : RelM n S L) (ho : o < L.length) (he : engB t (ml L o) = true) : Tk3 S L k0 t (o + 1) 2 := by
  obtain ⟨h1, h2⟩ := (engB_iff _ _).1 he
  have := (hR.one o ho h2).2.1
  rw [h1] at this
  exact ⟨.inr rfl, fun _ => .inr this, fun h => (by cases h)⟩
/-- What a receipt comes to, by the messages. -/
theorem Tk3.done {n : Nat} {S : QS} {L : List Ml} {k0 i t x : Nat} (h : Tk3 S L k0 t L.length x) (hR : RelM n S L) (hO : QOk n S) (hk : k0 < L.length) (hw : wayB i t (ml L k0) = true) :
    ∃ S' dep, S'.act = up1 S.act t true ∧ RelM n S' (setS L k0 x) ∧ RelTo n dep S' (S.take n i t) ∧ (∀ j, S'.eng j = true → j < n) := by
  obtain ⟨hx, h2, h1⟩ := h
  have ht : S.tr i t ≠ 0 := by
    rw [hR.tr]
    exact countP_of hk hw
  have hO' := hO
  obtain ⟨dep, hI, hS⟩ := hO'
  by_cases e : S.eng t = true
  · have hx2 : x = 2 := by
      rcases hx with hx | hx
      · obtain ⟨h3, h4⟩ := h1 hx
        obtain ⟨o, ho, h5, h6⟩ := hR.has t h3 e
        have hne : o ≠ k0 := fun e2 => by
          have := ((wayB_iff _ _ _).1 hw).2.2
          rw [← e2, h6] at this; cases this
        have := h4 o ho hne
        rw [(engB_iff _ _).2 ⟨h5, h6⟩] at this; cases this
      · exact hx
    subst hx2
    obtain ⟨d, hd⟩ := got_rel hO ht e
    have hres : S.take n i t = rel n (n + 1) (S.got i t) i := by unfold QS.take; rw [if_pos e]
    exact ⟨S.got i t, d, rfl, hR.got hk hw, by rw [hres]; exact hd, hI.engL⟩
  · have ef : S.eng t = false := by simpa using e
    have h0 : t ≠ 0 := fun h => by rw [h, hI.e0] at ef; cases ef
    have hx1 : x = 1 := by
      rcases hx with hx | hx
      · exact hx
      · rcases h2 hx with h3 | h3
        · exact absurd h3 h0
        · exact absurd h3 e
    subst hx1
    have hres : S.take n i t = (S.got i t).bind i t := by unfold QS.take; rw [if_neg e]
    obtain ⟨d, hI2, hS2⟩ := hO.bind ht ef
    exact ⟨(S.got i t).bind i t, d, rfl, hR.bind hk hw h0 ef, by rw [hres]; exact RelTo.refl hI2 hS2, hI2.engL⟩
/-- How many are on the way in all. -/
theorem sumP_add (n : Nat) (f g : Nat → Nat → Int) : sumP n (fun i j => f i j + g i j) = sumP n f + sumP n g := by
  unfold sumP
  rw [← sumN_add]
  exact sumN_congr fun i _ => sumN_add n (f i) (g i)
theorem sumP_one {n : Nat} (m : Ml) (h1 : m.f < n) (h2 : m.t < n) : sumP n (fun i j => if wayB i j m = true then 1 else 0) = if m.s = 0 then 1 else 0 := by
  have hz : sumP n (fun _ _ => 0) = 0 := (sumP_zero fun _ _ _ _ => Int.le_refl _).2 fun _ _ _ _ => rfl
  by_cases e : m.s = 0
  · rw [if_pos e, sumP_at h1 h2 (f := fun _ _ => 0) (g := fun i j => if wayB i j m = true then 1 else 0) (fun i j hij => by
      rw [if_neg]
      intro hw
      have := (wayB_iff _ _ _).1 hw
      exact hij ⟨this.1.symm, this.2.1.symm⟩), hz, if_pos ((wayB_iff _ _ _).2 ⟨rfl, rfl, e⟩)]
    rfl
  · rw [if_neg e]
    exact (sumP_congr (f := fun _ _ => 0) (g := fun i j => if wayB i j m = true then 1 else 0) fun i j _ _ => by rw [if_neg (fun hw => e ((wayB_iff _ _ _).1 hw).2.2)]).trans hz
def onWay (m : Ml) : Bool := decide (m.s = 0)
theorem sumP_way {n : Nat} : ∀ L : List Ml, (∀ m ∈ L, m.f < n ∧ m.t < n) → sumP n (fun i j => (L.countP (wayB i j) : Int)) = (L.countP onWay : Int)
  | [], _ => (sumP_zero fun _ _ _ _ => Int.le_refl _).2 fun _ _ _ _ => rfl
  | m :: r, h => by
    have ih := sumP_way r fun x hx => h x (List.mem_cons_of_mem _ hx)
    have hm := h m (by simp)
    have e : sumP n (fun i j => ((m :: r).countP (wayB i j) : Int)) = sumP n (fun i j => (r.countP (wayB i j) : Int) + if wayB i j m = true then 1 else 0) := sumP_congr fun i j _ _ => by
      rw [List.countP_cons]
      split <;> simp
    rw [e, sumP_add, ih, sumP_one m hm.1 hm.2, List.countP_cons]
    unfold onWay
    by_cases e2 : m.s = 0 <;> simp [e2]
theorem RelM.wayN {n : Nat} {S : QS} {L : List Ml} (h : RelM n S L) : wayS n S = (L.countP onWay : Int) := by
  rw [← sumP_way L fun m hm => by
    obtain ⟨k, hk, rfl⟩ := List.getElem_of_mem hm
    have := h.lt k hk
    rw [← ml_get L hk] at this
    exact ⟨this.1, this.2.1⟩]
  exact sumP_congr fun i j _ _ => by rw [h.tr]
theorem way_take (L : List Ml) {k : Nat} (hk : k < L.length) : (L.take (k + 1)).countP onWay = (L.take k).countP onWay + if (ml L k).s = 0 then 1 else 0 := by
  rw [List.take_add_one, List.getElem?_eq_getElem hk, List.countP_append, ml_get L hk]
  simp [List.countP_cons, onWay]
theorem RelM.doneM {n : Nat} {S : QS} {L : List Ml} (h : RelM n S L) : doneB n S = (!S.act 0 && decide (owed L 0 = 0)) := by
  unfold doneB
  congr 1
  rw [Bool.eq_iff_iff, decide_eq_true_iff, decide_eq_true_iff]
  exact (h.owed0 0).symm
theorem results_cellQ {fn : Func} {p : Tmp} {ty : TypeId} (h : fn.results = #[.cell p ty]) (tmps : Array Value) (P : Program) (w : World) :
    (results fn tmps).run P w = ((asAddr (tmps.getD p undef)).run P w).andThen fun a w₁ => (loadVar ty a).run P w₁ := by
  simp only [results, h]
  simp [Sem.run_bind, Result.andThen]
/-- At the end: the word, the sum. -/
def RqW (w : World) (B n : Nat) (b : QB) (S : QS) (va : Value) (L : List Ml) (vc : Value) (cs : List Int) (x : Nat) (y : Int) (wr : World) : Prop :=
  RfQ wr B n b S.act va L vc cs [.bool false, .int .u32 (x : Int), .int .i64 y] ∧ Below B w wr
theorem add_word {V i : Nat} (hV : V < 64) (hi : i < 6) : ((V : Int) + 2 ^ i % 4294967296) % 4294967296 = ((V + 2 ^ i : Nat) : Int) := by
  rw [pow_mod i (by omega)]
  have h : (2 : Nat) ^ i ≤ 2 ^ 6 := Nat.pow_le_pow_right (by omega) (by omega)
  generalize (2 : Nat) ^ i = y at *
  omega
/-- In a receipt: the message is of state x, the move is at bm. -/
structure TfR (w wr : World) (B n : Nat) (b : QB) (act : Nat → Bool) (va : Value) (L : List Ml) (k0 x : Nat) (vc : Value) (cs : List Int) (bm : Nat) (mv : List Value) : Prop where
  rfq : RfQ wr B n b act va (setS L k0 x) vc cs R0
  row : Row wr bm 39 mv
  bel : Below B w wr
section
variable {w wr w' : World} {B n : Nat} {b : QB} {act : Nat → Bool} {va : Value} {L : List Ml} {k0 x : Nat} {vc : Value} {cs : List Int} {bm : Nat} {mv : List Value}
theorem TfR.below (h : TfR w wr B n b act va L k0 x vc cs bm mv) (hb : Below wr.heap.size wr w') : TfR w w' B n b act va L k0 x vc cs bm mv := ⟨h.rfq.below hb, h.row.below hb h.row.lt, h.bel.trans (hb.mono h.rfq.sz)⟩
theorem TfR.drewN (h : TfR w wr B n b act va L k0 x vc cs bm mv) (k : Nat) : TfR w (wr.drewN k) B n b act va L k0 x vc cs bm mv := ⟨h.rfq.drewN k, h.row.block rfl, below_drewN h.bel k⟩
theorem TfR.setM {g cap : Nat} (h : TfR w wr B n b act (.slice (some ⟨g, 0, none⟩) L.length cap) L k0 x vc cs bm mv) (hk : k0 < L.length) (y : Nat) : TfR w (wr.setCell ⟨g, k0 * 3 + 2, none⟩ (.int .i64 (y : Int))) B n b act (.slice (some ⟨g, 0, none⟩) L.length cap) L k0 y vc cs bm mv := by
  have hr := h.rfq
  have e : RfQ wr B n b act (.slice (some ⟨g, 0, none⟩) (setS L k0 x).length cap) (setS L k0 x) vc cs R0 := by rw [setS_len]; exact hr
  have h1 := e.setM (k := k0) (by rw [setS_len]; exact hk) y
  rw [setS_twice, setS_len] at h1
  have hne : bm ≠ g := fun e2 => owns_ne_row e.oa h.row (by decide) (by rw [e2]; rfl)
  exact ⟨h1, h.row.far (p := ⟨g, k0 * 3 + 2, none⟩) hne _, h.bel.setCell (p := ⟨g, k0 * 3 + 2, none⟩) e.mail.1 _⟩
/-- What is read of the messages then. -/
theorem TfR.at_ {A9 : Option Addr} {cap : Nat} (h : TfR w wr B n b act (.slice A9 L.length cap) L k0 x vc cs bm mv) {o : Nat} (ho : o < L.length) : ∃ g, A9 = some ⟨g, 0, none⟩ ∧ wr.cell? ⟨g, o * 3, none⟩ = some (.int .i64 ((ml L o).f : Int)) ∧ wr.cell? ⟨g, o * 3 + 1, none⟩ = some (.int .i64 ((ml L o).t : Int)) ∧ (o ≠ k0 → wr.cell? ⟨g, o * 3 + 2, none⟩ = some (.int .i64 ((ml L o).s : Int))) ∧ (wr.cell? ⟨g, o * 3 + 2, none⟩).isSome = true ∧ wr.frozen? ⟨g, o * 3 + 2, none⟩ = false := by
  obtain ⟨A', cap', hv, _, _, hA⟩ := h.rfq.oa.shape
  rw [setS_len] at hv
  injection hv with e1 _ _
  obtain ⟨g, hg, _, h3, h4, h5, h6⟩ := hA o (by rw [setS_len]; exact ho)
  refine ⟨g, e1.trans hg, ?_, ?_, fun hne => ?_, by rw [h5]; rfl, h6⟩
  · by_cases e : o = k0
    · subst e; rw [setS_same ho] at h3; exact h3
    · rw [setS_other _ e] at h3; exact h3
  · by_cases e : o = k0
    · subst e; rw [setS_same ho] at h4; exact h4
    · rw [setS_other _ e] at h4; exact h4
  · rw [setS_other _ hne] at h5; exact h5
end
/-- The test behind a receipt: is it answered at once? -/
theorem bnd_test {n : Nat} {S : QS} {L : List Ml} (h : RelM n S L) {k0 i j : Nat} (hk : k0 < L.length) (hw : wayB i j (ml L k0) = true) {r : Int} (hr : IsBnd (setS L k0 1) j r) : 0 ≤ r ∧ (r ≠ (k0 : Int) → S.eng j = true) := by
  obtain ⟨h1, h2, h3⟩ := (wayB_iff _ _ _).1 hw
  rcases hr with ⟨k, h4, h5, h6, _⟩ | ⟨_, h4⟩
  · refine ⟨by omega, fun hne => ?_⟩
    have hkk : k ≠ k0 := fun e => hne (by rw [h4, e])
    rw [setS_other _ hkk] at h6
    obtain ⟨h7, h8⟩ := (engB_iff _ _).1 h6
    rw [setS_len] at h5
    have := (h.one k h5 h8).2.1
    rw [h7] at this; exact this
  · have := h4 k0 (by rw [setS_len]; exact hk)
    rw [setS_same hk] at this
    have h9 : engB j ⟨(ml L k0).f, (ml L k0).t, 1⟩ = true := (engB_iff _ _).2 ⟨h2, rfl⟩
    rw [h9] at this; cases this
def TfCut (w : World) (n : Nat) (b : QB) (S : QS) (va : Value) (L : List Ml) (k0 j : Nat) (vc : Value) (cs : List Int) (bm : Nat) (mv : List Value) (c : Value) (wx : World) : Prop :=
  ∃ cb : Bool, c = .bool cb ∧ (cb = true → j = 0 ∨ S.eng j = true) ∧ (cb = false → j ≠ 0) ∧ TfR w wx b.bn n b S.act va L k0 1 vc cs bm mv
def TfO (w : World) (n : Nat) (b : QB) (S : QS) (va : Value) (L : List Ml) (k0 j : Nat) (vc : Value) (cs : List Int) (bm : Nat) (mv : List Value) (o : Nat) (wx : World) : Prop :=
  ∃ x, Tk3 S L k0 j o x ∧ TfR w wx b.bn n b S.act va L k0 x vc cs bm mv
#print axioms RelM.doneM
end Go.Proofs.Ytichcahlokjblaa
