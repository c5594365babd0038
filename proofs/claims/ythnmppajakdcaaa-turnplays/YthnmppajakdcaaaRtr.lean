/-
  How what beaconryref.Turn holds follows the state: the relation, its steps; the start.
-/
import Derived.Test.YthnmppajakdcaaaRtp
import Derived.Test.YthnmppajakdcaaaTpl
import Derived.Test.YthnmppajakdcaaaTrf
namespace Go.Proofs.Ythnmppajakdcaaa
open Go.RowKit Go.Maps
set_option linter.unusedVariables false

def askT (S : TS) (i : Nat) : Int := if S.req i = true then S.num i else 0
theorem askT_pos {n : Nat} {S : TS} (h : TInv n S) (i : Nat) : 0 < askT S i ↔ S.req i = true := by
  unfold askT
  by_cases e : S.req i = true
  · rw [if_pos e]; exact ⟨fun _ => e, fun _ => h.num0 i (.inl e)⟩
  · rw [if_neg e]; exact ⟨fun h => absurd h (by omega), fun h => absurd h e⟩
/-- The letters follow the channels. -/
structure RelL (n : Nat) (q : Nat → Nat → List Int) (L : List Lt) : Prop where
  lq : ∀ i j, i < n → j < n → i ≠ j → q i j = vals L (i : Int) (j : Int)
  low : ∀ x ∈ L, ∃ i j : Nat, i < n ∧ j < n ∧ i ≠ j ∧ x.f = (i : Int) ∧ x.t = (j : Int)
/-- The lists follow who has replied, and who owes a reply. -/
structure RelF (n : Nat) (S : TS) (f : Nat → List Int) : Prop where
  hav : ∀ i, i < n → S.req i = true → ((f i).length : Int) = (n : Int) - 1 - S.mis i
  own : ∀ i j, i < n → j < n → ((j : Int) ∈ f (n + i) ↔ S.owe i j = true)
section
variable {n : Nat} {S : TS} {q : Nat → Nat → List Int} {L : List Lt} {f : Nat → List Int}
theorem RelL.begin (n : Nat) : RelL n (fun _ _ => []) [] := ⟨fun _ _ _ _ _ => rfl, fun _ h => (by cases h)⟩
theorem RelL.put (h : RelL n q L) {i j : Nat} (hi : i < n) (hj : j < n) (hne : i ≠ j) (x : Int) : RelL n (up2 q i j (q i j ++ [x])) (L ++ [⟨(i : Int), (j : Int), x⟩]) := by
  refine ⟨fun a b ha hb hab => ?_, fun y hy => ?_⟩
  · rw [vals_append, vals_one, ← h.lq a b ha hb hab]
    by_cases e : a = i ∧ b = j
    · obtain ⟨rfl, rfl⟩ := e
      rw [up2_same, if_pos ⟨rfl, rfl⟩]
    · rw [up2_other _ _ e, if_neg (by omega)]
      simp
  · rcases List.mem_append.1 hy with h1 | h1
    · exact h.low y h1
    · rw [List.mem_singleton.1 h1]; exact ⟨i, j, hi, hj, hne, rfl, rfl⟩
theorem RelL.same {q' : Nat → Nat → List Int} (h : RelL n q L) (e : q' = q) : RelL n q' L := by rw [e]; exact h
/-- The first one on a channel. -/
theorem RelL.none_ (h : RelL n q L) {i j : Nat} (hi : i < n) (hj : j < n) (hne : i ≠ j) (hf : ∀ k, k < L.length → ¬ isLt L (i : Int) (j : Int) k) : q i j = [] := by
  rw [h.lq i j hi hj hne]
  exact vals_none hf
theorem RelL.pop (h : RelL n q L) {i j k : Nat} (hi : i < n) (hj : j < n) (hne : i ≠ j) (hk : k < L.length) (hm : isLt L (i : Int) (j : Int) k) (hb : ∀ m, m < k → ¬ isLt L (i : Int) (j : Int) m) :
    (∃ r, q i j = (lt_ L k).v :: r) ∧ RelL n (up2 q i j (q i j).tail) (L.take k ++ L.drop (k + 1)) := by
  have hf := vals_first hk hm hb
  have h1 : q i j = (lt_ L k).v :: vals (L.take k ++ L.drop (k + 1)) (i : Int) (j : Int) := by rw [h.lq i j hi hj hne, hf, if_pos ⟨rfl, rfl⟩]
  refine ⟨⟨_, h1⟩, fun a b ha hb' hab => ?_, fun y hy => ?_⟩
  · by_cases e : a = i ∧ b = j
    · obtain ⟨rfl, rfl⟩ := e
      rw [up2_same, h1]; rfl
    · rw [up2_other _ _ e, h.lq a b ha hb' hab, hf, if_neg (by omega)]
  · refine h.low y ?_
    rcases List.mem_append.1 hy with h2 | h2
    · exact List.mem_of_mem_take h2
    · exact List.mem_of_mem_drop h2
/-- How many there are. -/
theorem RelL.len (h : RelL n q L) (hself : ∀ i, q i i = []) : (L.length : Int) = sum2 n fun i j => ((q i j).length : Int) := by
  have key : ∀ M : List Lt, (∀ x ∈ M, ∃ i j : Nat, i < n ∧ j < n ∧ i ≠ j ∧ x.f = (i : Int) ∧ x.t = (j : Int)) → (M.length : Int) = sum2 n fun i j => ((vals M (i : Int) (j : Int)).length : Int) := by
    intro M
    induction M with
    | nil =>
      intro _
      rw [sum2_congr (f := fun _ _ => 0) (g := fun i j => ((vals [] (i : Int) (j : Int)).length : Int)) (fun i j _ _ => rfl)]
      unfold sum2
      rw [sumN_congr (f := fun _ => 0) (fun i _ => by rw [sumN_const]; simp), sumN_const]; simp
    | cons x r ih =>
      intro hM
      obtain ⟨i, j, hi, hj, hne, e1, e2⟩ := hM x (by simp)
      have ih' := ih (fun y hy => hM y (List.mem_cons_of_mem _ hy))
      have hx : x = ⟨(i : Int), (j : Int), x.v⟩ := by cases x; simp_all
      have hv : ∀ a b : Nat, ((vals (x :: r) (a : Int) (b : Int)).length : Int) = ((vals r (a : Int) (b : Int)).length : Int) + if a = i ∧ b = j then 1 else 0 := fun a b => by
        rw [← List.singleton_append, vals_append, hx, vals_one]
        by_cases e : a = i ∧ b = j
        · rw [if_pos (by omega), if_pos e]; simp
        · rw [if_neg (by omega), if_neg e]; simp
      rw [sum2_congr (f := fun a b => ((vals r (a : Int) (b : Int)).length : Int) + if a = i ∧ b = j then 1 else 0) (fun a b _ _ => hv a b), sum2_add, ← ih',
        sum2_at hi hj (f := fun _ _ => 0) (g := fun a b => if a = i ∧ b = j then (1 : Int) else 0) (fun a b h => if_neg h), if_pos ⟨rfl, rfl⟩, List.length_cons]
      have hz : sum2 n (fun _ _ => (0 : Int)) = 0 := by
        unfold sum2
        rw [sumN_congr (f := fun _ => 0) (fun i _ => by rw [sumN_const]; simp), sumN_const]; simp
      rw [hz]
      omega
  rw [key L h.low]
  refine (sum2_congr fun i j hi hj => ?_).symm
  by_cases e : i = j
  · subst e
    rw [hself]
    have : vals L (i : Int) (i : Int) = [] := vals_none fun k hk hh => by
      obtain ⟨a, b, _, _, hne, e1, e2⟩ := h.low L[k] (List.getElem_mem hk)
      rw [lt_get L hk] at e1 e2
      have := hh.1
      have := hh.2
      omega
    rw [this]
  · rw [h.lq i j hi hj e]
theorem RelF.begin (n : Nat) : RelF n TS.begin (fun _ => []) := ⟨fun i _ h => (by cases h), fun i j _ _ => ⟨fun h => (by cases h), fun h => (by cases h)⟩⟩
theorem RelF.want (h : RelF n S f) {i : Nat} (hi : i < n) (x : Int) (m : Nat) : RelF n ((S.want n i).asks i x m) (up1 f i []) := by
  refine ⟨fun a ha hr => ?_, fun a b ha hb => ?_⟩
  · show ((up1 f i [] a).length : Int) = (n : Int) - 1 - up1 S.mis i ((n : Int) - 1) a
    by_cases e : a = i
    · rw [e, up1_same, up1_same]; simp
    · rw [up1_other _ _ e, up1_other _ _ e]
      have hr' : up1 S.req i true a = true := hr
      rw [up1_other _ _ e] at hr'
      exact h.hav a ha hr'
  · rw [up1_other _ _ (by omega)]
    exact h.own a b ha hb
theorem RelF.enter (h : RelF n S f) (i : Nat) : RelF n (S.enter i) f := by
  unfold TS.enter
  split
  · refine ⟨fun a ha hr => ?_, h.own⟩
    have hr' : up1 S.req i false a = true := hr
    by_cases e : a = i
    · rw [e, up1_same] at hr'; cases hr'
    · rw [up1_other _ _ e] at hr'
      exact h.hav a ha hr'
  · exact h
theorem RelF.leave (h : RelF n S f) {i : Nat} (hi : i < n) : RelF n (S.leave n i) (up1 f (n + i) []) := by
  refine ⟨fun a ha hr => ?_, fun a b ha hb => ?_⟩
  · rw [up1_other _ _ (by omega)]
    exact h.hav a ha hr
  · show (b : Int) ∈ up1 f (n + i) [] (n + a) ↔ (if a = i ∧ b < n then false else S.owe a b) = true
    by_cases e : a = i
    · rw [e, up1_same, if_pos ⟨rfl, hb⟩]; simp
    · rw [up1_other _ _ (by omega), if_neg (fun h => e h.1)]
      exact h.own a b ha hb
theorem RelF.reply (h : RelF n S f) {i j : Nat} (hj : j < n) (hr : S.req j = true) : RelF n ((S.pop i j).less j) (up1 f j (f j ++ [(i : Int)])) := by
  refine ⟨fun a ha hra => ?_, fun a b ha hb => ?_⟩
  · show ((up1 f j (f j ++ [(i : Int)]) a).length : Int) = (n : Int) - 1 - up1 S.mis j (S.mis j - 1) a
    by_cases e : a = j
    · rw [e, up1_same, up1_same, List.length_append]
      have := h.hav j hj hr
      simp
      omega
    · rw [up1_other _ _ e, up1_other _ _ e]
      exact h.hav a ha hra
  · rw [up1_other _ _ (by omega)]
    exact h.own a b ha hb
theorem RelF.defer (h : RelF n S f) {i j : Nat} (hi : i < n) (hj : j < n) (x : Int) : RelF n (((S.pop i j).hear j x).defer j i) (up1 f (n + j) (f (n + j) ++ [(i : Int)])) := by
  refine ⟨fun a ha hra => ?_, fun a b ha hb => ?_⟩
  · rw [up1_other _ _ (by omega)]
    exact h.hav a ha hra
  · show (b : Int) ∈ up1 f (n + j) (f (n + j) ++ [(i : Int)]) (n + a) ↔ up2 S.owe j i true a b = true
    by_cases e : a = j
    · subst e
      rw [up1_same, List.mem_append, List.mem_singleton, h.own a b ha hb]
      by_cases e2 : b = i
      · subst e2; rw [up2_same]; simp
      · rw [up2_other _ _ (fun h => e2 h.2)]
        constructor
        · rintro (h1 | h1)
          · exact h1
          · omega
        · exact fun h1 => .inl h1
    · rw [up1_other _ _ (by omega), up2_other _ _ (fun h => e h.1)]
      exact h.own a b ha hb
theorem RelF.same {T : TS} (h : RelF n S f) (e1 : T.req = S.req) (e2 : T.mis = S.mis) (e3 : T.owe = S.owe) : RelF n T f := by
  refine ⟨fun a ha hra => ?_, fun a b ha hb => ?_⟩
  · rw [e2]; rw [e1] at hra; exact h.hav a ha hra
  · rw [e3]; exact h.own a b ha hb
theorem asks_q (S : TS) {i m : Nat} (x : Int) (h : m ≠ i) : (S.asks i x (m + 1)).q = up2 (S.asks i x m).q i m ((S.asks i x m).q i m ++ [x]) := by rw [← TS.asks_put S x h]; rfl
theorem gives_q (S : TS) {i m : Nat} (h : S.owe i m = true) : (S.gives i (m + 1)).q = up2 (S.gives i m).q i m ((S.gives i m).q i m ++ [0]) := by rw [← TS.gives_yes S h]; rfl
end

/-- The codes of the first k moves. -/
def codesT (n : Nat) (l : List Mv) (k : Nat) : List Int := (List.range k).map (codeT n l)
theorem codesT_succ (n : Nat) (l : List Mv) (k : Nat) : codesT n l (k + 1) = codesT n l k ++ [codeT n l k] := by simp [codesT, List.range_succ]
theorem codesT_len (n : Nat) (l : List Mv) (k : Nat) : (codesT n l k).length = k := by simp [codesT]
def R0T : List Value := [.int .u32 0, .int .u32 0, .int .i64 0]
/-- All that holds of a state S in the world. -/
structure RtAt (w wr : World) (B n : Nat) (b : TB) (S : TS) (vs : Nat → Value) (f : Nat → List Int) (va : Value) (L : List Lt) (vc : Value) (cs : List Int) (k : Nat) : Prop where
  rf : RfT wr B n b vs f S.clk (askT S) S.ins va L vc cs R0T
  rl : RelL n S.q L
  rF : RelF n S f
  ll : L.length ≤ 7 * k
  lf : ∀ j, j < 2 * n → (f j).length ≤ k
  bl : Below B w wr
theorem RtAt.more {w wr : World} {B n : Nat} {b : TB} {S : TS} {vs : Nat → Value} {f : Nat → List Int} {va : Value} {L : List Lt} {vc : Value} {cs : List Int} {k k' : Nat} (h : RtAt w wr B n b S vs f va L vc cs k) (hk : k ≤ k') : RtAt w wr B n b S vs f va L vc cs k' :=
  ⟨h.rf, h.rl, h.rF, Nat.le_trans h.ll (by omega), fun j hj => Nat.le_trans (h.lf j hj) hk, h.bl⟩
theorem RtAt.below {w wr w' : World} {B n : Nat} {b : TB} {S : TS} {vs : Nat → Value} {f : Nat → List Int} {va : Value} {L : List Lt} {vc : Value} {cs : List Int} {k : Nat} (h : RtAt w wr B n b S vs f va L vc cs k) (hb : Below wr.heap.size wr w') : RtAt w w' B n b S vs f va L vc cs k :=
  ⟨h.rf.below hb, h.rl, h.rF, h.ll, h.lf, h.bl.trans (hb.mono h.rf.sz)⟩
/-- Behind k moves. -/
def RtRel (w : World) (B n : Nat) (b : TB) (l : List Mv) (k : Nat) (va : Value) (wr : World) : Prop := ∃ vs f L vc, RtAt w wr B n b (tAt n l k) vs f va L vc (codesT n l k) k
/-- Behind the branches of a move: its code. -/
def RtCut (w : World) (B n : Nat) (b : TB) (l : List Mv) (k : Nat) (va e : Value) (wr : World) : Prop := ∃ vs f L vc, e = .int .i64 (codeT n l k) ∧ RtAt w wr B n b (tAt n l (k + 1)) vs f va L vc (codesT n l k) (k + 1)
theorem RtCut.of {w wr : World} {B n : Nat} {b : TB} {l : List Mv} {k : Nat} {T : TS} {c : Int} {vs : Nat → Value} {f : Nat → List Int} {va : Value} {L : List Lt} {vc : Value} (hst : tAt n l (k + 1) = T) (hcd : codeT n l k = c) (h : RtAt w wr B n b T vs f va L vc (codesT n l k) (k + 1)) : RtCut w B n b l k va (.int .i64 c) wr :=
  ⟨vs, f, L, vc, by rw [hcd], by rw [hst]; exact h⟩
/-- What Turn returns. -/
def RtuRes (w : World) (n : Nat) (l : List Mv) (e : Ending) (w' : World) : Prop :=
  ∃ A cap, e = .returned (.agg #[.slice A l.length cap, .int .u32 (wordB n (tAt n l l.length).ins : Int), .int .u32 (wordB n (tAt n l l.length).req : Int), .int .i64 (wayT n (tAt n l l.length))]) ∧
    OwnC w' w.heap.size (.slice A l.length cap) (codesT n l l.length) ∧ Below w.heap.size w w'

/-! The start. -/
theorem infoBlR : (Try.prog.info? 4).map (fun i => (i.zero, i.size, i.bytes)) = some (some (.bool false), 1, 1) := by kernel_rfl
theorem infoIntsR : (Try.prog.info? 44).map (fun i => (i.zero, i.size, i.bytes)) = some (some (.slice none 0 0), 1, 24) := by kernel_rfl
theorem make_eqG (t e : TypeId) (z : Value) (by_ : Nat) (hi : (Try.prog.info? e).map (fun i => (i.zero, i.size, i.bytes)) = some (some z, 1, by_)) (ht : Try.prog.underlying t = some (.slice e)) (hz : z.cells = #[z]) (n : Nat) (hn : n ≤ 6) (hb : by_ ≤ 1000) (w : World) :
    (Instr.makeSlice t (.int .i64 (n : Int)) (.int .i64 (n : Int))).run Try.prog w = .ok (.slice (some ⟨w.heap.size, 0, none⟩) n n) (w.alloc (.cells (List.replicate n z).toArray e)) := by
  obtain ⟨i0, hi0, hz0, hz1, hz2⟩ := info_parts hi
  have h1 := run_make (P := Try.prog) w t e i0 z ht hi0 hz0 .i64 .i64 (n : Int) (n : Int) (by omega) (by omega) (by
    rw [hz2]
    have h1 : by_ * n ≤ 1000 * 6 := Nat.mul_le_mul hb hn
    have h2 : ((by_ * n : Nat) : Int) ≤ 6000 := by omega
    rw [Int.natCast_mul] at h2
    omega) (by omega)
  rw [h1, hz1, hz]
  congr 2
  · rw [Int.toNat_natCast, Nat.mul_one]
    have : madeCells #[z] n = (List.replicate n z).toArray := by
      rw [← toList_madeCells_one]
    rw [this]
/-- The world once all is there. -/
def w11 (w : World) (n : Nat) (ZI ZB ZT : List Value) : World :=
  ((((((((((w.alloc (.cells #[.int .i64 (n : Int)] 3)).alloc (.cells #[.slice none 0 0, .int .u32 0, .int .u32 0, .int .i64 0] 26)).alloc (.cells #[.slice none 0 0, .int .u32 0, .int .u32 0, .int .i64 0] 26)).alloc (.cells ZI.toArray 3)).alloc (.cells ZI.toArray 3)).alloc (.cells #[.slice (some ⟨w.heap.size + 1 + 1 + 1 + 1, 0, none⟩) n n] 44)).alloc (.cells ZB.toArray 4)).alloc (.cells #[.slice (some ⟨w.heap.size + 1 + 1 + 1 + 1 + 1 + 1, 0, none⟩) n n] 45)).alloc (.cells ZT.toArray 44)).alloc (.cells #[.slice (some ⟨w.heap.size + 1 + 1 + 1 + 1 + 1 + 1 + 1 + 1, 0, none⟩) n n] 46)).alloc (.cells ZT.toArray 44)
def b11 (h : Nat) : TB := ⟨h, h + 1, h + 1 + 1, h + 1 + 1 + 1, h + 1 + 1 + 1 + 1, h + 1 + 1 + 1 + 1 + 1, h + 1 + 1 + 1 + 1 + 1 + 1, h + 1 + 1 + 1 + 1 + 1 + 1 + 1, h + 1 + 1 + 1 + 1 + 1 + 1 + 1 + 1, h + 1 + 1 + 1 + 1 + 1 + 1 + 1 + 1 + 1, h + 1 + 1 + 1 + 1 + 1 + 1 + 1 + 1 + 1 + 1⟩
theorem made_atG (w : World) {g : Nat} (hg : g = w.heap.size) (e : TypeId) (xs : List Value) : Row (w.alloc (.cells xs.toArray e)) g e xs := by subst hg; exact Row.made w e xs
theorem rtu_start (w : World) (n : Nat) (ZI ZB ZT : List Value) (hI : ZI = List.replicate n (.int .i64 0)) (hB : ZB = List.replicate n (.bool false)) (hT : ZT = List.replicate n (.slice none 0 0)) :
    RfT (w11 w n ZI ZB ZT) w.heap.size n (b11 w.heap.size) (fun _ => .slice none 0 0) (fun _ => []) TS.begin.clk (askT TS.begin) TS.begin.ins (.slice none 0 0) [] (.slice none 0 0) [] R0T := by
  have r0 : Row (w11 w n ZI ZB ZT) w.heap.size 3 [.int .i64 (n : Int)] := ((((((((((made_atG w rfl 3 [.int .i64 (n : Int)]).alloc _).alloc _).alloc _).alloc _).alloc _).alloc _).alloc _).alloc _).alloc _).alloc _
  have r1 : Row (w11 w n ZI ZB ZT) (w.heap.size + 1) 26 [.slice none 0 0, .int .u32 0, .int .u32 0, .int .i64 0] := (((((((((made_atG _ (by simp) 26 [.slice none 0 0, .int .u32 0, .int .u32 0, .int .i64 0]).alloc _).alloc _).alloc _).alloc _).alloc _).alloc _).alloc _).alloc _).alloc _
  have r2 : Row (w11 w n ZI ZB ZT) (w.heap.size + 1 + 1) 26 [.slice none 0 0, .int .u32 0, .int .u32 0, .int .i64 0] := ((((((((made_atG _ (by simp) 26 [.slice none 0 0, .int .u32 0, .int .u32 0, .int .i64 0]).alloc _).alloc _).alloc _).alloc _).alloc _).alloc _).alloc _).alloc _
  have r3 : Row (w11 w n ZI ZB ZT) (w.heap.size + 1 + 1 + 1) 3 ZI := (((((((made_atG _ (by simp) 3 ZI).alloc _).alloc _).alloc _).alloc _).alloc _).alloc _).alloc _
  have r4 : Row (w11 w n ZI ZB ZT) (w.heap.size + 1 + 1 + 1 + 1) 3 ZI := ((((((made_atG _ (by simp) 3 ZI).alloc _).alloc _).alloc _).alloc _).alloc _).alloc _
  have r5 : Row (w11 w n ZI ZB ZT) (w.heap.size + 1 + 1 + 1 + 1 + 1) 44 [.slice (some ⟨w.heap.size + 1 + 1 + 1 + 1, 0, none⟩) n n] := (((((made_atG _ (by simp) 44 [.slice (some ⟨w.heap.size + 1 + 1 + 1 + 1, 0, none⟩) n n]).alloc _).alloc _).alloc _).alloc _).alloc _
  have r6 : Row (w11 w n ZI ZB ZT) (w.heap.size + 1 + 1 + 1 + 1 + 1 + 1) 4 ZB := ((((made_atG _ (by simp) 4 ZB).alloc _).alloc _).alloc _).alloc _
  have r7 : Row (w11 w n ZI ZB ZT) (w.heap.size + 1 + 1 + 1 + 1 + 1 + 1 + 1) 45 [.slice (some ⟨w.heap.size + 1 + 1 + 1 + 1 + 1 + 1, 0, none⟩) n n] := (((made_atG _ (by simp) 45 [.slice (some ⟨w.heap.size + 1 + 1 + 1 + 1 + 1 + 1, 0, none⟩) n n]).alloc _).alloc _).alloc _
  have r8 : Row (w11 w n ZI ZB ZT) (w.heap.size + 1 + 1 + 1 + 1 + 1 + 1 + 1 + 1) 44 ZT := ((made_atG _ (by simp) 44 ZT).alloc _).alloc _
  have r9 : Row (w11 w n ZI ZB ZT) (w.heap.size + 1 + 1 + 1 + 1 + 1 + 1 + 1 + 1 + 1) 46 [.slice (some ⟨w.heap.size + 1 + 1 + 1 + 1 + 1 + 1 + 1 + 1, 0, none⟩) n n] := (made_atG _ (by simp) 46 [.slice (some ⟨w.heap.size + 1 + 1 + 1 + 1 + 1 + 1 + 1 + 1, 0, none⟩) n n]).alloc _
  have r10 : Row (w11 w n ZI ZB ZT) (w.heap.size + 1 + 1 + 1 + 1 + 1 + 1 + 1 + 1 + 1 + 1) 44 ZT := made_atG _ (by simp) 44 ZT
  have hI2 : ZI = intRow (fun _ => 0) n := by rw [hI, intRow_zero]
  have hB2 : ZB = boolG (fun _ => false) n := by rw [hB, boolG_zero]
  have hT2 : ∀ a, ZT = hdG (fun _ => .slice none 0 0) a n := fun a => by
    rw [hT]
    apply List.ext_getElem
    · simp [hdG]
    · intro i h1 h2; simp [hdG]
  generalize w11 w n ZI ZB ZT = W at *
  rw [hI2] at r3 r4
  rw [hB2] at r6
  have r8' := r8
  have r10' := r10
  rw [hT2 0] at r8'
  rw [hT2 n] at r10'
  refine ⟨r0, r1, r2, r3, IntRow.congr r4 (fun j _ => by simp [askT, TS.begin]), r5, r6, r7, r8', r9, r10', fun j _ => .nil _ _, fun _ _ _ _ _ => .inl rfl, World.ownsRow_nil _ _ _ _, World.ownsRow_nil _ _ _ _, fun j _ => ⟨by simp [Value.ownBlock], by simp [Value.ownBlock], by simp [Value.ownBlock]⟩, ?_, ?_⟩
  · simp only [b11]
    refine ⟨?_, ?_, ?_, ?_, ?_, ?_, ?_⟩ <;> omega
  · simp only [b11]
    refine ⟨?_, ?_, ?_, ?_, ?_, ?_, ?_, ?_, ?_, ?_, ?_⟩ <;> omega

#print axioms RelL.len
#print axioms rtu_start
end Go.Proofs.Ythnmppajakdcaaa
