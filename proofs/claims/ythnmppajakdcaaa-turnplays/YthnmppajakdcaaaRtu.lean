/-
  The contract of beaconryref.Turn.
-/
import Derived.Test.YthnmppajakdcaaaRtr
import Derived.Test.YthnmppajakdcaaaHld
import Derived.Test.YthnmppajakdcaaaTsd
import Derived.BigQuiet
import Derived.BigRegion
import Derived.Deep.QuietTactic
namespace Go.Proofs.Ythnmppajakdcaaa
open Go.RowKit Go.Maps
set_option linter.unusedVariables false
set_option linter.unusedSimpArgs false

/-- 'append(v, m)', a letter, at a step of a region that draws its order. -/
theorem step_append_let {w : World} {ops : Array Oper} {o : Oper} {a : Act} {K : Act → World → Prop} {Q : Exit → Act → World → Prop} {E : Prop} (hgd : o.guard = none) (s x : Operand)
    (ho : o.op = .call { callee := .builtin .append, args := #[s, x], argTypes := #[47, 47] })
    (j0 : TypeInfo) (hJi : Try.prog.info? 52 = some j0) (hJz : j0.zero = some (.agg #[.int .i64 0, .int .i64 0, .int .i64 0])) (hJs : j0.size = 3) (hJb : j0.bytes = 24)
    (B : Nat) (v : Value) (X : List Lt) (m : Lt) (hs : a.eval s = v) (hown : OwnL w B v X) (ad : Addr) (hx : a.eval x = .slice (some ad) 1 1) (hnews : ∀ j u, (cellsL m)[j]? = some u → w.cell? (ad.add j) = some u)
    (hlen : X.length ≤ 10000) (hbase : B ≤ w.heap.size)
    (h : ∀ v' w', OwnL w' B v' (X ++ [m]) → w.grownBy w' v.ownBlock → K (a.put o.dst v') w') :
    if Region.wanted o (yielded ops a.tmps) = true then Oper.wp Try.prog o a w K Q else E := by
  have hw : Region.wanted o (yielded ops a.tmps) = true := by simp [Region.wanted, hgd]
  rw [if_pos hw]
  obtain ⟨v', w', hr, h2, h3, h4, h5⟩ := run_append_own_at (P := Try.prog) w B 47 o.type 52 j0 _ 3 24 Try.underlying47 hJi hJz hJs hJb rfl (by decide) v X.length (flatL X) hown ad 1 1 (cellsL m) rfl hnews (by simp [cellsL, Value.oneCell']) (by unfold maxLen; omega) (by omega) hbase
  unfold Oper.wp execOp
  simp only [ho, resolve, invoke, builtin, Sem.run_bind, Sem.run_pure, Result.andThen_ok, List.map_toArray, List.map_cons, List.map_nil, hs, hx, hr]
  refine h v' w' ?_ h3
  unfold OwnL
  rw [flatL_append, flatL_one, List.length_append]
  exact h2
/-- In a loop that sends. -/
structure LpA (w wr : World) (B n : Nat) (b : TB) (T : TS) (q : Nat → Nat → List Int) (N : Nat) (vs : Nat → Value) (f : Nat → List Int) (va : Value) (L : List Lt) (vc : Value) (cs : List Int) (bm : Nat) (mv : List Value) : Prop where
  rf : RfT wr B n b vs f T.clk (askT T) T.ins va L vc cs R0T
  rl : RelL n q L
  ll : L.length ≤ N
  row : Row wr bm 38 mv
  bl : Below B w wr
theorem LpA.below {w wr w' : World} {B n : Nat} {b : TB} {T : TS} {q : Nat → Nat → List Int} {N : Nat} {vs : Nat → Value} {f : Nat → List Int} {va : Value} {L : List Lt} {vc : Value} {cs : List Int} {bm : Nat} {mv : List Value} (h : LpA w wr B n b T q N vs f va L vc cs bm mv) (hb : Below wr.heap.size wr w') : LpA w w' B n b T q N vs f va L vc cs bm mv :=
  ⟨h.rf.below hb, h.rl, h.ll, h.row.below hb h.row.lt, h.bl.trans (hb.mono h.rf.sz)⟩
theorem LpA.nums {w wr : World} {B n : Nat} {b : TB} {T : TS} {q : Nat → Nat → List Int} {N : Nat} {vs : Nat → Value} {f : Nat → List Int} {va : Value} {L : List Lt} {vc : Value} {cs : List Int} {bm : Nat} {mv : List Value} (h : LpA w wr B n b T q N vs f va L vc cs bm mv) {j : Nat} (hj : j < 2 * n) : ∃ A cap, vs j = .slice A (f j).length cap ∧ (f j).length ≤ cap ∧ cap ≤ maxLen ∧ Nums wr wr.heap.size A (f j) := (h.rf.fam j hj).nums
theorem ent_yes {T : TS} {i n len : Nat} (hr : T.req i = true) (hm : (len : Int) = (n : Int) - 1 - T.mis i) (h : 0 < askT T i ∧ (len : Int) = (n : Int) - 1) : (∀ j, j < n → updI (askT T) i 0 j = askT (T.enter i) j) ∧ (∀ j, j < n → up1 T.ins i true j = (T.enter i).ins j) := by
  have h0 : T.mis i = 0 := by omega
  have he : T.enter i = { T with req := up1 T.req i false, ins := up1 T.ins i true } := if_pos h0
  rw [he]
  refine ⟨fun j _ => ?_, fun j _ => rfl⟩
  show updI (askT T) i 0 j = if up1 T.req i false j = true then T.num j else 0
  by_cases e : j = i
  · rw [e, updI_same, up1_same]; simp
  · rw [updI_other _ _ e, up1_other _ _ e]; rfl
theorem ent_no {T : TS} {i n len : Nat} (hp : 0 < askT T i) (hm : (len : Int) = (n : Int) - 1 - T.mis i) (h : ¬ (0 < askT T i ∧ (len : Int) = (n : Int) - 1)) : (∀ j, j < n → askT T j = askT (T.enter i) j) ∧ (∀ j, j < n → T.ins j = (T.enter i).ins j) := by
  have h0 : T.mis i ≠ 0 := fun e => h ⟨hp, by omega⟩
  have he : T.enter i = T := if_neg h0
  rw [he]
  exact ⟨fun _ _ => rfl, fun _ _ => rfl⟩
theorem askT_want (n : Nat) (S : TS) (i j : Nat) : updI (askT S) i (S.clk i + 1) j = askT (S.want n i) j := by
  show _ = if up1 S.req i true j = true then up1 S.num i (S.clk i + 1) j else 0
  by_cases e : j = i
  · rw [e, updI_same, up1_same, up1_same]; simp
  · rw [updI_other _ _ e, up1_other _ _ e, up1_other _ _ e]; rfl
theorem hear_yes {S : TS} {j : Nat} {x : Int} (h : S.clk j < x) (a : Nat) : updI S.clk j x a = (S.hear j x).clk a := by
  show _ = up1 S.clk j (max (S.clk j) x) a
  by_cases e : a = j
  · rw [e, updI_same, up1_same]; omega
  · rw [updI_other _ _ e, up1_other _ _ e]
theorem hear_no {S : TS} {j : Nat} {x : Int} (h : ¬ S.clk j < x) (a : Nat) : S.clk a = (S.hear j x).clk a := by
  show _ = up1 S.clk j (max (S.clk j) x) a
  by_cases e : a = j
  · rw [e, up1_same]; omega
  · rw [up1_other _ _ e]
theorem results_cellT {fn : Func} {p : Tmp} {ty : TypeId} (h : fn.results = #[.cell p ty]) (tmps : Array Value) (P : Program) (w : World) :
    (results fn tmps).run P w = ((asAddr (tmps.getD p undef)).run P w).andThen fun a w₁ => (loadVar ty a).run P w₁ := by
  simp only [results, h]
  simp [Sem.run_bind, Result.andThen]
theorem add_wordT {V i : Nat} (hV : V < 64) (hi : i < 6) : ((V : Int) + 2 ^ i % 4294967296) % 4294967296 = ((V + 2 ^ i : Nat) : Int) := by
  rw [pow_mod i (by omega)]
  have h : (2 : Nat) ^ i ≤ 2 ^ 6 := Nat.pow_le_pow_right (by omega) (by omega)
  generalize (2 : Nat) ^ i = y at *
  omega
/-- At the end: the two words. -/
def RtW (w : World) (B n : Nat) (b : TB) (S : TS) (vs : Nat → Value) (f : Nat → List Int) (va : Value) (L : List Lt) (vc : Value) (cs : List Int) (x y : Nat) (wr : World) : Prop :=
  RfT wr B n b vs f S.clk (askT S) S.ins va L vc cs [.int .u32 (x : Int), .int .u32 (y : Int), .int .i64 0] ∧ Below B w wr
set_option maxRecDepth 20000 in
set_option maxHeartbeats 16000000 in
theorem rtu_ok (A : Option Addr) (cap : Nat) (l : List Mv) (n : Nat) (w : World) (hE : Mvs w w.heap.size A l) (hF : MFits l) (hn : n ≤ 6) (hn0 : 0 < n) (h60 : l.length ≤ 60) :
    Calls Try.prog 9 #[.int .i64 (n : Int), .slice A l.length cap] w (RtuRes w n l) := by
  obtain ⟨ZI, hZI⟩ : ∃ Z : List Value, Hid (Z = List.replicate n (.int .i64 0)) := ⟨_, rfl⟩
  obtain ⟨ZB, hZB⟩ : ∃ Z : List Value, Hid (Z = List.replicate n (.bool false)) := ⟨_, rfl⟩
  obtain ⟨ZT, hZT⟩ : ∃ Z : List Value, Hid (Z = List.replicate n (.slice none 0 0)) := ⟨_, rfl⟩
  have mkI := make_eqG 44 3 (.int .i64 0) 8 infoInt Try.underlying44 rfl n hn (by omega)
  have mkB := make_eqG 45 4 (.bool false) 1 infoBlR Try.underlying45 rfl n hn (by omega)
  have mkT := make_eqG 46 44 (.slice none 0 0) 24 infoIntsR Try.underlying46 rfl n hn (by omega)
  rw [← hZI.out] at mkI
  rw [← hZB.out] at mkB
  rw [← hZT.out] at mkT
  have hI9 := rtu_start w n ZI ZB ZT hZI.out hZB.out hZT.out
  have hB9 : Below w.heap.size w (w11 w n ZI ZB ZT) := by
    unfold w11
    repeat' (first | exact Below.refl _ _ | refine Below.alloc ?_ (by simp <;> omega) _)
  have hrel0 : Hid (RtRel w w.heap.size n (b11 w.heap.size) l 0 (.slice none 0 0) (w11 w n ZI ZB ZT)) := ⟨_, _, _, _, hI9, RelL.begin n, RelF.begin n, Nat.le_refl _, fun _ _ => Nat.le_refl _, hB9⟩
  clear hI9 hB9
  unfold w11 b11 at hrel0
  have hEH := Lib.hid hE
  have hFH := Lib.hid hF
  have hl60 : (l.length : Int) ≤ 60 := by omega
  clear hE hF
  go_enter Try.func9, Try.ntmps9
  go_wp2_with fail
  obtain ⟨W9, hW9⟩ : ∃ W, W = w11 w n ZI ZB ZT := ⟨_, rfl⟩
  unfold w11 at hW9
  rw [← hW9] at hrel0 ⊢
  clear hW9 mkI mkB mkT hZI hZB hZT
  generalize hB0 : w.heap.size = B0 at *
  have hB0H := Lib.hid hB0
  generalize hb1 : B0 + 1 = b1 at *
  generalize hb2 : b1 + 1 = b2 at *
  generalize hb3 : b2 + 1 = b3 at *
  generalize hb4 : b3 + 1 = b4 at *
  generalize hb5 : b4 + 1 = b5 at *
  generalize hb6 : b5 + 1 = b6 at *
  generalize hb7 : b6 + 1 = b7 at *
  generalize hb8 : b7 + 1 = b8 at *
  generalize hb9 : b8 + 1 = b9 at *
  generalize hb10 : b9 + 1 = b10 at *
  clear hb1 hb2 hb3 hb4 hb5 hb6 hb7 hb8 hb9 hb10 hB0
  obtain ⟨b, e0, e1, e2, e3, e4, e5, e6, e7, e8, e9, e10⟩ : ∃ b : TB, b.bn = B0 ∧ b.br = b1 ∧ b.bt = b2 ∧ b.C = b3 ∧ b.A = b4 ∧ b.ba = b5 ∧ b.I = b6 ∧ b.bi = b7 ∧ b.H = b8 ∧ b.bh = b9 ∧ b.W = b10 := ⟨⟨B0, b1, b2, b3, b4, b5, b6, b7, b8, b9, b10⟩, rfl, rfl, rfl, rfl, rfl, rfl, rfl, rfl, rfl, rfl, rfl⟩
  subst e0 e1 e2 e3 e4 e5 e6 e7 e8 e9 e10
  have hrel1 : Hid (RtRel w b.bn n b l 0 (.slice none 0 0) W9) := hrel0
  clear hrel0
  obtain ⟨je, hi0, hz0, hz1, hz2⟩ := info_parts infoErr
  have hEi := Lib.hid hi0; have hEz := Lib.hid hz0; have hEs := Lib.hid hz1; have hEb := Lib.hid hz2
  clear hi0 hz0 hz1 hz2
  obtain ⟨jl, hi0, hz0, hz1, hz2⟩ := info_parts infoLt
  have hLi := Lib.hid hi0; have hLz := Lib.hid hz0; have hLs := Lib.hid hz1; have hLb := Lib.hid hz2
  clear hi0 hz0 hz1 hz2
  obtain ⟨ji, hi0, hz0, hz1, hz2⟩ := info_parts infoInt
  have hJi := Lib.hid hi0; have hJz := Lib.hid hz0; have hJs := Lib.hid hz1; have hJb := Lib.hid hz2
  clear hi0 hz0 hz1 hz2
  go_loopg [36, 11] l.length (fun g t va wr => ∃ k : Nat, k ≤ l.length ∧ l.length - k = g ∧ t = .int .i64 k ∧ RtRel w b.bn n b l k va wr)
  case atStart => exact ⟨0, Nat.zero_le _, rfl, rfl, hrel1.out⟩
  case round =>
    clear hrel1
    obtain ⟨k, hk, hgk, rfl, vs, f, L, vc, hM⟩ := hrel
    have hgkH := Lib.hid hgk
    clear hgk
    have hMH := Lib.hid hM
    obtain ⟨Al, cl, hvl, hcl1, hcl2, -⟩ := hM.rf.ol.shape
    subst hvl
    clear hM
    by_cases hlt : k < l.length
    · skip
      have hkI : (k : Int) < (l.length : Int) := by omega
      obtain ⟨bl, off, rfl, hb, hc⟩ := (hEH.out.below hMH.out.bl) (by omega)
      obtain ⟨c0, c1, c2, c3⟩ := hc k hlt
      clear hc
      rw [mv_get l hlt] at c0 c1 c2 c3
      have hfit := hFH.out.at_ hlt
      have hst : Hid (tAt n l (k + 1) = (stepT n (tAt n l k) (mv l k)).1) := rfl
      have hcd : Hid (codeT n l k = (stepT n (tAt n l k) (mv l k)).2) := rfl
      have hk60 : k ≤ 60 := by omega
      have hok := Lib.hid (OkT.at_ n l (k := k) (by omega))
      have hcs := Lib.hid (codesT_succ n l k)
      have hclH := Lib.hid (codesT_len n l k)
      generalize mv l k = mo at *
      obtain ⟨mk, mf, mt, mv'⟩ := mo
      simp only at *
      obtain ⟨⟨k1, k2⟩, ⟨f1, f2⟩, ⟨t1, t2⟩, ⟨v1, v2⟩⟩ := hfit
      simp only at k1 k2 f1 f2 t1 t2 v1 v2
      have hrow := Row.made wr 38 [.int .i64 mk, .int .i64 mf, .int .i64 mt, .int .i64 mv']
      have hM1 := hMH.out.below ((Below.refl wr.heap.size wr).alloc (Nat.le_refl _) (.cells #[.int .i64 mk, .int .i64 mf, .int .i64 mt, .int .i64 mv'] 38))
      obtain ⟨A', c', hv', -, -, hLt⟩ := hM1.rf.ol.shape
      injection hv' with e1 e2 e3
      subst e1 e3
      obtain ⟨r, hr⟩ := firstIs_ex L mf mt
      have hll := hM1.ll
      have hfirst := Lib.hid (first_any Al cl L mf mt _ hLt (by omega) r hr)
      have hrH := Lib.hid hr
      have hrowH := Lib.hid hrow
      have hM1H := Lib.hid hM1
      clear hMH hrow hM1 hLt e2 hr
      go_wp2_with fail
      refine hfirst.out.mono ?_
      rintro e w3 ⟨rfl, hB3⟩
      have hM3 := Lib.hid (hM1H.out.below hB3)
      have hrow3 := Lib.hid (hrowH.out.below hB3 hrowH.out.lt)
      clear hfirst hB3 hM1H hrowH c0 c1 c2 c3 hb
      generalize wr.heap.size = bm at *
      have y0 := hrow3.out.cell (i := 0) (by simp)
      have y1 := hrow3.out.cell (i := 1) (by simp)
      have y2 := hrow3.out.cell (i := 2) (by simp)
      have y3 := hrow3.out.cell (i := 3) (by simp)
      simp only [List.getElem_cons_zero, List.getElem_cons_succ] at y0 y1 y2 y3
      by_cases hk1 : mk < 1
      · as_aux_lemma =>
          have hS := Lib.hid (stepT_kind (n := n) (S := tAt n l k) (m := ⟨mk, mf, mt, mv'⟩) (.inl hk1))
          have hMc : RtAt w w3 b.bn n b (tAt n l (k + 1)) vs f (.slice Al L.length cl) L vc (codesT n l k) (k + 1) := by rw [hst.out, hS.out]; exact hM3.out.more (Nat.le_succ k)
          have hcC : codeT n l k = 6 := by rw [hcd.out, hS.out]
          clear hM3 hrow3 hS hst hcd
          obtain ⟨Ac, capc, hvc, hcc1, hcc2, -⟩ := hMc.rf.oc.shape
          rw [hclH.out] at hvc hcc1
          subst hvc
          have hMa := hMc.rf.alloc (.cells #[.int .i64 6] 27)
          have hBa := Lib.hid (hMc.bl.alloc hMc.rf.sz (.cells #[.int .i64 6] 27))
          have hc0 := hMc.rf.rt.cell (i := 0) (by simp)
          simp only [List.getElem_cons_zero] at hc0
          have hown0 := hMa.oc
          unfold OwnC at hown0
          rw [hclH.out] at hown0
          have hneT : Hid ((Value.slice Ac k capc).ownBlock ≠ some b.bt) := owns_ne_row hMa.oc hMa.rt (by decide)
          have hbase : b.bn ≤ (w3.alloc (.cells #[.int .i64 6] 27)).heap.size := hMa.sz
          have hnews := Lib.hid (newsV (w := w3) (g := w3.heap.size) (.int .i64 6) 27 rfl)
          have hMaH := Lib.hid hMa
          have hownH := Lib.hid hown0
          have hRLH := Lib.hid hMc.rl
          have hRFH := Lib.hid hMc.rF
          have hLLH := Lib.hid hMc.ll
          have hLFH := Lib.hid hMc.lf
          have hcCH := Lib.hid hcC
          clear hMa hown0 hMc hcC hok hrH
          go_wp2_with (first
            | (at_builtin; refine wpList_append_lies _ rfl (.tmp 263) (.tmp 265) 23 rfl b.bn 27 je (.int .i64 0) 1 8 Try.underlying23 hEi.out hEz.out hEs.out hEb.out rfl (by decide) (.slice Ac k capc) k (codG (codesT n l k)) rfl hownH.out ⟨w3.heap.size, 0, none⟩ 1 1 [.int .i64 6] rfl rfl hnews.out (by simp [Value.oneCell']) (by omega) (by unfold maxLen; omega) (by omega) hbase _ rfl ?_; intro g5 cap5 w15 hown hgr hat hlt9
               have f1 := hMaH.out.rt.grown hgr (fun e => hneT.out e.symm)
               have o5 := f1.cell (i := 0) (by simp)
               simp only [List.getElem_cons_zero] at o5
               have of5 := f1.frozen 0
               have hpush : OwnC w15 b.bn (.slice (some ⟨g5, 0, none⟩) (k + 1) cap5) (codesT n l (k + 1)) := by
                 rw [hcs.out, hcCH.out]
                 have := OwnC.push (cs := codesT n l k) (c := 6) (w := w15) (B := b.bn) (g := g5) (cap := cap5) (by rw [hclH.out]; exact hown)
                 rw [hclH.out] at this
                 exact this
               have hnext : Hid (RtRel w b.bn n b l (k + 1) (.slice Al L.length cl) (w15.setCell ⟨b.bt, 0, none⟩ (.slice (some ⟨g5, 0, none⟩) (k + 1) cap5))) := ⟨_, _, _, _, hMaH.out.code hpush hgr, hRLH.out, hRFH.out, hLLH.out, hLFH.out, ((hBa.out.grown hgr hbase (fun q hq => (World.ownsRow.lt hMaH.out.oc q hq).1)).setCell (p := ⟨b.bt, 0, none⟩) hMaH.out.lo.2.2.1 _)⟩
               clear hown hgr hat hlt9 f1 hMaH hBa hownH hpush))
          go_roundg (l.length - (k + 1))
          case measure => have := hgkH.out; omega
          case rel => exact ⟨k + 1, by omega, rfl, by go_num, hnext.out⟩
      · go_upto_if 53 with fail
        clear y0 y1 y2 y3
        go_cut [11, 15, 16, 17, 18, 19, 20] from 37 to 268 (fun vx e _ _ _ _ _ wx => RtCut w b.bn n b l k vx e wx)
        case first =>
          have y0 := hrow3.out.cell (i := 0) (by simp)
          have y1 := hrow3.out.cell (i := 1) (by simp)
          have y2 := hrow3.out.cell (i := 2) (by simp)
          have y3 := hrow3.out.cell (i := 3) (by simp)
          simp only [List.getElem_cons_zero, List.getElem_cons_succ] at y0 y1 y2 y3
          have x0 := hM3.out.rf.vars.1
          by_cases hk3 : 3 < mk
          · as_aux_lemma =>
              have hS := Lib.hid (stepT_kind (n := n) (S := tAt n l k) (m := ⟨mk, mf, mt, mv'⟩) (.inr hk3))
              have hrelc : Hid (RtCut w b.bn n b l k (.slice Al L.length cl) (.int .i64 6) w3) := RtCut.of (by rw [hst.out, hS.out]) (by rw [hcd.out, hS.out]) (hM3.out.more (Nat.le_succ k))
              clear hS hst hcd hM3 hrow3
              go_wp2_with fail
              go_meet
              case rel => exact hrelc.out
          · obtain ⟨two, htwo⟩ : ∃ two : Bool, (mk == 2) = two := ⟨_, rfl⟩
            by_cases hgood : (0 ≤ mf ∧ mf < n) ∧ (mk = 2 → (0 ≤ mt ∧ mt < n) ∧ mt ≠ mf)
            · have hends := Lib.hid (ends_any w3 n ⟨mk, mf, mt, mv'⟩ two true ⟨fun _ => ⟨hgood.1, fun h => hgood.2 (by rw [h] at htwo; simpa using htwo)⟩, fun _ => rfl⟩)
              simp only at hends
              obtain ⟨i, rfl⟩ : ∃ i : Nat, mf = (i : Int) := ⟨mf.toNat, by omega⟩
              have hi : i < n := by omega
              have hiI : (i : Int) < (n : Int) := by omega
              by_cases hk2 : mk = 2
              · subst hk2
                have htw : two = true := by rw [← htwo]; decide
                subst htw
                obtain ⟨hgf, hgt⟩ := hgood
                obtain ⟨hgt, hgne⟩ := hgt rfl
                obtain ⟨j, rfl⟩ : ∃ j : Nat, mt = (j : Int) := ⟨mt.toNat, by omega⟩
                have hj : j < n := by omega
                have hjI : (j : Int) < (n : Int) := by omega
                have hij : i ≠ j := by omega
                have hS := Lib.hid (stepT_come (n := n) (S := tAt n l k) (m := ⟨2, (i : Int), (j : Int), mv'⟩) rfl hgf (by simp only; omega))
                simp only [Int.toNat_natCast] at hS
                clear hgf hgt hgne htwo hk1 hk3
                as_aux_lemma =>
                  have hlf0 := Lib.hid hM3.out.lf
                  have hinv := Lib.hid hok.out.inv
                  clear hok hcs hclH
                  generalize tAt n l k = S at *
                  go_wp2_with fail
                  refine hends.out.mono ?_
                  rintro e w4 ⟨rfl, hB4⟩
                  have hM4 := Lib.hid (hM3.out.below hB4)
                  have hrow4 := Lib.hid (hrow3.out.below hB4 hrow3.out.lt)
                  clear hends hB4 hM3 hrow3 x0 y0 y1 y2 y3
                  have y0 := hrow4.out.cell (i := 0) (by simp)
                  have y1 := hrow4.out.cell (i := 1) (by simp)
                  have y2 := hrow4.out.cell (i := 2) (by simp)
                  simp only [List.getElem_cons_zero, List.getElem_cons_succ] at y0 y1 y2
                  obtain ⟨x0, x1, x2, x3⟩ := hM4.out.rf.vars
                  rcases hrH.out with ⟨hr, hno⟩ | ⟨c, hr, hc, hw0, hb0⟩
                  · subst hr
                    have hq0 : S.q i j = [] := hM4.out.rl.none_ hi hj hij hno
                    have hrelc : Hid (RtCut w b.bn n b l k (.slice Al L.length cl) (.int .i64 5) w4) := RtCut.of (by rw [hst.out, hS.out, if_pos hq0]) (by rw [hcd.out, hS.out, if_pos hq0]) (hM4.out.more (Nat.le_succ k))
                    clear hS hst hcd hM4 hrow4 hlf0 hno hq0 hinv hrH
                    go_wp2_with fail
                    go_meet
                    case rel => exact hrelc.out
                  · subst hr
                    have hcI : (c : Int) < (L.length : Int) := by omega
                    obtain ⟨A8, c8, hv8, hl81, hl82, hA⟩ := hM4.out.rf.ol.shape
                    injection hv8 with e81 e82 e83
                    subst e81 e83
                    obtain ⟨g, hg, hgl, m0, m1, m2⟩ := hA c hc
                    subst hg
                    obtain ⟨⟨r, hq⟩, hRL⟩ := hM4.out.rl.pop hi hj hij hc hw0 hb0
                    have hne0 : S.q i j ≠ [] := by rw [hq]; simp
                    have hst' : Hid (tAt n l (k + 1) = S.come i j) := by unfold Hid; rw [hst.out, hS.out, if_neg hne0]
                    have hcd' : Hid (codeT n l k = 0) := by unfold Hid; rw [hcd.out, hS.out, if_neg hne0]
                    have hcome : Hid (S.come i j = if (lt_ L c).v = 0 then ((S.pop i j).less j).enter j else (S.pop i j).answer j i (lt_ L c).v) := by unfold Hid TS.come; rw [hq]; rfl
                    have hqH := Lib.hid hq
                    have hRLH := Lib.hid hRL
                    have hwot := Lib.hid (without_any g cl L c w4 hA (by omega) hc hcl1 hcl2)
                    have hl5 : Hid ((L.take c ++ L.drop (c + 1)).length ≤ 7 * k) := by unfold Hid; simp; omega
                    clear hS hst hcd hA e82 m0 m1 hw0 hb0 hrH hq hRL hne0
                    generalize (lt_ L c).v = x at *
                    generalize L.take c ++ L.drop (c + 1) = L5 at *
                    unfold WotRes at hwot
                    have hxd : ((x : Int) == 0) = decide (x = 0) := by by_cases e : x = 0 <;> simp [e]
                    by_cases hx : x = 0
                    · subst hx
                      have hc0 : Hid (S.come i j = ((S.pop i j).less j).enter j) := hcome.out.trans (if_pos rfl)
                      clear hxd hcome
                      go_wp2_with fail
                      refine hwot.out.mono ?_
                      rintro e w5 ⟨v5, rfl, hO5, hB5⟩
                      have hR5 := Lib.hid (hM4.out.rf.newL hB5 hO5)
                      have hW5 := Lib.hid (hrow4.out.below hB5 hrow4.out.lt)
                      have hb5 := Lib.hid (hM4.out.bl.trans (hB5.mono hM4.out.rf.sz))
                      have hF4 := Lib.hid hM4.out.rF
                      have hrq := Lib.hid (hinv.out.reply hqH.out).2
                      have hap : Hid (0 < askT S j) := (askT_pos hinv.out j).2 hrq.out
                      clear hwot hO5 hB5 hM4 hrow4 hinv hqH x0 x1 x2 x3 y0 y1 y2 m2 hgl
                      obtain ⟨A5, c5, hv5, hl51, hl52, -⟩ := hR5.out.ol.shape
                      subst hv5
                      have y1 := hW5.out.cell (i := 1) (by simp)
                      have y2 := hW5.out.cell (i := 2) (by simp)
                      simp only [List.getElem_cons_zero, List.getElem_cons_succ] at y1 y2
                      obtain ⟨x0, x1, x2, x3⟩ := hR5.out.vars
                      go_wp2_with fail
                      have h0 := hR5.out.hcell hj
                      have hRa := Lib.hid (hR5.out.alloc (.cells #[.int .i64 (i : Int)] 3))
                      have hWa := Lib.hid (hW5.out.alloc (.cells #[.int .i64 (i : Int)] 3))
                      have hBa := Lib.hid (hb5.out.alloc hR5.out.sz (.cells #[.int .i64 (i : Int)] 3))
                      have a0 := hRa.out.hcell hj
                      have a2 := hWa.out.cell (i := 1) (by simp)
                      simp only [List.getElem_cons_zero, List.getElem_cons_succ] at a2
                      have a1 := hRa.out.vars.2.2.2
                      have hnw : Hid (∀ w' : World, w'.heap = (w5.alloc (.cells #[.int .i64 (i : Int)] 3)).heap → w'.cell? ⟨w5.heap.size, 0, none⟩ = some (.int .i64 (i : Int))) := fun w' e => (Row.block (Row.made w5 3 [.int .i64 (i : Int)]) (by rw [e])).cell (i := 0) (by simp)
                      obtain ⟨v0, hv0⟩ : ∃ v0, Hid (vs j = v0) := ⟨_, rfl⟩
                      rw [hv0.out] at h0 a0
                      have hq0 := hRa.out.fam (j) (by omega)
                      rw [hv0.out] at hq0
                      have hQ : Hid (∀ w' : World, w'.heap = (w5.alloc (.cells #[.int .i64 (i : Int)] 3)).heap → Que w' b.bn v0 (f j)) := fun w' e => hq0.block fun g _ => by rw [e]
                      have hsz : b.bn ≤ w5.heap.size := hR5.out.sz
                      have hszA : Hid (b.bn ≤ (w5.alloc (.cells #[.int .i64 (i : Int)] 3)).heap.size) := hRa.out.sz
                      have hlq : (f j).length ≤ 1000 := by have := hlf0.out (j) (by omega); omega
                      have hn1 : Hid (v0.ownBlock ≠ some b.H) := hq0.ne_row hRa.out.rH (by decide)
                      have hn2 : Hid (v0.ownBlock ≠ some b.bh) := hq0.ne_row hRa.out.rh (by decide)
                      have hn3 : Hid (v0.ownBlock ≠ some bm) := hq0.ne_row hWa.out (by decide)
                      have hn4 : Hid (v0.ownBlock ≠ some b.W) := hq0.ne_row hRa.out.rW (by decide)
                      have hm1 : Hid ((⟨b.H, j, none⟩ : Addr) ≠ ⟨b.bh, 0, none⟩) := fun e => rowG_ne hR5.out.rH hR5.out.rh (by decide) (by injection e)
                      have hm2 : Hid ((⟨b.H, j, none⟩ : Addr) ≠ ⟨bm, 1, none⟩) := fun e => rowG_ne hR5.out.rH hW5.out (by decide) (by injection e)
                      have hfl : Hid (∀ a, a < 2 * n → (up1 f (j) (f j ++ [(i : Int)]) a).length ≤ k + 1) := fun a ha => by
                        by_cases e : a = j
                        · rw [e, up1_same, List.length_append]; have := hlf0.out (j) (by omega); simp; omega
                        · rw [up1_other _ _ e]; exact Nat.le_succ_of_le (hlf0.out a ha)
                      refine held_letter (fun w' => w'.cell? ⟨b.bh, 0, none⟩ = some (.slice (some ⟨b.H, 0, none⟩) n n) ∧ w'.cell? ⟨bm, 1, none⟩ = some (.int .i64 (i : Int))) (by kernel_rfl) (fun _ _ d _ _ h => by cases d <;> exact h) ?_ (fun Q hpan hQn hHeld => ?_)
                      · exact ⟨x3, y1⟩
                      refine take_dst (i := 0) (v := ?_) (some 187) rfl rfl (by kernel_rfl) (by kernel_rfl) (by kernel_rfl) hpan (Or.inl ⟨by rfl, ?_⟩) (by assumption) ?_
                      rotate_left
                      · (intro w hSw; (try dsimp only at hSw); first | (go_simp; done) | (go_simp; with_reducible rfl))
                      try simp only [List.getElem_toArray, List.getElem_cons_zero, List.getElem_cons_succ, Act.put, List.setIfInBounds_toArray, List.set_cons_zero, List.set_cons_succ]
                      refine take_dst (i := 1) (v := ?_) (some 188) rfl rfl (by kernel_rfl) (by kernel_rfl) (by kernel_rfl) hpan (Or.inl ⟨by rfl, ?_⟩) (by assumption) ?_
                      rotate_left
                      · (intro w hSw; (try dsimp only at hSw); first | (go_simp; done) | (go_simp; with_reducible rfl))
                      try simp only [List.getElem_toArray, List.getElem_cons_zero, List.getElem_cons_succ, Act.put, List.setIfInBounds_toArray, List.set_cons_zero, List.set_cons_succ]
                      refine take_dst (i := 2) (v := ?_) (some 189) rfl rfl (by kernel_rfl) (by kernel_rfl) (by kernel_rfl) hpan (Or.inl ⟨by rfl, ?_⟩) (by assumption) ?_
                      rotate_left
                      · (intro w hSw; (try dsimp only at hSw); first | (go_simp; done) | (go_simp; with_reducible rfl))
                      try simp only [List.getElem_toArray, List.getElem_cons_zero, List.getElem_cons_succ, Act.put, List.setIfInBounds_toArray, List.set_cons_zero, List.set_cons_succ]
                      refine take_dst (i := 3) (v := ?_) (some 190) rfl rfl (by kernel_rfl) (by kernel_rfl) (by kernel_rfl) hpan (Or.inl ⟨by rfl, ?_⟩) (by assumption) ?_
                      rotate_left
                      · (intro w hSw; (try dsimp only at hSw); first | (go_simp; done) | (go_simp; with_reducible rfl))
                      try simp only [List.getElem_toArray, List.getElem_cons_zero, List.getElem_cons_succ, Act.put, List.setIfInBounds_toArray, List.set_cons_zero, List.set_cons_succ]
                      refine take_dst (i := 4) (v := ?_) (some 191) rfl rfl (by kernel_rfl) (by kernel_rfl) (by kernel_rfl) hpan (Or.inl ⟨by rfl, ?_⟩) (by assumption) ?_
                      rotate_left
                      · (intro w hSw; (try dsimp only at hSw); first | (go_simp; done) | (go_simp; with_reducible rfl))
                      try simp only [List.getElem_toArray, List.getElem_cons_zero, List.getElem_cons_succ, Act.put, List.setIfInBounds_toArray, List.set_cons_zero, List.set_cons_succ]
                      refine take_dst (i := 6) (v := ?_) (some 193) rfl rfl (by kernel_rfl) (by kernel_rfl) (by kernel_rfl) hpan (Or.inl ⟨by rfl, ?_⟩) (by assumption) ?_
                      rotate_left
                      · (intro w hSw; (try dsimp only at hSw); first | (go_simp; done) | (go_simp; with_reducible rfl))
                      try simp only [List.getElem_toArray, List.getElem_cons_zero, List.getElem_cons_succ, Act.put, List.setIfInBounds_toArray, List.set_cons_zero, List.set_cons_succ]
                      refine take_dst (i := 7) (v := ?_) (some 194) rfl rfl (by kernel_rfl) (by kernel_rfl) (by kernel_rfl) hpan (Or.inl ⟨by rfl, ?_⟩) (by assumption) ?_
                      rotate_left
                      · (intro w hSw; (try dsimp only at hSw); first | (go_simp; done) | (go_simp; with_reducible rfl))
                      try simp only [List.getElem_toArray, List.getElem_cons_zero, List.getElem_cons_succ, Act.put, List.setIfInBounds_toArray, List.set_cons_zero, List.set_cons_succ]
                      refine wpAnyH_ready (rs := [5, 8]) (by kernel_rfl) (by simp) ?_
                      refine AllReadyH.cons rfl (fun K hK => ?_) (AllReadyH.cons rfl (fun K hK => ?_) AllReadyH.nil)
                      · go_simp
                        refine hK.out _ _ ?_ (fun hHeld => ?_)
                        · exact hHeld
                        clear hK K
                        try simp only [List.getElem_toArray, List.getElem_cons_zero, List.getElem_cons_succ, Act.put, List.setIfInBounds_toArray, List.set_cons_zero, List.set_cons_succ]
                        refine wpAnyH_ready (rs := [8]) (by kernel_rfl) (by simp) ?_
                        refine AllReadyH.cons rfl (fun K hK => ?_) AllReadyH.nil
                        go_simp
                        refine hK.out _ _ ?_ (fun hHeld => ?_)
                        · exact ⟨a1, a2⟩
                        clear hK K
                        try simp only [List.getElem_toArray, List.getElem_cons_zero, List.getElem_cons_succ, Act.put, List.setIfInBounds_toArray, List.set_cons_zero, List.set_cons_succ]
                        refine wpAnyH_ready (rs := [9]) (by kernel_rfl) (by simp) ?_
                        refine AllReadyH.cons rfl (fun K hK => ?_) AllReadyH.nil
                        refine step_append_que rfl (.tmp 192) (.tmp 195) rfl ji hJi.out hJz.out hJs.out hJb.out b.bn v0 (f j) rfl (hQ.out _ rfl) (by simp; omega) hlq ⟨w5.heap.size, 0, none⟩ (i : Int) rfl (hnw.out _ rfl) ?_
                        intro va wa hQ2 hg2 hat2
                        obtain ⟨Av, cv, hva, -, -, -⟩ := hQ2.shape
                        obtain ⟨lv, hlv⟩ : ∃ lv, (f j ++ [(i : Int)]).length = lv := ⟨_, rfl⟩
                        rw [hlv] at hva
                        clear hlv
                        subst hva
                        have hgr : (w5.alloc (.cells #[.int .i64 (i : Int)] 3)).grownBy wa v0.ownBlock := ⟨hg2.os, hg2.tape, hg2.output, hg2.size, hg2.block⟩
                        have e0 : wa.cell? ⟨b.H, j, none⟩ = some v0 := hgr.cell a0 (fun e => hn1.out e.symm)
                        have e2 : wa.cell? ⟨bm, 1, none⟩ = some (.int .i64 (i : Int)) := hgr.cell a2 (fun e => hn3.out e.symm)
                        have ef : wa.frozen? ⟨b.H, j, none⟩ = false := (hRa.out.rH.grown hgr (fun e => hn1.out e.symm)).frozen j
                        have e1 : wa.cell? ⟨b.bh, 0, none⟩ = some (.slice (some ⟨b.H, 0, none⟩) n n) := hgr.cell a1 (fun e => hn2.out e.symm)
                        have hke := And.intro e1 e2
                        have hk : ∀ v, (wa.setCell ⟨b.H, j, none⟩ v).cell? ⟨b.bh, 0, none⟩ = some (.slice (some ⟨b.H, 0, none⟩) n n) ∧ (wa.setCell ⟨b.H, j, none⟩ v).cell? ⟨bm, 1, none⟩ = some (.int .i64 (i : Int)) := fun v => ⟨(World.cell?_setCell_other _ _ _ _ hm1.out).trans e1, (World.cell?_setCell_other _ _ _ _ hm2.out).trans e2⟩
                        refine hK.out _ _ ?_ (fun hHeld => ?_)
                        · exact hke
                        clear hK K
                        try simp only [List.getElem_toArray, List.getElem_cons_zero, List.getElem_cons_succ, Act.put, List.setIfInBounds_toArray, List.set_cons_zero, List.set_cons_succ]
                        refine take_dst (i := 10) (v := ?_) (some 197) rfl rfl (by kernel_rfl) (by kernel_rfl) (by kernel_rfl) hpan (Or.inl ⟨by rfl, ?_⟩) (by assumption) ?_
                        rotate_left
                        · (intro w hSw; (try dsimp only at hSw); first | (go_simp; done) | (go_simp; with_reducible rfl))
                        try simp only [List.getElem_toArray, List.getElem_cons_zero, List.getElem_cons_succ, Act.put, List.setIfInBounds_toArray, List.set_cons_zero, List.set_cons_succ]
                        refine wpAnyH_ready (rs := [11]) (by kernel_rfl) (by simp) ?_
                        refine AllReadyH.cons rfl (fun K hK => ?_) AllReadyH.nil
                        go_simp
                        refine hK.out _ _ ?_ (fun hHeld => ?_)
                        · exact hk _
                        clear hK K
                        try simp only [List.getElem_toArray, List.getElem_cons_zero, List.getElem_cons_succ, Act.put, List.setIfInBounds_toArray, List.set_cons_zero, List.set_cons_succ]
                        refine wpAnyH_done (by kernel_rfl) ?_ _
                        refine hQn _ _ ?_
                        clear hpan hQn
                        have hR8 := Lib.hid (hRa.out.putQ (j := j) (T := b.H) (i := j) (.inl ⟨rfl, rfl, hj⟩) hQ2 (by rw [hv0.out]; exact hgr) (by rw [hv0.out]; rcases hat2 with h | h; exact .inr (.inl h); exact .inr (.inr ⟨_, h, Nat.le_refl _⟩)))
                        have hB8 := Lib.hid ((hBa.out.grown hgr hszA.out (fun q hq => ((hQ.out _ rfl).lt hq).1)).setCell (p := ⟨b.H, j, none⟩) hRa.out.lo.2.2.2.2.2.2.2.2.1 (.slice Av lv cv))
                        have hRF8 := Lib.hid (hF4.out.reply (i := i) hj hrq.out)
                        clear hk hke e0 e1 e2 ef hgr hQ2 hg2 hat2 a0 a1 a2 hRa hWa hBa x0 x1 x2 x3 y1 y2 h0
                        generalize wa.setCell ⟨b.H, j, none⟩ (.slice Av lv cv) = w8 at *
                        have hcall := Lib.hid (entR_any w8 b.bn n b _ _ S.clk (askT S) (askT (((S.pop i j).less j).enter j)) S.ins (((S.pop i j).less j).enter j).ins _ L5 vc _ R0T hR8.out j hj hn (by have := hfl.out j (by omega); omega) (fun h => ent_yes (T := (S.pop i j).less j) hrq.out (hRF8.out.hav j hj hrq.out) h) (fun h => ent_no (T := (S.pop i j).less j) hap.out (hRF8.out.hav j hj hrq.out) h))
                        clear hR8
                        go_wp2_with fail
                        refine hcall.out.mono ?_
                        rintro e w9 ⟨rfl, hR9, hB9⟩
                        have hrelc : Hid (RtCut w b.bn n b l k (.slice A5 L5.length c5) (.int .i64 0) w9) := RtCut.of hst'.out hcd'.out (by
                          rw [hc0.out]
                          exact ⟨hR9.congr (fun j _ => by rw [enter_clk]; rfl) (fun _ _ => rfl) (fun _ _ => rfl) (fun _ _ => rfl), hRLH.out.same (enter_q _ _).1, hRF8.out.enter j, by have := hl5.out; unfold Hid at this; omega, hfl.out, hB8.out.trans hB9⟩)
                        clear hcall hR9 hB9
                        go_wp2_with fail
                        go_meet
                        case rel => exact hrelc.out
                      · go_simp
                        refine hK.out _ _ ?_ (fun hHeld => ?_)
                        · exact ⟨a1, a2⟩
                        clear hK K
                        try simp only [List.getElem_toArray, List.getElem_cons_zero, List.getElem_cons_succ, Act.put, List.setIfInBounds_toArray, List.set_cons_zero, List.set_cons_succ]
                        refine wpAnyH_ready (rs := [5]) (by kernel_rfl) (by simp) ?_
                        refine AllReadyH.cons rfl (fun K hK => ?_) AllReadyH.nil
                        go_simp
                        refine hK.out _ _ ?_ (fun hHeld => ?_)
                        · exact hHeld
                        clear hK K
                        try simp only [List.getElem_toArray, List.getElem_cons_zero, List.getElem_cons_succ, Act.put, List.setIfInBounds_toArray, List.set_cons_zero, List.set_cons_succ]
                        refine wpAnyH_ready (rs := [9]) (by kernel_rfl) (by simp) ?_
                        refine AllReadyH.cons rfl (fun K hK => ?_) AllReadyH.nil
                        refine step_append_que rfl (.tmp 192) (.tmp 195) rfl ji hJi.out hJz.out hJs.out hJb.out b.bn v0 (f j) rfl (hQ.out _ rfl) (by simp; omega) hlq ⟨w5.heap.size, 0, none⟩ (i : Int) rfl (hnw.out _ rfl) ?_
                        intro va wa hQ2 hg2 hat2
                        obtain ⟨Av, cv, hva, -, -, -⟩ := hQ2.shape
                        obtain ⟨lv, hlv⟩ : ∃ lv, (f j ++ [(i : Int)]).length = lv := ⟨_, rfl⟩
                        rw [hlv] at hva
                        clear hlv
                        subst hva
                        have hgr : (w5.alloc (.cells #[.int .i64 (i : Int)] 3)).grownBy wa v0.ownBlock := ⟨hg2.os, hg2.tape, hg2.output, hg2.size, hg2.block⟩
                        have e0 : wa.cell? ⟨b.H, j, none⟩ = some v0 := hgr.cell a0 (fun e => hn1.out e.symm)
                        have e2 : wa.cell? ⟨bm, 1, none⟩ = some (.int .i64 (i : Int)) := hgr.cell a2 (fun e => hn3.out e.symm)
                        have ef : wa.frozen? ⟨b.H, j, none⟩ = false := (hRa.out.rH.grown hgr (fun e => hn1.out e.symm)).frozen j
                        have e1 : wa.cell? ⟨b.bh, 0, none⟩ = some (.slice (some ⟨b.H, 0, none⟩) n n) := hgr.cell a1 (fun e => hn2.out e.symm)
                        have hke := And.intro e1 e2
                        have hk : ∀ v, (wa.setCell ⟨b.H, j, none⟩ v).cell? ⟨b.bh, 0, none⟩ = some (.slice (some ⟨b.H, 0, none⟩) n n) ∧ (wa.setCell ⟨b.H, j, none⟩ v).cell? ⟨bm, 1, none⟩ = some (.int .i64 (i : Int)) := fun v => ⟨(World.cell?_setCell_other _ _ _ _ hm1.out).trans e1, (World.cell?_setCell_other _ _ _ _ hm2.out).trans e2⟩
                        refine hK.out _ _ ?_ (fun hHeld => ?_)
                        · exact hke
                        clear hK K
                        try simp only [List.getElem_toArray, List.getElem_cons_zero, List.getElem_cons_succ, Act.put, List.setIfInBounds_toArray, List.set_cons_zero, List.set_cons_succ]
                        refine take_dst (i := 10) (v := ?_) (some 197) rfl rfl (by kernel_rfl) (by kernel_rfl) (by kernel_rfl) hpan (Or.inl ⟨by rfl, ?_⟩) (by assumption) ?_
                        rotate_left
                        · (intro w hSw; (try dsimp only at hSw); first | (go_simp; done) | (go_simp; with_reducible rfl))
                        try simp only [List.getElem_toArray, List.getElem_cons_zero, List.getElem_cons_succ, Act.put, List.setIfInBounds_toArray, List.set_cons_zero, List.set_cons_succ]
                        refine wpAnyH_ready (rs := [11]) (by kernel_rfl) (by simp) ?_
                        refine AllReadyH.cons rfl (fun K hK => ?_) AllReadyH.nil
                        go_simp
                        refine hK.out _ _ ?_ (fun hHeld => ?_)
                        · exact hk _
                        clear hK K
                        try simp only [List.getElem_toArray, List.getElem_cons_zero, List.getElem_cons_succ, Act.put, List.setIfInBounds_toArray, List.set_cons_zero, List.set_cons_succ]
                        refine wpAnyH_done (by kernel_rfl) ?_ _
                        refine hQn _ _ ?_
                        clear hpan hQn
                        have hR8 := Lib.hid (hRa.out.putQ (j := j) (T := b.H) (i := j) (.inl ⟨rfl, rfl, hj⟩) hQ2 (by rw [hv0.out]; exact hgr) (by rw [hv0.out]; rcases hat2 with h | h; exact .inr (.inl h); exact .inr (.inr ⟨_, h, Nat.le_refl _⟩)))
                        have hB8 := Lib.hid ((hBa.out.grown hgr hszA.out (fun q hq => ((hQ.out _ rfl).lt hq).1)).setCell (p := ⟨b.H, j, none⟩) hRa.out.lo.2.2.2.2.2.2.2.2.1 (.slice Av lv cv))
                        have hRF8 := Lib.hid (hF4.out.reply (i := i) hj hrq.out)
                        clear hk hke e0 e1 e2 ef hgr hQ2 hg2 hat2 a0 a1 a2 hRa hWa hBa x0 x1 x2 x3 y1 y2 h0
                        generalize wa.setCell ⟨b.H, j, none⟩ (.slice Av lv cv) = w8 at *
                        have hcall := Lib.hid (entR_any w8 b.bn n b _ _ S.clk (askT S) (askT (((S.pop i j).less j).enter j)) S.ins (((S.pop i j).less j).enter j).ins _ L5 vc _ R0T hR8.out j hj hn (by have := hfl.out j (by omega); omega) (fun h => ent_yes (T := (S.pop i j).less j) hrq.out (hRF8.out.hav j hj hrq.out) h) (fun h => ent_no (T := (S.pop i j).less j) hap.out (hRF8.out.hav j hj hrq.out) h))
                        clear hR8
                        go_wp2_with fail
                        refine hcall.out.mono ?_
                        rintro e w9 ⟨rfl, hR9, hB9⟩
                        have hrelc : Hid (RtCut w b.bn n b l k (.slice A5 L5.length c5) (.int .i64 0) w9) := RtCut.of hst'.out hcd'.out (by
                          rw [hc0.out]
                          exact ⟨hR9.congr (fun j _ => by rw [enter_clk]; rfl) (fun _ _ => rfl) (fun _ _ => rfl) (fun _ _ => rfl), hRLH.out.same (enter_q _ _).1, hRF8.out.enter j, by have := hl5.out; unfold Hid at this; omega, hfl.out, hB8.out.trans hB9⟩)
                        clear hcall hR9 hB9
                        go_wp2_with fail
                        go_meet
                        case rel => exact hrelc.out
                    · have hxb : ((x : Int) == 0) = false := by simpa using hx
                      have hc0 : Hid (S.come i j = (S.pop i j).answer j i x) := hcome.out.trans (if_neg hx)
                      clear hcome hxd
                      go_wp2_with fail
                      refine hwot.out.mono ?_
                      rintro e w5 ⟨v5, rfl, hO5, hB5⟩
                      have hR5 := Lib.hid (hM4.out.rf.newL hB5 hO5)
                      have hW5 := Lib.hid (hrow4.out.below hB5 hrow4.out.lt)
                      have hb5 := Lib.hid (hM4.out.bl.trans (hB5.mono hM4.out.rf.sz))
                      have hF4 := Lib.hid hM4.out.rF
                      have hpos := Lib.hid (fun (h : S.req j = true) => hinv.out.num0 j (.inl h))
                      clear hwot hO5 hB5 hM4 hrow4 hinv hqH x0 x1 x2 x3 y0 y1 y2 m2 hgl
                      obtain ⟨A5, c5, hv5, hl51, hl52, -⟩ := hR5.out.ol.shape
                      subst hv5
                      have y1 := hW5.out.cell (i := 1) (by simp)
                      have y2 := hW5.out.cell (i := 2) (by simp)
                      simp only [List.getElem_cons_zero, List.getElem_cons_succ] at y1 y2
                      obtain ⟨x0, x1, x2, x3⟩ := hR5.out.vars
                      have c1 := IntRow.at_ hR5.out.rC hj
                      have cf := Row.frozen hR5.out.rC j
                      go_upto_if 206 with fail
                      go_cut [206] from 207 to 210 (fun _ wx => LpA w wx b.bn n b ((S.pop i j).hear j x) ((S.pop i j).hear j x).q (7 * k) vs f (.slice A5 L5.length c5) L5 vc (codesT n l k) bm [.int .i64 2, .int .i64 (i : Int), .int .i64 (j : Int), .int .i64 mv'])
                      case first =>
                        by_cases hlt : S.clk j < x
                        · have hneC : bm ≠ b.C := rowG_ne hW5.out hR5.out.rC (by decide)
                          have hrelc : Hid (LpA w (w5.setCell ⟨b.C, j, none⟩ (.int .i64 x)) b.bn n b ((S.pop i j).hear j x) ((S.pop i j).hear j x).q (7 * k) vs f (.slice A5 L5.length c5) L5 vc (codesT n l k) bm [.int .i64 2, .int .i64 (i : Int), .int .i64 (j : Int), .int .i64 mv']) := ⟨(hR5.out.setC_ j x).congr (fun a _ => hear_yes hlt a) (fun _ _ => rfl) (fun _ _ => rfl) (fun _ _ => rfl), hRLH.out, hl5.out, hW5.out.far (p := ⟨b.C, j, none⟩) hneC _, hb5.out.setCell (p := ⟨b.C, j, none⟩) hR5.out.lo.2.2.2.1 (.int .i64 x)⟩
                          clear hR5 hW5 hb5 hRLH
                          go_wp2_with fail
                          go_meet
                          case rel => exact hrelc.out
                        · have hrelc : Hid (LpA w w5 b.bn n b ((S.pop i j).hear j x) ((S.pop i j).hear j x).q (7 * k) vs f (.slice A5 L5.length c5) L5 vc (codesT n l k) bm [.int .i64 2, .int .i64 (i : Int), .int .i64 (j : Int), .int .i64 mv']) := ⟨hR5.out.congr (fun a _ => hear_no hlt a) (fun _ _ => rfl) (fun _ _ => rfl) (fun _ _ => rfl), hRLH.out, hl5.out, hW5.out, hb5.out⟩
                          clear hR5 hW5 hb5 hRLH
                          go_wp2_with fail
                          go_meet
                          case rel => exact hrelc.out
                      case rest =>
                        have hP := Lib.hid hcut
                        clear hcut hR5 hW5 hb5 x0 x1 x2 x3 y1 y2 c1 cf
                        rename World => w6
                        obtain ⟨x0, x1, x2, x3⟩ := hP.out.rf.vars
                        have y1 := hP.out.row.cell (i := 1) (by simp)
                        simp only [List.getElem_cons_zero, List.getElem_cons_succ] at y1
                        have i1 : w6.cell? ⟨b.I, j, none⟩ = some (.bool (S.ins j)) := BRowG.at_ hP.out.rf.rI hj
                        have a1 : w6.cell? ⟨b.A, j, none⟩ = some (.int .i64 (askT S j)) := IntRow.at_ hP.out.rf.rA hj
                        go_upto_region 48 with fail
                        go_cut [243] from 211 to 243 (fun cv wx => ∃ C : Bool, cv = .bool C ∧ C = S.later j i x ∧ wx = w6)
                        case first =>
                          cases hins : S.ins j with
                          | true =>
                            rw [hins] at i1
                            have hv : Hid (true = S.later j i x) := by unfold Hid; simp [TS.later, hins]
                            clear hins hP
                            go_wp2_with fail
                            go_meet
                            case rel => exact ⟨true, rfl, hv.out, rfl⟩
                          | false =>
                            rw [hins] at i1
                            cases hreq : S.req j with
                            | false =>
                              have h0 : askT S j = 0 := if_neg (by rw [hreq]; simp)
                              rw [h0] at a1
                              have hv : Hid (false = S.later j i x) := by unfold Hid; simp [TS.later, hins, hreq]
                              clear hins hreq h0 hP
                              go_wp2_with fail
                              go_meet
                              case rel => exact ⟨false, rfl, hv.out, rfl⟩
                            | true =>
                              have h0 : askT S j = S.num j := if_pos hreq
                              rw [h0] at a1
                              have hp := hpos.out hreq
                              have hpb : decide (0 < S.num j) = true := by simp [hp]
                              by_cases h1 : S.num j < x
                              · have hv : Hid (true = S.later j i x) := by unfold Hid; simp [TS.later, hins, hreq, h1]
                                have h1b : decide (S.num j < x) = true := by simp [h1]
                                clear hins hreq h0 hP
                                go_wp2_with fail
                                go_meet
                                case rel => exact ⟨true, rfl, hv.out, rfl⟩
                              · have h1b : decide (S.num j < x) = false := by simp [h1]
                                by_cases h2 : S.num j = x
                                · have h2b : (S.num j == x) = true := by simp [h2]
                                  by_cases h3 : j < i
                                  · have h3I : (j : Int) < (i : Int) := by omega
                                    have hv : Hid (true = S.later j i x) := by unfold Hid; simp [TS.later, hins, hreq, h2, h3]
                                    clear hins hreq h0 hP h2
                                    go_wp2_with fail
                                    go_meet
                                    case rel => exact ⟨true, rfl, hv.out, rfl⟩
                                  · have h3I : ¬ (j : Int) < (i : Int) := by omega
                                    have hv : Hid (false = S.later j i x) := by unfold Hid; simp [TS.later, hins, hreq, h2, h3]
                                    clear hins hreq h0 hP h2
                                    go_wp2_with fail
                                    go_meet
                                    case rel => exact ⟨false, rfl, hv.out, rfl⟩
                                · have h2b : (S.num j == x) = false := by simpa using h2
                                  have hv : Hid (false = S.later j i x) := by unfold Hid; simp [TS.later, hins, hreq, h1, h2]
                                  clear hins hreq h0 hP h2
                                  go_wp2_with fail
                                  go_meet
                                  case rel => exact ⟨false, rfl, hv.out, rfl⟩
                        case rest =>
                          obtain ⟨C, hcv, hC, hw⟩ := hcut
                          subst hcv
                          have hw2 := hw.symm
                          clear hw
                          subst hw2
                          clear i1 a1
                          have hRP := Lib.hid hP.out.rf
                          have hWP := Lib.hid hP.out.row
                          have hBP := Lib.hid hP.out.bl
                          clear hP
                          cases C with
                          | true =>
                            have hc1 : Hid (S.come i j = ((S.pop i j).hear j x).defer j i) := by unfold Hid; rw [hc0.out]; exact if_pos hC.symm
                            clear hC hc0
                            go_wp2_with fail
                            have h0 := hRP.out.wcell hj
                            have hRa := Lib.hid (hRP.out.alloc (.cells #[.int .i64 (i : Int)] 3))
                            have hWa := Lib.hid (hWP.out.alloc (.cells #[.int .i64 (i : Int)] 3))
                            have hBa := Lib.hid (hBP.out.alloc hRP.out.sz (.cells #[.int .i64 (i : Int)] 3))
                            have a0 := hRa.out.wcell hj
                            have a2 := hWa.out.cell (i := 1) (by simp)
                            simp only [List.getElem_cons_zero, List.getElem_cons_succ] at a2
                            have a1 := hRa.out.vars.2.2.2
                            have hnw : Hid (∀ w' : World, w'.heap = (w6.alloc (.cells #[.int .i64 (i : Int)] 3)).heap → w'.cell? ⟨w6.heap.size, 0, none⟩ = some (.int .i64 (i : Int))) := fun w' e => (Row.block (Row.made w6 3 [.int .i64 (i : Int)]) (by rw [e])).cell (i := 0) (by simp)
                            obtain ⟨v0, hv0⟩ : ∃ v0, Hid (vs (n + j) = v0) := ⟨_, rfl⟩
                            rw [hv0.out] at h0 a0
                            have hq0 := hRa.out.fam (n + j) (by omega)
                            rw [hv0.out] at hq0
                            have hQ : Hid (∀ w' : World, w'.heap = (w6.alloc (.cells #[.int .i64 (i : Int)] 3)).heap → Que w' b.bn v0 (f (n + j))) := fun w' e => hq0.block fun g _ => by rw [e]
                            have hsz : b.bn ≤ w6.heap.size := hRP.out.sz
                            have hszA : Hid (b.bn ≤ (w6.alloc (.cells #[.int .i64 (i : Int)] 3)).heap.size) := hRa.out.sz
                            have hlq : (f (n + j)).length ≤ 1000 := by have := hlf0.out (n + j) (by omega); omega
                            have hn1 : Hid (v0.ownBlock ≠ some b.H) := hq0.ne_row hRa.out.rH (by decide)
                            have hn2 : Hid (v0.ownBlock ≠ some b.bh) := hq0.ne_row hRa.out.rh (by decide)
                            have hn3 : Hid (v0.ownBlock ≠ some bm) := hq0.ne_row hWa.out (by decide)
                            have hn4 : Hid (v0.ownBlock ≠ some b.W) := hq0.ne_row hRa.out.rW (by decide)
                            have hm1 : Hid ((⟨b.W, j, none⟩ : Addr) ≠ ⟨b.bh, 0, none⟩) := fun e => rowG_ne hRP.out.rW hRP.out.rh (by decide) (by injection e)
                            have hm2 : Hid ((⟨b.W, j, none⟩ : Addr) ≠ ⟨bm, 1, none⟩) := fun e => rowG_ne hRP.out.rW hWP.out (by decide) (by injection e)
                            have hfl : Hid (∀ a, a < 2 * n → (up1 f (n + j) (f (n + j) ++ [(i : Int)]) a).length ≤ k + 1) := fun a ha => by
                              by_cases e : a = n + j
                              · rw [e, up1_same, List.length_append]; have := hlf0.out (n + j) (by omega); simp; omega
                              · rw [up1_other _ _ e]; exact Nat.le_succ_of_le (hlf0.out a ha)
                            refine held_letter (fun w' => w'.cell? ⟨bm, 1, none⟩ = some (.int .i64 (i : Int))) (by kernel_rfl) (fun _ _ d _ _ h => by cases d <;> exact h) ?_ (fun Q hpan hQn hHeld => ?_)
                            · exact y1
                            refine take_dst (i := 0) (v := ?_) (some 244) rfl rfl (by kernel_rfl) (by kernel_rfl) (by kernel_rfl) hpan (Or.inl ⟨by rfl, ?_⟩) (by assumption) ?_
                            rotate_left
                            · (intro w hSw; (try dsimp only at hSw); first | (go_simp; done) | (go_simp; with_reducible rfl))
                            try simp only [List.getElem_toArray, List.getElem_cons_zero, List.getElem_cons_succ, Act.put, List.setIfInBounds_toArray, List.set_cons_zero, List.set_cons_succ]
                            refine take_dst (i := 1) (v := ?_) (some 245) rfl rfl (by kernel_rfl) (by kernel_rfl) (by kernel_rfl) hpan (Or.inl ⟨by rfl, ?_⟩) (by assumption) ?_
                            rotate_left
                            · (intro w hSw; (try dsimp only at hSw); first | (go_simp; done) | (go_simp; with_reducible rfl))
                            try simp only [List.getElem_toArray, List.getElem_cons_zero, List.getElem_cons_succ, Act.put, List.setIfInBounds_toArray, List.set_cons_zero, List.set_cons_succ]
                            refine take_dst (i := 2) (v := ?_) (some 246) rfl rfl (by kernel_rfl) (by kernel_rfl) (by kernel_rfl) hpan (Or.inl ⟨by rfl, ?_⟩) (by assumption) ?_
                            rotate_left
                            · (intro w hSw; (try dsimp only at hSw); first | (go_simp; done) | (go_simp; with_reducible rfl))
                            try simp only [List.getElem_toArray, List.getElem_cons_zero, List.getElem_cons_succ, Act.put, List.setIfInBounds_toArray, List.set_cons_zero, List.set_cons_succ]
                            refine take_dst (i := 3) (v := ?_) (some 247) rfl rfl (by kernel_rfl) (by kernel_rfl) (by kernel_rfl) hpan (Or.inl ⟨by rfl, ?_⟩) (by assumption) ?_
                            rotate_left
                            · (intro w hSw; (try dsimp only at hSw); first | (go_simp; done) | (go_simp; with_reducible rfl))
                            try simp only [List.getElem_toArray, List.getElem_cons_zero, List.getElem_cons_succ, Act.put, List.setIfInBounds_toArray, List.set_cons_zero, List.set_cons_succ]
                            refine take_dst (i := 4) (v := ?_) (some 248) rfl rfl (by kernel_rfl) (by kernel_rfl) (by kernel_rfl) hpan (Or.inl ⟨by rfl, ?_⟩) (by assumption) ?_
                            rotate_left
                            · (intro w hSw; (try dsimp only at hSw); first | (go_simp; done) | (go_simp; with_reducible rfl))
                            try simp only [List.getElem_toArray, List.getElem_cons_zero, List.getElem_cons_succ, Act.put, List.setIfInBounds_toArray, List.set_cons_zero, List.set_cons_succ]
                            refine take_dst (i := 6) (v := ?_) (some 250) rfl rfl (by kernel_rfl) (by kernel_rfl) (by kernel_rfl) hpan (Or.inl ⟨by rfl, ?_⟩) (by assumption) ?_
                            rotate_left
                            · (intro w hSw; (try dsimp only at hSw); first | (go_simp; done) | (go_simp; with_reducible rfl))
                            try simp only [List.getElem_toArray, List.getElem_cons_zero, List.getElem_cons_succ, Act.put, List.setIfInBounds_toArray, List.set_cons_zero, List.set_cons_succ]
                            refine take_dst (i := 7) (v := ?_) (some 251) rfl rfl (by kernel_rfl) (by kernel_rfl) (by kernel_rfl) hpan (Or.inl ⟨by rfl, ?_⟩) (by assumption) ?_
                            rotate_left
                            · (intro w hSw; (try dsimp only at hSw); first | (go_simp; done) | (go_simp; with_reducible rfl))
                            try simp only [List.getElem_toArray, List.getElem_cons_zero, List.getElem_cons_succ, Act.put, List.setIfInBounds_toArray, List.set_cons_zero, List.set_cons_succ]
                            refine wpAnyH_ready (rs := [5, 8]) (by kernel_rfl) (by simp) ?_
                            refine AllReadyH.cons rfl (fun K hK => ?_) (AllReadyH.cons rfl (fun K hK => ?_) AllReadyH.nil)
                            · go_simp
                              refine hK.out _ _ ?_ (fun hHeld => ?_)
                              · exact hHeld
                              clear hK K
                              try simp only [List.getElem_toArray, List.getElem_cons_zero, List.getElem_cons_succ, Act.put, List.setIfInBounds_toArray, List.set_cons_zero, List.set_cons_succ]
                              refine wpAnyH_ready (rs := [8]) (by kernel_rfl) (by simp) ?_
                              refine AllReadyH.cons rfl (fun K hK => ?_) AllReadyH.nil
                              go_simp
                              refine hK.out _ _ ?_ (fun hHeld => ?_)
                              · exact a2
                              clear hK K
                              try simp only [List.getElem_toArray, List.getElem_cons_zero, List.getElem_cons_succ, Act.put, List.setIfInBounds_toArray, List.set_cons_zero, List.set_cons_succ]
                              refine wpAnyH_ready (rs := [9]) (by kernel_rfl) (by simp) ?_
                              refine AllReadyH.cons rfl (fun K hK => ?_) AllReadyH.nil
                              refine step_append_que rfl (.tmp 249) (.tmp 252) rfl ji hJi.out hJz.out hJs.out hJb.out b.bn v0 (f (n + j)) rfl (hQ.out _ rfl) (by simp; omega) hlq ⟨w6.heap.size, 0, none⟩ (i : Int) rfl (hnw.out _ rfl) ?_
                              intro va wa hQ2 hg2 hat2
                              obtain ⟨Av, cv, hva, -, -, -⟩ := hQ2.shape
                              obtain ⟨lv, hlv⟩ : ∃ lv, (f (n + j) ++ [(i : Int)]).length = lv := ⟨_, rfl⟩
                              rw [hlv] at hva
                              clear hlv
                              subst hva
                              have hgr : (w6.alloc (.cells #[.int .i64 (i : Int)] 3)).grownBy wa v0.ownBlock := ⟨hg2.os, hg2.tape, hg2.output, hg2.size, hg2.block⟩
                              have e0 : wa.cell? ⟨b.W, j, none⟩ = some v0 := hgr.cell a0 (fun e => hn4.out e.symm)
                              have e2 : wa.cell? ⟨bm, 1, none⟩ = some (.int .i64 (i : Int)) := hgr.cell a2 (fun e => hn3.out e.symm)
                              have ef : wa.frozen? ⟨b.W, j, none⟩ = false := (hRa.out.rW.grown hgr (fun e => hn4.out e.symm)).frozen j
                              have hke := e2
                              have hk : ∀ v, (wa.setCell ⟨b.W, j, none⟩ v).cell? ⟨bm, 1, none⟩ = some (.int .i64 (i : Int)) := fun v => (World.cell?_setCell_other _ _ _ _ hm2.out).trans e2
                              refine hK.out _ _ ?_ (fun hHeld => ?_)
                              · exact hke
                              clear hK K
                              try simp only [List.getElem_toArray, List.getElem_cons_zero, List.getElem_cons_succ, Act.put, List.setIfInBounds_toArray, List.set_cons_zero, List.set_cons_succ]
                              refine take_dst (i := 10) (v := ?_) (some 254) rfl rfl (by kernel_rfl) (by kernel_rfl) (by kernel_rfl) hpan (Or.inl ⟨by rfl, ?_⟩) (by assumption) ?_
                              rotate_left
                              · (intro w hSw; (try dsimp only at hSw); first | (go_simp; done) | (go_simp; with_reducible rfl))
                              try simp only [List.getElem_toArray, List.getElem_cons_zero, List.getElem_cons_succ, Act.put, List.setIfInBounds_toArray, List.set_cons_zero, List.set_cons_succ]
                              refine wpAnyH_ready (rs := [11]) (by kernel_rfl) (by simp) ?_
                              refine AllReadyH.cons rfl (fun K hK => ?_) AllReadyH.nil
                              go_simp
                              refine hK.out _ _ ?_ (fun hHeld => ?_)
                              · exact hk _
                              clear hK K
                              try simp only [List.getElem_toArray, List.getElem_cons_zero, List.getElem_cons_succ, Act.put, List.setIfInBounds_toArray, List.set_cons_zero, List.set_cons_succ]
                              refine wpAnyH_done (by kernel_rfl) ?_ _
                              refine hQn _ _ ?_
                              clear hpan hQn
                              have hR8 := Lib.hid (hRa.out.putQ (j := n + j) (T := b.W) (i := j) (.inr ⟨rfl, rfl, hj⟩) hQ2 (by rw [hv0.out]; exact hgr) (by rw [hv0.out]; rcases hat2 with h | h; exact .inr (.inl h); exact .inr (.inr ⟨_, h, Nat.le_refl _⟩)))
                              have hB8 := Lib.hid ((hBa.out.grown hgr hszA.out (fun q hq => ((hQ.out _ rfl).lt hq).1)).setCell (p := ⟨b.W, j, none⟩) hRa.out.lo.2.2.2.2.2.2.2.2.2.2 (.slice Av lv cv))
                              clear hk hke e0 e2 ef hgr hQ2 hg2 hat2 a0 a1 a2 hRa hWa hBa x0 x1 x2 x3 y1 h0
                              generalize wa.setCell ⟨b.W, j, none⟩ (.slice Av lv cv) = w8 at *
                              have hrelc : Hid (RtCut w b.bn n b l k (.slice A5 L5.length c5) (.int .i64 0) w8) := RtCut.of hst'.out hcd'.out (by
                                rw [hc1.out]
                                exact ⟨hR8.out, hRLH.out, hF4.out.defer hi hj x, by have := hl5.out; unfold Hid at this; omega, hfl.out, hB8.out⟩)
                              clear hR8 hB8
                              go_wp2_with fail
                              go_meet
                              case rel => exact hrelc.out
                            · go_simp
                              refine hK.out _ _ ?_ (fun hHeld => ?_)
                              · exact a2
                              clear hK K
                              try simp only [List.getElem_toArray, List.getElem_cons_zero, List.getElem_cons_succ, Act.put, List.setIfInBounds_toArray, List.set_cons_zero, List.set_cons_succ]
                              refine wpAnyH_ready (rs := [5]) (by kernel_rfl) (by simp) ?_
                              refine AllReadyH.cons rfl (fun K hK => ?_) AllReadyH.nil
                              go_simp
                              refine hK.out _ _ ?_ (fun hHeld => ?_)
                              · exact hHeld
                              clear hK K
                              try simp only [List.getElem_toArray, List.getElem_cons_zero, List.getElem_cons_succ, Act.put, List.setIfInBounds_toArray, List.set_cons_zero, List.set_cons_succ]
                              refine wpAnyH_ready (rs := [9]) (by kernel_rfl) (by simp) ?_
                              refine AllReadyH.cons rfl (fun K hK => ?_) AllReadyH.nil
                              refine step_append_que rfl (.tmp 249) (.tmp 252) rfl ji hJi.out hJz.out hJs.out hJb.out b.bn v0 (f (n + j)) rfl (hQ.out _ rfl) (by simp; omega) hlq ⟨w6.heap.size, 0, none⟩ (i : Int) rfl (hnw.out _ rfl) ?_
                              intro va wa hQ2 hg2 hat2
                              obtain ⟨Av, cv, hva, -, -, -⟩ := hQ2.shape
                              obtain ⟨lv, hlv⟩ : ∃ lv, (f (n + j) ++ [(i : Int)]).length = lv := ⟨_, rfl⟩
                              rw [hlv] at hva
                              clear hlv
                              subst hva
                              have hgr : (w6.alloc (.cells #[.int .i64 (i : Int)] 3)).grownBy wa v0.ownBlock := ⟨hg2.os, hg2.tape, hg2.output, hg2.size, hg2.block⟩
                              have e0 : wa.cell? ⟨b.W, j, none⟩ = some v0 := hgr.cell a0 (fun e => hn4.out e.symm)
                              have e2 : wa.cell? ⟨bm, 1, none⟩ = some (.int .i64 (i : Int)) := hgr.cell a2 (fun e => hn3.out e.symm)
                              have ef : wa.frozen? ⟨b.W, j, none⟩ = false := (hRa.out.rW.grown hgr (fun e => hn4.out e.symm)).frozen j
                              have hke := e2
                              have hk : ∀ v, (wa.setCell ⟨b.W, j, none⟩ v).cell? ⟨bm, 1, none⟩ = some (.int .i64 (i : Int)) := fun v => (World.cell?_setCell_other _ _ _ _ hm2.out).trans e2
                              refine hK.out _ _ ?_ (fun hHeld => ?_)
                              · exact hke
                              clear hK K
                              try simp only [List.getElem_toArray, List.getElem_cons_zero, List.getElem_cons_succ, Act.put, List.setIfInBounds_toArray, List.set_cons_zero, List.set_cons_succ]
                              refine take_dst (i := 10) (v := ?_) (some 254) rfl rfl (by kernel_rfl) (by kernel_rfl) (by kernel_rfl) hpan (Or.inl ⟨by rfl, ?_⟩) (by assumption) ?_
                              rotate_left
                              · (intro w hSw; (try dsimp only at hSw); first | (go_simp; done) | (go_simp; with_reducible rfl))
                              try simp only [List.getElem_toArray, List.getElem_cons_zero, List.getElem_cons_succ, Act.put, List.setIfInBounds_toArray, List.set_cons_zero, List.set_cons_succ]
                              refine wpAnyH_ready (rs := [11]) (by kernel_rfl) (by simp) ?_
                              refine AllReadyH.cons rfl (fun K hK => ?_) AllReadyH.nil
                              go_simp
                              refine hK.out _ _ ?_ (fun hHeld => ?_)
                              · exact hk _
                              clear hK K
                              try simp only [List.getElem_toArray, List.getElem_cons_zero, List.getElem_cons_succ, Act.put, List.setIfInBounds_toArray, List.set_cons_zero, List.set_cons_succ]
                              refine wpAnyH_done (by kernel_rfl) ?_ _
                              refine hQn _ _ ?_
                              clear hpan hQn
                              have hR8 := Lib.hid (hRa.out.putQ (j := n + j) (T := b.W) (i := j) (.inr ⟨rfl, rfl, hj⟩) hQ2 (by rw [hv0.out]; exact hgr) (by rw [hv0.out]; rcases hat2 with h | h; exact .inr (.inl h); exact .inr (.inr ⟨_, h, Nat.le_refl _⟩)))
                              have hB8 := Lib.hid ((hBa.out.grown hgr hszA.out (fun q hq => ((hQ.out _ rfl).lt hq).1)).setCell (p := ⟨b.W, j, none⟩) hRa.out.lo.2.2.2.2.2.2.2.2.2.2 (.slice Av lv cv))
                              clear hk hke e0 e2 ef hgr hQ2 hg2 hat2 a0 a1 a2 hRa hWa hBa x0 x1 x2 x3 y1 h0
                              generalize wa.setCell ⟨b.W, j, none⟩ (.slice Av lv cv) = w8 at *
                              have hrelc : Hid (RtCut w b.bn n b l k (.slice A5 L5.length c5) (.int .i64 0) w8) := RtCut.of hst'.out hcd'.out (by
                                rw [hc1.out]
                                exact ⟨hR8.out, hRLH.out, hF4.out.defer hi hj x, by have := hl5.out; unfold Hid at this; omega, hfl.out, hB8.out⟩)
                              clear hR8 hB8
                              go_wp2_with fail
                              go_meet
                              case rel => exact hrelc.out
                          | false =>
                            have hc1 : Hid (S.come i j = ((S.pop i j).hear j x).put j i 0) := by unfold Hid; rw [hc0.out]; exact if_neg (fun h => by have := hC.trans (show S.later j i x = true from h); cases this)
                            clear hC hc0
                            have hji : Hid (j ≠ i) := fun e => hij e.symm
                            have hRa := Lib.hid (hRP.out.alloc (.cells #[.int .i64 (j : Int), .int .i64 (i : Int), .int .i64 0] 52))
                            have hBa := Lib.hid (hBP.out.alloc hRP.out.sz (.cells #[.int .i64 (j : Int), .int .i64 (i : Int), .int .i64 0] 52))
                            have hnews := Lib.hid (newsL (w := w6) (g := w6.heap.size) ⟨(j : Int), (i : Int), 0⟩ rfl)
                            have hbase : b.bn ≤ (w6.alloc (.cells #[.int .i64 (j : Int), .int .i64 (i : Int), .int .i64 0] 52)).heap.size := hRa.out.sz
                            have hownH := Lib.hid hRa.out.ol
                            have hl5n := hl5.out
                            unfold Hid at hl5n
                            clear hRP hWP hBP
                            go_wp2_with (first
                              | (at_builtin; refine wpList_append_lies _ rfl (.tmp 255) (.tmp 260) 47 rfl b.bn 52 jl (.agg #[.int .i64 0, .int .i64 0, .int .i64 0]) 3 24 Try.underlying47 hLi.out hLz.out hLs.out hLb.out rfl (by decide) (.slice A5 L5.length c5) L5.length (flatL L5) rfl hownH.out ⟨w6.heap.size, 0, none⟩ 1 1 (cellsL ⟨(j : Int), (i : Int), 0⟩) rfl rfl hnews.out (by simp [cellsL, Value.oneCell']) (by omega) (by unfold maxLen; omega) (by omega) hbase _ rfl ?_; intro g5 cap5 w15 hown hgr hat hlt9
                                 have hR2 := Lib.hid (hRa.out.letters (OwnL.push hown) hgr)
                                 have hB2 := Lib.hid (hBa.out.grown hgr hbase (fun q hq => (World.ownsRow.lt hRa.out.ol q hq).1))
                                 clear hown hgr hat hlt9 hRa hBa hownH))
                            have hrelc : Hid (RtCut w b.bn n b l k (.slice (some ⟨g5, 0, none⟩) (L5.length + 1) cap5) (.int .i64 0) w15) := RtCut.of hst'.out hcd'.out (by
                              rw [hc1.out]
                              exact ⟨hR2.out, hRLH.out.put hj hi hji.out 0, hF4.out.same rfl rfl rfl, by simp; omega, fun a ha => Nat.le_succ_of_le (hlf0.out a ha), hB2.out⟩)
                            clear hR2 hB2
                            go_meet
                            case rel => exact hrelc.out
              · have e2 : (mk == 2) = false := by simpa using hk2
                have htw : two = false := by rw [← htwo]; exact e2
                subst htw
                by_cases hk31 : mk = 3
                · subst hk31
                  have hS := Lib.hid (stepT_leave (n := n) (S := tAt n l k) (m := ⟨3, (i : Int), mt, mv'⟩) rfl hgood.1)
                  simp only [Int.toNat_natCast] at hS
                  clear hgood htwo hk1 hk3 hk2
                  as_aux_lemma =>
                    have hlf0 := Lib.hid hM3.out.lf
                    have howeH : Hid (∀ m, ((tAt n l k).off i).owe i m = true → i ≠ m) := fun m h => (hok.out.inv.lowO i m h).2.2
                    clear hok hrH hcs hclH
                    generalize tAt n l k = S at *
                    go_wp2_with fail
                    refine hends.out.mono ?_
                    rintro e w4 ⟨rfl, hB4⟩
                    have hM4 := Lib.hid (hM3.out.below hB4)
                    have hrow4 := Lib.hid (hrow3.out.below hB4 hrow3.out.lt)
                    clear hends hB4 hM3 hrow3 x0 y0 y1 y2 y3
                    have y0 := hrow4.out.cell (i := 0) (by simp)
                    have y1 := hrow4.out.cell (i := 1) (by simp)
                    simp only [List.getElem_cons_zero, List.getElem_cons_succ] at y0 y1
                    obtain ⟨x0, x1, x2, x3⟩ := hM4.out.rf.vars
                    have a1 := BRowG.at_ hM4.out.rf.rI hi
                    cases hins : S.ins i with
                    | false =>
                      rw [hins] at a1
                      have hnb : ¬ (S.ins i = true) := by rw [hins]; simp
                      have hrelc : Hid (RtCut w b.bn n b l k (.slice Al L.length cl) (.int .i64 7) w4) := RtCut.of (by rw [hst.out, hS.out, if_neg hnb]) (by rw [hcd.out, hS.out, if_neg hnb]) (hM4.out.more (Nat.le_succ k))
                      clear hS hst hcd hM4 hrow4 hlf0 hins hnb
                      go_wp2_with fail
                      go_meet
                      case rel => exact hrelc.out
                    | true =>
                      rw [hins] at a1
                      have hst' : Hid (tAt n l (k + 1) = S.leave n i) := by unfold Hid; rw [hst.out, hS.out, if_pos hins]
                      have hcd' : Hid (codeT n l k = 0) := by unfold Hid; rw [hcd.out, hS.out, if_pos hins]
                      have af := Row.frozen hM4.out.rf.rI i
                      have hneI : bm ≠ b.I := rowG_ne hrow4.out hM4.out.rf.rI (by decide)
                      have hini : Hid (LpA w (w4.setCell ⟨b.I, i, none⟩ (.bool false)) b.bn n b (S.off i) ((S.off i).gives i 0).q (7 * k + 0) vs f (.slice Al L.length cl) L vc (codesT n l k) bm [.int .i64 3, .int .i64 (i : Int), .int .i64 mt, .int .i64 mv']) :=
                        ⟨(hM4.out.rf.setI_ i false).congr (fun _ _ => rfl) (fun _ _ => rfl) (fun _ _ => rfl) (fun _ _ => rfl), hM4.out.rl.same (by rw [TS.gives_zero]; rfl), hll, hrow4.out.far (p := ⟨b.I, i, none⟩) hneI _, hM4.out.bl.setCell (p := ⟨b.I, i, none⟩) hM4.out.rf.lo.2.2.2.2.2.2.1 (.bool false)⟩
                      have hown0 : Hid (∀ j, j < n → ((j : Int) ∈ f (n + i) ↔ (S.off i).owe i j = true)) := fun j hj => hM4.out.rF.own i j hi hj
                      have hRF7 := Lib.hid (hM4.out.rF.leave hi)
                      have hlv : Hid (S.leave n i = (S.off i).gives i n) := rfl
                      have hlfi : Hid ((f (n + i)).length ≤ k) := hlf0.out (n + i) (by omega)
                      clear hS hst hcd hM4 hrow4 hins
                      go_wp2_with fail
                      generalize w4.setCell ⟨b.I, i, none⟩ (.bool false) = w5 at *
                      clear x0 x1 x2 x3 y0 y1 a1 af
                      generalize hlvT : S.leave n i = TL at *
                      generalize S.off i = T at *
                      clear hlvT
                      go_loopw [18, 11] (fun t va wr => ∃ (m : Nat) (L' : List Lt), m ≤ n ∧ t = .int .i64 m ∧ LpA w wr b.bn n b T (T.gives i m).q (7 * k + m) vs f va L' vc (codesT n l k) bm [.int .i64 3, .int .i64 (i : Int), .int .i64 mt, .int .i64 mv']) (fun t _ _ => n - (intOf t).toNat)
                      case atStart => exact ⟨0, L, Nat.zero_le _, rfl, hini.out⟩
                      case round =>
                        clear hini
                        obtain ⟨m, L', hm, rfl, hP⟩ := hrel
                        obtain ⟨A9, cap9, hva9, hl1, hl2, -⟩ := hP.rf.ol.shape
                        subst hva9
                        obtain ⟨x0, x1, x2, x3⟩ := hP.rf.vars
                        have y1 := hP.row.cell (i := 1) (by simp)
                        simp only [List.getElem_cons_zero, List.getElem_cons_succ] at y1
                        have h0 := hP.rf.wcell hi
                        obtain ⟨Aq, cq, hvq, hq1, hq2, hqn⟩ := hP.nums (j := n + i) (by omega)
                        have hvqH := Lib.hid hvq
                        rw [hvq] at h0
                        have hl5 := hP.ll
                        have hPH := Lib.hid hP
                        clear hP hvq
                        by_cases hlt : m < n
                        · have hmI : (m : Int) < (n : Int) := by omega
                          obtain ⟨C, hC⟩ : ∃ C : Bool, T.owe i m = C := ⟨_, rfl⟩
                          have hCi : Hid (C = true ↔ (m : Int) ∈ f (n + i)) := by
                            have := hown0.out m hlt
                            unfold Hid
                            rw [this, hC]
                          have hcall := Lib.hid (hasL_any Aq cq (f (n + i)) (m : Int) wr hqn (by have := hlfi.out; unfold Hid at this; omega) C hCi)
                          have hCH := Lib.hid hC
                          clear hqn hCi hC
                          generalize (f (n + i)).length = lq at *
                          go_wp2_with fail
                          refine hcall.out.mono ?_
                          rintro e w8 ⟨rfl, rfl⟩
                          clear hcall
                          cases C with
                          | false =>
                            have hnx : Hid ((T.gives i m).q = (T.gives i (m + 1)).q) := by unfold Hid; rw [TS.gives_no T hCH.out]
                            go_wp2_with fail
                            go_roundw
                            case rel => exact ⟨m + 1, L', by omega, by go_num, hPH.out.rf, hPH.out.rl.same hnx.out.symm, by omega, hPH.out.row, hPH.out.bl⟩
                            case measure => simp [intOf]; omega
                          | true =>
                            have hnx := Lib.hid (gives_q T (i := i) (m := m) hCH.out)
                            have hne := Lib.hid (howeH.out m hCH.out)
                            have hRa := Lib.hid (hPH.out.rf.alloc (.cells #[.int .i64 (i : Int), .int .i64 (m : Int), .int .i64 0] 52))
                            have hWa := Lib.hid (hPH.out.row.alloc (.cells #[.int .i64 (i : Int), .int .i64 (m : Int), .int .i64 0] 52))
                            have hBa := Lib.hid (hPH.out.bl.alloc hPH.out.rf.sz (.cells #[.int .i64 (i : Int), .int .i64 (m : Int), .int .i64 0] 52))
                            have hnews := Lib.hid (newsL (w := wr) (g := wr.heap.size) ⟨(i : Int), (m : Int), 0⟩ rfl)
                            have hbase : b.bn ≤ (wr.alloc (.cells #[.int .i64 (i : Int), .int .i64 (m : Int), .int .i64 0] 52)).heap.size := hRa.out.sz
                            have hownH := Lib.hid hRa.out.ol
                            go_wp2_with (first
                              | (at_builtin; refine wpList_append_lies _ rfl (.tmp 162) (.tmp 167) 47 rfl b.bn 52 jl (.agg #[.int .i64 0, .int .i64 0, .int .i64 0]) 3 24 Try.underlying47 hLi.out hLz.out hLs.out hLb.out rfl (by decide) (.slice A9 L'.length cap9) L'.length (flatL L') rfl hownH.out ⟨wr.heap.size, 0, none⟩ 1 1 (cellsL ⟨(i : Int), (m : Int), 0⟩) rfl rfl hnews.out (by simp [cellsL, Value.oneCell']) (by omega) (by unfold maxLen; omega) (by omega) hbase _ rfl ?_; intro g5 cap5 w15 hown hgr hat hlt9
                                 have hR2 := Lib.hid (hRa.out.letters (OwnL.push hown) hgr)
                                 have hW2 := Lib.hid (hWa.out.grown hgr (fun e => owns_ne_row hRa.out.ol hWa.out (by decide) e.symm))
                                 have hB2 := Lib.hid (hBa.out.grown hgr hbase (fun q hq => (World.ownsRow.lt hRa.out.ol q hq).1))
                                 clear hown hgr hat hlt9 hRa hWa hBa hownH))
                            go_roundw
                            case rel => exact ⟨m + 1, L' ++ [⟨(i : Int), (m : Int), 0⟩], by omega, by go_num, hR2.out, (hPH.out.rl.put hi hlt hne.out 0).same hnx.out, by simp; omega, hW2.out, hB2.out⟩
                            case measure => simp [intOf]; omega
                        · have hmn : m = n := by omega
                          subst hmn
                          have hf := hPH.out.rf.rW.frozen i
                          have hneW : bm ≠ b.W := rowG_ne hPH.out.row hPH.out.rf.rW (by decide)
                          have hR7 : RfT (wr.setCell ⟨b.W, i, none⟩ snil) b.bn m b (up1 vs (m + i) snil) (up1 f (m + i) []) T.clk (askT T) T.ins (.slice A9 L'.length cap9) L' vc (codesT m l k) R0T := hPH.out.rf.putQ (j := m + i) (.inr ⟨rfl, rfl, hi⟩) (.nil _ _) (grownBy_refl _ _) (.inl rfl)
                          have hrelc : Hid (RtCut w b.bn m b l k (.slice A9 L'.length cap9) (.int .i64 0) (wr.setCell ⟨b.W, i, none⟩ (.slice none 0 0))) := RtCut.of hst'.out hcd'.out (by
                            rw [hlv.out]
                            rw [hlv.out] at hRF7
                            exact ⟨hR7, hPH.out.rl, hRF7.out, by omega, fun j hj => by
                              by_cases e : j = m + i
                              · rw [e, up1_same]; simp
                              · rw [up1_other _ _ e]; exact Nat.le_succ_of_le (hlf0.out j hj), hPH.out.bl.setCell (p := ⟨b.W, i, none⟩) hPH.out.rf.lo.2.2.2.2.2.2.2.2.2.2 snil⟩)
                          clear hR7 hPH hRF7 hvqH
                          go_wp2_with fail
                          go_meet
                          case rel => exact hrelc.out
                · have hk1' : mk = 1 := by omega
                  subst hk1'
                  have hS := Lib.hid (stepT_want (n := n) (S := tAt n l k) (m := ⟨1, (i : Int), mt, mv'⟩) rfl hgood.1)
                  simp only [Int.toNat_natCast] at hS
                  clear hgood htwo hk1 hk3 hk2 hk31
                  as_aux_lemma =>
                    have hokR := Lib.hid (askT_pos hok.out.inv i)
                    have hclk := hok.out.inv.clk0 i
                    have hclk2 := hok.out.clk i
                    have hlf0 := Lib.hid hM3.out.lf
                    clear hok hrH hcs hclH
                    generalize tAt n l k = S at *
                    go_wp2_with fail
                    refine hends.out.mono ?_
                    rintro e w4 ⟨rfl, hB4⟩
                    have hM4 := Lib.hid (hM3.out.below hB4)
                    have hrow4 := Lib.hid (hrow3.out.below hB4 hrow3.out.lt)
                    clear hends hB4 hM3 hrow3 x0 y0 y1 y2 y3
                    have y0 := hrow4.out.cell (i := 0) (by simp)
                    have y1 := hrow4.out.cell (i := 1) (by simp)
                    simp only [List.getElem_cons_zero, List.getElem_cons_succ] at y0 y1
                    obtain ⟨x0, x1, x2, x3⟩ := hM4.out.rf.vars
                    have a1 := BRowG.at_ hM4.out.rf.rI hi
                    have a2 := IntRow.at_ hM4.out.rf.rA hi
                    cases hins : S.ins i with
                    | true =>
                      rw [hins] at a1
                      have hrelc : Hid (RtCut w b.bn n b l k (.slice Al L.length cl) (.int .i64 7) w4) := RtCut.of (by rw [hst.out, hS.out, if_pos (.inr hins)]) (by rw [hcd.out, hS.out, if_pos (.inr hins)]) (hM4.out.more (Nat.le_succ k))
                      clear hS hst hcd hM4 hrow4 hokR hlf0 hins
                      go_wp2_with fail
                      go_meet
                      case rel => exact hrelc.out
                    | false =>
                      rw [hins] at a1
                      cases hreq : S.req i with
                      | true =>
                        have hp := hokR.out.2 hreq
                        have hrelc : Hid (RtCut w b.bn n b l k (.slice Al L.length cl) (.int .i64 7) w4) := RtCut.of (by rw [hst.out, hS.out, if_pos (.inl hreq)]) (by rw [hcd.out, hS.out, if_pos (.inl hreq)]) (hM4.out.more (Nat.le_succ k))
                        clear hS hst hcd hM4 hrow4 hokR hlf0 hins hreq
                        generalize askT S i = a at *
                        have hpb : decide (0 < a) = true := by simp [hp]
                        go_wp2_with fail
                        go_meet
                        case rel => exact hrelc.out
                      | false =>
                        have hnb : ¬ (S.req i = true ∨ S.ins i = true) := by rw [hreq, hins]; simp
                        have h0 : askT S i = 0 := if_neg (by rw [hreq]; simp)
                        rw [h0] at a2
                        have hst' : Hid (tAt n l (k + 1) = S.request n i) := by unfold Hid; rw [hst.out, hS.out, if_neg hnb]
                        have hcd' : Hid (codeT n l k = 0) := by unfold Hid; rw [hcd.out, hS.out, if_neg hnb]
                        clear hS hst hcd hokR hnb h0 hins hreq
                        have c1 := IntRow.at_ hM4.out.rf.rC hi
                        have cf := Row.frozen hM4.out.rf.rC i
                        have hR5 := Lib.hid ((hM4.out.rf.setC_ i (S.clk i + 1)).drew)
                        have hB5 := Lib.hid ((hM4.out.bl.setCell (p := ⟨b.C, i, none⟩) hM4.out.rf.lo.2.2.2.1 (.int .i64 (S.clk i + 1))).drew)
                        have hW5 : Hid (Row ((w4.setCell ⟨b.C, i, none⟩ (.int .i64 (S.clk i + 1))).drew) bm 38 [.int .i64 1, .int .i64 (i : Int), .int .i64 mt, .int .i64 mv']) := Row.block (hrow4.out.far (p := ⟨b.C, i, none⟩) (rowG_ne hrow4.out hM4.out.rf.rC (by decide)) _) rfl
                        have hRL4 := Lib.hid hM4.out.rl
                        have hRF4 := Lib.hid hM4.out.rF
                        clear hM4 hrow4
                        go_wp2_with fail
                        go_region
                        generalize (w4.setCell ⟨b.C, i, none⟩ (.int .i64 (S.clk i + 1))).drew = w5 at *
                        clear x0 x1 x2 x3 y0 y1 a1 a2 c1 cf
                        obtain ⟨x0, x1, x2, x3⟩ := hR5.out.vars
                        have y1 := hW5.out.cell (i := 1) (by simp)
                        simp only [List.getElem_cons_zero, List.getElem_cons_succ] at y1
                        have c1 := IntRow.at_ hR5.out.rC hi
                        rw [updI_same] at c1
                        have a2 := IntRow.at_ hR5.out.rA hi
                        have af := Row.frozen hR5.out.rA i
                        have hR6 := Lib.hid ((hR5.out.setA_ i (S.clk i + 1)).drew)
                        have hB6 := Lib.hid ((hB5.out.setCell (p := ⟨b.A, i, none⟩) hR5.out.lo.2.2.2.2.1 (.int .i64 (S.clk i + 1))).drew)
                        have hW6 : Hid (Row ((w5.setCell ⟨b.A, i, none⟩ (.int .i64 (S.clk i + 1))).drew) bm 38 [.int .i64 1, .int .i64 (i : Int), .int .i64 mt, .int .i64 mv']) := Row.block (hW5.out.far (p := ⟨b.A, i, none⟩) (rowG_ne hW5.out hR5.out.rA (by decide)) _) rfl
                        clear hR5 hB5 hW5
                        generalize askT S i = a at a2
                        go_wp2_with fail
                        go_region
                        generalize (w5.setCell ⟨b.A, i, none⟩ (.int .i64 (S.clk i + 1))).drew = w6 at *
                        clear x0 x1 x2 x3 y1 a2 c1 af
                        obtain ⟨x0, x1, x2, x3⟩ := hR6.out.vars
                        have y1 := hW6.out.cell (i := 1) (by simp)
                        simp only [List.getElem_cons_zero, List.getElem_cons_succ] at y1
                        have h1 := hR6.out.hcell hi
                        have hf := hR6.out.rH.frozen i
                        have hneH : bm ≠ b.H := rowG_ne hW6.out hR6.out.rH (by decide)
                        have hR7 : RfT (w6.setCell ⟨b.H, i, none⟩ snil) b.bn n b (up1 vs i snil) (up1 f i []) (updI S.clk i (S.clk i + 1)) (updI (askT S) i (S.clk i + 1)) S.ins (.slice Al L.length cl) L vc (codesT n l k) R0T := hR6.out.putQ (j := i) (.inl ⟨rfl, rfl, hi⟩) (.nil _ _) (grownBy_refl _ _) (.inl rfl)
                        have hx : Hid ((S.want n i).num i = S.clk i + 1) := up1_same _ _ _
                        have hreq : Hid (S.request n i = ((S.want n i).asks i (S.clk i + 1) n).enter i) := rfl
                        have hB7 := hB6.out.setCell (p := ⟨b.H, i, none⟩) hR6.out.lo.2.2.2.2.2.2.2.2.1 snil
                        have hini : Hid (LpA w (w6.setCell ⟨b.H, i, none⟩ (.slice none 0 0)) b.bn n b (S.want n i) ((S.want n i).asks i (S.clk i + 1) 0).q (7 * k + 0) (up1 vs i snil) (up1 f i []) (.slice Al L.length cl) L vc (codesT n l k) bm [.int .i64 1, .int .i64 (i : Int), .int .i64 mt, .int .i64 mv']) :=
                          ⟨hR7.congr (fun j _ => rfl) (fun j _ => askT_want n S i j) (fun _ _ => rfl) (fun _ _ => rfl), hRL4.out.same (by rw [TS.asks_zero]; rfl), hll, hW6.out.far (p := ⟨b.H, i, none⟩) hneH _, hB7⟩
                        have hRF7 := Lib.hid (hRF4.out.want hi (S.clk i + 1) n)
                        clear hR6 hB6 hW6 hR7 hB7 hRL4 hRF4
                        generalize hvi : vs i = vi at *
                        clear hvi
                        go_wp2_with fail
                        generalize w6.setCell ⟨b.H, i, none⟩ (.slice none 0 0) = w7 at *
                        clear x0 x1 x2 x3 y1 h1 hf
                        have hfl : Hid (∀ j, j < 2 * n → (up1 f i [] j).length ≤ k + 1) := fun j hj => by
                          by_cases e : j = i
                          · rw [e, up1_same]; simp
                          · rw [up1_other _ _ e]; exact Nat.le_succ_of_le (hlf0.out j hj)
                        have hf0 : Hid (up1 f i [] i = []) := up1_same _ _ _
                        clear hlf0
                        generalize up1 vs i snil = vs' at *
                        generalize up1 f i [] = f' at *
                        have hrq : Hid ((S.want n i).req i = true) := up1_same _ _ _
                        have hxT : Hid (askT (S.want n i) i = S.clk i + 1) := by unfold Hid; rw [← askT_want, updI_same]
                        generalize hxe : S.clk i + 1 = x at *
                        generalize hT : S.want n i = T at *
                        clear hT
                        go_loopw [17, 11] (fun t va wr => ∃ (m : Nat) (L' : List Lt), m ≤ n ∧ t = .int .i64 m ∧ LpA w wr b.bn n b T (T.asks i x m).q (7 * k + m) vs' f' va L' vc (codesT n l k) bm [.int .i64 1, .int .i64 (i : Int), .int .i64 mt, .int .i64 mv']) (fun t _ _ => n - (intOf t).toNat)
                        case atStart => exact ⟨0, L, Nat.zero_le _, rfl, hini.out⟩
                        case round =>
                          clear hini
                          obtain ⟨m, L', hm, rfl, hP⟩ := hrel
                          obtain ⟨A9, cap9, hva9, hl1, hl2, -⟩ := hP.rf.ol.shape
                          subst hva9
                          obtain ⟨x0, x1, x2, x3⟩ := hP.rf.vars
                          have y1 := hP.row.cell (i := 1) (by simp)
                          simp only [List.getElem_cons_zero, List.getElem_cons_succ] at y1
                          have hl5 := hP.ll
                          have hPH := Lib.hid hP
                          clear hP
                          by_cases hlt : m < n
                          · have hmI : (m : Int) < (n : Int) := by omega
                            by_cases e : m = i
                            · have v1 : ((m : Int) != (i : Int)) = false := by simp [e]
                              have hnx : Hid ((T.asks i x m).q = (T.asks i x (m + 1)).q) := by unfold Hid; rw [e, TS.asks_skip]
                              clear e
                              go_wp2_with fail
                              go_roundw
                              case rel => exact ⟨m + 1, L', by omega, by go_num, hPH.out.rf, hPH.out.rl.same hnx.out.symm, by omega, hPH.out.row, hPH.out.bl⟩
                              case measure => simp [intOf]; omega
                            · have v1 : ((m : Int) != (i : Int)) = true := by simp; omega
                              have hnx := Lib.hid (asks_q T (i := i) (m := m) x e)
                              have hne : i ≠ m := fun h => e h.symm
                              have hneH := Lib.hid hne
                              have a1 := IntRow.at_ hPH.out.rf.rA hi
                              have hax : Hid (askT T i = x) := hxT.out
                              rw [hax.out] at a1
                              have hRa0 := hPH.out.rf.alloc (.cells #[.int .i64 (i : Int), .int .i64 (m : Int), .int .i64 x] 52)
                              have hWa0 := hPH.out.row.alloc (.cells #[.int .i64 (i : Int), .int .i64 (m : Int), .int .i64 x] 52)
                              have z0 := hWa0.cell (i := 1) (by simp)
                              simp only [List.getElem_cons_zero, List.getElem_cons_succ] at z0
                              have z1 := hRa0.vars.2.1
                              have z2 := IntRow.at_ hRa0.rA hi
                              rw [hax.out] at z2
                              have hRa := Lib.hid hRa0.drew
                              have hWa : Hid (Row ((wr.alloc (.cells #[.int .i64 (i : Int), .int .i64 (m : Int), .int .i64 x] 52)).drew) bm 38 [.int .i64 1, .int .i64 (i : Int), .int .i64 mt, .int .i64 mv']) := Row.block hWa0 rfl
                              have hBa := Lib.hid ((hPH.out.bl.alloc hPH.out.rf.sz (.cells #[.int .i64 (i : Int), .int .i64 (m : Int), .int .i64 x] 52)).drew)
                              have hnews := Lib.hid (newsL (w := wr) (g := wr.heap.size) ⟨(i : Int), (m : Int), x⟩ rfl)
                              have hbase : b.bn ≤ ((wr.alloc (.cells #[.int .i64 (i : Int), .int .i64 (m : Int), .int .i64 x] 52)).drew).heap.size := hRa.out.sz
                              clear e hne hRa0 hWa0 hax
                              go_wp2_with fail
                              go_region_held3 (fun w' => w'.cell? ⟨bm, 1, none⟩ = some (.int .i64 (i : Int)) ∧ w'.cell? ⟨b.ba, 0, none⟩ = some (.slice (some ⟨b.A, 0, none⟩) n n) ∧ w'.cell? ⟨b.A, i, none⟩ = some (.int .i64 x)) (first | go_keep) (first
                                | (refine step_append_let rfl (.tmp 127) (.tmp 137) rfl jl hLi.out hLz.out hLs.out hLb.out b.bn (.slice A9 L'.length cap9) L' ⟨(i : Int), (m : Int), x⟩ rfl hRa.out.ol ⟨wr.heap.size, 0, none⟩ rfl hnews.out (by omega) hbase ?_
                                   intro v2 w2 hown hgr
                                   have hR2 := Lib.hid (hRa.out.letters hown hgr)
                                   have hW2 := Lib.hid (hWa.out.grown hgr (fun e => owns_ne_row hRa.out.ol hWa.out (by decide) e.symm))
                                   have hB2 := Lib.hid (hBa.out.grown hgr hbase (fun q hq => (World.ownsRow.lt hRa.out.ol q hq).1))
                                   have k1 := hW2.out.cell (i := 1) (by simp)
                                   simp only [List.getElem_cons_zero, List.getElem_cons_succ] at k1
                                   have k2 := hR2.out.vars.2.1
                                   have k3 := IntRow.at_ hR2.out.rA hi
                                   rw [hxT.out] at k3
                                   clear hown hgr hRa hWa hBa))
                              go_wp2_with fail
                              go_roundw
                              case rel => exact ⟨m + 1, L' ++ [⟨(i : Int), (m : Int), x⟩], by omega, by go_num, hR2.out, (hPH.out.rl.put hi hlt hneH.out x).same hnx.out, by simp; omega, hW2.out, hB2.out⟩
                              case measure => simp [intOf]; omega
                          · have hmn : m = n := by omega
                            subst hmn
                            have hl0 : (f' i).length = 0 := by rw [hf0.out]; rfl
                            have hpos : 0 < askT (T.asks i x m) i := by show 0 < askT T i; rw [hxT.out]; omega
                            have hav := hRF7.out.hav i hi hrq.out
                            have hcall := Lib.hid (entR_any wr b.bn m b vs' f' T.clk (askT T) (askT ((T.asks i x m).enter i)) T.ins ((T.asks i x m).enter i).ins _ L' vc (codesT m l k) R0T hPH.out.rf i hi hn (by rw [hl0]; omega) (fun h => ent_yes (T := T.asks i x m) hrq.out hav h) (fun h => ent_no (T := T.asks i x m) hpos hav h))
                            clear hl0 hav hpos
                            go_wp2_with fail
                            refine hcall.out.mono ?_
                            rintro e w8 ⟨rfl, hR8, hB8⟩
                            have hrelc : Hid (RtCut w b.bn m b l k (.slice A9 L'.length cap9) (.int .i64 0) w8) := RtCut.of hst'.out hcd'.out (by
                              rw [hreq.out]
                              exact ⟨hR8.congr (fun j _ => by rw [enter_clk]; rfl) (fun _ _ => rfl) (fun _ _ => rfl) (fun _ _ => rfl), hPH.out.rl.same (enter_q _ _).1, hRF7.out.enter i, by omega, hfl.out, hPH.out.bl.trans hB8⟩)
                            clear hcall hR8 hB8 hPH hRF7 x0 x1 x2 x3 y1
                            go_wp2_with fail
                            go_meet
                            case rel => exact hrelc.out
            · as_aux_lemma =>
                have hends := Lib.hid (ends_any w3 n ⟨mk, mf, mt, mv'⟩ two false ⟨(nomatch ·), fun h => absurd ⟨h.1, fun h3 => h.2 (by rw [← htwo]; simp [h3])⟩ hgood⟩)
                have hS : Hid (stepT n (tAt n l k) ⟨mk, mf, mt, mv'⟩ = (tAt n l k, 2)) := by
                  by_cases hf : 0 ≤ mf ∧ mf < n
                  · have h3 : mk = 2 := by
                      by_cases h3 : mk = 2
                      · exact h3
                      · exact absurd ⟨hf, fun h => absurd h h3⟩ hgood
                    refine stepT_to h3 hf ?_
                    simp only
                    by_cases ht : 0 ≤ mt ∧ mt < n
                    · right
                      apply Classical.byContradiction
                      intro hne
                      exact hgood ⟨hf, fun _ => ⟨ht, fun e => hne e.symm⟩⟩
                    · exact .inl ht
                  · exact stepT_from (by simp only; omega) hf
                have hst' := Lib.hid (hst.out.trans (congrArg Prod.fst hS.out))
                have hcd' := Lib.hid (hcd.out.trans (congrArg Prod.snd hS.out))
                simp only at hends
                clear hS hst hcd hgood
                go_wp2_with fail
                refine hends.out.mono ?_
                rintro e w4 ⟨rfl, hB4⟩
                have hrelc : Hid (RtCut w b.bn n b l k (.slice Al L.length cl) (.int .i64 2) w4) := RtCut.of hst'.out hcd'.out ((hM3.out.below hB4).more (Nat.le_succ k))
                clear hends hB4 hM3 hrow3 hst' hcd'
                go_wp2_with fail
                go_meet
                case rel => exact hrelc.out
        case rest =>
          obtain ⟨vs', f', L', vc', he', hMc⟩ := hcut
          generalize hcC : codeT n l k = c at *
          subst he'
          clear hM3 hrow3 hst hcd
          obtain ⟨Ac, capc, hvc, hcc1, hcc2, -⟩ := hMc.rf.oc.shape
          rw [hclH.out] at hvc hcc1
          subst hvc
          have hMa := hMc.rf.alloc (.cells #[.int .i64 c] 27)
          have hBa := Lib.hid (hMc.bl.alloc hMc.rf.sz (.cells #[.int .i64 c] 27))
          have hc0 := hMc.rf.rt.cell (i := 0) (by simp)
          simp only [List.getElem_cons_zero] at hc0
          have hown0 := hMa.oc
          unfold OwnC at hown0
          rw [hclH.out] at hown0
          have hneT : Hid ((Value.slice Ac k capc).ownBlock ≠ some b.bt) := owns_ne_row hMa.oc hMa.rt (by decide)
          have hbase : b.bn ≤ (wc.alloc (.cells #[.int .i64 c] 27)).heap.size := hMa.sz
          have hnews := Lib.hid (newsV (w := wc) (g := wc.heap.size) (.int .i64 c) 27 rfl)
          have hMaH := Lib.hid hMa
          have hownH := Lib.hid hown0
          have hRLH := Lib.hid hMc.rl
          have hRFH := Lib.hid hMc.rF
          have hLLH := Lib.hid hMc.ll
          have hLFH := Lib.hid hMc.lf
          have hcCH := Lib.hid hcC
          clear hMa hown0 hMc hcC hok hrH
          go_wp2_with (first
            | (at_builtin; refine wpList_append_lies _ rfl (.tmp 263) (.tmp 265) 23 rfl b.bn 27 je (.int .i64 0) 1 8 Try.underlying23 hEi.out hEz.out hEs.out hEb.out rfl (by decide) (.slice Ac k capc) k (codG (codesT n l k)) rfl hownH.out ⟨wc.heap.size, 0, none⟩ 1 1 [.int .i64 c] rfl rfl hnews.out (by simp [Value.oneCell']) (by omega) (by unfold maxLen; omega) (by omega) hbase _ rfl ?_; intro g5 cap5 w15 hown hgr hat hlt9
               have f1 := hMaH.out.rt.grown hgr (fun e => hneT.out e.symm)
               have o5 := f1.cell (i := 0) (by simp)
               simp only [List.getElem_cons_zero] at o5
               have of5 := f1.frozen 0
               have hpush : OwnC w15 b.bn (.slice (some ⟨g5, 0, none⟩) (k + 1) cap5) (codesT n l (k + 1)) := by
                 rw [hcs.out]
                 have := OwnC.push (cs := codesT n l k) (c := c) (w := w15) (B := b.bn) (g := g5) (cap := cap5) (by rw [hclH.out]; exact hown)
                 rw [hclH.out] at this
                 exact this
               have hnext : Hid (RtRel w b.bn n b l (k + 1) u11 (w15.setCell ⟨b.bt, 0, none⟩ (.slice (some ⟨g5, 0, none⟩) (k + 1) cap5))) := ⟨_, _, _, _, hMaH.out.code hpush hgr, hRLH.out, hRFH.out, hLLH.out, hLFH.out, ((hBa.out.grown hgr hbase (fun q hq => (World.ownsRow.lt hMaH.out.oc q hq).1)).setCell (p := ⟨b.bt, 0, none⟩) hMaH.out.lo.2.2.1 _)⟩
               clear hown hgr hat hlt9 f1 hMaH hBa hownH hpush))
          go_roundg (l.length - (k + 1))
          case measure => have := hgkH.out; omega
          case rel => exact ⟨k + 1, by omega, rfl, by go_num, hnext.out⟩
    · have hkl : k = l.length := by omega
      as_aux_lemma =>
        subst hkl
        have hok := OkT.at_ n l (k := l.length) (by omega)
        have hclH := Lib.hid (codesT_len n l l.length)
        have hwd : Hid ((L.length : Int) = wayT n (tAt n l l.length)) := hMH.out.rl.len fun i => by
          by_cases e : (tAt n l l.length).q i i = []
          · exact e
          · exact absurd rfl (hok.inv.lowQ i i e).2.2
        have hap : Hid (∀ i, 0 < askT (tAt n l l.length) i ↔ (tAt n l l.length).req i = true) := askT_pos hok.inv
        have hll := hMH.out.ll
        clear hok
        obtain ⟨S, hS⟩ : ∃ S, Hid (tAt n l l.length = S) := ⟨_, rfl⟩
        rw [hS.out] at hMH hwd hap
        obtain ⟨cs, hcsE⟩ : ∃ cs, Hid (codesT n l l.length = cs) := ⟨_, rfl⟩
        rw [hcsE.out] at hMH hclH
        have hrelw : Hid (RtW w b.bn n b S vs f (.slice Al L.length cl) L vc cs 0 0 wr) := ⟨hMH.out.rf, hMH.out.bl⟩
        clear hMH
        go_wp2_with fail
        go_loopw [21] (fun t wr => ∃ i : Nat, i ≤ n ∧ t = .int .i64 i ∧ RtW w b.bn n b S vs f (.slice Al L.length cl) L vc cs (wordB i S.ins) (wordB i S.req) wr) (fun t _ => n - (intOf t).toNat)
        case atStart => exact ⟨0, Nat.zero_le _, rfl, hrelw.out⟩
        case round =>
          clear hrelw
          obtain ⟨i, hin, rfl, hM, hB⟩ := hrel
          obtain ⟨x0, x1, x2, x3⟩ := hM.vars
          by_cases hlti : i < n
          · have hiI : (i : Int) < (n : Int) := by omega
            have hi32 : (i : Int) < 32 := by omega
            have hi0 : ¬ (i : Int) < 0 := by omega
            have a1 := BRowG.at_ hM.rI hlti
            have a2 := IntRow.at_ hM.rA hlti
            have t1 := hM.rt.cell (i := 1) (by simp)
            have t1f := hM.rt.frozen 1
            have t2 := hM.rt.cell (i := 2) (by simp)
            have t2f := hM.rt.frozen 2
            simp only [List.getElem_cons_zero, List.getElem_cons_succ] at t1 t2
            have hV := wordB_small (k := i) (by omega) S.ins
            have hW := wordB_small (k := i) (by omega) S.req
            have haddV := add_wordT hV (i := i) (by omega)
            have haddW := add_wordT hW (i := i) (by omega)
            have hneA : b.A ≠ b.bt := rowG_ne hM.rA hM.rt (by decide)
            have hneba : b.ba ≠ b.bt := rowG_ne hM.ra hM.rt (by decide)
            have hlt3 := hM.lo.2.2.1
            cases hins : S.ins i with
            | false =>
              rw [hins] at a1
              cases hreq : S.req i with
              | false =>
                have hz : decide (0 < askT S i) = false := by have := (hap.out i); rw [hreq] at this; simpa using this
                have hnx : Hid (RtW w b.bn n b S vs f (.slice Al L.length cl) L vc cs (wordB (i + 1) S.ins) (wordB (i + 1) S.req) wr) := ⟨by rw [wordB_skip i S.ins hins, wordB_skip i S.req hreq]; exact hM, hB⟩
                clear hM hB hins hreq hV hW hap x3
                generalize askT S i = a at *
                generalize wordB i S.ins = V at *
                generalize wordB i S.req = U at *
                go_wp2_with fail
                go_roundw
                case rel => exact ⟨i + 1, by omega, by go_num, hnx.out⟩
                case measure => simp [intOf]; omega
              | true =>
                have hz : decide (0 < askT S i) = true := by have := (hap.out i); rw [hreq] at this; simpa using this
                have hnx : Hid (RtW w b.bn n b S vs f (.slice Al L.length cl) L vc cs (wordB (i + 1) S.ins) (wordB (i + 1) S.req) (wr.setCell ⟨b.bt, 2, none⟩ (.int .u32 ((wordB i S.req + 2 ^ i : Nat) : Int)))) := ⟨by rw [wordB_skip i S.ins hins, wordB_add i S.req hreq]; exact hM.setR 1 _, hB.setCell (p := ⟨b.bt, 2, none⟩) hlt3 _⟩
                clear hM hB hins hreq hV hW hap x3
                generalize askT S i = a at *
                generalize wordB i S.ins = V at *
                generalize wordB i S.req = U at *
                go_wp2_with fail
                go_roundw
                case rel => exact ⟨i + 1, by omega, by go_num, hnx.out⟩
                case measure => simp [intOf]; omega
            | true =>
              rw [hins] at a1
              cases hreq : S.req i with
              | false =>
                have hz : decide (0 < askT S i) = false := by have := (hap.out i); rw [hreq] at this; simpa using this
                have hnx : Hid (RtW w b.bn n b S vs f (.slice Al L.length cl) L vc cs (wordB (i + 1) S.ins) (wordB (i + 1) S.req) (wr.setCell ⟨b.bt, 1, none⟩ (.int .u32 ((wordB i S.ins + 2 ^ i : Nat) : Int)))) := ⟨by rw [wordB_add i S.ins hins, wordB_skip i S.req hreq]; exact hM.setR 0 _, hB.setCell (p := ⟨b.bt, 1, none⟩) hlt3 _⟩
                clear hM hB hins hreq hV hW hap x3
                generalize askT S i = a at *
                generalize wordB i S.ins = V at *
                generalize wordB i S.req = U at *
                go_wp2_with fail
                go_roundw
                case rel => exact ⟨i + 1, by omega, by go_num, hnx.out⟩
                case measure => simp [intOf]; omega
              | true =>
                have hz : decide (0 < askT S i) = true := by have := (hap.out i); rw [hreq] at this; simpa using this
                have hnx : Hid (RtW w b.bn n b S vs f (.slice Al L.length cl) L vc cs (wordB (i + 1) S.ins) (wordB (i + 1) S.req) ((wr.setCell ⟨b.bt, 1, none⟩ (.int .u32 ((wordB i S.ins + 2 ^ i : Nat) : Int))).setCell ⟨b.bt, 2, none⟩ (.int .u32 ((wordB i S.req + 2 ^ i : Nat) : Int)))) := ⟨by rw [wordB_add i S.ins hins, wordB_add i S.req hreq]; exact (hM.setR 0 _).setR 1 _, (hB.setCell (p := ⟨b.bt, 1, none⟩) hlt3 _).setCell (p := ⟨b.bt, 2, none⟩) hlt3 _⟩
                clear hM hB hins hreq hV hW hap x3
                generalize askT S i = a at *
                generalize wordB i S.ins = V at *
                generalize wordB i S.req = U at *
                go_wp2_with fail
                go_roundw
                case rel => exact ⟨i + 1, by omega, by go_num, hnx.out⟩
                case measure => simp [intOf]; omega
          · have hin' : i = n := by omega
            subst hin'
            obtain ⟨Ac, capc, hvc, -, -, -⟩ := hM.oc.shape
            rw [hclH.out] at hvc
            subst hvc
            have hM7 := hM.setR 2 (.int .i64 (L.length : Int))
            simp only [List.set_cons_succ, List.set_cons_zero] at hM7
            have s3 := hM.rt.cell (i := 3) (by simp)
            have s3f := hM.rt.frozen 3
            have t0 := hM7.rt.cell (i := 0) (by simp)
            have t1 := hM7.rt.cell (i := 1) (by simp)
            have t2 := hM7.rt.cell (i := 2) (by simp)
            have t3 := hM7.rt.cell (i := 3) (by simp)
            have r0 := hM7.rr.cell (i := 0) (by simp)
            have r1 := hM7.rr.cell (i := 1) (by simp)
            have r2 := hM7.rr.cell (i := 2) (by simp)
            have r3 := hM7.rr.cell (i := 3) (by simp)
            have f0 := hM7.rr.frozen 0
            have f1 := hM7.rr.frozen 1
            have f2 := hM7.rr.frozen 2
            have f3 := hM7.rr.frozen 3
            simp only [List.getElem_cons_zero, List.getElem_cons_succ] at s3 t0 t1 t2 t3 r0 r1 r2 r3
            have hB7 := Lib.hid (hB.setCell (p := ⟨b.bt, 3, none⟩) hM.lo.2.2.1 (.int .i64 (L.length : Int)))
            have hM7H := Lib.hid hM7
            have hocH := Lib.hid hM7.oc
            obtain ⟨VV, hVV⟩ : ∃ x, Hid (wordB i S.ins = x) := ⟨_, rfl⟩
            obtain ⟨WW, hWW⟩ : ∃ x, Hid (wordB i S.req = x) := ⟨_, rfl⟩
            rw [hVV.out] at t1
            rw [hWW.out] at t2
            clear hM7 hM hB hap
            go_wp2_with fail
            generalize wr.setCell ⟨b.bt, 3, none⟩ (.int .i64 (L.length : Int)) = w7 at *
            have hR8 := (((hM7H.out.rr.set 0 (.slice Ac l.length capc)).set 1 (.int .u32 (VV : Int))).set 2 (.int .u32 (WW : Int))).set 3 (.int .i64 (L.length : Int))
            have hB8 := Lib.hid ((((hB7.out.setCell (p := ⟨b.br, 0, none⟩) hM7H.out.lo.2.1 (.slice Ac l.length capc)).setCell (p := ⟨b.br, 1, none⟩) hM7H.out.lo.2.1 (.int .u32 (VV : Int))).setCell (p := ⟨b.br, 2, none⟩) hM7H.out.lo.2.1 (.int .u32 (WW : Int))).setCell (p := ⟨b.br, 3, none⟩) hM7H.out.lo.2.1 (.int .i64 (L.length : Int)))
            have hoc8 : Hid (OwnC ((((w7.setCell ⟨b.br, 0, none⟩ (.slice Ac l.length capc)).setCell ⟨b.br, 1, none⟩ (.int .u32 (VV : Int))).setCell ⟨b.br, 2, none⟩ (.int .u32 (WW : Int))).setCell ⟨b.br, 3, none⟩ (.int .i64 (L.length : Int))) b.bn (.slice Ac l.length capc) cs) := ownsG_blk hocH.out fun g e => by
              have hne : g ≠ b.br := fun e' => owns_ne_row hocH.out hM7H.out.rr (by decide) (e' ▸ e)
              rw [Below.heap_setCell _ _ _ g hne, Below.heap_setCell _ _ _ g hne, Below.heap_setCell _ _ _ g hne, Below.heap_setCell _ _ _ g hne]
            generalize (((w7.setCell ⟨b.br, 0, none⟩ (.slice Ac l.length capc)).setCell ⟨b.br, 1, none⟩ (.int .u32 (VV : Int))).setCell ⟨b.br, 2, none⟩ (.int .u32 (WW : Int))).setCell ⟨b.br, 3, none⟩ (.int .i64 (L.length : Int)) = w8 at *
            have q0 := hR8.cell (i := 0) (by simp)
            have q1 := hR8.cell (i := 1) (by simp)
            have q2 := hR8.cell (i := 2) (by simp)
            have q3 := hR8.cell (i := 3) (by simp)
            simp at q0 q1 q2 q3
            (try simp only [Exit.inBlock, Exit.then])
            have hres : Hid (RtuRes w i l (.returned (.agg #[.slice Ac l.length capc, .int .u32 (VV : Int), .int .u32 (WW : Int), .int .i64 (L.length : Int)])) w8) := ⟨Ac, capc, by rw [hS.out, hVV.out, hWW.out, ← hwd.out], by rw [hB0H.out, hcsE.out]; exact hoc8.out, by rw [hB0H.out]; exact hB8.out⟩
            refine bodyPost_ret (v := .agg #[.slice Ac l.length capc, .int .u32 (VV : Int), .int .u32 (WW : Int), .int .i64 (L.length : Int)]) ?_ rfl hres.out
            clear hR8 hB8 hoc8 hM7H hocH hB7
            rw [results_cellT rfl]
            go_simp

#print axioms rtu_ok
end Go.Proofs.Ythnmppajakdcaaa
