/-
  The contract of beaconryref.Token.
-/
import Derived.Test.YtejckoffllhjcaaRkw
import Derived.Test.YtejckoffllhjcaaHld
import Derived.Test.YtejckoffllhjcaaKex
import Derived.Test.YtejckoffllhjcaaKpl
import Derived.BigQuiet
import Derived.BigRegion
import Derived.Deep.QuietTactic
namespace Go.Proofs.Ytejckoffllhjcaa
open Go.RowKit Go.Maps
set_option linter.unusedVariables false
set_option linter.unusedSimpArgs false

theorem results_cellT {fn : Func} {p : Tmp} {ty : TypeId} (h : fn.results = #[.cell p ty]) (tmps : Array Value) (P : Program) (w : World) :
    (results fn tmps).run P w = ((asAddr (tmps.getD p undef)).run P w).andThen fun a w₁ => (loadVar ty a).run P w₁ := by
  simp only [results, h]
  simp [Sem.run_bind, Result.andThen]
theorem add_wordT {V i : Nat} (hV : V < 64) (hi : i < 6) : ((V : Int) + 2 ^ i % 4294967296) % 4294967296 = ((V + 2 ^ i : Nat) : Int) := by
  rw [pow_mod i (by omega)]
  have h : (2 : Nat) ^ i ≤ 2 ^ 6 := Nat.pow_le_pow_right (by omega) (by omega)
  generalize (2 : Nat) ^ i = y at *
  omega
theorem stepK_bad1 {n : Nat} {S : KS} {m : Mv} (h1 : ¬ (m.k < 1 ∨ 3 < m.k)) (h2 : ¬ (0 ≤ m.f ∧ m.f < n)) : stepK n S m = (S, 2) := by unfold stepK; rw [if_neg h1, if_pos h2]
theorem stepK_bad2 {n : Nat} {S : KS} {m : Mv} (h3 : m.k = 2) (h2 : 0 ≤ m.f ∧ m.f < n) (h4 : ¬ (0 ≤ m.t ∧ m.t < n) ∨ m.f = m.t) : stepK n S m = (S, 2) := by unfold stepK; rw [if_neg (by omega), if_neg (fun h => h h2), if_neg (by omega), if_neg (by omega), if_pos h4]
theorem stepKR_want {n : Nat} {S : KS} {m : Mv} (h3 : m.k = 1) (h2 : 0 ≤ m.f ∧ m.f < n) : stepK n S m = if S.ins m.f.toNat = true ∨ m.f.toNat ∈ S.row m.f.toNat then (S, 7) else (S.enq m.f.toNat m.f.toNat, 0) := by unfold stepK; rw [if_neg (by omega), if_neg (fun h => h h2), if_pos h3]
theorem stepKR_leave {n : Nat} {S : KS} {m : Mv} (h3 : m.k = 3) (h2 : 0 ≤ m.f ∧ m.f < n) : stepK n S m = if S.ins m.f.toNat = true then (S.leave m.f.toNat, 0) else (S, 7) := by unfold stepK; rw [if_neg (by omega), if_neg (fun h => h h2), if_neg (by omega), if_pos h3]
theorem stepKR_come {n : Nat} {S : KS} {m : Mv} (h3 : m.k = 2) (h2 : 0 ≤ m.f ∧ m.f < n) (h4 : (0 ≤ m.t ∧ m.t < n) ∧ m.f ≠ m.t) : stepK n S m = if S.q m.f.toNat m.t.toNat = [] then (S, 5) else (S.come m.f.toNat m.t.toNat, 0) := by
  unfold stepK
  rw [if_neg (by omega), if_neg (fun h => h h2), if_neg (by omega), if_neg (by omega), if_neg]
  rintro (h | h)
  · exact h h4.1
  · exact h4.2 h
theorem mem_nlK {l : List Nat} {i : Nat} : (i : Int) ∈ nlK l ↔ i ∈ l := by
  unfold nlK
  rw [List.mem_map]
  constructor
  · rintro ⟨a, h1, h2⟩
    have : a = i := by omega
    rw [← this]; exact h1
  · exact fun h => ⟨i, h, rfl⟩
/-- At the end: the two words. -/
def RkW (w : World) (B n : Nat) (b : KB) (S : KS) (vs : Nat → Value) (vl : Value) (L : List Lt) (vc : Value) (cs : List Int) (x y : Nat) (wr : World) : Prop :=
  RfK wr B n b vs (rwK S) (ptK S) (holdB S) S.ins vl L vc cs [.int .u32 (x : Int), .int .u32 (y : Int), .int .i64 0] ∧ Below B w wr
set_option maxRecDepth 20000 in
set_option maxHeartbeats 16000000 in
theorem rtk_ok (A0 : Option Addr) (cap0 : Nat) (ul : List Int) (A : Option Addr) (cap : Nat) (l : List Mv) (w : World) (hU : Nums w w.heap.size A0 ul) (hE : Mvs w w.heap.size A l) (hF : MFits l) (hcK : checkK ul l.length = 0) :
    Calls Try.prog 10 #[.slice A0 ul.length cap0, .slice A l.length cap] w (RtkRes w ul.length (upN ul) l) := by
  obtain ⟨hn0, hn, h60, hrb, htb⟩ := checkK_ok hcK
  obtain ⟨b0, off0, rfl, hcu⟩ := nums_upK hU hrb (by omega)
  have hb0 : b0 < w.heap.size := by
    obtain ⟨bx, offx, ex, hb0, _⟩ := hU (by omega)
    injection ex with ex
    injection ex with ex1 ex2
    rw [ex1]; exact hb0
  have hKI := Lib.hid (fun k => KInvX.at_ (KInv.tree hrb htb) l k)
  obtain ⟨ZB, hZB⟩ : ∃ Z : List Value, Hid (Z = List.replicate ul.length (.bool false)) := ⟨_, rfl⟩
  obtain ⟨ZT, hZT⟩ : ∃ Z : List Value, Hid (Z = List.replicate ul.length (.slice none 0 0)) := ⟨_, rfl⟩
  have mkB := make_eqG 49 4 (.bool false) 1 infoBlR Try.underlying49 rfl ul.length hn (by omega)
  have mkT := make_eqG 48 22 (.slice none 0 0) 24 infoIntsR Try.underlying48 rfl ul.length hn (by omega)
  rw [← hZB.out] at mkB
  rw [← hZT.out] at mkT
  have hrbH := Lib.hid hrb
  have hEH := Lib.hid hE
  have hFH := Lib.hid hF
  have hUH := Lib.hid hU
  have hcuH := Lib.hid hcu
  have hl60 : (l.length : Int) ≤ 60 := by omega
  clear hE hF hU hcu hcK htb hrb
  obtain ⟨je, hi0, hz0, hz1, hz2⟩ := info_parts infoErr
  have hEi := Lib.hid hi0; have hEz := Lib.hid hz0; have hEs := Lib.hid hz1; have hEb := Lib.hid hz2
  clear hi0 hz0 hz1 hz2
  obtain ⟨ji, hi0, hz0, hz1, hz2⟩ := info_parts infoInt
  have hJi := Lib.hid hi0; have hJz := Lib.hid hz0; have hJs := Lib.hid hz1; have hJb := Lib.hid hz2
  clear hi0 hz0 hz1 hz2
  have hR1 := (Row.made w 27 [.slice none 0 0, .int .u32 0, .int .u32 0, .int .i64 0]).alloc (.cells #[.slice none 0 0, .int .u32 0, .int .u32 0, .int .i64 0] 27)
  have hR2 := made_atG (w.alloc (.cells #[.slice none 0 0, .int .u32 0, .int .u32 0, .int .i64 0] 27)) (g := w.heap.size + 1) (by simp) 27 [.slice none 0 0, .int .u32 0, .int .u32 0, .int .i64 0]
  have hB2 := ((Below.refl w.heap.size w).alloc (Nat.le_refl _) (.cells #[.slice none 0 0, .int .u32 0, .int .u32 0, .int .i64 0] 27)).alloc (by simp) (.cells #[.slice none 0 0, .int .u32 0, .int .u32 0, .int .i64 0] 27)
  obtain ⟨w2, hw2⟩ : ∃ W, W = (w.alloc (.cells #[.slice none 0 0, .int .u32 0, .int .u32 0, .int .i64 0] 27)).alloc (.cells #[.slice none 0 0, .int .u32 0, .int .u32 0, .int .i64 0] 27) := ⟨_, rfl⟩
  have hR1H : Hid (Row w2 w.heap.size 27 [.slice none 0 0, .int .u32 0, .int .u32 0, .int .i64 0]) := by unfold Hid; rw [hw2]; exact hR1
  have hR2H : Hid (Row w2 (w.heap.size + 1) 27 [.slice none 0 0, .int .u32 0, .int .u32 0, .int .i64 0]) := by unfold Hid; rw [hw2]; exact hR2
  have hB2H : Hid (Below w.heap.size w w2) := by unfold Hid; rw [hw2]; exact hB2
  have hs2 : w2.heap.size = w.heap.size + 1 + 1 := by rw [hw2]; simp
  clear hR1 hR2 hB2
  have hN3 := Lib.hid ((hUH.out.below (hB2H.out.alloc (by omega) (.cells #[] 3))).more (B' := (w2.alloc (.cells #[] 3)).heap.size) (by simp; omega))
  have hown3 := Lib.hid (World.ownsRow_lit (base := w.heap.size) (e := 3) (size := 1) w2 #[] 0 (by omega) (by unfold maxLen; omega) rfl)
  have hR13 := Lib.hid (hR1H.out.alloc (.cells #[] 3))
  have hR23 := Lib.hid (hR2H.out.alloc (.cells #[] 3))
  have hB3 := Lib.hid (hB2H.out.alloc (by omega) (.cells #[] 3))
  have hs3 : (w2.alloc (.cells #[] 3)).heap.size = w.heap.size + 1 + 1 + 1 := by simp [hs2]
  go_enter Try.func10, Try.ntmps10
  go_wp2_with (first
    | (at_builtin; rw [← hw2, show w.heap.size + 1 + 1 = w2.heap.size from hs2.symm]; refine wpList_copyI rfl (.tmp 24) (.tmp 25) rfl ji hJi.out hJz.out hJs.out hJb.out w.heap.size w2.heap.size rfl hown3.out (some ⟨b0, off0, none⟩) cap0 ul rfl hN3.out (by omega) (by omega) ?_
       intro v4 w4 hown4 hgr4
       obtain ⟨P, cp, rfl, lP, hcp, hP4⟩ := hown4.pts (by omega) hrbH.out
       have hR14 := Lib.hid (hR13.out.grown hgr4 (fun e => by injection e with e; omega))
       have hR24 := Lib.hid (hR23.out.grown hgr4 (fun e => by injection e with e; omega))
       have hB4 := Lib.hid (hB3.out.grown hgr4 (by omega) (fun q hq => by injection hq with hq; omega))
       have hP4H := Lib.hid hP4
       have hlP := Lib.hid lP
       clear hown4 hgr4 hP4 lP hR13 hR23 hB3 hN3 hown3))
  obtain ⟨hs, hfin, hcell, hsize, hloA⟩ := hsb_facts w w4 ul.length P cp w.heap.size (w.heap.size + 1) w.heap.size (upN ul) ZT ZB hZB.out hZT.out hR14.out hR24.out (by omega) hP4H.out (Nat.le_refl _) (Nat.le_succ _) hlP.out hB4.out
  have hsH := Lib.hid hs; have hfinH := Lib.hid hfin; have hcellH := Lib.hid hcell; have hsizeH := Lib.hid hsize
  have hloAH := Lib.hid hloA
  clear hs hfin hcell hsize hloA hR14 hR24 hB4 hP4H hlP hs3 hs2 hw2 hB2H hR1H hR2H mkB mkT hZB hZT hUH
  obtain ⟨W7, hW7⟩ : ∃ W, W = w7K w4 ul.length P cp ZT ZB := ⟨_, rfl⟩
  rw [← hW7] at hsH hfinH hcellH hsizeH
  unfold w7K at hW7
  rw [← hW7]
  clear hW7

  obtain ⟨b, hbE⟩ : ∃ b, b7K w.heap.size (w.heap.size + 1) P cp w4.heap.size = b := ⟨_, rfl⟩
  rw [hbE] at hsH hfinH hcellH hsizeH hloAH
  have e0 : w4.heap.size = b.bp := by rw [← hbE]; rfl
  have e1 : w4.heap.size + 1 = b.H := by rw [← hbE]; rfl
  have e2 : w4.heap.size + 1 + 1 = b.br := by rw [← hbE]; rfl
  have e3 : w4.heap.size + 1 + 1 + 1 = b.A := by rw [← hbE]; rfl
  have e4 : w4.heap.size + 1 + 1 + 1 + 1 = b.bh := by rw [← hbE]; rfl
  have e5 : w4.heap.size + 1 + 1 + 1 + 1 + 1 = b.I := by rw [← hbE]; rfl
  have e6 : w4.heap.size + 1 + 1 + 1 + 1 + 1 + 1 = b.bi := by rw [← hbE]; rfl
  have e7 : b.bw + 1 = b.bg := by rw [← hbE]; rfl
  have c0 : w.heap.size = b.bR := by rw [← hbE]; rfl
  have c1 : w.heap.size + 1 = b.bo := by rw [← hbE]; rfl
  clear hbE
  generalize w4.heap.size = h0 at *
  generalize h0 + 1 = h1 at *
  generalize h1 + 1 = h2 at *
  generalize h2 + 1 = h3 at *
  generalize h3 + 1 = h4 at *
  generalize h4 + 1 = h5 at *
  generalize h5 + 1 = h6 at *
  generalize hB0 : w.heap.size = B0 at *
  generalize B0 + 1 = B1 at *
  subst e0 e1 e2 e3 e4 e5 e6 c0 c1
  have hB0H := Lib.hid hB0
  have e7H := Lib.hid e7
  have hb0H := Lib.hid hb0
  clear hB0 e7
  generalize hnN : ul.length = n at *
  have hnH := Lib.hid hnN
  clear hnN
  generalize hu : upN ul = u at *
  have huH := Lib.hid hu
  clear hu
  go_loopw [11] (fun t wr => ∃ k : Nat, k ≤ n ∧ t = .int .i64 k ∧ HsB W7 b.bR n b u k w wr) (fun t _ => n - (intOf t).toNat)
  case atStart => exact ⟨0, Nat.zero_le _, rfl, hsH.out⟩
  case round =>
    clear hsH
    obtain ⟨k, hkn, rfl, hM⟩ := hrel
    by_cases hlt : k < n
    · skip
      as_aux_lemma =>
        have hkI : (k : Int) < (n : Int) := by omega
        have x9 := hcellH.out k wr hM
        have ha := BRowG.at_ hM.row hlt
        have haf := Row.frozen hM.row k
        have hpt : wr.cell? ⟨b0, off0 + k, none⟩ = some (.int .i64 (u k : Int)) := (hM.bl.cell (p := ⟨b0, off0 + k, none⟩) hb0H.out).trans (hcuH.out k hlt)
        have v1 : (((u k : Nat) : Int) == (k : Int)) = decide (u k = k) := by by_cases e : u k = k <;> simp [e]; omega
        have hnx : Hid (HsB W7 b.bR n b u (k + 1) w ((wr.setCell ⟨b.A, k, none⟩ (.bool (decide (u k = k)))).drew)) := ⟨(BRowG.congr (BRowG.put hM.row k (decide (u k = k))) (fun j hj => by
          by_cases e : j = k
          · subst e; rw [up1_same, if_pos (by omega)]
          · rw [up1_other _ _ e]
            by_cases e2 : j < k
            · rw [if_pos e2, if_pos (by omega)]
            · rw [if_neg e2, if_neg (by omega)])).block rfl, fun q hq => (Below.heap_setCell wr ⟨b.A, k, none⟩ _ q hq).trans (hM.oth q hq), by have := hM.sz; simpa using this, (hM.bl.setCell (p := ⟨b.A, k, none⟩) hloAH.out _).drew⟩
        generalize decide (u k = k) = D at *
        generalize (if k < k then decide (u k = k) else false) = D0 at *
        clear hM hsizeH hcellH hfinH
        go_wp2_with fail
        go_region
        go_wp2_with fail
        go_roundw
        case rel => exact ⟨k + 1, by omega, by go_num, hnx.out⟩
        case measure => simp [intOf]; omega
    · have hkn' : n = k := by omega
      subst hkn'
      have hsz := hsizeH.out n wr hM
      have hRk := hfinH.out wr hM
      have hsW : b.bR ≤ wr.heap.size := by have := hM.bl.size; have := hB0H.out; unfold Hid at *; omega
      have hBk := (hM.bl.alloc hsW (.cells #[.slice none 0 0] 50)).alloc (by simp; omega) (.cells #[giveF b] 53)
      have hrel0 : Hid (RkRel w b.bR n b u l 0 ((wr.alloc (.cells #[.slice none 0 0] 50)).alloc (.cells #[giveF b] 53))) := ⟨hRk, hBk⟩
      clear hRk hBk hM hcellH hfinH hloAH hsW hcuH hb0H hb0
      go_wp2_with fail
      simp only [hsz, e7H.out]
      obtain ⟨W9, hW9⟩ : ∃ W, W = ((wr.alloc (.cells #[.slice none 0 0] 50)).alloc (.cells #[giveF b] 53)) := ⟨_, rfl⟩
      rw [← hW9] at hrel0
      unfold giveF at hW9
      rw [← hW9]
      clear hW9 hsz hsizeH e7H
      go_loopg [51] l.length (fun g t wr => ∃ k : Nat, k ≤ l.length ∧ l.length - k = g ∧ t = .int .i64 k ∧ RkRel w b.bR n b u l k wr)
      case atStart => exact ⟨0, Nat.zero_le _, rfl, rfl, hrel0.out⟩
      case round =>
        clear hrel0
        obtain ⟨k, hk, hgk, rfl, hS0, hBl0⟩ := hrel
        obtain ⟨vs, vl, L, vc, hM⟩ := hS0.at_ hBl0
        clear hS0 hBl0
        have hgkH := Lib.hid hgk
        clear hgk
        have hMH := Lib.hid hM
        obtain ⟨Al, cl, hvl, hcl1, hcl2, -⟩ := hM.rf.ol.shape
        subst hvl
        clear hM
        by_cases hlt : k < l.length
        · skip
          have hkI : (k : Int) < (l.length : Int) := by omega
          obtain ⟨bl, off, rfl, hb, hc⟩ := (hEH.out.below hMH.out.bl) (by omega)
          obtain ⟨c0, c1, c2, c3⟩ := hc k hlt
          clear hc
          rw [mv_get l hlt] at c0 c1 c2 c3
          have hfit := hFH.out.at_ hlt
          have hst : Hid (kAt n u l (k + 1) = (stepK n (kAt n u l k) (mv l k)).1) := rfl
          have hcd : Hid (codeK n u l k = (stepK n (kAt n u l k) (mv l k)).2) := rfl
          have hk60 : k ≤ 60 := by omega
          have hin := Lib.hid (hKI.out k)
          have hok : Hid (OkK n (kAt n u l k) 800) := (hKI.out k).ok hn
          have hcs := Lib.hid (codesK_succ n u l k)
          have hclH := Lib.hid (codesK_len n u l k)
          generalize mv l k = mo at *
          obtain ⟨mk, mf, mt, mv'⟩ := mo
          simp only at *
          obtain ⟨⟨k1, k2⟩, ⟨f1, f2⟩, ⟨t1, t2⟩, ⟨v1, v2⟩⟩ := hfit
          simp only at k1 k2 f1 f2 t1 t2 v1 v2
          have hrow := Row.made wr 40 [.int .i64 mk, .int .i64 mf, .int .i64 mt, .int .i64 mv']
          have hM1 := hMH.out.below ((Below.refl wr.heap.size wr).alloc (Nat.le_refl _) (.cells #[.int .i64 mk, .int .i64 mf, .int .i64 mt, .int .i64 mv'] 40))
          obtain ⟨A', c', hv', -, -, hLt⟩ := hM1.rf.ol.shape
          injection hv' with e1 e2 e3
          subst e1 e3
          obtain ⟨r, hr⟩ := firstIs_ex L mf mt
          have hll := hM1.ll
          have hfirst := Lib.hid (first_any Al cl L mf mt _ hLt (by omega) r hr)
          have hrH := Lib.hid hr
          have x4 := hM1.rf.vars.2.2.2.2.1
          have hrowH := Lib.hid hrow
          have hM1H := Lib.hid hM1
          clear hMH hrow hM1 hLt e2 hr
          go_wp2_with fail
          refine hfirst.out.mono ?_
          rintro e w3 ⟨rfl, hB3⟩
          have hM3 := Lib.hid (hM1H.out.below hB3)
          have hrow3 := Lib.hid (hrowH.out.below hB3 hrowH.out.lt)
          clear hfirst hB3 hM1H hrowH c0 c1 c2 c3 hb x4
          generalize wr.heap.size = bm at *
          have y0 := hrow3.out.cell (i := 0) (by simp)
          have y1 := hrow3.out.cell (i := 1) (by simp)
          have y2 := hrow3.out.cell (i := 2) (by simp)
          have y3 := hrow3.out.cell (i := 3) (by simp)
          simp only [List.getElem_cons_zero, List.getElem_cons_succ] at y0 y1 y2 y3
          by_cases hk1 : mk < 1
          · as_aux_lemma =>
              have hS : Hid (stepK n (kAt n u l k) ⟨mk, mf, mt, mv'⟩ = (kAt n u l k, 6)) := if_pos (.inl hk1)
              have hSc : RkS w3 b.bR n b (kAt n u l (k + 1)) (4 * (k + 1)) (codesK n u l k) := by rw [hst.out, hS.out]; exact hM3.out.s.more (by omega)
              have hBl := hM3.out.bl
              have hcC : codeK n u l k = 6 := by rw [hcd.out, hS.out]
              clear hM3 hrow3 hS hst hcd hin hok
              obtain ⟨vs', vl', L', vc', hRf, hRL, hLL⟩ := hSc
              obtain ⟨Ac, capc, hvc, hcc1, hcc2, -⟩ := hRf.oc.shape
              rw [hclH.out] at hvc hcc1
              subst hvc
              have hMa := hRf.alloc (.cells #[.int .i64 6] 28)
              have hBa := Lib.hid (hBl.alloc hRf.sz (.cells #[.int .i64 6] 28))
              have hc0 := hRf.ro.cell (i := 0) (by simp)
              simp only [List.getElem_cons_zero] at hc0
              have hown0 := hMa.oc
              unfold OwnC at hown0
              rw [hclH.out] at hown0
              have hneT : Hid ((Value.slice Ac k capc).ownBlock ≠ some b.bo) := owns_ne_row hMa.oc hMa.ro (by decide)
              have hbase : b.bR ≤ (w3.alloc (.cells #[.int .i64 6] 28)).heap.size := hMa.sz
              have hnews := Lib.hid (newsV (w := w3) (g := w3.heap.size) (.int .i64 6) 28 rfl)
              have hMaH := Lib.hid hMa
              have hownH := Lib.hid hown0
              have hRLH := Lib.hid hRL
              have hLLH := Lib.hid hLL
              have hcCH := Lib.hid hcC
              clear hMa hown0 hRf hRL hLL hcC hrH
              go_wp2_with (first
                | (at_builtin; refine wpList_append_lies _ rfl (.tmp 162) (.tmp 164) 24 rfl b.bR 28 je (.int .i64 0) 1 8 Try.underlying24 hEi.out hEz.out hEs.out hEb.out rfl (by decide) (.slice Ac k capc) k (codG (codesK n u l k)) rfl hownH.out ⟨w3.heap.size, 0, none⟩ 1 1 [.int .i64 6] rfl rfl hnews.out (by simp [Value.oneCell']) (by omega) (by unfold maxLen; omega) (by omega) hbase _ rfl ?_; intro g5 cap5 w15 hown hgr hat hlt9
                   have f1 := hMaH.out.ro.grown hgr (fun e => hneT.out e.symm)
                   have o5 := f1.cell (i := 0) (by simp)
                   simp only [List.getElem_cons_zero] at o5
                   have of5 := f1.frozen 0
                   have hpush : OwnC w15 b.bR (.slice (some ⟨g5, 0, none⟩) (k + 1) cap5) (codesK n u l (k + 1)) := by
                     rw [hcs.out, hcCH.out]
                     have := OwnC.push (cs := codesK n u l k) (c := 6) (w := w15) (B := b.bR) (g := g5) (cap := cap5) (by rw [hclH.out]; exact hown)
                     rw [hclH.out] at this
                     exact this
                   have hnext : Hid (RkRel w b.bR n b u l (k + 1) (w15.setCell ⟨b.bo, 0, none⟩ (.slice (some ⟨g5, 0, none⟩) (k + 1) cap5))) := ⟨⟨_, _, _, _, hMaH.out.code hpush hgr, hRLH.out, hLLH.out⟩, ((hBa.out.grown hgr hbase (fun q hq => (World.ownsRow.lt hMaH.out.oc q hq).1)).setCell (p := ⟨b.bo, 0, none⟩) hMaH.out.lo.2.1 _)⟩
                   clear hown hgr hat hlt9 f1 hMaH hBa hownH hpush))
              go_roundg (l.length - (k + 1))
              case measure => have := hgkH.out; omega
              case rel => exact ⟨k + 1, by omega, rfl, by go_num, hnext.out⟩
          · go_upto_if 68 with fail
            clear y0 y1 y2 y3
            go_cut [17, 18, 19] from 52 to 167 (fun e _ _ wx => RkCut w b.bR n b u l k e wx)
            case first =>
              have y0 := hrow3.out.cell (i := 0) (by simp)
              have y1 := hrow3.out.cell (i := 1) (by simp)
              have y2 := hrow3.out.cell (i := 2) (by simp)
              have y3 := hrow3.out.cell (i := 3) (by simp)
              simp only [List.getElem_cons_zero, List.getElem_cons_succ] at y0 y1 y2 y3
              by_cases hk3 : 3 < mk
              · as_aux_lemma =>
                  have hS : Hid (stepK n (kAt n u l k) ⟨mk, mf, mt, mv'⟩ = (kAt n u l k, 6)) := if_pos (.inr hk3)
                  have hrelc : Hid (RkCut w b.bR n b u l k (.int .i64 6) w3) := RkCut.of (by rw [hst.out, hS.out]) (by rw [hcd.out, hS.out]) (hM3.out.s) (by omega) hM3.out.bl
                  clear hS hst hcd hM3 hrow3
                  go_wp2_with fail
                  go_meet
                  case rel => exact hrelc.out
              · have hkk : ¬ (mk < 1 ∨ 3 < mk) := by omega
                obtain ⟨two, htwo⟩ : ∃ two : Bool, (mk == 2) = two := ⟨_, rfl⟩
                by_cases hgood : (0 ≤ mf ∧ mf < n) ∧ (mk = 2 → (0 ≤ mt ∧ mt < n) ∧ mt ≠ mf)
                · have hends := Lib.hid (ends_any w3 n ⟨mk, mf, mt, mv'⟩ two true ⟨fun _ => ⟨hgood.1, fun h => hgood.2 (by rw [h] at htwo; simpa using htwo)⟩, fun _ => rfl⟩)
                  simp only at hends
                  obtain ⟨i, rfl⟩ : ∃ i : Nat, mf = (i : Int) := ⟨mf.toNat, by omega⟩
                  have hi : i < n := by omega
                  have hiI : (i : Int) < (n : Int) := by omega
                  by_cases hk2 : mk = 2
                  · subst hk2
                    have htw : two = true := by rw [← htwo]; decide
                    subst htw
                    obtain ⟨hgf, hgt⟩ := hgood
                    obtain ⟨hgt, hgne⟩ := hgt rfl
                    obtain ⟨j, rfl⟩ : ∃ j : Nat, mt = (j : Int) := ⟨mt.toNat, by omega⟩
                    have hj : j < n := by omega
                    have hjI : (j : Int) < (n : Int) := by omega
                    have hij : i ≠ j := by omega
                    have hS := Lib.hid (stepKR_come (n := n) (S := kAt n u l k) (m := ⟨2, (i : Int), (j : Int), mv'⟩) rfl hgf ⟨hgt, by simp only; omega⟩)
                    simp only [Int.toNat_natCast] at hS
                    clear hgf hgt hgne htwo hk1 hk3 hkk
                    as_aux_lemma =>
                      clear hcs hclH hok
                      generalize kAt n u l k = S at *
                      go_wp2_with fail
                      refine hends.out.mono ?_
                      rintro e w4 ⟨rfl, hB4⟩
                      have hM4 := Lib.hid (hM3.out.below hB4)
                      have hrow4 := Lib.hid (hrow3.out.below hB4 hrow3.out.lt)
                      clear hends hB4 hM3 hrow3 y0 y1 y2 y3
                      have y0 := hrow4.out.cell (i := 0) (by simp)
                      have y1 := hrow4.out.cell (i := 1) (by simp)
                      have y2 := hrow4.out.cell (i := 2) (by simp)
                      simp only [List.getElem_cons_zero, List.getElem_cons_succ] at y0 y1 y2
                      obtain ⟨x0, x1, x2, x3, x4, x5⟩ := hM4.out.rf.vars
                      rcases hrH.out with ⟨hr, hno⟩ | ⟨c, hr, hc, hw0, hb0⟩
                      · subst hr
                        have hq0 : S.q i j = [] := hM4.out.rl.none_ hi hj hij hno
                        have hrelq : Hid (∀ nq, RkCut w b.bR n b u l k (.int .i64 5) (w4.drewN nq)) := fun nq => RkCut.of (by rw [hst.out, hS.out, if_pos hq0]) (by rw [hcd.out, hS.out, if_pos hq0]) (hM4.out.drewN nq).s (by omega) (hM4.out.drewN nq).bl
                        clear hS hst hcd hM4 hrow4 hno hq0 hin hrH
                        go_wp2_with fail
                        go_quiet (fail)
                        have hrelc := Lib.hid (hrelq.out nq)
                        clear hrelq x0 x1 x2 x3 x4 x5 y1 y2
                        have y0' : (w4.drewN nq).cell? ⟨bm, 0, none⟩ = some (.int .i64 2) := y0
                        clear y0
                        generalize w4.drewN nq = w5 at *
                        go_wp2_with fail
                        go_meet
                        case rel => exact hrelc.out
                      · subst hr
                        have hcI : (c : Int) < (L.length : Int) := by omega
                        go_wp2_with fail
                        go_quiet (fail)
                        clear x0 x1 x2 x3 x4 x5 y0 y1 y2
                        have hM5 := Lib.hid (hM4.out.drewN nq)
                        have hrow5 : Hid (Row (w4.drewN nq) bm 40 [.int .i64 2, .int .i64 (i : Int), .int .i64 (j : Int), .int .i64 mv']) := Row.block hrow4.out rfl
                        clear hM4 hrow4
                        generalize w4.drewN nq = w5 at *
                        have y0 := hrow5.out.cell (i := 0) (by simp)
                        have y1 := hrow5.out.cell (i := 1) (by simp)
                        have y2 := hrow5.out.cell (i := 2) (by simp)
                        simp only [List.getElem_cons_zero, List.getElem_cons_succ] at y0 y1 y2
                        obtain ⟨x0, x1, x2, x3, x4, x5⟩ := hM5.out.rf.vars
                        obtain ⟨A8, c8, hv8, hl81, hl82, hA⟩ := hM5.out.rf.ol.shape
                        injection hv8 with e81 e82 e83
                        subst e81 e83
                        obtain ⟨g, hg, hgl, m0, m1, m2⟩ := hA c hc
                        subst hg
                        obtain ⟨⟨r, hq⟩, hRL⟩ := hM5.out.rl.pop hi hj hij hc hw0 hb0
                        have hne0 : S.q i j ≠ [] := by rw [hq]; simp
                        have hst' : Hid (kAt n u l (k + 1) = S.come i j) := by unfold Hid; rw [hst.out, hS.out, if_neg hne0]
                        have hcd' : Hid (codeK n u l k = 0) := by unfold Hid; rw [hcd.out, hS.out, if_neg hne0]
                        have hcome : Hid (S.come i j = if (lt_ L c).v = 0 then (S.pop i j).enq j i else ((S.pop i j).aim j j).serve j) := by unfold Hid KS.come; rw [hq]; rfl
                        have hqH := Lib.hid hq
                        have hRLH := Lib.hid hRL
                        have hwot := Lib.hid (without_any g cl L c w5 hA (by omega) hc hcl1 hcl2)
                        have hl5 : Hid ((L.take c ++ L.drop (c + 1)).length ≤ 4 * k) := by unfold Hid; simp; omega
                        clear hS hst hcd hA e82 m0 m1 hw0 hb0 hrH hq hRL hne0
                        generalize (lt_ L c).v = x at *
                        generalize L.take c ++ L.drop (c + 1) = L5 at *
                        unfold WotRes at hwot
                        by_cases hx : x = 0
                        · subst hx
                          have hc0 : Hid (S.come i j = (S.pop i j).enq j i) := hcome.out.trans (if_pos rfl)
                          have hO5 := Lib.hid ((KInvX.popAsk hin.out hqH.out).1.ok hn)
                          clear hcome hqH hin
                          go_wp2_with fail
                          refine hwot.out.mono ?_
                          rintro e w6 ⟨v6, rfl, hO6, hB6⟩
                          have hR6 := Lib.hid (hM5.out.rf.newL hB6 hO6)
                          have hneW : bm ≠ b.bw := rowG_ne (hrow5.out.below hB6 hrow5.out.lt) (hM5.out.rf.rW.below hB6 hM5.out.rf.rW.lt) (by decide)
                          have hW6 := Lib.hid ((hrow5.out.below hB6 hrow5.out.lt).far (p := ⟨b.bw, 0, none⟩) hneW v6)
                          have hb6 := Lib.hid ((hM5.out.bl.trans (hB6.mono hM5.out.rf.sz)).setCell (p := ⟨b.bw, 0, none⟩) hM5.out.rf.lo.2.2.2.2.2.2.2.2.2.2.1 v6)
                          have xw : w6.cell? ⟨b.bw, 0, none⟩ = some (.slice (some ⟨g, 0, none⟩) L.length cl) := (hM5.out.rf.rW.below hB6 hM5.out.rf.rW.lt).cell (by simp)
                          have xwf := (hM5.out.rf.rW.below hB6 hM5.out.rf.rW.lt).frozen 0
                          clear hwot hO6 hB6 hM5 hrow5 x0 x1 x2 x3 x4 x5 y0 y1 y2 m2 hgl
                          obtain ⟨A6, c6, hv6, hl61, hl62, -⟩ := hR6.out.ol.shape
                          subst hv6
                          have y1 := hW6.out.cell (i := 1) (by simp)
                          have y2 := hW6.out.cell (i := 2) (by simp)
                          simp only [List.getElem_cons_zero, List.getElem_cons_succ] at y1 y2
                          obtain ⟨x0, x1, x2, x3, x4, x5⟩ := hR6.out.vars
                          unfold giveF at x5
                          have hS7 : RkS (w6.setCell ⟨b.bw, 0, none⟩ (.slice A6 L5.length c6)) b.bR n b (S.pop i j) (4 * k) (codesK n u l k) := ⟨_, _, _, _, hR6.out, hRLH.out, hl5.out⟩
                          have hcall := Lib.hid (stand_any _ b.bR n b (S.pop i j) (4 * k) (codesK n u l k) hS7 hO5.out (by omega) j i hj hi hn)
                          clear hS7 hO5 hR6 hW6 hRLH
                          go_wp2_with fail
                          refine hcall.out.mono ?_
                          rintro e w8 ⟨rfl, hS8, hB8⟩
                          have hrelc : Hid (RkCut w b.bR n b u l k (.int .i64 0) w8) := RkCut.of (hst'.out.trans hc0.out) hcd'.out hS8 (by omega) (hb6.out.trans hB8.low)
                          clear hcall hS8 hB8 hb6 x0 x1 x2 x3 x4 x5 y1 y2
                          go_wp2_with fail
                          go_meet
                          case rel => exact hrelc.out
                        · have hpt := KInvX.popTok hin.out hqH.out hx
                          have hx1 : x = 1 := hpt.2.2.2.2.2.2.2.2.2.1
                          have hc0 : Hid (S.come i j = ((S.pop i j).aim j j).serve j) := hcome.out.trans (if_neg hx)
                          have hO5 := Lib.hid (hpt.1.ok hn)
                          subst hx1
                          clear hcome hqH hin hpt hx
                          go_wp2_with fail
                          refine hwot.out.mono ?_
                          rintro e w6 ⟨v6, rfl, hO6, hB6⟩
                          have hR6 := Lib.hid (hM5.out.rf.newL hB6 hO6)
                          have hneW : bm ≠ b.bw := rowG_ne (hrow5.out.below hB6 hrow5.out.lt) (hM5.out.rf.rW.below hB6 hM5.out.rf.rW.lt) (by decide)
                          have hW6 := Lib.hid ((hrow5.out.below hB6 hrow5.out.lt).far (p := ⟨b.bw, 0, none⟩) hneW v6)
                          have hb6 := Lib.hid ((hM5.out.bl.trans (hB6.mono hM5.out.rf.sz)).setCell (p := ⟨b.bw, 0, none⟩) hM5.out.rf.lo.2.2.2.2.2.2.2.2.2.2.1 v6)
                          have xw : w6.cell? ⟨b.bw, 0, none⟩ = some (.slice (some ⟨g, 0, none⟩) L.length cl) := (hM5.out.rf.rW.below hB6 hM5.out.rf.rW.lt).cell (by simp)
                          have xwf := (hM5.out.rf.rW.below hB6 hM5.out.rf.rW.lt).frozen 0
                          clear hwot hO6 hB6 hM5 hrow5 x0 x1 x2 x3 x4 x5 y0 y1 y2 m2 hgl
                          obtain ⟨A6, c6, hv6, hl61, hl62, -⟩ := hR6.out.ol.shape
                          subst hv6
                          have y2 := hW6.out.cell (i := 2) (by simp)
                          simp only [List.getElem_cons_zero, List.getElem_cons_succ] at y2
                          obtain ⟨x0, x1, x2, x3, x4, x5⟩ := hR6.out.vars
                          have a0 := BRowG.at_ hR6.out.rA hj
                          have a0f := Row.frozen hR6.out.rA j
                          go_upto_if 140 with fail
                          generalize w6.setCell ⟨b.bw, 0, none⟩ (.slice A6 L5.length c6) = w7 at *
                          clear x0 x1 x2 x4
                          have hneA : bm ≠ b.A := rowG_ne hW6.out hR6.out.rA (by decide)
                          have hneA2 : b.bp ≠ b.A := rowG_ne hR6.out.rp hR6.out.rA (by decide)
                          have hneA3 : b.P ≠ b.A := rowG_ne hR6.out.rP.row.choose_spec hR6.out.rA (by decide)
                          have hneA4 : b.bg ≠ b.A := rowG_ne hR6.out.rg hR6.out.rA (by decide)
                          have hneP : bm ≠ b.P := rowG_ne hW6.out hR6.out.rP.row.choose_spec (by decide)
                          have hneP4 : b.bg ≠ b.P := rowG_ne hR6.out.rg hR6.out.rP.row.choose_spec (by decide)
                          obtain ⟨x0, -, -, -, -, -⟩ := hR6.out.vars
                          have p0 := hR6.out.rP.at_ hj
                          have p0f := hR6.out.rP.frozen j
                          unfold giveF at x5
                          have hR8 : RfK ((w7.setCell ⟨b.A, j, none⟩ (.bool true)).setCell ⟨b.P, j, none⟩ (.int .i64 (j : Int))) b.bR n b vs (rwK ((S.pop i j).aim j j)) (ptK ((S.pop i j).aim j j)) (holdB ((S.pop i j).aim j j)) ((S.pop i j).aim j j).ins (.slice A6 L5.length c6) L5 vc (codesK n u l k) R0K := ((hR6.out.setA_ j true).setP_ hj (j : Int)).congr (fun a _ => by
                            show ((up1 S.ptr j j a : Nat) : Int) = up1 (ptK S) j (j : Int) a
                            by_cases e : a = j
                            · rw [e, up1_same, up1_same]
                            · rw [up1_other _ _ e, up1_other _ _ e]; rfl) (fun a _ => by
                            show up1 (holdB S) j true a = decide (up1 S.ptr j j a = a)
                            by_cases e : a = j
                            · rw [e, up1_same, up1_same]; simp
                            · rw [up1_other _ _ e, up1_other _ _ e]; rfl) (fun _ _ => rfl) (fun _ _ => rfl)
                          have hS8 : RkS ((w7.setCell ⟨b.A, j, none⟩ (.bool true)).setCell ⟨b.P, j, none⟩ (.int .i64 (j : Int))) b.bR n b ((S.pop i j).aim j j) (4 * k) (codesK n u l k) := ⟨_, _, _, _, hR8, hRLH.out, hl5.out⟩
                          have hb8 := Lib.hid ((hb6.out.setCell (p := ⟨b.A, j, none⟩) hR6.out.lo.2.2.2.2.2.2.2.1 (.bool true)).setCell (p := ⟨b.P, j, none⟩) hR6.out.lo.2.2.2.1 (.int .i64 (j : Int)))
                          have hcall := Lib.hid (give_any _ b.bR n b ((S.pop i j).aim j j) (4 * k) (codesK n u l k) hS8 (hO5.out.up (by omega)) (by omega) j hj hn)
                          clear hS8 hR8 hO5 hR6 hW6 hRLH hb6
                          go_wp2_with fail
                          refine hcall.out.mono ?_
                          rintro e w9 ⟨rfl, hS9, hB9⟩
                          have hrelc : Hid (RkCut w b.bR n b u l k (.int .i64 0) w9) := RkCut.of (hst'.out.trans hc0.out) hcd'.out hS9 (by omega) (hb8.out.trans hB9.low)
                          clear hcall hS9 hB9 hb8 x0 x3 x5 y2 a0 a0f p0 p0f
                          go_wp2_with fail
                          go_meet
                          case rel => exact hrelc.out
                  · have e2 : (mk == 2) = false := by simpa using hk2
                    have htw : two = false := by rw [← htwo]; exact e2
                    subst htw
                    by_cases hk31 : mk = 3
                    · subst hk31
                      have hS := Lib.hid (stepKR_leave (n := n) (S := kAt n u l k) (m := ⟨3, (i : Int), mt, mv'⟩) rfl hgood.1)
                      simp only [Int.toNat_natCast] at hS
                      clear hgood htwo hk1 hk3 hk2 hkk
                      as_aux_lemma =>
                        clear hcs hclH hrH
                        generalize kAt n u l k = S at *
                        go_wp2_with fail
                        refine hends.out.mono ?_
                        rintro e w4 ⟨rfl, hB4⟩
                        have hM4 := Lib.hid (hM3.out.below hB4)
                        have hrow4 := Lib.hid (hrow3.out.below hB4 hrow3.out.lt)
                        clear hends hB4 hM3 hrow3 y0 y1 y2 y3
                        have y0 := hrow4.out.cell (i := 0) (by simp)
                        have y1 := hrow4.out.cell (i := 1) (by simp)
                        have y2 := hrow4.out.cell (i := 2) (by simp)
                        simp only [List.getElem_cons_zero, List.getElem_cons_succ] at y0 y1 y2
                        obtain ⟨x0, x1, x2, x3, x4, x5⟩ := hM4.out.rf.vars
                        have a1 := BRowG.at_ hM4.out.rf.rI hi
                        cases hins : S.ins i with
                        | false =>
                          rw [hins] at a1
                          have hnb : ¬ (S.ins i = true) := by rw [hins]; simp
                          have hrelq : Hid (∀ nq, RkCut w b.bR n b u l k (.int .i64 7) (w4.drewN nq)) := fun nq => RkCut.of (by rw [hst.out, hS.out, if_neg hnb]) (by rw [hcd.out, hS.out, if_neg hnb]) (hM4.out.drewN nq).s (by omega) (hM4.out.drewN nq).bl
                          clear hS hst hcd hM4 hrow4 hins hnb hin hok
                          go_wp2_with fail
                          go_quiet (fail)
                          have hrelc := Lib.hid (hrelq.out nq)
                          clear hrelq x0 x1 x2 x3 x4 x5 y0 y1 y2 a1
                          generalize w4.drewN nq = w5 at *
                          go_wp2_with fail
                          go_meet
                          case rel => exact hrelc.out
                        | true =>
                          rw [hins] at a1
                          have hst' : Hid (kAt n u l (k + 1) = S.leave i) := by unfold Hid; rw [hst.out, hS.out, if_pos hins]
                          have hcd' : Hid (codeK n u l k = 0) := by unfold Hid; rw [hcd.out, hS.out, if_pos hins]
                          clear hS hst hcd
                          go_wp2_with fail
                          go_quiet (fail)
                          clear a1
                          clear x0 x1 x2 x3 x4 x5 y0 y1 y2
                          have hM5 := Lib.hid (hM4.out.drewN nq)
                          have hrow5 : Hid (Row (w4.drewN nq) bm 40 [.int .i64 3, .int .i64 (i : Int), .int .i64 mt, .int .i64 mv']) := Row.block hrow4.out rfl
                          clear hM4 hrow4
                          generalize w4.drewN nq = w5 at *
                          have y0 := hrow5.out.cell (i := 0) (by simp)
                          have y1 := hrow5.out.cell (i := 1) (by simp)
                          have y2 := hrow5.out.cell (i := 2) (by simp)
                          simp only [List.getElem_cons_zero, List.getElem_cons_succ] at y0 y1 y2
                          obtain ⟨x0, x1, x2, x3, x4, x5⟩ := hM5.out.rf.vars
                          unfold giveF at x5
                          have a1 := BRowG.at_ hM5.out.rf.rI hi
                          rw [hins] at a1
                          have af := Row.frozen hM5.out.rf.rI i
                          have hneI : bm ≠ b.I := rowG_ne hrow5.out hM5.out.rf.rI (by decide)
                          have hneG : b.bg ≠ b.I := rowG_ne hM5.out.rf.rg hM5.out.rf.rI (by decide)
                          have hlv : Hid (S.leave i = (S.off i).serve i) := rfl
                          have hS6 : RkS (w5.setCell ⟨b.I, i, none⟩ (.bool false)) b.bR n b (S.off i) (4 * k) (codesK n u l k) := ⟨_, _, _, _, hM5.out.rf.setI_ i false, hM5.out.rl, hM5.out.ll⟩
                          have hB6 := Lib.hid (hM5.out.bl.setCell (p := ⟨b.I, i, none⟩) hM5.out.rf.lo.2.2.2.2.2.2.2.2.2.1 (.bool false))
                          have hO6 : OkK n (S.off i) 900 := OkK.up ⟨hok.out.ptr, hok.out.mem, hok.out.len, hok.out.row⟩ (by omega)
                          have hcall := Lib.hid (give_any _ b.bR n b (S.off i) (4 * k) (codesK n u l k) hS6 hO6 (by omega) i hi hn)
                          clear hS6 hO6 hM5 hrow5 hins hin hok
                          go_wp2_with fail
                          refine hcall.out.mono ?_
                          rintro e w7 ⟨rfl, hS7, hB7⟩
                          have hrelc : Hid (RkCut w b.bR n b u l k (.int .i64 0) w7) := RkCut.of (hst'.out.trans hlv.out) hcd'.out hS7 (by omega) (hB6.out.trans hB7.low)
                          clear hcall hS7 hB7 hB6 x0 x1 x2 x3 x4 x5 y0 y1 y2 a1 af
                          go_wp2_with fail
                          go_meet
                          case rel => exact hrelc.out
                    · have hk1' : mk = 1 := by omega
                      subst hk1'
                      have hS := Lib.hid (stepKR_want (n := n) (S := kAt n u l k) (m := ⟨1, (i : Int), mt, mv'⟩) rfl hgood.1)
                      simp only [Int.toNat_natCast] at hS
                      clear hgood htwo hk1 hk3 hk2 hk31 hkk
                      as_aux_lemma =>
                        clear hcs hclH hrH
                        generalize kAt n u l k = S at *
                        go_wp2_with fail
                        refine hends.out.mono ?_
                        rintro e w4 ⟨rfl, hB4⟩
                        have hM4 := Lib.hid (hM3.out.below hB4)
                        have hrow4 := Lib.hid (hrow3.out.below hB4 hrow3.out.lt)
                        clear hends hB4 hM3 hrow3 y0 y1 y2 y3
                        have y0 := hrow4.out.cell (i := 0) (by simp)
                        have y1 := hrow4.out.cell (i := 1) (by simp)
                        have y2 := hrow4.out.cell (i := 2) (by simp)
                        simp only [List.getElem_cons_zero, List.getElem_cons_succ] at y0 y1 y2
                        obtain ⟨x0, x1, x2, x3, x4, x5⟩ := hM4.out.rf.vars
                        have a1 := BRowG.at_ hM4.out.rf.rI hi
                        obtain ⟨Ah, ch, hvh, hlh1, hlh2, hNh⟩ := (hM4.out.rf.fam i hi).nums
                        have h1 := hM4.out.rf.hcell hi
                        rw [hvh] at h1
                        have hrl : (rwK S i).length ≤ 1000 := by have := hok.out.row i; show (nlK (S.row i)).length ≤ 1000; rw [nlK_len]; omega
                        cases hins : S.ins i with
                        | true =>
                          rw [hins] at a1
                          have hrelq : Hid (∀ nq, RkCut w b.bR n b u l k (.int .i64 7) (w4.drewN nq)) := fun nq => RkCut.of (by rw [hst.out, hS.out, if_pos (.inl hins)]) (by rw [hcd.out, hS.out, if_pos (.inl hins)]) (hM4.out.drewN nq).s (by omega) (hM4.out.drewN nq).bl
                          clear hS hst hcd hM4 hrow4 hins hin hok hvh hNh
                          generalize (rwK S i).length = lh at *
                          go_wp2_with fail
                          go_quiet (fail)
                          have hrelc := Lib.hid (hrelq.out nq)
                          clear hrelq x0 x1 x2 x3 x4 x5 y0 y1 y2 a1 h1
                          generalize w4.drewN nq = w5 at *
                          go_wp2_with fail
                          go_meet
                          case rel => exact hrelc.out
                        | false =>
                          rw [hins] at a1
                          by_cases hmem : i ∈ S.row i
                          · have hq : Hid (∀ nq, Calls Try.prog 26 #[.slice Ah (rwK S i).length ch, .int .i64 (i : Int)] (w4.drewN nq) fun e w' => e = .returned (.bool true) ∧ w' = w4.drewN nq) := fun nq => (hasL_any Ah ch (rwK S i) (i : Int) (w4.drewN nq) hNh hrl true ⟨fun _ => mem_nlK.2 hmem, fun _ => rfl⟩).mono fun e w' h => ⟨h.1, h.2.symm⟩
                            have hrelq : Hid (∀ nq, RkCut w b.bR n b u l k (.int .i64 7) (w4.drewN nq)) := fun nq => RkCut.of (by rw [hst.out, hS.out, if_pos (.inr hmem)]) (by rw [hcd.out, hS.out, if_pos (.inr hmem)]) (hM4.out.drewN nq).s (by omega) (hM4.out.drewN nq).bl
                            clear hS hst hcd hM4 hrow4 hins hin hok hvh hNh hmem hrl
                            generalize (rwK S i).length = lh at *
                            go_wp2_with fail
                            go_quiet ((go_at_call 26; exact Calls.quiet_of_same (hq.out _)))
                            have hrelc := Lib.hid (hrelq.out nq)
                            clear hrelq x0 x1 x2 x3 x4 x5 y0 y1 y2 a1 h1 hq
                            generalize w4.drewN nq = w5 at *
                            go_wp2_with fail
                            go_meet
                            case rel => exact hrelc.out
                          · have hq : Hid (∀ nq, Calls Try.prog 26 #[.slice Ah (rwK S i).length ch, .int .i64 (i : Int)] (w4.drewN nq) fun e w' => e = .returned (.bool false) ∧ w' = w4.drewN nq) := fun nq => (hasL_any Ah ch (rwK S i) (i : Int) (w4.drewN nq) hNh hrl false ⟨(nomatch ·), fun h => absurd (mem_nlK.1 h) hmem⟩).mono fun e w' h => ⟨h.1, h.2.symm⟩
                            have hnb : ¬ (S.ins i = true ∨ i ∈ S.row i) := by rw [hins]; simp [hmem]
                            have hst' : Hid (kAt n u l (k + 1) = S.enq i i) := by unfold Hid; rw [hst.out, hS.out, if_neg hnb]
                            have hcd' : Hid (codeK n u l k = 0) := by unfold Hid; rw [hcd.out, hS.out, if_neg hnb]
                            clear hS hst hcd hvh hNh hrl hnb
                            generalize hlh : (rwK S i).length = lh at *
                            clear hlh
                            go_wp2_with fail
                            go_quiet ((go_at_call 26; exact Calls.quiet_of_same (hq.out _)))
                            clear a1 h1 hq
                            clear x0 x1 x2 x3 x4 x5 y0 y1 y2
                            have hM5 := Lib.hid (hM4.out.drewN nq)
                            have hrow5 : Hid (Row (w4.drewN nq) bm 40 [.int .i64 1, .int .i64 (i : Int), .int .i64 mt, .int .i64 mv']) := Row.block hrow4.out rfl
                            clear hM4 hrow4
                            generalize w4.drewN nq = w5 at *
                            have y0 := hrow5.out.cell (i := 0) (by simp)
                            have y1 := hrow5.out.cell (i := 1) (by simp)
                            have y2 := hrow5.out.cell (i := 2) (by simp)
                            simp only [List.getElem_cons_zero, List.getElem_cons_succ] at y0 y1 y2
                            obtain ⟨x0, x1, x2, x3, x4, x5⟩ := hM5.out.rf.vars
                            unfold giveF at x5
                            have hcall := Lib.hid (stand_any w5 b.bR n b S (4 * k) (codesK n u l k) hM5.out.s hok.out (by omega) i i hi hi hn)
                            have hB6 := Lib.hid hM5.out.bl
                            clear hM5 hrow5 hins hmem hin hok
                            go_wp2_with fail
                            refine hcall.out.mono ?_
                            rintro e w7 ⟨rfl, hS7, hB7⟩
                            have hrelc : Hid (RkCut w b.bR n b u l k (.int .i64 0) w7) := RkCut.of hst'.out hcd'.out hS7 (by omega) (hB6.out.trans hB7.low)
                            clear hcall hS7 hB7 hB6 x0 x1 x2 x3 x4 x5 y0 y1 y2
                            go_wp2_with fail
                            go_meet
                            case rel => exact hrelc.out
                · as_aux_lemma =>
                    have hends := Lib.hid (ends_any w3 n ⟨mk, mf, mt, mv'⟩ two false ⟨(nomatch ·), fun h => absurd ⟨h.1, fun h3 => h.2 (by rw [← htwo]; simp [h3])⟩ hgood⟩)
                    have hS : Hid (stepK n (kAt n u l k) ⟨mk, mf, mt, mv'⟩ = (kAt n u l k, 2)) := by
                      by_cases hf : 0 ≤ mf ∧ mf < n
                      · have h3 : mk = 2 := by
                          by_cases h3 : mk = 2
                          · exact h3
                          · exact absurd ⟨hf, fun h => absurd h h3⟩ hgood
                        refine stepK_bad2 h3 hf ?_
                        simp only
                        by_cases ht : 0 ≤ mt ∧ mt < n
                        · right
                          apply Classical.byContradiction
                          intro hne
                          exact hgood ⟨hf, fun _ => ⟨ht, fun e => hne e.symm⟩⟩
                        · exact .inl ht
                      · exact stepK_bad1 hkk hf
                    have hst' := Lib.hid (hst.out.trans (congrArg Prod.fst hS.out))
                    have hcd' := Lib.hid (hcd.out.trans (congrArg Prod.snd hS.out))
                    simp only at hends
                    clear hS hst hcd hgood hkk
                    go_wp2_with fail
                    refine hends.out.mono ?_
                    rintro e w4 ⟨rfl, hB4⟩
                    have hM4 := hM3.out.below hB4
                    have hrelc : Hid (RkCut w b.bR n b u l k (.int .i64 2) w4) := RkCut.of hst'.out hcd'.out hM4.s (by omega) hM4.bl
                    clear hends hB4 hM3 hrow3 hst' hcd' hM4
                    go_wp2_with fail
                    go_meet
                    case rel => exact hrelc.out
            case rest =>
              obtain ⟨he', hSc, hBl⟩ := hcut
              generalize hcC : codeK n u l k = c at *
              subst he'
              clear hM3 hrow3 hst hcd hin hok
              obtain ⟨vs', vl', L', vc', hRf, hRL, hLL⟩ := hSc
              obtain ⟨Ac, capc, hvc, hcc1, hcc2, -⟩ := hRf.oc.shape
              rw [hclH.out] at hvc hcc1
              subst hvc
              have hMa := hRf.alloc (.cells #[.int .i64 c] 28)
              have hBa := Lib.hid (hBl.alloc hRf.sz (.cells #[.int .i64 c] 28))
              have hc0 := hRf.ro.cell (i := 0) (by simp)
              simp only [List.getElem_cons_zero] at hc0
              have hown0 := hMa.oc
              unfold OwnC at hown0
              rw [hclH.out] at hown0
              have hneT : Hid ((Value.slice Ac k capc).ownBlock ≠ some b.bo) := owns_ne_row hMa.oc hMa.ro (by decide)
              have hbase : b.bR ≤ (wc.alloc (.cells #[.int .i64 c] 28)).heap.size := hMa.sz
              have hnews := Lib.hid (newsV (w := wc) (g := wc.heap.size) (.int .i64 c) 28 rfl)
              have hMaH := Lib.hid hMa
              have hownH := Lib.hid hown0
              have hRLH := Lib.hid hRL
              have hLLH := Lib.hid hLL
              have hcCH := Lib.hid hcC
              clear hMa hown0 hRf hRL hLL hcC hrH
              go_wp2_with (first
                | (at_builtin; refine wpList_append_lies _ rfl (.tmp 162) (.tmp 164) 24 rfl b.bR 28 je (.int .i64 0) 1 8 Try.underlying24 hEi.out hEz.out hEs.out hEb.out rfl (by decide) (.slice Ac k capc) k (codG (codesK n u l k)) rfl hownH.out ⟨wc.heap.size, 0, none⟩ 1 1 [.int .i64 c] rfl rfl hnews.out (by simp [Value.oneCell']) (by omega) (by unfold maxLen; omega) (by omega) hbase _ rfl ?_; intro g5 cap5 w15 hown hgr hat hlt9
                   have f1 := hMaH.out.ro.grown hgr (fun e => hneT.out e.symm)
                   have o5 := f1.cell (i := 0) (by simp)
                   simp only [List.getElem_cons_zero] at o5
                   have of5 := f1.frozen 0
                   have hpush : OwnC w15 b.bR (.slice (some ⟨g5, 0, none⟩) (k + 1) cap5) (codesK n u l (k + 1)) := by
                     rw [hcs.out]
                     have := OwnC.push (cs := codesK n u l k) (c := c) (w := w15) (B := b.bR) (g := g5) (cap := cap5) (by rw [hclH.out]; exact hown)
                     rw [hclH.out] at this
                     exact this
                   have hnext : Hid (RkRel w b.bR n b u l (k + 1) (w15.setCell ⟨b.bo, 0, none⟩ (.slice (some ⟨g5, 0, none⟩) (k + 1) cap5))) := ⟨⟨_, _, _, _, hMaH.out.code hpush hgr, hRLH.out, hLLH.out⟩, ((hBa.out.grown hgr hbase (fun q hq => (World.ownsRow.lt hMaH.out.oc q hq).1)).setCell (p := ⟨b.bo, 0, none⟩) hMaH.out.lo.2.1 _)⟩
                   clear hown hgr hat hlt9 f1 hMaH hBa hownH hpush))
              go_roundg (l.length - (k + 1))
              case measure => have := hgkH.out; omega
              case rel => exact ⟨k + 1, by omega, rfl, by go_num, hnext.out⟩
        · have hkl : k = l.length := by omega
          as_aux_lemma =>
            subst hkl
            have hKn := hKI.out l.length
            have hclH := Lib.hid (codesK_len n u l l.length)
            have hwd : Hid ((L.length : Int) = wayK n (kAt n u l l.length)) := hMH.out.rl.len fun i => by
              by_cases e : (kAt n u l l.length).q i i = []
              · exact e
              · exact absurd rfl (hKn.chan i i e).1
            have hrl : Hid (∀ i, (rwK (kAt n u l l.length) i).length ≤ 1000) := fun i => by
              have := (hKn.ok hn).row i
              show (nlK ((kAt n u l l.length).row i)).length ≤ 1000
              rw [nlK_len]; omega
            have hll := hMH.out.ll
            clear hKn hKI
            obtain ⟨S, hS⟩ : ∃ S, Hid (kAt n u l l.length = S) := ⟨_, rfl⟩
            rw [hS.out] at hMH hwd hrl
            obtain ⟨cs, hcsE⟩ : ∃ cs, Hid (codesK n u l l.length = cs) := ⟨_, rfl⟩
            rw [hcsE.out] at hMH hclH
            have hCw : Hid (∀ i, wantB S i = true ↔ (i : Int) ∈ rwK S i) := fun i => by
              show decide (i ∈ S.row i) = true ↔ (i : Int) ∈ nlK (S.row i)
              rw [mem_nlK]; simp
            have hrelw : Hid (RkW w b.bR n b S vs (.slice Al L.length cl) L vc cs 0 0 wr) := ⟨hMH.out.rf, hMH.out.bl⟩
            clear hMH
            go_wp2_with fail
            go_loopw [20] (fun t wr => ∃ i : Nat, i ≤ n ∧ t = .int .i64 i ∧ RkW w b.bR n b S vs (.slice Al L.length cl) L vc cs (wordB i S.ins) (wordB i (wantB S)) wr) (fun t _ => n - (intOf t).toNat)
            case atStart => exact ⟨0, Nat.zero_le _, rfl, hrelw.out⟩
            case round =>
              clear hrelw
              obtain ⟨i, hin, rfl, hM, hB⟩ := hrel
              by_cases hlti : i < n
              · have hiI : (i : Int) < (n : Int) := by omega
                have hi32 : (i : Int) < 32 := by omega
                have hi0 : ¬ (i : Int) < 0 := by omega
                have hV := wordB_small (k := i) (by omega) S.ins
                have hW := wordB_small (k := i) (by omega) (wantB S)
                have haddV := add_wordT hV (i := i) (by omega)
                have haddW := add_wordT hW (i := i) (by omega)
                have a1 := BRowG.at_ hM.rI hlti
                have x1 := hM.vars.2.1
                obtain ⟨D, hD⟩ : ∃ D, Hid (wantB S i = D) := ⟨_, rfl⟩
                cases hins : S.ins i with
                | false =>
                  rw [hins] at a1
                  have hM1 : Hid (RkW w b.bR n b S vs (.slice Al L.length cl) L vc cs (wordB (i + 1) S.ins) (wordB i (wantB S)) wr) := ⟨by rw [wordB_skip i S.ins hins]; exact hM, hB⟩
                  have x2 := hM1.out.1.vars.2.2.1
                  obtain ⟨Ah, ch, hvh, hlh1, hlh2, hNh⟩ := (hM1.out.1.fam i hlti).nums
                  have h1 := hM1.out.1.hcell hlti
                  rw [hvh] at h1
                  have hhas := Lib.hid (hasL_any Ah ch (rwK S i) (i : Int) _ hNh (hrl.out i) D (by unfold Hid; rw [← hD.out]; exact hCw.out i))
                  clear hNh hvh hM hB hins
                  generalize (rwK S i).length = lh at *
                  generalize wordB i S.ins = V at *
                  go_wp2_with fail
                  refine hhas.out.mono ?_
                  rintro e w7 ⟨rfl, rfl⟩
                  clear hhas h1 x1 x2 a1
                  (try generalize wr.setCell ⟨b.bo, 1, none⟩ (.int .u32 v2) = wx at *)
                  cases D with
                  | false =>
                    have hnx : Hid (RkW w b.bR n b S vs (.slice Al L.length cl) L vc cs (wordB (i + 1) S.ins) (wordB (i + 1) (wantB S)) _) := ⟨by rw [wordB_skip i (wantB S) hD.out]; exact hM1.out.1, hM1.out.2⟩
                    clear hM1
                    go_wp2_with fail
                    go_roundw
                    case rel => exact ⟨i + 1, by omega, by go_num, hnx.out⟩
                    case measure => simp [intOf]; omega
                  | true =>
                    have t2 := hM1.out.1.ro.cell (i := 2) (by simp)
                    have t2f := hM1.out.1.ro.frozen 2
                    simp only [List.getElem_cons_zero, List.getElem_cons_succ] at t2
                    have hnx := Lib.hid (show RkW w b.bR n b S vs (.slice Al L.length cl) L vc cs (wordB (i + 1) S.ins) (wordB (i + 1) (wantB S)) _ from ⟨by rw [wordB_add i (wantB S) hD.out]; exact hM1.out.1.setR 1 _, hM1.out.2.setCell (p := ⟨b.bo, 2, none⟩) hM1.out.1.lo.2.1 _⟩)
                    clear hM1
                    generalize wordB i (wantB S) = U at *
                    go_wp2_with fail
                    go_roundw
                    case rel => exact ⟨i + 1, by omega, by go_num, hnx.out⟩
                    case measure => simp [intOf]; omega
                | true =>
                  rw [hins] at a1
                  have t1 := hM.ro.cell (i := 1) (by simp)
                  have t1f := hM.ro.frozen 1
                  simp only [List.getElem_cons_zero, List.getElem_cons_succ] at t1
                  obtain ⟨v2, hv2⟩ : ∃ v : Int, Hid (((wordB i S.ins + 2 ^ i : Nat) : Int) = v) := ⟨_, rfl⟩
                  rw [hv2.out] at haddV
                  have hM1 : Hid (RkW w b.bR n b S vs (.slice Al L.length cl) L vc cs (wordB (i + 1) S.ins) (wordB i (wantB S)) (wr.setCell ⟨b.bo, 1, none⟩ (.int .u32 v2))) := ⟨by rw [wordB_add i S.ins hins, ← hv2.out]; exact hM.setR 0 _, hB.setCell (p := ⟨b.bo, 1, none⟩) hM.lo.2.1 _⟩
                  clear hv2
                  have x2 := hM1.out.1.vars.2.2.1
                  obtain ⟨Ah, ch, hvh, hlh1, hlh2, hNh⟩ := (hM1.out.1.fam i hlti).nums
                  have h1 := hM1.out.1.hcell hlti
                  rw [hvh] at h1
                  have hhas := Lib.hid (hasL_any Ah ch (rwK S i) (i : Int) _ hNh (hrl.out i) D (by unfold Hid; rw [← hD.out]; exact hCw.out i))
                  clear hNh hvh hM hB hins
                  generalize (rwK S i).length = lh at *
                  generalize wordB i S.ins = V at *
                  go_wp2_with fail
                  refine hhas.out.mono ?_
                  rintro e w7 ⟨rfl, rfl⟩
                  clear hhas h1 x1 x2 a1
                  (try generalize wr.setCell ⟨b.bo, 1, none⟩ (.int .u32 v2) = wx at *)
                  cases D with
                  | false =>
                    have hnx : Hid (RkW w b.bR n b S vs (.slice Al L.length cl) L vc cs (wordB (i + 1) S.ins) (wordB (i + 1) (wantB S)) _) := ⟨by rw [wordB_skip i (wantB S) hD.out]; exact hM1.out.1, hM1.out.2⟩
                    clear hM1
                    go_wp2_with fail
                    go_roundw
                    case rel => exact ⟨i + 1, by omega, by go_num, hnx.out⟩
                    case measure => simp [intOf]; omega
                  | true =>
                    have t2 := hM1.out.1.ro.cell (i := 2) (by simp)
                    have t2f := hM1.out.1.ro.frozen 2
                    simp only [List.getElem_cons_zero, List.getElem_cons_succ] at t2
                    have hnx := Lib.hid (show RkW w b.bR n b S vs (.slice Al L.length cl) L vc cs (wordB (i + 1) S.ins) (wordB (i + 1) (wantB S)) _ from ⟨by rw [wordB_add i (wantB S) hD.out]; exact hM1.out.1.setR 1 _, hM1.out.2.setCell (p := ⟨b.bo, 2, none⟩) hM1.out.1.lo.2.1 _⟩)
                    clear hM1
                    generalize wordB i (wantB S) = U at *
                    go_wp2_with fail
                    go_roundw
                    case rel => exact ⟨i + 1, by omega, by go_num, hnx.out⟩
                    case measure => simp [intOf]; omega
              · have hin' : n = i := by omega
                subst hin'
                obtain ⟨Ac, capc, hvc, -, -, -⟩ := hM.oc.shape
                rw [hclH.out] at hvc
                subst hvc
                have hM7 := hM.setR 2 (.int .i64 (L.length : Int))
                simp only [List.set_cons_succ, List.set_cons_zero] at hM7
                have x4 := hM.vars.2.2.2.2.1
                have s3 := hM.ro.cell (i := 3) (by simp)
                have s3f := hM.ro.frozen 3
                have t0 := hM7.ro.cell (i := 0) (by simp)
                have t1 := hM7.ro.cell (i := 1) (by simp)
                have t2 := hM7.ro.cell (i := 2) (by simp)
                have t3 := hM7.ro.cell (i := 3) (by simp)
                have r0 := hM7.rr.cell (i := 0) (by simp)
                have r1 := hM7.rr.cell (i := 1) (by simp)
                have r2 := hM7.rr.cell (i := 2) (by simp)
                have r3 := hM7.rr.cell (i := 3) (by simp)
                have f0 := hM7.rr.frozen 0
                have f1 := hM7.rr.frozen 1
                have f2 := hM7.rr.frozen 2
                have f3 := hM7.rr.frozen 3
                simp only [List.getElem_cons_zero, List.getElem_cons_succ] at s3 t0 t1 t2 t3 r0 r1 r2 r3
                have hB7 := Lib.hid (hB.setCell (p := ⟨b.bo, 3, none⟩) hM.lo.2.1 (.int .i64 (L.length : Int)))
                have hM7H := Lib.hid hM7
                have hocH := Lib.hid hM7.oc
                obtain ⟨VV, hVV⟩ : ∃ x, Hid (wordB n S.ins = x) := ⟨_, rfl⟩
                obtain ⟨WW, hWW⟩ : ∃ x, Hid (wordB n (wantB S) = x) := ⟨_, rfl⟩
                rw [hVV.out] at t1
                rw [hWW.out] at t2
                clear hM7 hM hB
                go_wp2_with fail
                generalize wr.setCell ⟨b.bo, 3, none⟩ (.int .i64 (L.length : Int)) = w7 at *
                have hR8 := (((hM7H.out.rr.set 0 (.slice Ac l.length capc)).set 1 (.int .u32 (VV : Int))).set 2 (.int .u32 (WW : Int))).set 3 (.int .i64 (L.length : Int))
                have hB8 := Lib.hid ((((hB7.out.setCell (p := ⟨b.bR, 0, none⟩) hM7H.out.lo.1 (.slice Ac l.length capc)).setCell (p := ⟨b.bR, 1, none⟩) hM7H.out.lo.1 (.int .u32 (VV : Int))).setCell (p := ⟨b.bR, 2, none⟩) hM7H.out.lo.1 (.int .u32 (WW : Int))).setCell (p := ⟨b.bR, 3, none⟩) hM7H.out.lo.1 (.int .i64 (L.length : Int)))
                have hoc8 : Hid (OwnC ((((w7.setCell ⟨b.bR, 0, none⟩ (.slice Ac l.length capc)).setCell ⟨b.bR, 1, none⟩ (.int .u32 (VV : Int))).setCell ⟨b.bR, 2, none⟩ (.int .u32 (WW : Int))).setCell ⟨b.bR, 3, none⟩ (.int .i64 (L.length : Int))) b.bR (.slice Ac l.length capc) cs) := ownsG_blk hocH.out fun g e => by
                  have hne : g ≠ b.bR := fun e' => owns_ne_row hocH.out hM7H.out.rr (by decide) (e' ▸ e)
                  rw [Below.heap_setCell _ _ _ g hne, Below.heap_setCell _ _ _ g hne, Below.heap_setCell _ _ _ g hne, Below.heap_setCell _ _ _ g hne]
                generalize (((w7.setCell ⟨b.bR, 0, none⟩ (.slice Ac l.length capc)).setCell ⟨b.bR, 1, none⟩ (.int .u32 (VV : Int))).setCell ⟨b.bR, 2, none⟩ (.int .u32 (WW : Int))).setCell ⟨b.bR, 3, none⟩ (.int .i64 (L.length : Int)) = w8 at *
                have q0 := hR8.cell (i := 0) (by simp)
                have q1 := hR8.cell (i := 1) (by simp)
                have q2 := hR8.cell (i := 2) (by simp)
                have q3 := hR8.cell (i := 3) (by simp)
                simp at q0 q1 q2 q3
                (try simp only [Exit.inBlock, Exit.then])
                have hres : Hid (RtkRes w n u l (.returned (.agg #[.slice Ac l.length capc, .int .u32 (VV : Int), .int .u32 (WW : Int), .int .i64 (L.length : Int)])) w8) := ⟨Ac, capc, by rw [hS.out, hVV.out, hWW.out, ← hwd.out], by rw [hB0H.out, hcsE.out]; exact hoc8.out, by rw [hB0H.out]; exact hB8.out⟩
                refine bodyPost_ret (v := .agg #[.slice Ac l.length capc, .int .u32 (VV : Int), .int .u32 (WW : Int), .int .i64 (L.length : Int)]) ?_ rfl hres.out
                clear hR8 hB8 hoc8 hM7H hocH hB7
                rw [results_cellT rfl]
                go_simp

#print axioms rtk_ok
end Go.Proofs.Ytejckoffllhjcaa
