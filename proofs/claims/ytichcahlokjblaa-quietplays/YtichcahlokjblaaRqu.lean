/-
  The contract of beaconryref.Quiet.
-/
import Derived.Test.YtichcahlokjblaaRqp
import Derived.BigQuiet
import Derived.Deep.QuietTactic
namespace Go.Proofs.Ytichcahlokjblaa
open Go.RowKit Go.Maps
set_option linter.unusedVariables false

set_option maxRecDepth 20000 in
set_option maxHeartbeats 16000000 in
theorem rqu_ok (A : Option Addr) (cap : Nat) (l : List Mv) (n : Nat) (w : World) (hE : Mvs w w.heap.size A l) (hF : MFits l) (hn : n ≤ 6) (hn0 : 0 < n) (h60 : l.length ≤ 60) :
    Calls Try.prog 8 #[.int .i64 (n : Int), .slice A l.length cap] w (RquRes w n l) := by
  obtain ⟨j0, hi0, hz0, hz1, hz2⟩ := info_parts infoBl
  have hJi := Lib.hid hi0; have hJz := Lib.hid hz0; have hJs := Lib.hid hz1
  have b2 : j0.bytes * n ≤ 281474976710656 := by rw [hz2]; omega
  have hnI : (0 : Int) < (n : Int) := by omega
  have hEH := Lib.hid hE
  have hFH := Lib.hid hF
  have hl60 : (l.length : Int) ≤ 60 := by omega
  have hsz1 : ((w.alloc (.cells #[.int .i64 (n : Int)] 3)).alloc (.cells #[.slice none 0 0, .bool false, .int .u32 0, .int .i64 0] 26)).heap.size = w.heap.size + 1 + 1 := by simp
  have hRn := Lib.hid ((Row.made w 3 [.int .i64 (n : Int)]).alloc (.cells #[.slice none 0 0, .bool false, .int .u32 0, .int .i64 0] 26))
  have hRr := Row.made (w.alloc (.cells #[.int .i64 (n : Int)] 3)) 26 [.slice none 0 0, .bool false, .int .u32 0, .int .i64 0]
  rw [show (w.alloc (.cells #[.int .i64 (n : Int)] 3)).heap.size = w.heap.size + 1 by simp] at hRr
  have hRrH := Lib.hid hRr
  have hB1 := Lib.hid (((Below.refl w.heap.size w).alloc (Nat.le_refl _) (.cells #[.int .i64 (n : Int)] 3)).alloc (by simp) (.cells #[.slice none 0 0, .bool false, .int .u32 0, .int .i64 0] 26))
  have hszH := Lib.hid hsz1
  clear hi0 hz0 hz1 hz2 hE hF hRr hsz1
  go_enter Try.func8, Try.ntmps8
  go_wp2_with (first
    | (at_make; refine wpList_make_row _ rfl _ _ 44 rfl 4 j0 (.bool false) Try.underlying44 hJi.out hJz.out hJs.out rfl .i64 .i64 _ _ n rfl rfl rfl rfl b2 (by unfold maxLen; omega) ?_; intro w2 hR2 hG2
       rw [boolR_zero, hszH.out] at hR2
       have hR3 := Row.alloc hR2 (.cells #[.slice (some ⟨w.heap.size + 1 + 1, 0, none⟩) n n] 44)
       have fz := BRowD.at_ hR3 hn0
       have ff := Row.frozen hR3 0
       have hR2H := Lib.hid hR2; have hG2H := Lib.hid hG2; clear hR2 hG2 hR3))
  have hsz2 : w.heap.size + 1 + 1 ≤ w2.heap.size := by have := hG2H.out.size; have := hszH.out; omega
  have hst := Lib.hid (rfq_start (B := w.heap.size) (hRn.out.grown hG2H.out (by simp)) (hRrH.out.grown hG2H.out (by simp)) hR2H.out (Nat.le_refl _) (by omega) (by omega))
  have hbs := Lib.hid (below_start (n := n) (W := w.heap.size + 1 + 1) (hB1.out.grown hG2H.out (by have := hszH.out; omega) (by simp)) (by omega) (by omega) (.func (.func 16) #[] #[.pointer (some ⟨w2.heap.size + 1, 0, none⟩)]) (.func (.func 17) #[] #[.pointer (some ⟨w2.heap.size + 1, 0, none⟩)]))
  have hrel0 : Hid (RqRel w w.heap.size n ⟨w.heap.size, w.heap.size + 1, w2.heap.size, w.heap.size + 1 + 1, w2.heap.size + 1, w2.heap.size + 1 + 1, w2.heap.size + 1 + 1 + 1, w2.heap.size + 1 + 1 + 1 + 1⟩ l 0 _) := ⟨_, [], _, hst.out, RelM.begin n, Nat.le_refl _, hbs.out⟩
  clear hst hbs hR2H hG2H hRn hRrH hB1 fz ff hszH
  generalize hB0 : w.heap.size = B0 at *
  have hB0H := Lib.hid hB0
  generalize hb1 : B0 + 1 = b1 at *
  generalize hb2 : b1 + 1 = b2' at *
  generalize hb3 : w2.heap.size = b3 at *
  generalize hb4 : b3 + 1 = b4 at *
  generalize hb5 : b4 + 1 = b5 at *
  generalize hb6 : b5 + 1 = b6 at *
  generalize hb7 : b6 + 1 = b7 at *
  have hbrH : Hid (B0 < b1) := by unfold Hid; omega
  clear hb1 hb2 hb3 hb4 hb5 hb6 hb7 hsz2 hB0 b2
  obtain ⟨b, e1, e2, e3, e4, e5, e6, e7, e8⟩ : ∃ b : QB, b.bn = B0 ∧ b.br = b1 ∧ b.bw = b3 ∧ b.W = b2' ∧ b.ba = b4 ∧ b.bo = b5 ∧ b.bb = b6 ∧ b.bt = b7 := ⟨⟨B0, b1, b3, b2', b4, b5, b6, b7⟩, rfl, rfl, rfl, rfl, rfl, rfl, rfl, rfl⟩
  subst e1 e2 e3 e4 e5 e6 e7 e8
  have hrel1 : Hid (RqRel w b.bn n b l 0 _) := hrel0
  clear hrel0
  obtain ⟨je, hi0, hz0, hz1, hz2⟩ := info_parts infoErr
  have hEi := Lib.hid hi0; have hEz := Lib.hid hz0; have hEs := Lib.hid hz1; have hEb := Lib.hid hz2
  clear hi0 hz0 hz1 hz2
  obtain ⟨jm, hi0, hz0, hz1, hz2⟩ := info_parts infoMl
  have hMi := Lib.hid hi0; have hMz := Lib.hid hz0; have hMs := Lib.hid hz1; have hMb := Lib.hid hz2
  clear hi0 hz0 hz1 hz2
  go_loopg [30] l.length (fun g t wr => ∃ k : Nat, k ≤ l.length ∧ l.length - k = g ∧ t = .int .i64 k ∧ RqRel w b.bn n b l k wr)
  case atStart => exact ⟨0, Nat.zero_le _, rfl, rfl, hrel1.out⟩
  case round =>
    clear hrel1
    obtain ⟨k, hk, hgk, rfl, va, L, vc, hM, hR, hlL, hB⟩ := hrel
    have hgkH := Lib.hid hgk
    clear hgk
    have hszr : b.bn ≤ wr.heap.size := hM.sz
    have hMH := Lib.hid hM
    have hRH := Lib.hid hR
    have hBH := Lib.hid hB
    clear hM hR hB
    by_cases hlt : k < l.length
    · have hkI : (k : Int) < (l.length : Int) := by omega
      obtain ⟨bl, off, rfl, hb, hc⟩ := (hEH.out.below hBH.out) (by omega)
      obtain ⟨c0, c1, c2, c3⟩ := hc k hlt
      clear hc
      rw [mv_get l hlt] at c0 c1 c2 c3
      have hfit := hFH.out.at_ hlt
      have hst : Hid (qAt n l (k + 1) = (stepQ n (qAt n l k) (mv l k)).1) := rfl
      have hcd : Hid (codeQ n l k = (stepQ n (qAt n l k) (mv l k)).2) := rfl
      have hok := Lib.hid (QOk.at_ hn0 l k)
      have hk60 : k ≤ 60 := by omega
      have hcl := codesQ_len n l k
      have hcs := Lib.hid (codesQ_succ n l k)
      have hclH := Lib.hid hcl
      clear hcl
      generalize mv l k = mo at *
      obtain ⟨mk, mf, mt, mv'⟩ := mo
      simp only at *
      obtain ⟨⟨k1, k2⟩, ⟨f1, f2⟩, ⟨t1, t2⟩, ⟨v1, v2⟩⟩ := hfit
      simp only at k1 k2 f1 f2 t1 t2 v1 v2
      have hrow := Row.made wr 39 [.int .i64 mk, .int .i64 mf, .int .i64 mt, .int .i64 mv']
      have hM1 := Lib.hid (hMH.out.alloc (.cells #[.int .i64 mk, .int .i64 mf, .int .i64 mt, .int .i64 mv'] 39))
      have hB1 := Lib.hid (hBH.out.alloc hszr (.cells #[.int .i64 mk, .int .i64 mf, .int .i64 mt, .int .i64 mv'] 39))
      have y0 := hrow.cell (i := 0) (by simp)
      simp only [List.getElem_cons_zero] at y0
      have hrowH := Lib.hid hrow
      clear hMH hBH hrow hszr
      by_cases hk1 : mk < 1
      · skip
        have hS := Lib.hid (stepQ_kind (n := n) (S := qAt n l k) (m := ⟨mk, mf, mt, mv'⟩) (.inl hk1))
        have hst' : Hid (qAt n l (k + 1) = qAt n l k) := by unfold Hid; rw [hst.out, hS.out]
        have hcd' : Hid (codeQ n l k = 6) := by unfold Hid; rw [hcd.out, hS.out]
        obtain ⟨Ac, capc, hvc, hcc1, hcc2, -⟩ := hM1.out.oc.shape
        rw [hclH.out] at hvc hcc1
        subst hvc
        have hMa := hM1.out.alloc (.cells #[.int .i64 6] 27)
        have hBa := Lib.hid (hB1.out.alloc hM1.out.sz (.cells #[.int .i64 6] 27))
        have hc0 := hM1.out.rt.cell (i := 0) (by simp)
        simp only [List.getElem_cons_zero] at hc0
        have hown0 := hMa.oc
        unfold OwnK at hown0
        rw [hclH.out] at hown0
        have hneT : Hid ((Value.slice Ac k capc).ownBlock ≠ some b.bt) := owns_ne_row hMa.oc hMa.rt (by decide)
        have hbase : b.bn ≤ ((wr.alloc (.cells #[.int .i64 mk, .int .i64 mf, .int .i64 mt, .int .i64 mv'] 39)).alloc (.cells #[.int .i64 6] 27)).heap.size := hMa.sz
        have hnews := Lib.hid (newsV (w := wr.alloc (.cells #[.int .i64 mk, .int .i64 mf, .int .i64 mt, .int .i64 mv'] 39)) (g := (wr.alloc (.cells #[.int .i64 mk, .int .i64 mf, .int .i64 mt, .int .i64 mv'] 39)).heap.size) (.int .i64 6) 27 rfl)
        have hz : (wr.alloc (.cells #[.int .i64 mk, .int .i64 mf, .int .i64 mt, .int .i64 mv'] 39)).heap.size = wr.heap.size + 1 := by simp
        rw [hz] at hnews
        have hMaH := Lib.hid hMa
        have hownH := Lib.hid hown0
        clear hMa hown0 hM1 hB1 hS hz
        go_wp2_with (first
          | (at_builtin; refine wpList_append_lies _ rfl (.tmp 164) (.tmp 166) 23 rfl b.bn 27 je (.int .i64 0) 1 8 Try.underlying23 hEi.out hEz.out hEs.out hEb.out rfl (by decide) (.slice Ac k capc) k (codD (codesQ n l k)) rfl hownH.out ⟨wr.heap.size + 1, 0, none⟩ 1 1 [.int .i64 6] rfl rfl hnews.out (by simp [Value.oneCell']) (by omega) (by unfold maxLen; omega) (by omega) hbase _ rfl ?_; intro g5 cap5 w15 hown hgr hat hlt9
             have f1 := hMaH.out.rt.grown hgr (fun e => hneT.out e.symm)
             have o5 := f1.cell (i := 0) (by simp)
             simp only [List.getElem_cons_zero] at o5
             have of5 := f1.frozen 0
             have hpush : OwnK w15 b.bn (.slice (some ⟨g5, 0, none⟩) (k + 1) cap5) (codesQ n l (k + 1)) := by
               rw [hcs.out, hcd'.out]
               have := OwnK.push (cs := codesQ n l k) (c := 6) (w := w15) (B := b.bn) (g := g5) (cap := cap5) (by rw [hclH.out]; exact hown)
               rw [hclH.out] at this
               exact this
             have hnext : Hid (RqRel w b.bn n b l (k + 1) (w15.setCell ⟨b.bt, 0, none⟩ (.slice (some ⟨g5, 0, none⟩) (k + 1) cap5))) := ⟨va, L, _, by rw [hst'.out]; exact hMaH.out.code hpush hgr, by rw [hst'.out]; exact hRH.out, Nat.le_succ_of_le hlL, ((hBa.out.grown hgr hbase (fun q hq => (World.ownsRow.lt hMaH.out.oc q hq).1)).setCell (p := ⟨b.bt, 0, none⟩) hMaH.out.lo.2.2.2.2.2.2.2 _)⟩
             clear hown hgr hat hlt9 f1 hMaH hBa hownH hpush))
        go_roundg (l.length - (k + 1))
        case measure => have := hgkH.out; omega
        case rel => exact ⟨k + 1, by omega, rfl, by go_num, hnext.out⟩
      · go_upto_if 41 with fail
        generalize wr.alloc (.cells #[.int .i64 mk, .int .i64 mf, .int .i64 mt, .int .i64 mv'] 39) = wm at *
        generalize wr.heap.size = bm at *
        clear c0 c1 c2 c3 y0 hb
        go_cut [13, 14, 15, 16] from 31 to 169 (fun e _ _ _ wx => RqCut w b.bn n b l k e wx)
        case first =>
          have y0 := hrowH.out.cell (i := 0) (by simp)
          have y1 := hrowH.out.cell (i := 1) (by simp)
          have y2 := hrowH.out.cell (i := 2) (by simp)
          have y3 := hrowH.out.cell (i := 3) (by simp)
          simp only [List.getElem_cons_zero, List.getElem_cons_succ] at y0 y1 y2 y3
          have x0 := hM1.out.vars.1
          by_cases hk3 : 3 < mk
          · as_aux_lemma =>
              have hS := Lib.hid (stepQ_kind (n := n) (S := qAt n l k) (m := ⟨mk, mf, mt, mv'⟩) (.inr hk3))
              have hrelc : Hid (RqCut w b.bn n b l k (.int .i64 6) wm) := RqCut.of (by rw [hst.out, hS.out]) (by rw [hcd.out, hS.out]) hM1.out hRH.out (Nat.le_succ_of_le hlL) hB1.out
              clear hS hst hcd hM1 hRH hB1 hrowH
              go_wp2_with fail
              go_meet
              case rel => exact hrelc.out
          · obtain ⟨two, htwo⟩ : ∃ two : Bool, (mk != 3) = two := ⟨_, rfl⟩
            by_cases hgood : (0 ≤ mf ∧ mf < n) ∧ (mk ≠ 3 → (0 ≤ mt ∧ mt < n) ∧ mt ≠ mf)
            · have hends := Lib.hid (ends_any wm n ⟨mk, mf, mt, mv'⟩ two true ⟨fun _ => ⟨hgood.1, fun h => hgood.2 (fun e => by rw [e] at htwo; rw [← htwo] at h; simp at h)⟩, fun _ => rfl⟩)
              simp only at hends
              by_cases hk2 : mk = 2
              · skip
                as_aux_lemma =>
                  subst hk2
                  have htw : two = true := by rw [← htwo]; decide
                  subst htw
                  obtain ⟨hgf, hgt⟩ := hgood
                  obtain ⟨hgt, hgne⟩ := hgt (by decide)
                  obtain ⟨i, rfl⟩ : ∃ i : Nat, mf = (i : Int) := ⟨mf.toNat, by omega⟩
                  obtain ⟨j, rfl⟩ : ∃ j : Nat, mt = (j : Int) := ⟨mt.toNat, by omega⟩
                  have hi : i < n := by omega
                  have hj : j < n := by omega
                  have hjI : (j : Int) < (n : Int) := by omega
                  have hS := Lib.hid (stepQ_take (n := n) (S := qAt n l k) (m := ⟨2, (i : Int), (j : Int), mv'⟩) rfl hgf (by simp only; omega))
                  rw [Int.toNat_natCast, Int.toNat_natCast] at hS
                  clear hgf hgt hgne htwo hk1 hk3
                  generalize qAt n l k = S at *
                  go_wp2_with fail
                  refine hends.out.mono ?_
                  rintro e w3 ⟨rfl, hB3⟩
                  have hM3 := hM1.out.below hB3
                  have hBw3 := Lib.hid (hB1.out.trans (hB3.mono hM1.out.sz))
                  have hrow3 := hrowH.out.below hB3 hrowH.out.lt
                  obtain ⟨A9, cap9, hva, hl1, hl2, -⟩ := hM3.oa.shape
                  subst hva
                  have hM3H := Lib.hid hM3
                  have hrow3H := Lib.hid hrow3
                  have hl60 : L.length ≤ 60 := by omega
                  have z0 := hrow3.cell (i := 0) (by simp)
                  simp only [List.getElem_cons_zero] at z0
                  obtain ⟨x0, x1, x2, x3, x4⟩ := hM3.vars
                  clear hends hB3 hM1 hB1 hrowH hM3 hrow3 y0 y1 y2 y3
                  rcases first_way L i j with ⟨k0, hk0, hw0, hb0⟩ | hnone
                  · skip
                    have htr : S.tr i j ≠ 0 := by rw [hRH.out.tr]; exact countP_of hk0 hw0
                    have hst' : Hid (qAt n l (k + 1) = S.take n i j) := by unfold Hid; rw [hst.out, hS.out, if_neg htr]
                    have hcd' : Hid (codeQ n l k = 0) := by unfold Hid; rw [hcd.out, hS.out, if_neg htr]
                    have hw0H := Lib.hid hw0
                    have hb0H := Lib.hid hb0
                    clear hw0 hb0 hS hst hcd htr
                    go_wp2_with fail
                    go_loopw [54, 13] (fun t e wr => ∃ c : Nat, c ≤ k0 ∧ t = .int .i64 c ∧ e = .int .i64 5 ∧ CntRel w3 wr) (fun t _ _ => L.length - (intOf t).toNat)
                    case atStart => exact ⟨0, Nat.zero_le _, rfl, rfl, Below.refl _ _⟩
                    case round =>
                      obtain ⟨c, hc, rfl, rfl, hBc⟩ := hrel
                      unfold CntRel at hBc
                      clear x0 x1 x2 x3 x4 z0
                      have hMc := hM3H.out.below hBc
                      have hcI : (c : Int) < (L.length : Int) := by omega
                      have hltc : c < L.length := by omega
                      have hrow := hrow3H.out.below hBc hrow3H.out.lt
                      obtain ⟨A8, cap8, hva8, -, -, hA⟩ := hMc.oa.shape
                      injection hva8 with e5 e6 e7
                      subst e5
                      obtain ⟨g, rfl, hg, m0, m1, m2, m3⟩ := hA c hltc
                      by_cases hck : c = k0
                      · subst hck
                        obtain ⟨w1', w2', w3'⟩ := (wayB_iff _ _ _).1 hw0H.out
                        rw [w1'] at m0
                        rw [w2'] at m1
                        rw [w3'] at m2
                        have hMa := hMc.alloc (.cells #[.int .i64 (i : Int), .int .i64 (j : Int), .int .i64 0] 47)
                        have hrowa := hrow.alloc (.cells #[.int .i64 (i : Int), .int .i64 (j : Int), .int .i64 0] 47)
                        have hBa := hBw3.out.trans (hBc.mono hM3H.out.sz) |>.alloc hMc.sz (.cells #[.int .i64 (i : Int), .int .i64 (j : Int), .int .i64 0] 47)
                        have z1 := hrowa.cell (i := 1) (by simp)
                        have z2 := hrowa.cell (i := 2) (by simp)
                        simp only [List.getElem_cons_zero, List.getElem_cons_succ] at z1 z2
                        obtain ⟨x0, x1, x2, x3, x4⟩ := hMa.vars
                        obtain ⟨A7, cap7, hva7, -, -, hA7⟩ := hMa.oa.shape
                        injection hva7 with e8 e9 e10
                        obtain ⟨g', hg', -, n0, n1, n2, n3⟩ := hA7 c hltc
                        rw [← e8] at hg'
                        injection hg' with hg'
                        injection hg' with hg'
                        subst hg'
                        rw [w3'] at n2
                        have hT5 : Hid (TfR w ((wr.alloc (.cells #[.int .i64 (i : Int), .int .i64 (j : Int), .int .i64 0] 47)).setCell ⟨g, c * 3 + 2, none⟩ (.int .i64 1)) b.bn n b S.act (.slice (some ⟨g, 0, none⟩) L.length cap9) L c 1 vc (codesQ n l k) bm [.int .i64 2, .int .i64 (i : Int), .int .i64 (j : Int), .int .i64 mv']) :=
                          ⟨hMa.setM hltc 1, hrowa.far (p := ⟨g, c * 3 + 2, none⟩) (fun e2 => owns_ne_row hMa.oa hrowa (by decide) (by rw [e2]; rfl)) _, hBa.setCell (p := ⟨g, c * 3 + 2, none⟩) hMa.mail.1 _⟩
                        clear hMc hrow hA hA7 hg e6 e7 e8 e9 e10 hBc hMa hrowa hBa hM3H hrow3H hBw3 n0 n1 w1' w2' w3' hb0H
                        go_upto_region 23 with fail
                        generalize (wr.alloc (.cells #[.int .i64 (i : Int), .int .i64 (j : Int), .int .i64 0] 47)).setCell ⟨g, c * 3 + 2, none⟩ (.int .i64 1) = w5 at *
                        clear m0 m1 m2 m3 n2 n3 z1 z2 x0 x1 x2 x3 x4
                        go_cut [97] from 55 to 137 (fun cv wx => TfCut w n b S (.slice (some ⟨g, 0, none⟩) L.length cap9) L c j vc (codesQ n l k) bm [.int .i64 2, .int .i64 (i : Int), .int .i64 (j : Int), .int .i64 mv'] cv wx)
                        case first =>
                          have z2 := hT5.out.row.cell (i := 2) (by simp)
                          simp only [List.getElem_cons_zero, List.getElem_cons_succ] at z2
                          obtain ⟨x0, x1, x2, x3, x4⟩ := hT5.out.rfq.vars
                          by_cases hj0 : j = 0
                          · as_aux_lemma =>
                              have q1 : ((j : Int) == 0) = true := by simp [hj0]
                              have hrelc : Hid (TfCut w n b S (.slice (some ⟨g, 0, none⟩) L.length cap9) L c j vc (codesQ n l k) bm [.int .i64 2, .int .i64 (i : Int), .int .i64 (j : Int), .int .i64 mv'] (.bool true) w5) := ⟨true, rfl, fun _ => .inl hj0, fun h => (by cases h), hT5.out⟩
                              clear hj0 hT5
                              go_wp2_with fail
                              go_meet
                              case rel => exact hrelc.out
                          · as_aux_lemma =>
                              have q1 : ((j : Int) == 0) = false := by simpa using hj0
                              obtain ⟨r, hr⟩ := bnd_some (setS L c 1) j
                              obtain ⟨hr0, hre⟩ := bnd_test hRH.out hltc hw0H.out hr
                              have hbnd : Hid (∀ w6, TfR w w6 b.bn n b S.act (.slice (some ⟨g, 0, none⟩) L.length cap9) L c 1 vc (codesQ n l k) bm [.int .i64 2, .int .i64 (i : Int), .int .i64 (j : Int), .int .i64 mv'] → Calls Try.prog 17 #[.int .i64 (j : Int), .pointer (some ⟨b.ba, 0, none⟩)] w6 fun e w' => e = .returned (.int .i64 r) ∧ Below w6.heap.size w6 w') := fun w6 h6 => by
                                obtain ⟨A6, cap6, hv6, -, -, hA6⟩ := h6.rfq.oa.shape
                                have hv6' := hv6
                                rw [setS_len] at hv6'
                                injection hv6' with e1 e2 e3
                                subst e1 e3
                                exact bound_any w6 b.ba _ _ (setS L c 1) j r hr h6.rfq.ra.lt (by rw [← hv6]; exact h6.rfq.vars.2.2.1) hA6 (by rw [setS_len]; omega)
                              have hc1 := Lib.hid (hbnd.out w5 hT5.out)
                              have hj0H := Lib.hid hj0
                              have hreH := Lib.hid hre
                              unfold boundF at x4
                              clear hr hre hj0
                              go_wp2_with fail
                              refine hc1.out.mono ?_
                              rintro e w6 ⟨rfl, hB6⟩
                              have hT6 := Lib.hid (hT5.out.below hB6)
                              have hc2 := Lib.hid (hbnd.out w6 hT6.out)
                              have z2 := hT6.out.row.cell (i := 2) (by simp)
                              simp only [List.getElem_cons_zero, List.getElem_cons_succ] at z2
                              obtain ⟨x0, x1, x2, x3, x4⟩ := hT6.out.rfq.vars
                              unfold boundF at x4
                              clear hB6 hT5 hc1 hbnd
                              by_cases hrc : r = (c : Int)
                              · have q2 : (r != (c : Int)) = false := by simp [hrc]
                                clear hrc
                                go_wp2_with fail
                                refine hc2.out.mono ?_
                                rintro e w7 ⟨rfl, hB7⟩
                                have hrelc : Hid (TfCut w n b S (.slice (some ⟨g, 0, none⟩) L.length cap9) L c j vc (codesQ n l k) bm [.int .i64 2, .int .i64 (i : Int), .int .i64 (j : Int), .int .i64 mv'] (.bool false) w7) := ⟨false, rfl, fun h => (by cases h), fun _ => hj0H.out, hT6.out.below hB7⟩
                                clear hB7 hT6 hc2
                                go_wp2_with fail
                                go_meet
                                case rel => exact hrelc.out
                              · have q2 : (r != (c : Int)) = true := by simpa using hrc
                                have heng := Lib.hid (hreH.out hrc)
                                clear hrc
                                go_wp2_with fail
                                refine hc2.out.mono ?_
                                rintro e w7 ⟨rfl, hB7⟩
                                have hrelc : Hid (TfCut w n b S (.slice (some ⟨g, 0, none⟩) L.length cap9) L c j vc (codesQ n l k) bm [.int .i64 2, .int .i64 (i : Int), .int .i64 (j : Int), .int .i64 mv'] (.bool true) w7) := ⟨true, rfl, fun _ => .inr heng.out, fun h => (by cases h), hT6.out.below hB7⟩
                                clear hB7 hT6 hc2
                                go_wp2_with fail
                                go_meet
                                case rel => exact hrelc.out
                        case rest =>
                          obtain ⟨cb, hcb, ht1, ht2, hT6⟩ := hcut
                          subst hcb
                          clear hT5
                          have hT6H := Lib.hid hT6
                          have ht1H := Lib.hid ht1
                          have ht2H := Lib.hid ht2
                          rename World => w6
                          clear hT6 ht1 ht2
                          go_upto_if 97 with fail
                          go_cut [97] from 55 to 137 (fun _ wx => TfO w n b S (.slice (some ⟨g, 0, none⟩) L.length cap9) L c j vc (codesQ n l k) bm [.int .i64 2, .int .i64 (i : Int), .int .i64 (j : Int), .int .i64 mv'] 0 wx)
                          case first =>
                            cases cb with
                            | false =>
                              have hrelc : Hid (TfO w n b S (.slice (some ⟨g, 0, none⟩) L.length cap9) L c j vc (codesQ n l k) bm [.int .i64 2, .int .i64 (i : Int), .int .i64 (j : Int), .int .i64 mv'] 0 w6) := ⟨1, Tk3.start1 (ht2H.out rfl), hT6H.out⟩
                              clear hT6H
                              go_wp2_with fail
                              go_meet
                              case rel => exact hrelc.out
                            | true =>
                              obtain ⟨x0, x1, x2, x3, x4⟩ := hT6H.out.rfq.vars
                              obtain ⟨g', hg', -, -, -, n2, n3⟩ := hT6H.out.at_ hltc
                              injection hg' with hg'
                              injection hg' with hg'
                              subst hg'
                              obtain ⟨vv, n2⟩ := Option.isSome_iff_exists.1 n2
                              have hrelc : Hid (TfO w n b S (.slice (some ⟨g, 0, none⟩) L.length cap9) L c j vc (codesQ n l k) bm [.int .i64 2, .int .i64 (i : Int), .int .i64 (j : Int), .int .i64 mv'] 0 (w6.setCell ⟨g, c * 3 + 2, none⟩ (.int .i64 2))) := ⟨2, Tk3.start2 (ht1H.out rfl), hT6H.out.setM hltc 2⟩
                              clear hT6H
                              go_wp2_with fail
                              go_meet
                              case rel => exact hrelc.out
                          case rest =>
                            have hO0 := Lib.hid hcut
                            clear hcut hT6H ht1H ht2H
                            go_wp2_with fail
                            go_loopw [16] (fun t wr => ∃ o : Nat, o ≤ L.length ∧ t = .int .i64 o ∧ TfO w n b S (.slice (some ⟨g, 0, none⟩) L.length cap9) L c j vc (codesQ n l k) bm [.int .i64 2, .int .i64 (i : Int), .int .i64 (j : Int), .int .i64 mv'] o wr) (fun t _ => L.length - (intOf t).toNat)
                            case atStart => exact ⟨0, Nat.zero_le _, rfl, hO0.out⟩
                            case round =>
                              clear hO0
                              obtain ⟨o, ho, rfl, x, hx, hT⟩ := hrel
                              rename World => w8
                              have hxH := Lib.hid hx
                              have hTH := Lib.hid hT
                              clear hx
                              have z2 := hT.row.cell (i := 2) (by simp)
                              simp only [List.getElem_cons_zero, List.getElem_cons_succ] at z2
                              obtain ⟨x0, x1, x2, x3, x4⟩ := hT.rfq.vars
                              by_cases hlto : o < L.length
                              · have hoI : (o : Int) < (L.length : Int) := by omega
                                obtain ⟨g', hg', m0, m1, m2, -, -⟩ := hT.at_ hlto
                                injection hg' with hg'
                                injection hg' with hg'
                                subst hg'
                                clear hT m0
                                by_cases hoc : o = c
                                · have q1 : ((o : Int) != (c : Int)) = false := by simp [hoc]
                                  have hnx : Hid (Tk3 S L c j (o + 1) x) := hxH.out.skip fun h => absurd hoc h
                                  clear m2 hoc
                                  go_wp2_with fail
                                  go_quiet (fail)
                                  have hT9 := Lib.hid (hTH.out.drewN nq)
                                  generalize w8.drewN nq = w9 at *
                                  go_wp2_with fail
                                  go_roundw
                                  case rel => exact ⟨o + 1, by omega, by go_num, x, hnx.out, hT9.out⟩
                                  case measure => simp [intOf]; omega
                                · have q1 : ((o : Int) != (c : Int)) = true := by simp; omega
                                  have m2' := m2 hoc
                                  have hhit : Hid (engB j (ml L o) = true → Tk3 S L c j (o + 1) 2) := fun h => Tk3.hit hRH.out hlto h
                                  have hskip : Hid (engB j (ml L o) = false → Tk3 S L c j (o + 1) x) := fun h => hxH.out.skip fun _ => h
                                  have hiff := Lib.hid (engB_iff j (ml L o))
                                  clear m2
                                  generalize ml L o = m at *
                                  obtain ⟨f, t, s⟩ := m
                                  simp only at m1 m2' hiff
                                  have hno : Hid (¬ (t = j ∧ s = 1) → engB j ⟨f, t, s⟩ = false) := fun h => by
                                    cases hh : engB j ⟨f, t, s⟩ with
                                    | false => rfl
                                    | true => exact absurd (hiff.out.1 hh) h
                                  by_cases e1 : t = j
                                  · have q2 : ((t : Int) == (j : Int)) = true := by simp [e1]
                                    by_cases e2 : s = 1
                                    · have q3 : ((s : Int) == 1) = true := by simp [e2]
                                      have hnx := Lib.hid (hhit.out (hiff.out.2 ⟨e1, e2⟩))
                                      clear hhit hskip hiff hno e1 e2 hoc
                                      go_wp2_with fail
                                      go_quiet (fail)
                                      have hT9 := Lib.hid (hTH.out.drewN nq)
                                      clear hTH x0 x1 x2 x3 x4 z2 m1 m2' q1 q2 q3
                                      generalize w8.drewN nq = w9 at *
                                      obtain ⟨x0, x1, x2, x3, x4⟩ := hT9.out.rfq.vars
                                      obtain ⟨g', hg', -, -, -, n2, n3⟩ := hT9.out.at_ hltc
                                      injection hg' with hg'
                                      injection hg' with hg'
                                      subst hg'
                                      obtain ⟨vv, n2⟩ := Option.isSome_iff_exists.1 n2
                                      have hT10 := Lib.hid (hT9.out.setM hltc 2)
                                      clear hT9
                                      go_wp2_with fail
                                      go_roundw
                                      case rel => exact ⟨o + 1, by omega, by go_num, 2, hnx.out, hT10.out⟩
                                      case measure => simp [intOf]; omega
                                    · have q3 : ((s : Int) == 1) = false := by simp; omega
                                      have hnx := Lib.hid (hskip.out (hno.out fun h => e2 h.2))
                                      clear hhit hskip hiff hno e1 e2 hoc
                                      go_wp2_with fail
                                      go_quiet (fail)
                                      have hT9 := Lib.hid (hTH.out.drewN nq)
                                      generalize w8.drewN nq = w9 at *
                                      go_wp2_with fail
                                      go_roundw
                                      case rel => exact ⟨o + 1, by omega, by go_num, x, hnx.out, hT9.out⟩
                                      case measure => simp [intOf]; omega
                                  · have q2 : ((t : Int) == (j : Int)) = false := by simp; omega
                                    have hnx := Lib.hid (hskip.out (hno.out fun h => e1 h.1))
                                    clear hhit hskip hiff hno e1 hoc
                                    go_wp2_with fail
                                    go_quiet (fail)
                                    have hT9 := Lib.hid (hTH.out.drewN nq)
                                    generalize w8.drewN nq = w9 at *
                                    go_wp2_with fail
                                    go_roundw
                                    case rel => exact ⟨o + 1, by omega, by go_num, x, hnx.out, hT9.out⟩
                                    case measure => simp [intOf]; omega
                              · have hol : o = L.length := by omega
                                subst hol
                                obtain ⟨S', dep, hact, hR', hT', hL'⟩ := hxH.out.done hRH.out hok.out hltc hw0H.out
                                have hactH := Lib.hid hact
                                have a1 := BRowD.at_ hT.rfq.rW hj
                                have af := Row.frozen hT.rfq.rW j
                                have hM10 := hT.rfq.setW j true
                                rw [← hact] at hM10
                                have hneW : bm ≠ b.W := rowD_ne hT.row hT.rfq.rW (by decide)
                                have hB10 := Lib.hid (hT.bel.setCell (p := ⟨b.W, j, none⟩) hT.rfq.lo.2.2.2.1 (.bool true))
                                have hcall := settle_any _ b.bn n b dep S' (S.take n i j) _ (setS L c x) vc (codesQ n l k) R0 hM10 hR' hT' hL' hn hn0 (by rw [setS_len]; omega)
                                rw [setS_len] at hcall
                                have hcallH := Lib.hid hcall
                                have hact2 : Hid (∀ q, S'.act q = (S.take n i j).act q) := fun q => by rw [hT'.act]
                                clear hT hxH hTH hR' hT' hL' hM10 hcall hact hok hw0H
                                generalize S.take n i j = T at *
                                go_wp2_with fail
                                refine hcallH.out.mono ?_
                                rintro e w11 ⟨rfl, L5, hL5, hR5, hM5, hB5⟩
                                have hrelc : Hid (RqCut w b.bn n b l k (.int .i64 0) w11) := RqCut.of hst'.out hcd'.out (hM5.congr (fun q _ => hact2.out q)) hR5 (by omega) (hB10.out.trans hB5)
                                clear hst' hcd' hM5 hR5 hB5 hB10 hcallH
                                go_wp2_with fail
                                go_meet
                                case rel => exact hrelc.out
                      · have hckl : c < k0 := by omega
                        have hno := hb0H.out c hckl
                        generalize ml L c = m at *
                        obtain ⟨f, t, s⟩ := m
                        simp only at m0 m1 m2
                        have hBa := Lib.hid (hBc.alloc hBc.size (.cells #[.int .i64 (f : Int), .int .i64 (t : Int), .int .i64 (s : Int)] 47))
                        have hrowa := hrow.alloc (.cells #[.int .i64 (f : Int), .int .i64 (t : Int), .int .i64 (s : Int)] 47)
                        have z1 := hrowa.cell (i := 1) (by simp)
                        have z2 := hrowa.cell (i := 2) (by simp)
                        simp only [List.getElem_cons_zero, List.getElem_cons_succ] at z1 z2
                        have hnot : Hid (¬ (f = i ∧ t = j ∧ s = 0)) := fun h => by rw [(wayB_iff i j ⟨f, t, s⟩).2 h] at hno; cases hno
                        clear hMc hrow hrowa hA e6 e7 hBc hno
                        by_cases e1 : f = i
                        · have q1 : ((f : Int) == (i : Int)) = true := by simp [e1]
                          by_cases e2 : t = j
                          · have q2 : ((t : Int) == (j : Int)) = true := by simp [e2]
                            have q3 : ((s : Int) == 0) = false := by
                              have : s ≠ 0 := fun e3 => hnot.out ⟨e1, e2, e3⟩
                              simpa using this
                            clear e1 e2 hnot
                            go_wp2_with fail
                            go_roundw
                            case rel => exact ⟨c + 1, by omega, by go_num, rfl, hBa.out⟩
                            case measure => simp [intOf]; omega
                          · have q2 : ((t : Int) == (j : Int)) = false := by simp; omega
                            clear e1 e2 hnot
                            go_wp2_with fail
                            go_roundw
                            case rel => exact ⟨c + 1, by omega, by go_num, rfl, hBa.out⟩
                            case measure => simp [intOf]; omega
                        · have q1 : ((f : Int) == (i : Int)) = false := by simp; omega
                          clear e1 hnot
                          go_wp2_with fail
                          go_roundw
                          case rel => exact ⟨c + 1, by omega, by go_num, rfl, hBa.out⟩
                          case measure => simp [intOf]; omega
                  · skip
                    have hst' : Hid (qAt n l (k + 1) = S) := by unfold Hid; rw [hst.out, hS.out, if_pos (tr_none hRH.out hnone)]
                    have hcd' : Hid (codeQ n l k = 5) := by unfold Hid; rw [hcd.out, hS.out, if_pos (tr_none hRH.out hnone)]
                    have hnoH := Lib.hid hnone
                    clear hnone hS hst hcd
                    go_wp2_with fail
                    go_loopw [54, 13] (fun t e wr => ∃ c : Nat, c ≤ L.length ∧ t = .int .i64 c ∧ e = .int .i64 5 ∧ CntRel w3 wr) (fun t _ _ => L.length - (intOf t).toNat)
                    case atStart => exact ⟨0, Nat.zero_le _, rfl, rfl, Below.refl _ _⟩
                    case round =>
                      obtain ⟨c, hc, rfl, rfl, hBc⟩ := hrel
                      unfold CntRel at hBc
                      clear x0 x1 x2 x3 x4 z0
                      have hMc := hM3H.out.below hBc
                      by_cases hltc : c < L.length
                      · have hcI : (c : Int) < (L.length : Int) := by omega
                        have hrow := hrow3H.out.below hBc hrow3H.out.lt
                        obtain ⟨A8, cap8, hva8, -, -, hA⟩ := hMc.oa.shape
                        injection hva8 with e5 e6 e7
                        subst e5
                        obtain ⟨g, rfl, hg, m0, m1, m2, m3⟩ := hA c hltc
                        have hno := hnoH.out c hltc
                        generalize ml L c = m at *
                        obtain ⟨f, t, s⟩ := m
                        simp only at m0 m1 m2
                        have hBa := Lib.hid (hBc.alloc hBc.size (.cells #[.int .i64 (f : Int), .int .i64 (t : Int), .int .i64 (s : Int)] 47))
                        have hrowa := hrow.alloc (.cells #[.int .i64 (f : Int), .int .i64 (t : Int), .int .i64 (s : Int)] 47)
                        have z1 := hrowa.cell (i := 1) (by simp)
                        have z2 := hrowa.cell (i := 2) (by simp)
                        simp only [List.getElem_cons_zero, List.getElem_cons_succ] at z1 z2
                        have hnot : Hid (¬ (f = i ∧ t = j ∧ s = 0)) := fun h => by rw [(wayB_iff i j ⟨f, t, s⟩).2 h] at hno; cases hno
                        clear hMc hrow hrowa hA e6 e7 hBc hno
                        by_cases e1 : f = i
                        · have q1 : ((f : Int) == (i : Int)) = true := by simp [e1]
                          by_cases e2 : t = j
                          · have q2 : ((t : Int) == (j : Int)) = true := by simp [e2]
                            have q3 : ((s : Int) == 0) = false := by
                              have : s ≠ 0 := fun e3 => hnot.out ⟨e1, e2, e3⟩
                              simpa using this
                            clear e1 e2 hnot
                            go_wp2_with fail
                            go_roundw
                            case rel => exact ⟨c + 1, by omega, by go_num, rfl, hBa.out⟩
                            case measure => simp [intOf]; omega
                          · have q2 : ((t : Int) == (j : Int)) = false := by simp; omega
                            clear e1 e2 hnot
                            go_wp2_with fail
                            go_roundw
                            case rel => exact ⟨c + 1, by omega, by go_num, rfl, hBa.out⟩
                            case measure => simp [intOf]; omega
                        · have q1 : ((f : Int) == (i : Int)) = false := by simp; omega
                          clear e1 hnot
                          go_wp2_with fail
                          go_roundw
                          case rel => exact ⟨c + 1, by omega, by go_num, rfl, hBa.out⟩
                          case measure => simp [intOf]; omega
                      · have hcl' : c = L.length := by omega
                        subst hcl'
                        have hok2 := hok.out
                        obtain ⟨dep, hI, hSt⟩ := hok2
                        have hcall := Lib.hid (settle_any wr b.bn n b dep S S _ L vc (codesQ n l k) R0 hMc hRH.out (RelTo.refl hI hSt) hI.engL hn hn0 (by omega))
                        have hBw := Lib.hid (hBw3.out.trans (hBc.mono hM3H.out.sz))
                        clear hMc hBc hI hSt hok hnoH
                        go_wp2_with fail
                        refine hcall.out.mono ?_
                        rintro e w5 ⟨rfl, L5, hL5, hR5, hM5, hB5⟩
                        have hrelc : Hid (RqCut w b.bn n b l k (.int .i64 5) w5) := RqCut.of hst'.out hcd'.out hM5 hR5 (by omega) (hBw.out.trans hB5)
                        clear hst' hcd' hM5 hR5 hB5 hBw hcall
                        go_wp2_with fail
                        go_meet
                        case rel => exact hrelc.out
              · have e2 : (mk == 2) = false := by simpa using hk2
                by_cases hk31 : mk = 3
                · skip
                  as_aux_lemma =>
                    subst hk31
                    have htw : two = false := by rw [← htwo]; decide
                    subst htw
                    obtain ⟨i, rfl⟩ : ∃ i : Nat, mf = (i : Int) := ⟨mf.toNat, by omega⟩
                    have hi : i < n := by omega
                    have hiI : (i : Int) < (n : Int) := by omega
                    have hS := Lib.hid (stepQ_rest (n := n) (S := qAt n l k) (m := ⟨3, (i : Int), mt, mv'⟩) rfl hgood.1)
                    rw [Int.toNat_natCast] at hS
                    clear hgood e2 htwo hk1 hk3
                    generalize qAt n l k = S at *
                    go_wp2_with fail
                    refine hends.out.mono ?_
                    rintro e w3 ⟨rfl, hB3⟩
                    have hM3 := Lib.hid (hM1.out.below hB3)
                    have hBw3 := Lib.hid (hB1.out.trans (hB3.mono hM1.out.sz))
                    have hrow3 := hrowH.out.below hB3 hrowH.out.lt
                    have z0 := hrow3.cell (i := 0) (by simp)
                    have z1 := hrow3.cell (i := 1) (by simp)
                    simp only [List.getElem_cons_zero, List.getElem_cons_succ] at z0 z1
                    obtain ⟨x0, x1, x2, x3, x4⟩ := hM3.out.vars
                    have a1 := BRowD.at_ hM3.out.rW hi
                    have af := Row.frozen hM3.out.rW i
                    have hneW : bm ≠ b.W := rowD_ne hrow3 hM3.out.rW (by decide)
                    clear hends hB3 hM1 hB1 hrowH hrow3
                    cases ha : S.act i with
                    | false =>
                      rw [ha] at a1 hS
                      have hst' : Hid (qAt n l (k + 1) = S) := by unfold Hid; rw [hst.out, hS.out]; rfl
                      have hcd' : Hid (codeQ n l k = 7) := by unfold Hid; rw [hcd.out, hS.out]; rfl
                      have hrelc : Hid (RqCut w b.bn n b l k (.int .i64 7) w3) := RqCut.of hst'.out hcd'.out hM3.out hRH.out (Nat.le_succ_of_le hlL) hBw3.out
                      clear hS hst hcd hst' hcd' hM3 hRH hBw3
                      go_wp2_with fail
                      go_meet
                      case rel => exact hrelc.out
                    | true =>
                      rw [ha] at a1 hS
                      have hst' : Hid (qAt n l (k + 1) = rel n (n + 1) (S.rest i) i) := by unfold Hid; rw [hst.out, hS.out]; rfl
                      have hcd' : Hid (codeQ n l k = 0) := by unfold Hid; rw [hcd.out, hS.out]; rfl
                      have hM4 := Lib.hid (hM3.out.setW i false)
                      have hB4 := Lib.hid (hBw3.out.setCell (p := ⟨b.W, i, none⟩) hM3.out.lo.2.2.2.1 (.bool false))
                      have hok2 := hok.out
                      obtain ⟨dep, hrt⟩ := rest_rel hok.out ha
                      have heng : ∀ j, (S.rest i).eng j = true → j < n := fun j hj => by
                        obtain ⟨d, hI, _⟩ := hok2
                        exact hI.engL j hj
                      have hcall := Lib.hid (settle_any _ b.bn n b dep (S.rest i) (rel n (n + 1) (S.rest i) i) va L vc (codesQ n l k) R0 hM4.out (hRH.out.congr (T := S.rest i) rfl rfl rfl) hrt heng hn hn0 (by omega))
                      have hact : Hid (∀ j, (S.rest i).act j = (rel n (n + 1) (S.rest i) i).act j) := fun j => by rw [hrt.act]
                      clear hS hst hcd hM3 hRH hBw3 hM4 ha hrt hok heng hok2
                      generalize rel n (n + 1) (S.rest i) i = T at *
                      go_wp2_with fail
                      refine hcall.out.mono ?_
                      rintro e w5 ⟨rfl, L5, hL5, hR5, hM5, hB5⟩
                      have hrelc : Hid (RqCut w b.bn n b l k (.int .i64 0) w5) := RqCut.of hst'.out hcd'.out (hM5.congr (fun j _ => hact.out j)) hR5 (by omega) (hB4.out.trans hB5)
                      clear hst' hcd' hM5 hR5 hB5 hB4 hcall
                      go_wp2_with fail
                      go_meet
                      case rel => exact hrelc.out
                · skip
                  as_aux_lemma =>
                    have hk1' : mk = 1 := by omega
                    subst hk1'
                    have htw : two = true := by rw [← htwo]; decide
                    subst htw
                    obtain ⟨hgf, hgt⟩ := hgood
                    obtain ⟨hgt, hgne⟩ := hgt (by decide)
                    obtain ⟨i, rfl⟩ : ∃ i : Nat, mf = (i : Int) := ⟨mf.toNat, by omega⟩
                    obtain ⟨j, rfl⟩ : ∃ j : Nat, mt = (j : Int) := ⟨mt.toNat, by omega⟩
                    have hi : i < n := by omega
                    have hj : j < n := by omega
                    have hiI : (i : Int) < (n : Int) := by omega
                    have hS := Lib.hid (stepQ_send (n := n) (S := qAt n l k) (m := ⟨1, (i : Int), (j : Int), mv'⟩) rfl hgf (by simp only; omega))
                    rw [Int.toNat_natCast, Int.toNat_natCast] at hS
                    clear hgf hgt hgne e2 htwo hk1 hk3 hk31 hk2
                    generalize qAt n l k = S at *
                    go_wp2_with fail
                    refine hends.out.mono ?_
                    rintro e w3 ⟨rfl, hB3⟩
                    have hM3 := Lib.hid (hM1.out.below hB3)
                    have hBw3 := Lib.hid (hB1.out.trans (hB3.mono hM1.out.sz))
                    have hrow3 := hrowH.out.below hB3 hrowH.out.lt
                    have z0 := hrow3.cell (i := 0) (by simp)
                    have z1 := hrow3.cell (i := 1) (by simp)
                    have z2 := hrow3.cell (i := 2) (by simp)
                    simp only [List.getElem_cons_zero, List.getElem_cons_succ] at z0 z1 z2
                    obtain ⟨x0, x1, x2, x3, x4⟩ := hM3.out.vars
                    have a1 := BRowD.at_ hM3.out.rW hi
                    clear hends hB3 hM1 hB1 hrowH hrow3
                    cases ha : S.act i with
                    | false =>
                      rw [ha] at a1 hS
                      have hst' : Hid (qAt n l (k + 1) = S) := by unfold Hid; rw [hst.out, hS.out]; rfl
                      have hcd' : Hid (codeQ n l k = 7) := by unfold Hid; rw [hcd.out, hS.out]; rfl
                      have hrelc : Hid (RqCut w b.bn n b l k (.int .i64 7) w3) := RqCut.of hst'.out hcd'.out hM3.out hRH.out (Nat.le_succ_of_le hlL) hBw3.out
                      clear hS hst hcd hst' hcd' hM3 hRH hBw3
                      go_wp2_with fail
                      go_meet
                      case rel => exact hrelc.out
                    | true =>
                      rw [ha] at a1 hS
                      have hst' : Hid (qAt n l (k + 1) = S.send i j) := by unfold Hid; rw [hst.out, hS.out]; rfl
                      have hcd' : Hid (codeQ n l k = 0) := by unfold Hid; rw [hcd.out, hS.out]; rfl
                      obtain ⟨A9, cap9, hva, hl1, hl2, -⟩ := hM3.out.oa.shape
                      have hMa := hM3.out.alloc (.cells #[.int .i64 (i : Int), .int .i64 (j : Int), .int .i64 0] 47)
                      have hBa := Lib.hid (hBw3.out.alloc hM3.out.sz (.cells #[.int .i64 (i : Int), .int .i64 (j : Int), .int .i64 0] 47))
                      have hown0 := hMa.oa
                      rw [hva] at x2 hown0
                      unfold OwnD at hown0
                      have hvaH := Lib.hid hva
                      have hneA : Hid ((Value.slice A9 L.length cap9).ownBlock ≠ some b.ba) := owns_ne_row hown0 hMa.ra (by decide)
                      have hnews := Lib.hid (newsD (w := w3) ⟨i, j, 0⟩ rfl)
                      have hbase : b.bn ≤ (w3.alloc (.cells #[.int .i64 (i : Int), .int .i64 (j : Int), .int .i64 0] 47)).heap.size := hMa.sz
                      have hMaH := Lib.hid hMa
                      have hownH := Lib.hid hown0
                      have hl60 : L.length ≤ 60 := by omega
                      clear hMa hown0 hva hS hst hcd hM3 hBw3 ha
                      go_wp2_with (first
                        | (at_builtin; refine wpList_append_lies _ rfl (.tmp 155) (.tmp 161) 45 rfl b.bn 47 jm (.agg #[.int .i64 0, .int .i64 0, .int .i64 0]) 3 24 Try.underlying45 hMi.out hMz.out hMs.out hMb.out rfl (by decide) (.slice A9 L.length cap9) L.length (flatD L) rfl hownH.out ⟨w3.heap.size, 0, none⟩ 1 1 (cellsD ⟨i, j, 0⟩) rfl rfl hnews.out (by simp [cellsD, Value.oneCell']) (by omega) (by unfold maxLen; omega) (by omega) hbase _ rfl ?_; intro g5 cap5 w15 hown hgr hat hlt9
                           have f1 := hMaH.out.ra.grown hgr (fun e => hneA.out e.symm)
                           have o5 := f1.cell (i := 0) (by simp)
                           simp only [List.getElem_cons_zero] at o5
                           have of5 := f1.frozen 0
                           have hgr' : (w3.alloc (.cells #[.int .i64 (i : Int), .int .i64 (j : Int), .int .i64 0] 47)).grownBy w15 va.ownBlock := by rw [hvaH.out]; exact hgr
                           have hM6 := Lib.hid (hMaH.out.push (OwnD.push hown) hgr')
                           have hB6 := Lib.hid (((hBa.out.grown hgr hbase (fun q hq => (World.ownsRow.lt hownH.out q hq).1)).setCell (p := ⟨b.ba, 0, none⟩) hMaH.out.lo.2.2.2.2.1 (.slice (some ⟨g5, 0, none⟩) (L.length + 1) cap5)))
                           clear hown hgr hgr' hat hlt9 f1 hMaH hBa hownH))
                      have hrelc : Hid (RqCut w b.bn n b l k (.int .i64 0) (w15.setCell ⟨b.ba, 0, none⟩ (.slice (some ⟨g5, 0, none⟩) (L.length + 1) cap5))) := RqCut.of hst'.out hcd'.out hM6.out (hRH.out.send hi hj) (by simp; omega) hB6.out
                      clear hst' hcd' hM6 hB6 hRH
                      go_meet
                      case rel => exact hrelc.out
            · as_aux_lemma =>
                have hends := Lib.hid (ends_any wm n ⟨mk, mf, mt, mv'⟩ two false ⟨(nomatch ·), fun h => absurd ⟨h.1, fun h3 => h.2 (by rw [← htwo]; simpa using h3)⟩ hgood⟩)
                have hS : Hid (stepQ n (qAt n l k) ⟨mk, mf, mt, mv'⟩ = (qAt n l k, 2)) := by
                  by_cases hf : 0 ≤ mf ∧ mf < n
                  · have h3 : mk ≠ 3 := fun e => hgood ⟨hf, fun h => absurd e h⟩
                    refine stepQ_to (by simp only; omega) hf ?_
                    simp only
                    by_cases ht : 0 ≤ mt ∧ mt < n
                    · right
                      apply Classical.byContradiction
                      intro hne
                      exact hgood ⟨hf, fun _ => ⟨ht, fun e => hne e.symm⟩⟩
                    · exact .inl ht
                  · exact stepQ_from (by simp only; omega) hf
                have hst' := Lib.hid (hst.out.trans (congrArg Prod.fst hS.out))
                have hcd' := Lib.hid (hcd.out.trans (congrArg Prod.snd hS.out))
                simp only at hends
                clear hS hst hcd hgood
                go_wp2_with fail
                refine hends.out.mono ?_
                rintro e w3 ⟨rfl, hB3⟩
                have hrelc : Hid (RqCut w b.bn n b l k (.int .i64 2) w3) := RqCut.of hst'.out hcd'.out (hM1.out.below hB3) hRH.out (Nat.le_succ_of_le hlL) (hB1.out.trans (hB3.mono hM1.out.sz))
                clear hends hB3 hM1 hRH hB1 hrowH hst' hcd'
                go_wp2_with fail
                go_meet
                case rel => exact hrelc.out
        case rest =>
          obtain ⟨va', L', vc', he', hMc, hRc, hlL', hBc⟩ := hcut
          generalize hcC : codeQ n l k = c at *
          subst he'
          have hcCH := Lib.hid hcC
          obtain ⟨Ac, capc, hvc, hcc1, hcc2, -⟩ := hMc.oc.shape
          rw [hclH.out] at hvc hcc1
          subst hvc
          have hMa := hMc.alloc (.cells #[.int .i64 c] 27)
          have hBa := Lib.hid (hBc.alloc hMc.sz (.cells #[.int .i64 c] 27))
          have hc0 := hMc.rt.cell (i := 0) (by simp)
          simp only [List.getElem_cons_zero] at hc0
          have hown0 := hMa.oc
          unfold OwnK at hown0
          rw [hclH.out] at hown0
          have hneT : Hid ((Value.slice Ac k capc).ownBlock ≠ some b.bt) := owns_ne_row hMa.oc hMa.rt (by decide)
          have hbase : b.bn ≤ (wc.alloc (.cells #[.int .i64 c] 27)).heap.size := hMa.sz
          have hnews := Lib.hid (newsV (w := wc) (g := wc.heap.size) (.int .i64 c) 27 rfl)
          have hMaH := Lib.hid hMa
          have hownH := Lib.hid hown0
          have hRcH := Lib.hid hRc
          clear hMa hown0 hM1 hB1 hMc hBc hRc hcC hst hcd hrowH hRH
          go_wp2_with (first
            | (at_builtin; refine wpList_append_lies _ rfl (.tmp 164) (.tmp 166) 23 rfl b.bn 27 je (.int .i64 0) 1 8 Try.underlying23 hEi.out hEz.out hEs.out hEb.out rfl (by decide) (.slice Ac k capc) k (codD (codesQ n l k)) rfl hownH.out ⟨wc.heap.size, 0, none⟩ 1 1 [.int .i64 c] rfl rfl hnews.out (by simp [Value.oneCell']) (by omega) (by unfold maxLen; omega) (by omega) hbase _ rfl ?_; intro g5 cap5 w15 hown hgr hat hlt9
               have f1 := hMaH.out.rt.grown hgr (fun e => hneT.out e.symm)
               have o5 := f1.cell (i := 0) (by simp)
               simp only [List.getElem_cons_zero] at o5
               have of5 := f1.frozen 0
               have hpush : OwnK w15 b.bn (.slice (some ⟨g5, 0, none⟩) (k + 1) cap5) (codesQ n l (k + 1)) := by
                 rw [hcs.out]
                 have := OwnK.push (cs := codesQ n l k) (c := c) (w := w15) (B := b.bn) (g := g5) (cap := cap5) (by rw [hclH.out]; exact hown)
                 rw [hclH.out] at this
                 exact this
               have hnext : Hid (RqRel w b.bn n b l (k + 1) (w15.setCell ⟨b.bt, 0, none⟩ (.slice (some ⟨g5, 0, none⟩) (k + 1) cap5))) := ⟨va', L', _, hMaH.out.code hpush hgr, hRcH.out, hlL', ((hBa.out.grown hgr hbase (fun q hq => (World.ownsRow.lt hMaH.out.oc q hq).1)).setCell (p := ⟨b.bt, 0, none⟩) hMaH.out.lo.2.2.2.2.2.2.2 _)⟩
               clear hown hgr hat hlt9 f1 hMaH hBa hownH hpush))
          go_roundg (l.length - (k + 1))
          case measure => have := hgkH.out; omega
          case rel => exact ⟨k + 1, by omega, rfl, by go_num, hnext.out⟩
    · have hkl : k = l.length := by omega
      as_aux_lemma =>
        rw [hkl] at hlL hlt hk
        subst hkl
        have hclH := Lib.hid (codesQ_len n l l.length)
        have hSr : Hid (RquRes w n l = fun e w' => ∃ A cap, e = .returned (.agg #[.slice A l.length cap, .bool (doneB n (qAt n l l.length)), .int .u32 (wordB n (qAt n l l.length).act : Int), .int .i64 (wayS n (qAt n l l.length))]) ∧ OwnK w' w.heap.size (.slice A l.length cap) (codesQ n l l.length) ∧ Below w.heap.size w w') := rfl
        have hwd := Lib.hid (hRH.out.wayN)
        have hdn := Lib.hid (hRH.out.doneM)
        obtain ⟨S, hS⟩ : ∃ S, Hid (qAt n l l.length = S) := ⟨_, rfl⟩
        rw [hS.out] at hMH hRH hwd hdn
        have hrelw : Hid (RqW w b.bn n b S va L vc (codesQ n l l.length) 0 0 wr) := ⟨hMH.out, hBH.out⟩
        obtain ⟨cs, hcsE⟩ : ∃ cs, Hid (codesQ n l l.length = cs) := ⟨_, rfl⟩
        rw [hcsE.out] at hMH hclH hrelw
        clear hRH hMH hBH
        go_wp2_with fail
        go_loopw [17] (fun t wr => ∃ i : Nat, i ≤ n ∧ t = .int .i64 i ∧ RqW w b.bn n b S va L vc cs (wordB i S.act) 0 wr) (fun t _ => n - (intOf t).toNat)
        case atStart => exact ⟨0, Nat.zero_le _, rfl, hrelw.out⟩
        case round =>
          clear hrelw
          obtain ⟨i, hin, rfl, hM, hB⟩ := hrel
          obtain ⟨x0, x1, x2, x3, x4⟩ := hM.vars
          by_cases hlti : i < n
          · have hiI : (i : Int) < (n : Int) := by omega
            have hi32 : (i : Int) < 32 := by omega
            have hi0 : ¬ (i : Int) < 0 := by omega
            have a1 := BRowD.at_ hM.rW hlti
            have t2 := hM.rt.cell (i := 2) (by simp)
            have t2f := hM.rt.frozen 2
            simp only [List.getElem_cons_zero, List.getElem_cons_succ] at t2
            have hV := wordB_small (k := i) (by omega) S.act
            cases ha : S.act i with
            | false =>
              rw [ha] at a1
              have hnx : Hid (RqW w b.bn n b S va L vc cs (wordB (i + 1) S.act) 0 wr) := ⟨by rw [wordB_skip i S.act ha]; exact hM, hB⟩
              clear hM hB t2 t2f
              go_wp2_with fail
              go_roundw
              case rel => exact ⟨i + 1, by omega, by go_num, hnx.out⟩
              case measure => simp [intOf]; omega
            | true =>
              rw [ha] at a1
              have hadd := add_word hV (i := i) (by omega)
              have hM2 := hM.setR 1 (.int .u32 ((wordB i S.act + 2 ^ i : Nat) : Int))
              have hnx : Hid (RqW w b.bn n b S va L vc cs (wordB (i + 1) S.act) 0 (wr.setCell ⟨b.bt, 2, none⟩ (.int .u32 ((wordB i S.act + 2 ^ i : Nat) : Int)))) := ⟨by rw [wordB_add i S.act ha]; exact hM2, hB.setCell (p := ⟨b.bt, 2, none⟩) hM.lo.2.2.2.2.2.2.2 _⟩
              clear hM hB hM2
              generalize wordB i S.act = V at *
              go_wp2_with fail
              go_roundw
              case rel => exact ⟨i + 1, by omega, by go_num, hnx.out⟩
              case measure => simp [intOf]; omega
          · have hin' : i = n := by omega
            subst hin'
            obtain ⟨A9, cap9, hva, hl1, hl2, -⟩ := hM.oa.shape
            rw [hva] at x2
            have hrelv : Hid (RqW w b.bn i b S va L vc cs (wordB i S.act) ((L.take 0).countP onWay : Int) wr) := ⟨hM, hB⟩
            have hvaH := Lib.hid hva
            clear hM hB hva
            go_wp2_with fail
            go_loopw [188] (fun t wr => ∃ j : Nat, j ≤ L.length ∧ t = .int .i64 j ∧ RqW w b.bn i b S va L vc cs (wordB i S.act) ((L.take j).countP onWay : Int) wr) (fun t _ => L.length - (intOf t).toNat)
            case atStart => exact ⟨0, Nat.zero_le _, rfl, hrelv.out⟩
            case round =>
              clear hrelv x0 x1 x2 x3 x4
              obtain ⟨j, hjn, rfl, hM, hB⟩ := hrel
              obtain ⟨x0, x1, x2, x3, x4⟩ := hM.vars
              rw [hvaH.out] at x2
              by_cases hltj : j < L.length
              · have hjI : (j : Int) < (L.length : Int) := by omega
                obtain ⟨A8, cap8, hva8, hl81, hl82, hA⟩ := hM.oa.shape
                rw [hvaH.out] at hva8
                injection hva8 with e5 e6 e7
                subst e5
                obtain ⟨g, rfl, hg, m0, m1, m2, m3⟩ := hA j hltj
                have hnxt := way_take L hltj
                generalize ml L j = m at *
                obtain ⟨f, t, s⟩ := m
                simp only at m0 m1 m2 hnxt
                have hMa := hM.alloc (.cells #[.int .i64 (f : Int), .int .i64 (t : Int), .int .i64 (s : Int)] 47)
                have hBa := hB.alloc hM.sz (.cells #[.int .i64 (f : Int), .int .i64 (t : Int), .int .i64 (s : Int)] 47)
                have t3 := hMa.rt.cell (i := 3) (by simp)
                have t3f := hMa.rt.frozen 3
                simp only [List.getElem_cons_zero, List.getElem_cons_succ] at t3
                have hcnt : (L.take j).countP onWay ≤ 1000 := by have := List.countP_le_length (p := onWay) (l := L.take j); simp at this; omega
                by_cases hs : s = 0
                · have v1 : ((s : Int) == 0) = true := by simp [hs]
                  rw [if_pos hs] at hnxt
                  have hM2 := hMa.setR 2 (.int .i64 (((L.take j).countP onWay : Int) + 1))
                  have hnx : Hid (RqW w b.bn i b S va L vc cs (wordB i S.act) ((L.take (j + 1)).countP onWay : Int) ((wr.alloc (.cells #[.int .i64 (f : Int), .int .i64 (t : Int), .int .i64 (s : Int)] 47)).setCell ⟨b.bt, 3, none⟩ (.int .i64 (((L.take j).countP onWay : Int) + 1)))) := ⟨by rw [hnxt]; exact hM2, hBa.setCell (p := ⟨b.bt, 3, none⟩) hM.lo.2.2.2.2.2.2.2 _⟩
                  clear hM hB hMa hBa hM2 hA e6 e7 hs hnxt
                  generalize (L.take j).countP onWay = V at *
                  go_wp2_with fail
                  go_roundw
                  case rel => exact ⟨j + 1, by omega, by go_num, hnx.out⟩
                  case measure => simp [intOf]; omega
                · have v1 : ((s : Int) == 0) = false := by simpa using hs
                  rw [if_neg hs, Nat.add_zero] at hnxt
                  have hnx : Hid (RqW w b.bn i b S va L vc cs (wordB i S.act) ((L.take (j + 1)).countP onWay : Int) (wr.alloc (.cells #[.int .i64 (f : Int), .int .i64 (t : Int), .int .i64 (s : Int)] 47))) := ⟨by rw [hnxt]; exact hMa, hBa⟩
                  clear hM hB hMa hBa hA e6 e7 hs t3 t3f hnxt
                  generalize (L.take j).countP onWay = V at *
                  go_wp2_with fail
                  go_roundw
                  case rel => exact ⟨j + 1, by omega, by go_num, hnx.out⟩
                  case measure => simp [intOf]; omega
              · have hjn' : j = L.length := by omega
                have hty : Hid (((L.take j).countP onWay : Int) = wayS i S) := by unfold Hid; rw [hjn', List.take_length, hwd.out]
                rw [hty.out] at hM
                clear hjn' hjn
                obtain ⟨D, hD⟩ : ∃ D, Hid (doneB i S = D) := ⟨_, rfl⟩
                rw [hD.out] at hdn
                have a0 := BRowD.at_ hM.rW hn0
                obtain ⟨A8, cap8, hva8, hl81, hl82, hA⟩ := hM.oa.shape
                rw [hvaH.out] at hva8
                injection hva8 with e5 e6 e7
                subst e5 e7
                have howed : Hid (Calls Try.prog 16 #[.int .i64 0, .pointer (some ⟨b.ba, 0, none⟩)] wr fun e w' => e = .returned (.int .i64 (owed L 0 : Int)) ∧ Below wr.heap.size wr w') := owed_any wr b.ba A9 cap9 L 0 hM.ra.lt x2 hA (by omega)
                have hMH := Lib.hid hM
                have hBH := Lib.hid hB
                have hfin : Hid (∀ w6, RfQ w6 b.bn i b S.act va L vc cs [.bool false, .int .u32 (wordB i S.act : Int), .int .i64 (wayS i S)] → Below b.bn w w6 → ∃ Ac capc, vc = .slice Ac l.length capc ∧ OwnK w6 b.bn (.slice Ac l.length capc) cs) := fun w6 h6 _ => by
                  obtain ⟨Ac, capc, hvc, _, _, _⟩ := h6.oc.shape
                  rw [hclH.out] at hvc
                  exact ⟨Ac, capc, hvc, by rw [← hvc]; exact h6.oc⟩
                unfold owedF at x3
                clear hM hB hA e6
                cases ha0 : S.act 0 with
                | true =>
                  rw [ha0] at a0
                  have hDf : D = false := by rw [hdn.out, ha0]; rfl
                  subst hDf
                  obtain ⟨Ac, capc, hvc, hoc⟩ := hfin.out wr hMH.out hBH.out
                  subst hvc
                  have hM7 : RfQ (wr.setCell ⟨b.bt, 1, none⟩ (.bool false)) b.bn i b S.act va L (.slice Ac l.length capc) cs [.bool false, .int .u32 (wordB i S.act : Int), .int .i64 (wayS i S)] := RfQ.setR hMH.out 0 (.bool false)
                  have s1 := (hMH.out).rt.cell (i := 1) (by simp)
                  have s1f := (hMH.out).rt.frozen 1
                  have t0 := hM7.rt.cell (i := 0) (by simp)
                  have t1 := hM7.rt.cell (i := 1) (by simp)
                  have t2 := hM7.rt.cell (i := 2) (by simp)
                  have t3 := hM7.rt.cell (i := 3) (by simp)
                  have r0 := hM7.rr.cell (i := 0) (by simp)
                  have r1 := hM7.rr.cell (i := 1) (by simp)
                  have r2 := hM7.rr.cell (i := 2) (by simp)
                  have r3 := hM7.rr.cell (i := 3) (by simp)
                  have f0 := hM7.rr.frozen 0
                  have f1 := hM7.rr.frozen 1
                  have f2 := hM7.rr.frozen 2
                  have f3 := hM7.rr.frozen 3
                  simp only [List.getElem_cons_zero, List.getElem_cons_succ] at s1 t0 t1 t2 t3 r0 r1 r2 r3
                  have hB7 := Lib.hid ((hBH.out).setCell (p := ⟨b.bt, 1, none⟩) (hMH.out).lo.2.2.2.2.2.2.2 (.bool false))
                  have hM7H := Lib.hid hM7
                  have hocH : Hid (OwnK (wr.setCell ⟨b.bt, 1, none⟩ (.bool false)) b.bn (.slice Ac l.length capc) cs) := by
                    have := hM7.oc
                    exact this
                  obtain ⟨WW, hWW⟩ : ∃ x, Hid (wordB i S.act = x) := ⟨_, rfl⟩
                  obtain ⟨YY, hYY⟩ : ∃ x, Hid (wayS i S = x) := ⟨_, rfl⟩
                  rw [hWW.out] at t2
                  rw [hYY.out] at t3
                  clear hM7 hMH hBH hfin hoc howed hwd hdn hty ha0
                  go_wp2_with fail
                  generalize wr.setCell ⟨b.bt, 1, none⟩ (.bool false) = w7 at *
                  have hR8 := (((hM7H.out.rr.set 0 (.slice Ac l.length capc)).set 1 (.bool false)).set 2 (.int .u32 (WW : Int))).set 3 (.int .i64 YY)
                  have hB8 := Lib.hid ((((hB7.out.setCell (p := ⟨b.br, 0, none⟩) hM7H.out.lo.2.1 (.slice Ac l.length capc)).setCell (p := ⟨b.br, 1, none⟩) hM7H.out.lo.2.1 (.bool false)).setCell (p := ⟨b.br, 2, none⟩) hM7H.out.lo.2.1 (.int .u32 (WW : Int))).setCell (p := ⟨b.br, 3, none⟩) hM7H.out.lo.2.1 (.int .i64 YY))
                  have hoc8 : Hid (OwnK ((((w7.setCell ⟨b.br, 0, none⟩ (.slice Ac l.length capc)).setCell ⟨b.br, 1, none⟩ (.bool false)).setCell ⟨b.br, 2, none⟩ (.int .u32 (WW : Int))).setCell ⟨b.br, 3, none⟩ (.int .i64 YY)) b.bn (.slice Ac l.length capc) cs) := ownsD_blk hocH.out fun g e => by
                    have hne : g ≠ b.br := fun e' => owns_ne_row hocH.out hM7H.out.rr (by decide) (e' ▸ e)
                    rw [Below.heap_setCell _ _ _ g hne, Below.heap_setCell _ _ _ g hne, Below.heap_setCell _ _ _ g hne, Below.heap_setCell _ _ _ g hne]
                  generalize (((w7.setCell ⟨b.br, 0, none⟩ (.slice Ac l.length capc)).setCell ⟨b.br, 1, none⟩ (.bool false)).setCell ⟨b.br, 2, none⟩ (.int .u32 (WW : Int))).setCell ⟨b.br, 3, none⟩ (.int .i64 YY) = w8 at *
                  have q0 := hR8.cell (i := 0) (by simp)
                  have q1 := hR8.cell (i := 1) (by simp)
                  have q2 := hR8.cell (i := 2) (by simp)
                  have q3 := hR8.cell (i := 3) (by simp)
                  simp at q0 q1 q2 q3
                  (try simp only [Exit.inBlock, Exit.then])
                  have hres : Hid (RquRes w i l (.returned (.agg #[.slice Ac l.length capc, .bool false, .int .u32 (WW : Int), .int .i64 YY])) w8) := ⟨Ac, capc, by rw [hS.out, hD.out, hWW.out, hYY.out], by rw [hB0H.out, hcsE.out]; exact hoc8.out, by rw [hB0H.out]; exact hB8.out⟩
                  refine bodyPost_ret (v := .agg #[.slice Ac l.length capc, .bool false, .int .u32 (WW : Int), .int .i64 YY]) ?_ rfl hres.out
                  clear hR8 hB8 hoc8 hM7H hocH hB7
                  rw [results_cellQ rfl]
                  go_simp
                | false =>
                  rw [ha0] at a0
                  by_cases ho : owed L 0 = 0
                  · have hDt : D = true := by rw [hdn.out, ha0, ho]; rfl
                    subst hDt
                    rw [ho] at howed
                    go_wp2_with fail
                    refine howed.out.mono ?_
                    rintro e w5 ⟨rfl, hB5⟩
                    have hM5 := Lib.hid (hMH.out.below hB5)
                    have hB6 := Lib.hid (hBH.out.trans (hB5.mono hMH.out.sz))
                    obtain ⟨Ac, capc, hvc, hoc⟩ := hfin.out w5 hM5.out hB6.out
                    subst hvc
                    have hM7 : RfQ (w5.setCell ⟨b.bt, 1, none⟩ (.bool true)) b.bn i b S.act va L (.slice Ac l.length capc) cs [.bool true, .int .u32 (wordB i S.act : Int), .int .i64 (wayS i S)] := RfQ.setR hM5.out 0 (.bool true)
                    have s1 := (hM5.out).rt.cell (i := 1) (by simp)
                    have s1f := (hM5.out).rt.frozen 1
                    have t0 := hM7.rt.cell (i := 0) (by simp)
                    have t1 := hM7.rt.cell (i := 1) (by simp)
                    have t2 := hM7.rt.cell (i := 2) (by simp)
                    have t3 := hM7.rt.cell (i := 3) (by simp)
                    have r0 := hM7.rr.cell (i := 0) (by simp)
                    have r1 := hM7.rr.cell (i := 1) (by simp)
                    have r2 := hM7.rr.cell (i := 2) (by simp)
                    have r3 := hM7.rr.cell (i := 3) (by simp)
                    have f0 := hM7.rr.frozen 0
                    have f1 := hM7.rr.frozen 1
                    have f2 := hM7.rr.frozen 2
                    have f3 := hM7.rr.frozen 3
                    simp only [List.getElem_cons_zero, List.getElem_cons_succ] at s1 t0 t1 t2 t3 r0 r1 r2 r3
                    have hB7 := Lib.hid ((hB6.out).setCell (p := ⟨b.bt, 1, none⟩) (hM5.out).lo.2.2.2.2.2.2.2 (.bool true))
                    have hM7H := Lib.hid hM7
                    have hocH : Hid (OwnK (w5.setCell ⟨b.bt, 1, none⟩ (.bool true)) b.bn (.slice Ac l.length capc) cs) := by
                      have := hM7.oc
                      exact this
                    obtain ⟨WW, hWW⟩ : ∃ x, Hid (wordB i S.act = x) := ⟨_, rfl⟩
                    obtain ⟨YY, hYY⟩ : ∃ x, Hid (wayS i S = x) := ⟨_, rfl⟩
                    rw [hWW.out] at t2
                    rw [hYY.out] at t3
                    clear hM7 hM5 hB6 hMH hBH hfin hoc howed hwd hdn hty ha0 hB5
                    go_wp2_with fail
                    generalize w5.setCell ⟨b.bt, 1, none⟩ (.bool true) = w7 at *
                    have hR8 := (((hM7H.out.rr.set 0 (.slice Ac l.length capc)).set 1 (.bool true)).set 2 (.int .u32 (WW : Int))).set 3 (.int .i64 YY)
                    have hB8 := Lib.hid ((((hB7.out.setCell (p := ⟨b.br, 0, none⟩) hM7H.out.lo.2.1 (.slice Ac l.length capc)).setCell (p := ⟨b.br, 1, none⟩) hM7H.out.lo.2.1 (.bool true)).setCell (p := ⟨b.br, 2, none⟩) hM7H.out.lo.2.1 (.int .u32 (WW : Int))).setCell (p := ⟨b.br, 3, none⟩) hM7H.out.lo.2.1 (.int .i64 YY))
                    have hoc8 : Hid (OwnK ((((w7.setCell ⟨b.br, 0, none⟩ (.slice Ac l.length capc)).setCell ⟨b.br, 1, none⟩ (.bool true)).setCell ⟨b.br, 2, none⟩ (.int .u32 (WW : Int))).setCell ⟨b.br, 3, none⟩ (.int .i64 YY)) b.bn (.slice Ac l.length capc) cs) := ownsD_blk hocH.out fun g e => by
                      have hne : g ≠ b.br := fun e' => owns_ne_row hocH.out hM7H.out.rr (by decide) (e' ▸ e)
                      rw [Below.heap_setCell _ _ _ g hne, Below.heap_setCell _ _ _ g hne, Below.heap_setCell _ _ _ g hne, Below.heap_setCell _ _ _ g hne]
                    generalize (((w7.setCell ⟨b.br, 0, none⟩ (.slice Ac l.length capc)).setCell ⟨b.br, 1, none⟩ (.bool true)).setCell ⟨b.br, 2, none⟩ (.int .u32 (WW : Int))).setCell ⟨b.br, 3, none⟩ (.int .i64 YY) = w8 at *
                    have q0 := hR8.cell (i := 0) (by simp)
                    have q1 := hR8.cell (i := 1) (by simp)
                    have q2 := hR8.cell (i := 2) (by simp)
                    have q3 := hR8.cell (i := 3) (by simp)
                    simp at q0 q1 q2 q3
                    (try simp only [Exit.inBlock, Exit.then])
                    have hres : Hid (RquRes w i l (.returned (.agg #[.slice Ac l.length capc, .bool true, .int .u32 (WW : Int), .int .i64 YY])) w8) := ⟨Ac, capc, by rw [hS.out, hD.out, hWW.out, hYY.out], by rw [hB0H.out, hcsE.out]; exact hoc8.out, by rw [hB0H.out]; exact hB8.out⟩
                    refine bodyPost_ret (v := .agg #[.slice Ac l.length capc, .bool true, .int .u32 (WW : Int), .int .i64 YY]) ?_ rfl hres.out
                    clear hR8 hB8 hoc8 hM7H hocH hB7
                    rw [results_cellQ rfl]
                    go_simp
                  · have hDf : D = false := by rw [hdn.out, ha0]; simp [ho]
                    subst hDf
                    have hof : ((owed L 0 : Int) == 0) = false := by simpa using ho
                    generalize owed L 0 = o at *
                    go_wp2_with fail
                    refine howed.out.mono ?_
                    rintro e w5 ⟨rfl, hB5⟩
                    have hM5 := Lib.hid (hMH.out.below hB5)
                    have hB6 := Lib.hid (hBH.out.trans (hB5.mono hMH.out.sz))
                    obtain ⟨Ac, capc, hvc, hoc⟩ := hfin.out w5 hM5.out hB6.out
                    subst hvc
                    have hM7 : RfQ (w5.setCell ⟨b.bt, 1, none⟩ (.bool false)) b.bn i b S.act va L (.slice Ac l.length capc) cs [.bool false, .int .u32 (wordB i S.act : Int), .int .i64 (wayS i S)] := RfQ.setR hM5.out 0 (.bool false)
                    have s1 := (hM5.out).rt.cell (i := 1) (by simp)
                    have s1f := (hM5.out).rt.frozen 1
                    have t0 := hM7.rt.cell (i := 0) (by simp)
                    have t1 := hM7.rt.cell (i := 1) (by simp)
                    have t2 := hM7.rt.cell (i := 2) (by simp)
                    have t3 := hM7.rt.cell (i := 3) (by simp)
                    have r0 := hM7.rr.cell (i := 0) (by simp)
                    have r1 := hM7.rr.cell (i := 1) (by simp)
                    have r2 := hM7.rr.cell (i := 2) (by simp)
                    have r3 := hM7.rr.cell (i := 3) (by simp)
                    have f0 := hM7.rr.frozen 0
                    have f1 := hM7.rr.frozen 1
                    have f2 := hM7.rr.frozen 2
                    have f3 := hM7.rr.frozen 3
                    simp only [List.getElem_cons_zero, List.getElem_cons_succ] at s1 t0 t1 t2 t3 r0 r1 r2 r3
                    have hB7 := Lib.hid ((hB6.out).setCell (p := ⟨b.bt, 1, none⟩) (hM5.out).lo.2.2.2.2.2.2.2 (.bool false))
                    have hM7H := Lib.hid hM7
                    have hocH : Hid (OwnK (w5.setCell ⟨b.bt, 1, none⟩ (.bool false)) b.bn (.slice Ac l.length capc) cs) := by
                      have := hM7.oc
                      exact this
                    obtain ⟨WW, hWW⟩ : ∃ x, Hid (wordB i S.act = x) := ⟨_, rfl⟩
                    obtain ⟨YY, hYY⟩ : ∃ x, Hid (wayS i S = x) := ⟨_, rfl⟩
                    rw [hWW.out] at t2
                    rw [hYY.out] at t3
                    clear hM7 hM5 hB6 hMH hBH hfin hoc howed hwd hdn hty ha0 hB5
                    go_wp2_with fail
                    generalize w5.setCell ⟨b.bt, 1, none⟩ (.bool false) = w7 at *
                    have hR8 := (((hM7H.out.rr.set 0 (.slice Ac l.length capc)).set 1 (.bool false)).set 2 (.int .u32 (WW : Int))).set 3 (.int .i64 YY)
                    have hB8 := Lib.hid ((((hB7.out.setCell (p := ⟨b.br, 0, none⟩) hM7H.out.lo.2.1 (.slice Ac l.length capc)).setCell (p := ⟨b.br, 1, none⟩) hM7H.out.lo.2.1 (.bool false)).setCell (p := ⟨b.br, 2, none⟩) hM7H.out.lo.2.1 (.int .u32 (WW : Int))).setCell (p := ⟨b.br, 3, none⟩) hM7H.out.lo.2.1 (.int .i64 YY))
                    have hoc8 : Hid (OwnK ((((w7.setCell ⟨b.br, 0, none⟩ (.slice Ac l.length capc)).setCell ⟨b.br, 1, none⟩ (.bool false)).setCell ⟨b.br, 2, none⟩ (.int .u32 (WW : Int))).setCell ⟨b.br, 3, none⟩ (.int .i64 YY)) b.bn (.slice Ac l.length capc) cs) := ownsD_blk hocH.out fun g e => by
                      have hne : g ≠ b.br := fun e' => owns_ne_row hocH.out hM7H.out.rr (by decide) (e' ▸ e)
                      rw [Below.heap_setCell _ _ _ g hne, Below.heap_setCell _ _ _ g hne, Below.heap_setCell _ _ _ g hne, Below.heap_setCell _ _ _ g hne]
                    generalize (((w7.setCell ⟨b.br, 0, none⟩ (.slice Ac l.length capc)).setCell ⟨b.br, 1, none⟩ (.bool false)).setCell ⟨b.br, 2, none⟩ (.int .u32 (WW : Int))).setCell ⟨b.br, 3, none⟩ (.int .i64 YY) = w8 at *
                    have q0 := hR8.cell (i := 0) (by simp)
                    have q1 := hR8.cell (i := 1) (by simp)
                    have q2 := hR8.cell (i := 2) (by simp)
                    have q3 := hR8.cell (i := 3) (by simp)
                    simp at q0 q1 q2 q3
                    (try simp only [Exit.inBlock, Exit.then])
                    have hres : Hid (RquRes w i l (.returned (.agg #[.slice Ac l.length capc, .bool false, .int .u32 (WW : Int), .int .i64 YY])) w8) := ⟨Ac, capc, by rw [hS.out, hD.out, hWW.out, hYY.out], by rw [hB0H.out, hcsE.out]; exact hoc8.out, by rw [hB0H.out]; exact hB8.out⟩
                    refine bodyPost_ret (v := .agg #[.slice Ac l.length capc, .bool false, .int .u32 (WW : Int), .int .i64 YY]) ?_ rfl hres.out
                    clear hR8 hB8 hoc8 hM7H hocH hB7
                    rw [results_cellQ rfl]
                    go_simp

#print axioms rqu_ok
end Go.Proofs.Ytichcahlokjblaa
