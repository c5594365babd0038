/-
  The contract of beaconryref.Causal (generated: wip/pf/gen/rca.py).
-/
import Derived.Test.YtkchccaeopdemaaRcw
namespace Go.Proofs.Ytkchccaeopdemaa
open Go.RowKit Go.Maps Go.Deep

set_option linter.unusedSimpArgs false in
set_option linter.unusedVariables false in
set_option maxHeartbeats 60000000 in
set_option maxRecDepth 100000 in
theorem rcausal_ok (A : Option Addr) (cap : Nat) (l : List Mv) (n : Nat) (w : World) (hE : Mvs w w.heap.size A l) (hF : MFits l) (h : Plays (n : Int) l.length) :
    Calls Try.prog 9 #[.int .i64 (n : Int), .slice A l.length cap] w (RcRes w n l) := by
  obtain ⟨h1, h2, h3⟩ := h
  have hn : n ≤ 6 := by omega
  have hl60 : (l.length : Int) ≤ 60 := by omega
  have hB1H := Lib.hid ((Below.refl w.heap.size w).alloc (Nat.le_refl _) (.cells #[.slice none 0 0, .slice none 0 0] 26))
  have hR1H := Lib.hid (Row.made w 26 [.slice none 0 0, .slice none 0 0])
  have hE1 := hE.below hB1H.out
  have hsz1 : (w.alloc (.cells #[.slice none 0 0, .slice none 0 0] 26)).heap.size = w.heap.size + 1 := by simp
  obtain ⟨j0, hi0, hz0, hz1, hz2⟩ := info_parts infoInt
  have hJi := Lib.hid hi0; have hJz := Lib.hid hz0; have hJs := Lib.hid hz1; have hJb := Lib.hid hz2
  clear hi0 hz0 hz1 hz2
  obtain ⟨je, hi0, hz0, hz1, hz2⟩ := info_parts infoErr
  have hEi := Lib.hid hi0; have hEz := Lib.hid hz0; have hEs := Lib.hid hz1; have hEb := Lib.hid hz2
  clear hi0 hz0 hz1 hz2
  obtain ⟨jh, hi0, hz0, hz1, hz2⟩ := info_parts infoInts
  have hHi := Lib.hid hi0; have hHz := Lib.hid hz0; have hHs := Lib.hid hz1; have hHb := Lib.hid hz2
  have b2 : jh.bytes * n ≤ 281474976710656 := by rw [hz2]; omega
  clear hi0 hz0 hz1 hz2
  have hFH := Lib.hid hF
  have hEH := Lib.hid hE1
  clear hF hE hE1
  go_enter Try.func9, Try.ntmps9
  go_wp2_with (first
    | (at_make; refine wpList_make_row (w.alloc (.cells #[.slice none 0 0, .slice none 0 0] 26)) rfl _ _ 24 rfl 37 jh (.slice none 0 0) Try.underlying24 hHi.out hHz.out hHs.out rfl .i64 .i64 _ _ n rfl rfl rfl rfl b2 (by unfold maxLen; omega) ?_; intro w2 hR2 hG2; have hR2H := Lib.hid hR2; have hG2H := Lib.hid hG2; clear hR2 hG2)
    | (at_make; refine wpList_make_row _ rfl _ _ 24 rfl 37 jh (.slice none 0 0) Try.underlying24 hHi.out hHz.out hHs.out rfl .i64 .i64 _ _ n rfl rfl rfl rfl b2 (by unfold maxLen; omega) ?_; intro w3 hR3 hG3; have hR3H := Lib.hid hR3; have hG3H := Lib.hid hG3; clear hR3 hG3))
  have hrel3 : Hid (RcRel (w.alloc (.cells #[.slice none 0 0, .slice none 0 0] 26)) (w.heap.size + 1) w2.heap.size (w.heap.size + 1) (w2.heap.size + 1) n l 0 (.slice none 0 0) (.slice none 0 0) w3) := by
    have hR2 := hR2H.out
    rw [hsz1] at hR2
    have hG2 := hG2H.out
    have hsz2 : w.heap.size + 1 ≤ w2.heap.size := by have := hG2.size; omega
    have hlt2 := hR2.lt
    have hg1 : (w2.alloc (.cells #[.slice none 0 0, .slice (some ⟨w.heap.size + 1, 0, none⟩) n n] 26)).heap.size = w2.heap.size + 1 := by simp
    have hR3 := hR3H.out
    rw [hg1] at hR3
    refine ⟨fun _ => .slice none 0 0, .slice none 0 0, fun _ => [], ⟨⟨fun j _ => ⟨?_, .inl ⟨rfl, ?_⟩⟩, fun i j _ _ _ => .inl rfl⟩, ?_, ?_, ?_, ⟨rfl, .inl ⟨rfl, rfl⟩⟩, ⟨rfl, .inl ⟨rfl, rfl⟩⟩, by omega, by simp [Value.ownBlock], by simp [Value.ownBlock], hsz2, Nat.le_refl _, by omega⟩, rfl, CmI.begin n, fun i _ => Nat.le_refl _, ?_⟩
    · rw [nv_len, Nat.mul_one]
    · have : famF n (cAt n l 0) (fun _ => []) j = [] := by
        unfold famF
        split
        · rfl
        · split
          · rfl
          · split <;> rfl
      rw [this]; rfl
    · exact (Row.made w2 26 [.slice none 0 0, .slice (some ⟨w.heap.size + 1, 0, none⟩) n n]).grown hG3H.out (by simp)
    · rw [← hdrs_nil]
      exact (hR2.alloc _).grown hG3H.out (by simp)
    · rw [← hdrs_nil]; exact hR3
    · have h5 : Below (w.heap.size + 1) (w.alloc (.cells #[.slice none 0 0, .slice none 0 0] 26)) w2 := (Below.refl _ _).grown hG2 (by omega) (by simp)
      exact (h5.alloc hsz2 _).grown hG3H.out (by simp; omega) (by simp)
  clear hR3H hG3H hR2H hG2H
  generalize hw1 : w.alloc (.cells #[.slice none 0 0, .slice none 0 0] 26) = w1 at *
  clear hw1
  generalize hBB : w.heap.size + 1 = B at *
  generalize hCC : w2.heap.size + 1 = C at *
  generalize w2.heap.size = o at *
  have hBBH := Lib.hid hBB
  have hsz1H := Lib.hid hsz1
  clear hBB hsz1 hCC b2
  go_loopg [24, 6, 7] l.length (fun g t vb vh wr => ∃ k : Nat, k ≤ l.length ∧ l.length - k = g ∧ t = .int .i64 k ∧ RcRel w1 B o B C n l k vb vh wr)
  case atStart => exact ⟨0, Nat.zero_le _, rfl, rfl, hrel3.out⟩
  case round =>
    clear hrel3
    obtain ⟨k, hk, hgk, rfl, vs, vc, cm, hR, hvb, hcm, hlc, hB⟩ := hrel
    have hgkH := Lib.hid hgk
    clear hgk
    have hszr : B ≤ wr.heap.size := by have := hB.size; rw [hsz1H.out] at this; exact this
    obtain ⟨Ab, cb, hb1, hb2, hb3, _⟩ := hR.nums (j := 2 * n) (by omega)
    rw [famF_by, byS_len] at hb1 hb2
    rw [hb1] at hvb
    subst hvb
    obtain ⟨Ah, ch, hh1, hh2, _⟩ := hR.hshape
    subst hh1
    obtain ⟨Ac, cc, hc1⟩ := hR.cshape
    subst hc1
    have hRH := Lib.hid hR
    have hcmH := Lib.hid hcm
    have hlcH := Lib.hid hlc
    have hb1H := Lib.hid hb1
    have hBH := Lib.hid hB
    clear hR hcm hlc hb1 hB
    by_cases hlt : k < l.length
    · have hkI : (k : Int) < (l.length : Int) := by omega
      obtain ⟨b, off, rfl, hb, hc⟩ := (hEH.out.below (hBH.out.mono (by rw [← hBBH.out]; omega))) (by omega)
      obtain ⟨c0, c1, c2, c3⟩ := hc k hlt
      clear hc
      rw [mv_get l hlt] at c0 c1 c2 c3
      have hfit := hFH.out.at_ hlt
      have hst : Hid (cAt n l (k + 1) = (stepC n (cAt n l k) (mv l k)).1) := rfl
      have hcd : Hid (codeC n l k = (stepC n (cAt n l k) (mv l k)).2) := rfl
      have hI := Lib.hid (CInv.at_ n l k)
      have hlen : Hid (∀ j, ((cAt n l k).td j).length + ((cAt n l k).wt j).length ≤ 60) := fun j => Nat.le_trans (cAt_len n l k j).1 (by omega)
      have hmm : (cAt n l k).m ≤ 60 := Nat.le_trans (cAt_len n l k 0).2 (by omega)
      have hcl : (codesL n l k).length = k := codesL_len n l k
      have hcs := Lib.hid (codesL_succ n l k)
      generalize mv l k = mo at *
      obtain ⟨mk, mf, mt, mv'⟩ := mo
      simp only at *
      obtain ⟨⟨k1, k2⟩, ⟨f1, f2⟩, ⟨t1, t2⟩, ⟨v1, v2⟩⟩ := hfit
      simp only at k1 k2 f1 f2 t1 t2 v1 v2
      have hRowH := Lib.hid (Row.made wr 39 [.int .i64 mk, .int .i64 mf, .int .i64 mt, .int .i64 mv'])
      have hRm := Lib.hid (hRH.out.alloc (.cells #[.int .i64 mk, .int .i64 mf, .int .i64 mt, .int .i64 mv'] 39))
      have hBm := Lib.hid (hBH.out.alloc hszr (.cells #[.int .i64 mk, .int .i64 mf, .int .i64 mt, .int .i64 mv'] 39))
      clear hRH hBH
      have y0 := hRowH.out.cell (i := 0) (by simp)
      simp only [List.getElem_cons_zero] at y0
      go_upto_if 30 with fail
      generalize wr.alloc (.cells #[.int .i64 mk, .int .i64 mf, .int .i64 mt, .int .i64 mv'] 39) = wm at *
      generalize wr.heap.size = bm at *
      clear c0 c1 c2 c3 hszr
      have y1 := hRowH.out.cell (i := 1) (by simp)
      have y2 := hRowH.out.cell (i := 2) (by simp)
      have y3 := hRowH.out.cell (i := 3) (by simp)
      simp only [List.getElem_cons_zero, List.getElem_cons_succ] at y1 y2 y3
      have hltbm := hRowH.out.lt
      have hszm := hRm.out.sz
      have hclH := Lib.hid hcl
      have hR2 : Hid (RC wm B o B C n (cAt n l k).m vs (.slice Ac k cc) (.slice Ah (cAt n l k).m ch) (codesL n l k) (famF n (cAt n l k) cm)) := by have := hRm.out; rw [hcl] at this; exact this
      clear hRm hcl
      go_cut [6, 7, 11, 12, 13, 14, 16] from 25 to 194 (fun vb vh e _ _ _ _ wx => RcCut w1 B o B C n l k Ac cc vb vh e wx)
      case first =>
        by_cases hk1 : mk = 1
        · have e1 : (mk == 1) = true := by simp [hk1]
          by_cases hf0 : mf < 0
          · as_aux_lemma =>
              have hsS := Lib.hid (congrArg Prod.fst (stepC_arg1 (n := n) (S := cAt n l k) (m := ⟨mk, mf, mt, mv'⟩) hk1 (by simp only; omega)))
              have hsC := Lib.hid (congrArg Prod.snd (stepC_arg1 (n := n) (S := cAt n l k) (m := ⟨mk, mf, mt, mv'⟩) hk1 (by simp only; omega)))
              simp only at hsS hsC
              have hrelc : Hid (RcCut w1 B o B C n l k Ac cc (.slice Ab (cAt n l k).m cb) (.slice Ah (cAt n l k).m ch) (.int .i64 2) wm) := by
                refine ⟨vs, cm, ?_, hb1H.out.symm, ?_, fun i hi => Nat.le_trans (hlcH.out i hi) (Nat.le_succ _), hBm.out, ?_⟩
                · rw [hst.out, hsS.out]; exact hR2.out
                · rw [hst.out, hsS.out]; exact hcmH.out
                · rw [hcd.out, hsC.out]
              clear hsS hsC hst hcd hR2 hBm hcmH hlcH
              go_wp2_with fail
              go_meet
              case rel => exact hrelc.out
          · by_cases hfn : (n : Int) ≤ mf
            · as_aux_lemma =>
                have hsS := Lib.hid (congrArg Prod.fst (stepC_arg1 (n := n) (S := cAt n l k) (m := ⟨mk, mf, mt, mv'⟩) hk1 (by simp only; omega)))
                have hsC := Lib.hid (congrArg Prod.snd (stepC_arg1 (n := n) (S := cAt n l k) (m := ⟨mk, mf, mt, mv'⟩) hk1 (by simp only; omega)))
                simp only at hsS hsC
                have hrelc : Hid (RcCut w1 B o B C n l k Ac cc (.slice Ab (cAt n l k).m cb) (.slice Ah (cAt n l k).m ch) (.int .i64 2) wm) := by
                  refine ⟨vs, cm, ?_, hb1H.out.symm, ?_, fun i hi => Nat.le_trans (hlcH.out i hi) (Nat.le_succ _), hBm.out, ?_⟩
                  · rw [hst.out, hsS.out]; exact hR2.out
                  · rw [hst.out, hsS.out]; exact hcmH.out
                  · rw [hcd.out, hsC.out]
                clear hsS hsC hst hcd hR2 hBm hcmH hlcH
                go_wp2_with fail
                go_meet
                case rel => exact hrelc.out
            · as_aux_lemma =>
                obtain ⟨i, hfi⟩ := Int.eq_ofNat_of_zero_le (a := mf) (by omega)
                subst hfi
                have hi : i < n := by omega
                have hsS := Lib.hid (congrArg Prod.fst (stepC_tell (n := n) (S := cAt n l k) (m := ⟨mk, (i : Int), mt, mv'⟩) hk1 hi rfl))
                have hsC := Lib.hid (congrArg Prod.snd (stepC_tell (n := n) (S := cAt n l k) (m := ⟨mk, (i : Int), mt, mv'⟩) hk1 hi rfl))
                simp only at hsS hsC
                have hst2 : Hid (cAt n l (k + 1) = (cAt n l k).tell i) := hst.out.trans hsS.out
                have hcd2 : Hid (codeC n l k = 0) := hcd.out.trans hsC.out
                clear hsS hsC hst hcd
                generalize cAt n l k = S at *
                have hiI : (i : Int) < (n : Int) := by omega
                obtain ⟨Ai, ci, hvi, hi1, hi2, hNi⟩ := hR2.out.nums (j := i) (by omega)
                rw [famF_td hi] at hvi hi1 hNi
                have hli : (S.td i).length ≤ 60 := by have := hlen.out i; omega
                obtain ⟨_, o1⟩ := hR2.out.ocells
                have tc := hR2.out.tcell hi
                rw [hvi, ← zs_len] at tc
                have hltO := hR2.out.out.lt
                have hltT := hR2.out.told.lt
                have hW3 : Hid ((wm.alloc (.cells #[] 3)).ownsRow wm.heap.size 3 1 (.slice (some ⟨wm.heap.size, 0, none⟩) 0 0) 0 []) := World.ownsRow_lit wm #[] 0 (Nat.le_refl _) (by unfold maxLen; omega) (by simp)
                have hba := (Below.refl wm.heap.size wm).alloc (Nat.le_refl _) (.cells #[] 3)
                have hN3 := Lib.hid ((hNi.below hba).more hba.size)
                have a1 := cell_allocV (.cells #[] 3) o1 hltO
                have a2 := cell_allocV (.cells #[] 3) tc hltT
                have a3 := cell_allocV (.cells #[] 3) y1 hltbm
                have hviH := Lib.hid hvi
                clear hvi hNi hba
                have hLl : (zs (S.td i)).length ≤ 60 := by rw [zs_len]; exact hli
                generalize hL1 : zs (S.td i) = L1 at *
                have hL1H := Lib.hid hL1
                clear hL1
                go_wp2_with (first
                  | (at_builtin; refine wpList_copyI rfl (.tmp 41) (.tmp 47) rfl j0 hJi.out hJz.out hJs.out hJb.out wm.heap.size wm.heap.size rfl hW3.out Ai ci L1 rfl hN3.out (by omega) (by simp) ?_; intro v5 w5 hW5 hG5
                     obtain ⟨A5, c5, hv5, _, _, _⟩ := hW5.nums
                     subst hv5
                     have hW5H := Lib.hid hW5
                     have hG5H := Lib.hid hG5
                     have hblk5 : Hid (∀ g, B ≤ g → g < wm.heap.size → (w5.alloc (.cells #[.slice A5 L1.length c5] 37)).heap[g]? = wm.heap[g]?) := (fun g _ hg => (by
                       rw [Below.heap_alloc w5 _ g (by have := hG5H.out.size; simp at this; omega), hG5H.out.block g (by simp; omega) (by simp; omega), Below.heap_alloc wm _ g hg]))
                     have hown5 := Lib.hid (owns_blocks hR2.out.beh hblk5.out)
                     have hnews5 : Hid (∀ j u, [Value.slice A5 L1.length c5][j]? = some u → (w5.alloc (.cells #[.slice A5 L1.length c5] 37)).cell? ((⟨w5.heap.size, 0, none⟩ : Addr).add j) = some u) := World.news_of_block (cs := #[.slice A5 L1.length c5]) (t := 37) (fr := (0, 0)) (heap_alloc_new w5 _)
                     have hsz5 : wm.heap.size + 1 ≤ w5.heap.size := (by have := hG5H.out.size; simp at this; exact this)
                     have hbase5 : B ≤ (w5.alloc (.cells #[.slice A5 L1.length c5] 37)).heap.size := (by simp; omega)
                     clear hW5 hG5)
                  | (at_builtin; refine wpList_append_lies _ rfl (.tmp 40) (.tmp 49) 24 rfl B 37 jh (.slice none 0 0) 1 24 Try.underlying24 hHi.out hHz.out hHs.out hHb.out rfl (by decide) (.slice Ah S.m ch) S.m (hdrs vs (2 * n + 1) S.m) rfl hown5.out ⟨w5.heap.size, 0, none⟩ 1 1 [.slice A5 L1.length c5] rfl rfl hnews5.out (by simp [Value.oneCell']) (by omega) (by unfold maxLen; omega) (by omega) hbase5 _ rfl ?_; intro g6 cap6 w6 hown6 hgr6 hat6 hlt6; have hown6H := Lib.hid hown6; have hgr6H := Lib.hid hgr6; have hat6H := Lib.hid hat6; clear hown6 hgr6 hat6))
                have hR6 : Hid (RC w6 B o B C n (S.m + 1) (up1 vs (2 * n + 1 + S.m) (.slice A5 L1.length c5)) (.slice Ac k cc) (.slice (some ⟨g6, 0, none⟩) (S.m + 1) cap6) (codesL n l k) (up1 (famF n S cm) (2 * n + 1 + S.m) (S.td i))) := by
                  refine hR2.out.addH (w1 := w5.alloc (.cells #[.slice A5 L1.length c5] 37)) ?_ hblk5.out ?_ hown6H.out hgr6H.out ?_
                  · have h5 := hW5H.out
                    rw [← hL1H.out] at h5
                    rw [← hL1H.out]
                    exact World.ownsRow.alloc (owns_low (own_of_ints h5) hszm) _
                  · cases A5 with
                    | none => exact .inl rfl
                    | some a => exact .inr ⟨a.block, rfl, (World.ownsRow.lt hW5H.out a.block rfl).1⟩
                  · rcases hat6H.out with h | h
                    · exact .inl h.symm
                    · exact .inr ⟨g6, rfl, by rw [h]; exact Nat.le_refl _⟩
                have hB6 : Hid (Below B w1 w6) :=
                  (((hBm.out.alloc hszm (.cells #[] 3)).grown hG5H.out (by simp; omega) (fun j hj => by injection hj with hj; omega)).alloc (by omega) (.cells #[.slice A5 L1.length c5] 37)).grown hgr6H.out hbase5 (fun j hj => (World.ownsRow.lt hown5.out j hj).1)
                have hRow6 : Hid (Row w6 bm 39 [.int .i64 mk, .int .i64 (i : Int), .int .i64 mt, .int .i64 mv']) :=
                  (((hRowH.out.alloc (.cells #[] 3)).grown hG5H.out (by simp; omega)).alloc _).grown hgr6H.out (fun e => owns_ne_row hown5.out (((hRowH.out.alloc (.cells #[] 3)).grown hG5H.out (by simp; omega)).alloc (.cells #[.slice A5 L1.length c5] 37)) (by decide) e.symm)
                clear hW3 hN3 a1 a2 a3 o1 tc y0 y1 y2 y3 hltO hltT hW5H hG5H hblk5 hown5 hnews5 hown6H hgr6H hat6H hR2 hBm hRowH hlt6 hbase5 hsz5
                obtain ⟨_, o1⟩ := hR6.out.ocells
                have tc := hR6.out.tcell hi
                have hvi6 : up1 vs (2 * n + 1 + S.m) (.slice A5 L1.length c5) i = .slice Ai (S.td i).length ci := (up1_other _ _ (by omega)).trans hviH.out
                have hfi6 : up1 (famF n S cm) (2 * n + 1 + S.m) (S.td i) i = S.td i := (up1_other _ _ (by omega)).trans (famF_td hi)
                have hvi6H := Lib.hid hvi6
                rw [hvi6] at tc
                have ym := hRow6.out.cell (i := 1) (by simp)
                simp only [List.getElem_cons_zero, List.getElem_cons_succ] at ym
                have hltb6 := hRow6.out.lt
                have hltO := hR6.out.out.lt
                have hltT := hR6.out.told.lt
                have hsz6 := hR6.out.sz
                have fT : w6.frozen? ⟨B, i, none⟩ = false := hR6.out.told.frozen i
                have hownT : Hid (∀ w' : World, w'.heap = (w6.alloc (.cells #[.int .i64 (S.m : Int)] 3)).heap → w'.ownsRow B 3 1 (.slice Ai (S.td i).length ci) (S.td i).length (nv (S.td i))) := fun w' e => owns_blocks (by have := hR6.out.fam.own i (by omega); rw [hvi6, hfi6] at this; exact this) (fun g _ hg => by rw [e]; exact Below.heap_alloc w6 _ g hg)
                have hnewsT : Hid (∀ w' : World, w'.heap = (w6.alloc (.cells #[.int .i64 (S.m : Int)] 3)).heap → ∀ j u, [Value.int .i64 (S.m : Int)][j]? = some u → w'.cell? ((⟨w6.heap.size, 0, none⟩ : Addr).add j) = some u) := fun w' e => World.news_of_block (cs := #[.int .i64 (S.m : Int)]) (t := 3) (fr := (0, 0)) (by rw [e]; exact heap_alloc_new w6 _)
                have hneT : Hid ((Value.slice Ai (S.td i).length ci).ownBlock ≠ some B) := by have ho := hR6.out.fam.own i (by omega); rw [hvi6] at ho; exact owns_ne_row ho hR6.out.told (by decide)
                have hneO : Hid ((Value.slice Ai (S.td i).length ci).ownBlock ≠ some o) := by have ho := hR6.out.fam.own i (by omega); rw [hvi6] at ho; exact owns_ne_row ho hR6.out.out (by decide)
                have hneM : Hid ((Value.slice Ai (S.td i).length ci).ownBlock ≠ some bm) := by have ho := hR6.out.fam.own i (by omega); rw [hvi6] at ho; exact owns_ne_row ho hRow6.out (by decide)
                have hoT : (⟨B, i, none⟩ : Addr) ≠ ⟨o, 1, none⟩ := fun e => hR6.out.told.ne hR6.out.out (by decide) (by injection e)
                have hmT : (⟨B, i, none⟩ : Addr) ≠ ⟨bm, 1, none⟩ := fun e => hR6.out.told.ne hRow6.out (by decide) (by injection e)
                have a0 := cell_allocV (.cells #[.int .i64 (S.m : Int)] 3) tc hltT
                have a1 := cell_allocV (.cells #[.int .i64 (S.m : Int)] 3) o1 hltO
                have a2 := cell_allocV (.cells #[.int .i64 (S.m : Int)] 3) ym hltb6
                clear hvi6 hfi6
                refine held_letter (fun w' => w'.cell? ⟨o, 1, none⟩ = some (.slice (some ⟨B, 0, none⟩) n n) ∧ w'.cell? ⟨bm, 1, none⟩ = some (.int .i64 (i : Int))) (by kernel_rfl) (fun _ _ d _ _ h => by cases d <;> exact h) ?_ (fun Q hpan hQn hHeld => ?_)
                · exact ⟨o1, ym⟩
                refine take_dst (i := 0) (v := ?_) (some 51) rfl rfl (by kernel_rfl) (by kernel_rfl) (by kernel_rfl) hpan (Or.inl ⟨by rfl, ?_⟩) (by assumption) ?_
                rotate_left
                · (intro w hSw; (try dsimp only at hSw); first | (go_simp; done) | (go_simp; with_reducible rfl))
                try simp only [List.getElem_toArray, List.getElem_cons_zero, List.getElem_cons_succ, Act.put, List.setIfInBounds_toArray, List.set_cons_zero, List.set_cons_succ]
                refine take_dst (i := 1) (v := ?_) (some 52) rfl rfl (by kernel_rfl) (by kernel_rfl) (by kernel_rfl) hpan (Or.inl ⟨by rfl, ?_⟩) (by assumption) ?_
                rotate_left
                · (intro w hSw; (try dsimp only at hSw); first | (go_simp; done) | (go_simp; with_reducible rfl))
                try simp only [List.getElem_toArray, List.getElem_cons_zero, List.getElem_cons_succ, Act.put, List.setIfInBounds_toArray, List.set_cons_zero, List.set_cons_succ]
                refine take_dst (i := 2) (v := ?_) (some 53) rfl rfl (by kernel_rfl) (by kernel_rfl) (by kernel_rfl) hpan (Or.inl ⟨by rfl, ?_⟩) (by assumption) ?_
                rotate_left
                · (intro w hSw; (try dsimp only at hSw); first | (go_simp; done) | (go_simp; with_reducible rfl))
                try simp only [List.getElem_toArray, List.getElem_cons_zero, List.getElem_cons_succ, Act.put, List.setIfInBounds_toArray, List.set_cons_zero, List.set_cons_succ]
                refine take_dst (i := 3) (v := ?_) (some 54) rfl rfl (by kernel_rfl) (by kernel_rfl) (by kernel_rfl) hpan (Or.inl ⟨by rfl, ?_⟩) (by assumption) ?_
                rotate_left
                · (intro w hSw; (try dsimp only at hSw); first | (go_simp; done) | (go_simp; with_reducible rfl))
                try simp only [List.getElem_toArray, List.getElem_cons_zero, List.getElem_cons_succ, Act.put, List.setIfInBounds_toArray, List.set_cons_zero, List.set_cons_succ]
                refine take_dst (i := 4) (v := ?_) (some 55) rfl rfl (by kernel_rfl) (by kernel_rfl) (by kernel_rfl) hpan (Or.inl ⟨by rfl, ?_⟩) (by assumption) ?_
                rotate_left
                · (intro w hSw; (try dsimp only at hSw); first | (go_simp; done) | (go_simp; with_reducible rfl))
                try simp only [List.getElem_toArray, List.getElem_cons_zero, List.getElem_cons_succ, Act.put, List.setIfInBounds_toArray, List.set_cons_zero, List.set_cons_succ]
                refine take_dst (i := 5) (v := ?_) (some 56) rfl rfl (by kernel_rfl) (by kernel_rfl) (by kernel_rfl) hpan (Or.inl ⟨by rfl, ?_⟩) (by assumption) ?_
                rotate_left
                · (intro w hSw; (try dsimp only at hSw); first | (go_simp; done) | (go_simp; with_reducible rfl))
                try simp only [List.getElem_toArray, List.getElem_cons_zero, List.getElem_cons_succ, Act.put, List.setIfInBounds_toArray, List.set_cons_zero, List.set_cons_succ]
                refine take_dst (i := 6) (v := ?_) (some 57) rfl rfl (by kernel_rfl) (by kernel_rfl) (by kernel_rfl) hpan (Or.inl ⟨by rfl, ?_⟩) (by assumption) ?_
                rotate_left
                · (intro w hSw; (try dsimp only at hSw); first | (go_simp; done) | (go_simp; with_reducible rfl))
                try simp only [List.getElem_toArray, List.getElem_cons_zero, List.getElem_cons_succ, Act.put, List.setIfInBounds_toArray, List.set_cons_zero, List.set_cons_succ]
                refine take_dst (i := 7) (v := ?_) (some 58) rfl rfl (by kernel_rfl) (by kernel_rfl) (by kernel_rfl) hpan (Or.inl ⟨by rfl, ?_⟩) (by assumption) ?_
                rotate_left
                · (intro w hSw; (try dsimp only at hSw); first | (go_simp; done) | (go_simp; with_reducible rfl))
                try simp only [List.getElem_toArray, List.getElem_cons_zero, List.getElem_cons_succ, Act.put, List.setIfInBounds_toArray, List.set_cons_zero, List.set_cons_succ]
                refine take_dst (i := 8) (v := ?_) (some 59) rfl rfl (by kernel_rfl) (by kernel_rfl) (by kernel_rfl) hpan (Or.inl ⟨by rfl, ?_⟩) (by assumption) ?_
                rotate_left
                · (intro w hSw; (try dsimp only at hSw); first | (go_simp; done) | (go_simp; with_reducible rfl))
                try simp only [List.getElem_toArray, List.getElem_cons_zero, List.getElem_cons_succ, Act.put, List.setIfInBounds_toArray, List.set_cons_zero, List.set_cons_succ]
                refine take_dst (i := 10) (v := ?_) (some 61) rfl rfl (by kernel_rfl) (by kernel_rfl) (by kernel_rfl) hpan (Or.inl ⟨by rfl, ?_⟩) (by assumption) ?_
                rotate_left
                · (intro w hSw; (try dsimp only at hSw); first | (go_simp; done) | (go_simp; with_reducible rfl))
                try simp only [List.getElem_toArray, List.getElem_cons_zero, List.getElem_cons_succ, Act.put, List.setIfInBounds_toArray, List.set_cons_zero, List.set_cons_succ]
                refine take_dst (i := 11) (v := ?_) (some 62) rfl rfl (by kernel_rfl) (by kernel_rfl) (by kernel_rfl) hpan (Or.inl ⟨by rfl, ?_⟩) (by assumption) ?_
                rotate_left
                · (intro w hSw; (try dsimp only at hSw); first | (go_simp; done) | (go_simp; with_reducible rfl))
                try simp only [List.getElem_toArray, List.getElem_cons_zero, List.getElem_cons_succ, Act.put, List.setIfInBounds_toArray, List.set_cons_zero, List.set_cons_succ]
                refine wpAnyH_ready (rs := [9, 12]) (by kernel_rfl) (by simp) ?_
                refine AllReadyH.cons rfl (fun K hK => ?_) (AllReadyH.cons rfl (fun K hK => ?_) AllReadyH.nil)
                · go_simp
                  refine hK.out _ _ ?_ (fun hHeld => ?_)
                  · exact hHeld
                  clear hK K
                  try simp only [List.getElem_toArray, List.getElem_cons_zero, List.getElem_cons_succ, Act.put, List.setIfInBounds_toArray, List.set_cons_zero, List.set_cons_succ]
                  refine wpAnyH_ready (rs := [12]) (by kernel_rfl) (by simp) ?_
                  refine AllReadyH.cons rfl (fun K hK => ?_) AllReadyH.nil
                  go_simp
                  refine hK.out _ _ ?_ (fun hHeld => ?_)
                  · exact ⟨a1, a2⟩
                  clear hK K
                  try simp only [List.getElem_toArray, List.getElem_cons_zero, List.getElem_cons_succ, Act.put, List.setIfInBounds_toArray, List.set_cons_zero, List.set_cons_succ]
                  refine wpAnyH_ready (rs := [13]) (by kernel_rfl) (by simp) ?_
                  refine AllReadyH.cons rfl (fun K hK => ?_) AllReadyH.nil
                  refine step_append_lies _ (by rfl) _ _ _ (by rfl) B 3 j0 (.int .i64 0) 1 8 Try.underlying37 hJi.out hJz.out hJs.out hJb.out (by rfl) (by decide) (.slice Ai (S.td i).length ci) (S.td i).length (nv (S.td i)) (by rfl) (hownT.out _ rfl) ⟨w6.heap.size, 0, none⟩ 1 1 [.int .i64 (S.m : Int)] (by rfl) (by rfl) (hnewsT.out _ rfl) (by simp [Value.oneCell']) (by omega) (by unfold maxLen; omega) (by omega) (by simp; omega) (w6.heap.size + 1) (by simp) ?_
                  intro ga capa wa howna hgrowa hata hltga
                  have hgr : (w6.alloc (.cells #[.int .i64 (S.m : Int)] 3)).grownBy wa (Value.ownBlock (.slice Ai (S.td i).length ci)) := ⟨hgrowa.os, hgrowa.tape, hgrowa.output, hgrowa.size, hgrowa.block⟩
                  have e0 : wa.cell? ⟨B, i, none⟩ = some (.slice Ai (S.td i).length ci) := hgr.cell a0 (fun e => hneT.out e.symm)
                  have e1 : wa.cell? ⟨o, 1, none⟩ = some (.slice (some ⟨B, 0, none⟩) n n) := hgr.cell a1 (fun e => hneO.out e.symm)
                  have e2 : wa.cell? ⟨bm, 1, none⟩ = some (.int .i64 (i : Int)) := hgr.cell a2 (fun e => hneM.out e.symm)
                  have ef : wa.frozen? ⟨B, i, none⟩ = false := (World.frozen?_of_block (hgr.block B (by simp; omega) (fun e => hneT.out e.symm))).trans ((World.frozen?_of_block (Below.heap_alloc w6 _ B hltT)).trans fT)
                  have hk : ∀ v, (wa.setCell ⟨B, i, none⟩ v).cell? ⟨o, 1, none⟩ = some (.slice (some ⟨B, 0, none⟩) n n) ∧ (wa.setCell ⟨B, i, none⟩ v).cell? ⟨bm, 1, none⟩ = some (.int .i64 (i : Int)) := fun v => ⟨(World.cell?_setCell_other _ _ _ _ hoT).trans e1, (World.cell?_setCell_other _ _ _ _ hmT).trans e2⟩
                  refine hK.out _ _ ?_ (fun hHeld => ?_)
                  · exact ⟨e1, e2⟩
                  clear hK K
                  try simp only [List.getElem_toArray, List.getElem_cons_zero, List.getElem_cons_succ, Act.put, List.setIfInBounds_toArray, List.set_cons_zero, List.set_cons_succ]
                  refine take_dst (i := 14) (v := ?_) (some 65) rfl rfl (by kernel_rfl) (by kernel_rfl) (by kernel_rfl) hpan (Or.inl ⟨by rfl, ?_⟩) (by assumption) ?_
                  rotate_left
                  · (intro w hSw; (try dsimp only at hSw); first | (go_simp; done) | (go_simp; with_reducible rfl))
                  try simp only [List.getElem_toArray, List.getElem_cons_zero, List.getElem_cons_succ, Act.put, List.setIfInBounds_toArray, List.set_cons_zero, List.set_cons_succ]
                  refine wpAnyH_ready (rs := [15]) (by kernel_rfl) (by simp) ?_
                  refine AllReadyH.cons rfl (fun K hK => ?_) AllReadyH.nil
                  go_simp
                  refine hK.out _ _ ?_ (fun hHeld => ?_)
                  · exact hk _
                  clear hK K
                  try simp only [List.getElem_toArray, List.getElem_cons_zero, List.getElem_cons_succ, Act.put, List.setIfInBounds_toArray, List.set_cons_zero, List.set_cons_succ]
                  refine wpAnyH_done (by kernel_rfl) ?_ _
                  refine hQn _ _ ?_
                  clear hpan hQn
                  have hR8 : Hid (RC (wa.setCell ⟨B, i, none⟩ (.slice (some ⟨ga, 0, none⟩) ((S.td i).length + 1) capa)) B o B C n (S.m + 1) (up1 (up1 vs (2 * n + 1 + S.m) (.slice A5 L1.length c5)) i (.slice (some ⟨ga, 0, none⟩) ((S.td i).length + 1) capa)) (.slice Ac k cc) (.slice (some ⟨g6, 0, none⟩) (S.m + 1) cap6) (codesL n l k) (up1 (up1 (famF n S cm) (2 * n + 1 + S.m) (S.td i)) i (S.td i ++ [S.m]))) :=
                    (hR6.out.alloc (.cells #[.int .i64 (S.m : Int)] 3)).pushT hi (OwnN.push howna) (by rw [hvi6H.out]; exact hgr) (by rw [hvi6H.out]; rcases hata with h | h; exact .inl h.symm; exact .inr ⟨ga, rfl, by simp; omega⟩)
                  have hB8 : Hid (Below B w1 (wa.setCell ⟨B, i, none⟩ (.slice (some ⟨ga, 0, none⟩) ((S.td i).length + 1) capa))) :=
                    ((hB6.out.alloc hsz6 (.cells #[.int .i64 (S.m : Int)] 3)).grown hgr (by simp; omega) (fun j hj => (World.ownsRow.lt (hownT.out (w6.alloc (.cells #[.int .i64 (S.m : Int)] 3)) rfl) j hj).1)).setCell (p := ⟨B, i, none⟩) (Nat.le_refl _) _
                  have hy8 := (hk (.slice (some ⟨ga, 0, none⟩) ((S.td i).length + 1) capa)).2
                  have hltb8 : bm < (wa.setCell ⟨B, i, none⟩ (.slice (some ⟨ga, 0, none⟩) ((S.td i).length + 1) capa)).heap.size := by have := hgr.size; simp at this ⊢; omega
                  clear hk e0 e1 e2 ef hgr howna hgrowa hata hltga a0 a1 a2
                  generalize wa.setCell ⟨B, i, none⟩ (.slice (some ⟨ga, 0, none⟩) ((S.td i).length + 1) capa) = w8 at *
                  have hsz8 := hR8.out.sz
                  have hvb8 : Hid (up1 (up1 vs (2 * n + 1 + S.m) (.slice A5 L1.length c5)) i (.slice (some ⟨ga, 0, none⟩) ((S.td i).length + 1) capa) (2 * n) = .slice Ab S.m cb) := ((up1_other _ _ (by omega)).trans (up1_other _ _ (by omega))).trans hb1H.out
                  have hfb8 : Hid (up1 (up1 (famF n S cm) (2 * n + 1 + S.m) (S.td i)) i (S.td i ++ [S.m]) (2 * n) = byS S) := ((up1_other _ _ (by omega)).trans (up1_other _ _ (by omega))).trans famF_by
                  have hlby : Hid ((byS S).length = S.m) := byS_len S
                  have hown8 : Hid ((w8.alloc (.cells #[.int .i64 (i : Int)] 3)).ownsRow B 3 1 (.slice Ab S.m cb) S.m (nv (byS S))) := by
                    have := (hR8.out.alloc (.cells #[.int .i64 (i : Int)] 3)).fam.own (2 * n) (by omega)
                    rw [hvb8.out, hfb8.out] at this
                    unfold OwnN at this
                    rw [hlby.out] at this
                    exact this
                  have hnews8 : Hid (∀ j u, [Value.int .i64 (i : Int)][j]? = some u → (w8.alloc (.cells #[.int .i64 (i : Int)] 3)).cell? ((⟨w8.heap.size, 0, none⟩ : Addr).add j) = some u) := World.news_of_block (cs := #[.int .i64 (i : Int)]) (t := 3) (fr := (0, 0)) (heap_alloc_new w8 _)
                  go_wp2_with (first
                    | (at_builtin; refine wpList_append_lies _ rfl (.tmp 66) (.tmp 69) 37 rfl B 3 j0 (.int .i64 0) 1 8 Try.underlying37 hJi.out hJz.out hJs.out hJb.out rfl (by decide) (.slice Ab S.m cb) S.m (nv (byS S)) rfl hown8.out ⟨w8.heap.size, 0, none⟩ 1 1 [.int .i64 (i : Int)] rfl rfl hnews8.out (by simp [Value.oneCell']) (by omega) (by unfold maxLen; omega) (by omega) (by simp; omega) _ rfl ?_; intro gb capb wb hownb hgrb hatb hltb; have hownbH := Lib.hid hownb; have hgrbH := Lib.hid hgrb; have hatbH := Lib.hid hatb; clear hownb hgrb hatb hltb))
                  have hrelc : Hid (RcCut w1 B o B C n l k Ac cc (.slice (some ⟨gb, 0, none⟩) (S.m + 1) capb) (.slice (some ⟨g6, 0, none⟩) (S.m + 1) cap6) (.int .i64 0) wb) := by
                    have hob : OwnN wb B (.slice (some ⟨gb, 0, none⟩) (S.m + 1) capb) (byS S ++ [i]) := by
                      unfold OwnN
                      have e2 : nv (byS S ++ [i]) = nv (byS S) ++ [.int .i64 (i : Int)] := by simp [nv]
                      rw [e2, List.length_append, hlby.out]
                      exact hownbH.out
                    have hR9 := (hR8.out.alloc (.cells #[.int .i64 (i : Int)] 3)).pushB (w' := wb) hob (by rw [hvb8.out]; exact hgrbH.out) (by rw [hvb8.out]; rcases hatbH.out with h | h; exact .inl h.symm; exact .inr ⟨gb, rfl, by rw [h]; exact Nat.le_refl _⟩)
                    refine ⟨up1 (up1 (up1 vs (2 * n + 1 + S.m) (.slice A5 L1.length c5)) i (.slice (some ⟨ga, 0, none⟩) ((S.td i).length + 1) capa)) (2 * n) (.slice (some ⟨gb, 0, none⟩) (S.m + 1) capb), cm, ?_, (up1_same _ _ _).symm, ?_, fun j hj => Nat.le_trans (hlcH.out j hj) (Nat.le_succ _), ?_, by rw [hcd2.out]⟩
                    · rw [hst2.out]
                      exact hR9.congr (fun j hj => famF_tell hi j hj)
                    · rw [hst2.out]
                      exact CmI.tell hI.out hcmH.out i
                    · exact (hB8.out.alloc hsz8 _).grown hgrbH.out (by simp; omega) (fun j hj => (World.ownsRow.lt hown8.out j hj).1)
                  clear hownbH hgrbH hatbH hown8 hnews8 hR8 hB8
                  go_meet
                  case rel => exact hrelc.out
                · go_simp
                  refine hK.out _ _ ?_ (fun hHeld => ?_)
                  · exact ⟨a1, a2⟩
                  clear hK K
                  try simp only [List.getElem_toArray, List.getElem_cons_zero, List.getElem_cons_succ, Act.put, List.setIfInBounds_toArray, List.set_cons_zero, List.set_cons_succ]
                  refine wpAnyH_ready (rs := [9]) (by kernel_rfl) (by simp) ?_
                  refine AllReadyH.cons rfl (fun K hK => ?_) AllReadyH.nil
                  go_simp
                  refine hK.out _ _ ?_ (fun hHeld => ?_)
                  · exact hHeld
                  clear hK K
                  try simp only [List.getElem_toArray, List.getElem_cons_zero, List.getElem_cons_succ, Act.put, List.setIfInBounds_toArray, List.set_cons_zero, List.set_cons_succ]
                  refine wpAnyH_ready (rs := [13]) (by kernel_rfl) (by simp) ?_
                  refine AllReadyH.cons rfl (fun K hK => ?_) AllReadyH.nil
                  refine step_append_lies _ (by rfl) _ _ _ (by rfl) B 3 j0 (.int .i64 0) 1 8 Try.underlying37 hJi.out hJz.out hJs.out hJb.out (by rfl) (by decide) (.slice Ai (S.td i).length ci) (S.td i).length (nv (S.td i)) (by rfl) (hownT.out _ rfl) ⟨w6.heap.size, 0, none⟩ 1 1 [.int .i64 (S.m : Int)] (by rfl) (by rfl) (hnewsT.out _ rfl) (by simp [Value.oneCell']) (by omega) (by unfold maxLen; omega) (by omega) (by simp; omega) (w6.heap.size + 1) (by simp) ?_
                  intro ga capa wa howna hgrowa hata hltga
                  have hgr : (w6.alloc (.cells #[.int .i64 (S.m : Int)] 3)).grownBy wa (Value.ownBlock (.slice Ai (S.td i).length ci)) := ⟨hgrowa.os, hgrowa.tape, hgrowa.output, hgrowa.size, hgrowa.block⟩
                  have e0 : wa.cell? ⟨B, i, none⟩ = some (.slice Ai (S.td i).length ci) := hgr.cell a0 (fun e => hneT.out e.symm)
                  have e1 : wa.cell? ⟨o, 1, none⟩ = some (.slice (some ⟨B, 0, none⟩) n n) := hgr.cell a1 (fun e => hneO.out e.symm)
                  have e2 : wa.cell? ⟨bm, 1, none⟩ = some (.int .i64 (i : Int)) := hgr.cell a2 (fun e => hneM.out e.symm)
                  have ef : wa.frozen? ⟨B, i, none⟩ = false := (World.frozen?_of_block (hgr.block B (by simp; omega) (fun e => hneT.out e.symm))).trans ((World.frozen?_of_block (Below.heap_alloc w6 _ B hltT)).trans fT)
                  have hk : ∀ v, (wa.setCell ⟨B, i, none⟩ v).cell? ⟨o, 1, none⟩ = some (.slice (some ⟨B, 0, none⟩) n n) ∧ (wa.setCell ⟨B, i, none⟩ v).cell? ⟨bm, 1, none⟩ = some (.int .i64 (i : Int)) := fun v => ⟨(World.cell?_setCell_other _ _ _ _ hoT).trans e1, (World.cell?_setCell_other _ _ _ _ hmT).trans e2⟩
                  refine hK.out _ _ ?_ (fun hHeld => ?_)
                  · exact ⟨e1, e2⟩
                  clear hK K
                  try simp only [List.getElem_toArray, List.getElem_cons_zero, List.getElem_cons_succ, Act.put, List.setIfInBounds_toArray, List.set_cons_zero, List.set_cons_succ]
                  refine take_dst (i := 14) (v := ?_) (some 65) rfl rfl (by kernel_rfl) (by kernel_rfl) (by kernel_rfl) hpan (Or.inl ⟨by rfl, ?_⟩) (by assumption) ?_
                  rotate_left
                  · (intro w hSw; (try dsimp only at hSw); first | (go_simp; done) | (go_simp; with_reducible rfl))
                  try simp only [List.getElem_toArray, List.getElem_cons_zero, List.getElem_cons_succ, Act.put, List.setIfInBounds_toArray, List.set_cons_zero, List.set_cons_succ]
                  refine wpAnyH_ready (rs := [15]) (by kernel_rfl) (by simp) ?_
                  refine AllReadyH.cons rfl (fun K hK => ?_) AllReadyH.nil
                  go_simp
                  refine hK.out _ _ ?_ (fun hHeld => ?_)
                  · exact hk _
                  clear hK K
                  try simp only [List.getElem_toArray, List.getElem_cons_zero, List.getElem_cons_succ, Act.put, List.setIfInBounds_toArray, List.set_cons_zero, List.set_cons_succ]
                  refine wpAnyH_done (by kernel_rfl) ?_ _
                  refine hQn _ _ ?_
                  clear hpan hQn
                  have hR8 : Hid (RC (wa.setCell ⟨B, i, none⟩ (.slice (some ⟨ga, 0, none⟩) ((S.td i).length + 1) capa)) B o B C n (S.m + 1) (up1 (up1 vs (2 * n + 1 + S.m) (.slice A5 L1.length c5)) i (.slice (some ⟨ga, 0, none⟩) ((S.td i).length + 1) capa)) (.slice Ac k cc) (.slice (some ⟨g6, 0, none⟩) (S.m + 1) cap6) (codesL n l k) (up1 (up1 (famF n S cm) (2 * n + 1 + S.m) (S.td i)) i (S.td i ++ [S.m]))) :=
                    (hR6.out.alloc (.cells #[.int .i64 (S.m : Int)] 3)).pushT hi (OwnN.push howna) (by rw [hvi6H.out]; exact hgr) (by rw [hvi6H.out]; rcases hata with h | h; exact .inl h.symm; exact .inr ⟨ga, rfl, by simp; omega⟩)
                  have hB8 : Hid (Below B w1 (wa.setCell ⟨B, i, none⟩ (.slice (some ⟨ga, 0, none⟩) ((S.td i).length + 1) capa))) :=
                    ((hB6.out.alloc hsz6 (.cells #[.int .i64 (S.m : Int)] 3)).grown hgr (by simp; omega) (fun j hj => (World.ownsRow.lt (hownT.out (w6.alloc (.cells #[.int .i64 (S.m : Int)] 3)) rfl) j hj).1)).setCell (p := ⟨B, i, none⟩) (Nat.le_refl _) _
                  have hy8 := (hk (.slice (some ⟨ga, 0, none⟩) ((S.td i).length + 1) capa)).2
                  have hltb8 : bm < (wa.setCell ⟨B, i, none⟩ (.slice (some ⟨ga, 0, none⟩) ((S.td i).length + 1) capa)).heap.size := by have := hgr.size; simp at this ⊢; omega
                  clear hk e0 e1 e2 ef hgr howna hgrowa hata hltga a0 a1 a2
                  generalize wa.setCell ⟨B, i, none⟩ (.slice (some ⟨ga, 0, none⟩) ((S.td i).length + 1) capa) = w8 at *
                  have hsz8 := hR8.out.sz
                  have hvb8 : Hid (up1 (up1 vs (2 * n + 1 + S.m) (.slice A5 L1.length c5)) i (.slice (some ⟨ga, 0, none⟩) ((S.td i).length + 1) capa) (2 * n) = .slice Ab S.m cb) := ((up1_other _ _ (by omega)).trans (up1_other _ _ (by omega))).trans hb1H.out
                  have hfb8 : Hid (up1 (up1 (famF n S cm) (2 * n + 1 + S.m) (S.td i)) i (S.td i ++ [S.m]) (2 * n) = byS S) := ((up1_other _ _ (by omega)).trans (up1_other _ _ (by omega))).trans famF_by
                  have hlby : Hid ((byS S).length = S.m) := byS_len S
                  have hown8 : Hid ((w8.alloc (.cells #[.int .i64 (i : Int)] 3)).ownsRow B 3 1 (.slice Ab S.m cb) S.m (nv (byS S))) := by
                    have := (hR8.out.alloc (.cells #[.int .i64 (i : Int)] 3)).fam.own (2 * n) (by omega)
                    rw [hvb8.out, hfb8.out] at this
                    unfold OwnN at this
                    rw [hlby.out] at this
                    exact this
                  have hnews8 : Hid (∀ j u, [Value.int .i64 (i : Int)][j]? = some u → (w8.alloc (.cells #[.int .i64 (i : Int)] 3)).cell? ((⟨w8.heap.size, 0, none⟩ : Addr).add j) = some u) := World.news_of_block (cs := #[.int .i64 (i : Int)]) (t := 3) (fr := (0, 0)) (heap_alloc_new w8 _)
                  go_wp2_with (first
                    | (at_builtin; refine wpList_append_lies _ rfl (.tmp 66) (.tmp 69) 37 rfl B 3 j0 (.int .i64 0) 1 8 Try.underlying37 hJi.out hJz.out hJs.out hJb.out rfl (by decide) (.slice Ab S.m cb) S.m (nv (byS S)) rfl hown8.out ⟨w8.heap.size, 0, none⟩ 1 1 [.int .i64 (i : Int)] rfl rfl hnews8.out (by simp [Value.oneCell']) (by omega) (by unfold maxLen; omega) (by omega) (by simp; omega) _ rfl ?_; intro gb capb wb hownb hgrb hatb hltb; have hownbH := Lib.hid hownb; have hgrbH := Lib.hid hgrb; have hatbH := Lib.hid hatb; clear hownb hgrb hatb hltb))
                  have hrelc : Hid (RcCut w1 B o B C n l k Ac cc (.slice (some ⟨gb, 0, none⟩) (S.m + 1) capb) (.slice (some ⟨g6, 0, none⟩) (S.m + 1) cap6) (.int .i64 0) wb) := by
                    have hob : OwnN wb B (.slice (some ⟨gb, 0, none⟩) (S.m + 1) capb) (byS S ++ [i]) := by
                      unfold OwnN
                      have e2 : nv (byS S ++ [i]) = nv (byS S) ++ [.int .i64 (i : Int)] := by simp [nv]
                      rw [e2, List.length_append, hlby.out]
                      exact hownbH.out
                    have hR9 := (hR8.out.alloc (.cells #[.int .i64 (i : Int)] 3)).pushB (w' := wb) hob (by rw [hvb8.out]; exact hgrbH.out) (by rw [hvb8.out]; rcases hatbH.out with h | h; exact .inl h.symm; exact .inr ⟨gb, rfl, by rw [h]; exact Nat.le_refl _⟩)
                    refine ⟨up1 (up1 (up1 vs (2 * n + 1 + S.m) (.slice A5 L1.length c5)) i (.slice (some ⟨ga, 0, none⟩) ((S.td i).length + 1) capa)) (2 * n) (.slice (some ⟨gb, 0, none⟩) (S.m + 1) capb), cm, ?_, (up1_same _ _ _).symm, ?_, fun j hj => Nat.le_trans (hlcH.out j hj) (Nat.le_succ _), ?_, by rw [hcd2.out]⟩
                    · rw [hst2.out]
                      exact hR9.congr (fun j hj => famF_tell hi j hj)
                    · rw [hst2.out]
                      exact CmI.tell hI.out hcmH.out i
                    · exact (hB8.out.alloc hsz8 _).grown hgrbH.out (by simp; omega) (fun j hj => (World.ownsRow.lt hown8.out j hj).1)
                  clear hownbH hgrbH hatbH hown8 hnews8 hR8 hB8
                  go_meet
                  case rel => exact hrelc.out
        · have e1 : (mk == 1) = false := by simp [hk1]
          by_cases hk2 : mk = 2
          · have e2 : (mk != 2) = false := by simp [hk2]
            by_cases ht0 : mt < 0
            · as_aux_lemma =>
                have hsS := Lib.hid (congrArg Prod.fst (stepC_arg2 (n := n) (S := cAt n l k) (m := ⟨mk, mf, mt, mv'⟩) hk2 (by simp only; omega)))
                have hsC := Lib.hid (congrArg Prod.snd (stepC_arg2 (n := n) (S := cAt n l k) (m := ⟨mk, mf, mt, mv'⟩) hk2 (by simp only; omega)))
                simp only at hsS hsC
                have hrelc : Hid (RcCut w1 B o B C n l k Ac cc (.slice Ab (cAt n l k).m cb) (.slice Ah (cAt n l k).m ch) (.int .i64 2) wm) := by
                  refine ⟨vs, cm, ?_, hb1H.out.symm, ?_, fun i hi => Nat.le_trans (hlcH.out i hi) (Nat.le_succ _), hBm.out, ?_⟩
                  · rw [hst.out, hsS.out]; exact hR2.out
                  · rw [hst.out, hsS.out]; exact hcmH.out
                  · rw [hcd.out, hsC.out]
                clear hsS hsC hst hcd hR2 hBm hcmH hlcH
                go_wp2_with fail
                go_meet
                case rel => exact hrelc.out
            · by_cases htn : (n : Int) ≤ mt
              · as_aux_lemma =>
                  have hsS := Lib.hid (congrArg Prod.fst (stepC_arg2 (n := n) (S := cAt n l k) (m := ⟨mk, mf, mt, mv'⟩) hk2 (by simp only; omega)))
                  have hsC := Lib.hid (congrArg Prod.snd (stepC_arg2 (n := n) (S := cAt n l k) (m := ⟨mk, mf, mt, mv'⟩) hk2 (by simp only; omega)))
                  simp only at hsS hsC
                  have hrelc : Hid (RcCut w1 B o B C n l k Ac cc (.slice Ab (cAt n l k).m cb) (.slice Ah (cAt n l k).m ch) (.int .i64 2) wm) := by
                    refine ⟨vs, cm, ?_, hb1H.out.symm, ?_, fun i hi => Nat.le_trans (hlcH.out i hi) (Nat.le_succ _), hBm.out, ?_⟩
                    · rw [hst.out, hsS.out]; exact hR2.out
                    · rw [hst.out, hsS.out]; exact hcmH.out
                    · rw [hcd.out, hsC.out]
                  clear hsS hsC hst hcd hR2 hBm hcmH hlcH
                  go_wp2_with fail
                  go_meet
                  case rel => exact hrelc.out
              · by_cases hv0 : mv' < 0
                · as_aux_lemma =>
                    have hsS := Lib.hid (congrArg Prod.fst (stepC_range (n := n) (S := cAt n l k) (m := ⟨mk, mf, mt, mv'⟩) hk2 (by simp only; omega) (.inl hv0)))
                    have hsC := Lib.hid (congrArg Prod.snd (stepC_range (n := n) (S := cAt n l k) (m := ⟨mk, mf, mt, mv'⟩) hk2 (by simp only; omega) (.inl hv0)))
                    simp only at hsS hsC
                    have hrelc : Hid (RcCut w1 B o B C n l k Ac cc (.slice Ab (cAt n l k).m cb) (.slice Ah (cAt n l k).m ch) (.int .i64 4) wm) := by
                      refine ⟨vs, cm, ?_, hb1H.out.symm, ?_, fun i hi => Nat.le_trans (hlcH.out i hi) (Nat.le_succ _), hBm.out, ?_⟩
                      · rw [hst.out, hsS.out]; exact hR2.out
                      · rw [hst.out, hsS.out]; exact hcmH.out
                      · rw [hcd.out, hsC.out]
                    clear hsS hsC hst hcd hR2 hBm hcmH hlcH
                    go_wp2_with fail
                    go_meet
                    case rel => exact hrelc.out
                · by_cases hvm : ((cAt n l k).m : Int) ≤ mv'
                  · as_aux_lemma =>
                      have hsS := Lib.hid (congrArg Prod.fst (stepC_range (n := n) (S := cAt n l k) (m := ⟨mk, mf, mt, mv'⟩) hk2 (by simp only; omega) (.inr hvm)))
                      have hsC := Lib.hid (congrArg Prod.snd (stepC_range (n := n) (S := cAt n l k) (m := ⟨mk, mf, mt, mv'⟩) hk2 (by simp only; omega) (.inr hvm)))
                      simp only at hsS hsC
                      have hrelc : Hid (RcCut w1 B o B C n l k Ac cc (.slice Ab (cAt n l k).m cb) (.slice Ah (cAt n l k).m ch) (.int .i64 4) wm) := by
                        refine ⟨vs, cm, ?_, hb1H.out.symm, ?_, fun i hi => Nat.le_trans (hlcH.out i hi) (Nat.le_succ _), hBm.out, ?_⟩
                        · rw [hst.out, hsS.out]; exact hR2.out
                        · rw [hst.out, hsS.out]; exact hcmH.out
                        · rw [hcd.out, hsC.out]
                      clear hsS hsC hst hcd hR2 hBm hcmH hlcH
                      go_wp2_with fail
                      go_meet
                      case rel => exact hrelc.out
                  · obtain ⟨i, hti⟩ := Int.eq_ofNat_of_zero_le (a := mt) (by omega)
                    obtain ⟨v, hvv⟩ := Int.eq_ofNat_of_zero_le (a := mv') (by omega)
                    subst hti hvv
                    have hi : i < n := by omega
                    have hv : v < (cAt n l k).m := by omega
                    have hst2 : Hid (cAt n l (k + 1) = (stepC n (cAt n l k) ⟨mk, mf, (i : Int), (v : Int)⟩).1) := hst
                    have hcd2 : Hid (codeC n l k = (stepC n (cAt n l k) ⟨mk, mf, (i : Int), (v : Int)⟩).2) := hcd
                    have hhold := Lib.hid (fun h => stepC_hold (n := n) (S := cAt n l k) (m := ⟨mk, mf, (i : Int), (v : Int)⟩) hk2 hi rfl hv rfl h)
                    have hcome := Lib.hid (fun h => stepC_come (n := n) (S := cAt n l k) (m := ⟨mk, mf, (i : Int), (v : Int)⟩) hk2 hi rfl hv rfl h)
                    have hiff := Lib.hid (hold_iff hI.out hcmH.out hi hv)
                    clear hst hcd
                    generalize cAt n l k = S at *
                    have hiI : (i : Int) < (n : Int) := by omega
                    have hvI : (v : Int) < (S.m : Int) := by omega
                    have hNb : Nums wm wm.heap.size Ab (zs (byS S)) := by
                      obtain ⟨A', c', e, _, _, hN⟩ := hR2.out.nums (j := 2 * n) (by omega)
                      rw [hb1H.out] at e
                      injection e with e1
                      rw [famF_by] at hN
                      rw [e1]; exact hN
                    obtain ⟨bb, ob, rfl, hbb, hcb⟩ := hNb (by rw [zs_len, byS_len]; omega)
                    have cb0 := hcb v (by rw [zs_len, byS_len]; exact hv)
                    have ecb : (zs (byS S))[v]'(by rw [zs_len, byS_len]; exact hv) = ((S.sd v : Nat) : Int) := by simp [zs, byS]
                    rw [ecb] at cb0
                    obtain ⟨Aq, cq, hvq, hq1, hq2, hNq⟩ := hR2.out.nums (j := n + i) (by omega)
                    rw [famF_cm hi] at hvq hq1 hNq
                    have cq0 := hR2.out.ccell hi
                    rw [hvq] at cq0
                    have hlq : (cm i).length ≤ 60 := by have := hlcH.out i hi; omega
                    have hvqH := Lib.hid hvq
                    have hNqH := Lib.hid hNq
                    clear hcb hNb ecb hvq hNq
                    by_cases hsd : S.sd v = i
                    · as_aux_lemma =>
                        have e3 : (((S.sd v : Nat) : Int) == (i : Int)) = true := by simp [hsd]
                        have hh := hiff.out.2 (.inl hsd)
                        have hsS := Lib.hid (congrArg Prod.fst (hhold.out hh))
                        have hsC := Lib.hid (congrArg Prod.snd (hhold.out hh))
                        simp only at hsS hsC
                        clear hh hhold hcome hiff
                        go_wp2_with fail
                        go_quiet (fail)
                        have hrelc : Hid (RcCut w1 B o B C n l k Ac cc (.slice (some ⟨bb, ob, none⟩) S.m cb) (.slice Ah S.m ch) (.int .i64 7) (wm.drewN nq)) := by
                          refine ⟨vs, cm, ?_, hb1H.out.symm, ?_, fun j hj => Nat.le_trans (hlcH.out j hj) (Nat.le_succ _), below_drewN hBm.out _, ?_⟩
                          · rw [hst2.out, hsS.out]; exact hR2.out.blocks fun _ _ _ => rfl
                          · rw [hst2.out, hsS.out]; exact hcmH.out
                          · rw [hcd2.out, hsC.out]
                        clear hsS hsC hst2 hcd2 hR2 hBm hcmH hlcH y0 y1 y2 y3 cb0 cq0
                        generalize wm.drewN nq = wn at *
                        go_wp2_with fail
                        go_meet
                        case rel => exact hrelc.out
                    · by_cases hin : v ∈ cm i
                      · as_aux_lemma =>
                          have e3 : (((S.sd v : Nat) : Int) == (i : Int)) = false := by simp; omega
                          have hh := hiff.out.2 (.inr hin)
                          have hq : Hid (∀ nq, Calls Try.prog 14 #[.slice Aq (cm i).length cq, .int .i64 (v : Int)] (wm.drewN nq) fun e w' => e = .returned (.bool true) ∧ w' = wm.drewN nq) := fun nq => by
                            have := hasL_any Aq cq (zs (cm i)) (v : Int) (wm.drewN nq) hNqH.out (by rw [zs_len]; omega) true ⟨fun _ => (zs_mem _ _).2 hin, fun _ => rfl⟩
                            rw [zs_len] at this
                            exact this.mono fun e w' h => ⟨h.1, h.2.symm⟩
                          have hsS := Lib.hid (congrArg Prod.fst (hhold.out hh))
                          have hsC := Lib.hid (congrArg Prod.snd (hhold.out hh))
                          simp only at hsS hsC
                          clear hh hhold hcome hiff
                          go_wp2_with fail
                          go_quiet ((go_at_call 14; exact Calls.quiet_of_same (hq.out _)))
                          have hrelc : Hid (RcCut w1 B o B C n l k Ac cc (.slice (some ⟨bb, ob, none⟩) S.m cb) (.slice Ah S.m ch) (.int .i64 7) (wm.drewN nq)) := by
                            refine ⟨vs, cm, ?_, hb1H.out.symm, ?_, fun j hj => Nat.le_trans (hlcH.out j hj) (Nat.le_succ _), below_drewN hBm.out _, ?_⟩
                            · rw [hst2.out, hsS.out]; exact hR2.out.blocks fun _ _ _ => rfl
                            · rw [hst2.out, hsS.out]; exact hcmH.out
                            · rw [hcd2.out, hsC.out]
                          clear hsS hsC hst2 hcd2 hR2 hBm hcmH hlcH y0 y1 y2 y3 cb0 cq0
                          generalize wm.drewN nq = wn at *
                          go_wp2_with fail
                          go_meet
                          case rel => exact hrelc.out
                      · as_aux_lemma =>
                          have e3 : (((S.sd v : Nat) : Int) == (i : Int)) = false := by simp; omega
                          have hnh : ¬ (v ∈ S.wt i ∨ v ∈ S.td i) := fun h => by
                            rcases hiff.out.1 h with h1 | h1
                            · exact hsd h1
                            · exact hin h1
                          have hq : Hid (∀ nq, Calls Try.prog 14 #[.slice Aq (cm i).length cq, .int .i64 (v : Int)] (wm.drewN nq) fun e w' => e = .returned (.bool false) ∧ w' = wm.drewN nq) := fun nq => by
                            have := hasL_any Aq cq (zs (cm i)) (v : Int) (wm.drewN nq) hNqH.out (by rw [zs_len]; omega) false ⟨fun h => absurd h (by decide), fun h => absurd ((zs_mem _ _).1 h) hin⟩
                            rw [zs_len] at this
                            exact this.mono fun e w' h => ⟨h.1, h.2.symm⟩
                          have hsS := congrArg Prod.fst (hcome.out hnh)
                          have hsC := congrArg Prod.snd (hcome.out hnh)
                          simp only at hsS hsC
                          have hst3 : Hid (cAt n l (k + 1) = S.come v i) := hst2.out.trans hsS
                          have hcd3 : Hid (codeC n l k = 0) := hcd2.out.trans hsC
                          have hPI : Hid (PI S.m S.bh (S.td i) (ins v (S.wt i))) := (hI.out.pi i).ins hv (fun h => hnh (.inl h)) (fun h => hnh (.inr h))
                          have hMI : Hid (MI S.sd i (cm i ++ [v]) (S.td i) (ins v (S.wt i))) := MI.start hI.out hcmH.out hi hsd
                          have hln : Hid ((S.td i).length + (ins v (S.wt i)).length ≤ 61) := by unfold Hid; rw [ins_len]; have := hlen.out i; omega
                          clear hnh hsS hsC hhold hcome hiff hst2 hcd2
                          go_wp2_with fail
                          go_quiet ((go_at_call 14; exact Calls.quiet_of_same (hq.out _)))
                          have hRq : Hid (RC (wm.drewN nq) B o B C n S.m vs (.slice Ac k cc) (.slice Ah S.m ch) (codesL n l k) (famF n S cm)) := hR2.out.blocks fun _ _ _ => rfl
                          have hBq : Hid (Below B w1 (wm.drewN nq)) := below_drewN hBm.out _
                          have hRowq : Hid (Row (wm.drewN nq) bm 39 [.int .i64 mk, .int .i64 mf, .int .i64 (i : Int), .int .i64 (v : Int)]) := hRowH.out
                          clear hR2 hBm hRowH hq hNqH y0 y1 y2 y3 cb0 cq0 hltbm hszm
                          generalize wm.drewN nq = wq at *
                          go_upto_region 23 with fail
                          go_cut [12] from 25 to 194 (fun _ wx => ComR w1 B o B C n S (codesL n l k) cm vs (.slice Ac k cc) (.slice Ah S.m ch) i v bm [.int .i64 mk, .int .i64 mf, .int .i64 (i : Int), .int .i64 (v : Int)] wx)
                          case first =>
                            have cq0 := hRq.out.ccell hi
                            rw [hvqH.out] at cq0
                            have y2 := hRowq.out.cell (i := 2) (by simp)
                            have y3 := hRowq.out.cell (i := 3) (by simp)
                            simp only [List.getElem_cons_zero, List.getElem_cons_succ] at y2 y3
                            have hltb := hRowq.out.lt
                            have hltC := hRq.out.come.lt
                            have hszq := hRq.out.sz
                            have fC : wq.frozen? ⟨C, i, none⟩ = false := hRq.out.come.frozen i
                            have hcmf : Hid (famF n S cm (n + i) = cm i) := famF_cm hi
                            have hownC : Hid (∀ w' : World, w'.heap = (wq.alloc (.cells #[.int .i64 (v : Int)] 3)).heap → w'.ownsRow B 3 1 (.slice Aq (cm i).length cq) (cm i).length (nv (cm i))) := fun w' e => owns_blocks (by have := hRq.out.fam.own (n + i) (by omega); rw [hvqH.out, hcmf.out] at this; exact this) (fun g _ hg => by rw [e]; exact Below.heap_alloc wq _ g hg)
                            have hnewsC : Hid (∀ w' : World, w'.heap = (wq.alloc (.cells #[.int .i64 (v : Int)] 3)).heap → ∀ j u, [Value.int .i64 (v : Int)][j]? = some u → w'.cell? ((⟨wq.heap.size, 0, none⟩ : Addr).add j) = some u) := fun w' e => World.news_of_block (cs := #[.int .i64 (v : Int)]) (t := 3) (fr := (0, 0)) (by rw [e]; exact heap_alloc_new wq _)
                            have hneC : Hid ((Value.slice Aq (cm i).length cq).ownBlock ≠ some C) := by have ho := hRq.out.fam.own (n + i) (by omega); rw [hvqH.out] at ho; exact owns_ne_row ho hRq.out.come (by decide)
                            have hneM : Hid ((Value.slice Aq (cm i).length cq).ownBlock ≠ some bm) := by have ho := hRq.out.fam.own (n + i) (by omega); rw [hvqH.out] at ho; exact owns_ne_row ho hRowq.out (by decide)
                            have hmC2 : (⟨C, i, none⟩ : Addr) ≠ ⟨bm, 2, none⟩ := fun e => hRq.out.come.ne hRowq.out (by decide) (by injection e)
                            have hmC3 : (⟨C, i, none⟩ : Addr) ≠ ⟨bm, 3, none⟩ := fun e => hRq.out.come.ne hRowq.out (by decide) (by injection e)
                            have a0 := cell_allocV (.cells #[.int .i64 (v : Int)] 3) cq0 hltC
                            have a2 := cell_allocV (.cells #[.int .i64 (v : Int)] 3) y2 hltb
                            have a3 := cell_allocV (.cells #[.int .i64 (v : Int)] 3) y3 hltb
                            refine held_letter (fun w' => w'.cell? ⟨bm, 2, none⟩ = some (.int .i64 (i : Int)) ∧ w'.cell? ⟨bm, 3, none⟩ = some (.int .i64 (v : Int))) (by kernel_rfl) (fun _ _ d _ _ h => by cases d <;> exact h) ?_ (fun Q hpan hQn hHeld => ?_)
                            · exact ⟨y2, y3⟩
                            refine take_dst (i := 0) (v := ?_) (some 111) rfl rfl (by kernel_rfl) (by kernel_rfl) (by kernel_rfl) hpan (Or.inl ⟨by rfl, ?_⟩) (by assumption) ?_
                            rotate_left
                            · (intro w hSw; (try dsimp only at hSw); first | (go_simp; done) | (go_simp; with_reducible rfl))
                            try simp only [List.getElem_toArray, List.getElem_cons_zero, List.getElem_cons_succ, Act.put, List.setIfInBounds_toArray, List.set_cons_zero, List.set_cons_succ]
                            refine take_dst (i := 1) (v := ?_) (some 112) rfl rfl (by kernel_rfl) (by kernel_rfl) (by kernel_rfl) hpan (Or.inl ⟨by rfl, ?_⟩) (by assumption) ?_
                            rotate_left
                            · (intro w hSw; (try dsimp only at hSw); first | (go_simp; done) | (go_simp; with_reducible rfl))
                            try simp only [List.getElem_toArray, List.getElem_cons_zero, List.getElem_cons_succ, Act.put, List.setIfInBounds_toArray, List.set_cons_zero, List.set_cons_succ]
                            refine take_dst (i := 2) (v := ?_) (some 113) rfl rfl (by kernel_rfl) (by kernel_rfl) (by kernel_rfl) hpan (Or.inl ⟨by rfl, ?_⟩) (by assumption) ?_
                            rotate_left
                            · (intro w hSw; (try dsimp only at hSw); first | (go_simp; done) | (go_simp; with_reducible rfl))
                            try simp only [List.getElem_toArray, List.getElem_cons_zero, List.getElem_cons_succ, Act.put, List.setIfInBounds_toArray, List.set_cons_zero, List.set_cons_succ]
                            refine take_dst (i := 3) (v := ?_) (some 114) rfl rfl (by kernel_rfl) (by kernel_rfl) (by kernel_rfl) hpan (Or.inl ⟨by rfl, ?_⟩) (by assumption) ?_
                            rotate_left
                            · (intro w hSw; (try dsimp only at hSw); first | (go_simp; done) | (go_simp; with_reducible rfl))
                            try simp only [List.getElem_toArray, List.getElem_cons_zero, List.getElem_cons_succ, Act.put, List.setIfInBounds_toArray, List.set_cons_zero, List.set_cons_succ]
                            refine take_dst (i := 4) (v := ?_) (some 115) rfl rfl (by kernel_rfl) (by kernel_rfl) (by kernel_rfl) hpan (Or.inl ⟨by rfl, ?_⟩) (by assumption) ?_
                            rotate_left
                            · (intro w hSw; (try dsimp only at hSw); first | (go_simp; done) | (go_simp; with_reducible rfl))
                            try simp only [List.getElem_toArray, List.getElem_cons_zero, List.getElem_cons_succ, Act.put, List.setIfInBounds_toArray, List.set_cons_zero, List.set_cons_succ]
                            refine take_dst (i := 5) (v := ?_) (some 116) rfl rfl (by kernel_rfl) (by kernel_rfl) (by kernel_rfl) hpan (Or.inl ⟨by rfl, ?_⟩) (by assumption) ?_
                            rotate_left
                            · (intro w hSw; (try dsimp only at hSw); first | (go_simp; done) | (go_simp; with_reducible rfl))
                            try simp only [List.getElem_toArray, List.getElem_cons_zero, List.getElem_cons_succ, Act.put, List.setIfInBounds_toArray, List.set_cons_zero, List.set_cons_succ]
                            refine take_dst (i := 6) (v := ?_) (some 117) rfl rfl (by kernel_rfl) (by kernel_rfl) (by kernel_rfl) hpan (Or.inl ⟨by rfl, ?_⟩) (by assumption) ?_
                            rotate_left
                            · (intro w hSw; (try dsimp only at hSw); first | (go_simp; done) | (go_simp; with_reducible rfl))
                            try simp only [List.getElem_toArray, List.getElem_cons_zero, List.getElem_cons_succ, Act.put, List.setIfInBounds_toArray, List.set_cons_zero, List.set_cons_succ]
                            refine take_dst (i := 8) (v := ?_) (some 119) rfl rfl (by kernel_rfl) (by kernel_rfl) (by kernel_rfl) hpan (Or.inl ⟨by rfl, ?_⟩) (by assumption) ?_
                            rotate_left
                            · (intro w hSw; (try dsimp only at hSw); first | (go_simp; done) | (go_simp; with_reducible rfl))
                            try simp only [List.getElem_toArray, List.getElem_cons_zero, List.getElem_cons_succ, Act.put, List.setIfInBounds_toArray, List.set_cons_zero, List.set_cons_succ]
                            refine take_dst (i := 9) (v := ?_) (some 120) rfl rfl (by kernel_rfl) (by kernel_rfl) (by kernel_rfl) hpan (Or.inl ⟨by rfl, ?_⟩) (by assumption) ?_
                            rotate_left
                            · (intro w hSw; (try dsimp only at hSw); first | (go_simp; done) | (go_simp; with_reducible rfl))
                            try simp only [List.getElem_toArray, List.getElem_cons_zero, List.getElem_cons_succ, Act.put, List.setIfInBounds_toArray, List.set_cons_zero, List.set_cons_succ]
                            refine wpAnyH_ready (rs := [7, 10]) (by kernel_rfl) (by simp) ?_
                            refine AllReadyH.cons rfl (fun K hK => ?_) (AllReadyH.cons rfl (fun K hK => ?_) AllReadyH.nil)
                            · go_simp
                              refine hK.out _ _ ?_ (fun hHeld => ?_)
                              · exact hHeld
                              clear hK K
                              try simp only [List.getElem_toArray, List.getElem_cons_zero, List.getElem_cons_succ, Act.put, List.setIfInBounds_toArray, List.set_cons_zero, List.set_cons_succ]
                              refine wpAnyH_ready (rs := [10]) (by kernel_rfl) (by simp) ?_
                              refine AllReadyH.cons rfl (fun K hK => ?_) AllReadyH.nil
                              go_simp
                              refine hK.out _ _ ?_ (fun hHeld => ?_)
                              · exact ⟨a2, a3⟩
                              clear hK K
                              try simp only [List.getElem_toArray, List.getElem_cons_zero, List.getElem_cons_succ, Act.put, List.setIfInBounds_toArray, List.set_cons_zero, List.set_cons_succ]
                              refine wpAnyH_ready (rs := [11]) (by kernel_rfl) (by simp) ?_
                              refine AllReadyH.cons rfl (fun K hK => ?_) AllReadyH.nil
                              refine step_append_lies _ (by rfl) _ _ _ (by rfl) B 3 j0 (.int .i64 0) 1 8 Try.underlying37 hJi.out hJz.out hJs.out hJb.out (by rfl) (by decide) (.slice Aq (cm i).length cq) (cm i).length (nv (cm i)) (by rfl) (hownC.out _ rfl) ⟨wq.heap.size, 0, none⟩ 1 1 [.int .i64 (v : Int)] (by rfl) (by rfl) (hnewsC.out _ rfl) (by simp [Value.oneCell']) (by omega) (by unfold maxLen; omega) (by omega) (by simp; omega) (wq.heap.size + 1) (by simp) ?_
                              intro ga capa wa howna hgrowa hata hltga
                              have hgr : (wq.alloc (.cells #[.int .i64 (v : Int)] 3)).grownBy wa (Value.ownBlock (.slice Aq (cm i).length cq)) := ⟨hgrowa.os, hgrowa.tape, hgrowa.output, hgrowa.size, hgrowa.block⟩
                              have e0 : wa.cell? ⟨C, i, none⟩ = some (.slice Aq (cm i).length cq) := hgr.cell a0 (fun e => hneC.out e.symm)
                              have e2 : wa.cell? ⟨bm, 2, none⟩ = some (.int .i64 (i : Int)) := hgr.cell a2 (fun e => hneM.out e.symm)
                              have e4 : wa.cell? ⟨bm, 3, none⟩ = some (.int .i64 (v : Int)) := hgr.cell a3 (fun e => hneM.out e.symm)
                              have ef : wa.frozen? ⟨C, i, none⟩ = false := (World.frozen?_of_block (hgr.block C (by simp; omega) (fun e => hneC.out e.symm))).trans ((World.frozen?_of_block (Below.heap_alloc wq _ C hltC)).trans fC)
                              have hk : ∀ u, (wa.setCell ⟨C, i, none⟩ u).cell? ⟨bm, 2, none⟩ = some (.int .i64 (i : Int)) ∧ (wa.setCell ⟨C, i, none⟩ u).cell? ⟨bm, 3, none⟩ = some (.int .i64 (v : Int)) := fun u => ⟨(World.cell?_setCell_other _ _ _ _ hmC2).trans e2, (World.cell?_setCell_other _ _ _ _ hmC3).trans e4⟩
                              refine hK.out _ _ ?_ (fun hHeld => ?_)
                              · exact ⟨e2, e4⟩
                              clear hK K
                              try simp only [List.getElem_toArray, List.getElem_cons_zero, List.getElem_cons_succ, Act.put, List.setIfInBounds_toArray, List.set_cons_zero, List.set_cons_succ]
                              refine take_dst (i := 12) (v := ?_) (some 123) rfl rfl (by kernel_rfl) (by kernel_rfl) (by kernel_rfl) hpan (Or.inl ⟨by rfl, ?_⟩) (by assumption) ?_
                              rotate_left
                              · (intro w hSw; (try dsimp only at hSw); first | (go_simp; done) | (go_simp; with_reducible rfl))
                              try simp only [List.getElem_toArray, List.getElem_cons_zero, List.getElem_cons_succ, Act.put, List.setIfInBounds_toArray, List.set_cons_zero, List.set_cons_succ]
                              refine wpAnyH_ready (rs := [13]) (by kernel_rfl) (by simp) ?_
                              refine AllReadyH.cons rfl (fun K hK => ?_) AllReadyH.nil
                              go_simp
                              refine hK.out _ _ ?_ (fun hHeld => ?_)
                              · exact hk _
                              clear hK K
                              try simp only [List.getElem_toArray, List.getElem_cons_zero, List.getElem_cons_succ, Act.put, List.setIfInBounds_toArray, List.set_cons_zero, List.set_cons_succ]
                              refine wpAnyH_done (by kernel_rfl) ?_ _
                              refine hQn _ _ ?_
                              clear hpan hQn
                              have hrelc : Hid (ComR w1 B o B C n S (codesL n l k) cm vs (.slice Ac k cc) (.slice Ah S.m ch) i v bm [.int .i64 mk, .int .i64 mf, .int .i64 (i : Int), .int .i64 (v : Int)] (wa.setCell ⟨C, i, none⟩ (.slice (some ⟨ga, 0, none⟩) ((cm i).length + 1) capa))) := by
                                have hRa := hRowq.out.alloc (.cells #[.int .i64 (v : Int)] 3)
                                refine ⟨.slice (some ⟨ga, 0, none⟩) ((cm i).length + 1) capa, ?_, ?_, ?_⟩
                                · exact ((hRq.out.alloc (.cells #[.int .i64 (v : Int)] 3)).pushC hi (OwnN.push howna) (by rw [hvqH.out]; exact hgr) (by rw [hvqH.out]; rcases hata with h | h; exact .inl h.symm; exact .inr ⟨ga, rfl, by simp; omega⟩)).congr (fun j _ => famF_come hi _ j)
                                · exact ((hBq.out.alloc hszq (.cells #[.int .i64 (v : Int)] 3)).grown hgr (by simp; omega) (fun j hj => (World.ownsRow.lt (hownC.out (wq.alloc (.cells #[.int .i64 (v : Int)] 3)) rfl) j hj).1)).setCell (p := ⟨C, i, none⟩) hRq.out.lC _
                                · exact (hRa.grown hgr (fun e => hneM.out e.symm)).far (fun e => hRq.out.come.ne hRowq.out (by decide) e.symm) _
                              clear hk e0 e2 e4 ef hgr howna hgrowa hata hltga a0 a2 a3
                              go_wp2_with fail
                              go_meet
                              case rel => exact hrelc.out
                            · go_simp
                              refine hK.out _ _ ?_ (fun hHeld => ?_)
                              · exact ⟨a2, a3⟩
                              clear hK K
                              try simp only [List.getElem_toArray, List.getElem_cons_zero, List.getElem_cons_succ, Act.put, List.setIfInBounds_toArray, List.set_cons_zero, List.set_cons_succ]
                              refine wpAnyH_ready (rs := [7]) (by kernel_rfl) (by simp) ?_
                              refine AllReadyH.cons rfl (fun K hK => ?_) AllReadyH.nil
                              go_simp
                              refine hK.out _ _ ?_ (fun hHeld => ?_)
                              · exact hHeld
                              clear hK K
                              try simp only [List.getElem_toArray, List.getElem_cons_zero, List.getElem_cons_succ, Act.put, List.setIfInBounds_toArray, List.set_cons_zero, List.set_cons_succ]
                              refine wpAnyH_ready (rs := [11]) (by kernel_rfl) (by simp) ?_
                              refine AllReadyH.cons rfl (fun K hK => ?_) AllReadyH.nil
                              refine step_append_lies _ (by rfl) _ _ _ (by rfl) B 3 j0 (.int .i64 0) 1 8 Try.underlying37 hJi.out hJz.out hJs.out hJb.out (by rfl) (by decide) (.slice Aq (cm i).length cq) (cm i).length (nv (cm i)) (by rfl) (hownC.out _ rfl) ⟨wq.heap.size, 0, none⟩ 1 1 [.int .i64 (v : Int)] (by rfl) (by rfl) (hnewsC.out _ rfl) (by simp [Value.oneCell']) (by omega) (by unfold maxLen; omega) (by omega) (by simp; omega) (wq.heap.size + 1) (by simp) ?_
                              intro ga capa wa howna hgrowa hata hltga
                              have hgr : (wq.alloc (.cells #[.int .i64 (v : Int)] 3)).grownBy wa (Value.ownBlock (.slice Aq (cm i).length cq)) := ⟨hgrowa.os, hgrowa.tape, hgrowa.output, hgrowa.size, hgrowa.block⟩
                              have e0 : wa.cell? ⟨C, i, none⟩ = some (.slice Aq (cm i).length cq) := hgr.cell a0 (fun e => hneC.out e.symm)
                              have e2 : wa.cell? ⟨bm, 2, none⟩ = some (.int .i64 (i : Int)) := hgr.cell a2 (fun e => hneM.out e.symm)
                              have e4 : wa.cell? ⟨bm, 3, none⟩ = some (.int .i64 (v : Int)) := hgr.cell a3 (fun e => hneM.out e.symm)
                              have ef : wa.frozen? ⟨C, i, none⟩ = false := (World.frozen?_of_block (hgr.block C (by simp; omega) (fun e => hneC.out e.symm))).trans ((World.frozen?_of_block (Below.heap_alloc wq _ C hltC)).trans fC)
                              have hk : ∀ u, (wa.setCell ⟨C, i, none⟩ u).cell? ⟨bm, 2, none⟩ = some (.int .i64 (i : Int)) ∧ (wa.setCell ⟨C, i, none⟩ u).cell? ⟨bm, 3, none⟩ = some (.int .i64 (v : Int)) := fun u => ⟨(World.cell?_setCell_other _ _ _ _ hmC2).trans e2, (World.cell?_setCell_other _ _ _ _ hmC3).trans e4⟩
                              refine hK.out _ _ ?_ (fun hHeld => ?_)
                              · exact ⟨e2, e4⟩
                              clear hK K
                              try simp only [List.getElem_toArray, List.getElem_cons_zero, List.getElem_cons_succ, Act.put, List.setIfInBounds_toArray, List.set_cons_zero, List.set_cons_succ]
                              refine take_dst (i := 12) (v := ?_) (some 123) rfl rfl (by kernel_rfl) (by kernel_rfl) (by kernel_rfl) hpan (Or.inl ⟨by rfl, ?_⟩) (by assumption) ?_
                              rotate_left
                              · (intro w hSw; (try dsimp only at hSw); first | (go_simp; done) | (go_simp; with_reducible rfl))
                              try simp only [List.getElem_toArray, List.getElem_cons_zero, List.getElem_cons_succ, Act.put, List.setIfInBounds_toArray, List.set_cons_zero, List.set_cons_succ]
                              refine wpAnyH_ready (rs := [13]) (by kernel_rfl) (by simp) ?_
                              refine AllReadyH.cons rfl (fun K hK => ?_) AllReadyH.nil
                              go_simp
                              refine hK.out _ _ ?_ (fun hHeld => ?_)
                              · exact hk _
                              clear hK K
                              try simp only [List.getElem_toArray, List.getElem_cons_zero, List.getElem_cons_succ, Act.put, List.setIfInBounds_toArray, List.set_cons_zero, List.set_cons_succ]
                              refine wpAnyH_done (by kernel_rfl) ?_ _
                              refine hQn _ _ ?_
                              clear hpan hQn
                              have hrelc : Hid (ComR w1 B o B C n S (codesL n l k) cm vs (.slice Ac k cc) (.slice Ah S.m ch) i v bm [.int .i64 mk, .int .i64 mf, .int .i64 (i : Int), .int .i64 (v : Int)] (wa.setCell ⟨C, i, none⟩ (.slice (some ⟨ga, 0, none⟩) ((cm i).length + 1) capa))) := by
                                have hRa := hRowq.out.alloc (.cells #[.int .i64 (v : Int)] 3)
                                refine ⟨.slice (some ⟨ga, 0, none⟩) ((cm i).length + 1) capa, ?_, ?_, ?_⟩
                                · exact ((hRq.out.alloc (.cells #[.int .i64 (v : Int)] 3)).pushC hi (OwnN.push howna) (by rw [hvqH.out]; exact hgr) (by rw [hvqH.out]; rcases hata with h | h; exact .inl h.symm; exact .inr ⟨ga, rfl, by simp; omega⟩)).congr (fun j _ => famF_come hi _ j)
                                · exact ((hBq.out.alloc hszq (.cells #[.int .i64 (v : Int)] 3)).grown hgr (by simp; omega) (fun j hj => (World.ownsRow.lt (hownC.out (wq.alloc (.cells #[.int .i64 (v : Int)] 3)) rfl) j hj).1)).setCell (p := ⟨C, i, none⟩) hRq.out.lC _
                                · exact (hRa.grown hgr (fun e => hneM.out e.symm)).far (fun e => hRq.out.come.ne hRowq.out (by decide) e.symm) _
                              clear hk e0 e2 e4 ef hgr howna hgrowa hata hltga a0 a2 a3
                              go_wp2_with fail
                              go_meet
                              case rel => exact hrelc.out
                          case rest =>
                            obtain ⟨v', hR8, hB8, hRow8⟩ := hcut
                            clear hRq hBq hRowq hvqH
                            obtain ⟨Ah', ch', eh, _, hgh⟩ := hR8.hshape
                            obtain ⟨gh, hA, _, _⟩ := hgh 0 (by omega)
                            have eA : Ah = some ⟨gh, 0, none⟩ := by injection eh with eh1; exact eh1.trans hA
                            subst eA
                            clear eh hA hgh
                            have hvb8 : up1 vs (n + i) v' (2 * n) = .slice (some ⟨bb, ob, none⟩) S.m cb := (up1_other _ _ (by omega)).trans hb1H.out
                            have hrel0 : Hid (DvR w1 B o B C n S (codesL n l k) cm (.slice (some ⟨bb, ob, none⟩) S.m cb) (.slice Ac k cc) (.slice (some ⟨gh, 0, none⟩) S.m ch) i v bm [.int .i64 mk, .int .i64 mf, .int .i64 (i : Int), .int .i64 (v : Int)] (ins v (S.wt i)).length wc) :=
                              ⟨S.td i, ins v (S.wt i), up1 vs (n + i) v', rfl, hR8.congr (fun j _ => famF_self n S _ i _ j), hvb8, hB8, hRow8, rfl, hPI.out, hMI.out, hln.out⟩
                            clear hR8 hB8 hRow8 hvb8 hPI hMI hln
                            go_wp2_with fail
                            go_loopg [12] (ins v (S.wt i)).length (fun g _ wr => DvR w1 B o B C n S (codesL n l k) cm (.slice (some ⟨bb, ob, none⟩) S.m cb) (.slice Ac k cc) (.slice (some ⟨gh, 0, none⟩) S.m ch) i v bm [.int .i64 mk, .int .i64 mf, .int .i64 (i : Int), .int .i64 (v : Int)] g wr)
                            case atStart => exact hrel0.out
                            case round =>
                              clear hrel0
                              obtain ⟨t, q, vs2, hqg, hR, hvb2, hB, hRow, hd, hp, hM, hln2⟩ := hrel
                              rename World => w5
                              obtain ⟨_, o1⟩ := hR.ocells
                              have y2 := hRow.cell (i := 2) (by simp)
                              simp only [List.getElem_cons_zero, List.getElem_cons_succ] at y2
                              have hfc : famF n (S.put i t q) (up1 cm i (cm i ++ [v])) (n + i) = cm i ++ [v] := (famF_cm hi).trans (up1_same _ _ _)
                              have hft : famF n (S.put i t q) (up1 cm i (cm i ++ [v])) i = t := (famF_td hi).trans (by rw [CS.put_td, if_pos rfl])
                              obtain ⟨A1, c1, hv1, _, _, hN1⟩ := hR.nums (j := n + i) (by omega)
                              rw [hfc] at hv1 hN1
                              obtain ⟨A2, c2, hv2, _, _, hN2⟩ := hR.nums (j := i) (by omega)
                              rw [hft] at hv2 hN2
                              have cc0 := hR.ccell hi
                              rw [hv1] at cc0
                              have tc0 := hR.tcell hi
                              rw [hv2] at tc0
                              have hbeh : Hid (∀ j, j < S.m → ∃ Aj cj, w5.cell? ⟨gh, j, none⟩ = some (.slice Aj (S.bh j).length cj) ∧ Nums w5 w5.heap.size Aj (zs (S.bh j))) := fun j hj => by
                                obtain ⟨A', c', e', _, hg'⟩ := hR.hshape
                                obtain ⟨g', hA', _, hce⟩ := hg' j hj
                                obtain ⟨Aj, cj, hvj, _, _, hNj⟩ := hR.nums (j := 2 * n + 1 + j) (by omega)
                                rw [famF_bh] at hvj hNj
                                have eg : gh = g' := by injection e' with e1; rw [hA'] at e1; injection e1 with e1; injection e1
                                rw [eg, hce, hvj]
                                exact ⟨Aj, cj, rfl, hNj⟩
                              have hbl : Hid (∀ j, j < S.m → (S.bh j).length ≤ 60) := fun j hj => by
                                have h1 := (List.getElem?_eq_some_iff.1 (hI.out.ow j hj).2).1
                                have h2 := hlen.out (S.sd j)
                                omega
                              have hmem : Hid (∀ j, (j ∈ cm i ++ [v] ∧ j ∉ t) ↔ j ∈ q) := fun j => hM.mem hp.ap j
                              have hlc : (cm i ++ [v]).length ≤ 61 := by rw [List.length_append]; simp; omega
                              have hlt2 : t.length ≤ 61 := by omega
                              have hRH := Lib.hid hR; have hvb2H := Lib.hid hvb2; have hBH := Lib.hid hB; have hRow2 := Lib.hid hRow; have hdH := Lib.hid hd; have hpH := Lib.hid hp; have hMH := Lib.hid hM; have hqgH := Lib.hid hqg; have hln3 := Lib.hid hln2
                              have hv2H := Lib.hid hv2; have hftH := Lib.hid hft; have hN1H := Lib.hid hN1; have hN2H := Lib.hid hN2
                              clear hR hvb2 hB hRow hd hp hM hqg hln2 hv1 hv2 hfc hft hN1 hN2
                              have hc1 : Hid (∀ (x : Nat) (D : Bool), (D = true ↔ x ∈ cm i ++ [v]) → Calls Try.prog 14 #[.slice A1 (cm i ++ [v]).length c1, .int .i64 (x : Int)] w5 fun e w' => e = .returned (.bool D) ∧ w5 = w') := fun x D h => by
                                have := hasL_any A1 c1 (zs (cm i ++ [v])) (x : Int) w5 hN1H.out (by rw [zs_len]; omega) D (by unfold Hid; rw [zs_mem]; exact h)
                                rw [zs_len] at this
                                exact this
                              have hc2 : Hid (∀ (x : Nat) (D : Bool), (D = true ↔ x ∈ t) → Calls Try.prog 14 #[.slice A2 t.length c2, .int .i64 (x : Int)] w5 fun e w' => e = .returned (.bool D) ∧ w5 = w') := fun x D h => by
                                have := hasL_any A2 c2 (zs t) (x : Int) w5 hN2H.out (by rw [zs_len]; omega) D (by unfold Hid; rw [zs_mem]; exact h)
                                rw [zs_len] at this
                                exact this
                              generalize hcl : cm i ++ [v] = cL at *
                              have hclL := Lib.hid hcl
                              clear hcl
                              go_wp2_with fail
                              go_loopg [12, 13] S.m (fun j r tj wx => j ≤ S.m ∧ tj = .int .i64 ((j : Int) - 1) ∧ wx = w5 ∧ ∃ rr : Int, r = .int .i64 rr ∧ Hid (NextIs (pk S.bh t q) S.m j rr))
                              case atStart => exact ⟨Nat.le_refl _, by go_num, rfl, -1, rfl, NextIs.start _ _⟩
                              case round =>
                                obtain ⟨hjm, rfl, hwx, rr, rfl, hN⟩ := hrel
                                subst hwx
                                have hrng := hN.out.range
                                obtain ⟨hr1, hr2⟩ := hrng
                                by_cases h0 : gk = 0
                                · have eg : ((gk : Nat) : Int) - 1 = -1 := by omega
                                  rw [eg]
                                  rw [h0] at hN
                                  clear eg
                                  by_cases hrn : rr < 0
                                  · as_aux_lemma =>
                                      have hnone := next_none hN.out hrn hpH.out.ql
                                      have hdd : dlv S.bh (S.td i) (ins v (S.wt i)) = (t, q) := hdH.out.symm.trans (dlv_none hnone)
                                      have hrelc : Hid (RcCut w1 B o B C n l k Ac cc (.slice (some ⟨bb, ob, none⟩) S.m cb) (.slice (some ⟨gh, 0, none⟩) S.m ch) (.int .i64 0) wr) := by
                                        have hS' : cAt n l (k + 1) = S.put i t q := by
                                          rw [hst3.out]
                                          unfold CS.come
                                          rw [hdd]
                                        refine ⟨vs2, up1 cm i cL, ?_, hvb2H.out.symm, ?_, fun j hj => ?_, hBH.out, by rw [hcd3.out]⟩
                                        · rw [hS']
                                          exact hRH.out
                                        · rw [hS']
                                          exact hcmH.out.put hMH.out
                                        · unfold up1
                                          split
                                          · rw [← hclL.out, List.length_append]; simp; exact hlcH.out i hi
                                          · exact Nat.le_trans (hlcH.out j hj) (Nat.le_succ _)
                                      clear hnone hdd hN
                                      go_wp2_with fail
                                      go_meet
                                      case rel => exact hrelc.out
                                  · as_aux_lemma =>
                                      obtain ⟨c, hrc, hcm2, hds⟩ := next_some hN.out hrn hpH.out.so
                                      subst hrc
                                      have hdsH := Lib.hid hds
                                      clear hds hN hrn
                                      have hltb := hRow2.out.lt
                                      have hltO := hRH.out.out.lt
                                      have hltT := hRH.out.told.lt
                                      have hsz5 := hRH.out.sz
                                      have fT : wr.frozen? ⟨B, i, none⟩ = false := hRH.out.told.frozen i
                                      have hownT : Hid (∀ w' : World, w'.heap = (wr.alloc (.cells #[.int .i64 (c : Int)] 3)).heap → w'.ownsRow B 3 1 (.slice A2 t.length c2) t.length (nv t)) := fun w' e => owns_blocks (by have := hRH.out.fam.own i (by omega); rw [hv2H.out, hftH.out] at this; exact this) (fun g _ hg => by rw [e]; exact Below.heap_alloc wr _ g hg)
                                      have hnewsT : Hid (∀ w' : World, w'.heap = (wr.alloc (.cells #[.int .i64 (c : Int)] 3)).heap → ∀ j u, [Value.int .i64 (c : Int)][j]? = some u → w'.cell? ((⟨wr.heap.size, 0, none⟩ : Addr).add j) = some u) := fun w' e => World.news_of_block (cs := #[.int .i64 (c : Int)]) (t := 3) (fr := (0, 0)) (by rw [e]; exact heap_alloc_new wr _)
                                      have hneT : Hid ((Value.slice A2 t.length c2).ownBlock ≠ some B) := by have ho := hRH.out.fam.own i (by omega); rw [hv2H.out] at ho; exact owns_ne_row ho hRH.out.told (by decide)
                                      have hneO : Hid ((Value.slice A2 t.length c2).ownBlock ≠ some o) := by have ho := hRH.out.fam.own i (by omega); rw [hv2H.out] at ho; exact owns_ne_row ho hRH.out.out (by decide)
                                      have hneM : Hid ((Value.slice A2 t.length c2).ownBlock ≠ some bm) := by have ho := hRH.out.fam.own i (by omega); rw [hv2H.out] at ho; exact owns_ne_row ho hRow2.out (by decide)
                                      have hoT : (⟨B, i, none⟩ : Addr) ≠ ⟨o, 1, none⟩ := fun e => hRH.out.told.ne hRH.out.out (by decide) (by injection e)
                                      have hmT : (⟨B, i, none⟩ : Addr) ≠ ⟨bm, 2, none⟩ := fun e => hRH.out.told.ne hRow2.out (by decide) (by injection e)
                                      have a0 := cell_allocV (.cells #[.int .i64 (c : Int)] 3) tc0 hltT
                                      have a1 := cell_allocV (.cells #[.int .i64 (c : Int)] 3) o1 hltO
                                      have a2 := cell_allocV (.cells #[.int .i64 (c : Int)] 3) y2 hltb
                                      go_wp2_with fail
                                      refine held_letter (fun w' => w'.cell? ⟨o, 1, none⟩ = some (.slice (some ⟨B, 0, none⟩) n n) ∧ w'.cell? ⟨bm, 2, none⟩ = some (.int .i64 (i : Int))) (by kernel_rfl) (fun _ _ d _ _ h => by cases d <;> exact h) ?_ (fun Q hpan hQn hHeld => ?_)
                                      · exact ⟨o1, y2⟩
                                      refine take_dst (i := 0) (v := ?_) (some 174) rfl rfl (by kernel_rfl) (by kernel_rfl) (by kernel_rfl) hpan (Or.inl ⟨by rfl, ?_⟩) (by assumption) ?_
                                      rotate_left
                                      · (intro w hSw; (try dsimp only at hSw); first | (go_simp; done) | (go_simp; with_reducible rfl))
                                      try simp only [List.getElem_toArray, List.getElem_cons_zero, List.getElem_cons_succ, Act.put, List.setIfInBounds_toArray, List.set_cons_zero, List.set_cons_succ]
                                      refine take_dst (i := 1) (v := ?_) (some 175) rfl rfl (by kernel_rfl) (by kernel_rfl) (by kernel_rfl) hpan (Or.inl ⟨by rfl, ?_⟩) (by assumption) ?_
                                      rotate_left
                                      · (intro w hSw; (try dsimp only at hSw); first | (go_simp; done) | (go_simp; with_reducible rfl))
                                      try simp only [List.getElem_toArray, List.getElem_cons_zero, List.getElem_cons_succ, Act.put, List.setIfInBounds_toArray, List.set_cons_zero, List.set_cons_succ]
                                      refine take_dst (i := 2) (v := ?_) (some 176) rfl rfl (by kernel_rfl) (by kernel_rfl) (by kernel_rfl) hpan (Or.inl ⟨by rfl, ?_⟩) (by assumption) ?_
                                      rotate_left
                                      · (intro w hSw; (try dsimp only at hSw); first | (go_simp; done) | (go_simp; with_reducible rfl))
                                      try simp only [List.getElem_toArray, List.getElem_cons_zero, List.getElem_cons_succ, Act.put, List.setIfInBounds_toArray, List.set_cons_zero, List.set_cons_succ]
                                      refine take_dst (i := 3) (v := ?_) (some 177) rfl rfl (by kernel_rfl) (by kernel_rfl) (by kernel_rfl) hpan (Or.inl ⟨by rfl, ?_⟩) (by assumption) ?_
                                      rotate_left
                                      · (intro w hSw; (try dsimp only at hSw); first | (go_simp; done) | (go_simp; with_reducible rfl))
                                      try simp only [List.getElem_toArray, List.getElem_cons_zero, List.getElem_cons_succ, Act.put, List.setIfInBounds_toArray, List.set_cons_zero, List.set_cons_succ]
                                      refine take_dst (i := 4) (v := ?_) (some 178) rfl rfl (by kernel_rfl) (by kernel_rfl) (by kernel_rfl) hpan (Or.inl ⟨by rfl, ?_⟩) (by assumption) ?_
                                      rotate_left
                                      · (intro w hSw; (try dsimp only at hSw); first | (go_simp; done) | (go_simp; with_reducible rfl))
                                      try simp only [List.getElem_toArray, List.getElem_cons_zero, List.getElem_cons_succ, Act.put, List.setIfInBounds_toArray, List.set_cons_zero, List.set_cons_succ]
                                      refine take_dst (i := 5) (v := ?_) (some 179) rfl rfl (by kernel_rfl) (by kernel_rfl) (by kernel_rfl) hpan (Or.inl ⟨by rfl, ?_⟩) (by assumption) ?_
                                      rotate_left
                                      · (intro w hSw; (try dsimp only at hSw); first | (go_simp; done) | (go_simp; with_reducible rfl))
                                      try simp only [List.getElem_toArray, List.getElem_cons_zero, List.getElem_cons_succ, Act.put, List.setIfInBounds_toArray, List.set_cons_zero, List.set_cons_succ]
                                      refine take_dst (i := 6) (v := ?_) (some 180) rfl rfl (by kernel_rfl) (by kernel_rfl) (by kernel_rfl) hpan (Or.inl ⟨by rfl, ?_⟩) (by assumption) ?_
                                      rotate_left
                                      · (intro w hSw; (try dsimp only at hSw); first | (go_simp; done) | (go_simp; with_reducible rfl))
                                      try simp only [List.getElem_toArray, List.getElem_cons_zero, List.getElem_cons_succ, Act.put, List.setIfInBounds_toArray, List.set_cons_zero, List.set_cons_succ]
                                      refine take_dst (i := 7) (v := ?_) (some 181) rfl rfl (by kernel_rfl) (by kernel_rfl) (by kernel_rfl) hpan (Or.inl ⟨by rfl, ?_⟩) (by assumption) ?_
                                      rotate_left
                                      · (intro w hSw; (try dsimp only at hSw); first | (go_simp; done) | (go_simp; with_reducible rfl))
                                      try simp only [List.getElem_toArray, List.getElem_cons_zero, List.getElem_cons_succ, Act.put, List.setIfInBounds_toArray, List.set_cons_zero, List.set_cons_succ]
                                      refine take_dst (i := 8) (v := ?_) (some 182) rfl rfl (by kernel_rfl) (by kernel_rfl) (by kernel_rfl) hpan (Or.inl ⟨by rfl, ?_⟩) (by assumption) ?_
                                      rotate_left
                                      · (intro w hSw; (try dsimp only at hSw); first | (go_simp; done) | (go_simp; with_reducible rfl))
                                      try simp only [List.getElem_toArray, List.getElem_cons_zero, List.getElem_cons_succ, Act.put, List.setIfInBounds_toArray, List.set_cons_zero, List.set_cons_succ]
                                      refine take_dst (i := 10) (v := ?_) (some 184) rfl rfl (by kernel_rfl) (by kernel_rfl) (by kernel_rfl) hpan (Or.inl ⟨by rfl, ?_⟩) (by assumption) ?_
                                      rotate_left
                                      · (intro w hSw; (try dsimp only at hSw); first | (go_simp; done) | (go_simp; with_reducible rfl))
                                      try simp only [List.getElem_toArray, List.getElem_cons_zero, List.getElem_cons_succ, Act.put, List.setIfInBounds_toArray, List.set_cons_zero, List.set_cons_succ]
                                      refine wpAnyH_ready (rs := [9, 11]) (by kernel_rfl) (by simp) ?_
                                      refine AllReadyH.cons rfl (fun K hK => ?_) (AllReadyH.cons rfl (fun K hK => ?_) AllReadyH.nil)
                                      · go_simp
                                        refine hK.out _ _ ?_ (fun hHeld => ?_)
                                        · exact hHeld
                                        clear hK K
                                        try simp only [List.getElem_toArray, List.getElem_cons_zero, List.getElem_cons_succ, Act.put, List.setIfInBounds_toArray, List.set_cons_zero, List.set_cons_succ]
                                        refine wpAnyH_ready (rs := [11]) (by kernel_rfl) (by simp) ?_
                                        refine AllReadyH.cons rfl (fun K hK => ?_) AllReadyH.nil
                                        go_simp
                                        refine hK.out _ _ ?_ (fun hHeld => ?_)
                                        · exact ⟨a1, a2⟩
                                        clear hK K
                                        try simp only [List.getElem_toArray, List.getElem_cons_zero, List.getElem_cons_succ, Act.put, List.setIfInBounds_toArray, List.set_cons_zero, List.set_cons_succ]
                                        refine wpAnyH_ready (rs := [12]) (by kernel_rfl) (by simp) ?_
                                        refine AllReadyH.cons rfl (fun K hK => ?_) AllReadyH.nil
                                        refine step_append_lies _ (by rfl) _ _ _ (by rfl) B 3 j0 (.int .i64 0) 1 8 Try.underlying37 hJi.out hJz.out hJs.out hJb.out (by rfl) (by decide) (.slice A2 t.length c2) t.length (nv t) (by rfl) (hownT.out _ rfl) ⟨wr.heap.size, 0, none⟩ 1 1 [.int .i64 (c : Int)] (by rfl) (by rfl) (hnewsT.out _ rfl) (by simp [Value.oneCell']) (by omega) (by unfold maxLen; omega) (by omega) (by simp; omega) (wr.heap.size + 1) (by simp) ?_
                                        intro ga capa wa howna hgrowa hata hltga
                                        have hgr : (wr.alloc (.cells #[.int .i64 (c : Int)] 3)).grownBy wa (Value.ownBlock (.slice A2 t.length c2)) := ⟨hgrowa.os, hgrowa.tape, hgrowa.output, hgrowa.size, hgrowa.block⟩
                                        have e0 : wa.cell? ⟨B, i, none⟩ = some (.slice A2 t.length c2) := hgr.cell a0 (fun e => hneT.out e.symm)
                                        have e1 : wa.cell? ⟨o, 1, none⟩ = some (.slice (some ⟨B, 0, none⟩) n n) := hgr.cell a1 (fun e => hneO.out e.symm)
                                        have e2 : wa.cell? ⟨bm, 2, none⟩ = some (.int .i64 (i : Int)) := hgr.cell a2 (fun e => hneM.out e.symm)
                                        have ef : wa.frozen? ⟨B, i, none⟩ = false := (World.frozen?_of_block (hgr.block B (by simp; omega) (fun e => hneT.out e.symm))).trans ((World.frozen?_of_block (Below.heap_alloc wr _ B hltT)).trans fT)
                                        have hk : ∀ u, (wa.setCell ⟨B, i, none⟩ u).cell? ⟨o, 1, none⟩ = some (.slice (some ⟨B, 0, none⟩) n n) ∧ (wa.setCell ⟨B, i, none⟩ u).cell? ⟨bm, 2, none⟩ = some (.int .i64 (i : Int)) := fun u => ⟨(World.cell?_setCell_other _ _ _ _ hoT).trans e1, (World.cell?_setCell_other _ _ _ _ hmT).trans e2⟩
                                        refine hK.out _ _ ?_ (fun hHeld => ?_)
                                        · exact ⟨e1, e2⟩
                                        clear hK K
                                        try simp only [List.getElem_toArray, List.getElem_cons_zero, List.getElem_cons_succ, Act.put, List.setIfInBounds_toArray, List.set_cons_zero, List.set_cons_succ]
                                        refine take_dst (i := 13) (v := ?_) (some 187) rfl rfl (by kernel_rfl) (by kernel_rfl) (by kernel_rfl) hpan (Or.inl ⟨by rfl, ?_⟩) (by assumption) ?_
                                        rotate_left
                                        · (intro w hSw; (try dsimp only at hSw); first | (go_simp; done) | (go_simp; with_reducible rfl))
                                        try simp only [List.getElem_toArray, List.getElem_cons_zero, List.getElem_cons_succ, Act.put, List.setIfInBounds_toArray, List.set_cons_zero, List.set_cons_succ]
                                        refine wpAnyH_ready (rs := [14]) (by kernel_rfl) (by simp) ?_
                                        refine AllReadyH.cons rfl (fun K hK => ?_) AllReadyH.nil
                                        go_simp
                                        refine hK.out _ _ ?_ (fun hHeld => ?_)
                                        · exact hk _
                                        clear hK K
                                        try simp only [List.getElem_toArray, List.getElem_cons_zero, List.getElem_cons_succ, Act.put, List.setIfInBounds_toArray, List.set_cons_zero, List.set_cons_succ]
                                        refine wpAnyH_done (by kernel_rfl) ?_ _
                                        refine hQn _ _ ?_
                                        clear hpan hQn
                                        have hlx := List.length_erase_of_mem (dstep_some hdsH.out).1
                                        have hlp := List.length_pos_of_mem (dstep_some hdsH.out).1
                                        have hrel6 : Hid (DvR w1 B o B C n S (codesL n l k) cm (.slice (some ⟨bb, ob, none⟩) S.m cb) (.slice Ac k cc) (.slice (some ⟨gh, 0, none⟩) S.m ch) i v bm [.int .i64 mk, .int .i64 mf, .int .i64 (i : Int), .int .i64 (v : Int)] (q.erase c).length (wa.setCell ⟨B, i, none⟩ (.slice (some ⟨ga, 0, none⟩) (t.length + 1) capa))) := by
                                          have hRa := hRow2.out.alloc (.cells #[.int .i64 (c : Int)] 3)
                                          refine ⟨t ++ [c], q.erase c, up1 vs2 i (.slice (some ⟨ga, 0, none⟩) (t.length + 1) capa), rfl, ?_, (up1_other _ _ (by omega)).trans hvb2H.out, ?_, ?_, (dlv_some hdsH.out).symm.trans hdH.out, hpH.out.step hdsH.out, ?_, ?_⟩
                                          · rw [hclL.out]
                                            exact ((hRH.out.alloc (.cells #[.int .i64 (c : Int)] 3)).pushT hi (OwnN.push howna) (by rw [hv2H.out]; exact hgr) (by rw [hv2H.out]; rcases hata with h | h; exact .inl h.symm; exact .inr ⟨ga, rfl, by simp; omega⟩)).congr (fun j _ => (famF_put hi (t ++ [c]) (q.erase c) j).trans (by rw [CS.put2]))
                                          · exact ((hBH.out.alloc hsz5 (.cells #[.int .i64 (c : Int)] 3)).grown hgr (by simp; omega) (fun j hj => (World.ownsRow.lt (hownT.out (wr.alloc (.cells #[.int .i64 (c : Int)] 3)) rfl) j hj).1)).setCell (p := ⟨B, i, none⟩) (Nat.le_refl _) _
                                          · exact (hRa.grown hgr (fun e => hneM.out e.symm)).far (fun e => hRH.out.told.ne hRow2.out (by decide) e.symm) _
                                          · rw [hclL.out]
                                            exact hMH.out.step (sorted_nodup hpH.out.so) hdsH.out
                                          · have := hln3.out
                                            rw [List.length_append, List.length_singleton]; omega
                                        clear hk e0 e1 e2 ef hgr howna hgrowa hata hltga a0 a1 a2
                                        go_wp2_with fail
                                        go_roundg (q.erase c).length
                                        case measure => rw [← hqgH.out, hlx]; omega
                                        case rel => exact hrel6.out
                                      · go_simp
                                        refine hK.out _ _ ?_ (fun hHeld => ?_)
                                        · exact ⟨a1, a2⟩
                                        clear hK K
                                        try simp only [List.getElem_toArray, List.getElem_cons_zero, List.getElem_cons_succ, Act.put, List.setIfInBounds_toArray, List.set_cons_zero, List.set_cons_succ]
                                        refine wpAnyH_ready (rs := [9]) (by kernel_rfl) (by simp) ?_
                                        refine AllReadyH.cons rfl (fun K hK => ?_) AllReadyH.nil
                                        go_simp
                                        refine hK.out _ _ ?_ (fun hHeld => ?_)
                                        · exact hHeld
                                        clear hK K
                                        try simp only [List.getElem_toArray, List.getElem_cons_zero, List.getElem_cons_succ, Act.put, List.setIfInBounds_toArray, List.set_cons_zero, List.set_cons_succ]
                                        refine wpAnyH_ready (rs := [12]) (by kernel_rfl) (by simp) ?_
                                        refine AllReadyH.cons rfl (fun K hK => ?_) AllReadyH.nil
                                        refine step_append_lies _ (by rfl) _ _ _ (by rfl) B 3 j0 (.int .i64 0) 1 8 Try.underlying37 hJi.out hJz.out hJs.out hJb.out (by rfl) (by decide) (.slice A2 t.length c2) t.length (nv t) (by rfl) (hownT.out _ rfl) ⟨wr.heap.size, 0, none⟩ 1 1 [.int .i64 (c : Int)] (by rfl) (by rfl) (hnewsT.out _ rfl) (by simp [Value.oneCell']) (by omega) (by unfold maxLen; omega) (by omega) (by simp; omega) (wr.heap.size + 1) (by simp) ?_
                                        intro ga capa wa howna hgrowa hata hltga
                                        have hgr : (wr.alloc (.cells #[.int .i64 (c : Int)] 3)).grownBy wa (Value.ownBlock (.slice A2 t.length c2)) := ⟨hgrowa.os, hgrowa.tape, hgrowa.output, hgrowa.size, hgrowa.block⟩
                                        have e0 : wa.cell? ⟨B, i, none⟩ = some (.slice A2 t.length c2) := hgr.cell a0 (fun e => hneT.out e.symm)
                                        have e1 : wa.cell? ⟨o, 1, none⟩ = some (.slice (some ⟨B, 0, none⟩) n n) := hgr.cell a1 (fun e => hneO.out e.symm)
                                        have e2 : wa.cell? ⟨bm, 2, none⟩ = some (.int .i64 (i : Int)) := hgr.cell a2 (fun e => hneM.out e.symm)
                                        have ef : wa.frozen? ⟨B, i, none⟩ = false := (World.frozen?_of_block (hgr.block B (by simp; omega) (fun e => hneT.out e.symm))).trans ((World.frozen?_of_block (Below.heap_alloc wr _ B hltT)).trans fT)
                                        have hk : ∀ u, (wa.setCell ⟨B, i, none⟩ u).cell? ⟨o, 1, none⟩ = some (.slice (some ⟨B, 0, none⟩) n n) ∧ (wa.setCell ⟨B, i, none⟩ u).cell? ⟨bm, 2, none⟩ = some (.int .i64 (i : Int)) := fun u => ⟨(World.cell?_setCell_other _ _ _ _ hoT).trans e1, (World.cell?_setCell_other _ _ _ _ hmT).trans e2⟩
                                        refine hK.out _ _ ?_ (fun hHeld => ?_)
                                        · exact ⟨e1, e2⟩
                                        clear hK K
                                        try simp only [List.getElem_toArray, List.getElem_cons_zero, List.getElem_cons_succ, Act.put, List.setIfInBounds_toArray, List.set_cons_zero, List.set_cons_succ]
                                        refine take_dst (i := 13) (v := ?_) (some 187) rfl rfl (by kernel_rfl) (by kernel_rfl) (by kernel_rfl) hpan (Or.inl ⟨by rfl, ?_⟩) (by assumption) ?_
                                        rotate_left
                                        · (intro w hSw; (try dsimp only at hSw); first | (go_simp; done) | (go_simp; with_reducible rfl))
                                        try simp only [List.getElem_toArray, List.getElem_cons_zero, List.getElem_cons_succ, Act.put, List.setIfInBounds_toArray, List.set_cons_zero, List.set_cons_succ]
                                        refine wpAnyH_ready (rs := [14]) (by kernel_rfl) (by simp) ?_
                                        refine AllReadyH.cons rfl (fun K hK => ?_) AllReadyH.nil
                                        go_simp
                                        refine hK.out _ _ ?_ (fun hHeld => ?_)
                                        · exact hk _
                                        clear hK K
                                        try simp only [List.getElem_toArray, List.getElem_cons_zero, List.getElem_cons_succ, Act.put, List.setIfInBounds_toArray, List.set_cons_zero, List.set_cons_succ]
                                        refine wpAnyH_done (by kernel_rfl) ?_ _
                                        refine hQn _ _ ?_
                                        clear hpan hQn
                                        have hlx := List.length_erase_of_mem (dstep_some hdsH.out).1
                                        have hlp := List.length_pos_of_mem (dstep_some hdsH.out).1
                                        have hrel6 : Hid (DvR w1 B o B C n S (codesL n l k) cm (.slice (some ⟨bb, ob, none⟩) S.m cb) (.slice Ac k cc) (.slice (some ⟨gh, 0, none⟩) S.m ch) i v bm [.int .i64 mk, .int .i64 mf, .int .i64 (i : Int), .int .i64 (v : Int)] (q.erase c).length (wa.setCell ⟨B, i, none⟩ (.slice (some ⟨ga, 0, none⟩) (t.length + 1) capa))) := by
                                          have hRa := hRow2.out.alloc (.cells #[.int .i64 (c : Int)] 3)
                                          refine ⟨t ++ [c], q.erase c, up1 vs2 i (.slice (some ⟨ga, 0, none⟩) (t.length + 1) capa), rfl, ?_, (up1_other _ _ (by omega)).trans hvb2H.out, ?_, ?_, (dlv_some hdsH.out).symm.trans hdH.out, hpH.out.step hdsH.out, ?_, ?_⟩
                                          · rw [hclL.out]
                                            exact ((hRH.out.alloc (.cells #[.int .i64 (c : Int)] 3)).pushT hi (OwnN.push howna) (by rw [hv2H.out]; exact hgr) (by rw [hv2H.out]; rcases hata with h | h; exact .inl h.symm; exact .inr ⟨ga, rfl, by simp; omega⟩)).congr (fun j _ => (famF_put hi (t ++ [c]) (q.erase c) j).trans (by rw [CS.put2]))
                                          · exact ((hBH.out.alloc hsz5 (.cells #[.int .i64 (c : Int)] 3)).grown hgr (by simp; omega) (fun j hj => (World.ownsRow.lt (hownT.out (wr.alloc (.cells #[.int .i64 (c : Int)] 3)) rfl) j hj).1)).setCell (p := ⟨B, i, none⟩) (Nat.le_refl _) _
                                          · exact (hRa.grown hgr (fun e => hneM.out e.symm)).far (fun e => hRH.out.told.ne hRow2.out (by decide) e.symm) _
                                          · rw [hclL.out]
                                            exact hMH.out.step (sorted_nodup hpH.out.so) hdsH.out
                                          · have := hln3.out
                                            rw [List.length_append, List.length_singleton]; omega
                                        clear hk e0 e1 e2 ef hgr howna hgrowa hata hltga a0 a1 a2
                                        go_wp2_with fail
                                        go_roundg (q.erase c).length
                                        case measure => rw [← hqgH.out, hlx]; omega
                                        case rel => exact hrel6.out
                                · obtain ⟨j, hj⟩ : ∃ j, gk = j + 1 := ⟨gk - 1, by omega⟩
                                  have eg : ((gk : Nat) : Int) - 1 = (j : Int) := by omega
                                  rw [eg]
                                  clear eg h0
                                  have hjS : j < S.m := by omega
                                  rw [hj] at hN
                                  have hjH := Lib.hid hj
                                  clear hj
                                  obtain ⟨Aj, cj, bj, hNj⟩ := hbeh.out j hjS
                                  have hblj := hbl.out j hjS
                                  have hjI : (j : Int) < (S.m : Int) := by omega
                                  have hmj := Lib.hid (hmem.out j)
                                  go_upto_region 28 with fail
                                  go_cut [14] from 127 to 171 (fun e wx => e = .bool (decide (j ∈ q)) ∧ wx = wr)
                                  case first =>
                                    by_cases hjc : j ∈ cL
                                    · have hC1 := Lib.hid (hc1.out j true ⟨fun _ => hjc, fun _ => rfl⟩)
                                      by_cases hjt : j ∈ t
                                      · as_aux_lemma =>
                                          have hC2 := Lib.hid (hc2.out j true ⟨fun _ => hjt, fun _ => rfl⟩)
                                          have hno : Hid (decide (j ∈ q) = false) := decide_eq_false (fun h => (hmj.out.2 h).2 hjt)
                                          go_wp2_with fail
                                          refine hC1.out.mono ?_
                                          rintro e w6 ⟨rfl, rfl⟩
                                          go_wp2_with fail
                                          refine hC2.out.mono ?_
                                          rintro e w6 ⟨rfl, rfl⟩
                                          go_wp2_with fail
                                          go_meet
                                          case rel => exact ⟨by rw [hno.out], rfl⟩
                                      · as_aux_lemma =>
                                          have hC2 := Lib.hid (hc2.out j false ⟨fun h => absurd h (by decide), fun h => absurd h hjt⟩)
                                          have hno : Hid (decide (j ∈ q) = true) := decide_eq_true (hmj.out.1 ⟨hjc, hjt⟩)
                                          go_wp2_with fail
                                          refine hC1.out.mono ?_
                                          rintro e w6 ⟨rfl, rfl⟩
                                          go_wp2_with fail
                                          refine hC2.out.mono ?_
                                          rintro e w6 ⟨rfl, rfl⟩
                                          go_wp2_with fail
                                          go_meet
                                          case rel => exact ⟨by rw [hno.out], rfl⟩
                                    · as_aux_lemma =>
                                        have hC1 := Lib.hid (hc1.out j false ⟨fun h => absurd h (by decide), fun h => absurd h hjc⟩)
                                        have hno : Hid (decide (j ∈ q) = false) := decide_eq_false (fun h => hjc (hmj.out.2 h).1)
                                        go_wp2_with fail
                                        refine hC1.out.mono ?_
                                        rintro e w6 ⟨rfl, rfl⟩
                                        go_wp2_with fail
                                        go_meet
                                        case rel => exact ⟨by rw [hno.out], rfl⟩
                                  case rest =>
                                    obtain ⟨he, hw⟩ := hcut
                                    subst he hw
                                    generalize hDD : decide (j ∈ q) = D at *
                                    have hDH := Lib.hid hDD
                                    clear hDD
                                    go_wp2_with fail
                                    go_loop [14, 154] (fun e t4 => ∃ c : Nat, c ≤ (S.bh j).length ∧ t4 = .int .i64 c ∧ e = .bool (D && ((S.bh j).take c).all fun x => t.contains x)) (fun _ t4 => (S.bh j).length - (intOf t4).toNat)
                                    case atStart => exact ⟨0, Nat.zero_le _, rfl, by simp⟩
                                    case round =>
                                      obtain ⟨c, hc, rfl, rfl⟩ := hrel
                                      by_cases hcl2 : c < (S.bh j).length
                                      · have hcI : (c : Int) < ((S.bh j).length : Int) := by omega
                                        obtain ⟨b', off', rfl, _, hcx⟩ := hNj (by rw [zs_len]; omega)
                                        have cx := hcx c (by rw [zs_len]; exact hcl2)
                                        have ecx : (zs (S.bh j))[c]'(by rw [zs_len]; exact hcl2) = (((S.bh j)[c] : Nat) : Int) := by simp [zs]
                                        rw [ecx] at cx
                                        have hnx := Lib.hid (all_take_succ (S.bh j) t hcl2)
                                        clear hcx ecx
                                        generalize (S.bh j)[c] = x at *
                                        obtain ⟨b3, hb3⟩ : ∃ b3, Hid ((D && ((S.bh j).take c).all fun x => t.contains x) = b3) := ⟨(D && ((S.bh j).take c).all fun x => t.contains x), (rfl : _ = _)⟩
                                        have hnext : Hid ((D && ((S.bh j).take (c + 1)).all fun x => t.contains x) = (b3 && t.contains x)) := by
                                          unfold Hid
                                          rw [hnx.out, ← Bool.and_assoc, hb3.out]
                                        rw [hb3.out]
                                        clear hnx hb3
                                        cases b3 with
                                        | true =>
                                          by_cases hxt : x ∈ t
                                          · as_aux_lemma =>
                                              have hC2 := Lib.hid (hc2.out x true ⟨fun _ => hxt, fun _ => rfl⟩)
                                              have hv : Hid ((D && ((S.bh j).take (c + 1)).all fun x => t.contains x) = true) := by unfold Hid; rw [hnext.out]; simp [hxt]
                                              clear hnext
                                              go_wp2_with fail
                                              refine hC2.out.mono ?_
                                              rintro e w6 ⟨rfl, rfl⟩
                                              go_wp2_with fail
                                              go_round
                                              case rel => exact ⟨c + 1, by omega, by go_num, by rw [hv.out]⟩
                                              case measure => simp [intOf]; omega
                                          · as_aux_lemma =>
                                              have hC2 := Lib.hid (hc2.out x false ⟨fun h => absurd h (by decide), fun h => absurd h hxt⟩)
                                              have hv : Hid ((D && ((S.bh j).take (c + 1)).all fun x => t.contains x) = false) := by unfold Hid; rw [hnext.out]; simp [hxt]
                                              clear hnext
                                              go_wp2_with fail
                                              refine hC2.out.mono ?_
                                              rintro e w6 ⟨rfl, rfl⟩
                                              go_wp2_with fail
                                              go_round
                                              case rel => exact ⟨c + 1, by omega, by go_num, by rw [hv.out]⟩
                                              case measure => simp [intOf]; omega
                                        | false =>
                                          as_aux_lemma =>
                                            have hv : Hid ((D && ((S.bh j).take (c + 1)).all fun x => t.contains x) = false) := by unfold Hid; rw [hnext.out]; rfl
                                            clear hnext
                                            go_wp2_with fail
                                            go_round
                                            case rel => exact ⟨c + 1, by omega, by go_num, by rw [hv.out]⟩
                                            case measure => simp [intOf]; omega
                                      · have hcE : c = (S.bh j).length := by omega
                                        subst hcE
                                        obtain ⟨b3, hb3⟩ : ∃ b3, Hid ((D && ((S.bh j).take (S.bh j).length).all fun x => t.contains x) = b3) := ⟨(D && ((S.bh j).take (S.bh j).length).all fun x => t.contains x), (rfl : _ = _)⟩
                                        have hpj : Hid (pk S.bh t q j = b3) := by
                                          unfold Hid pk rdy
                                          rw [hDH.out, ← hb3.out, List.take_length]
                                        rw [hb3.out]
                                        clear hb3
                                        cases b3 with
                                        | true =>
                                          as_aux_lemma =>
                                            have hN4 : Hid (NextIs (pk S.bh t q) S.m j (j : Int)) := NextIs.yes hjS hpj.out
                                            clear hN hpj
                                            go_wp2_with fail
                                            go_roundg j
                                            case measure => have := hjH.out; omega
                                            case rel => exact ⟨by omega, by go_num, rfl, (j : Int), by go_num, hN4⟩
                                        | false =>
                                          as_aux_lemma =>
                                            have hN4 : Hid (NextIs (pk S.bh t q) S.m j rr) := hN.out.no hpj.out
                                            clear hN hpj
                                            go_wp2_with fail
                                            go_roundg j
                                            case measure => have := hjH.out; omega
                                            case rel => exact ⟨by omega, by go_num, rfl, rr, rfl, hN4⟩
          · have e2 : (mk != 2) = true := by simp [hk2]
            · as_aux_lemma =>
                have hsS := Lib.hid (congrArg Prod.fst (stepC_kind (n := n) (S := cAt n l k) (m := ⟨mk, mf, mt, mv'⟩) hk1 hk2))
                have hsC := Lib.hid (congrArg Prod.snd (stepC_kind (n := n) (S := cAt n l k) (m := ⟨mk, mf, mt, mv'⟩) hk1 hk2))
                simp only at hsS hsC
                have hrelc : Hid (RcCut w1 B o B C n l k Ac cc (.slice Ab (cAt n l k).m cb) (.slice Ah (cAt n l k).m ch) (.int .i64 6) wm) := by
                  refine ⟨vs, cm, ?_, hb1H.out.symm, ?_, fun i hi => Nat.le_trans (hlcH.out i hi) (Nat.le_succ _), hBm.out, ?_⟩
                  · rw [hst.out, hsS.out]; exact hR2.out
                  · rw [hst.out, hsS.out]; exact hcmH.out
                  · rw [hcd.out, hsC.out]
                clear hsS hsC hst hcd hR2 hBm hcmH hlcH
                go_wp2_with fail
                go_meet
                case rel => exact hrelc.out
      case rest =>
        obtain ⟨vs', cm', hRc, hvb', hcm', hlc', hBc, he'⟩ := hcut
        obtain ⟨Ab', cb', hb1', hb2', hb3', _⟩ := hRc.nums (j := 2 * n) (by omega)
        rw [famF_by, byS_len] at hb1' hb2'
        rw [hb1'] at hvb'
        subst hvb'
        obtain ⟨Ah', ch', hh1', hh2', _⟩ := hRc.hshape
        subst hh1'
        generalize hcC : codeC n l k = c at *
        subst he'
        obtain ⟨o0, _⟩ := hRc.ocells
        have hltO := hRc.out.lt
        have hszW := hRc.sz
        have fo : wc.frozen? ⟨o, 0, none⟩ = false := hRc.out.frozen 0
        have hownC : (wc.alloc (.cells #[.int .i64 c] 27)).ownsRow B 27 1 (.slice Ac k cc) k (intVals (codesL n l k)) := (by
          have := (hRc.alloc (.cells #[.int .i64 c] 27)).cod
          rw [hclH.out] at this
          exact this)
        have hnewsC : Hid (∀ j u, [Value.int .i64 c][j]? = some u → (wc.alloc (.cells #[.int .i64 c] 27)).cell? ((⟨wc.heap.size, 0, none⟩ : Addr).add j) = some u) := World.news_of_block (cs := #[.int .i64 c]) (t := 27) (fr := (0, 0)) (heap_alloc_new wc _)
        have hneO : Hid ((Value.slice Ac k cc).ownBlock ≠ some o) := owns_ne_row hownC (hRc.alloc (.cells #[.int .i64 c] 27)).out (by decide)
        have hltC : Hid (∀ j, (Value.slice Ac k cc).ownBlock = some j → B ≤ j) := fun j hj => (World.ownsRow.lt hownC j hj).1
        have a0 := cell_allocV (.cells #[.int .i64 c] 27) o0 hltO
        have hownCH := Lib.hid hownC
        have hRcH := Lib.hid hRc
        have hBcH := Lib.hid hBc
        have hcmH' := Lib.hid hcm'
        have hlcH' := Lib.hid hlc'
        have hb1H' := Lib.hid hb1'
        have hcCH := Lib.hid hcC
        clear hownC hRc hBc hcm' hlc' hb1' hcC hR2 hBm hcmH hlcH hst hcd hI hlen hRowH hb1H
        go_wp2_with (first
          | (at_builtin; refine wpList_append_lies _ rfl (.tmp 189) (.tmp 191) 23 rfl B 27 je (.int .i64 0) 1 8 Try.underlying23 hEi.out hEz.out hEs.out hEb.out rfl (by decide) (.slice Ac k cc) k (intVals (codesL n l k)) rfl hownCH.out ⟨wc.heap.size, 0, none⟩ 1 1 [.int .i64 c] rfl rfl hnewsC.out (by simp [Value.oneCell']) (by omega) (by unfold maxLen; omega) (by omega) (by simp; omega) _ rfl ?_; intro gz capz wz hownz hgrz hatz hltz; have e0z : wz.cell? ⟨o, 0, none⟩ = some (.slice Ac k cc) := hgrz.cell a0 (fun e => hneO.out e.symm); have efz : wz.frozen? ⟨o, 0, none⟩ = false := (World.frozen?_of_block (hgrz.block o (by simp; omega) (fun e => hneO.out e.symm))).trans ((World.frozen?_of_block (Below.heap_alloc wc _ o hltO)).trans fo)))
        have hrelz : Hid (RcRel w1 B o B C n l (k + 1) (.slice Ab' (cAt n l (k + 1)).m cb') (.slice Ah' (cAt n l (k + 1)).m ch') (wz.setCell ⟨o, 0, none⟩ (.slice (some ⟨gz, 0, none⟩) (k + 1) capz))) := by
          refine ⟨vs', (.slice (some ⟨gz, 0, none⟩) (k + 1) capz), cm', ?_, hb1H'.out.symm, hcmH'.out, hlcH'.out, ?_⟩
          · rw [hcs.out]
            exact (hRcH.out.alloc (.cells #[.int .i64 c] 27)).code (by rw [hclH.out]; exact hownz) hgrz
          · exact ((hBcH.out.alloc hszW (.cells #[.int .i64 c] 27)).grown hgrz (by simp; omega) hltC.out).setCell (p := ⟨o, 0, none⟩) hRcH.out.lo _
        clear hownz hgrz hatz hltz e0z efz
        go_roundg (l.length - (k + 1))
        case measure => have := hgkH.out; omega
        case rel => exact ⟨k + 1, by omega, rfl, by go_num, hrelz.out⟩
    · have hkl : k = l.length := by omega
      · as_aux_lemma =>
          subst hkl
          have hwB : w.heap.size < B := by rw [← hBBH.out]; omega
          have hR6 := hR1H.out.below hBH.out hwB
          obtain ⟨o0, o1⟩ := hRH.out.ocells
          have hcl : (codesL n l l.length).length = l.length := codesL_len n l l.length
          rw [hcl] at o0
          have hRC : RC wr B o B C n (cAt n l l.length).m vs (.slice Ac l.length cc) (.slice Ah (cAt n l l.length).m ch) (codesL n l l.length) (famF n (cAt n l l.length) cm) := by have := hRH.out; rw [hcl] at this; exact this
          have r0 := hR6.cell (i := 0) (by simp)
          have r1 := hR6.cell (i := 1) (by simp)
          have f0 := hR6.frozen 0
          have f1 := hR6.frozen 1
          simp only [List.getElem_cons_zero, List.getElem_cons_succ] at r0 r1
          have hRCH := Lib.hid hRC
          have hR6H := Lib.hid hR6
          clear hRC hR6 hRH hcl hcmH hlcH hb1H
          go_wp2_with fail
          have hR7 := (hR6H.out.set 0 (.slice Ac l.length cc)).set 1 (.slice (some ⟨B, 0, none⟩) n n)
          have hB7 : Below w.heap.size w ((wr.setCell ⟨w.heap.size, 0, none⟩ (.slice Ac l.length cc)).setCell ⟨w.heap.size, 1, none⟩ (.slice (some ⟨B, 0, none⟩) n n)) :=
            ((hB1H.out.trans (hBH.out.mono (by omega))).setCell (p := ⟨w.heap.size, 0, none⟩) (Nat.le_refl _) _).setCell (p := ⟨w.heap.size, 1, none⟩) (Nat.le_refl _) _
          have hblk : ∀ g, B ≤ g → ((wr.setCell ⟨w.heap.size, 0, none⟩ (.slice Ac l.length cc)).setCell ⟨w.heap.size, 1, none⟩ (.slice (some ⟨B, 0, none⟩) n n)).heap[g]? = wr.heap[g]? := fun g hg => by
            have hne : g ≠ w.heap.size := by omega
            rw [Below.heap_setCell _ _ _ g hne, Below.heap_setCell _ _ _ g hne]
          generalize (wr.setCell ⟨w.heap.size, 0, none⟩ (.slice Ac l.length cc)).setCell ⟨w.heap.size, 1, none⟩ (.slice (some ⟨B, 0, none⟩) n n) = w7 at *
          have hRC7 := hRCH.out.blocks (w' := w7) fun g hg _ => hblk g hg
          have q0 := hR7.cell (i := 0) (by simp)
          have q1 := hR7.cell (i := 1) (by simp)
          simp at q0 q1
          (try simp only [Exit.inBlock, Exit.then])
          refine bodyPost_ret (v := .agg #[.slice Ac l.length cc, .slice (some ⟨B, 0, none⟩) n n]) ?_ rfl ⟨Ac, cc, B, o, C, vs, _, cm, rfl, (by rw [hBBH.out]; exact hRC7), hB7⟩
          clear hRC7 hR7 hB7 hblk hRCH hR6H
          rw [results_cell1 rfl]
          go_simp

#print axioms rcausal_ok
end Go.Proofs.Ytkchccaeopdemaa
