/-
  The walk of the law CausalOrder: deliveries keep to what messages depend on.
-/
import Derived.Test.YtkchccaeopdemaaCpl
import Derived.Test.YtkchccaeopdemaaPlc
import Derived.Test.YtkchccaeopdemaaIns
import Derived.Test.YtkchccaeopdemaaHcs
import Derived.Deep.AppendLies
import Derived.BigQuiet
import Derived.Deep.QuietTactic
namespace Go.Proofs.Ytkchccaeopdemaa
open Go.RowKit Go.Maps

/-- Who sent each message. -/
def byL (S : CS) : List Nat := (List.range S.m).map S.sd
theorem byL_len (S : CS) : (byL S).length = S.m := by simp [byL]
theorem byL_tell (S : CS) (i : Nat) : byL (S.tell i) = byL S ++ [i] := by
  unfold byL CS.tell
  simp only
  rw [List.range_succ, List.map_append]
  congr 1
  · apply List.map_congr_left
    intro k hk
    exact up1_other _ _ (by have := List.mem_range.1 hk; omega)
  · simp [up1]
theorem byL_come (S : CS) (v i : Nat) : byL (S.come v i) = byL S := rfl
theorem byL_yes {n : Nat} {S : CS} {m : Mv} (h1 : m.k = 1) (h2 : 0 ≤ m.f ∧ m.f < (n : Int)) : byL (stepC n S m).1 = byL S ++ [m.f.toNat] := by
  rw [stepC_tell h1 (i := m.f.toNat) (by omega) (by omega)]
  exact byL_tell S _
theorem byL_no {n : Nat} {S : CS} {m : Mv} (h : ¬ (m.k = 1 ∧ 0 ≤ m.f ∧ m.f < (n : Int))) : byL (stepC n S m).1 = byL S := by
  rcases stepC_cases n S m with e | ⟨i, hi, h1, h2, e⟩ | ⟨i, v, hi, hv, h1, h2, h3, h4, h5, e⟩
  · rw [e]
  · exact absurd ⟨h1, by omega, by omega⟩ h
  · rw [e]; exact byL_come S v i
theorem zs_nodup {q : List Nat} (h : q.Nodup) : (zs q).Nodup := by
  unfold zs List.Nodup
  rw [List.pairwise_map]
  exact List.pairwise_iff_getElem.2 fun i j hi hj hij e => List.pairwise_iff_getElem.1 h i j hi hj hij (by omega)
theorem zs_get {q : List Nat} {k x : Nat} (h : q[k]? = some x) : (zs q)[k]? = some (x : Int) := by simp [zs, h]
theorem nums_takeC {w : World} {B : Nat} {A : Option Addr} {l : List Int} (h : Nums w B A l) (n : Nat) : Nums w B A (l.take n) := by
  intro h0
  have hl : (l.take n).length ≤ l.length := by simp; omega
  obtain ⟨b, off, e, hb, hc⟩ := h (by omega)
  exact ⟨b, off, e, hb, fun i hi => by simp only [List.getElem_take]; exact hc i (by omega)⟩

/-- What one process was told. -/
theorem Tls.at_ {w : World} {B T n : Nat} {S : CS} (h : Tls w B (some ⟨T, 0, none⟩) (toldL n S)) {i : Nat} (hi : i < n) : T < B ∧ ∃ Ai ci, w.cell? ⟨T, i, none⟩ = some (.slice Ai (S.td i).length ci) ∧ (S.td i).length ≤ ci ∧ Nums w B Ai (zs (S.td i)) := by
  have hl : i < (toldL n S).length := by simp [toldL]; exact hi
  obtain ⟨b, off, e, hlt, hc⟩ := h (by omega)
  obtain ⟨rfl, rfl⟩ : T = b ∧ 0 = off := by injection e with e1; injection e1 with e1 e2; exact ⟨e1, e2⟩
  obtain ⟨Ai, ci, y, hr, hN⟩ := hc i hl
  have ee : (toldL n S)[i] = zs (S.td i) := by simp [toldL]
  rw [ee, Nat.zero_add, zs_len] at y
  rw [ee, zs_len] at hr
  rw [ee] at hN
  exact ⟨hlt, Ai, ci, y, hr, hN⟩

set_option maxHeartbeats 1000000 in
set_option maxRecDepth 100000 in
theorem corder_no (w : World) (n : Int) (A : Option Addr) (cap : Nat) (l : List Mv) (p : Int) (hs : l.length ≤ 17592186044416) (h0 : ¬ Plays n l.length) :
    Calls Try.prog 4 #[.int .i64 n, .slice A l.length cap, .int .i64 p] w fun e w' => e = .returned (.bool true) ∧ Below w.heap.size w w' := by
  have hl : l.length ≤ maxLen := by unfold maxLen; omega
  have h0H := Lib.hid h0
  have hno : Hid (¬ (1 ≤ n ∧ n ≤ 6 ∧ (l.length : Int) ≤ 60)) := fun h => h0 ⟨h.1, h.2.1, by omega⟩
  clear h0
  go_enter Try.func4, Try.ntmps4
  go_wp2_with fail
  refine (play_no A cap l n _ hl h0H.out).mono ?_
  rintro e w1 ⟨rfl, hB1⟩
  have hB2 := hB1.alloc hB1.size (.cells #[.slice none 0 0, .slice none 0 0] 26)
  clear hB1
  go_wp2_with fail
  generalize w1.alloc (.cells #[.slice none 0 0, .slice none 0 0] 26) = w2 at *
  refine (played_any w2 n (l.length : Int) false ⟨fun h => absurd h (by decide), fun h => absurd h hno.out⟩).mono ?_
  rintro e w5 ⟨rfl, rfl⟩
  go_wp2_with fail
  go_ret
  exact ⟨rfl, hB2⟩

/-- The first loop's state. -/
def Or1 (w w4 : World) (n : Nat) (l : List Mv) (k : Nat) (v : Value) (wr : World) : Prop :=
  OwnN wr w4.heap.size v (byL (cAt n l k)) ∧ Below w.heap.size w wr ∧ Below w4.heap.size w4 wr
def Or2 (w w5 wr : World) : Prop := Below w.heap.size w wr ∧ Below w5.heap.size w5 wr

set_option maxHeartbeats 8000000 in
set_option maxRecDepth 100000 in
theorem corder_ok (w : World) (n : Nat) (A : Option Addr) (cap : Nat) (l : List Mv) (hE : Mvs w w.heap.size A l) (hF : MFits l) (p : Int) (h0 : Plays (n : Int) l.length) :
    Calls Try.prog 4 #[.int .i64 (n : Int), .slice A l.length cap, .int .i64 p] w fun e w' => e = .returned (.bool true) ∧ Below w.heap.size w w' := by
  have h60 := h0.2.2
  have h0H := Lib.hid h0
  have hn6 : n ≤ 6 := by have := h0.2.1; omega
  have hyes : Hid (1 ≤ (n : Int) ∧ (n : Int) ≤ 6 ∧ (l.length : Int) ≤ 60) := ⟨h0.1, h0.2.1, by omega⟩
  have hFH := Lib.hid hF
  obtain ⟨j0, hi0, hz0, hz1, hz2⟩ := info_parts infoInt
  have hJi := Lib.hid hi0; have hJz := Lib.hid hz0; have hJs := Lib.hid hz1; have hJb := Lib.hid hz2
  clear h0 hF hi0 hz0 hz1 hz2
  go_enter Try.func4, Try.ntmps4
  go_wp2_with fail
  refine (play_ok A cap l n _ hE hFH.out h0H.out).mono ?_
  rintro e w1 ⟨gc, T, rfl, _, hT1, hB1⟩
  unfold hrdVal
  have hR2 := Row.made w1 26 [.slice (some ⟨gc, 0, none⟩) l.length l.length, .slice (some ⟨T, 0, none⟩) n n]
  have hba := (Below.refl w1.heap.size w1).alloc (Nat.le_refl _) (.cells #[.slice (some ⟨gc, 0, none⟩) l.length l.length, .slice (some ⟨T, 0, none⟩) n n] 26)
  have hT2 := hT1.within hba
  have hB2 := hB1.alloc hB1.size (.cells #[.slice (some ⟨gc, 0, none⟩) l.length l.length, .slice (some ⟨T, 0, none⟩) n n] 26)
  have hE2 := (hE.below hB2).more hB2.size
  have x0 := hR2.cell (i := 0) (by simp)
  have x1 := hR2.cell (i := 1) (by simp)
  simp only [List.getElem_cons_zero, List.getElem_cons_succ] at x0 x1
  have hltb1 := hR2.lt
  clear hB1 hT1 hba hR2
  go_wp2_with fail
  generalize w1.alloc (.cells #[.slice (some ⟨gc, 0, none⟩) l.length l.length, .slice (some ⟨T, 0, none⟩) n n] 26) = w2 at *
  generalize w1.heap.size = b1 at *
  refine (played_any w2 n (l.length : Int) true ⟨fun _ => hyes.out, fun _ => rfl⟩).mono ?_
  rintro e w3 ⟨rfl, rfl⟩
  have hBa := Lib.hid (hB2.alloc hB2.size (.cells #[.int .i64 p] 3))
  have hN1 := Lib.hid (nums1 w3 p 3)
  have hTH := Lib.hid (hT2.within ((Below.refl w3.heap.size w3).alloc (Nat.le_refl _) (.cells #[.int .i64 p] 3)))
  have hEH := Lib.hid (((hE2.below ((Below.refl w3.heap.size w3).alloc (Nat.le_refl _) (.cells #[.int .i64 p] 3)))).more (show w3.heap.size ≤ (w3.alloc (.cells #[.int .i64 p] 3)).heap.size by simp))
  have x1a := cell_allocV (.cells #[.int .i64 p] 3) x1 hltb1
  have hlt4 : b1 < (w3.alloc (.cells #[.int .i64 p] 3)).heap.size := by simp; omega
  clear hT2 hE2 hB2
  by_cases hin : 0 ≤ p ∧ p < (n : Int)
  · have hC : Hid (inB (n : Int) [p] = true) := by unfold Hid; simp [inB]; exact hin
    go_wp2_with fail
    refine (inside_any (some ⟨w3.heap.size, 0, none⟩) 1 [p] (n : Int) (w3.alloc (.cells #[.int .i64 p] 3)) hN1.out (by simp) true hC).mono ?_
    rintro e w4 ⟨rfl, rfl⟩
    generalize hw4 : w3.alloc (.cells #[.int .i64 p] 3) = w4 at *
    clear hw4 hN1 hC x0 x1
    obtain ⟨i, hpi⟩ := Int.eq_ofNat_of_zero_le hin.1
    subst hpi
    have hi : i < n := by omega
    clear hin
    have hBsz : Hid (w.heap.size ≤ w4.heap.size) := hBa.out.size
    have hrel0 : Hid (Or1 w w4 n l 0 (.slice none 0 0) w4) := ⟨⟨rfl, .inl ⟨rfl, rfl⟩⟩, hBa.out, Below.refl _ _⟩
    go_wp2_with fail
    go_loopw [57, 9] (fun t v wr => ∃ k : Nat, k ≤ l.length ∧ t = .int .i64 k ∧ Or1 w w4 n l k v wr) (fun t _ _ => l.length - (intOf t).toNat)
    case atStart => exact ⟨0, Nat.zero_le _, rfl, hrel0.out⟩
    case round =>
      clear hrel0
      obtain ⟨k, hk, rfl, hO, hBw, hB⟩ := hrel
      obtain ⟨Av, cv, rfl⟩ := hO.shape
      have hmk := (cAt_len n l k 0).2
      rw [byL_len]
      by_cases hlt : k < l.length
      · have hkI : (k : Int) < (l.length : Int) := by omega
        obtain ⟨b, off, rfl, hb, hc⟩ := (hEH.out.below hB) (by omega)
        obtain ⟨c0, c1, c2, c3⟩ := hc k hlt
        clear hc
        rw [mv_get l hlt] at c0 c1 c2 c3
        have hfit := hFH.out.at_ hlt
        have hstep : Hid (cAt n l (k + 1) = (stepC n (cAt n l k) (mv l k)).1) := rfl
        have hyesB := Lib.hid (byL_yes (n := n) (S := cAt n l k) (m := mv l k))
        have hnoB := Lib.hid (byL_no (n := n) (S := cAt n l k) (m := mv l k))
        have hlB := byL_len (cAt n l k)
        generalize mv l k = m at *
        obtain ⟨mk, mf, mt, mv'⟩ := m
        simp only at *
        obtain ⟨⟨k1, k2⟩, ⟨f1, f2⟩, _, _⟩ := hfit
        simp only at k1 k2 f1 f2
        have hRm := Row.made wr 39 [.int .i64 mk, .int .i64 mf, .int .i64 mt, .int .i64 mv']
        have y0 := hRm.cell (i := 0) (by simp)
        have y1 := hRm.cell (i := 1) (by simp)
        simp only [List.getElem_cons_zero, List.getElem_cons_succ] at y0 y1
        have hOm : OwnN (wr.alloc (.cells #[.int .i64 mk, .int .i64 mf, .int .i64 mt, .int .i64 mv'] 39)) w4.heap.size (.slice Av (byL (cAt n l k)).length cv) (byL (cAt n l k)) := World.ownsRow.alloc hO _
        have hBwm := hBw.alloc hBw.size (.cells #[.int .i64 mk, .int .i64 mf, .int .i64 mt, .int .i64 mv'] 39)
        have hBm := hB.alloc hB.size (.cells #[.int .i64 mk, .int .i64 mf, .int .i64 mt, .int .i64 mv'] 39)
        rw [hlB] at hOm
        generalize hby : byL (cAt n l k) = by' at *
        have hlBH := Lib.hid hlB
        clear hO hBw hB hby hRm hlB
        by_cases hk1 : mk = 1
        · have e1 : (mk == 1) = true := by simp [hk1]
          have hOi : OwnN ((wr.alloc (.cells #[.int .i64 mk, .int .i64 mf, .int .i64 mt, .int .i64 mv'] 39)).alloc (.cells #[.int .i64 mf] 3)) w4.heap.size (.slice Av (cAt n l k).m cv) by' := World.ownsRow.alloc hOm _
          have hBwi := hBwm.alloc hBwm.size (.cells #[.int .i64 mf] 3)
          have hBi := hBm.alloc hBm.size (.cells #[.int .i64 mf] 3)
          have hNi := Lib.hid (nums1 (wr.alloc (.cells #[.int .i64 mk, .int .i64 mf, .int .i64 mt, .int .i64 mv'] 39)) mf 3)
          have y1i := cell_allocV (.cells #[.int .i64 mf] 3) y1 (by simp)
          by_cases hff : 0 ≤ mf ∧ mf < (n : Int)
          · have hC : Hid (inB (n : Int) [mf] = true) := by unfold Hid; simp [inB]; exact hff
            have hnew := Lib.hid (hyesB.out hk1 hff)
            obtain ⟨g, hfg⟩ := Int.eq_ofNat_of_zero_le hff.1
            subst hfg
            clear hyesB hnoB hk1
            have hOiH := Lib.hid hOi
            have hBwiH := Lib.hid hBwi
            have hBiH := Lib.hid hBi
            clear hOm hBwm hBm hOi hBwi hBi
            go_wp2_with fail
            rw [show (wr.alloc (.cells #[.int .i64 mk, .int .i64 (g : Int), .int .i64 mt, .int .i64 mv'] 39)).heap.size = wr.heap.size + 1 by simp] at hNi
            refine (inside_any (some ⟨wr.heap.size + 1, 0, none⟩) 1 [(g : Int)] (n : Int) _ hNi.out (by simp) true hC).mono ?_
            rintro e w6 ⟨rfl, hw6⟩
            subst hw6
            generalize hw6 : (wr.alloc (.cells #[.int .i64 mk, .int .i64 (g : Int), .int .i64 mt, .int .i64 mv'] 39)).alloc (.cells #[.int .i64 (g : Int)] 3) = w6 at *
            clear hw6 hNi hC y0 y1
            generalize wr.heap.size = bm at *
            have hltm : bm < w6.heap.size := by
              rcases Nat.lt_or_ge bm w6.heap.size with h | h
              · exact h
              · rw [World.cell?, Array.getElem?_eq_none h] at y1i; cases y1i
            have hOn : (w6.alloc (.cells #[.int .i64 (g : Int)] 3)).ownsRow w4.heap.size 3 1 (.slice Av (cAt n l k).m cv) (cAt n l k).m (nv by') := by
              have := World.ownsRow.alloc hOiH.out (.cells #[.int .i64 (g : Int)] 3)
              rw [hlBH.out] at this
              exact this
            have hnews : Hid (∀ j u, [Value.int .i64 (g : Int)][j]? = some u → (w6.alloc (.cells #[.int .i64 (g : Int)] 3)).cell? ((⟨w6.heap.size, 0, none⟩ : Addr).add j) = some u) := World.news_of_block (cs := #[.int .i64 (g : Int)]) (t := 3) (fr := (0, 0)) (heap_alloc_new w6 _)
            have hbase : w4.heap.size ≤ (w6.alloc (.cells #[.int .i64 (g : Int)] 3)).heap.size := by have := hBiH.out.size; simp; omega
            have hOnH := Lib.hid hOn
            clear hOn
            go_wp2_with (first
              | (at_builtin; refine wpList_append_lies _ rfl (.tmp 71) (.tmp 74) 37 rfl w4.heap.size 3 j0 (.int .i64 0) 1 8 Try.underlying37 hJi.out hJz.out hJs.out hJb.out rfl (by decide) (.slice Av (cAt n l k).m cv) (cAt n l k).m (nv by') rfl hOnH.out ⟨w6.heap.size, 0, none⟩ 1 1 [.int .i64 (g : Int)] rfl rfl hnews.out (by simp [Value.oneCell']) (by omega) (by unfold maxLen; omega) (by omega) hbase _ rfl ?_; intro ga capa wa howna hgrowa hata hltga))
            have hrel7 : Hid (Or1 w w4 n l (k + 1) (.slice (some ⟨ga, 0, none⟩) ((cAt n l k).m + 1) capa) wa) := by
              have hlt6 : ∀ b', (Value.slice Av (cAt n l k).m cv).ownBlock = some b' → w4.heap.size ≤ b' := fun b' hb' => (World.ownsRow.lt hOnH.out b' hb').1
              refine ⟨?_, ?_, ?_⟩
              · rw [hstep.out, hnew.out]
                unfold OwnN
                have e2 : nv (by' ++ [(g : Int).toNat]) = nv by' ++ [.int .i64 (g : Int)] := by simp [nv]
                rw [e2, List.length_append, hlBH.out]
                exact howna
              · exact (hBwiH.out.alloc hBwiH.out.size _).grown hgrowa (by have := hBwiH.out.size; simp; omega) (fun b' hb' => by have := hlt6 b' hb'; have := hBsz.out; omega)
              · exact (hBiH.out.alloc hBiH.out.size _).grown hgrowa (by have := hBiH.out.size; simp; omega) hlt6
            clear howna hgrowa hata hltga
            go_roundw
            case rel => exact ⟨k + 1, by omega, by go_num, hrel7.out⟩
            case measure => simp [intOf]; omega
          · have hC : Hid (inB (n : Int) [mf] = false) := by unfold Hid; simp [inB]; omega
            have hsame := Lib.hid (hnoB.out (fun h => hff h.2))
            clear hyesB hnoB hk1 hff
            have hrel7 : Hid (Or1 w w4 n l (k + 1) (.slice Av (cAt n l k).m cv) ((wr.alloc (.cells #[.int .i64 mk, .int .i64 mf, .int .i64 mt, .int .i64 mv'] 39)).alloc (.cells #[.int .i64 mf] 3))) := ⟨by rw [hstep.out, hsame.out]; exact hOi, hBwi, hBi⟩
            clear hOm hBwm hBm hOi hBwi hBi
            go_wp2_with fail
            rw [show (wr.alloc (.cells #[.int .i64 mk, .int .i64 mf, .int .i64 mt, .int .i64 mv'] 39)).heap.size = wr.heap.size + 1 by simp] at hNi
            refine (inside_any (some ⟨wr.heap.size + 1, 0, none⟩) 1 [mf] (n : Int) _ hNi.out (by simp) false hC).mono ?_
            rintro e w6 ⟨rfl, hw6⟩
            subst hw6
            go_wp2_with fail
            go_roundw
            case rel => exact ⟨k + 1, by omega, by go_num, hrel7.out⟩
            case measure => simp [intOf]; omega
        · have e1 : (mk == 1) = false := by simp [hk1]
          have hsame := Lib.hid (hnoB.out (fun h => hk1 h.1))
          clear hyesB hnoB hk1
          have hrel7 : Hid (Or1 w w4 n l (k + 1) (.slice Av (cAt n l k).m cv) (wr.alloc (.cells #[.int .i64 mk, .int .i64 mf, .int .i64 mt, .int .i64 mv'] 39))) := ⟨by rw [hstep.out, hsame.out]; exact hOm, hBwm, hBm⟩
          clear hOm hBwm hBm
          go_wp2_with fail
          go_roundw
          case rel => exact ⟨k + 1, by omega, by go_num, hrel7.out⟩
          case measure => simp [intOf]; omega
      · have hkl : k = l.length := by omega
        subst hkl
        have hI := CInv.at_ n l l.length
        have hTr := hTH.out.within hB
        have hlen := fun j => (cAt_len n l l.length j).1
        have u1 : wr.cell? ⟨b1, 1, none⟩ = some (.slice (some ⟨T, 0, none⟩) n n) := (hB.cell (p := ⟨b1, 1, none⟩) hlt4).trans x1a
        have hb1 : b1 < wr.heap.size := Nat.lt_of_lt_of_le hlt4 hB.size
        have hNby : Nums wr wr.heap.size Av (zs (byL (cAt n l l.length))) := by
          obtain ⟨A', c', e, _, _, hN⟩ := hO.ints.nums
          injection e with e1
          rw [e1]; exact hN
        generalize cAt n l l.length = S at *
        obtain ⟨hTlt, A1, c1, t1, hr1, hN1⟩ := hTr.at_ hi
        have hlI : (S.td i).length ≤ 60 := by have := hlen i; omega
        have hiI : (i : Int) < (n : Int) := by omega
        have hIH := Lib.hid hI
        have hTrH := Lib.hid hTr
        have hlenH := Lib.hid hlen
        have hN1H := Lib.hid hN1
        have hNbyH := Lib.hid hNby
        have hBwH := Lib.hid hBw
        clear hI hTr hlen hN1 hNby hO hB hBw
        go_wp2_with fail
        rename World => w5
        go_loopw [84] (fun t wr => ∃ a : Nat, a ≤ (S.td i).length ∧ t = .int .i64 a ∧ Or2 w w5 wr) (fun t _ => (S.td i).length - (intOf t).toNat)
        case atStart => exact ⟨0, Nat.zero_le _, rfl, hBwH.out, Below.refl _ _⟩
        case round =>
          obtain ⟨a, ha, rfl, hBw, hB⟩ := hrel
          by_cases hlt : a < (S.td i).length
          · have hI := hIH.out
            obtain ⟨y, hy⟩ : ∃ y, (S.td i)[a]? = some y := ⟨_, List.getElem?_eq_getElem hlt⟩
            have hym := (hI.pi i).tl y (List.mem_of_getElem? hy)
            have hsy := hI.sd y hym
            obtain ⟨ow1, ow2⟩ := hI.ow y hym
            have hod := Lib.hid ((hI.pi i).od a y hy)
            have hnd1 := Lib.hid (zs_nodup (hI.pi i).nd)
            have hnd2 := Lib.hid (zs_nodup (hI.pi (S.sd y)).nd)
            have hnot : Hid (¬ y ∈ (S.td i).take a) := by
              intro h
              obtain ⟨c, hc, e⟩ := List.getElem_of_mem h
              rw [List.getElem_take] at e
              have hca : c < a := by rw [List.length_take] at hc; omega
              have := List.pairwise_iff_getElem.1 (hI.pi i).nd c a (by omega) hlt hca
              exact this (e.trans (List.getElem?_eq_some_iff.1 hy).2.symm)
            have hdl : (S.bh y).length < (S.td (S.sd y)).length := (List.getElem?_eq_some_iff.1 ow2).1
            have haI : (a : Int) < ((S.td i).length : Int) := by omega
            have c0 : ∃ b off, A1 = some ⟨b, off, none⟩ ∧ wr.cell? ⟨b, off + a, none⟩ = some (.int .i64 (y : Int)) := by
              obtain ⟨b, off, e, hb, hc⟩ := (hN1H.out.below hB) (by rw [zs_len]; omega)
              refine ⟨b, off, e, ?_⟩
              rw [hc a (by rw [zs_len]; exact hlt)]
              have := (List.getElem?_eq_some_iff.1 hy).2
              simp [zs, this]
            obtain ⟨b, off, rfl, c0⟩ := c0
            have hBwa := hBw.alloc hBw.size (.cells #[.int .i64 (y : Int)] 3)
            have hBa := hB.alloc hB.size (.cells #[.int .i64 (y : Int)] 3)
            have hNy := Lib.hid (nums1 wr (y : Int) 3)
            have hNt := Lib.hid (((hN1H.out.below hBa).more hBa.size))
            have hCy : Hid (inB (S.m : Int) [(y : Int)] = true) := by unfold Hid; simp [inB]; omega
            have hTa := (hTrH.out.within hBa)
            obtain ⟨_, A2, c2, t2, hr2, hN2⟩ := hTa.at_ hsy
            have hNb := ((hNbyH.out.below hBa).more hBa.size)
            obtain ⟨bb, ob, rfl, hbb, hcb⟩ := hNb (by rw [zs_len, byL_len]; omega)
            have cb := hcb y (by rw [zs_len, byL_len]; exact hym)
            have ecb : (zs (byL S))[y]'(by rw [zs_len, byL_len]; exact hym) = ((S.sd y : Nat) : Int) := by simp [zs, byL]
            rw [ecb] at cb
            have ua : (wr.alloc (.cells #[.int .i64 (y : Int)] 3)).cell? ⟨b1, 1, none⟩ = some (.slice (some ⟨T, 0, none⟩) n n) := (hBa.cell (p := ⟨b1, 1, none⟩) hb1).trans u1
            have hl2 : (S.td (S.sd y)).length ≤ 60 := by have := hlenH.out (S.sd y); omega
            have hN2H := Lib.hid hN2
            have ow1H := Lib.hid ow1
            have ow2H := Lib.hid ow2
            have hBwaH := Lib.hid hBwa
            have hBaH := Lib.hid hBa
            clear hI hcb hNb hTa hN2 ow1 ow2 hBw hB hBwa hBa ecb hy
            have hyI : (y : Int) < (S.m : Int) := by omega
            have hsI : (S.sd y : Int) < (n : Int) := by omega
            have hdI : ((S.bh y).length : Int) ≤ (c2 : Int) := by omega
            go_wp2_with fail
            refine (inside_any (some ⟨wr.heap.size, 0, none⟩) 1 [(y : Int)] (S.m : Int) _ hNy.out (by simp) true hCy).mono ?_
            rintro e w6 ⟨rfl, hw6⟩
            subst hw6
            generalize wr.alloc (.cells #[.int .i64 (y : Int)] 3) = w6 at *
            clear hNy hCy c0
            have hhas := Lib.hid (hasL_any (some ⟨b, off, none⟩) c1 ((zs (S.td i)).take a) (y : Int) w6 (nums_takeC hNt.out a) (by rw [List.length_take, zs_len]; omega) false ⟨fun h => absurd h (by decide), fun h => absurd h (by
              have e : (zs (S.td i)).take a = zs ((S.td i).take a) := by simp [zs, List.map_take]
              rw [e, zs_mem]
              exact hnot.out)⟩)
            rw [List.length_take, zs_len, Nat.min_eq_left ha] at hhas
            go_wp2_with fail
            refine hhas.out.mono ?_
            rintro e w7 ⟨rfl, hw7⟩
            subst hw7
            clear hhas
            go_wp2_with fail
            go_quiet (fail)
            have hBw8 := below_drewN hBwaH.out nq
            have hB8 := below_drewN hBaH.out nq
            have hN28 : Hid (Nums (w6.drewN nq) (w6.drewN nq).heap.size A2 (zs (S.td (S.sd y)))) := hN2H.out
            have hNt8 : Hid (Nums (w6.drewN nq) (w6.drewN nq).heap.size (some ⟨b, off, none⟩) (zs (S.td i))) := hNt.out
            clear hN2H hNt ua cb t2 hBwaH hBaH
            generalize w6.drewN nq = w8 at *
            have hat := Lib.hid (at_any A2 c2 (zs (S.td (S.sd y))) (y : Int) w8 hN28.out (by rw [zs_len]; omega) hnd2.out (S.bh y).length (zs_get ow2H.out))
            rw [zs_len] at hat
            obtain ⟨b2, o2, rfl, hb2, hc2⟩ := hN28.out (by rw [zs_len]; omega)
            have hcx : Hid (∀ c, (hc : c < (S.bh y).length) → w8.cell? ⟨b2, o2 + c, none⟩ = some (.int .i64 ((S.bh y)[c] : Int))) := fun c hc => by
              rw [hc2 c (by rw [zs_len]; omega)]
              have : (S.bh y)[c] = (S.td (S.sd y))[c]'(by omega) := by
                have e : (S.bh y)[c]? = (S.td (S.sd y))[c]? := by
                  have := congrArg (·[c]?) ow1H.out
                  rw [← this, List.getElem?_take_of_lt hc]
                rw [List.getElem?_eq_getElem hc, List.getElem?_eq_getElem (by omega)] at e
                injection e
              rw [this]
              simp [zs]
            clear hc2 hN28 ow1H ow2H hnd2
            go_wp2_with fail
            refine hat.out.mono ?_
            rintro e w9 ⟨rfl, hw9⟩
            subst hw9
            clear hat
            go_wp2_with fail
            rename World => w8
            go_loop [119] (fun t => ∃ c : Nat, c ≤ (S.bh y).length ∧ t = .int .i64 c) (fun t => (S.bh y).length - (intOf t).toNat)
            case atStart => exact ⟨0, Nat.zero_le _, rfl⟩
            case round =>
              obtain ⟨c, hc, rfl⟩ := hrel
              by_cases hlc : c < (S.bh y).length
              · have cc := hcx.out c hlc
                have hcI : (c : Int) < ((S.bh y).length : Int) := by omega
                have hxm := hod.out _ (List.getElem_mem hlc)
                obtain ⟨j, hj, ej⟩ := List.getElem_of_mem hxm
                rw [List.getElem_take] at ej
                have hja : j < a := by rw [List.length_take] at hj; omega
                have hjx : (S.td i)[j]? = some (S.bh y)[c] := by rw [← ej]; exact List.getElem?_eq_getElem (by omega)
                have hat := Lib.hid (at_any (some ⟨b, off, none⟩) c1 (zs (S.td i)) ((S.bh y)[c] : Int) w8 hNt8.out (by rw [zs_len]; omega) hnd1.out j (zs_get hjx))
                rw [zs_len] at hat
                clear hxm hj ej hjx
                generalize (S.bh y)[c] = x at *
                have hjI : (j : Int) < (a : Int) := by omega
                go_wp2_with fail
                refine hat.out.mono ?_
                rintro e w9 ⟨rfl, hw9⟩
                subst hw9
                go_wp2_with fail
                go_round
                case rel => exact ⟨c + 1, by omega, by go_num⟩
                case measure => simp [intOf]; omega
              · have hcl : c = (S.bh y).length := by omega
                subst hcl
                go_wp2_with fail
                go_roundw
                case rel => exact ⟨a + 1, by omega, by go_num, hBw8, hB8⟩
                case measure => simp [intOf]; omega
          · have hal : a = (S.td i).length := by omega
            subst hal
            go_wp2_with fail
            go_ret
            exact ⟨rfl, hBw⟩
  · have hC : Hid (inB (n : Int) [p] = false) := by unfold Hid; simp [inB]; omega
    go_wp2_with fail
    refine (inside_any (some ⟨w3.heap.size, 0, none⟩) 1 [p] (n : Int) (w3.alloc (.cells #[.int .i64 p] 3)) hN1.out (by simp) false hC).mono ?_
    rintro e w4 ⟨rfl, rfl⟩
    go_wp2_with fail
    go_ret
    exact ⟨rfl, hBa.out⟩

theorem causalOrder_law (w : World) (n : Int) (_hn : I64 n) (A : Option Addr) (cap : Nat) (l : List Mv) (hE : Mvs w w.heap.size A l) (hF : MFits l) (_hcap : l.length ≤ cap) (_hl : l.length ≤ maxLen) (hs : l.length ≤ 17592186044416) (p : Int) (_hp : I64 p) :
    Calls Try.prog 4 #[.int .i64 n, .slice A l.length cap, .int .i64 p] w fun e w' => e = .returned (.bool true) ∧ Below w.heap.size w w' := by
  by_cases h0 : Plays n l.length
  · have h1 := h0.1
    obtain ⟨c, rfl⟩ := Int.eq_ofNat_of_zero_le (show 0 ≤ n by omega)
    exact corder_ok w c A cap l hE hF p h0
  · exact corder_no w n A cap l p hs h0

#print axioms causalOrder_law
#print axioms corder_ok
end Go.Proofs.Ytkchccaeopdemaa
