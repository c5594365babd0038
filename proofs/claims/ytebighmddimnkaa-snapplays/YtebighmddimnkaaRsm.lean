/-
  The contract of beaconryref.Snap: the walk.
-/
import Derived.Test.YtebighmddimnkaaRfo
import Derived.Test.YtebighmddimnkaaMon
import Derived.Lib.QuietBelow
import Derived.Test.YtebighmddimnkaaExe
namespace Go.Proofs.Ytebighmddimnkaa
open Go.RowKit Go.Maps

theorem owns_shape {w : World} {B e size n : Nat} {v : Value} {xs : List Value} (h : w.ownsRow B e size v n xs) : ∃ A cap, v = .slice A n cap ∧ n ≤ cap ∧ cap ≤ maxLen := by
  rcases h.2 with ⟨h7, h8⟩ | ⟨g, cap, cur, hv, hb', hg', hc1, hc2, hc3, hc4⟩
  · exact ⟨none, 0, by rw [h7, h8], by omega, by unfold maxLen; omega⟩
  · exact ⟨_, cap, hv, hc1, hc2⟩
def InR (w : World) (B2 n k : Nat) (wr : World) : Prop := ∃ ib bb vw, RefI wr w.heap.size B2 n k k k { b9 w.heap.size with ib := ib, bb := bb } vw ∧ Below w.heap.size w wr ∧ B2 ≤ wr.heap.size
def codesTo (n : Nat) (l : List Mv) (k : Nat) : List Int := (List.range k).map (codeAt n l)
def SnR (w : World) (B2 n : Nat) (b : RB) (vw : Value) (l : List Mv) (k : Nat) (wr : World) : Prop := ∃ vl vc L, RefM wr w.heap.size B2 n n b (stAt n l k) false vw vl vc L (codesTo n l k) ∧ LS n L (stAt n l k) ∧ L.length ≤ 6 * k ∧ Below w.heap.size w wr

set_option maxHeartbeats 16000000 in
set_option maxRecDepth 100000 in
theorem refsnap_any (A : Option Addr) (cap : Nat) (l : List Mv) (n : Nat) (w : World) (hE : Mvs w w.heap.size A l) (h1 : 1 ≤ n) (hn : n ≤ 6) (hl : l.length ≤ 60) :
    Calls Try.prog 9 #[.int .i64 (n : Int), .slice A l.length cap] w (RsnRes w n l) := by
  obtain ⟨ZI, hZI⟩ : ∃ Z : List Value, Hid (Z = List.replicate n (.int .i64 0)) := ⟨_, rfl⟩
  obtain ⟨ZB, hZB⟩ : ∃ Z : List Value, Hid (Z = List.replicate n (.bool false)) := ⟨_, rfl⟩
  obtain ⟨ZT, hZT⟩ : ∃ Z : List Value, Hid (Z = List.replicate n (.slice none 0 0)) := ⟨_, rfl⟩
  have mkI := make_eq 24 3 (.int .i64 0) 8 infoInt Try.underlying24 rfl n hn (by omega)
  have mkB := make_eq 47 4 (.bool false) 1 infoBool Try.underlying47 rfl n hn (by omega)
  have mkT := make_eq 48 47 (.slice none 0 0) 24 infoBools Try.underlying48 rfl n hn (by omega)
  rw [← hZI.out] at mkI
  rw [← hZB.out] at mkB
  rw [← hZT.out] at mkT
  have hI9 := refI_start w n ZI ZB ZT hZI.out hZB.out hZT.out
  have hB9 : Below w.heap.size w (w9 w n ZI ZB ZT) := by
    unfold w9
    repeat' (first | exact Below.refl _ _ | refine Below.alloc ?_ (by simp <;> omega) _)
  have hs9 : w.heap.size ≤ (w9 w n ZI ZB ZT).heap.size := hB9.size
  have hrel0 : Hid (InR w (w9 w n ZI ZB ZT).heap.size n 0 (w9 w n ZI ZB ZT)) := ⟨_, _, _, hI9, hB9, Nat.le_refl _⟩
  clear hI9 hB9
  unfold w9 at hrel0 hs9
  have hEH := Lib.hid hE
  clear hE
  go_enter Try.func9, Try.ntmps9
  go_wp2_with fail
  obtain ⟨W9, hW9⟩ : ∃ W, W = w9 w n ZI ZB ZT := ⟨_, rfl⟩
  unfold w9 at hW9
  rw [← hW9] at hrel0 hs9 ⊢
  obtain ⟨B2, hB2⟩ : ∃ B2, B2 = W9.heap.size := ⟨_, rfl⟩
  rw [← hB2] at hrel0 hs9
  have hrel1 := hrel0.out
  clear hrel0 hW9 hB2
  obtain ⟨k0, hi0, hz0, hz1, hz2⟩ := info_parts infoInts'
  have hKi := Lib.hid hi0; have hKz := Lib.hid hz0; have hKs := Lib.hid hz1; have hKb := Lib.hid hz2
  clear hi0 hz0 hz1 hz2 mkT
  go_loopw [9] (fun t wr => ∃ k : Nat, k ≤ n ∧ t = .int .i64 k ∧ InR w B2 n k wr) (fun t _ => n - (intOf t).toNat)
  case atStart => exact ⟨0, Nat.zero_le _, rfl, hrel1⟩
  case round =>
    clear hrel1
    obtain ⟨k, hk, rfl, ib, bb, vw, hI, hB, hBw⟩ := hrel
    have n0 : wr.cell? ⟨w.heap.size, 0, none⟩ = some (.int .i64 (n : Int)) := hI.rn.cell (i := 0) (by simp)
    by_cases hlt : k < n
    · have hkI : (k : Int) < (n : Int) := by omega
      have hh0 : wr.cell? ⟨w.heap.size + 1 + 1 + 1 + 1 + 1, 0, none⟩ = some (.slice (some ⟨ib 0, 0, none⟩) n n) := hI.rh.cell (i := 0) (by simp)
      have v0 : wr.cell? ⟨ib 0, k, none⟩ = some (.int .i64 (icI k 0 k)) := IntRow.at_ (hI.ri 0 (by omega)) hlt
      have vf : wr.frozen? ⟨ib 0, k, none⟩ = false := Row.frozen (hI.ri 0 (by omega)) k
      have hI1 : RefI (wr.setCell ⟨ib 0, k, none⟩ (.int .i64 100)) w.heap.size B2 n k k (k + 1) { b9 w.heap.size with ib := ib, bb := bb } vw := hI.have_
      have hB1 : Below w.heap.size w (wr.setCell ⟨ib 0, k, none⟩ (.int .i64 100)) := hB.setCell (p := ⟨ib 0, k, none⟩) (hI.li 0 (by omega)) _
      have hz1 : (wr.setCell ⟨ib 0, k, none⟩ (.int .i64 100)).heap.size = wr.heap.size := by simp
      generalize hw1 : wr.setCell ⟨ib 0, k, none⟩ (.int .i64 100) = w1 at *
      have n1 : w1.cell? ⟨w.heap.size, 0, none⟩ = some (.int .i64 (n : Int)) := hI1.rn.cell (i := 0) (by simp)
      have hrB : BRow (w1.alloc (.cells ZB.toArray 4)) w1.heap.size n (fun _ => false) := by
        have e : ZB = boolRow (fun _ => false) n := by
          rw [hZB.out]
          apply List.ext_getElem
          · simp [boolRow]
          · intro a h1 h2; simp [boolRow]
        have := Row.made w1 4 ZB
        unfold BRow
        rw [← e]; exact this
      have hg1 := World.grownBy_alloc w1 (.cells ZB.toArray 4) none
      have tcell : (w1.alloc (.cells ZB.toArray 4)).cell? ⟨w.heap.size + 1 + 1 + 1 + 1 + 1 + 1 + 1 + 1, k, none⟩ = some (.slice none 0 0) := by
        have hr : Row (w1.alloc (.cells ZB.toArray 4)) (w.heap.size + 1 + 1 + 1 + 1 + 1 + 1 + 1 + 1) 47 (ctop n k bb) := hI1.tc.alloc _
        rw [hr.cell (by simp [ctop]; exact hlt)]
        simp [ctop]
      have tfr : (w1.alloc (.cells ZB.toArray 4)).frozen? ⟨w.heap.size + 1 + 1 + 1 + 1 + 1 + 1 + 1 + 1, k, none⟩ = false := (hI1.tc.alloc _).frozen k
      have hI2 : RefI ((w1.alloc (.cells ZB.toArray 4)).setCell ⟨w.heap.size + 1 + 1 + 1 + 1 + 1 + 1 + 1 + 1, k, none⟩ (.slice (some ⟨w1.heap.size, 0, none⟩) n n)) w.heap.size B2 n k (k + 1) (k + 1) { b9 w.heap.size with ib := ib, bb := up1 bb (k + 1) w1.heap.size } vw := hI1.closed_ (by rw [hz1]; exact hB.size) hrB hg1
      have hB2' : Below w.heap.size w ((w1.alloc (.cells ZB.toArray 4)).setCell ⟨w.heap.size + 1 + 1 + 1 + 1 + 1 + 1 + 1 + 1, k, none⟩ (.slice (some ⟨w1.heap.size, 0, none⟩) n n)) := (hB1.alloc hB1.size _).setCell (p := ⟨w.heap.size + 1 + 1 + 1 + 1 + 1 + 1 + 1 + 1, k, none⟩) (by show w.heap.size ≤ w.heap.size + 1 + 1 + 1 + 1 + 1 + 1 + 1 + 1; omega) _
      have hz2 : B2 ≤ ((w1.alloc (.cells ZB.toArray 4)).setCell ⟨w.heap.size + 1 + 1 + 1 + 1 + 1 + 1 + 1 + 1, k, none⟩ (.slice (some ⟨w1.heap.size, 0, none⟩) n n)).heap.size := by simp; omega
      rw [hz1] at hI2 hB2' hz2
      clear hI hB hI1 hB1 hrB hg1
      go_wp2_with fail
      generalize hw2 : (w1.alloc (.cells ZB.toArray 4)).setCell ⟨w.heap.size + 1 + 1 + 1 + 1 + 1 + 1 + 1 + 1, k, none⟩ (.slice (some ⟨wr.heap.size, 0, none⟩) n n) = w2 at *
      clear hw1 hw2 n0 n1 hh0 v0 vf tcell tfr hz1
      have n2 : w2.cell? ⟨w.heap.size, 0, none⟩ = some (.int .i64 (n : Int)) := hI2.rn.cell (i := 0) (by simp)
      have o3 : w2.cell? ⟨w.heap.size + 1 + 1 + 1, 3, none⟩ = some vw := hI2.ro.cell (i := 3) (by simp)
      obtain ⟨Aw, capw, hvw, hcw1, hcw2⟩ := owns_shape hI2.ow
      subst hvw
      have hI3 : RefI ((w2.alloc (.cells ZI.toArray 3)).alloc (.cells #[.slice (some ⟨w2.heap.size, 0, none⟩) n n] 24)) w.heap.size B2 n k (k + 1) (k + 1) { b9 w.heap.size with ib := ib, bb := up1 bb (k + 1) wr.heap.size } (.slice Aw k capw) := hI2.blocks fun g _ hg => by
        rw [Below.heap_alloc _ _ g (by simp; omega), Below.heap_alloc _ _ g hg]
      have hI2H := Lib.hid hI2
      have hI3H := Lib.hid hI3
      have hown : Hid (∀ w' : World, w'.heap = ((w2.alloc (.cells ZI.toArray 3)).alloc (.cells #[.slice (some ⟨w2.heap.size, 0, none⟩) n n] 24)).heap → w'.ownsRow B2 24 1 (.slice Aw k capw) k (wtop n k ib)) := fun w' e => owns_block hI3.ow (fun g _ => by rw [e])
      have hrI : Hid (IntRow ((w2.alloc (.cells ZI.toArray 3)).alloc (.cells #[.slice (some ⟨w2.heap.size, 0, none⟩) n n] 24)) w2.heap.size n (fun _ => 0)) := by
        have e : ZI = intRow (fun _ => 0) n := by rw [hZI.out, intRow_zero]
        have := (Row.made w2 3 ZI).alloc (.cells #[.slice (some ⟨w2.heap.size, 0, none⟩) n n] 24)
        unfold Hid IntRow
        rw [← e]; exact this
      have hneo : Hid ((Value.slice Aw k capw).ownBlock ≠ some (w.heap.size + 1 + 1 + 1)) := owns_ne_row hI3.ow hI3.ro (by decide)
      have hltv : Hid (∀ c, (Value.slice Aw k capw).ownBlock = some c → B2 ≤ c ∧ c < w2.heap.size) := fun c hc => World.ownsRow.lt hI2.ow c hc
      clear hI2 hI3
      have hbo2 : w.heap.size + 1 + 1 + 1 < w2.heap.size := hI2H.out.ro.lt
      have a1 := cell_allocV (.cells ZI.toArray 3) o3 hbo2
      have a2 := cell_allocV (.cells #[.slice (some ⟨w2.heap.size, 0, none⟩) n n] 24) a1 (by simp; omega)
      have hnews : Hid (∀ w' : World, w'.heap = ((w2.alloc (.cells ZI.toArray 3)).alloc (.cells #[.slice (some ⟨w2.heap.size, 0, none⟩) n n] 24)).heap → ∀ j u, [Value.slice (some ⟨w2.heap.size, 0, none⟩) n n][j]? = some u → w'.cell? ((⟨w2.heap.size + 1, 0, none⟩ : Addr).add j) = some u) := fun w' e => World.news_of_block (cs := #[.slice (some ⟨w2.heap.size, 0, none⟩) n n]) (t := 24) (fr := (0, 0)) (by
        rw [e]
        have := heap_alloc_new (w2.alloc (.cells ZI.toArray 3)) (.cells #[.slice (some ⟨w2.heap.size, 0, none⟩) n n] 24)
        have e2 : (w2.alloc (.cells ZI.toArray 3)).heap.size = w2.heap.size + 1 := by simp
        rw [e2] at this
        exact this)
      go_region_law
        ((refine step_append_lies _ (by rfl) _ _ _ (by rfl) B2 24 k0 (.slice none 0 0) 1 24 Try.underlying25 hKi.out hKz.out hKs.out hKb.out (by rfl) (by decide) (.slice Aw k capw) k (wtop n k ib) (by rfl) (hown.out _ rfl) ⟨w2.heap.size + 1, 0, none⟩ 1 1 [.slice (some ⟨w2.heap.size, 0, none⟩) n n] (by rfl) (by rfl) (hnews.out _ rfl) (by simp [Value.oneCell']) (by omega) (by unfold maxLen; omega) (by omega) (by simp; omega) (w2.heap.size + 1 + 1) (by simp) ?_; intro ga capa wa howna hgrowa hata hltga; have hgr : ((w2.alloc (.cells ZI.toArray 3)).alloc (.cells #[.slice (some ⟨w2.heap.size, 0, none⟩) n n] 24)).grownBy wa (Value.slice Aw k capw).ownBlock := ⟨hgrowa.os, hgrowa.tape, hgrowa.output, hgrowa.size, hgrowa.block⟩; have c3 : wa.cell? ⟨w.heap.size + 1 + 1 + 1, 3, none⟩ = some (.slice Aw k capw) := hgr.cell (hI3H.out.ro.cell (i := 3) (by simp)) (fun e => hneo.out e.symm); have cf : wa.frozen? ⟨w.heap.size + 1 + 1 + 1, 3, none⟩ = false := (hI3H.out.ro.grown hgr (fun e => hneo.out e.symm)).frozen 3))
      all_goals
        have hIn : RefI (wa.setCell ⟨w.heap.size + 1 + 1 + 1, 3, none⟩ (.slice (some ⟨ga, 0, none⟩) (k + 1) capa)) w.heap.size B2 n (k + 1) (k + 1) (k + 1) { b9 w.heap.size with ib := up1 ib (k + 2) w2.heap.size, bb := up1 bb (k + 1) wr.heap.size } (.slice (some ⟨ga, 0, none⟩) (k + 1) capa) :=
          hI2H.out.way_ (g := w2.heap.size) (by omega) (Nat.le_refl _) (Row.grown hrI.out hgr (fun e => by have := (hltv.out _ e.symm).2; omega)) (fun c hc hne => by
            rw [hgr.block c (by simp; omega) hne, Below.heap_alloc _ _ c (by simp; omega), Below.heap_alloc _ _ c hc]) howna
        have hBn : Below w.heap.size w (wa.setCell ⟨w.heap.size + 1 + 1 + 1, 3, none⟩ (.slice (some ⟨ga, 0, none⟩) (k + 1) capa)) :=
          (((hB2'.alloc hB2'.size (.cells ZI.toArray 3)).alloc (by simp; omega) (.cells #[.slice (some ⟨w2.heap.size, 0, none⟩) n n] 24)).grown hgr (by simp; omega) (fun c hc => by have := (hltv.out c hc).1; omega)).setCell (p := ⟨w.heap.size + 1 + 1 + 1, 3, none⟩) (by show w.heap.size ≤ w.heap.size + 1 + 1 + 1; omega) _
        have hzn : B2 ≤ (wa.setCell ⟨w.heap.size + 1 + 1 + 1, 3, none⟩ (.slice (some ⟨ga, 0, none⟩) (k + 1) capa)).heap.size := by have := hgr.size; simp at this ⊢; omega
        have hInH := Lib.hid hIn
        clear hIn howna hgrowa hata hltga hgr c3 cf
        go_wp2_with fail
        go_roundw
        case rel => exact ⟨k + 1, by omega, by go_num, _, _, _, hInH.out, hBn, hzn⟩
        case measure => simp [intOf]; omega
    · have hkn : n = k := by omega
      subst hkn
      have hRM := hI.done hB.size
      have hBM := hB.alloc hB.size (.cells #[.slice none 0 0] 49)
      obtain ⟨Tw, capw, hvw, _, _⟩ := World.ownsRow.form hI.ow (by omega)
      subst hvw
      have hlenI : (l.length : Int) ≤ 60 := by omega
      clear mkI mkB hZI hZB hZT hBw hI hB
      have hrel2 : SnR w B2 n ⟨w.heap.size, w.heap.size + 1, w.heap.size + 1 + 1 + 1, w.heap.size + 1 + 1 + 1 + 1 + 1, w.heap.size + 1 + 1 + 1 + 1 + 1 + 1 + 1, wr.heap.size, w.heap.size + 1 + 1 + 1 + 1 + 1 + 1 + 1 + 1, ib, bb⟩ (.slice (some ⟨Tw, 0, none⟩) n capw) l 0 (wr.alloc (.cells #[.slice none 0 0] 49)) := ⟨_, _, [], hRM, LS.begin n, Nat.le_refl _, hBM⟩
      clear hRM hBM
      go_wp2_with fail
      generalize wr.alloc (.cells #[.slice none 0 0] 49) = w3 at *
      generalize wr.heap.size = bw at *
      clear n0
      generalize w.heap.size + 1 + 1 + 1 + 1 + 1 + 1 + 1 + 1 = Tc at *
      generalize w.heap.size + 1 + 1 + 1 + 1 + 1 + 1 + 1 = br at *
      generalize w.heap.size + 1 + 1 + 1 + 1 + 1 + 1 = gr0 at *
      generalize w.heap.size + 1 + 1 + 1 + 1 + 1 = bh at *
      generalize w.heap.size + 1 + 1 + 1 + 1 = gh0 at *
      generalize w.heap.size + 1 + 1 + 1 = bo at *
      generalize w.heap.size + 1 + 1 = gk0 at *
      generalize w.heap.size + 1 = bR at *
      obtain ⟨j0, hi0, hz0, hz1, hz2⟩ := info_parts infoErr'
      have hEi := Lib.hid hi0; have hEz := Lib.hid hz0; have hEs := Lib.hid hz1; have hEb := Lib.hid hz2
      clear hi0 hz0 hz1 hz2
      obtain ⟨j1, hi0, hz0, hz1, hz2⟩ := info_parts infoLt
      have hLi := Lib.hid hi0; have hLz := Lib.hid hz0; have hLs := Lib.hid hz1; have hLb := Lib.hid hz2
      clear hi0 hz0 hz1 hz2 hKi hKz hKs hKb
      go_loopw [51] (fun t wr => ∃ k : Nat, k ≤ l.length ∧ t = .int .i64 k ∧ SnR w B2 n ⟨w.heap.size, bR, bo, bh, br, bw, Tc, ib, bb⟩ (.slice (some ⟨Tw, 0, none⟩) n capw) l k wr) (fun t _ => l.length - (intOf t).toNat)
      case atStart => exact ⟨0, Nat.zero_le _, rfl, hrel2⟩
      case round =>
        clear hrel2 hk hlt
        obtain ⟨k, hk, rfl, vl, vc, L, hR, hLS, hLl, hB⟩ := hrel
        rename World => wq
        by_cases hlt : k < l.length
        · have hkI : (k : Int) < (l.length : Int) := by omega
          obtain ⟨b0, off, rfl, hb0, hcc⟩ := (hEH.out.below hB) (by omega)
          obtain ⟨c0, c1, c2, c3⟩ := hcc k hlt
          clear hcc
          rw [mv_get l hlt] at c0 c1 c2 c3
          have hinv := Lib.hid (SInv.at_ n l k)
          have hstS : Hid (stAt n l (k + 1) = (stepS n (stAt n l k) (mv l k)).1) := rfl
          have hstC : Hid (codeAt n l k = (stepS n (stAt n l k) (mv l k)).2) := rfl
          have hcodes : Hid (codesTo n l (k + 1) = codesTo n l k ++ [codeAt n l k]) := by
            unfold Hid codesTo
            rw [List.range_succ, List.map_append]
            rfl
          have hcl60 : (codesTo n l k).length ≤ 60 := by simp [codesTo]; omega
          generalize mv l k = m at *
          generalize codesTo n l k = cs at *
          generalize codeAt n l k = cd at *
          generalize stAt n l k = S at *
          have hsk := Lib.hid (step_kind (n := n) (S := S) (m := m))
          have hsm := Lib.hid (step_mark (n := n) (S := S) (m := m))
          have hsa := Lib.hid (step_arg (n := n) (S := S) (m := m))
          have hss := Lib.hid (step_send (n := n) (S := S) (m := m))
          have hst := Lib.hid (step_take (n := n) (S := S) (m := m))
          generalize stepS n S m = R at *
          obtain ⟨km, fm, tm, vm⟩ := m
          simp only at *
          have hRa := hR.alloc (.cells #[.int .i64 km, .int .i64 fm, .int .i64 tm, .int .i64 vm] 39)
          have hBa := hB.alloc hB.size (.cells #[.int .i64 km, .int .i64 fm, .int .i64 tm, .int .i64 vm] 39)
          have hMa := Row.made wq 39 [.int .i64 km, .int .i64 fm, .int .i64 tm, .int .i64 vm]
          obtain ⟨Al, capl, hvl, hcl1, hcl2, hAt⟩ := hRa.ol.shape
          subst hvl
          have l0 : (wq.alloc (.cells #[.int .i64 km, .int .i64 fm, .int .i64 tm, .int .i64 vm] 39)).cell? ⟨bw, 0, none⟩ = some (.slice Al L.length capl) := hRa.rl.cell (i := 0) (by simp)
          obtain ⟨r, hr⟩ := firstIs_ex L fm tm
          have hrH := Lib.hid hr
          have hRaH := Lib.hid hRa
          have hAtH := Lib.hid hAt
          clear hR hB hr hRa hAt
          go_wp2_with fail
          refine (first_any Al capl L fm tm _ hAtH.out (by omega) r hrH.out).mono ?_
          rintro e w2 ⟨rfl, hB2⟩
          have hR2 := Lib.hid (hRaH.out.below hB2)
          have hM2 := hMa.below hB2 hMa.lt
          have hBb := hBa.trans (hB2.mono hBa.size)
          have hsz2 : w.heap.size ≤ w2.heap.size := hBb.size
          clear hRaH hAtH hMa hB2 hBa l0 c0 c1 c2 c3
          generalize wq.heap.size = bm at *
          have m0 : w2.cell? ⟨bm, 0, none⟩ = some (.int .i64 km) := hM2.cell (i := 0) (by simp)
          have m1 : w2.cell? ⟨bm, 1, none⟩ = some (.int .i64 fm) := hM2.cell (i := 1) (by simp)
          have m2 : w2.cell? ⟨bm, 2, none⟩ = some (.int .i64 tm) := hM2.cell (i := 2) (by simp)
          have m3 : w2.cell? ⟨bm, 3, none⟩ = some (.int .i64 vm) := hM2.cell (i := 3) (by simp)
          have n2 : w2.cell? ⟨w.heap.size, 0, none⟩ = some (.int .i64 (n : Int)) := hR2.out.rn.cell (i := 0) (by simp)
          have hM2H := Lib.hid hM2
          clear hM2
          by_cases hk1 : km < 1
          · have hSX := Lib.hid (hsk.out (.inl hk1))
            have hRX := hR2
            have hBX := hBb
            have hLX := Lib.hid hLS
            have hLlX : Hid (L.length ≤ 6 * (k + 1)) := by unfold Hid; omega
            
            clear hsk hsm hsa hss hst hLS
            have hcd : Hid (cd = 6) := by unfold Hid; rw [hstC.out, hSX.out]
            have hSt : Hid (stAt n l (k + 1) = S) := by unfold Hid; rw [hstS.out, hSX.out]
            obtain ⟨Ac, capc, hvc, hcc1, hcc2⟩ := owns_shape hRX.out.oc
            subst hvc
            have hRY := Lib.hid (hRX.out.alloc (.cells #[.int .i64 (6)] 28))
            have hBY := hBX.alloc hBX.size (.cells #[.int .i64 (6)] 28)
            have o0 : w2.cell? ⟨bo, 0, none⟩ = some (.slice Ac cs.length capc) := hRX.out.ro.cell (i := 0) (by simp)
            have hWa := hRY.out.oc
            have hnews := Lib.hid (newsV (w := w2) (.int .i64 (6)) 28 rfl)
            have hbase : w.heap.size ≤ (w2.alloc (.cells #[.int .i64 (6)] 28)).heap.size := by have := hBX.size; simp; omega
            have hneo : Hid ((Value.slice Ac cs.length capc).ownBlock ≠ some bo) := owns_ne_row hRX.out.oc hRX.out.ro (by decide)
            have hltc : Hid (∀ x, (Value.slice Ac cs.length capc).ownBlock = some x → w.heap.size ≤ x) := fun x hx => (World.ownsRow.lt hRX.out.oc x hx).1
            have hlo : w.heap.size ≤ bo := hRX.out.lo.2.1
            clear hBX
            go_wp2_with (first
              | (at_builtin; refine wpList_append_lies _ rfl (.tmp 210) (.tmp 212) 23 rfl w.heap.size 28 j0 (.int .i64 0) 1 8 Try.underlying23 hEi.out hEz.out hEs.out hEb.out rfl (by decide) (.slice Ac cs.length capc) cs.length (intVals cs) rfl hWa ⟨w2.heap.size, 0, none⟩ 1 1 [.int .i64 (6)] rfl rfl hnews.out (by simp [Value.oneCell']) (by omega) (by unfold maxLen; omega) (by omega) hbase _ rfl ?_; intro ga capa wa howna hgrowa hata hltga
                 have x0 : wa.cell? ⟨bo, 0, none⟩ = some (.slice Ac cs.length capc) := hgrowa.cell (hRY.out.ro.cell (i := 0) (by simp)) (fun e => hneo.out e.symm)
                 have xf : wa.frozen? ⟨bo, 0, none⟩ = false := (hRY.out.ro.grown hgrowa (fun e => hneo.out e.symm)).frozen 0
                 have hRZ := Lib.hid (hRY.out.setC (cs' := cs ++ [6]) (vc' := .slice (some ⟨ga, 0, none⟩) (cs.length + 1) capa) hgrowa (by rw [List.length_append, show intVals (cs ++ [6]) = intVals cs ++ [.int .i64 (6)] by simp [intVals]]; exact howna))
                 have hBZ : Below w.heap.size w (wa.setCell ⟨bo, 0, none⟩ (.slice (some ⟨ga, 0, none⟩) (cs.length + 1) capa)) := (hBY.grown hgrowa hbase hltc.out).setCell (p := ⟨bo, 0, none⟩) hlo _
                 clear howna hgrowa hata hltga hWa hBY))
            go_roundw
            case rel => exact ⟨k + 1, by omega, by go_num, _, _, L, by rw [hSt.out, hcodes.out, hcd.out]; exact hRZ.out, by rw [hSt.out]; exact hLX.out, hLlX.out, hBZ⟩
            case measure => simp [intOf]; omega
          by_cases hk3 : 3 < km
          · have hSX := Lib.hid (hsk.out (.inr hk3))
            have hRX := hR2
            have hBX := hBb
            have hLX := Lib.hid hLS
            have hLlX : Hid (L.length ≤ 6 * (k + 1)) := by unfold Hid; omega
            
            clear hsk hsm hsa hss hst hLS
            have hcd : Hid (cd = 6) := by unfold Hid; rw [hstC.out, hSX.out]
            have hSt : Hid (stAt n l (k + 1) = S) := by unfold Hid; rw [hstS.out, hSX.out]
            obtain ⟨Ac, capc, hvc, hcc1, hcc2⟩ := owns_shape hRX.out.oc
            subst hvc
            have hRY := Lib.hid (hRX.out.alloc (.cells #[.int .i64 (6)] 28))
            have hBY := hBX.alloc hBX.size (.cells #[.int .i64 (6)] 28)
            have o0 : w2.cell? ⟨bo, 0, none⟩ = some (.slice Ac cs.length capc) := hRX.out.ro.cell (i := 0) (by simp)
            have hWa := hRY.out.oc
            have hnews := Lib.hid (newsV (w := w2) (.int .i64 (6)) 28 rfl)
            have hbase : w.heap.size ≤ (w2.alloc (.cells #[.int .i64 (6)] 28)).heap.size := by have := hBX.size; simp; omega
            have hneo : Hid ((Value.slice Ac cs.length capc).ownBlock ≠ some bo) := owns_ne_row hRX.out.oc hRX.out.ro (by decide)
            have hltc : Hid (∀ x, (Value.slice Ac cs.length capc).ownBlock = some x → w.heap.size ≤ x) := fun x hx => (World.ownsRow.lt hRX.out.oc x hx).1
            have hlo : w.heap.size ≤ bo := hRX.out.lo.2.1
            clear hBX
            go_wp2_with (first
              | (at_builtin; refine wpList_append_lies _ rfl (.tmp 210) (.tmp 212) 23 rfl w.heap.size 28 j0 (.int .i64 0) 1 8 Try.underlying23 hEi.out hEz.out hEs.out hEb.out rfl (by decide) (.slice Ac cs.length capc) cs.length (intVals cs) rfl hWa ⟨w2.heap.size, 0, none⟩ 1 1 [.int .i64 (6)] rfl rfl hnews.out (by simp [Value.oneCell']) (by omega) (by unfold maxLen; omega) (by omega) hbase _ rfl ?_; intro ga capa wa howna hgrowa hata hltga
                 have x0 : wa.cell? ⟨bo, 0, none⟩ = some (.slice Ac cs.length capc) := hgrowa.cell (hRY.out.ro.cell (i := 0) (by simp)) (fun e => hneo.out e.symm)
                 have xf : wa.frozen? ⟨bo, 0, none⟩ = false := (hRY.out.ro.grown hgrowa (fun e => hneo.out e.symm)).frozen 0
                 have hRZ := Lib.hid (hRY.out.setC (cs' := cs ++ [6]) (vc' := .slice (some ⟨ga, 0, none⟩) (cs.length + 1) capa) hgrowa (by rw [List.length_append, show intVals (cs ++ [6]) = intVals cs ++ [.int .i64 (6)] by simp [intVals]]; exact howna))
                 have hBZ : Below w.heap.size w (wa.setCell ⟨bo, 0, none⟩ (.slice (some ⟨ga, 0, none⟩) (cs.length + 1) capa)) := (hBY.grown hgrowa hbase hltc.out).setCell (p := ⟨bo, 0, none⟩) hlo _
                 clear howna hgrowa hata hltga hWa hBY))
            go_roundw
            case rel => exact ⟨k + 1, by omega, by go_num, _, _, L, by rw [hSt.out, hcodes.out, hcd.out]; exact hRZ.out, by rw [hSt.out]; exact hLX.out, hLlX.out, hBZ⟩
            case measure => simp [intOf]; omega
          by_cases hkm : km = 3
          · have hmark := hsm.out hkm
            clear hsk hsm hsa hss hst hk1 hk3
            subst hkm
            by_cases hf : 0 ≤ fm ∧ fm < n
            · rw [if_neg (fun h => h hf)] at hmark
              have hfH := Lib.hid hf
              obtain ⟨i, rfl⟩ : ∃ i : Nat, fm = (i : Int) := ⟨fm.toNat, by omega⟩
              have hin : i < n := by omega
              have hiI : (i : Int) < (n : Int) := by omega
              rw [Int.toNat_natCast] at hmark
              clear hf
              by_cases hrc : S.rc i = true
              · rw [if_pos hrc] at hmark
                have hSX := Lib.hid hmark
                clear hmark
                as_aux_lemma =>
                  go_wp2_with fail
                  refine (ends_any w2 n ⟨3, (i : Int), tm, vm⟩ false true ⟨fun _ => ⟨hfH.out, fun h => absurd h (by decide)⟩, fun _ => rfl⟩).mono ?_
                  rintro e w4 ⟨rfl, hB4'⟩
                  have hR4 := Lib.hid (hR2.out.below hB4')
                  have hM4 := hM2H.out.below hB4' hM2H.out.lt
                  have hB4 := hBb.trans (hB4'.mono hsz2)
                  clear hR2 hM2H hB4' hBb m0 m1 m2 m3 n2
                  have m0 : w4.cell? ⟨bm, 0, none⟩ = some (.int .i64 3) := hM4.cell (i := 0) (by simp)
                  have m1 : w4.cell? ⟨bm, 1, none⟩ = some (.int .i64 (i : Int)) := hM4.cell (i := 1) (by simp)
                  have m2 : w4.cell? ⟨bm, 2, none⟩ = some (.int .i64 tm) := hM4.cell (i := 2) (by simp)
                  have m3 : w4.cell? ⟨bm, 3, none⟩ = some (.int .i64 vm) := hM4.cell (i := 3) (by simp)
                  have n4 : w4.cell? ⟨w.heap.size, 0, none⟩ = some (.int .i64 (n : Int)) := hR4.out.rn.cell (i := 0) (by simp)
                  have hsz4 : w.heap.size ≤ w4.heap.size := hB4.size
                  have hM4H := Lib.hid hM4
                  clear hM4
                
                  have r0 : w4.cell? ⟨br, 0, none⟩ = some (.slice (some ⟨bb 0, 0, none⟩) n n) := hR4.out.rr.cell (i := 0) (by simp)
                  have r1 : w4.cell? ⟨bb 0, i, none⟩ = some (.bool true) := by
                    have := BRow.at_ (hR4.out.rb 0 (by omega)) hin
                    rw [show bc S 0 i = true from hrc] at this
                    exact this
                  clear hrc
                  have hRX := hR4
                  have hBX := hB4
                  have hLX := Lib.hid hLS
                  have hLlX : Hid (L.length ≤ 6 * (k + 1)) := by unfold Hid; omega
                  clear hLS
                  have hcd : Hid (cd = 7) := by unfold Hid; rw [hstC.out, hSX.out]
                  have hSt : Hid (stAt n l (k + 1) = S) := by unfold Hid; rw [hstS.out, hSX.out]
                  obtain ⟨Ac, capc, hvc, hcc1, hcc2⟩ := owns_shape hRX.out.oc
                  subst hvc
                  have hRY := Lib.hid (hRX.out.alloc (.cells #[.int .i64 (7)] 28))
                  have hBY := hBX.alloc hBX.size (.cells #[.int .i64 (7)] 28)
                  have o0 : w4.cell? ⟨bo, 0, none⟩ = some (.slice Ac cs.length capc) := hRX.out.ro.cell (i := 0) (by simp)
                  have hWa := hRY.out.oc
                  have hnews := Lib.hid (newsV (w := w4) (.int .i64 (7)) 28 rfl)
                  have hbase : w.heap.size ≤ (w4.alloc (.cells #[.int .i64 (7)] 28)).heap.size := by have := hBX.size; simp; omega
                  have hneo : Hid ((Value.slice Ac cs.length capc).ownBlock ≠ some bo) := owns_ne_row hRX.out.oc hRX.out.ro (by decide)
                  have hltc : Hid (∀ x, (Value.slice Ac cs.length capc).ownBlock = some x → w.heap.size ≤ x) := fun x hx => (World.ownsRow.lt hRX.out.oc x hx).1
                  have hlo : w.heap.size ≤ bo := hRX.out.lo.2.1
                  clear hBX
                  go_wp2_with (first
                    | (at_builtin; refine wpList_append_lies _ rfl (.tmp 210) (.tmp 212) 23 rfl w.heap.size 28 j0 (.int .i64 0) 1 8 Try.underlying23 hEi.out hEz.out hEs.out hEb.out rfl (by decide) (.slice Ac cs.length capc) cs.length (intVals cs) rfl hWa ⟨w4.heap.size, 0, none⟩ 1 1 [.int .i64 (7)] rfl rfl hnews.out (by simp [Value.oneCell']) (by omega) (by unfold maxLen; omega) (by omega) hbase _ rfl ?_; intro ga capa wa howna hgrowa hata hltga
                       have x0 : wa.cell? ⟨bo, 0, none⟩ = some (.slice Ac cs.length capc) := hgrowa.cell (hRY.out.ro.cell (i := 0) (by simp)) (fun e => hneo.out e.symm)
                       have xf : wa.frozen? ⟨bo, 0, none⟩ = false := (hRY.out.ro.grown hgrowa (fun e => hneo.out e.symm)).frozen 0
                       have hRZ := Lib.hid (hRY.out.setC (cs' := cs ++ [7]) (vc' := .slice (some ⟨ga, 0, none⟩) (cs.length + 1) capa) hgrowa (by rw [List.length_append, show intVals (cs ++ [7]) = intVals cs ++ [.int .i64 (7)] by simp [intVals]]; exact howna))
                       have hBZ : Below w.heap.size w (wa.setCell ⟨bo, 0, none⟩ (.slice (some ⟨ga, 0, none⟩) (cs.length + 1) capa)) := (hBY.grown hgrowa hbase hltc.out).setCell (p := ⟨bo, 0, none⟩) hlo _
                       clear howna hgrowa hata hltga hWa hBY))
                  go_roundw
                  case rel => exact ⟨k + 1, by omega, by go_num, _, _, L, by rw [hSt.out, hcodes.out, hcd.out]; exact hRZ.out, by rw [hSt.out]; exact hLX.out, hLlX.out, hBZ⟩
                  case measure => simp [intOf]; omega
              · rw [if_neg hrc] at hmark
                have hSX := Lib.hid hmark
                clear hmark
                as_aux_lemma =>
                  go_wp2_with fail
                  refine (ends_any w2 n ⟨3, (i : Int), tm, vm⟩ false true ⟨fun _ => ⟨hfH.out, fun h => absurd h (by decide)⟩, fun _ => rfl⟩).mono ?_
                  rintro e w4 ⟨rfl, hB4'⟩
                  have hR4 := Lib.hid (hR2.out.below hB4')
                  have hM4 := hM2H.out.below hB4' hM2H.out.lt
                  have hB4 := hBb.trans (hB4'.mono hsz2)
                  clear hR2 hM2H hB4' hBb m0 m1 m2 m3 n2
                  have m0 : w4.cell? ⟨bm, 0, none⟩ = some (.int .i64 3) := hM4.cell (i := 0) (by simp)
                  have m1 : w4.cell? ⟨bm, 1, none⟩ = some (.int .i64 (i : Int)) := hM4.cell (i := 1) (by simp)
                  have m2 : w4.cell? ⟨bm, 2, none⟩ = some (.int .i64 tm) := hM4.cell (i := 2) (by simp)
                  have m3 : w4.cell? ⟨bm, 3, none⟩ = some (.int .i64 vm) := hM4.cell (i := 3) (by simp)
                  have n4 : w4.cell? ⟨w.heap.size, 0, none⟩ = some (.int .i64 (n : Int)) := hR4.out.rn.cell (i := 0) (by simp)
                  have hsz4 : w.heap.size ≤ w4.heap.size := hB4.size
                  have hM4H := Lib.hid hM4
                  clear hM4
                
                  have hrf : S.rc i = false := by simpa using hrc
                  have r0 : w4.cell? ⟨br, 0, none⟩ = some (.slice (some ⟨bb 0, 0, none⟩) n n) := hR4.out.rr.cell (i := 0) (by simp)
                  have r1 : w4.cell? ⟨bb 0, i, none⟩ = some (.bool false) := by
                    have := BRow.at_ (hR4.out.rb 0 (by omega)) hin
                    rw [show bc S 0 i = false from hrf] at this
                    exact this
                  have hrfH := Lib.hid hrf
                  clear hrc hrf
                  go_wp2_with fail
                  refine (rcl_no w4 w.heap.size B2 n _ S _ _ _ L cs hR4.out i hin hrfH.out hn (by omega) hsz4).mono ?_
                  rintro e w5 ⟨vl5, rfl, hR5, hB5, _⟩
                  have hRX := Lib.hid hR5
                  have hBX := hB4.trans hB5
                  have hLX := Lib.hid (hLS.record i)
                  have hLlX : Hid ((L ++ marksL i n).length ≤ 6 * (k + 1)) := by unfold Hid; rw [List.length_append]; have := marksL_len i n; omega
                  clear hLS hR4 hR5 hB4 hB5 m0 m1 m2 m3 n4 hM4H r0 r1
                  have hcd : Hid (cd = 0) := by unfold Hid; rw [hstC.out, hSX.out]
                  have hSt : Hid (stAt n l (k + 1) = (S.record n i)) := by unfold Hid; rw [hstS.out, hSX.out]
                  obtain ⟨Ac, capc, hvc, hcc1, hcc2⟩ := owns_shape hRX.out.oc
                  subst hvc
                  have hRY := Lib.hid (hRX.out.alloc (.cells #[.int .i64 (0)] 28))
                  have hBY := hBX.alloc hBX.size (.cells #[.int .i64 (0)] 28)
                  have o0 : w5.cell? ⟨bo, 0, none⟩ = some (.slice Ac cs.length capc) := hRX.out.ro.cell (i := 0) (by simp)
                  have hWa := hRY.out.oc
                  have hnews := Lib.hid (newsV (w := w5) (.int .i64 (0)) 28 rfl)
                  have hbase : w.heap.size ≤ (w5.alloc (.cells #[.int .i64 (0)] 28)).heap.size := by have := hBX.size; simp; omega
                  have hneo : Hid ((Value.slice Ac cs.length capc).ownBlock ≠ some bo) := owns_ne_row hRX.out.oc hRX.out.ro (by decide)
                  have hltc : Hid (∀ x, (Value.slice Ac cs.length capc).ownBlock = some x → w.heap.size ≤ x) := fun x hx => (World.ownsRow.lt hRX.out.oc x hx).1
                  have hlo : w.heap.size ≤ bo := hRX.out.lo.2.1
                  clear hBX
                  go_wp2_with (first
                    | (at_builtin; refine wpList_append_lies _ rfl (.tmp 210) (.tmp 212) 23 rfl w.heap.size 28 j0 (.int .i64 0) 1 8 Try.underlying23 hEi.out hEz.out hEs.out hEb.out rfl (by decide) (.slice Ac cs.length capc) cs.length (intVals cs) rfl hWa ⟨w5.heap.size, 0, none⟩ 1 1 [.int .i64 (0)] rfl rfl hnews.out (by simp [Value.oneCell']) (by omega) (by unfold maxLen; omega) (by omega) hbase _ rfl ?_; intro ga capa wa howna hgrowa hata hltga
                       have x0 : wa.cell? ⟨bo, 0, none⟩ = some (.slice Ac cs.length capc) := hgrowa.cell (hRY.out.ro.cell (i := 0) (by simp)) (fun e => hneo.out e.symm)
                       have xf : wa.frozen? ⟨bo, 0, none⟩ = false := (hRY.out.ro.grown hgrowa (fun e => hneo.out e.symm)).frozen 0
                       have hRZ := Lib.hid (hRY.out.setC (cs' := cs ++ [0]) (vc' := .slice (some ⟨ga, 0, none⟩) (cs.length + 1) capa) hgrowa (by rw [List.length_append, show intVals (cs ++ [0]) = intVals cs ++ [.int .i64 (0)] by simp [intVals]]; exact howna))
                       have hBZ : Below w.heap.size w (wa.setCell ⟨bo, 0, none⟩ (.slice (some ⟨ga, 0, none⟩) (cs.length + 1) capa)) := (hBY.grown hgrowa hbase hltc.out).setCell (p := ⟨bo, 0, none⟩) hlo _
                       clear howna hgrowa hata hltga hWa hBY))
                  go_roundw
                  case rel => exact ⟨k + 1, by omega, by go_num, _, _, (L ++ marksL i n), by rw [hSt.out, hcodes.out, hcd.out]; exact hRZ.out, by rw [hSt.out]; exact hLX.out, hLlX.out, hBZ⟩
                  case measure => simp [intOf]; omega
            · rw [if_pos hf] at hmark
              have hSX := Lib.hid hmark
              have hfH := Lib.hid hf
              clear hmark hf
              as_aux_lemma =>
                go_wp2_with fail
                refine (ends_any w2 n ⟨3, fm, tm, vm⟩ false false ⟨fun h => absurd h (by decide), fun h => absurd h.1 hfH.out⟩).mono ?_
                rintro e w4 ⟨rfl, hB4'⟩
                have hR4 := Lib.hid (hR2.out.below hB4')
                have hM4 := hM2H.out.below hB4' hM2H.out.lt
                have hB4 := hBb.trans (hB4'.mono hsz2)
                clear hR2 hM2H hB4' hBb m0 m1 m2 m3 n2
                have m0 : w4.cell? ⟨bm, 0, none⟩ = some (.int .i64 3) := hM4.cell (i := 0) (by simp)
                have m1 : w4.cell? ⟨bm, 1, none⟩ = some (.int .i64 fm) := hM4.cell (i := 1) (by simp)
                have m2 : w4.cell? ⟨bm, 2, none⟩ = some (.int .i64 tm) := hM4.cell (i := 2) (by simp)
                have m3 : w4.cell? ⟨bm, 3, none⟩ = some (.int .i64 vm) := hM4.cell (i := 3) (by simp)
                have n4 : w4.cell? ⟨w.heap.size, 0, none⟩ = some (.int .i64 (n : Int)) := hR4.out.rn.cell (i := 0) (by simp)
                have hsz4 : w.heap.size ≤ w4.heap.size := hB4.size
                have hM4H := Lib.hid hM4
                clear hM4
                have hRX := hR4
                have hBX := hB4
                have hLX := Lib.hid hLS
                have hLlX : Hid (L.length ≤ 6 * (k + 1)) := by unfold Hid; omega
                clear hLS
                have hcd : Hid (cd = 2) := by unfold Hid; rw [hstC.out, hSX.out]
                have hSt : Hid (stAt n l (k + 1) = S) := by unfold Hid; rw [hstS.out, hSX.out]
                obtain ⟨Ac, capc, hvc, hcc1, hcc2⟩ := owns_shape hRX.out.oc
                subst hvc
                have hRY := Lib.hid (hRX.out.alloc (.cells #[.int .i64 (2)] 28))
                have hBY := hBX.alloc hBX.size (.cells #[.int .i64 (2)] 28)
                have o0 : w4.cell? ⟨bo, 0, none⟩ = some (.slice Ac cs.length capc) := hRX.out.ro.cell (i := 0) (by simp)
                have hWa := hRY.out.oc
                have hnews := Lib.hid (newsV (w := w4) (.int .i64 (2)) 28 rfl)
                have hbase : w.heap.size ≤ (w4.alloc (.cells #[.int .i64 (2)] 28)).heap.size := by have := hBX.size; simp; omega
                have hneo : Hid ((Value.slice Ac cs.length capc).ownBlock ≠ some bo) := owns_ne_row hRX.out.oc hRX.out.ro (by decide)
                have hltc : Hid (∀ x, (Value.slice Ac cs.length capc).ownBlock = some x → w.heap.size ≤ x) := fun x hx => (World.ownsRow.lt hRX.out.oc x hx).1
                have hlo : w.heap.size ≤ bo := hRX.out.lo.2.1
                clear hBX
                go_wp2_with (first
                  | (at_builtin; refine wpList_append_lies _ rfl (.tmp 210) (.tmp 212) 23 rfl w.heap.size 28 j0 (.int .i64 0) 1 8 Try.underlying23 hEi.out hEz.out hEs.out hEb.out rfl (by decide) (.slice Ac cs.length capc) cs.length (intVals cs) rfl hWa ⟨w4.heap.size, 0, none⟩ 1 1 [.int .i64 (2)] rfl rfl hnews.out (by simp [Value.oneCell']) (by omega) (by unfold maxLen; omega) (by omega) hbase _ rfl ?_; intro ga capa wa howna hgrowa hata hltga
                     have x0 : wa.cell? ⟨bo, 0, none⟩ = some (.slice Ac cs.length capc) := hgrowa.cell (hRY.out.ro.cell (i := 0) (by simp)) (fun e => hneo.out e.symm)
                     have xf : wa.frozen? ⟨bo, 0, none⟩ = false := (hRY.out.ro.grown hgrowa (fun e => hneo.out e.symm)).frozen 0
                     have hRZ := Lib.hid (hRY.out.setC (cs' := cs ++ [2]) (vc' := .slice (some ⟨ga, 0, none⟩) (cs.length + 1) capa) hgrowa (by rw [List.length_append, show intVals (cs ++ [2]) = intVals cs ++ [.int .i64 (2)] by simp [intVals]]; exact howna))
                     have hBZ : Below w.heap.size w (wa.setCell ⟨bo, 0, none⟩ (.slice (some ⟨ga, 0, none⟩) (cs.length + 1) capa)) := (hBY.grown hgrowa hbase hltc.out).setCell (p := ⟨bo, 0, none⟩) hlo _
                     clear howna hgrowa hata hltga hWa hBY))
                go_roundw
                case rel => exact ⟨k + 1, by omega, by go_num, _, _, L, by rw [hSt.out, hcodes.out, hcd.out]; exact hRZ.out, by rw [hSt.out]; exact hLX.out, hLlX.out, hBZ⟩
                case measure => simp [intOf]; omega
          have hk12 : Hid (km = 1 ∨ km = 2) := by unfold Hid; omega
          have e3 : (km == 3) = false := by simp; omega
          have e3' : (km != 3) = true := by simp; omega
          by_cases hbad : ¬ (0 ≤ fm ∧ fm < n) ∨ ¬ (0 ≤ tm ∧ tm < n) ∨ fm = tm
          · have hSX := Lib.hid (hsa.out hk12.out hbad)
            have hbadH := Lib.hid hbad
            clear hsk hsm hsa hss hst hbad
            as_aux_lemma =>
              go_wp2_with fail
              refine (ends_any w2 n ⟨km, fm, tm, vm⟩ true false ⟨fun h => absurd h (by decide), fun h => by have h2 := h.2 rfl; have hb := hbadH.out; simp only at h h2; omega⟩).mono ?_
              rintro e w4 ⟨rfl, hB4'⟩
              have hR4 := Lib.hid (hR2.out.below hB4')
              have hM4 := hM2H.out.below hB4' hM2H.out.lt
              have hB4 := hBb.trans (hB4'.mono hsz2)
              clear hR2 hM2H hB4' hBb m0 m1 m2 m3 n2
              have m0 : w4.cell? ⟨bm, 0, none⟩ = some (.int .i64 km) := hM4.cell (i := 0) (by simp)
              have m1 : w4.cell? ⟨bm, 1, none⟩ = some (.int .i64 fm) := hM4.cell (i := 1) (by simp)
              have m2 : w4.cell? ⟨bm, 2, none⟩ = some (.int .i64 tm) := hM4.cell (i := 2) (by simp)
              have m3 : w4.cell? ⟨bm, 3, none⟩ = some (.int .i64 vm) := hM4.cell (i := 3) (by simp)
              have n4 : w4.cell? ⟨w.heap.size, 0, none⟩ = some (.int .i64 (n : Int)) := hR4.out.rn.cell (i := 0) (by simp)
              have hsz4 : w.heap.size ≤ w4.heap.size := hB4.size
              have hM4H := Lib.hid hM4
              clear hM4
              have hRX := hR4
              have hBX := hB4
              have hLX := Lib.hid hLS
              have hLlX : Hid (L.length ≤ 6 * (k + 1)) := by unfold Hid; omega
              clear hLS
              have hcd : Hid (cd = 2) := by unfold Hid; rw [hstC.out, hSX.out]
              have hSt : Hid (stAt n l (k + 1) = S) := by unfold Hid; rw [hstS.out, hSX.out]
              obtain ⟨Ac, capc, hvc, hcc1, hcc2⟩ := owns_shape hRX.out.oc
              subst hvc
              have hRY := Lib.hid (hRX.out.alloc (.cells #[.int .i64 (2)] 28))
              have hBY := hBX.alloc hBX.size (.cells #[.int .i64 (2)] 28)
              have o0 : w4.cell? ⟨bo, 0, none⟩ = some (.slice Ac cs.length capc) := hRX.out.ro.cell (i := 0) (by simp)
              have hWa := hRY.out.oc
              have hnews := Lib.hid (newsV (w := w4) (.int .i64 (2)) 28 rfl)
              have hbase : w.heap.size ≤ (w4.alloc (.cells #[.int .i64 (2)] 28)).heap.size := by have := hBX.size; simp; omega
              have hneo : Hid ((Value.slice Ac cs.length capc).ownBlock ≠ some bo) := owns_ne_row hRX.out.oc hRX.out.ro (by decide)
              have hltc : Hid (∀ x, (Value.slice Ac cs.length capc).ownBlock = some x → w.heap.size ≤ x) := fun x hx => (World.ownsRow.lt hRX.out.oc x hx).1
              have hlo : w.heap.size ≤ bo := hRX.out.lo.2.1
              clear hBX
              go_wp2_with (first
                | (at_builtin; refine wpList_append_lies _ rfl (.tmp 210) (.tmp 212) 23 rfl w.heap.size 28 j0 (.int .i64 0) 1 8 Try.underlying23 hEi.out hEz.out hEs.out hEb.out rfl (by decide) (.slice Ac cs.length capc) cs.length (intVals cs) rfl hWa ⟨w4.heap.size, 0, none⟩ 1 1 [.int .i64 (2)] rfl rfl hnews.out (by simp [Value.oneCell']) (by omega) (by unfold maxLen; omega) (by omega) hbase _ rfl ?_; intro ga capa wa howna hgrowa hata hltga
                   have x0 : wa.cell? ⟨bo, 0, none⟩ = some (.slice Ac cs.length capc) := hgrowa.cell (hRY.out.ro.cell (i := 0) (by simp)) (fun e => hneo.out e.symm)
                   have xf : wa.frozen? ⟨bo, 0, none⟩ = false := (hRY.out.ro.grown hgrowa (fun e => hneo.out e.symm)).frozen 0
                   have hRZ := Lib.hid (hRY.out.setC (cs' := cs ++ [2]) (vc' := .slice (some ⟨ga, 0, none⟩) (cs.length + 1) capa) hgrowa (by rw [List.length_append, show intVals (cs ++ [2]) = intVals cs ++ [.int .i64 (2)] by simp [intVals]]; exact howna))
                   have hBZ : Below w.heap.size w (wa.setCell ⟨bo, 0, none⟩ (.slice (some ⟨ga, 0, none⟩) (cs.length + 1) capa)) := (hBY.grown hgrowa hbase hltc.out).setCell (p := ⟨bo, 0, none⟩) hlo _
                   clear howna hgrowa hata hltga hWa hBY))
              go_roundw
              case rel => exact ⟨k + 1, by omega, by go_num, _, _, L, by rw [hSt.out, hcodes.out, hcd.out]; exact hRZ.out, by rw [hSt.out]; exact hLX.out, hLlX.out, hBZ⟩
              case measure => simp [intOf]; omega
          have hgoodH := Lib.hid hbad
          obtain ⟨i, rfl⟩ : ∃ i : Nat, fm = (i : Int) := ⟨fm.toNat, by omega⟩
          obtain ⟨j, rfl⟩ : ∃ j : Nat, tm = (j : Int) := ⟨tm.toNat, by omega⟩
          have hin : i < n := by omega
          have hjn : j < n := by omega
          have hij : i ≠ j := by omega
          have hiI : (i : Int) < (n : Int) := by omega
          have hjI : (j : Int) < (n : Int) := by omega
          have hge : Hid ((0 ≤ (i : Int) ∧ (i : Int) < n) ∧ ((0 ≤ (j : Int) ∧ (j : Int) < n) ∧ (j : Int) ≠ (i : Int))) := ⟨⟨by omega, by omega⟩, ⟨by omega, by omega⟩, by omega⟩
          clear hbad
          by_cases hkk : km = 2
          · have htk := hst.out hkk hgoodH.out
            rw [Int.toNat_natCast, Int.toNat_natCast] at htk
            clear hsk hsm hsa hss hst hk1 hk3 hkm e3 e3' hk12 hgoodH
            subst hkk
            rcases hrH.out with ⟨hrn, hno⟩ | ⟨q, hrq, hq1, hq2, hq3⟩
            · subst hrn
              have hqe : S.q i j = [] := by rw [hLS i j hin hjn hij]; exact vals_none hno
              rw [if_pos hqe] at htk
              have hSX := Lib.hid htk
              clear htk hqe hno hrH
              as_aux_lemma =>
                go_wp2_with fail
                refine (ends_any w2 n ⟨2, (i : Int), (j : Int), vm⟩ true true ⟨fun _ => ⟨hge.out.1, fun _ => hge.out.2⟩, fun _ => rfl⟩).mono ?_
                rintro e w4 ⟨rfl, hB4'⟩
                have hR4 := Lib.hid (hR2.out.below hB4')
                have hM4 := hM2H.out.below hB4' hM2H.out.lt
                have hB4 := hBb.trans (hB4'.mono hsz2)
                clear hR2 hM2H hB4' hBb m0 m1 m2 m3 n2
                have m0 : w4.cell? ⟨bm, 0, none⟩ = some (.int .i64 2) := hM4.cell (i := 0) (by simp)
                have m1 : w4.cell? ⟨bm, 1, none⟩ = some (.int .i64 (i : Int)) := hM4.cell (i := 1) (by simp)
                have m2 : w4.cell? ⟨bm, 2, none⟩ = some (.int .i64 (j : Int)) := hM4.cell (i := 2) (by simp)
                have m3 : w4.cell? ⟨bm, 3, none⟩ = some (.int .i64 vm) := hM4.cell (i := 3) (by simp)
                have n4 : w4.cell? ⟨w.heap.size, 0, none⟩ = some (.int .i64 (n : Int)) := hR4.out.rn.cell (i := 0) (by simp)
                have hsz4 : w.heap.size ≤ w4.heap.size := hB4.size
                have hM4H := Lib.hid hM4
                clear hM4
                have hRX := hR4
                have hBX := hB4
                have hLX := Lib.hid hLS
                have hLlX : Hid (L.length ≤ 6 * (k + 1)) := by unfold Hid; omega
                clear hLS
                have hcd : Hid (cd = 5) := by unfold Hid; rw [hstC.out, hSX.out]
                have hSt : Hid (stAt n l (k + 1) = S) := by unfold Hid; rw [hstS.out, hSX.out]
                obtain ⟨Ac, capc, hvc, hcc1, hcc2⟩ := owns_shape hRX.out.oc
                subst hvc
                have hRY := Lib.hid (hRX.out.alloc (.cells #[.int .i64 (5)] 28))
                have hBY := hBX.alloc hBX.size (.cells #[.int .i64 (5)] 28)
                have o0 : w4.cell? ⟨bo, 0, none⟩ = some (.slice Ac cs.length capc) := hRX.out.ro.cell (i := 0) (by simp)
                have hWa := hRY.out.oc
                have hnews := Lib.hid (newsV (w := w4) (.int .i64 (5)) 28 rfl)
                have hbase : w.heap.size ≤ (w4.alloc (.cells #[.int .i64 (5)] 28)).heap.size := by have := hBX.size; simp; omega
                have hneo : Hid ((Value.slice Ac cs.length capc).ownBlock ≠ some bo) := owns_ne_row hRX.out.oc hRX.out.ro (by decide)
                have hltc : Hid (∀ x, (Value.slice Ac cs.length capc).ownBlock = some x → w.heap.size ≤ x) := fun x hx => (World.ownsRow.lt hRX.out.oc x hx).1
                have hlo : w.heap.size ≤ bo := hRX.out.lo.2.1
                clear hBX
                go_wp2_with (first
                  | (at_builtin; refine wpList_append_lies _ rfl (.tmp 210) (.tmp 212) 23 rfl w.heap.size 28 j0 (.int .i64 0) 1 8 Try.underlying23 hEi.out hEz.out hEs.out hEb.out rfl (by decide) (.slice Ac cs.length capc) cs.length (intVals cs) rfl hWa ⟨w4.heap.size, 0, none⟩ 1 1 [.int .i64 (5)] rfl rfl hnews.out (by simp [Value.oneCell']) (by omega) (by unfold maxLen; omega) (by omega) hbase _ rfl ?_; intro ga capa wa howna hgrowa hata hltga
                     have x0 : wa.cell? ⟨bo, 0, none⟩ = some (.slice Ac cs.length capc) := hgrowa.cell (hRY.out.ro.cell (i := 0) (by simp)) (fun e => hneo.out e.symm)
                     have xf : wa.frozen? ⟨bo, 0, none⟩ = false := (hRY.out.ro.grown hgrowa (fun e => hneo.out e.symm)).frozen 0
                     have hRZ := Lib.hid (hRY.out.setC (cs' := cs ++ [5]) (vc' := .slice (some ⟨ga, 0, none⟩) (cs.length + 1) capa) hgrowa (by rw [List.length_append, show intVals (cs ++ [5]) = intVals cs ++ [.int .i64 (5)] by simp [intVals]]; exact howna))
                     have hBZ : Below w.heap.size w (wa.setCell ⟨bo, 0, none⟩ (.slice (some ⟨ga, 0, none⟩) (cs.length + 1) capa)) := (hBY.grown hgrowa hbase hltc.out).setCell (p := ⟨bo, 0, none⟩) hlo _
                     clear howna hgrowa hata hltga hWa hBY))
                go_roundw
                case rel => exact ⟨k + 1, by omega, by go_num, _, _, L, by rw [hSt.out, hcodes.out, hcd.out]; exact hRZ.out, by rw [hSt.out]; exact hLX.out, hLlX.out, hBZ⟩
                case measure => simp [intOf]; omega
            · subst hrq
              obtain ⟨hqe, hLP⟩ := hLS.pop hin hjn hij hq1 hq2 hq3
              rw [if_neg (by rw [hqe]; simp)] at htk
              have hqlen := hq1
              have hLPH := Lib.hid hLP
              have hqeH := Lib.hid hqe
              have hlen3 : Hid ((L.take q ++ L.drop (q + 1)).length ≤ 6 * k) := by unfold Hid; simp; omega
              clear hLP hqe hq2 hq3 hLS hrH
              by_cases hx0 : (lt_ L q).v = 0
              · rw [take_zero (by rw [hqeH.out, hx0])] at htk
                have hSX := Lib.hid htk
                clear htk
                by_cases hrc : S.rc j = true
                · have hrcH : Hid ((S.pop i j).recIf n j = S.pop i j) := if_pos hrc
                  rw [hrcH.out] at hSX
                  have hrcP := Lib.hid hrc
                  clear hrc
                  as_aux_lemma =>
                    go_wp2_with fail
                    refine (ends_any w2 n ⟨2, (i : Int), (j : Int), vm⟩ true true ⟨fun _ => ⟨hge.out.1, fun _ => hge.out.2⟩, fun _ => rfl⟩).mono ?_
                    rintro e w4 ⟨rfl, hB4'⟩
                    have hR4 := Lib.hid (hR2.out.below hB4')
                    have hM4 := hM2H.out.below hB4' hM2H.out.lt
                    have hB4 := hBb.trans (hB4'.mono hsz2)
                    clear hR2 hM2H hB4' hBb m0 m1 m2 m3 n2
                    have m0 : w4.cell? ⟨bm, 0, none⟩ = some (.int .i64 2) := hM4.cell (i := 0) (by simp)
                    have m1 : w4.cell? ⟨bm, 1, none⟩ = some (.int .i64 (i : Int)) := hM4.cell (i := 1) (by simp)
                    have m2 : w4.cell? ⟨bm, 2, none⟩ = some (.int .i64 (j : Int)) := hM4.cell (i := 2) (by simp)
                    have m3 : w4.cell? ⟨bm, 3, none⟩ = some (.int .i64 vm) := hM4.cell (i := 3) (by simp)
                    have n4 : w4.cell? ⟨w.heap.size, 0, none⟩ = some (.int .i64 (n : Int)) := hR4.out.rn.cell (i := 0) (by simp)
                    have hsz4 : w.heap.size ≤ w4.heap.size := hB4.size
                    have hM4H := Lib.hid hM4
                    clear hM4
                  
                    obtain ⟨Al4, capl4, hvl4, hcl41, hcl42, hAt4⟩ := hR4.out.ol.shape
                    injection hvl4 with e41 _ e43
                    subst e41 e43
                    obtain ⟨gl, hgl, _, y0, y1, y2⟩ := hAt4 q hq1
                    subst hgl
                    have l4 : w4.cell? ⟨bw, 0, none⟩ = some (.slice (some ⟨gl, 0, none⟩) L.length capl) := hR4.out.rl.cell (i := 0) (by simp)
                    have hqI : (q : Int) < (L.length : Int) := by omega
                    have hq0 : ¬ ((q : Int) < 0) := by omega
                    have hAtH := Lib.hid hAt4
                    clear hAt4 y0 y1
                    rw [hx0] at y2
                    clear hx0
                    go_wp2_with fail
                    refine (without_any gl capl L q w4 hAtH.out (by omega) hq1 hcl41 hcl42).mono ?_
                    rintro e w5 ⟨v5, rfl, hO5, hB5⟩
                    obtain ⟨A5, cap5, hv5, hc51, hc52, _⟩ := hO5.shape
                    subst hv5
                    have hO5' : OwnL w5 w.heap.size (.slice A5 (L.take q ++ L.drop (q + 1)).length cap5) (L.take q ++ L.drop (q + 1)) := by
                      refine ⟨hO5.1, ?_⟩
                      rcases hO5.2 with h7 | ⟨g7, c7, cur, hv, hb', rest⟩
                      · exact .inl h7
                      · exact .inr ⟨g7, c7, cur, hv, Nat.le_trans hsz4 hb', rest⟩
                    have hg45 : w4.grownBy w5 none := ⟨hB5.os, hB5.tape, hB5.output, hB5.size, fun g hg _ => hB5.block g hg⟩
                    have hR5 := Lib.hid (hR4.out.setL hg45 (.inl rfl) hO5')
                    have l5 : w5.cell? ⟨bw, 0, none⟩ = some (.slice (some ⟨gl, 0, none⟩) L.length capl) := (hB5.cell (p := ⟨bw, 0, none⟩) hR4.out.rl.lt).trans l4
                    have l5f : w5.frozen? ⟨bw, 0, none⟩ = false := (hR4.out.rl.below hB5 hR4.out.rl.lt).frozen 0
                    have hBs : Below w.heap.size w (w5.setCell ⟨bw, 0, none⟩ (.slice A5 (L.take q ++ L.drop (q + 1)).length cap5)) := (hB4.trans (hB5.mono hsz4)).setCell (p := ⟨bw, 0, none⟩) hR4.out.lo.2.2.2.2.1 _
                    have hM6 : Row (w5.setCell ⟨bw, 0, none⟩ (.slice A5 (L.take q ++ L.drop (q + 1)).length cap5)) bm 39 [.int .i64 2, .int .i64 (i : Int), .int .i64 (j : Int), .int .i64 vm] := (hM4H.out.below hB5 hM4H.out.lt).far (hM4H.out.ne hR4.out.rl (by decide)) _
                    generalize hLL : L.take q ++ L.drop (q + 1) = L1 at *
                    clear hLL hO5 hO5' hg45 hB5 hB4 hR4 hM4H y2 l4 hAtH m0 m1 m2 m3 n4
                    have m1 : (w5.setCell ⟨bw, 0, none⟩ (.slice A5 L1.length cap5)).cell? ⟨bm, 1, none⟩ = some (.int .i64 (i : Int)) := hM6.cell (i := 1) (by simp)
                    have m2 : (w5.setCell ⟨bw, 0, none⟩ (.slice A5 L1.length cap5)).cell? ⟨bm, 2, none⟩ = some (.int .i64 (j : Int)) := hM6.cell (i := 2) (by simp)
                    go_wp2_with fail
                    generalize w5.setCell ⟨bw, 0, none⟩ (.slice A5 L1.length cap5) = w6 at *
                    as_aux_lemma =>
                      clear l5 l5f
                      have hsz6 : w.heap.size ≤ w6.heap.size := hBs.size
                      have hR6 := Lib.hid (hR5.out.congr (T := S.pop i j) (fun x a _ _ => by rw [ic_same (S := S) (T := S.pop i j) rfl rfl rfl]) (fun x a _ _ => by rw [bc_same (S := S) (T := S.pop i j) rfl rfl]))
                      clear hR5
                      refine (rcl_yes w6 w.heap.size B2 n _ (S.pop i j) _ _ _ L1 cs hR6.out j hjn hrcP.out).mono ?_
                      rintro e w7 ⟨vl7, rfl, hR7p, hB7p, hK7⟩
                      have hR7 := Lib.hid hR7p
                      have hB7 := hBs.trans hB7p
                      have hM7 := hK7 _ _ hM6
                      have hLX : Hid (LS n L1 ((S.pop i j).close i j)) := hLPH.out.same rfl
                      have hLlX : Hid (L1.length ≤ 6 * (k + 1)) := by unfold Hid; have := hlen3.out; omega
                      clear hR7p hB7p hK7 hR6 hBs hM6 m1 m2
                      have m1 : w7.cell? ⟨bm, 1, none⟩ = some (.int .i64 (i : Int)) := hM7.cell (i := 1) (by simp)
                      have m2 : w7.cell? ⟨bm, 2, none⟩ = some (.int .i64 (j : Int)) := hM7.cell (i := 2) (by simp)
                      have t0 : w7.cell? ⟨Tc, i, none⟩ = some (.slice (some ⟨bb (i + 1), 0, none⟩) n n) := by
                        have hr : Row w7 Tc 47 (ctop n n bb) := hR7.out.tc
                        rw [hr.cell (by simp [ctop]; exact hin)]
                        simp [ctop, hin]
                      have t1 : w7.cell? ⟨bb (i + 1), j, none⟩ = some (.bool (bc (S.pop i j) (i + 1) j)) := BRow.at_ (hR7.out.rb (i + 1) (by omega)) hjn
                      have t2 : w7.frozen? ⟨bb (i + 1), j, none⟩ = false := Row.frozen (hR7.out.rb (i + 1) (by omega)) j
                      have hR8 := Lib.hid (hR7.out.setB (T := St.close (S.pop i j) i j) (x := i + 1) (by omega) j true (fun y a _ _ => by rw [ic_same (S := (S.pop i j)) (T := St.close (S.pop i j) i j) rfl rfl rfl]) (fun y a _ _ => bc_cl (S.pop i j) i j true (St.close (S.pop i j) i j) rfl rfl y a))
                      have hB8 : Below w.heap.size w (w7.setCell ⟨bb (i + 1), j, none⟩ (.bool true)) := hB7.setCell (p := ⟨bb (i + 1), j, none⟩) (hR7.out.lb (i + 1) (by omega)) _
                      generalize bc (S.pop i j) (i + 1) j = oldc at *
                      clear hR7 hB7 hM7
                      go_wp2_with fail
                      go_region
                      generalize hw8 : w7.setCell ⟨bb (i + 1), j, none⟩ (.bool true) = w8 at *
                      clear hw8 t0 t1 t2 m1 m2
                      have hRX := Lib.hid (hR8.out.blocks (w' := w8.drew) (fun _ _ _ => rfl))
                      have hBX := hB8.drew
                      clear hR8 hB8
                      generalize w8.drew = wx at *
                      as_aux_lemma =>
                        have hcd : Hid (cd = 0) := by unfold Hid; rw [hstC.out, hSX.out]
                        have hSt : Hid (stAt n l (k + 1) = ((S.pop i j).close i j)) := by unfold Hid; rw [hstS.out, hSX.out]
                        obtain ⟨Ac, capc, hvc, hcc1, hcc2⟩ := owns_shape hRX.out.oc
                        subst hvc
                        have hRY := Lib.hid (hRX.out.alloc (.cells #[.int .i64 (0)] 28))
                        have hBY := hBX.alloc hBX.size (.cells #[.int .i64 (0)] 28)
                        have o0 : wx.cell? ⟨bo, 0, none⟩ = some (.slice Ac cs.length capc) := hRX.out.ro.cell (i := 0) (by simp)
                        have hWa := hRY.out.oc
                        have hnews := Lib.hid (newsV (w := wx) (.int .i64 (0)) 28 rfl)
                        have hbase : w.heap.size ≤ (wx.alloc (.cells #[.int .i64 (0)] 28)).heap.size := by have := hBX.size; simp; omega
                        have hneo : Hid ((Value.slice Ac cs.length capc).ownBlock ≠ some bo) := owns_ne_row hRX.out.oc hRX.out.ro (by decide)
                        have hltc : Hid (∀ x, (Value.slice Ac cs.length capc).ownBlock = some x → w.heap.size ≤ x) := fun x hx => (World.ownsRow.lt hRX.out.oc x hx).1
                        have hlo : w.heap.size ≤ bo := hRX.out.lo.2.1
                        clear hBX
                        go_wp2_with (first
                          | (at_builtin; refine wpList_append_lies _ rfl (.tmp 210) (.tmp 212) 23 rfl w.heap.size 28 j0 (.int .i64 0) 1 8 Try.underlying23 hEi.out hEz.out hEs.out hEb.out rfl (by decide) (.slice Ac cs.length capc) cs.length (intVals cs) rfl hWa ⟨wx.heap.size, 0, none⟩ 1 1 [.int .i64 (0)] rfl rfl hnews.out (by simp [Value.oneCell']) (by omega) (by unfold maxLen; omega) (by omega) hbase _ rfl ?_; intro ga capa wa howna hgrowa hata hltga
                             have x0 : wa.cell? ⟨bo, 0, none⟩ = some (.slice Ac cs.length capc) := hgrowa.cell (hRY.out.ro.cell (i := 0) (by simp)) (fun e => hneo.out e.symm)
                             have xf : wa.frozen? ⟨bo, 0, none⟩ = false := (hRY.out.ro.grown hgrowa (fun e => hneo.out e.symm)).frozen 0
                             have hRZ := Lib.hid (hRY.out.setC (cs' := cs ++ [0]) (vc' := .slice (some ⟨ga, 0, none⟩) (cs.length + 1) capa) hgrowa (by rw [List.length_append, show intVals (cs ++ [0]) = intVals cs ++ [.int .i64 (0)] by simp [intVals]]; exact howna))
                             have hBZ : Below w.heap.size w (wa.setCell ⟨bo, 0, none⟩ (.slice (some ⟨ga, 0, none⟩) (cs.length + 1) capa)) := (hBY.grown hgrowa hbase hltc.out).setCell (p := ⟨bo, 0, none⟩) hlo _
                             clear howna hgrowa hata hltga hWa hBY))
                        go_roundw
                        case rel => exact ⟨k + 1, by omega, by go_num, _, _, L1, by rw [hSt.out, hcodes.out, hcd.out]; exact hRZ.out, by rw [hSt.out]; exact hLX.out, hLlX.out, hBZ⟩
                        case measure => simp [intOf]; omega
                · have hrcH : Hid ((S.pop i j).recIf n j = (S.pop i j).record n j) := if_neg hrc
                  rw [hrcH.out] at hSX
                  have hrcP : Hid (S.rc j = false) := by unfold Hid; simpa using hrc
                  clear hrc
                  as_aux_lemma =>
                    go_wp2_with fail
                    refine (ends_any w2 n ⟨2, (i : Int), (j : Int), vm⟩ true true ⟨fun _ => ⟨hge.out.1, fun _ => hge.out.2⟩, fun _ => rfl⟩).mono ?_
                    rintro e w4 ⟨rfl, hB4'⟩
                    have hR4 := Lib.hid (hR2.out.below hB4')
                    have hM4 := hM2H.out.below hB4' hM2H.out.lt
                    have hB4 := hBb.trans (hB4'.mono hsz2)
                    clear hR2 hM2H hB4' hBb m0 m1 m2 m3 n2
                    have m0 : w4.cell? ⟨bm, 0, none⟩ = some (.int .i64 2) := hM4.cell (i := 0) (by simp)
                    have m1 : w4.cell? ⟨bm, 1, none⟩ = some (.int .i64 (i : Int)) := hM4.cell (i := 1) (by simp)
                    have m2 : w4.cell? ⟨bm, 2, none⟩ = some (.int .i64 (j : Int)) := hM4.cell (i := 2) (by simp)
                    have m3 : w4.cell? ⟨bm, 3, none⟩ = some (.int .i64 vm) := hM4.cell (i := 3) (by simp)
                    have n4 : w4.cell? ⟨w.heap.size, 0, none⟩ = some (.int .i64 (n : Int)) := hR4.out.rn.cell (i := 0) (by simp)
                    have hsz4 : w.heap.size ≤ w4.heap.size := hB4.size
                    have hM4H := Lib.hid hM4
                    clear hM4
                  
                    obtain ⟨Al4, capl4, hvl4, hcl41, hcl42, hAt4⟩ := hR4.out.ol.shape
                    injection hvl4 with e41 _ e43
                    subst e41 e43
                    obtain ⟨gl, hgl, _, y0, y1, y2⟩ := hAt4 q hq1
                    subst hgl
                    have l4 : w4.cell? ⟨bw, 0, none⟩ = some (.slice (some ⟨gl, 0, none⟩) L.length capl) := hR4.out.rl.cell (i := 0) (by simp)
                    have hqI : (q : Int) < (L.length : Int) := by omega
                    have hq0 : ¬ ((q : Int) < 0) := by omega
                    have hAtH := Lib.hid hAt4
                    clear hAt4 y0 y1
                    rw [hx0] at y2
                    clear hx0
                    go_wp2_with fail
                    refine (without_any gl capl L q w4 hAtH.out (by omega) hq1 hcl41 hcl42).mono ?_
                    rintro e w5 ⟨v5, rfl, hO5, hB5⟩
                    obtain ⟨A5, cap5, hv5, hc51, hc52, _⟩ := hO5.shape
                    subst hv5
                    have hO5' : OwnL w5 w.heap.size (.slice A5 (L.take q ++ L.drop (q + 1)).length cap5) (L.take q ++ L.drop (q + 1)) := by
                      refine ⟨hO5.1, ?_⟩
                      rcases hO5.2 with h7 | ⟨g7, c7, cur, hv, hb', rest⟩
                      · exact .inl h7
                      · exact .inr ⟨g7, c7, cur, hv, Nat.le_trans hsz4 hb', rest⟩
                    have hg45 : w4.grownBy w5 none := ⟨hB5.os, hB5.tape, hB5.output, hB5.size, fun g hg _ => hB5.block g hg⟩
                    have hR5 := Lib.hid (hR4.out.setL hg45 (.inl rfl) hO5')
                    have l5 : w5.cell? ⟨bw, 0, none⟩ = some (.slice (some ⟨gl, 0, none⟩) L.length capl) := (hB5.cell (p := ⟨bw, 0, none⟩) hR4.out.rl.lt).trans l4
                    have l5f : w5.frozen? ⟨bw, 0, none⟩ = false := (hR4.out.rl.below hB5 hR4.out.rl.lt).frozen 0
                    have hBs : Below w.heap.size w (w5.setCell ⟨bw, 0, none⟩ (.slice A5 (L.take q ++ L.drop (q + 1)).length cap5)) := (hB4.trans (hB5.mono hsz4)).setCell (p := ⟨bw, 0, none⟩) hR4.out.lo.2.2.2.2.1 _
                    have hM6 : Row (w5.setCell ⟨bw, 0, none⟩ (.slice A5 (L.take q ++ L.drop (q + 1)).length cap5)) bm 39 [.int .i64 2, .int .i64 (i : Int), .int .i64 (j : Int), .int .i64 vm] := (hM4H.out.below hB5 hM4H.out.lt).far (hM4H.out.ne hR4.out.rl (by decide)) _
                    generalize hLL : L.take q ++ L.drop (q + 1) = L1 at *
                    clear hLL hO5 hO5' hg45 hB5 hB4 hR4 hM4H y2 l4 hAtH m0 m1 m2 m3 n4
                    have m1 : (w5.setCell ⟨bw, 0, none⟩ (.slice A5 L1.length cap5)).cell? ⟨bm, 1, none⟩ = some (.int .i64 (i : Int)) := hM6.cell (i := 1) (by simp)
                    have m2 : (w5.setCell ⟨bw, 0, none⟩ (.slice A5 L1.length cap5)).cell? ⟨bm, 2, none⟩ = some (.int .i64 (j : Int)) := hM6.cell (i := 2) (by simp)
                    go_wp2_with fail
                    generalize w5.setCell ⟨bw, 0, none⟩ (.slice A5 L1.length cap5) = w6 at *
                    as_aux_lemma =>
                      clear l5 l5f
                      have hsz6 : w.heap.size ≤ w6.heap.size := hBs.size
                      have hR6 := Lib.hid (hR5.out.congr (T := S.pop i j) (fun x a _ _ => by rw [ic_same (S := S) (T := S.pop i j) rfl rfl rfl]) (fun x a _ _ => by rw [bc_same (S := S) (T := S.pop i j) rfl rfl]))
                      clear hR5
                      refine (rcl_no w6 w.heap.size B2 n _ (S.pop i j) _ _ _ L1 cs hR6.out j hjn hrcP.out hn (by have := hlen3.out; omega) hsz6).mono ?_
                      rintro e w7 ⟨vl7, rfl, hR7p, hB7p, hK7⟩
                      have hR7 := Lib.hid hR7p
                      have hB7 := hBs.trans hB7p
                      have hM7 := hK7 _ _ hM6
                      have hLX : Hid (LS n (L1 ++ marksL j n) (((S.pop i j).record n j).close i j)) := (hLPH.out.record j).same rfl
                      have hLlX : Hid ((L1 ++ marksL j n).length ≤ 6 * (k + 1)) := by unfold Hid; rw [List.length_append]; have := hlen3.out; have := marksL_len j n; omega
                      clear hR7p hB7p hK7 hR6 hBs hM6 m1 m2
                      have m1 : w7.cell? ⟨bm, 1, none⟩ = some (.int .i64 (i : Int)) := hM7.cell (i := 1) (by simp)
                      have m2 : w7.cell? ⟨bm, 2, none⟩ = some (.int .i64 (j : Int)) := hM7.cell (i := 2) (by simp)
                      have t0 : w7.cell? ⟨Tc, i, none⟩ = some (.slice (some ⟨bb (i + 1), 0, none⟩) n n) := by
                        have hr : Row w7 Tc 47 (ctop n n bb) := hR7.out.tc
                        rw [hr.cell (by simp [ctop]; exact hin)]
                        simp [ctop, hin]
                      have t1 : w7.cell? ⟨bb (i + 1), j, none⟩ = some (.bool (bc ((S.pop i j).record n j) (i + 1) j)) := BRow.at_ (hR7.out.rb (i + 1) (by omega)) hjn
                      have t2 : w7.frozen? ⟨bb (i + 1), j, none⟩ = false := Row.frozen (hR7.out.rb (i + 1) (by omega)) j
                      have hR8 := Lib.hid (hR7.out.setB (T := St.close ((S.pop i j).record n j) i j) (x := i + 1) (by omega) j true (fun y a _ _ => by rw [ic_same (S := ((S.pop i j).record n j)) (T := St.close ((S.pop i j).record n j) i j) rfl rfl rfl]) (fun y a _ _ => bc_cl ((S.pop i j).record n j) i j true (St.close ((S.pop i j).record n j) i j) rfl rfl y a))
                      have hB8 : Below w.heap.size w (w7.setCell ⟨bb (i + 1), j, none⟩ (.bool true)) := hB7.setCell (p := ⟨bb (i + 1), j, none⟩) (hR7.out.lb (i + 1) (by omega)) _
                      generalize bc ((S.pop i j).record n j) (i + 1) j = oldc at *
                      clear hR7 hB7 hM7
                      go_wp2_with fail
                      go_region
                      generalize hw8 : w7.setCell ⟨bb (i + 1), j, none⟩ (.bool true) = w8 at *
                      clear hw8 t0 t1 t2 m1 m2
                      have hRX := Lib.hid (hR8.out.blocks (w' := w8.drew) (fun _ _ _ => rfl))
                      have hBX := hB8.drew
                      clear hR8 hB8
                      generalize w8.drew = wx at *
                      as_aux_lemma =>
                        have hcd : Hid (cd = 0) := by unfold Hid; rw [hstC.out, hSX.out]
                        have hSt : Hid (stAt n l (k + 1) = (((S.pop i j).record n j).close i j)) := by unfold Hid; rw [hstS.out, hSX.out]
                        obtain ⟨Ac, capc, hvc, hcc1, hcc2⟩ := owns_shape hRX.out.oc
                        subst hvc
                        have hRY := Lib.hid (hRX.out.alloc (.cells #[.int .i64 (0)] 28))
                        have hBY := hBX.alloc hBX.size (.cells #[.int .i64 (0)] 28)
                        have o0 : wx.cell? ⟨bo, 0, none⟩ = some (.slice Ac cs.length capc) := hRX.out.ro.cell (i := 0) (by simp)
                        have hWa := hRY.out.oc
                        have hnews := Lib.hid (newsV (w := wx) (.int .i64 (0)) 28 rfl)
                        have hbase : w.heap.size ≤ (wx.alloc (.cells #[.int .i64 (0)] 28)).heap.size := by have := hBX.size; simp; omega
                        have hneo : Hid ((Value.slice Ac cs.length capc).ownBlock ≠ some bo) := owns_ne_row hRX.out.oc hRX.out.ro (by decide)
                        have hltc : Hid (∀ x, (Value.slice Ac cs.length capc).ownBlock = some x → w.heap.size ≤ x) := fun x hx => (World.ownsRow.lt hRX.out.oc x hx).1
                        have hlo : w.heap.size ≤ bo := hRX.out.lo.2.1
                        clear hBX
                        go_wp2_with (first
                          | (at_builtin; refine wpList_append_lies _ rfl (.tmp 210) (.tmp 212) 23 rfl w.heap.size 28 j0 (.int .i64 0) 1 8 Try.underlying23 hEi.out hEz.out hEs.out hEb.out rfl (by decide) (.slice Ac cs.length capc) cs.length (intVals cs) rfl hWa ⟨wx.heap.size, 0, none⟩ 1 1 [.int .i64 (0)] rfl rfl hnews.out (by simp [Value.oneCell']) (by omega) (by unfold maxLen; omega) (by omega) hbase _ rfl ?_; intro ga capa wa howna hgrowa hata hltga
                             have x0 : wa.cell? ⟨bo, 0, none⟩ = some (.slice Ac cs.length capc) := hgrowa.cell (hRY.out.ro.cell (i := 0) (by simp)) (fun e => hneo.out e.symm)
                             have xf : wa.frozen? ⟨bo, 0, none⟩ = false := (hRY.out.ro.grown hgrowa (fun e => hneo.out e.symm)).frozen 0
                             have hRZ := Lib.hid (hRY.out.setC (cs' := cs ++ [0]) (vc' := .slice (some ⟨ga, 0, none⟩) (cs.length + 1) capa) hgrowa (by rw [List.length_append, show intVals (cs ++ [0]) = intVals cs ++ [.int .i64 (0)] by simp [intVals]]; exact howna))
                             have hBZ : Below w.heap.size w (wa.setCell ⟨bo, 0, none⟩ (.slice (some ⟨ga, 0, none⟩) (cs.length + 1) capa)) := (hBY.grown hgrowa hbase hltc.out).setCell (p := ⟨bo, 0, none⟩) hlo _
                             clear howna hgrowa hata hltga hWa hBY))
                        go_roundw
                        case rel => exact ⟨k + 1, by omega, by go_num, _, _, (L1 ++ marksL j n), by rw [hSt.out, hcodes.out, hcd.out]; exact hRZ.out, by rw [hSt.out]; exact hLX.out, hLlX.out, hBZ⟩
                        case measure => simp [intOf]; omega
              · have hxne := hx0
                rw [take_some (hqeH.out) hx0] at htk
                have hSX := Lib.hid htk
                have hg1 := hinv.out.gainLe hin hjn hqeH.out
                have hg0 := hinv.out.hv0 j
                have hgq := hinv.out.q0 i j (lt_ L q).v (by rw [hqeH.out]; simp)
                have hwy0 := hinv.out.wy0 i j
                have hwy1 := Lib.hid (hinv.out.noteLe hin hjn hqeH.out hx0)
                have hxb : ((lt_ L q).v == 0) = false := by simpa using hx0
                have hgotH : Hid ((S.pop i j).got i j (lt_ L q).v = if S.rc j = true ∧ S.cl i j = false then ((S.pop i j).gain j (lt_ L q).v).note i j (lt_ L q).v else (S.pop i j).gain j (lt_ L q).v) := rfl
                clear htk hx0 hxne
                by_cases hrcv : S.rc j = true
                · by_cases hclv : S.cl i j = false
                  · have hgot2 : Hid ((S.pop i j).got i j (lt_ L q).v = ((S.pop i j).gain j (lt_ L q).v).note i j (lt_ L q).v) := by unfold Hid; rw [hgotH.out, if_pos ⟨hrcv, hclv⟩]
                    have hwy2 := hwy1.out hclv
                    rw [hgot2.out] at hSX
                    clear hgotH hgot2 hwy1
                    as_aux_lemma =>
                      go_wp2_with fail
                      refine (ends_any w2 n ⟨2, (i : Int), (j : Int), vm⟩ true true ⟨fun _ => ⟨hge.out.1, fun _ => hge.out.2⟩, fun _ => rfl⟩).mono ?_
                      rintro e w4 ⟨rfl, hB4'⟩
                      have hR4 := Lib.hid (hR2.out.below hB4')
                      have hM4 := hM2H.out.below hB4' hM2H.out.lt
                      have hB4 := hBb.trans (hB4'.mono hsz2)
                      clear hR2 hM2H hB4' hBb m0 m1 m2 m3 n2
                      have m0 : w4.cell? ⟨bm, 0, none⟩ = some (.int .i64 2) := hM4.cell (i := 0) (by simp)
                      have m1 : w4.cell? ⟨bm, 1, none⟩ = some (.int .i64 (i : Int)) := hM4.cell (i := 1) (by simp)
                      have m2 : w4.cell? ⟨bm, 2, none⟩ = some (.int .i64 (j : Int)) := hM4.cell (i := 2) (by simp)
                      have m3 : w4.cell? ⟨bm, 3, none⟩ = some (.int .i64 vm) := hM4.cell (i := 3) (by simp)
                      have n4 : w4.cell? ⟨w.heap.size, 0, none⟩ = some (.int .i64 (n : Int)) := hR4.out.rn.cell (i := 0) (by simp)
                      have hsz4 : w.heap.size ≤ w4.heap.size := hB4.size
                      have hM4H := Lib.hid hM4
                      clear hM4
                    
                      obtain ⟨Al4, capl4, hvl4, hcl41, hcl42, hAt4⟩ := hR4.out.ol.shape
                      injection hvl4 with e41 _ e43
                      subst e41 e43
                      obtain ⟨gl, hgl, _, y0, y1, y2⟩ := hAt4 q hq1
                      subst hgl
                      have l4 : w4.cell? ⟨bw, 0, none⟩ = some (.slice (some ⟨gl, 0, none⟩) L.length capl) := hR4.out.rl.cell (i := 0) (by simp)
                      have hqI : (q : Int) < (L.length : Int) := by omega
                      have hq0 : ¬ ((q : Int) < 0) := by omega
                      have hAtH := Lib.hid hAt4
                      clear hAt4 y0 y1
                      generalize hxx : (lt_ L q).v = x at *
                      clear hxx
                      go_wp2_with fail
                      refine (without_any gl capl L q w4 hAtH.out (by omega) hq1 hcl41 hcl42).mono ?_
                      rintro e w5 ⟨v5, rfl, hO5, hB5⟩
                      obtain ⟨A5, cap5, hv5, hc51, hc52, _⟩ := hO5.shape
                      subst hv5
                      have hO5' : OwnL w5 w.heap.size (.slice A5 (L.take q ++ L.drop (q + 1)).length cap5) (L.take q ++ L.drop (q + 1)) := by
                        refine ⟨hO5.1, ?_⟩
                        rcases hO5.2 with h7 | ⟨g7, c7, cur, hv, hb', rest⟩
                        · exact .inl h7
                        · exact .inr ⟨g7, c7, cur, hv, Nat.le_trans hsz4 hb', rest⟩
                      have hg45 : w4.grownBy w5 none := ⟨hB5.os, hB5.tape, hB5.output, hB5.size, fun g hg _ => hB5.block g hg⟩
                      have hR5 := Lib.hid (hR4.out.setL hg45 (.inl rfl) hO5')
                      have l5 : w5.cell? ⟨bw, 0, none⟩ = some (.slice (some ⟨gl, 0, none⟩) L.length capl) := (hB5.cell (p := ⟨bw, 0, none⟩) hR4.out.rl.lt).trans l4
                      have l5f : w5.frozen? ⟨bw, 0, none⟩ = false := (hR4.out.rl.below hB5 hR4.out.rl.lt).frozen 0
                      have hBs : Below w.heap.size w (w5.setCell ⟨bw, 0, none⟩ (.slice A5 (L.take q ++ L.drop (q + 1)).length cap5)) := (hB4.trans (hB5.mono hsz4)).setCell (p := ⟨bw, 0, none⟩) hR4.out.lo.2.2.2.2.1 _
                      have hM6 : Row (w5.setCell ⟨bw, 0, none⟩ (.slice A5 (L.take q ++ L.drop (q + 1)).length cap5)) bm 39 [.int .i64 2, .int .i64 (i : Int), .int .i64 (j : Int), .int .i64 vm] := (hM4H.out.below hB5 hM4H.out.lt).far (hM4H.out.ne hR4.out.rl (by decide)) _
                      generalize hLL : L.take q ++ L.drop (q + 1) = L1 at *
                      clear hLL hO5 hO5' hg45 hB5 hB4 hR4 hM4H y2 l4 hAtH m0 m1 m2 m3 n4
                      have m1 : (w5.setCell ⟨bw, 0, none⟩ (.slice A5 L1.length cap5)).cell? ⟨bm, 1, none⟩ = some (.int .i64 (i : Int)) := hM6.cell (i := 1) (by simp)
                      have m2 : (w5.setCell ⟨bw, 0, none⟩ (.slice A5 L1.length cap5)).cell? ⟨bm, 2, none⟩ = some (.int .i64 (j : Int)) := hM6.cell (i := 2) (by simp)
                      go_wp2_with fail
                      generalize w5.setCell ⟨bw, 0, none⟩ (.slice A5 L1.length cap5) = w6 at *
                      as_aux_lemma =>
                        clear l5 l5f
                        have hsz6 : w.heap.size ≤ w6.heap.size := hBs.size
                        have hR6 := Lib.hid (hR5.out.congr (T := S.pop i j) (fun x a _ _ => by rw [ic_same (S := S) (T := S.pop i j) rfl rfl rfl]) (fun x a _ _ => by rw [bc_same (S := S) (T := S.pop i j) rfl rfl]))
                        clear hR5
                        have hh0 : w6.cell? ⟨bh, 0, none⟩ = some (.slice (some ⟨ib 0, 0, none⟩) n n) := hR6.out.rh.cell (i := 0) (by simp)
                        have v0 : w6.cell? ⟨ib 0, j, none⟩ = some (.int .i64 (S.hv j)) := IntRow.at_ (hR6.out.ri 0 (by omega)) hjn
                        have vf : w6.frozen? ⟨ib 0, j, none⟩ = false := Row.frozen (hR6.out.ri 0 (by omega)) j
                        have hR7 := Lib.hid (hR6.out.setI (T := (S.pop i j).gain j x) (x := 0) (by omega) j (S.hv j + x) (fun y a _ _ => ic_hv (S.pop i j) j (S.hv j + x) ((S.pop i j).gain j x) rfl rfl rfl y a) (fun y a _ _ => by rw [bc_same (S := S.pop i j) (T := (S.pop i j).gain j x) rfl rfl]))
                        have hB7 : Below w.heap.size w (w6.setCell ⟨ib 0, j, none⟩ (.int .i64 (S.hv j + x))) := hBs.setCell (p := ⟨ib 0, j, none⟩) (hR6.out.li 0 (by omega)) _
                        have hM7 : Row (w6.setCell ⟨ib 0, j, none⟩ (.int .i64 (S.hv j + x))) bm 39 [.int .i64 2, .int .i64 (i : Int), .int .i64 (j : Int), .int .i64 vm] := hM6.far (hM6.ne (hR6.out.ri 0 (by omega)) (by decide)) _
                        have hgx : S.hv j + x ≤ 1000 := by omega
                        clear hR6 hBs hM6
                        generalize S.hv j = hvj at *
                        go_region
                        generalize hw7 : w6.setCell ⟨ib 0, j, none⟩ (.int .i64 (hvj + x)) = w7 at *
                        clear hw7 hh0 v0 vf m1 m2
                        have hR8 := Lib.hid (hR7.out.blocks (w' := w7.drew) (fun _ _ _ => rfl))
                        have hB8 := hB7.drew
                        have hM8 := hM7.block (w' := w7.drew) rfl
                        clear hR7 hB7 hM7
                        generalize w7.drew = w8 at *
                        clear hg1 hg0 hgx
                        generalize hvj + x = sv at *
                        as_aux_lemma =>
                          have m1 : w8.cell? ⟨bm, 1, none⟩ = some (.int .i64 (i : Int)) := hM8.cell (i := 1) (by simp)
                          have m2 : w8.cell? ⟨bm, 2, none⟩ = some (.int .i64 (j : Int)) := hM8.cell (i := 2) (by simp)
                          have r0 : w8.cell? ⟨br, 0, none⟩ = some (.slice (some ⟨bb 0, 0, none⟩) n n) := hR8.out.rr.cell (i := 0) (by simp)
                          have r1 : w8.cell? ⟨bb 0, j, none⟩ = some (.bool (S.rc j)) := BRow.at_ (hR8.out.rb 0 (by omega)) hjn
                          have t0 : w8.cell? ⟨Tc, i, none⟩ = some (.slice (some ⟨bb (i + 1), 0, none⟩) n n) := by
                            have hr : Row w8 Tc 47 (ctop n n bb) := hR8.out.tc
                            rw [hr.cell (by simp [ctop]; exact hin)]
                            simp [ctop, hin]
                          have t1 : w8.cell? ⟨bb (i + 1), j, none⟩ = some (.bool (S.cl i j)) := BRow.at_ (hR8.out.rb (i + 1) (by omega)) hjn
                          rw [hrcv] at r1
                          rw [hclv] at t1
                          clear hrcv hclv
                          go_wp2_with fail
                          go_big_quiet (fail)
                          have hR9 := Lib.hid (hR8.out.blocks (w' := w8.drewN nq) (fun _ _ _ => rfl))
                          have hB9 := below_drewN hB8 nq
                          have hM9 := hM8.block (w' := w8.drewN nq) rfl
                          clear hR8 hB8 hM8 m1 m2 r0 r1 t0 t1
                          generalize w8.drewN nq = wz at *
                          as_aux_lemma =>
                            have hLlX : Hid (L1.length ≤ 6 * (k + 1)) := by unfold Hid; have := hlen3.out; omega
                            have hwy3 : S.wy i j + x ≤ 1000 := by omega
                            have m1 : wz.cell? ⟨bm, 1, none⟩ = some (.int .i64 (i : Int)) := hM9.cell (i := 1) (by simp)
                            have m2 : wz.cell? ⟨bm, 2, none⟩ = some (.int .i64 (j : Int)) := hM9.cell (i := 2) (by simp)
                            have o3 : wz.cell? ⟨bo, 3, none⟩ = some (.slice (some ⟨Tw, 0, none⟩) n capw) := hR9.out.ro.cell (i := 3) (by simp)
                            have s0 : wz.cell? ⟨Tw, i, none⟩ = some (.slice (some ⟨ib (i + 2), 0, none⟩) n n) := by
                              have := World.ownsRow.cells hR9.out.ow (g := Tw) rfl i (.slice (some ⟨ib (i + 2), 0, none⟩) n n) (by simp [wtop, hin])
                              have hadd : (⟨Tw, 0, none⟩ : Addr).add i = ⟨Tw, i, none⟩ := by unfold Addr.add; split <;> simp_all
                              rw [hadd] at this
                              exact this
                            have s1 : wz.cell? ⟨ib (i + 2), j, none⟩ = some (.int .i64 (S.wy i j)) := IntRow.at_ (hR9.out.ri (i + 2) (by omega)) hjn
                            have sf : wz.frozen? ⟨ib (i + 2), j, none⟩ = false := Row.frozen (hR9.out.ri (i + 2) (by omega)) j
                            have hRA := Lib.hid (hR9.out.setI (T := ((S.pop i j).gain j x).note i j x) (x := i + 2) (by omega) j (S.wy i j + x) (fun y a _ _ => ic_wy ((S.pop i j).gain j x) i j (S.wy i j + x) (((S.pop i j).gain j x).note i j x) rfl rfl rfl y a) (fun y a _ _ => by rw [bc_same (S := (S.pop i j).gain j x) (T := ((S.pop i j).gain j x).note i j x) rfl rfl]))
                            have hBA : Below w.heap.size w (wz.setCell ⟨ib (i + 2), j, none⟩ (.int .i64 (S.wy i j + x))) := hB9.setCell (p := ⟨ib (i + 2), j, none⟩) (hR9.out.li (i + 2) (by omega)) _
                            have hLX : Hid (LS n L1 (((S.pop i j).gain j x).note i j x)) := hLPH.out.same rfl
                            clear hR9 hB9 hM9
                            generalize S.wy i j = wyv at *
                            go_wp2_with fail
                            go_region
                            generalize hwA : wz.setCell ⟨ib (i + 2), j, none⟩ (.int .i64 (wyv + x)) = wA at *
                            clear hwA m1 m2 o3 s0 s1 sf hgq hwy0 hxb hq0 hqI hwy2 hwy3 hinv hge
                            have hRX := Lib.hid (hRA.out.blocks (w' := wA.drew) (fun _ _ _ => rfl))
                            have hBX := hBA.drew
                            clear hRA hBA
                            generalize wA.drew = wx at *
                            generalize wyv + x = sw at *
                            as_aux_lemma =>
                              have hcd : Hid (cd = 0) := by unfold Hid; rw [hstC.out, hSX.out]
                              have hSt : Hid (stAt n l (k + 1) = (((S.pop i j).gain j x).note i j x)) := by unfold Hid; rw [hstS.out, hSX.out]
                              obtain ⟨Ac, capc, hvc, hcc1, hcc2⟩ := owns_shape hRX.out.oc
                              subst hvc
                              have hRY := Lib.hid (hRX.out.alloc (.cells #[.int .i64 (0)] 28))
                              have hBY := hBX.alloc hBX.size (.cells #[.int .i64 (0)] 28)
                              have o0 : wx.cell? ⟨bo, 0, none⟩ = some (.slice Ac cs.length capc) := hRX.out.ro.cell (i := 0) (by simp)
                              have hWa := hRY.out.oc
                              have hnews := Lib.hid (newsV (w := wx) (.int .i64 (0)) 28 rfl)
                              have hbase : w.heap.size ≤ (wx.alloc (.cells #[.int .i64 (0)] 28)).heap.size := by have := hBX.size; simp; omega
                              have hneo : Hid ((Value.slice Ac cs.length capc).ownBlock ≠ some bo) := owns_ne_row hRX.out.oc hRX.out.ro (by decide)
                              have hltc : Hid (∀ x, (Value.slice Ac cs.length capc).ownBlock = some x → w.heap.size ≤ x) := fun x hx => (World.ownsRow.lt hRX.out.oc x hx).1
                              have hlo : w.heap.size ≤ bo := hRX.out.lo.2.1
                              clear hBX
                              go_wp2_with (first
                                | (at_builtin; refine wpList_append_lies _ rfl (.tmp 210) (.tmp 212) 23 rfl w.heap.size 28 j0 (.int .i64 0) 1 8 Try.underlying23 hEi.out hEz.out hEs.out hEb.out rfl (by decide) (.slice Ac cs.length capc) cs.length (intVals cs) rfl hWa ⟨wx.heap.size, 0, none⟩ 1 1 [.int .i64 (0)] rfl rfl hnews.out (by simp [Value.oneCell']) (by omega) (by unfold maxLen; omega) (by omega) hbase _ rfl ?_; intro ga capa wa howna hgrowa hata hltga
                                   have x0 : wa.cell? ⟨bo, 0, none⟩ = some (.slice Ac cs.length capc) := hgrowa.cell (hRY.out.ro.cell (i := 0) (by simp)) (fun e => hneo.out e.symm)
                                   have xf : wa.frozen? ⟨bo, 0, none⟩ = false := (hRY.out.ro.grown hgrowa (fun e => hneo.out e.symm)).frozen 0
                                   have hRZ := Lib.hid (hRY.out.setC (cs' := cs ++ [0]) (vc' := .slice (some ⟨ga, 0, none⟩) (cs.length + 1) capa) hgrowa (by rw [List.length_append, show intVals (cs ++ [0]) = intVals cs ++ [.int .i64 (0)] by simp [intVals]]; exact howna))
                                   have hBZ : Below w.heap.size w (wa.setCell ⟨bo, 0, none⟩ (.slice (some ⟨ga, 0, none⟩) (cs.length + 1) capa)) := (hBY.grown hgrowa hbase hltc.out).setCell (p := ⟨bo, 0, none⟩) hlo _
                                   clear howna hgrowa hata hltga hWa hBY))
                              go_roundw
                              case rel => exact ⟨k + 1, by omega, by go_num, _, _, L1, by rw [hSt.out, hcodes.out, hcd.out]; exact hRZ.out, by rw [hSt.out]; exact hLX.out, hLlX.out, hBZ⟩
                              case measure => simp [intOf]; omega
                  · have hgot2 : Hid ((S.pop i j).got i j (lt_ L q).v = (S.pop i j).gain j (lt_ L q).v) := by unfold Hid; rw [hgotH.out, if_neg (fun h => hclv h.2)]
                    have hclt : S.cl i j = true := by simpa using hclv
                    rw [hgot2.out] at hSX
                    clear hgotH hgot2 hwy1 hclv
                    as_aux_lemma =>
                      go_wp2_with fail
                      refine (ends_any w2 n ⟨2, (i : Int), (j : Int), vm⟩ true true ⟨fun _ => ⟨hge.out.1, fun _ => hge.out.2⟩, fun _ => rfl⟩).mono ?_
                      rintro e w4 ⟨rfl, hB4'⟩
                      have hR4 := Lib.hid (hR2.out.below hB4')
                      have hM4 := hM2H.out.below hB4' hM2H.out.lt
                      have hB4 := hBb.trans (hB4'.mono hsz2)
                      clear hR2 hM2H hB4' hBb m0 m1 m2 m3 n2
                      have m0 : w4.cell? ⟨bm, 0, none⟩ = some (.int .i64 2) := hM4.cell (i := 0) (by simp)
                      have m1 : w4.cell? ⟨bm, 1, none⟩ = some (.int .i64 (i : Int)) := hM4.cell (i := 1) (by simp)
                      have m2 : w4.cell? ⟨bm, 2, none⟩ = some (.int .i64 (j : Int)) := hM4.cell (i := 2) (by simp)
                      have m3 : w4.cell? ⟨bm, 3, none⟩ = some (.int .i64 vm) := hM4.cell (i := 3) (by simp)
                      have n4 : w4.cell? ⟨w.heap.size, 0, none⟩ = some (.int .i64 (n : Int)) := hR4.out.rn.cell (i := 0) (by simp)
                      have hsz4 : w.heap.size ≤ w4.heap.size := hB4.size
                      have hM4H := Lib.hid hM4
                      clear hM4
                    
                      obtain ⟨Al4, capl4, hvl4, hcl41, hcl42, hAt4⟩ := hR4.out.ol.shape
                      injection hvl4 with e41 _ e43
                      subst e41 e43
                      obtain ⟨gl, hgl, _, y0, y1, y2⟩ := hAt4 q hq1
                      subst hgl
                      have l4 : w4.cell? ⟨bw, 0, none⟩ = some (.slice (some ⟨gl, 0, none⟩) L.length capl) := hR4.out.rl.cell (i := 0) (by simp)
                      have hqI : (q : Int) < (L.length : Int) := by omega
                      have hq0 : ¬ ((q : Int) < 0) := by omega
                      have hAtH := Lib.hid hAt4
                      clear hAt4 y0 y1
                      generalize hxx : (lt_ L q).v = x at *
                      clear hxx
                      go_wp2_with fail
                      refine (without_any gl capl L q w4 hAtH.out (by omega) hq1 hcl41 hcl42).mono ?_
                      rintro e w5 ⟨v5, rfl, hO5, hB5⟩
                      obtain ⟨A5, cap5, hv5, hc51, hc52, _⟩ := hO5.shape
                      subst hv5
                      have hO5' : OwnL w5 w.heap.size (.slice A5 (L.take q ++ L.drop (q + 1)).length cap5) (L.take q ++ L.drop (q + 1)) := by
                        refine ⟨hO5.1, ?_⟩
                        rcases hO5.2 with h7 | ⟨g7, c7, cur, hv, hb', rest⟩
                        · exact .inl h7
                        · exact .inr ⟨g7, c7, cur, hv, Nat.le_trans hsz4 hb', rest⟩
                      have hg45 : w4.grownBy w5 none := ⟨hB5.os, hB5.tape, hB5.output, hB5.size, fun g hg _ => hB5.block g hg⟩
                      have hR5 := Lib.hid (hR4.out.setL hg45 (.inl rfl) hO5')
                      have l5 : w5.cell? ⟨bw, 0, none⟩ = some (.slice (some ⟨gl, 0, none⟩) L.length capl) := (hB5.cell (p := ⟨bw, 0, none⟩) hR4.out.rl.lt).trans l4
                      have l5f : w5.frozen? ⟨bw, 0, none⟩ = false := (hR4.out.rl.below hB5 hR4.out.rl.lt).frozen 0
                      have hBs : Below w.heap.size w (w5.setCell ⟨bw, 0, none⟩ (.slice A5 (L.take q ++ L.drop (q + 1)).length cap5)) := (hB4.trans (hB5.mono hsz4)).setCell (p := ⟨bw, 0, none⟩) hR4.out.lo.2.2.2.2.1 _
                      have hM6 : Row (w5.setCell ⟨bw, 0, none⟩ (.slice A5 (L.take q ++ L.drop (q + 1)).length cap5)) bm 39 [.int .i64 2, .int .i64 (i : Int), .int .i64 (j : Int), .int .i64 vm] := (hM4H.out.below hB5 hM4H.out.lt).far (hM4H.out.ne hR4.out.rl (by decide)) _
                      generalize hLL : L.take q ++ L.drop (q + 1) = L1 at *
                      clear hLL hO5 hO5' hg45 hB5 hB4 hR4 hM4H y2 l4 hAtH m0 m1 m2 m3 n4
                      have m1 : (w5.setCell ⟨bw, 0, none⟩ (.slice A5 L1.length cap5)).cell? ⟨bm, 1, none⟩ = some (.int .i64 (i : Int)) := hM6.cell (i := 1) (by simp)
                      have m2 : (w5.setCell ⟨bw, 0, none⟩ (.slice A5 L1.length cap5)).cell? ⟨bm, 2, none⟩ = some (.int .i64 (j : Int)) := hM6.cell (i := 2) (by simp)
                      go_wp2_with fail
                      generalize w5.setCell ⟨bw, 0, none⟩ (.slice A5 L1.length cap5) = w6 at *
                      as_aux_lemma =>
                        clear l5 l5f
                        have hsz6 : w.heap.size ≤ w6.heap.size := hBs.size
                        have hR6 := Lib.hid (hR5.out.congr (T := S.pop i j) (fun x a _ _ => by rw [ic_same (S := S) (T := S.pop i j) rfl rfl rfl]) (fun x a _ _ => by rw [bc_same (S := S) (T := S.pop i j) rfl rfl]))
                        clear hR5
                        have hh0 : w6.cell? ⟨bh, 0, none⟩ = some (.slice (some ⟨ib 0, 0, none⟩) n n) := hR6.out.rh.cell (i := 0) (by simp)
                        have v0 : w6.cell? ⟨ib 0, j, none⟩ = some (.int .i64 (S.hv j)) := IntRow.at_ (hR6.out.ri 0 (by omega)) hjn
                        have vf : w6.frozen? ⟨ib 0, j, none⟩ = false := Row.frozen (hR6.out.ri 0 (by omega)) j
                        have hR7 := Lib.hid (hR6.out.setI (T := (S.pop i j).gain j x) (x := 0) (by omega) j (S.hv j + x) (fun y a _ _ => ic_hv (S.pop i j) j (S.hv j + x) ((S.pop i j).gain j x) rfl rfl rfl y a) (fun y a _ _ => by rw [bc_same (S := S.pop i j) (T := (S.pop i j).gain j x) rfl rfl]))
                        have hB7 : Below w.heap.size w (w6.setCell ⟨ib 0, j, none⟩ (.int .i64 (S.hv j + x))) := hBs.setCell (p := ⟨ib 0, j, none⟩) (hR6.out.li 0 (by omega)) _
                        have hM7 : Row (w6.setCell ⟨ib 0, j, none⟩ (.int .i64 (S.hv j + x))) bm 39 [.int .i64 2, .int .i64 (i : Int), .int .i64 (j : Int), .int .i64 vm] := hM6.far (hM6.ne (hR6.out.ri 0 (by omega)) (by decide)) _
                        have hgx : S.hv j + x ≤ 1000 := by omega
                        clear hR6 hBs hM6
                        generalize S.hv j = hvj at *
                        go_region
                        generalize hw7 : w6.setCell ⟨ib 0, j, none⟩ (.int .i64 (hvj + x)) = w7 at *
                        clear hw7 hh0 v0 vf m1 m2
                        have hR8 := Lib.hid (hR7.out.blocks (w' := w7.drew) (fun _ _ _ => rfl))
                        have hB8 := hB7.drew
                        have hM8 := hM7.block (w' := w7.drew) rfl
                        clear hR7 hB7 hM7
                        generalize w7.drew = w8 at *
                        clear hg1 hg0 hgx
                        generalize hvj + x = sv at *
                        as_aux_lemma =>
                          have m1 : w8.cell? ⟨bm, 1, none⟩ = some (.int .i64 (i : Int)) := hM8.cell (i := 1) (by simp)
                          have m2 : w8.cell? ⟨bm, 2, none⟩ = some (.int .i64 (j : Int)) := hM8.cell (i := 2) (by simp)
                          have r0 : w8.cell? ⟨br, 0, none⟩ = some (.slice (some ⟨bb 0, 0, none⟩) n n) := hR8.out.rr.cell (i := 0) (by simp)
                          have r1 : w8.cell? ⟨bb 0, j, none⟩ = some (.bool (S.rc j)) := BRow.at_ (hR8.out.rb 0 (by omega)) hjn
                          have t0 : w8.cell? ⟨Tc, i, none⟩ = some (.slice (some ⟨bb (i + 1), 0, none⟩) n n) := by
                            have hr : Row w8 Tc 47 (ctop n n bb) := hR8.out.tc
                            rw [hr.cell (by simp [ctop]; exact hin)]
                            simp [ctop, hin]
                          have t1 : w8.cell? ⟨bb (i + 1), j, none⟩ = some (.bool (S.cl i j)) := BRow.at_ (hR8.out.rb (i + 1) (by omega)) hjn
                          rw [hrcv] at r1
                          rw [hclt] at t1
                          clear hrcv hclt
                          go_wp2_with fail
                          go_big_quiet (fail)
                          have hR9 := Lib.hid (hR8.out.blocks (w' := w8.drewN nq) (fun _ _ _ => rfl))
                          have hB9 := below_drewN hB8 nq
                          have hM9 := hM8.block (w' := w8.drewN nq) rfl
                          clear hR8 hB8 hM8 m1 m2 r0 r1 t0 t1
                          generalize w8.drewN nq = wz at *
                          as_aux_lemma =>
                            have hLlX : Hid (L1.length ≤ 6 * (k + 1)) := by unfold Hid; have := hlen3.out; omega
                            have hLX : Hid (LS n L1 ((S.pop i j).gain j x)) := hLPH.out.same rfl
                            have hRX := hR9
                            have hBX := hB9
                            clear hM9 hgq hwy0 hxb hq0 hqI hinv hge
                            have hcd : Hid (cd = 0) := by unfold Hid; rw [hstC.out, hSX.out]
                            have hSt : Hid (stAt n l (k + 1) = ((S.pop i j).gain j x)) := by unfold Hid; rw [hstS.out, hSX.out]
                            obtain ⟨Ac, capc, hvc, hcc1, hcc2⟩ := owns_shape hRX.out.oc
                            subst hvc
                            have hRY := Lib.hid (hRX.out.alloc (.cells #[.int .i64 (0)] 28))
                            have hBY := hBX.alloc hBX.size (.cells #[.int .i64 (0)] 28)
                            have o0 : wz.cell? ⟨bo, 0, none⟩ = some (.slice Ac cs.length capc) := hRX.out.ro.cell (i := 0) (by simp)
                            have hWa := hRY.out.oc
                            have hnews := Lib.hid (newsV (w := wz) (.int .i64 (0)) 28 rfl)
                            have hbase : w.heap.size ≤ (wz.alloc (.cells #[.int .i64 (0)] 28)).heap.size := by have := hBX.size; simp; omega
                            have hneo : Hid ((Value.slice Ac cs.length capc).ownBlock ≠ some bo) := owns_ne_row hRX.out.oc hRX.out.ro (by decide)
                            have hltc : Hid (∀ x, (Value.slice Ac cs.length capc).ownBlock = some x → w.heap.size ≤ x) := fun x hx => (World.ownsRow.lt hRX.out.oc x hx).1
                            have hlo : w.heap.size ≤ bo := hRX.out.lo.2.1
                            clear hBX
                            go_wp2_with (first
                              | (at_builtin; refine wpList_append_lies _ rfl (.tmp 210) (.tmp 212) 23 rfl w.heap.size 28 j0 (.int .i64 0) 1 8 Try.underlying23 hEi.out hEz.out hEs.out hEb.out rfl (by decide) (.slice Ac cs.length capc) cs.length (intVals cs) rfl hWa ⟨wz.heap.size, 0, none⟩ 1 1 [.int .i64 (0)] rfl rfl hnews.out (by simp [Value.oneCell']) (by omega) (by unfold maxLen; omega) (by omega) hbase _ rfl ?_; intro ga capa wa howna hgrowa hata hltga
                                 have x0 : wa.cell? ⟨bo, 0, none⟩ = some (.slice Ac cs.length capc) := hgrowa.cell (hRY.out.ro.cell (i := 0) (by simp)) (fun e => hneo.out e.symm)
                                 have xf : wa.frozen? ⟨bo, 0, none⟩ = false := (hRY.out.ro.grown hgrowa (fun e => hneo.out e.symm)).frozen 0
                                 have hRZ := Lib.hid (hRY.out.setC (cs' := cs ++ [0]) (vc' := .slice (some ⟨ga, 0, none⟩) (cs.length + 1) capa) hgrowa (by rw [List.length_append, show intVals (cs ++ [0]) = intVals cs ++ [.int .i64 (0)] by simp [intVals]]; exact howna))
                                 have hBZ : Below w.heap.size w (wa.setCell ⟨bo, 0, none⟩ (.slice (some ⟨ga, 0, none⟩) (cs.length + 1) capa)) := (hBY.grown hgrowa hbase hltc.out).setCell (p := ⟨bo, 0, none⟩) hlo _
                                 clear howna hgrowa hata hltga hWa hBY))
                            go_roundw
                            case rel => exact ⟨k + 1, by omega, by go_num, _, _, L1, by rw [hSt.out, hcodes.out, hcd.out]; exact hRZ.out, by rw [hSt.out]; exact hLX.out, hLlX.out, hBZ⟩
                            case measure => simp [intOf]; omega
                · have hgot2 : Hid ((S.pop i j).got i j (lt_ L q).v = (S.pop i j).gain j (lt_ L q).v) := by unfold Hid; rw [hgotH.out, if_neg (fun h => hrcv h.1)]
                  have hrcf : S.rc j = false := by simpa using hrcv
                  rw [hgot2.out] at hSX
                  clear hgotH hgot2 hwy1 hrcv
                  as_aux_lemma =>
                    go_wp2_with fail
                    refine (ends_any w2 n ⟨2, (i : Int), (j : Int), vm⟩ true true ⟨fun _ => ⟨hge.out.1, fun _ => hge.out.2⟩, fun _ => rfl⟩).mono ?_
                    rintro e w4 ⟨rfl, hB4'⟩
                    have hR4 := Lib.hid (hR2.out.below hB4')
                    have hM4 := hM2H.out.below hB4' hM2H.out.lt
                    have hB4 := hBb.trans (hB4'.mono hsz2)
                    clear hR2 hM2H hB4' hBb m0 m1 m2 m3 n2
                    have m0 : w4.cell? ⟨bm, 0, none⟩ = some (.int .i64 2) := hM4.cell (i := 0) (by simp)
                    have m1 : w4.cell? ⟨bm, 1, none⟩ = some (.int .i64 (i : Int)) := hM4.cell (i := 1) (by simp)
                    have m2 : w4.cell? ⟨bm, 2, none⟩ = some (.int .i64 (j : Int)) := hM4.cell (i := 2) (by simp)
                    have m3 : w4.cell? ⟨bm, 3, none⟩ = some (.int .i64 vm) := hM4.cell (i := 3) (by simp)
                    have n4 : w4.cell? ⟨w.heap.size, 0, none⟩ = some (.int .i64 (n : Int)) := hR4.out.rn.cell (i := 0) (by simp)
                    have hsz4 : w.heap.size ≤ w4.heap.size := hB4.size
                    have hM4H := Lib.hid hM4
                    clear hM4
                  
                    obtain ⟨Al4, capl4, hvl4, hcl41, hcl42, hAt4⟩ := hR4.out.ol.shape
                    injection hvl4 with e41 _ e43
                    subst e41 e43
                    obtain ⟨gl, hgl, _, y0, y1, y2⟩ := hAt4 q hq1
                    subst hgl
                    have l4 : w4.cell? ⟨bw, 0, none⟩ = some (.slice (some ⟨gl, 0, none⟩) L.length capl) := hR4.out.rl.cell (i := 0) (by simp)
                    have hqI : (q : Int) < (L.length : Int) := by omega
                    have hq0 : ¬ ((q : Int) < 0) := by omega
                    have hAtH := Lib.hid hAt4
                    clear hAt4 y0 y1
                    generalize hxx : (lt_ L q).v = x at *
                    clear hxx
                    go_wp2_with fail
                    refine (without_any gl capl L q w4 hAtH.out (by omega) hq1 hcl41 hcl42).mono ?_
                    rintro e w5 ⟨v5, rfl, hO5, hB5⟩
                    obtain ⟨A5, cap5, hv5, hc51, hc52, _⟩ := hO5.shape
                    subst hv5
                    have hO5' : OwnL w5 w.heap.size (.slice A5 (L.take q ++ L.drop (q + 1)).length cap5) (L.take q ++ L.drop (q + 1)) := by
                      refine ⟨hO5.1, ?_⟩
                      rcases hO5.2 with h7 | ⟨g7, c7, cur, hv, hb', rest⟩
                      · exact .inl h7
                      · exact .inr ⟨g7, c7, cur, hv, Nat.le_trans hsz4 hb', rest⟩
                    have hg45 : w4.grownBy w5 none := ⟨hB5.os, hB5.tape, hB5.output, hB5.size, fun g hg _ => hB5.block g hg⟩
                    have hR5 := Lib.hid (hR4.out.setL hg45 (.inl rfl) hO5')
                    have l5 : w5.cell? ⟨bw, 0, none⟩ = some (.slice (some ⟨gl, 0, none⟩) L.length capl) := (hB5.cell (p := ⟨bw, 0, none⟩) hR4.out.rl.lt).trans l4
                    have l5f : w5.frozen? ⟨bw, 0, none⟩ = false := (hR4.out.rl.below hB5 hR4.out.rl.lt).frozen 0
                    have hBs : Below w.heap.size w (w5.setCell ⟨bw, 0, none⟩ (.slice A5 (L.take q ++ L.drop (q + 1)).length cap5)) := (hB4.trans (hB5.mono hsz4)).setCell (p := ⟨bw, 0, none⟩) hR4.out.lo.2.2.2.2.1 _
                    have hM6 : Row (w5.setCell ⟨bw, 0, none⟩ (.slice A5 (L.take q ++ L.drop (q + 1)).length cap5)) bm 39 [.int .i64 2, .int .i64 (i : Int), .int .i64 (j : Int), .int .i64 vm] := (hM4H.out.below hB5 hM4H.out.lt).far (hM4H.out.ne hR4.out.rl (by decide)) _
                    generalize hLL : L.take q ++ L.drop (q + 1) = L1 at *
                    clear hLL hO5 hO5' hg45 hB5 hB4 hR4 hM4H y2 l4 hAtH m0 m1 m2 m3 n4
                    have m1 : (w5.setCell ⟨bw, 0, none⟩ (.slice A5 L1.length cap5)).cell? ⟨bm, 1, none⟩ = some (.int .i64 (i : Int)) := hM6.cell (i := 1) (by simp)
                    have m2 : (w5.setCell ⟨bw, 0, none⟩ (.slice A5 L1.length cap5)).cell? ⟨bm, 2, none⟩ = some (.int .i64 (j : Int)) := hM6.cell (i := 2) (by simp)
                    go_wp2_with fail
                    generalize w5.setCell ⟨bw, 0, none⟩ (.slice A5 L1.length cap5) = w6 at *
                    as_aux_lemma =>
                      clear l5 l5f
                      have hsz6 : w.heap.size ≤ w6.heap.size := hBs.size
                      have hR6 := Lib.hid (hR5.out.congr (T := S.pop i j) (fun x a _ _ => by rw [ic_same (S := S) (T := S.pop i j) rfl rfl rfl]) (fun x a _ _ => by rw [bc_same (S := S) (T := S.pop i j) rfl rfl]))
                      clear hR5
                      have hh0 : w6.cell? ⟨bh, 0, none⟩ = some (.slice (some ⟨ib 0, 0, none⟩) n n) := hR6.out.rh.cell (i := 0) (by simp)
                      have v0 : w6.cell? ⟨ib 0, j, none⟩ = some (.int .i64 (S.hv j)) := IntRow.at_ (hR6.out.ri 0 (by omega)) hjn
                      have vf : w6.frozen? ⟨ib 0, j, none⟩ = false := Row.frozen (hR6.out.ri 0 (by omega)) j
                      have hR7 := Lib.hid (hR6.out.setI (T := (S.pop i j).gain j x) (x := 0) (by omega) j (S.hv j + x) (fun y a _ _ => ic_hv (S.pop i j) j (S.hv j + x) ((S.pop i j).gain j x) rfl rfl rfl y a) (fun y a _ _ => by rw [bc_same (S := S.pop i j) (T := (S.pop i j).gain j x) rfl rfl]))
                      have hB7 : Below w.heap.size w (w6.setCell ⟨ib 0, j, none⟩ (.int .i64 (S.hv j + x))) := hBs.setCell (p := ⟨ib 0, j, none⟩) (hR6.out.li 0 (by omega)) _
                      have hM7 : Row (w6.setCell ⟨ib 0, j, none⟩ (.int .i64 (S.hv j + x))) bm 39 [.int .i64 2, .int .i64 (i : Int), .int .i64 (j : Int), .int .i64 vm] := hM6.far (hM6.ne (hR6.out.ri 0 (by omega)) (by decide)) _
                      have hgx : S.hv j + x ≤ 1000 := by omega
                      clear hR6 hBs hM6
                      generalize S.hv j = hvj at *
                      go_region
                      generalize hw7 : w6.setCell ⟨ib 0, j, none⟩ (.int .i64 (hvj + x)) = w7 at *
                      clear hw7 hh0 v0 vf m1 m2
                      have hR8 := Lib.hid (hR7.out.blocks (w' := w7.drew) (fun _ _ _ => rfl))
                      have hB8 := hB7.drew
                      have hM8 := hM7.block (w' := w7.drew) rfl
                      clear hR7 hB7 hM7
                      generalize w7.drew = w8 at *
                      clear hg1 hg0 hgx
                      generalize hvj + x = sv at *
                      as_aux_lemma =>
                        have m1 : w8.cell? ⟨bm, 1, none⟩ = some (.int .i64 (i : Int)) := hM8.cell (i := 1) (by simp)
                        have m2 : w8.cell? ⟨bm, 2, none⟩ = some (.int .i64 (j : Int)) := hM8.cell (i := 2) (by simp)
                        have r0 : w8.cell? ⟨br, 0, none⟩ = some (.slice (some ⟨bb 0, 0, none⟩) n n) := hR8.out.rr.cell (i := 0) (by simp)
                        have r1 : w8.cell? ⟨bb 0, j, none⟩ = some (.bool (S.rc j)) := BRow.at_ (hR8.out.rb 0 (by omega)) hjn
                        have t0 : w8.cell? ⟨Tc, i, none⟩ = some (.slice (some ⟨bb (i + 1), 0, none⟩) n n) := by
                          have hr : Row w8 Tc 47 (ctop n n bb) := hR8.out.tc
                          rw [hr.cell (by simp [ctop]; exact hin)]
                          simp [ctop, hin]
                        have t1 : w8.cell? ⟨bb (i + 1), j, none⟩ = some (.bool (S.cl i j)) := BRow.at_ (hR8.out.rb (i + 1) (by omega)) hjn
                        rw [hrcf] at r1
                        clear hrcf
                        go_wp2_with fail
                        go_big_quiet (fail)
                        have hR9 := Lib.hid (hR8.out.blocks (w' := w8.drewN nq) (fun _ _ _ => rfl))
                        have hB9 := below_drewN hB8 nq
                        have hM9 := hM8.block (w' := w8.drewN nq) rfl
                        clear hR8 hB8 hM8 m1 m2 r0 r1 t0 t1
                        generalize w8.drewN nq = wz at *
                        as_aux_lemma =>
                          have hLlX : Hid (L1.length ≤ 6 * (k + 1)) := by unfold Hid; have := hlen3.out; omega
                          have hLX : Hid (LS n L1 ((S.pop i j).gain j x)) := hLPH.out.same rfl
                          have hRX := hR9
                          have hBX := hB9
                          clear hM9 hgq hwy0 hxb hq0 hqI hinv hge
                          have hcd : Hid (cd = 0) := by unfold Hid; rw [hstC.out, hSX.out]
                          have hSt : Hid (stAt n l (k + 1) = ((S.pop i j).gain j x)) := by unfold Hid; rw [hstS.out, hSX.out]
                          obtain ⟨Ac, capc, hvc, hcc1, hcc2⟩ := owns_shape hRX.out.oc
                          subst hvc
                          have hRY := Lib.hid (hRX.out.alloc (.cells #[.int .i64 (0)] 28))
                          have hBY := hBX.alloc hBX.size (.cells #[.int .i64 (0)] 28)
                          have o0 : wz.cell? ⟨bo, 0, none⟩ = some (.slice Ac cs.length capc) := hRX.out.ro.cell (i := 0) (by simp)
                          have hWa := hRY.out.oc
                          have hnews := Lib.hid (newsV (w := wz) (.int .i64 (0)) 28 rfl)
                          have hbase : w.heap.size ≤ (wz.alloc (.cells #[.int .i64 (0)] 28)).heap.size := by have := hBX.size; simp; omega
                          have hneo : Hid ((Value.slice Ac cs.length capc).ownBlock ≠ some bo) := owns_ne_row hRX.out.oc hRX.out.ro (by decide)
                          have hltc : Hid (∀ x, (Value.slice Ac cs.length capc).ownBlock = some x → w.heap.size ≤ x) := fun x hx => (World.ownsRow.lt hRX.out.oc x hx).1
                          have hlo : w.heap.size ≤ bo := hRX.out.lo.2.1
                          clear hBX
                          go_wp2_with (first
                            | (at_builtin; refine wpList_append_lies _ rfl (.tmp 210) (.tmp 212) 23 rfl w.heap.size 28 j0 (.int .i64 0) 1 8 Try.underlying23 hEi.out hEz.out hEs.out hEb.out rfl (by decide) (.slice Ac cs.length capc) cs.length (intVals cs) rfl hWa ⟨wz.heap.size, 0, none⟩ 1 1 [.int .i64 (0)] rfl rfl hnews.out (by simp [Value.oneCell']) (by omega) (by unfold maxLen; omega) (by omega) hbase _ rfl ?_; intro ga capa wa howna hgrowa hata hltga
                               have x0 : wa.cell? ⟨bo, 0, none⟩ = some (.slice Ac cs.length capc) := hgrowa.cell (hRY.out.ro.cell (i := 0) (by simp)) (fun e => hneo.out e.symm)
                               have xf : wa.frozen? ⟨bo, 0, none⟩ = false := (hRY.out.ro.grown hgrowa (fun e => hneo.out e.symm)).frozen 0
                               have hRZ := Lib.hid (hRY.out.setC (cs' := cs ++ [0]) (vc' := .slice (some ⟨ga, 0, none⟩) (cs.length + 1) capa) hgrowa (by rw [List.length_append, show intVals (cs ++ [0]) = intVals cs ++ [.int .i64 (0)] by simp [intVals]]; exact howna))
                               have hBZ : Below w.heap.size w (wa.setCell ⟨bo, 0, none⟩ (.slice (some ⟨ga, 0, none⟩) (cs.length + 1) capa)) := (hBY.grown hgrowa hbase hltc.out).setCell (p := ⟨bo, 0, none⟩) hlo _
                               clear howna hgrowa hata hltga hWa hBY))
                          go_roundw
                          case rel => exact ⟨k + 1, by omega, by go_num, _, _, L1, by rw [hSt.out, hcodes.out, hcd.out]; exact hRZ.out, by rw [hSt.out]; exact hLX.out, hLlX.out, hBZ⟩
                          case measure => simp [intOf]; omega
          have hk1' : km = 1 := by have := hk12.out; omega
          have hsd := hss.out hk1' hgoodH.out
          rw [Int.toNat_natCast, Int.toNat_natCast] at hsd
          clear hsk hsm hsa hss hst hk1 hk3 hkm e3 e3' hk12 hgoodH hkk hrH
          subst hk1'
          have hv0 := hinv.out.hv0 i
          have hv1 := hinv.out.hvLe hin
          by_cases hlow : vm < 1
          · rw [if_pos (.inl hlow)] at hsd
            have hSX := Lib.hid hsd
            have hd1 : decide (vm < 1) = true := by simp [hlow]
            clear hsd
            as_aux_lemma =>
              go_wp2_with fail
              refine (ends_any w2 n ⟨1, (i : Int), (j : Int), vm⟩ true true ⟨fun _ => ⟨hge.out.1, fun _ => hge.out.2⟩, fun _ => rfl⟩).mono ?_
              rintro e w4 ⟨rfl, hB4'⟩
              have hR4 := Lib.hid (hR2.out.below hB4')
              have hM4 := hM2H.out.below hB4' hM2H.out.lt
              have hB4 := hBb.trans (hB4'.mono hsz2)
              clear hR2 hM2H hB4' hBb m0 m1 m2 m3 n2
              have m0 : w4.cell? ⟨bm, 0, none⟩ = some (.int .i64 1) := hM4.cell (i := 0) (by simp)
              have m1 : w4.cell? ⟨bm, 1, none⟩ = some (.int .i64 (i : Int)) := hM4.cell (i := 1) (by simp)
              have m2 : w4.cell? ⟨bm, 2, none⟩ = some (.int .i64 (j : Int)) := hM4.cell (i := 2) (by simp)
              have m3 : w4.cell? ⟨bm, 3, none⟩ = some (.int .i64 vm) := hM4.cell (i := 3) (by simp)
              have n4 : w4.cell? ⟨w.heap.size, 0, none⟩ = some (.int .i64 (n : Int)) := hR4.out.rn.cell (i := 0) (by simp)
              have hsz4 : w.heap.size ≤ w4.heap.size := hB4.size
              have hM4H := Lib.hid hM4
              clear hM4
            
              have hh0 : w4.cell? ⟨bh, 0, none⟩ = some (.slice (some ⟨ib 0, 0, none⟩) n n) := hR4.out.rh.cell (i := 0) (by simp)
              have v0 : w4.cell? ⟨ib 0, i, none⟩ = some (.int .i64 (S.hv i)) := IntRow.at_ (hR4.out.ri 0 (by omega)) hin
              generalize S.hv i = hvi at *
              go_wp2_with fail
              go_quiet (fail)
              have hR9 := Lib.hid (hR4.out.blocks (w' := w4.drewN nq) (fun _ _ _ => rfl))
              have hB9 := below_drewN hB4 nq
              have hM9 := hM4H.out.block (w' := w4.drewN nq) rfl
              clear hR4 hB4 hM4H m0 m1 m2 m3 n4 hh0 v0
              generalize w4.drewN nq = wz at *
              as_aux_lemma =>
                have hRX := hR9
                have hBX := hB9
                have hLX := Lib.hid hLS
                have hLlX : Hid (L.length ≤ 6 * (k + 1)) := by unfold Hid; omega
                clear hLS hM9
                have hcd : Hid (cd = 4) := by unfold Hid; rw [hstC.out, hSX.out]
                have hSt : Hid (stAt n l (k + 1) = S) := by unfold Hid; rw [hstS.out, hSX.out]
                obtain ⟨Ac, capc, hvc, hcc1, hcc2⟩ := owns_shape hRX.out.oc
                subst hvc
                have hRY := Lib.hid (hRX.out.alloc (.cells #[.int .i64 (4)] 28))
                have hBY := hBX.alloc hBX.size (.cells #[.int .i64 (4)] 28)
                have o0 : wz.cell? ⟨bo, 0, none⟩ = some (.slice Ac cs.length capc) := hRX.out.ro.cell (i := 0) (by simp)
                have hWa := hRY.out.oc
                have hnews := Lib.hid (newsV (w := wz) (.int .i64 (4)) 28 rfl)
                have hbase : w.heap.size ≤ (wz.alloc (.cells #[.int .i64 (4)] 28)).heap.size := by have := hBX.size; simp; omega
                have hneo : Hid ((Value.slice Ac cs.length capc).ownBlock ≠ some bo) := owns_ne_row hRX.out.oc hRX.out.ro (by decide)
                have hltc : Hid (∀ x, (Value.slice Ac cs.length capc).ownBlock = some x → w.heap.size ≤ x) := fun x hx => (World.ownsRow.lt hRX.out.oc x hx).1
                have hlo : w.heap.size ≤ bo := hRX.out.lo.2.1
                clear hBX
                go_wp2_with (first
                  | (at_builtin; refine wpList_append_lies _ rfl (.tmp 210) (.tmp 212) 23 rfl w.heap.size 28 j0 (.int .i64 0) 1 8 Try.underlying23 hEi.out hEz.out hEs.out hEb.out rfl (by decide) (.slice Ac cs.length capc) cs.length (intVals cs) rfl hWa ⟨wz.heap.size, 0, none⟩ 1 1 [.int .i64 (4)] rfl rfl hnews.out (by simp [Value.oneCell']) (by omega) (by unfold maxLen; omega) (by omega) hbase _ rfl ?_; intro ga capa wa howna hgrowa hata hltga
                     have x0 : wa.cell? ⟨bo, 0, none⟩ = some (.slice Ac cs.length capc) := hgrowa.cell (hRY.out.ro.cell (i := 0) (by simp)) (fun e => hneo.out e.symm)
                     have xf : wa.frozen? ⟨bo, 0, none⟩ = false := (hRY.out.ro.grown hgrowa (fun e => hneo.out e.symm)).frozen 0
                     have hRZ := Lib.hid (hRY.out.setC (cs' := cs ++ [4]) (vc' := .slice (some ⟨ga, 0, none⟩) (cs.length + 1) capa) hgrowa (by rw [List.length_append, show intVals (cs ++ [4]) = intVals cs ++ [.int .i64 (4)] by simp [intVals]]; exact howna))
                     have hBZ : Below w.heap.size w (wa.setCell ⟨bo, 0, none⟩ (.slice (some ⟨ga, 0, none⟩) (cs.length + 1) capa)) := (hBY.grown hgrowa hbase hltc.out).setCell (p := ⟨bo, 0, none⟩) hlo _
                     clear howna hgrowa hata hltga hWa hBY))
                go_roundw
                case rel => exact ⟨k + 1, by omega, by go_num, _, _, L, by rw [hSt.out, hcodes.out, hcd.out]; exact hRZ.out, by rw [hSt.out]; exact hLX.out, hLlX.out, hBZ⟩
                case measure => simp [intOf]; omega
          have hd1 : decide (vm < 1) = false := by simp; omega
          by_cases hbig : S.hv i < vm
          · rw [if_pos (.inr hbig)] at hsd
            have hSX := Lib.hid hsd
            have hd2 : decide (S.hv i < vm) = true := by simp [hbig]
            clear hsd
            as_aux_lemma =>
              go_wp2_with fail
              refine (ends_any w2 n ⟨1, (i : Int), (j : Int), vm⟩ true true ⟨fun _ => ⟨hge.out.1, fun _ => hge.out.2⟩, fun _ => rfl⟩).mono ?_
              rintro e w4 ⟨rfl, hB4'⟩
              have hR4 := Lib.hid (hR2.out.below hB4')
              have hM4 := hM2H.out.below hB4' hM2H.out.lt
              have hB4 := hBb.trans (hB4'.mono hsz2)
              clear hR2 hM2H hB4' hBb m0 m1 m2 m3 n2
              have m0 : w4.cell? ⟨bm, 0, none⟩ = some (.int .i64 1) := hM4.cell (i := 0) (by simp)
              have m1 : w4.cell? ⟨bm, 1, none⟩ = some (.int .i64 (i : Int)) := hM4.cell (i := 1) (by simp)
              have m2 : w4.cell? ⟨bm, 2, none⟩ = some (.int .i64 (j : Int)) := hM4.cell (i := 2) (by simp)
              have m3 : w4.cell? ⟨bm, 3, none⟩ = some (.int .i64 vm) := hM4.cell (i := 3) (by simp)
              have n4 : w4.cell? ⟨w.heap.size, 0, none⟩ = some (.int .i64 (n : Int)) := hR4.out.rn.cell (i := 0) (by simp)
              have hsz4 : w.heap.size ≤ w4.heap.size := hB4.size
              have hM4H := Lib.hid hM4
              clear hM4
            
              have hh0 : w4.cell? ⟨bh, 0, none⟩ = some (.slice (some ⟨ib 0, 0, none⟩) n n) := hR4.out.rh.cell (i := 0) (by simp)
              have v0 : w4.cell? ⟨ib 0, i, none⟩ = some (.int .i64 (S.hv i)) := IntRow.at_ (hR4.out.ri 0 (by omega)) hin
              generalize S.hv i = hvi at *
              go_wp2_with fail
              go_quiet (fail)
              have hR9 := Lib.hid (hR4.out.blocks (w' := w4.drewN nq) (fun _ _ _ => rfl))
              have hB9 := below_drewN hB4 nq
              have hM9 := hM4H.out.block (w' := w4.drewN nq) rfl
              clear hR4 hB4 hM4H m0 m1 m2 m3 n4 hh0 v0
              generalize w4.drewN nq = wz at *
              as_aux_lemma =>
                have hRX := hR9
                have hBX := hB9
                have hLX := Lib.hid hLS
                have hLlX : Hid (L.length ≤ 6 * (k + 1)) := by unfold Hid; omega
                clear hLS hM9
                have hcd : Hid (cd = 4) := by unfold Hid; rw [hstC.out, hSX.out]
                have hSt : Hid (stAt n l (k + 1) = S) := by unfold Hid; rw [hstS.out, hSX.out]
                obtain ⟨Ac, capc, hvc, hcc1, hcc2⟩ := owns_shape hRX.out.oc
                subst hvc
                have hRY := Lib.hid (hRX.out.alloc (.cells #[.int .i64 (4)] 28))
                have hBY := hBX.alloc hBX.size (.cells #[.int .i64 (4)] 28)
                have o0 : wz.cell? ⟨bo, 0, none⟩ = some (.slice Ac cs.length capc) := hRX.out.ro.cell (i := 0) (by simp)
                have hWa := hRY.out.oc
                have hnews := Lib.hid (newsV (w := wz) (.int .i64 (4)) 28 rfl)
                have hbase : w.heap.size ≤ (wz.alloc (.cells #[.int .i64 (4)] 28)).heap.size := by have := hBX.size; simp; omega
                have hneo : Hid ((Value.slice Ac cs.length capc).ownBlock ≠ some bo) := owns_ne_row hRX.out.oc hRX.out.ro (by decide)
                have hltc : Hid (∀ x, (Value.slice Ac cs.length capc).ownBlock = some x → w.heap.size ≤ x) := fun x hx => (World.ownsRow.lt hRX.out.oc x hx).1
                have hlo : w.heap.size ≤ bo := hRX.out.lo.2.1
                clear hBX
                go_wp2_with (first
                  | (at_builtin; refine wpList_append_lies _ rfl (.tmp 210) (.tmp 212) 23 rfl w.heap.size 28 j0 (.int .i64 0) 1 8 Try.underlying23 hEi.out hEz.out hEs.out hEb.out rfl (by decide) (.slice Ac cs.length capc) cs.length (intVals cs) rfl hWa ⟨wz.heap.size, 0, none⟩ 1 1 [.int .i64 (4)] rfl rfl hnews.out (by simp [Value.oneCell']) (by omega) (by unfold maxLen; omega) (by omega) hbase _ rfl ?_; intro ga capa wa howna hgrowa hata hltga
                     have x0 : wa.cell? ⟨bo, 0, none⟩ = some (.slice Ac cs.length capc) := hgrowa.cell (hRY.out.ro.cell (i := 0) (by simp)) (fun e => hneo.out e.symm)
                     have xf : wa.frozen? ⟨bo, 0, none⟩ = false := (hRY.out.ro.grown hgrowa (fun e => hneo.out e.symm)).frozen 0
                     have hRZ := Lib.hid (hRY.out.setC (cs' := cs ++ [4]) (vc' := .slice (some ⟨ga, 0, none⟩) (cs.length + 1) capa) hgrowa (by rw [List.length_append, show intVals (cs ++ [4]) = intVals cs ++ [.int .i64 (4)] by simp [intVals]]; exact howna))
                     have hBZ : Below w.heap.size w (wa.setCell ⟨bo, 0, none⟩ (.slice (some ⟨ga, 0, none⟩) (cs.length + 1) capa)) := (hBY.grown hgrowa hbase hltc.out).setCell (p := ⟨bo, 0, none⟩) hlo _
                     clear howna hgrowa hata hltga hWa hBY))
                go_roundw
                case rel => exact ⟨k + 1, by omega, by go_num, _, _, L, by rw [hSt.out, hcodes.out, hcd.out]; exact hRZ.out, by rw [hSt.out]; exact hLX.out, hLlX.out, hBZ⟩
                case measure => simp [intOf]; omega
          rw [if_neg (by omega)] at hsd
          have hSX := Lib.hid hsd
          have hd2 : decide (S.hv i < vm) = false := by simp; omega
          clear hsd
          as_aux_lemma =>
            go_wp2_with fail
            refine (ends_any w2 n ⟨1, (i : Int), (j : Int), vm⟩ true true ⟨fun _ => ⟨hge.out.1, fun _ => hge.out.2⟩, fun _ => rfl⟩).mono ?_
            rintro e w4 ⟨rfl, hB4'⟩
            have hR4 := Lib.hid (hR2.out.below hB4')
            have hM4 := hM2H.out.below hB4' hM2H.out.lt
            have hB4 := hBb.trans (hB4'.mono hsz2)
            clear hR2 hM2H hB4' hBb m0 m1 m2 m3 n2
            have m0 : w4.cell? ⟨bm, 0, none⟩ = some (.int .i64 1) := hM4.cell (i := 0) (by simp)
            have m1 : w4.cell? ⟨bm, 1, none⟩ = some (.int .i64 (i : Int)) := hM4.cell (i := 1) (by simp)
            have m2 : w4.cell? ⟨bm, 2, none⟩ = some (.int .i64 (j : Int)) := hM4.cell (i := 2) (by simp)
            have m3 : w4.cell? ⟨bm, 3, none⟩ = some (.int .i64 vm) := hM4.cell (i := 3) (by simp)
            have n4 : w4.cell? ⟨w.heap.size, 0, none⟩ = some (.int .i64 (n : Int)) := hR4.out.rn.cell (i := 0) (by simp)
            have hsz4 : w.heap.size ≤ w4.heap.size := hB4.size
            have hM4H := Lib.hid hM4
            clear hM4
          
            have hh0 : w4.cell? ⟨bh, 0, none⟩ = some (.slice (some ⟨ib 0, 0, none⟩) n n) := hR4.out.rh.cell (i := 0) (by simp)
            have v0 : w4.cell? ⟨ib 0, i, none⟩ = some (.int .i64 (S.hv i)) := IntRow.at_ (hR4.out.ri 0 (by omega)) hin
            go_wp2_with fail
            go_quiet (fail)
            have hR9 := Lib.hid (hR4.out.blocks (w' := w4.drewN nq) (fun _ _ _ => rfl))
            have hB9 := below_drewN hB4 nq
            have hM9 := hM4H.out.block (w' := w4.drewN nq) rfl
            clear hR4 hB4 hM4H m0 m1 m2 m3 n4 hh0 v0
            generalize w4.drewN nq = wz at *
            as_aux_lemma =>
              have m1 : wz.cell? ⟨bm, 1, none⟩ = some (.int .i64 (i : Int)) := hM9.cell (i := 1) (by simp)
              have m3 : wz.cell? ⟨bm, 3, none⟩ = some (.int .i64 vm) := hM9.cell (i := 3) (by simp)
              have hh0 : wz.cell? ⟨bh, 0, none⟩ = some (.slice (some ⟨ib 0, 0, none⟩) n n) := hR9.out.rh.cell (i := 0) (by simp)
              have v0 : wz.cell? ⟨ib 0, i, none⟩ = some (.int .i64 (S.hv i)) := IntRow.at_ (hR9.out.ri 0 (by omega)) hin
              have vf : wz.frozen? ⟨ib 0, i, none⟩ = false := Row.frozen (hR9.out.ri 0 (by omega)) i
              have hRA := Lib.hid (hR9.out.setI (T := S.pay i vm) (x := 0) (by omega) i (S.hv i - vm) (fun y a _ _ => ic_hv S i (S.hv i - vm) (S.pay i vm) rfl rfl rfl y a) (fun y a _ _ => by rw [bc_same (S := S) (T := S.pay i vm) rfl rfl]))
              have hBA : Below w.heap.size w (wz.setCell ⟨ib 0, i, none⟩ (.int .i64 (S.hv i - vm))) := hB9.setCell (p := ⟨ib 0, i, none⟩) (hR9.out.li 0 (by omega)) _
              have hMA : Row (wz.setCell ⟨ib 0, i, none⟩ (.int .i64 (S.hv i - vm))) bm 39 [.int .i64 1, .int .i64 (i : Int), .int .i64 (j : Int), .int .i64 vm] := hM9.far (hM9.ne (hR9.out.ri 0 (by omega)) (by decide)) _
              clear hR9 hB9 hM9
              generalize S.hv i = hvi at *
              go_wp2_with fail
              go_region
              generalize hwA : wz.setCell ⟨ib 0, i, none⟩ (.int .i64 (hvi - vm)) = wA at *
              clear hwA m1 m3 hh0 v0 vf hv0 hv1 hd1 hd2 hlow hbig hinv hge
              have hRB := Lib.hid (hRA.out.blocks (w' := wA.drew) (fun _ _ _ => rfl))
              have hBB := hBA.drew
              have hMB := hMA.block (w' := wA.drew) rfl
              clear hRA hBA hMA
              generalize wA.drew = wB at *
              generalize hvi - vm = dv at *
              as_aux_lemma =>
                have m1 : wB.cell? ⟨bm, 1, none⟩ = some (.int .i64 (i : Int)) := hMB.cell (i := 1) (by simp)
                have m2 : wB.cell? ⟨bm, 2, none⟩ = some (.int .i64 (j : Int)) := hMB.cell (i := 2) (by simp)
                have m3 : wB.cell? ⟨bm, 3, none⟩ = some (.int .i64 vm) := hMB.cell (i := 3) (by simp)
                have l0 : wB.cell? ⟨bw, 0, none⟩ = some (.slice Al L.length capl) := hRB.out.rl.cell (i := 0) (by simp)
                have hRC := Lib.hid (hRB.out.alloc (.cells #[.int .i64 (i : Int), .int .i64 (j : Int), .int .i64 vm] 51))
                have hBC := hBB.alloc hBB.size (.cells #[.int .i64 (i : Int), .int .i64 (j : Int), .int .i64 vm] 51)
                have hWl := hRC.out.ol
                unfold OwnL at hWl
                have hnewl := Lib.hid (newsL (w := wB) ⟨(i : Int), (j : Int), vm⟩ rfl)
                have hbasl : w.heap.size ≤ (wB.alloc (.cells #[.int .i64 (i : Int), .int .i64 (j : Int), .int .i64 vm] 51)).heap.size := by have := hBB.size; simp; omega
                have hltl : Hid (∀ c, (Value.slice Al L.length capl).ownBlock = some c → w.heap.size ≤ c) := fun c hc => (World.ownsRow.lt hRB.out.ol c hc).1
                have hnel : Hid ((Value.slice Al L.length capl).ownBlock ≠ some bw) := owns_ne_row hRB.out.ol hRB.out.rl (by decide)
                have hlw : w.heap.size ≤ bw := hRB.out.lo.2.2.2.2.1
                have hrlC := hRC.out.rl
                obtain ⟨Ac, capc, hvc, hcc1, hcc2⟩ := owns_shape hRB.out.oc
                subst hvc
                have hcd : Hid (cd = 0) := by unfold Hid; rw [hstC.out, hSX.out]
                have hSt : Hid (stAt n l (k + 1) = S.send i j vm) := by unfold Hid; rw [hstS.out, hSX.out]
                have hLX : Hid (LS n (L ++ [⟨(i : Int), (j : Int), vm⟩]) (S.send i j vm)) := LS.put (S := S.pay i vm) (hLS.same rfl) i j vm
                have hLlX : Hid ((L ++ [(⟨(i : Int), (j : Int), vm⟩ : Lt)]).length ≤ 6 * (k + 1)) := by unfold Hid; rw [List.length_append, List.length_singleton]; omega
                clear hLS
                clear hRB hBB hMB
                go_wp2_with (first
                  | (at_builtin; refine wpList_append_lies _ rfl (.tmp 199) (.tmp 207) 49 rfl w.heap.size 51 j1 (.agg #[.int .i64 0, .int .i64 0, .int .i64 0]) 3 24 Try.underlying49 hLi.out hLz.out hLs.out hLb.out rfl (by decide) (.slice Al L.length capl) L.length (flatL L) rfl hWl ⟨wB.heap.size, 0, none⟩ 1 1 (cellsL ⟨(i : Int), (j : Int), vm⟩) rfl rfl hnewl.out (by simp [cellsL, Value.oneCell']) (by omega) (by unfold maxLen; omega) (by omega) hbasl _ rfl ?_; intro gl capL wL hownl hgrowl hatl hltgl
                     have l1 : wL.cell? ⟨bw, 0, none⟩ = some (.slice Al L.length capl) := hgrowl.cell (hrlC.cell (i := 0) (by simp)) (fun e => hnel.out e.symm)
                     have lf : wL.frozen? ⟨bw, 0, none⟩ = false := (hrlC.grown hgrowl (fun e => hnel.out e.symm)).frozen 0
                     have hRD := Lib.hid (hRC.out.setL hgrowl (.inr rfl) (OwnL.push hownl))
                     have hBD : Below w.heap.size w (wL.setCell ⟨bw, 0, none⟩ (.slice (some ⟨gl, 0, none⟩) (L.length + 1) capL)) := (hBC.grown hgrowl hbasl hltl.out).setCell (p := ⟨bw, 0, none⟩) hlw _
                     have hRX := Lib.hid (hRD.out.congr (T := S.send i j vm) (fun x a _ _ => by rw [ic_same (S := S.pay i vm) (T := S.send i j vm) rfl rfl rfl]) (fun x a _ _ => by rw [bc_same (S := S.pay i vm) (T := S.send i j vm) rfl rfl]))
                     have hRY := Lib.hid (hRX.out.alloc (.cells #[.int .i64 0] 28))
                     have hBY := hBD.alloc hBD.size (.cells #[.int .i64 0] 28)
                     have o0 : (wL.setCell ⟨bw, 0, none⟩ (.slice (some ⟨gl, 0, none⟩) (L.length + 1) capL)).cell? ⟨bo, 0, none⟩ = some (.slice Ac cs.length capc) := hRX.out.ro.cell (i := 0) (by simp)
                     have hWa := hRY.out.oc
                     have hnews := Lib.hid (newsV (w := (wL.setCell ⟨bw, 0, none⟩ (.slice (some ⟨gl, 0, none⟩) (L.length + 1) capL))) (g := wL.heap.size) (.int .i64 0) 28 (by simp))
                     have hbase : w.heap.size ≤ ((wL.setCell ⟨bw, 0, none⟩ (.slice (some ⟨gl, 0, none⟩) (L.length + 1) capL)).alloc (.cells #[.int .i64 0] 28)).heap.size := (by have := hBD.size; simp at this ⊢; omega)
                     have hneo : Hid ((Value.slice Ac cs.length capc).ownBlock ≠ some bo) := owns_ne_row hRX.out.oc hRX.out.ro (by decide)
                     have hltc : Hid (∀ x, (Value.slice Ac cs.length capc).ownBlock = some x → w.heap.size ≤ x) := fun x hx => (World.ownsRow.lt hRX.out.oc x hx).1
                     have hlo : w.heap.size ≤ bo := hRX.out.lo.2.1
                     clear hownl hgrowl hatl hltgl hWl hBC hrlC hBD hRD)
                  | (at_builtin; go_loud (refine wpList_append_lies _ rfl (.tmp 210) (.tmp 212) 23 rfl w.heap.size 28 j0 (.int .i64 0) 1 8 Try.underlying23 hEi.out hEz.out hEs.out hEb.out rfl (by decide) (.slice Ac cs.length capc) cs.length (intVals cs) rfl hWa ⟨wL.heap.size, 0, none⟩ 1 1 [.int .i64 0] rfl rfl hnews.out (by simp [Value.oneCell']) (by omega) (by unfold maxLen; omega) (by omega) hbase _ rfl ?_); intro ga capa wa howna hgrowa hata hltga
                     have x0 : wa.cell? ⟨bo, 0, none⟩ = some (.slice Ac cs.length capc) := hgrowa.cell (hRY.out.ro.cell (i := 0) (by simp)) (fun e => hneo.out e.symm)
                     have xf : wa.frozen? ⟨bo, 0, none⟩ = false := (hRY.out.ro.grown hgrowa (fun e => hneo.out e.symm)).frozen 0
                     have hRZ := Lib.hid (hRY.out.setC (cs' := cs ++ [0]) (vc' := .slice (some ⟨ga, 0, none⟩) (cs.length + 1) capa) hgrowa (by rw [List.length_append, show intVals (cs ++ [0]) = intVals cs ++ [.int .i64 0] by simp [intVals]]; exact howna))
                     have hBZ : Below w.heap.size w (wa.setCell ⟨bo, 0, none⟩ (.slice (some ⟨ga, 0, none⟩) (cs.length + 1) capa)) := (hBY.grown hgrowa hbase hltc.out).setCell (p := ⟨bo, 0, none⟩) hlo _
                     clear howna hgrowa hata hltga hWa hBY))
                go_roundw
                case rel => exact ⟨k + 1, by omega, by go_num, _, _, (L ++ [⟨(i : Int), (j : Int), vm⟩]), by rw [hSt.out, hcodes.out, hcd.out]; exact hRZ.out, by rw [hSt.out]; exact hLX.out, hLlX.out, hBZ⟩
                case measure => simp [intOf]; omega
        · have hkl : k = l.length := by omega
          subst hkl
          as_aux_lemma =>
          have hkI : ¬ (l.length : Int) < (l.length : Int) := by omega
          have hR1 := Lib.hid (hR.setD true)
          have hB1 : Below w.heap.size w (wq.setCell ⟨bo, 1, none⟩ (.bool true)) := hB.setCell (p := ⟨bo, 1, none⟩) hR.lo.2.1 _
          have o1 : wq.cell? ⟨bo, 1, none⟩ = some (.bool false) := hR.ro.cell (i := 1) (by simp)
          have of : wq.frozen? ⟨bo, 1, none⟩ = false := hR.ro.frozen 1
          clear hR hB hLS hLl
          go_wp2_with fail
          have hfin0 : Hid (FinR w B2 n ⟨w.heap.size, bR, bo, bh, br, bw, Tc, ib, bb⟩ (.slice (some ⟨Tw, 0, none⟩) n capw) l 0 0 (wq.setCell ⟨bo, 1, none⟩ (.bool true))) := ⟨_, _, _, _, hR1.out, ⟨fun _ => finP_zero _ _, fun _ => rfl⟩, hB1⟩
          clear hR1 hB1 o1 of
          generalize wq.setCell ⟨bo, 1, none⟩ (.bool true) = wz at *
          go_loopw [17] (fun t wr => ∃ i : Nat, i ≤ n ∧ t = .int .i64 i ∧ FinR w B2 n ⟨w.heap.size, bR, bo, bh, br, bw, Tc, ib, bb⟩ (.slice (some ⟨Tw, 0, none⟩) n capw) l i 0 wr) (fun t _ => n - (intOf t).toNat)
          case atStart => exact ⟨0, Nat.zero_le _, rfl, hfin0.out⟩
          case round =>
            clear hfin0
            obtain ⟨i, hi, rfl, hF⟩ := hrel
            rename World => w1
            by_cases hlt : i < n
            · have hiI : (i : Int) < (n : Int) := by omega
              have hFH := Lib.hid hF
              have n1 : w1.cell? ⟨w.heap.size, 0, none⟩ = some (.int .i64 (n : Int)) := hF.num
              clear hF
              go_wp2_with fail
              clear n1
              go_loopw [18] (fun t wr => ∃ j : Nat, j ≤ n ∧ t = .int .i64 j ∧ FinR w B2 n ⟨w.heap.size, bR, bo, bh, br, bw, Tc, ib, bb⟩ (.slice (some ⟨Tw, 0, none⟩) n capw) l i j wr) (fun t _ => n - (intOf t).toNat)
              case atStart => exact ⟨0, Nat.zero_le _, rfl, hFH.out⟩
              case round =>
                clear hFH
                obtain ⟨j, hj, rfl, hF⟩ := hrel
                rename World => w2
                by_cases hjt : j < n
                · have hjI : (j : Int) < (n : Int) := by omega
                  obtain ⟨d, vl2, vc2, L2, hR, hd, hB⟩ := hF
                  have n1 : w2.cell? ⟨w.heap.size, 0, none⟩ = some (.int .i64 (n : Int)) := hR.rn.cell (i := 0) (by simp)
                  have o1 : w2.cell? ⟨bo, 1, none⟩ = some (.bool d) := hR.ro.cell (i := 1) (by simp)
                  have of : w2.frozen? ⟨bo, 1, none⟩ = false := hR.ro.frozen 1
                  have r0 : w2.cell? ⟨br, 0, none⟩ = some (.slice (some ⟨bb 0, 0, none⟩) n n) := hR.rr.cell (i := 0) (by simp)
                  have r1 : w2.cell? ⟨bb 0, i, none⟩ = some (.bool ((stAt n l l.length).rc i)) := BRow.at_ (hR.rb 0 (by omega)) hlt
                  have t0 : w2.cell? ⟨Tc, i, none⟩ = some (.slice (some ⟨bb (i + 1), 0, none⟩) n n) := by
                    have := hR.tc.cell (i := i) (by simp [ctop]; omega)
                    simpa [ctop, hlt] using this
                  have t1 : w2.cell? ⟨bb (i + 1), j, none⟩ = some (.bool ((stAt n l l.length).cl i j)) := BRow.at_ (hR.rb (i + 1) (by omega)) hjt
                  have hRH := Lib.hid hR
                  have hBH := Lib.hid hB
                  have hnx : Hid ((d && ((stAt n l l.length).rc i && (decide (i = j) || (stAt n l l.length).cl i j))) = true ↔ finP n (stAt n l l.length) i (j + 1)) := by
                    unfold Hid
                    rw [finP_step, ← hd]
                    unfold okP
                    simp
                  have hlo := hR.lo.2.1
                  have hRX := Lib.hid (fun d' : Bool => hR.setD d')
                  have hBX := Lib.hid (fun d' : Bool => hB.setCell (p := ⟨bo, 1, none⟩) hlo (.bool d'))
                  clear hR hB hd hRH hBH
                  generalize hrc : (stAt n l l.length).rc i = rc at *
                  generalize hcl : (stAt n l l.length).cl i j = cl at *
                  clear hrc hcl
                  have hne : (i = j) ∨ (i ≠ j) := by omega
                  cases d <;> cases rc
                  case true.true =>
                    rcases hne with he | he
                    · subst he
                      go_wp2_with fail
                      go_roundw
                      case rel => exact ⟨i + 1, by omega, by go_num, _, _, _, _, hRX.out true, by simpa using hnx.out, hBX.out true⟩
                      case measure => simp [intOf]; omega
                    · have heI : ¬ ((i : Int) = (j : Int)) := by omega
                      cases cl
                      all_goals
                        go_wp2_with fail
                        go_roundw
                        case rel => exact ⟨j + 1, by omega, by go_num, _, _, _, _, hRX.out _, by simpa [he, heI] using hnx.out, hBX.out _⟩
                        case measure => simp [intOf]; omega
                  all_goals
                    go_wp2_with fail
                    go_roundw
                    case rel => exact ⟨j + 1, by omega, by go_num, _, _, _, _, hRX.out false, by simpa using hnx.out, hBX.out false⟩
                    case measure => simp [intOf]; omega
                · have hjn : j = n := by omega
                  subst hjn
                  have hjI : ¬ (j : Int) < (j : Int) := by omega
                  have n1 : w2.cell? ⟨w.heap.size, 0, none⟩ = some (.int .i64 (j : Int)) := hF.num
                  have hFH := Lib.hid hF.row
                  clear hF
                  go_wp2_with fail
                  go_roundw
                  case rel => exact ⟨i + 1, by omega, by go_num, hFH.out⟩
                  case measure => simp [intOf]; omega
            · have hin : i = n := by omega
              subst hin
              have hiI : ¬ (i : Int) < (i : Int) := by omega
              obtain ⟨d, vl2, vc2, L2, hR, hd, hB⟩ := hF
              have n1 : w1.cell? ⟨w.heap.size, 0, none⟩ = some (.int .i64 (i : Int)) := hR.rn.cell (i := 0) (by simp)
              obtain ⟨Ac, capc, hvc, _, _⟩ := owns_shape hR.oc
              have hcl : ((List.range l.length).map (codeAt i l)).length = l.length := by simp
              have hvc2 : vc2 = .slice Ac l.length capc := hvc.trans (by rw [hcl])
              clear hvc
              subst hvc2
              have o0 : w1.cell? ⟨bo, 0, none⟩ = some (.slice Ac l.length capc) := hR.ro.cell (i := 0) (by simp)
              have o1 : w1.cell? ⟨bo, 1, none⟩ = some (.bool d) := hR.ro.cell (i := 1) (by simp)
              have o2 : w1.cell? ⟨bo, 2, none⟩ = some (.slice (some ⟨ib 1, 0, none⟩) i i) := hR.ro.cell (i := 2) (by simp)
              have o3 : w1.cell? ⟨bo, 3, none⟩ = some (.slice (some ⟨Tw, 0, none⟩) i capw) := hR.ro.cell (i := 3) (by simp)
              have x0 : w1.cell? ⟨bR, 0, none⟩ = some (.slice none 0 0) := hR.rx.cell (i := 0) (by simp)
              have x1 : w1.cell? ⟨bR, 1, none⟩ = some (.bool false) := hR.rx.cell (i := 1) (by simp)
              have x2 : w1.cell? ⟨bR, 2, none⟩ = some (.slice none 0 0) := hR.rx.cell (i := 2) (by simp)
              have x3 : w1.cell? ⟨bR, 3, none⟩ = some (.slice none 0 0) := hR.rx.cell (i := 3) (by simp)
              have f0 : w1.frozen? ⟨bR, 0, none⟩ = false := hR.rx.frozen 0
              have f1 : w1.frozen? ⟨bR, 1, none⟩ = false := hR.rx.frozen 1
              have f2 : w1.frozen? ⟨bR, 2, none⟩ = false := hR.rx.frozen 2
              have f3 : w1.frozen? ⟨bR, 3, none⟩ = false := hR.rx.frozen 3
              have hxo : bR ≠ bo := hR.xo
              have hRH := Lib.hid hR
              have hBH := Lib.hid hB
              have hlR : w.heap.size ≤ bR := hR.lo.2.2.2.2.2.2.2
              have hW : ∀ g, g ≠ bR → ((((w1.setCell ⟨bR, 0, none⟩ (.slice Ac l.length capc)).setCell ⟨bR, 1, none⟩ (.bool d)).setCell ⟨bR, 2, none⟩ (.slice (some ⟨ib 1, 0, none⟩) i i)).setCell ⟨bR, 3, none⟩ (.slice (some ⟨Tw, 0, none⟩) i capw)).heap[g]? = w1.heap[g]? := fun g hne => by
                rw [Below.heap_setCell _ _ _ g hne, Below.heap_setCell _ _ _ g hne, Below.heap_setCell _ _ _ g hne, Below.heap_setCell _ _ _ g hne]
              have hBW : Below w.heap.size w ((((w1.setCell ⟨bR, 0, none⟩ (.slice Ac l.length capc)).setCell ⟨bR, 1, none⟩ (.bool d)).setCell ⟨bR, 2, none⟩ (.slice (some ⟨ib 1, 0, none⟩) i i)).setCell ⟨bR, 3, none⟩ (.slice (some ⟨Tw, 0, none⟩) i capw)) :=
                (((hB.setCell (p := ⟨bR, 0, none⟩) hlR _).setCell (p := ⟨bR, 1, none⟩) hlR _).setCell (p := ⟨bR, 2, none⟩) hlR _).setCell (p := ⟨bR, 3, none⟩) hlR _
              have hRW := (((hR.rx.set 0 (.slice Ac l.length capc)).set 1 (.bool d)).set 2 (.slice (some ⟨ib 1, 0, none⟩) i i)).set 3 (.slice (some ⟨Tw, 0, none⟩) i capw)
              have hout := Lib.hid (refM_out rfl rfl hR (by omega) hW hBW (by rw [hd, finP_done (by omega)]))
              have q0 := hRW.cell (i := 0) (by simp)
              have q1 := hRW.cell (i := 1) (by simp)
              have q2 := hRW.cell (i := 2) (by simp)
              have q3 := hRW.cell (i := 3) (by simp)
              simp only [List.set, List.getElem_cons_zero, List.getElem_cons_succ] at q0 q1 q2 q3
              clear hR hB hW hBW hRW hRH hBH hd
              go_wp2_with fail
              generalize ((((w1.setCell ⟨bR, 0, none⟩ (.slice Ac l.length capc)).setCell ⟨bR, 1, none⟩ (.bool d)).setCell ⟨bR, 2, none⟩ (.slice (some ⟨ib 1, 0, none⟩) i i)).setCell ⟨bR, 3, none⟩ (.slice (some ⟨Tw, 0, none⟩) i capw)) = w7 at *
              (try simp only [Exit.inBlock, Exit.then])
              refine bodyPost_ret (v := .agg #[.slice Ac l.length capc, .bool d, .slice (some ⟨ib 1, 0, none⟩) i i, .slice (some ⟨Tw, 0, none⟩) i capw]) ?_ rfl hout.out
              clear hout
              rw [results_cell1 rfl]
              go_simp

#print axioms refsnap_any
end Go.Proofs.Ytebighmddimnkaa
