/-
  The walk of the law CutWay: messages in transit were sent, in rising order; behind all events they are as many as were sent less those received.
-/
import Derived.Test.YtpofmhlmaejmoaaLft
import Derived.Test.YtpofmhlmaejmoaaRan
namespace Go.Proofs.Ytpofmhlmaejmoaa
open Go.RowKit Go.Maps

set_option maxHeartbeats 2000000 in
set_option maxRecDepth 100000 in
theorem cutway_bad (w : World) (n : Int) (A : Option Addr) (cap : Nat) (l : List Ev) (hE : Evs w w.heap.size A l) (hF : Fits l) (hl : l.length ≤ maxLen) (Ac : Option Addr) (capc : Nat) (cv : List Int) (hN : Nums w w.heap.size Ac cv) (h0 : ¬ cutC n l cv = 0) :
    Calls Try.prog 10 #[.int .i64 n, .slice A l.length cap, .slice Ac cv.length capc] w fun e w' => e = .returned (.bool true) ∧ Below w.heap.size w w' := by
  have hr' : (cutC n l cv != 0) = true := by simp [h0]
  have h0H := Lib.hid h0
  clear h0
  go_enter Try.func10, Try.ntmps10
  go_wp2_with fail
  refine (way_bad A Ac cap capc l n cv _ hE hF hl hN h0H.out).mono ?_
  rintro e w1 ⟨rfl, hB1⟩
  go_wp2_with fail
  refine (is_bad A Ac cap capc l n cv _ ((hE.below hB1).more hB1.size) hF hl ((hN.below hB1).more hB1.size) h0H.out).mono ?_
  rintro e w2 ⟨rfl, hB2'⟩
  have hB2 := hB1.trans (hB2'.mono hB1.size)
  go_wp2_with fail
  go_ret
  exact ⟨by simp, hB2⟩

/-- Some event below k sends message m. -/
def sendB (l : List Ev) (m : Int) (i : Nat) : Bool := decide ((ev l i).k = 2) && decide ((ev l i).m = m)
theorem sendB_step {l : List Ev} {m : Int} {j : Nat} {p k e : Int} (hev : ev l j = ⟨p, k, e⟩) : anyTo (sendB l m) (j + 1) = (anyTo (sendB l m) j || ((k == 2) && (e == m))) := by
  rw [anyTo]
  unfold sendB
  rw [hev]
  rfl

def CyRel (w wr : World) : Prop := Below w.heap.size w wr
def CyAll (l : List Ev) (c : Nat) (w : World) (B g : Nat) (k : Nat) (wr : World) : Prop := IntRow wr g c (fun q => (own l (q : Int) k : Int)) ∧ Below B w wr

set_option maxHeartbeats 8000000 in
set_option maxRecDepth 100000 in
theorem cutway_ok (w : World) (c : Nat) (A : Option Addr) (cap : Nat) (l : List Ev) (hE : Evs w w.heap.size A l) (hF : Fits l) (hcap : l.length ≤ cap) (hl : l.length ≤ maxLen) (Ac : Option Addr) (capc : Nat) (cv : List Int) (hN : Nums w w.heap.size Ac cv) (h0 : cutC (c : Int) l cv = 0) (C : Bool) (code : Int) (xs : List Int) (hcode : (code == 0) = C) (hC : Hid (C = true ↔ WholeC l (vat cv))) (hxs : Hid (WayOk l xs))
    (hway : Hid (Calls Try.prog 15 #[.int .i64 (c : Int), .slice A l.length cap, .slice Ac cv.length capc] w fun e w' => ∃ A1 cap1, e = .returned (.tuple #[.slice A1 xs.length cap1, .int .i64 code]) ∧ Nums w' w'.heap.size A1 xs ∧ Below w.heap.size w w')) :
    Calls Try.prog 10 #[.int .i64 (c : Int), .slice A l.length cap, .slice Ac cv.length capc] w fun e w' => e = .returned (.bool true) ∧ Below w.heap.size w w' := by
  obtain ⟨h1, h2, h3⟩ := cutC_ok.1 h0
  have h30 := (check_small h1).2.2
  have hc6 := (check_small h1).2.1
  have hr : (checkCode (c : Int) l == 0) = true := by simp [h1]
  have h1H := Lib.hid h1
  have h0H := Lib.hid h0
  have hgH := Lib.hid (check_good.1 h1).2
  have hlen := hxs.out.len
  clear h0 h1 h2 h3
  obtain ⟨j0, hi0, hz0, hz1, hz2⟩ := info_parts infoInt
  have b2 : j0.bytes * c ≤ 281474976710656 := by rw [hz2]; omega
  have hJi := Lib.hid hi0; have hJz := Lib.hid hz0; have hJs := Lib.hid hz1
  clear hi0 hz0 hz1 hz2
  go_enter Try.func10, Try.ntmps10
  go_wp2_with fail
  refine hway.out.mono ?_
  rintro e w1 ⟨A1, cap1, rfl, hN1, hB1⟩
  go_wp2_with fail
  refine (is_ok A Ac cap capc l c cv _ ((hE.below hB1).more hB1.size) hF ((hN.below hB1).more hB1.size) h0H.out C hC).mono ?_
  rintro e w2 ⟨rfl, hB2'⟩
  have hN2 := (hN1.below hB2').more hB2'.size
  have hB2 := hB1.trans (hB2'.mono hB1.size)
  clear hB1 hB2' hN1 hway hC
  go_wp2_with fail
  refine (ran_any A cap l (c : Int) _ ((hE.below hB2).more hB2.size) hcap hl).mono ?_
  rintro e w3 ⟨rfl, hB3'⟩
  have hN3 := (hN2.below hB3').more hB3'.size
  have hB3 := hB2.trans (hB3'.mono hB2.size)
  have hE3 := (hE.below hB3).more hB3.size
  clear hB2 hB3' hN2
  go_wp2_with fail
  go_loopw [56] (fun t wr => ∃ k : Nat, k ≤ xs.length ∧ t = .int .i64 k ∧ CyRel w3 wr) (fun t _ => xs.length - (intOf t).toNat)
  case atStart => exact ⟨0, Nat.zero_le _, rfl, Below.refl _ _⟩
  case round =>
    obtain ⟨k, hk, rfl, hB4⟩ := hrel
    unfold CyRel at hB4
    rename World => w4
    by_cases hlt : k < xs.length
    · obtain ⟨bx, offx, rfl, hbx, hcx⟩ := hN3.below hB4 (by omega)
      have x1 := hcx k hlt
      rw [← vat_get xs hlt] at x1
      have hcxH := Lib.hid hcx
      clear hcx
      have hse := Lib.hid (hxs.out.sent k hlt)
      go_wp2_with fail
      go_loopw [13, 63] (fun a t wr => ∃ j : Nat, j ≤ l.length ∧ t = .int .i64 j ∧ a = .bool (anyTo (sendB l (vat xs k)) j) ∧ CyRel w4 wr) (fun _ t _ => l.length - (intOf t).toNat)
      case atStart => exact ⟨0, Nat.zero_le _, rfl, rfl, Below.refl _ _⟩
      case round =>
        obtain ⟨j, hj, rfl, rfl, hB5⟩ := hrel
        unfold CyRel at hB5
        have hB45 := hB4.trans (hB5.mono hB4.size)
        by_cases hjl : j < l.length
        · obtain ⟨b, off, rfl, hb, hc⟩ := hE3.below hB45 (by omega)
          obtain ⟨c0, c1, c2⟩ := hc j hjl
          clear hc
          have hev := Lib.hid (ev_get l hjl)
          generalize l[j] = e0 at *
          obtain ⟨p, kd, mm⟩ := e0
          simp only at c0 c1 c2
          have s2 := Lib.hid (sendB_step (m := vat xs k) hev.out)
          have z1 := box3_1 (w := wr) (.int .i64 p) (.int .i64 kd) (.int .i64 mm) 36 rfl
          have z2 := box3_2 (w := wr) (.int .i64 p) (.int .i64 kd) (.int .i64 mm) 36 rfl
          have hBn := hB5.alloc hB5.size (.cells #[.int .i64 p, .int .i64 kd, .int .i64 mm] 36)
          generalize anyTo (sendB l (vat xs k)) j = s at *
          have hjI : (j : Int) < (l.length : Int) := by omega
          clear hB5 hB45 hev x1
          generalize vat xs k = u at *
          obtain ⟨b2, hb2⟩ : ∃ b, (kd == 2) = b := ⟨_, rfl⟩
          obtain ⟨bm, hbm⟩ : ∃ b, (mm == u) = b := ⟨_, rfl⟩
          rw [hb2, hbm] at s2
          cases s <;> cases b2 <;> cases bm <;> (go_wp2_with fail; go_roundw; (case rel => (exact ⟨j + 1, by omega, by go_num, by (rw [s2.out]; try rfl), hBn⟩)); (case measure => (simp [intOf]; omega)))
        · have hjl2 : j = l.length := by omega
          subst hjl2
          have hsT : anyTo (sendB l (vat xs k)) l.length = true := by
            obtain ⟨i, h5, h6, h7⟩ := hse.out
            exact (anyTo_iff _ _).2 ⟨i, h5, by unfold sendB; rw [h6, h7]; simp⟩
          rw [hsT]
          clear hsT
          by_cases hk0 : k = 0
          · have hd : ¬ (0 < k) := by omega
            subst hk0
            go_wp2_with fail
            go_roundw
            case rel => exact ⟨1, by omega, by go_num, hB45⟩
            case measure => simp [intOf]; omega
          · obtain ⟨q, rfl⟩ : ∃ q, k = q + 1 := ⟨k - 1, by omega⟩
            have hbl := Nat.lt_of_lt_of_le hbx hB4.size
            have y1 := (hB5.cell (p := ⟨bx, offx + q, none⟩) hbl).trans (hcxH.out q (by omega))
            rw [← vat_get xs (by omega)] at y1
            have hri := hxs.out.rise q (by omega)
            have hd : ¬ (vat xs (q + 1) ≤ vat xs q) := by omega
            have hd2 : decide (vat xs (q + 1) ≤ vat xs q) = false := by simp; omega
            have hqI : (q : Int) < (xs.length : Int) := by omega
            have hq0 : (0 : Int) < (q : Int) + 1 := by omega
            have hq1 : decide ((0 : Int) < (q : Int) + 1) = true := decide_eq_true hq0
            clear x1 hri
            generalize vat xs (q + 1) = u at *
            generalize vat xs q = v at *
            go_wp2_with fail
            go_roundw
            case rel => exact ⟨q + 1 + 1, by omega, by go_num, hB45⟩
            case measure => simp [intOf]; omega
    · have hkl : k = xs.length := by omega
      subst hkl
      have hB4w := hB3.trans (hB4.mono hB3.size)
      have hE4 := (hE3.below hB4).more hB4.size
      clear hN3 hE3
      have hlow := hB4w.size
      go_wp2_with (first
        | (at_make; refine wpList_make_row _ rfl (.tmp 96) _ 23 rfl 3 j0 (.int .i64 0) Try.underlying23 hJi.out hJz.out hJs.out rfl .i64 .i64 _ _ c rfl rfl rfl rfl b2 (by unfold maxLen; omega) ?_; intro w5 hR5 hG5))
      have hB5 : Below w4.heap.size w4 w5 := (Below.refl _ _).grown hG5 (Nat.le_refl _) (by simp)
      rw [intRow_zero] at hR5
      have hR6 : IntRow w5 w4.heap.size c (fun q => (own l (q : Int) 0 : Int)) := hR5
      clear hR5 hG5
      go_loopw [17, 100] (fun a t wr => ∃ j : Nat, j ≤ l.length ∧ t = .int .i64 j ∧ a = .int .i64 (leftTo l j) ∧ CyAll l c w4 w4.heap.size w4.heap.size j wr) (fun _ t _ => l.length - (intOf t).toNat)
      case atStart => exact ⟨0, Nat.zero_le _, rfl, rfl, hR6, hB5⟩
      case round =>
        clear hR6 hB5
        obtain ⟨j, hj, rfl, rfl, hR, hB⟩ := hrel
        by_cases hjl : j < l.length
        · obtain ⟨b, off, rfl, hb, hc⟩ := hE4.below hB (by omega)
          obtain ⟨c0, c1, c2⟩ := hc j hjl
          clear hc
          have hpr := hgH.out.proc j hjl
          have hev := Lib.hid (ev_get l hjl)
          have hlf : Hid (leftTo l (j + 1) = leftTo l j + (if (ev l j).k = 2 then 1 else 0) - (if (ev l j).k = 3 then 1 else 0)) := rfl
          have hle := leftTo_le l j
          rw [hev.out] at hpr hlf
          generalize l[j] = e0 at *
          obtain ⟨p, kd, m⟩ := e0
          simp only at c0 c1 c2 hpr
          obtain ⟨q, rfl⟩ := Int.eq_ofNat_of_zero_le hpr.1
          have hqc : q < c := by omega
          have hqI : (q : Int) < (c : Int) := by omega
          have hevp : Hid ((ev l j).p = (q : Int)) := by unfold Hid; rw [hev.out]
          clear hpr
          have ho := own_le l (q : Int) j
          have hgr := Row.lt hR
          have hRa := Row.alloc hR (.cells #[.int .i64 (q : Int), .int .i64 kd, .int .i64 m] 36)
          have hBa := hB.alloc hB.size (.cells #[.int .i64 (q : Int), .int .i64 kd, .int .i64 m] 36)
          have z0 := box3_0 (w := wr) (.int .i64 (q : Int)) (.int .i64 kd) (.int .i64 m) 36 rfl
          have z1 := box3_1 (w := wr) (.int .i64 (q : Int)) (.int .i64 kd) (.int .i64 m) 36 rfl
          have hgne : ¬ wr.heap.size = w4.heap.size := by omega
          have hgne2 : ¬ w4.heap.size = wr.heap.size := by omega
          go_wp2_with fail
          clear hR hB c0 c1 c2 hev
          generalize wr.alloc (.cells #[.int .i64 (q : Int), .int .i64 kd, .int .i64 m] 36) = w6 at *
          have o1 := IntRow.at_ hRa hqc
          have of := Row.frozen hRa q
          have hRn := IntRow.congr (IntRow.put hRa q ((own l (q : Int) j : Int) + 1)) fun x _ => own_step hevp.out x
          have hBn := hBa.setCell (p := ⟨w4.heap.size, q, none⟩) (Nat.le_refl _) (.int .i64 ((own l (q : Int) j : Int) + 1))
          have zz := (cell_off w6 (a := ⟨w4.heap.size, q, none⟩) (b := ⟨wr.heap.size, 1, none⟩) (by show wr.heap.size ≠ w4.heap.size; omega) (.int .i64 ((own l (q : Int) j : Int) + 1))).trans z1
          clear hRa hBa
          generalize own l (q : Int) j = a at *
          generalize leftTo l j = f at *
          by_cases k2 : kd = 2
          · have v2 : (kd == 2) = true := by simp [k2]
            have v3 : (kd == 3) = false := by simp [k2]
            have hn : Hid (leftTo l (j + 1) = f + 1) := by unfold Hid; rw [hlf.out]; simp [k2]
            clear k2 hlf
            go_region
            go_wp2_with fail
            go_roundw
            case rel => exact ⟨j + 1, by omega, by go_num, by rw [hn.out], IntRow.heap hRn rfl, hBn.drew⟩
            case measure => simp [intOf]; omega
          · have v2 : (kd == 2) = false := by simp [k2]
            by_cases k3 : kd = 3
            · have v3 : (kd == 3) = true := by simp [k3]
              have hn : Hid (leftTo l (j + 1) = f - 1) := by unfold Hid; rw [hlf.out]; simp [k3]
              clear k2 k3 hlf
              go_region
              go_wp2_with fail
              go_roundw
              case rel => exact ⟨j + 1, by omega, by go_num, by rw [hn.out], IntRow.heap hRn rfl, hBn.drew⟩
              case measure => simp [intOf]; omega
            · have v3 : (kd == 3) = false := by simp [k3]
              have hn : Hid (leftTo l (j + 1) = f) := by unfold Hid; rw [hlf.out]; simp [k2, k3]
              clear k2 k3 hlf
              go_region
              go_wp2_with fail
              go_roundw
              case rel => exact ⟨j + 1, by omega, by go_num, by rw [hn.out], IntRow.heap hRn rfl, hBn.drew⟩
              case measure => simp [intOf]; omega
        · have hjl2 : j = l.length := by omega
          subst hjl2
          have hBw := hB4w.trans (hB.mono hlow)
          have hNa : Nums wr wr.heap.size (some ⟨w4.heap.size, 0, none⟩) (vall l c) := hR.numsAt (Row.lt hR) (vall_len l c) (fun i hi => by simp [vall])
          have hcall := way_ok A (some ⟨w4.heap.size, 0, none⟩) cap c l c (vall l c) wr ((hE.below hBw).more hBw.size) hF hNa (vall_cut h1H.out) (vall_whole h1H.out)
          rw [vall_len] at hcall
          have hcallH := Lib.hid hcall
          have hleft := Lib.hid (vall_left h1H.out)
          clear hcall
          go_wp2_with fail
          refine hcallH.out.mono ?_
          rintro e w6 ⟨A6, cap6, rfl, _, hB6'⟩
          have hB6 := hBw.trans (hB6'.mono hBw.size)
          rw [← hleft.out]
          go_wp2_with fail
          go_ret
          exact ⟨by simp, hB6⟩

theorem cutWay_law (w : World) (n : Int) (_hn : I64 n) (A : Option Addr) (cap : Nat) (l : List Ev) (hE : Evs w w.heap.size A l) (hF : Fits l) (hcap : l.length ≤ cap) (hl : l.length ≤ maxLen) (_hs : l.length ≤ 17592186044416) (Ac : Option Addr) (capc : Nat) (cv : List Int) (hN : Nums w w.heap.size Ac cv) (_hNF : NumFits cv) (_hcapc : cv.length ≤ capc) (_hlc : cv.length ≤ maxLen) (_hsc : cv.length ≤ 17592186044416) :
    Calls Try.prog 10 #[.int .i64 n, .slice A l.length cap, .slice Ac cv.length capc] w fun e w' => e = .returned (.bool true) ∧ Below w.heap.size w w' := by
  by_cases h0 : cutC n l cv = 0
  · have hn := (check_small (cutC_ok.1 h0).1).1
    obtain ⟨c, rfl⟩ := Int.eq_ofNat_of_zero_le (show 0 ≤ n by omega)
    by_cases hw : WholeC l (vat cv)
    · exact cutway_ok w c A cap l hE hF hcap hl Ac capc cv hN h0 true 0 (wayL l (vat cv)) rfl (Lib.hid ⟨fun _ => hw, fun _ => rfl⟩) (Lib.hid (wayL_ok l (vat cv))) (Lib.hid (way_ok A Ac cap capc l c cv w hE hF hN h0 hw))
    · exact cutway_ok w c A cap l hE hF hcap hl Ac capc cv hN h0 false 5 [] rfl (Lib.hid ⟨fun h => absurd h (by decide), fun h => absurd h hw⟩) (Lib.hid (nil_ok l)) (Lib.hid ((way_not A Ac cap capc l c cv w hE hF hN h0 hw).mono fun e w' ⟨he, hB⟩ => ⟨none, 0, he, fun h => absurd h (by simp), hB⟩))
  · exact cutway_bad w n A cap l hE hF hl Ac capc cv hN h0

#print axioms cutWay_law
end Go.Proofs.Ytpofmhlmaejmoaa
