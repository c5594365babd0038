/-
  The walk of the law CutWays: cut.Way and the document's answer are alike.
-/
import Derived.Test.YtpofmhlmaejmoaaWay
import Derived.Test.YtpofmhlmaejmoaaCcd
import Derived.Test.YtpofmhlmaejmoaaWho
import Derived.Test.YtpofmhlmaejmoaaInt
namespace Go.Proofs.Ytpofmhlmaejmoaa
open Go.RowKit Go.Maps

set_option maxHeartbeats 2000000 in
set_option maxRecDepth 100000 in
theorem cutways_bad (w : World) (n : Int) (A : Option Addr) (cap : Nat) (l : List Ev) (hE : Evs w w.heap.size A l) (hF : Fits l) (hcap : l.length ≤ cap) (hl : l.length ≤ maxLen) (Ac : Option Addr) (capc : Nat) (cv : List Int) (hN : Nums w w.heap.size Ac cv) (h0 : ¬ cutC n l cv = 0) :
    Calls Try.prog 4 #[.int .i64 n, .slice A l.length cap, .slice Ac cv.length capc] w fun e w' => e = .returned (.bool true) ∧ Below w.heap.size w w' := by
  have hr' : (cutC n l cv != 0) = true := by simp [h0]
  have h0H := Lib.hid h0
  clear h0
  go_enter Try.func4, Try.ntmps4
  go_wp2_with fail
  refine (way_bad A Ac cap capc l n cv _ hE hF hl hN h0H.out).mono ?_
  rintro e w1 ⟨rfl, hB1⟩
  go_wp2_with fail
  refine (cutcode_any A Ac cap capc l n cv _ ((hE.below hB1).more hB1.size) hcap hl ((hN.below hB1).more hB1.size)).mono ?_
  rintro e w2 ⟨rfl, hB2'⟩
  have hB2 := hB1.trans (hB2'.mono hB1.size)
  go_wp2_with fail
  go_ret
  exact ⟨by simp, hB2⟩

set_option maxHeartbeats 2000000 in
set_option maxRecDepth 100000 in
theorem cutways_not (w : World) (c : Nat) (A : Option Addr) (cap : Nat) (l : List Ev) (hE : Evs w w.heap.size A l) (hF : Fits l) (hcap : l.length ≤ cap) (hl : l.length ≤ maxLen) (Ac : Option Addr) (capc : Nat) (cv : List Int) (hN : Nums w w.heap.size Ac cv) (h0 : cutC (c : Int) l cv = 0) (hw : ¬ WholeC l (vat cv)) :
    Calls Try.prog 4 #[.int .i64 (c : Int), .slice A l.length cap, .slice Ac cv.length capc] w fun e w' => e = .returned (.bool true) ∧ Below w.heap.size w w' := by
  have hr' : (cutC (c : Int) l cv != 0) = false := by simp [h0]
  obtain ⟨h1, h2, h3⟩ := cutC_ok.1 h0
  have h30 := (check_small h1).2.2
  have h4 : cv.length = c := by omega
  rw [h4] at h3
  have h1H := Lib.hid h1
  have h3H := Lib.hid h3
  have h4H := Lib.hid h4
  have h0H := Lib.hid h0
  have hwH := Lib.hid hw
  clear h0 h1 h2 h3 h4 hw
  go_enter Try.func4, Try.ntmps4
  go_wp2_with fail
  refine (way_not A Ac cap capc l c cv _ hE hF hN h0H.out hwH.out).mono ?_
  rintro e w1 ⟨rfl, hB1⟩
  go_wp2_with fail
  refine (cutcode_any A Ac cap capc l (c : Int) cv _ ((hE.below hB1).more hB1.size) hcap hl ((hN.below hB1).more hB1.size)).mono ?_
  rintro e w2 ⟨rfl, hB2'⟩
  have hB2 := hB1.trans (hB2'.mono hB1.size)
  clear hB1 hB2'
  go_wp2_with fail
  refine (in_any A Ac cap capc l c cv _ ((hE.below hB2).more hB2.size) ((hN.below hB2).more hB2.size) h4H.out h1H.out).mono ?_
  intro e w3 h
  rcases h with ⟨_, g, rfl, hR, hB3'⟩ | ⟨hr, _⟩
  · have hB3 := hB2.trans (hB3'.mono hB2.size)
    clear hB2 hB3'
    go_wp2_with fail
    refine (whole_any A cap l g (inC l (vat cv)) _ ((hE.below hB3).more hB3.size) h30 hR false ⟨fun h => absurd h (by decide), fun h => absurd h hwH.out⟩).mono ?_
    rintro e w4 ⟨rfl, hB4'⟩
    have hB4 := hB3.trans (hB4'.mono hB3.size)
    go_wp2_with fail
    go_ret
    exact ⟨by simp, hB4⟩
  · exact absurd h3H.out hr

/-- One event more. -/
theorem anyTo_has {l : List Ev} {F : Nat → Int} {kd m : Int} {j : Nat} {p k e : Int} (hev : ev l j = ⟨p, k, e⟩) : anyTo (hasC l F kd m) (j + 1) = (anyTo (hasC l F kd m) j || (inC l F j && (k == kd) && (e == m))) := by
  rw [anyTo]
  unfold hasC
  rw [hev]
  rfl

def CwRel (w : World) (B : Nat) (P : Nat → Bool) (k : Nat) (v : Value) (wr : World) : Prop := OwnInts wr B v (pickTo P k) ∧ Below B w wr
def CwIn (w wr : World) : Prop := Below w.heap.size w wr

set_option maxHeartbeats 16000000 in
set_option maxRecDepth 100000 in
theorem cutways_ok (w : World) (c : Nat) (A : Option Addr) (cap : Nat) (l : List Ev) (hE : Evs w w.heap.size A l) (hF : Fits l) (hcap : l.length ≤ cap) (hl : l.length ≤ maxLen) (Ac : Option Addr) (capc : Nat) (cv : List Int) (hN : Nums w w.heap.size Ac cv) (h0 : cutC (c : Int) l cv = 0) (hw : WholeC l (vat cv)) :
    Calls Try.prog 4 #[.int .i64 (c : Int), .slice A l.length cap, .slice Ac cv.length capc] w fun e w' => e = .returned (.bool true) ∧ Below w.heap.size w w' := by
  have hr' : (cutC (c : Int) l cv != 0) = false := by simp [h0]
  obtain ⟨h1, h2, h3⟩ := cutC_ok.1 h0
  have h30 := (check_small h1).2.2
  have h4 : cv.length = c := by omega
  rw [h4] at h3
  have h1H := Lib.hid h1
  have h3H := Lib.hid h3
  have h4H := Lib.hid h4
  have h0H := Lib.hid h0
  have hwH := Lib.hid hw
  clear h0 h1 h2 h3 h4 hw
  obtain ⟨j0, hi0, hz0, hz1, hz2⟩ := info_parts infoInt
  have hJi := Lib.hid hi0; have hJz := Lib.hid hz0; have hJs := Lib.hid hz1; have hJb := Lib.hid hz2
  clear hi0 hz0 hz1 hz2
  go_enter Try.func4, Try.ntmps4
  go_wp2_with fail
  refine (way_ok A Ac cap capc l c cv _ hE hF hN h0H.out hwH.out).mono ?_
  rintro e w1 ⟨A1, cap1, rfl, hN1, hB1⟩
  go_wp2_with fail
  refine (cutcode_any A Ac cap capc l (c : Int) cv _ ((hE.below hB1).more hB1.size) hcap hl ((hN.below hB1).more hB1.size)).mono ?_
  rintro e w2 ⟨rfl, hB2'⟩
  have hN2 := (hN1.below hB2').more hB2'.size
  have hB2 := hB1.trans (hB2'.mono hB1.size)
  clear hB1 hB2' hN1
  go_wp2_with fail
  refine (in_any A Ac cap capc l c cv _ ((hE.below hB2).more hB2.size) ((hN.below hB2).more hB2.size) h4H.out h1H.out).mono ?_
  intro e w3 h
  rcases h with ⟨_, g, rfl, hR, hB3'⟩ | ⟨hr, _⟩
  · have hN3 := (hN2.below hB3').more hB3'.size
    have hB3 := hB2.trans (hB3'.mono hB2.size)
    clear hB2 hB3' hN2
    go_wp2_with fail
    refine (whole_any A cap l g (inC l (vat cv)) _ ((hE.below hB3).more hB3.size) h30 hR true ⟨fun _ => hwH.out, fun _ => rfl⟩).mono ?_
    rintro e w4 ⟨rfl, hB4'⟩
    have hN4 := (hN3.below hB4').more hB4'.size
    have hR4 := Row.below hR hB4' (Row.lt hR)
    have hB4 := hB3.trans (hB4'.mono hB3.size)
    have hE4 := (hE.below hB4).more hB4.size
    have hlow := hB4.size
    clear hB3 hB4' hN3 hR
    have hN4H := Lib.hid hN4
    clear hN4
    go_wp2_with fail
    go_loopw [12, 13] (fun v t wr => ∃ k : Nat, k ≤ 21 ∧ t = .int .i64 k ∧ CwRel w4 w4.heap.size (fun m => wayB l (vat cv) l.length (m : Int)) k v wr) (fun _ t _ => 21 - (intOf t).toNat)
    case atStart => exact ⟨0, Nat.zero_le _, rfl, World.ownsRow_nil _ _ _ _, Below.refl _ _⟩
    case round =>
      obtain ⟨m, hm, rfl, hW, hB⟩ := hrel
      have hBw := hB4.trans (hB.mono hlow)
      rename World => w5
      by_cases hlt : m < 21
      · have hmI : (m : Int) ≤ 20 := by omega
        go_wp2_with fail
        go_loopw [14, 15, 63] (fun a b t wr => ∃ j : Nat, j ≤ l.length ∧ t = .int .i64 j ∧ a = .bool (anyTo (hasC l (vat cv) 2 (m : Int)) j) ∧ b = .bool (anyTo (hasC l (vat cv) 3 (m : Int)) j) ∧ CwIn w5 wr) (fun _ _ t _ => l.length - (intOf t).toNat)
        case atStart => exact ⟨0, Nat.zero_le _, rfl, rfl, rfl, Below.refl _ _⟩
        case round =>
          obtain ⟨j, hj, rfl, rfl, rfl, hBi⟩ := hrel
          unfold CwIn at hBi
          have hB45 := hB.trans (hBi.mono hB.size)
          by_cases hjl : j < l.length
          · obtain ⟨b, off, rfl, hb, hc⟩ := hE4.below hB45 (by omega)
            obtain ⟨c0, c1, c2⟩ := hc j hjl
            clear hc
            have hev := Lib.hid (ev_get l hjl)
            have x1 := (hB45.cell (p := ⟨g, j, none⟩) (Row.lt hR4)).trans (BoolRow.at_ hR4 hjl)
            have hgl := Nat.lt_of_lt_of_le (Row.lt hR4) hB45.size
            generalize l[j] = e0 at *
            obtain ⟨p, kd, mm⟩ := e0
            simp only at c0 c1 c2
            have s2 := Lib.hid (anyTo_has (F := vat cv) (kd := 2) (m := (m : Int)) hev.out)
            have s3 := Lib.hid (anyTo_has (F := vat cv) (kd := 3) (m := (m : Int)) hev.out)
            have xa := (World.cell?_alloc_lt wr (.cells #[.int .i64 p, .int .i64 kd, .int .i64 mm] 36) ⟨g, j, none⟩ hgl).trans x1
            have z1 := box3_1 (w := wr) (.int .i64 p) (.int .i64 kd) (.int .i64 mm) 36 rfl
            have z2 := box3_2 (w := wr) (.int .i64 p) (.int .i64 kd) (.int .i64 mm) 36 rfl
            have hBn := hBi.alloc hBi.size (.cells #[.int .i64 p, .int .i64 kd, .int .i64 mm] 36)
            generalize anyTo (hasC l (vat cv) 2 (m : Int)) j = s at *
            generalize anyTo (hasC l (vat cv) 3 (m : Int)) j = t at *
            generalize inC l (vat cv) j = i0 at *
            have hjI : (j : Int) < (l.length : Int) := by omega
            clear hBi hB45 hev
            obtain ⟨b2, hb2⟩ : ∃ b, (kd == 2) = b := ⟨_, rfl⟩
            obtain ⟨b3, hb3⟩ : ∃ b, (kd == 3) = b := ⟨_, rfl⟩
            obtain ⟨bm, hbm⟩ : ∃ b, (mm == (m : Int)) = b := ⟨_, rfl⟩
            rw [hb2, hbm] at s2
            rw [hb3, hbm] at s3
            cases s <;> cases t <;> cases i0 <;> cases b2 <;> cases b3 <;> cases bm <;> (go_wp2_with fail; go_roundw; (case rel => (exact ⟨j + 1, by omega, by go_num, by (rw [s2.out]; try rfl), by (rw [s3.out]; try rfl), hBn⟩)); (case measure => (simp [intOf]; omega)))
          · have hjl2 : j = l.length := by omega
            subst hjl2
            have hWi := hW.below hBi
            have hP : Hid (wayB l (vat cv) l.length (m : Int) = (anyTo (hasC l (vat cv) 2 (m : Int)) l.length && !anyTo (hasC l (vat cv) 3 (m : Int)) l.length)) := rfl
            have hlen := pickTo_len (fun m => wayB l (vat cv) l.length (m : Int)) m
            have hpk : Hid (pickTo (fun m => wayB l (vat cv) l.length (m : Int)) (m + 1) = if wayB l (vat cv) l.length (m : Int) = true then pickTo (fun m => wayB l (vat cv) l.length (m : Int)) m ++ [(m : Int)] else pickTo (fun m => wayB l (vat cv) l.length (m : Int)) m) := rfl
            generalize anyTo (hasC l (vat cv) 2 (m : Int)) l.length = s at *
            generalize anyTo (hasC l (vat cv) 3 (m : Int)) l.length = t at *
            have hBno : s = false ∨ t = true → Hid (pickTo (fun m => wayB l (vat cv) l.length (m : Int)) (m + 1) = pickTo (fun m => wayB l (vat cv) l.length (m : Int)) m) := fun h => by
              unfold Hid
              rw [hpk.out, hP.out]
              rcases h with h | h <;> simp [h]
            have hByes : s = true → t = false → Hid (pickTo (fun m => wayB l (vat cv) l.length (m : Int)) (m + 1) = pickTo (fun m => wayB l (vat cv) l.length (m : Int)) m ++ [(m : Int)]) := fun h h' => by
              unfold Hid
              rw [hpk.out, hP.out, h, h']
              rfl
            have hnoH := Lib.hid hBno
            have hyesH := Lib.hid hByes
            clear hBno hByes hpk hP hW
            generalize hXS : pickTo (fun m => wayB l (vat cv) l.length (m : Int)) m = xs at *
            clear hXS
            cases s with
            | false =>
              have hn := hnoH.out (.inl rfl)
              clear hnoH hyesH
              go_wp2_with fail
              go_roundw
              case rel => exact ⟨m + 1, by omega, by go_num, by rw [hn.out]; exact hWi, hB45⟩
              case measure => simp [intOf]; omega
            | true =>
              cases t with
              | true =>
                have hn := hnoH.out (.inr rfl)
                clear hnoH hyesH
                go_wp2_with fail
                go_roundw
                case rel => exact ⟨m + 1, by omega, by go_num, by rw [hn.out]; exact hWi, hB45⟩
                case measure => simp [intOf]; omega
              | false =>
                have hn := hyesH.out rfl rfl
                clear hnoH hyesH
                have hWa : (wr.alloc (.cells #[.int .i64 (m : Int)] 3)).ownsRow w4.heap.size 3 1 u12 xs.length (intVals xs) := hWi.alloc _
                have hBa := hB45.alloc hB45.size (.cells #[.int .i64 (m : Int)] 3)
                have hnews := Lib.hid (newsV (w := wr) (.int .i64 (m : Int)) 3 rfl)
                have hlt2 : Hid (∀ j, u12.ownBlock = some j → w4.heap.size ≤ j) := fun j hj => (hWi.lt j hj).1
                have hbase : w4.heap.size ≤ (wr.alloc (.cells #[.int .i64 (m : Int)] 3)).heap.size := hBa.size
                clear hWi hB45
                go_wp2_with (first
                  | (at_builtin; refine wpList_append_lies _ rfl (.tmp 110) (.tmp 112) 23 rfl w4.heap.size 3 j0 (.int .i64 0) 1 8 Try.underlying23 hJi.out hJz.out hJs.out hJb.out rfl (by decide) u12 xs.length (intVals xs) rfl hWa ⟨wr.heap.size, 0, none⟩ 1 1 [.int .i64 (m : Int)] rfl rfl hnews.out (by simp [Value.oneCell']) (by omega) (by unfold maxLen; omega) (by omega) hbase _ rfl ?_; intro g5 cap5 w6 hown5 hgrow5 hat5 hltg5))
                have hW5 := OwnInts.push hown5
                have hB5 := hBa.grown hgrow5 hBa.size hlt2.out
                go_roundw
                case rel => exact ⟨m + 1, by omega, by go_num, by rw [hn.out]; exact hW5, hB5⟩
                case measure => simp [intOf]; omega
      · have hm21 : m = 21 := by omega
        subst hm21
        have hNw := (hN4H.out.below hB).more hB.size
        obtain ⟨A2, cap2, rfl, _, _, hN2⟩ := OwnInts.nums hW
        have hl21 := pickTo_len (fun m => wayB l (vat cv) l.length (m : Int)) 21
        have hcall := ints_same A1 A2 cap1 cap2 (wayL l (vat cv)) w5 hNw hN2 (by unfold wayL; omega)
        unfold wayL at hcall
        have hlw : (wayL l (vat cv)).length = (pickTo (fun m => wayB l (vat cv) l.length (m : Int)) 21).length := rfl
        have hcallH := Lib.hid hcall
        clear hcall
        have hd : decide (((21 : Nat) : Int) ≤ 20) = false := by decide
        go_wp2_with fail
        refine hcallH.out.mono ?_
        rintro e w6 ⟨rfl, hB6'⟩
        have hB6 := hBw.trans (hB6'.mono hBw.size)
        go_wp2_with fail
        go_ret
        exact ⟨rfl, hB6⟩
  · exact absurd h3H.out hr

theorem cutWays_law (w : World) (n : Int) (_hn : I64 n) (A : Option Addr) (cap : Nat) (l : List Ev) (hE : Evs w w.heap.size A l) (hF : Fits l) (hcap : l.length ≤ cap) (hl : l.length ≤ maxLen) (_hs : l.length ≤ 17592186044416) (Ac : Option Addr) (capc : Nat) (cv : List Int) (hN : Nums w w.heap.size Ac cv) (_hNF : NumFits cv) (_hcapc : cv.length ≤ capc) (_hlc : cv.length ≤ maxLen) (_hsc : cv.length ≤ 17592186044416) :
    Calls Try.prog 4 #[.int .i64 n, .slice A l.length cap, .slice Ac cv.length capc] w fun e w' => e = .returned (.bool true) ∧ Below w.heap.size w w' := by
  by_cases h0 : cutC n l cv = 0
  · have hn := (check_small (cutC_ok.1 h0).1).1
    obtain ⟨c, rfl⟩ := Int.eq_ofNat_of_zero_le (show 0 ≤ n by omega)
    by_cases hw : WholeC l (vat cv)
    · exact cutways_ok w c A cap l hE hF hcap hl Ac capc cv hN h0 hw
    · exact cutways_not w c A cap l hE hF hcap hl Ac capc cv hN h0 hw
  · exact cutways_bad w n A cap l hE hF hcap hl Ac capc cv hN h0

#print axioms cutWays_law
end Go.Proofs.Ytpofmhlmaejmoaa
