/-
  The contract of cut.Way.
-/
import Derived.Test.YtpofmhlmaejmoaaIsa
import Derived.Test.YtpofmhlmaejmoaaTrn
import Derived.Test.YtpofmhlmaejmoaaPck
namespace Go.Proofs.Ytpofmhlmaejmoaa
open Go.RowKit Go.Maps

set_option maxHeartbeats 1000000 in
theorem way_bad (A Ac : Option Addr) (cap capc : Nat) (l : List Ev) (n : Int) (cv : List Int) (w : World) (hE : Evs w w.heap.size A l) (hF : Fits l) (hl : l.length ≤ maxLen) (hN : Nums w w.heap.size Ac cv) (h0 : ¬ cutC n l cv = 0) :
    Calls Try.prog 15 #[.int .i64 n, .slice A l.length cap, .slice Ac cv.length capc] w fun e w' => e = .returned (.tuple #[.slice none 0 0, .int .i64 (cutC n l cv)]) ∧ Below w.heap.size w w' := by
  have hb0 : (cutC n l cv != 0) = true := by simp [h0]
  have h0H := Lib.hid h0
  clear h0
  go_enter Try.func15, Try.ntmps15
  go_wp2_with fail
  refine (ccheck_bad A Ac cap capc l n cv _ hE hF hl hN h0H.out).mono ?_
  rintro e w1 ⟨rfl, hB1⟩
  go_wp2_with fail
  go_ret2
  exact ⟨rfl, hB1⟩

set_option maxHeartbeats 1000000 in
theorem way_not (A Ac : Option Addr) (cap capc : Nat) (l : List Ev) (c : Nat) (cv : List Int) (w : World) (hE : Evs w w.heap.size A l) (hF : Fits l) (hN : Nums w w.heap.size Ac cv) (h0 : cutC (c : Int) l cv = 0) (hw : ¬ WholeC l (vat cv)) :
    Calls Try.prog 15 #[.int .i64 (c : Int), .slice A l.length cap, .slice Ac cv.length capc] w fun e w' => e = .returned (.tuple #[.slice none 0 0, .int .i64 5]) ∧ Below w.heap.size w w' := by
  obtain ⟨h1, h2, h3⟩ := cutC_ok.1 h0
  have h4 : cv.length = c := by omega
  rw [h4] at h3
  have hc6 := (check_small h1).2.1
  have h30 := (check_small h1).2.2
  have hC2 : Hid (false = true ↔ LastOk l c (vat cv) c) := ⟨fun h => absurd h (by decide), fun h => absurd ((whole_lastOk h0).2 h) hw⟩
  have h0H := Lib.hid h0
  have h3H := Lib.hid h3
  have h4H := Lib.hid h4
  clear h0 h1 h2 h3 h4 hw
  go_enter Try.func15, Try.ntmps15
  go_wp2_with fail
  refine (ccheck_good A Ac cap capc l c cv _ hE hF hN h0H.out).mono ?_
  rintro e w1 ⟨T, rfl, hO, hB1⟩
  have hN1 := (hN.below hB1).more hB1.size
  go_wp2_with fail
  refine (consistent_any Ac capc l c T cv w1 hO hN1 h4H.out (by omega) h30 h3H.out false ⟨fun h => absurd h (by decide), fun h => hC2.out.2 h⟩).mono ?_
  rintro e w2 ⟨rfl, rfl⟩
  go_wp2_with fail
  go_ret2
  exact ⟨rfl, hB1⟩

/-- The messages in transit. -/
def wayL (l : List Ev) (F : Nat → Int) : List Int := pickTo (fun m => wayB l F l.length (m : Int)) 21
def WayRes (xs : List Int) (w : World) (e : Ending) (w' : World) : Prop :=
  ∃ A cap, e = .returned (.tuple #[.slice A xs.length cap, .int .i64 0]) ∧ Nums w' w'.heap.size A xs ∧ Below w.heap.size w w'
def WyRel (w : World) (B g : Nat) (P : Nat → Bool) (k : Nat) (v : Value) (wr : World) : Prop :=
  OwnInts wr B v (pickTo P k) ∧ BoolRow wr g 21 P ∧ B ≤ wr.heap.size ∧ Below w.heap.size w wr

set_option maxHeartbeats 4000000 in
set_option maxRecDepth 100000 in
theorem way_ok (A Ac : Option Addr) (cap capc : Nat) (l : List Ev) (c : Nat) (cv : List Int) (w : World) (hE : Evs w w.heap.size A l) (hF : Fits l) (hN : Nums w w.heap.size Ac cv) (h0 : cutC (c : Int) l cv = 0) (hw : WholeC l (vat cv)) :
    Calls Try.prog 15 #[.int .i64 (c : Int), .slice A l.length cap, .slice Ac cv.length capc] w (WayRes (wayL l (vat cv)) w) := by
  obtain ⟨h1, h2, h3⟩ := cutC_ok.1 h0
  have h4 : cv.length = c := by omega
  rw [h4] at h3
  have hc6 := (check_small h1).2.1
  have h30 := (check_small h1).2.2
  have hlast := Lib.hid ((whole_lastOk h0).1 hw)
  have h0H := Lib.hid h0
  have h1H := Lib.hid h1
  have h3H := Lib.hid h3
  have h4H := Lib.hid h4
  have htrn : Hid (∀ m : Nat, trn l (vat cv) l.length (m : Int) = wayB l (vat cv) l.length (m : Int)) := fun m => trn_way (check_good.1 h1).2 (vat cv) l.length (Nat.le_refl _) (m : Int)
  clear h0 h1 h2 h3 h4 hw
  obtain ⟨j0, hi0, hz0, hz1, hz2⟩ := info_parts infoInt
  have hJi := Lib.hid hi0; have hJz := Lib.hid hz0; have hJs := Lib.hid hz1; have hJb := Lib.hid hz2
  clear hi0 hz0 hz1 hz2
  go_enter Try.func15, Try.ntmps15
  go_wp2_with fail
  refine (ccheck_good A Ac cap capc l c cv _ hE hF hN h0H.out).mono ?_
  rintro e w1 ⟨T, rfl, hO, hB1⟩
  have hN1 := (hN.below hB1).more hB1.size
  go_wp2_with fail
  refine (consistent_any Ac capc l c T cv w1 hO hN1 h4H.out (by omega) h30 h3H.out true ⟨fun _ => hlast.out, fun _ => rfl⟩).mono ?_
  rintro e w2 ⟨rfl, rfl⟩
  clear hO
  have hW : OwnInts (w1.alloc (.cells #[] 3)) w1.heap.size (.slice (some ⟨w1.heap.size, 0, none⟩) 0 0) [] := World.ownsRow_lit w1 #[] 0 (Nat.le_refl _) (by unfold maxLen; omega) (by simp)
  have hB2 := hB1.alloc hB1.size (.cells #[] 3)
  have hlow := hB1.size
  have hE2 := (hE.below hB2).more hB2.size
  have hN2 := (hN.below hB2).more hB2.size
  clear hN1
  go_wp2_with fail
  refine (transit_any A Ac cap capc l c cv _ hE2 hF hN2 h4H.out h1H.out).mono ?_
  rintro e w3 ⟨g, rfl, hR, hB3'⟩
  have hB3 := hB2.trans (hB3'.mono hB2.size)
  have hW3 := hW.below hB3'
  have hsz3 : w1.heap.size ≤ w3.heap.size := by have := hB3'.size; simp at this; omega
  have hPP : Hid (pickTo (fun m => trn l (vat cv) l.length (m : Int)) 21 = wayL l (vat cv)) := pickTo_congr fun m _ => htrn.out m
  clear htrn hW hB2 hB3' hE2 hN2 hB1
  generalize (fun m : Nat => trn l (vat cv) l.length (m : Int)) = P at *
  generalize w1.heap.size = B at *
  go_wp2_with fail
  go_loopw [10, 32] (fun v t wr => ∃ k : Nat, k ≤ 21 ∧ t = .int .i64 k ∧ WyRel w B g P k v wr) (fun _ t _ => 21 - (intOf t).toNat)
  case atStart => exact ⟨0, Nat.zero_le _, rfl, hW3, hR, hsz3, hB3⟩
  case round =>
    clear hW3 hR hB3 hsz3
    obtain ⟨k, hk, rfl, hW, hR, hsz, hB⟩ := hrel
    by_cases hlt : k < 21
    · have hkI : (k : Int) < 21 := by omega
      have x1 := BoolRow.at_ hR hlt
      cases hP : P k with
      | false =>
        rw [hP] at x1
        have hn : Hid (pickTo P (k + 1) = pickTo P k) := by unfold Hid; rw [pickTo, hP]; rfl
        clear hP
        go_wp2_with fail
        go_roundw
        case rel => exact ⟨k + 1, by omega, by go_num, by rw [hn.out]; exact hW, hR, hsz, hB⟩
        case measure => simp [intOf]; omega
      | true =>
        rw [hP] at x1
        have hn : Hid (pickTo P (k + 1) = pickTo P k ++ [(k : Int)]) := by unfold Hid; rw [pickTo, hP]; rfl
        clear hP
        have hlen := pickTo_len P k
        have hne := owns_ne_row hW hR (by decide)
        have hWa : (wr.alloc (.cells #[.int .i64 (k : Int)] 3)).ownsRow B 3 1 u10 (pickTo P k).length (intVals (pickTo P k)) := hW.alloc _
        have hRa := Row.alloc hR (.cells #[.int .i64 (k : Int)] 3)
        have hBa := hB.alloc hB.size (.cells #[.int .i64 (k : Int)] 3)
        have hnews := Lib.hid (newsV (w := wr) (.int .i64 (k : Int)) 3 rfl)
        have hlt2 : Hid (∀ j, u10.ownBlock = some j → w.heap.size ≤ j) := fun j hj => Nat.le_trans hlow (hW.lt j hj).1
        have hbase : B ≤ (wr.alloc (.cells #[.int .i64 (k : Int)] 3)).heap.size := by
          simp; omega
        clear hW hR hB
        generalize pickTo P k = xs at *
        go_wp2_with (first
          | (at_builtin; refine wpList_append_lies _ rfl (.tmp 38) (.tmp 40) 23 rfl B 3 j0 (.int .i64 0) 1 8 Try.underlying23 hJi.out hJz.out hJs.out hJb.out rfl (by decide) u10 xs.length (intVals xs) rfl hWa ⟨wr.heap.size, 0, none⟩ 1 1 [.int .i64 (k : Int)] rfl rfl hnews.out (by simp [Value.oneCell']) (by omega) (by unfold maxLen; omega) (by omega) hbase _ rfl ?_; intro g5 cap5 w5 hown5 hgrow5 hat5 hltg5))
        have hW5 := OwnInts.push hown5
        have hR5 := Row.grown hRa hgrow5 (fun e => hne e.symm)
        have hB5 := hBa.grown hgrow5 hBa.size hlt2.out
        have hsz5 : B ≤ w5.heap.size := Nat.le_trans hbase hgrow5.size
        go_roundw
        case rel => exact ⟨k + 1, by omega, by go_num, by rw [hn.out]; exact hW5, hR5, hsz5, hB5⟩
        case measure => simp [intOf]; omega
    · have hk21 : k = 21 := by omega
      subst hk21
      obtain ⟨A2, cap2, rfl, _, _, hN2⟩ := OwnInts.nums hW
      rw [hPP.out] at hN2 ⊢
      go_wp2_with fail
      go_ret2
      exact ⟨A2, cap2, rfl, hN2, hB⟩

#print axioms way_ok
end Go.Proofs.Ytpofmhlmaejmoaa
