/-
  The walk of the law CutJoin: the greater and the lesser numbers of two whole cuts are whole.
-/
import Derived.Test.YtpofmhlmaejmoaaIsa
import Derived.BigQuiet
import Derived.Deep.QuietTactic
namespace Go.Proofs.Ytpofmhlmaejmoaa
open Go.RowKit Go.Maps

set_option maxHeartbeats 2000000 in
set_option maxRecDepth 100000 in
theorem cutjoin_bad (w : World) (n : Int) (A : Option Addr) (cap : Nat) (l : List Ev) (hE : Evs w w.heap.size A l) (hF : Fits l) (hl : l.length ≤ maxLen) (Aa : Option Addr) (capa : Nat) (a : List Int) (hNa : Nums w w.heap.size Aa a) (Ab : Option Addr) (capb : Nat) (b : List Int) (hNb : Nums w w.heap.size Ab b) (h0 : ¬ (cutC n l a = 0 ∧ cutC n l b = 0)) :
    Calls Try.prog 7 #[.int .i64 n, .slice A l.length cap, .slice Aa a.length capa, .slice Ab b.length capb] w fun e w' => e = .returned (.bool true) ∧ Below w.heap.size w w' := by
  obtain ⟨P, hP⟩ := bool_of (cutC n l a = 0 ∧ WholeC l (vat a))
  obtain ⟨Q, hQ⟩ := bool_of (cutC n l b = 0 ∧ WholeC l (vat b))
  have hPH := Lib.hid hP
  have hQH := Lib.hid hQ
  clear hP hQ
  have hlen : Hid (cutC n l a = 0 → (a.length : Int) = n) := fun h => (cutC_ok.1 h).2.1
  have h0H := Lib.hid h0
  clear h0
  go_enter Try.func7, Try.ntmps7
  go_wp2_with fail
  refine (is_any A Aa cap capa l n a _ hE hF hl hNa P hPH).mono ?_
  rintro e w1 ⟨rfl, hB1⟩
  go_wp2_with fail
  refine (is_any A Ab cap capb l n b _ ((hE.below hB1).more hB1.size) hF hl ((hNb.below hB1).more hB1.size) Q hQH).mono ?_
  rintro e w2 ⟨rfl, hB2'⟩
  have hB2 := hB1.trans (hB2'.mono hB1.size)
  clear hB1 hB2'
  by_cases ha : cutC n l a = 0
  · have hb : ¬ cutC n l b = 0 := fun h => h0H.out ⟨ha, h⟩
    have hq : Q = false := by rw [← Bool.not_eq_true, hQH.out]; exact fun h => hb h.1
    have hx1 : (cutC n l a == 0) = true := by simp [ha]
    have hx2 : (cutC n l a != 0) = false := by simp [ha]
    have hx3 : (cutC n l b == 0) = false := by simp [hb]
    have hx4 : (cutC n l b != 0) = true := by simp [hb]
    have hx5 : ((a.length : Int) != n) = false := by simp [hlen.out ha]
    subst hq
    have haH := Lib.hid ha
    have hbH := Lib.hid hb
    clear ha hb
    go_wp2_with fail
    go_ret
    exact ⟨rfl, hB2⟩
  · have hp : P = false := by rw [← Bool.not_eq_true, hPH.out]; exact fun h => ha h.1
    have hx1 : (cutC n l a == 0) = false := by simp [ha]
    have hx2 : (cutC n l a != 0) = true := by simp [ha]
    subst hp
    have haH := Lib.hid ha
    clear ha
    by_cases hb : cutC n l b = 0
    · have hx3 : (cutC n l b == 0) = true := by simp [hb]
      have hbH := Lib.hid hb
      clear hb
      go_wp2_with fail
      go_ret
      exact ⟨rfl, hB2⟩
    · have hq : Q = false := by rw [← Bool.not_eq_true, hQH.out]; exact fun h => hb h.1
      have hx3 : (cutC n l b == 0) = false := by simp [hb]
      subst hq
      have hbH := Lib.hid hb
      clear hb
      go_wp2_with fail
      go_ret
      exact ⟨rfl, hB2⟩

/-- What has been laid up to k. -/
def upTo (f : Nat → Int) (k : Nat) : Nat → Int := fun i => if i < k then f i else 0
theorem upTo_step (f : Nat → Int) (k : Nat) (x : Nat) : updI (upTo f k) k (f k) x = upTo f (k + 1) x := by
  unfold updI upTo
  by_cases e : x = k
  · subst e; rw [if_pos rfl, if_pos (by omega)]
  · rw [if_neg e]
    by_cases h : x < k
    · rw [if_pos h, if_pos (by omega)]
    · rw [if_neg h, if_neg (by omega)]
theorem upTo_twice (f : Nat → Int) (k : Nat) (u : Int) (x : Nat) : updI (updI (upTo f k) k u) k (f k) x = upTo f (k + 1) x := by
  rw [← upTo_step]
  unfold updI
  by_cases e : x = k
  · simp [e]
  · simp [e]
def CjRel (w : World) (c g1 g2 : Nat) (f1 f2 : Nat → Int) (k : Nat) (wr : World) : Prop := IntRow wr g1 c (upTo f1 k) ∧ IntRow wr g2 c (upTo f2 k) ∧ Below w.heap.size w wr

set_option maxHeartbeats 4000000 in
set_option maxRecDepth 100000 in
theorem cutjoin_ok (w : World) (c : Nat) (A : Option Addr) (cap : Nat) (l : List Ev) (hE : Evs w w.heap.size A l) (hF : Fits l) (hl : l.length ≤ maxLen) (Aa : Option Addr) (capa : Nat) (a : List Int) (hNa : Nums w w.heap.size Aa a) (Ab : Option Addr) (capb : Nat) (b : List Int) (hNb : Nums w w.heap.size Ab b) (ha : cutC (c : Int) l a = 0) (hb : cutC (c : Int) l b = 0) :
    Calls Try.prog 7 #[.int .i64 (c : Int), .slice A l.length cap, .slice Aa a.length capa, .slice Ab b.length capb] w fun e w' => e = .returned (.bool true) ∧ Below w.heap.size w w' := by
  have h2 := Lib.hid (twoCuts ha hb)
  have hc6 := (check_small h2.out.chk).2.1
  have hc1 := (check_small h2.out.chk).1
  obtain ⟨P, hP⟩ := bool_of (cutC (c : Int) l a = 0 ∧ WholeC l (vat a))
  obtain ⟨Q, hQ⟩ := bool_of (cutC (c : Int) l b = 0 ∧ WholeC l (vat b))
  obtain ⟨X, hX⟩ := bool_of (cutC (c : Int) l (vjoin a b) = 0 ∧ WholeC l (vat (vjoin a b)))
  obtain ⟨Y, hY⟩ := bool_of (cutC (c : Int) l (vmeet a b) = 0 ∧ WholeC l (vat (vmeet a b)))
  have hXY : Hid (P = true → Q = true → X = true ∧ Y = true) := fun h3 h4 => ⟨hX.2 ⟨h2.out.more, h2.out.moreW (hP.1 h3).2 (hQ.1 h4).2⟩, hY.2 ⟨h2.out.less, h2.out.lessW (hP.1 h3).2 (hQ.1 h4).2⟩⟩
  have hPH := Lib.hid hP; have hQH := Lib.hid hQ; have hXH := Lib.hid hX; have hYH := Lib.hid hY
  clear hP hQ hX hY
  have haH := Lib.hid ha; have hbH := Lib.hid hb
  clear ha hb
  have hla := h2.out.la
  have hlb := h2.out.lb
  obtain ⟨j0, hi0, hz0, hz1, hz2⟩ := info_parts infoInt
  have b2 : j0.bytes * c ≤ 281474976710656 := by rw [hz2]; omega
  have hJi := Lib.hid hi0; have hJz := Lib.hid hz0; have hJs := Lib.hid hz1
  clear hi0 hz0 hz1 hz2
  have c1 := Lib.hid (is_any A Aa cap capa l (c : Int) a w hE hF hl hNa P hPH)
  have c2 : Hid (∀ w1, Below w.heap.size w w1 → Calls Try.prog 11 #[.int .i64 (c : Int), .slice A l.length cap, .slice Ab c capb] w1 fun e w' => e = .returned (.tuple #[.bool Q, .int .i64 0]) ∧ Below w1.heap.size w1 w') := fun w1 hB1 => by
    have := is_any A Ab cap capb l (c : Int) b w1 ((hE.below hB1).more hB1.size) hF hl ((hNb.below hB1).more hB1.size) Q hQH
    rw [hlb, hbH.out] at this
    exact this
  rw [hla, haH.out] at c1
  have c3 : Hid (∀ w1 g, Below w.heap.size w w1 → IntRow w1 g c (upTo (fun i => max (vat a i) (vat b i)) c) → Calls Try.prog 11 #[.int .i64 (c : Int), .slice A l.length cap, .slice (some ⟨g, 0, none⟩) c c] w1 fun e w' => e = .returned (.tuple #[.bool X, .int .i64 0]) ∧ Below w1.heap.size w1 w') := fun w1 g hB1 hR => by
    have hN : Nums w1 w1.heap.size (some ⟨g, 0, none⟩) (vjoin a b) := hR.numsAt (Row.lt hR) (by rw [vjoin_len, hla]) (fun j hj => by
      have hj' : j < c := by rw [vjoin_len, hla] at hj; exact hj
      rw [← vat_get _ hj, vjoin_at a b (by rw [hla]; exact hj')]
      unfold upTo
      rw [if_pos hj'])
    have := is_any A (some ⟨g, 0, none⟩) cap c l (c : Int) (vjoin a b) w1 ((hE.below hB1).more hB1.size) hF hl hN X hXH
    rw [vjoin_len, hla, h2.out.more] at this
    exact this
  have c4 : Hid (∀ w1 g, Below w.heap.size w w1 → IntRow w1 g c (upTo (fun i => min (vat a i) (vat b i)) c) → Calls Try.prog 11 #[.int .i64 (c : Int), .slice A l.length cap, .slice (some ⟨g, 0, none⟩) c c] w1 fun e w' => e = .returned (.tuple #[.bool Y, .int .i64 0]) ∧ Below w1.heap.size w1 w') := fun w1 g hB1 hR => by
    have hN : Nums w1 w1.heap.size (some ⟨g, 0, none⟩) (vmeet a b) := hR.numsAt (Row.lt hR) (by rw [vmeet_len, hla]) (fun j hj => by
      have hj' : j < c := by rw [vmeet_len, hla] at hj; exact hj
      rw [← vat_get _ hj, vmeet_at a b (by rw [hla]; exact hj')]
      unfold upTo
      rw [if_pos hj'])
    have := is_any A (some ⟨g, 0, none⟩) cap c l (c : Int) (vmeet a b) w1 ((hE.below hB1).more hB1.size) hF hl hN Y hYH
    rw [vmeet_len, hla, h2.out.less] at this
    exact this
  have c5 : Hid (∀ w1 g, Below w.heap.size w w1 → IntRow w1 g c (fun _ => 0) → Calls Try.prog 11 #[.int .i64 (c : Int), .slice A l.length cap, .slice (some ⟨g, 0, none⟩) c c] w1 fun e w' => e = .returned (.tuple #[.bool true, .int .i64 0]) ∧ Below w1.heap.size w1 w') := fun w1 g hB1 hR => by
    have hN : Nums w1 w1.heap.size (some ⟨g, 0, none⟩) (vnone c) := hR.numsAt (Row.lt hR) (vnone_len c) (fun j hj => by
      rw [← vat_get _ hj, vnone_at (by rw [vnone_len] at hj; exact hj)])
    have := is_any A (some ⟨g, 0, none⟩) cap c l (c : Int) (vnone c) w1 ((hE.below hB1).more hB1.size) hF hl hN true (Lib.hid ⟨fun _ => ⟨vnone_cut h2.out.chk, vnone_whole h2.out.chk⟩, fun _ => rfl⟩)
    rw [vnone_len, vnone_cut h2.out.chk] at this
    exact this
  rw [hla, hlb]
  have hNaH := Lib.hid hNa
  have hNbH := Lib.hid hNb
  have hlaH := Lib.hid hla
  have hlbH := Lib.hid hlb
  clear hNa hNb hla hlb hPH hQH hXH hYH haH hbH
  go_enter Try.func7, Try.ntmps7
  go_wp2_with fail
  refine c1.out.mono ?_
  rintro e w1 ⟨rfl, hB1⟩
  go_wp2_with fail
  refine (c2.out w1 hB1).mono ?_
  rintro e w2 ⟨rfl, hB2'⟩
  have hB2 := hB1.trans (hB2'.mono hB1.size)
  clear hB1 hB2' c1 c2
  go_wp2_with (first
    | (at_make; refine wpList_make_row _ rfl (.tmp 77) _ 23 rfl 3 j0 (.int .i64 0) Try.underlying23 hJi.out hJz.out hJs.out rfl .i64 .i64 _ _ c rfl rfl rfl rfl b2 (by unfold maxLen; omega) ?_; intro w3 hR3 hG3)
    | (at_make; refine wpList_make_row _ rfl (.tmp 79) _ 23 rfl 3 j0 (.int .i64 0) Try.underlying23 hJi.out hJz.out hJs.out rfl .i64 .i64 _ _ c rfl rfl rfl rfl b2 (by unfold maxLen; omega) ?_; intro w4 hR4 hG4))
  have hB3 : Below w.heap.size w w3 := hB2.grown hG3 hB2.size (by simp)
  have hB4 : Below w.heap.size w w4 := hB3.grown hG4 hB3.size (by simp)
  have hR3' := Row.grown hR3 hG4 (by simp)
  have hg12 := Row.lt hR3
  have hlow := hB2.size
  rw [intRow_zero] at hR3' hR4
  have hM0 : IntRow w4 w2.heap.size c (upTo (fun i => max (vat a i) (vat b i)) 0) := hR3'
  have hL0 : IntRow w4 w3.heap.size c (upTo (fun i => min (vat a i) (vat b i)) 0) := hR4
  clear hR3 hR4 hR3' hG3 hG4 hB2 hB3
  generalize w2.heap.size = g1 at *
  generalize w3.heap.size = g2 at *
  go_loopw [15] (fun t wr => ∃ k : Nat, k ≤ c ∧ t = .int .i64 k ∧ CjRel w c g1 g2 (fun i => max (vat a i) (vat b i)) (fun i => min (vat a i) (vat b i)) k wr) (fun t _ => c - (intOf t).toNat)
  case atStart => exact ⟨0, Nat.zero_le _, rfl, hM0, hL0, hB4⟩
  case round =>
    clear hM0 hL0 hB4
    obtain ⟨k, hk, rfl, hM, hL, hB⟩ := hrel
    by_cases hlt : k < c
    · have hkI : (k : Int) < (c : Int) := by omega
      obtain ⟨ba, offa, rfl, hba, hca⟩ := hNaH.out (by have := hlaH.out; omega)
      obtain ⟨bb, offb, rfl, hbb, hcb⟩ := hNbH.out (by have := hlbH.out; omega)
      have x1 := (hB.cell (p := ⟨ba, offa + k, none⟩) hba).trans (hca k (by have := hlaH.out; omega))
      have x2 := (hB.cell (p := ⟨bb, offb + k, none⟩) hbb).trans (hcb k (by have := hlbH.out; omega))
      rw [← vat_get a (by have := hlaH.out; omega)] at x1
      rw [← vat_get b (by have := hlbH.out; omega)] at x2
      clear hca hcb
      have m0 := hM.at_ hlt
      have mf := Row.frozen hM k
      have hM1 := hM.put k (vat a k)
      have hL1 := Row.far hL (p := ⟨g1, k, none⟩) (by show g2 ≠ g1; omega) (.int .i64 (vat a k))
      have n0 := IntRow.at_ hL1 hlt
      have nf := Row.frozen hL1 k
      have hM2 := Row.far hM1 (p := ⟨g2, k, none⟩) (by show g1 ≠ g2; omega) (.int .i64 (vat b k))
      have hL2 := IntRow.put hL1 k (vat b k)
      have hB2 := (hB.setCell (p := ⟨g1, k, none⟩) (by show _ ≤ g1; omega) (.int .i64 (vat a k))).setCell (p := ⟨g2, k, none⟩) (by show _ ≤ g2; omega) (.int .i64 (vat b k))
      have x1b := (cell_far (wr.setCell ⟨g1, k, none⟩ (.int .i64 (vat a k))) (a := ⟨g2, k, none⟩) (b := ⟨ba, offa + k, none⟩) (by show ba ≠ g2; omega) (.int .i64 (vat b k))).trans ((cell_far wr (a := ⟨g1, k, none⟩) (b := ⟨ba, offa + k, none⟩) (by show ba ≠ g1; omega) (.int .i64 (vat a k))).trans x1)
      have x2a := (cell_far wr (a := ⟨g1, k, none⟩) (b := ⟨bb, offb + k, none⟩) (by show bb ≠ g1; omega) (.int .i64 (vat a k))).trans x2
      have x2b := (cell_far (wr.setCell ⟨g1, k, none⟩ (.int .i64 (vat a k))) (a := ⟨g2, k, none⟩) (b := ⟨bb, offb + k, none⟩) (by show bb ≠ g2; omega) (.int .i64 (vat b k))).trans x2a
      clear hM hL hB hM1 hL1
      go_wp2_with fail
      generalize (wr.setCell ⟨g1, k, none⟩ (.int .i64 (vat a k))).setCell ⟨g2, k, none⟩ (.int .i64 (vat b k)) = w5 at *
      clear m0 mf n0 nf x2a x1 x2
      by_cases hab : vat a k < vat b k
      · have emax : Hid (max (vat a k) (vat b k) = vat b k) := by unfold Hid; omega
        have emin : Hid (min (vat a k) (vat b k) = vat a k) := by unfold Hid; omega
        have m0 := IntRow.at_ hM2 hlt
        have mf := Row.frozen hM2 k
        have hM3 := IntRow.put hM2 k (vat b k)
        have hL3 := Row.far hL2 (p := ⟨g1, k, none⟩) (by show g2 ≠ g1; omega) (.int .i64 (vat b k))
        have n0 := IntRow.at_ hL3 hlt
        have nf := Row.frozen hL3 k
        have hM4 := Row.far hM3 (p := ⟨g2, k, none⟩) (by show g1 ≠ g2; omega) (.int .i64 (vat a k))
        have hL4 := IntRow.put hL3 k (vat a k)
        have hB3 := (hB2.setCell (p := ⟨g1, k, none⟩) (by show _ ≤ g1; omega) (.int .i64 (vat b k))).setCell (p := ⟨g2, k, none⟩) (by show _ ≤ g2; omega) (.int .i64 (vat a k))
        have x1c := (cell_far w5 (a := ⟨g1, k, none⟩) (b := ⟨ba, offa + k, none⟩) (by show ba ≠ g1; omega) (.int .i64 (vat b k))).trans x1b
        have hMn := IntRow.congr hM4 (A' := upTo (fun i => max (vat a i) (vat b i)) (k + 1)) fun x _ => by
          rw [← upTo_twice _ k (vat a k) x]; simp only [emax.out]
        have hLn := IntRow.congr hL4 (A' := upTo (fun i => min (vat a i) (vat b i)) (k + 1)) fun x _ => by
          rw [← upTo_twice _ k (vat b k) x]; simp only [emin.out]
        clear hM2 hL2 hB2 hM3 hL3 hM4 hL4
        generalize vat a k = u at *
        generalize vat b k = v at *
        go_region
        go_wp2_with fail
        go_roundw
        case rel => exact ⟨k + 1, by omega, by go_num, hMn.heap rfl, hLn.heap rfl, hB3.drew⟩
        case measure => simp [intOf]; omega
      · have emax : Hid (max (vat a k) (vat b k) = vat a k) := by unfold Hid; omega
        have emin : Hid (min (vat a k) (vat b k) = vat b k) := by unfold Hid; omega
        have hMn := IntRow.congr hM2 (A' := upTo (fun i => max (vat a i) (vat b i)) (k + 1)) fun x _ => by
          rw [← upTo_step _ k x]; simp only [emax.out]
        have hLn := IntRow.congr hL2 (A' := upTo (fun i => min (vat a i) (vat b i)) (k + 1)) fun x _ => by
          rw [← upTo_step _ k x]; simp only [emin.out]
        clear hM2 hL2
        generalize vat a k = u at *
        generalize vat b k = v at *
        go_region
        go_wp2_with fail
        go_roundw
        case rel => exact ⟨k + 1, by omega, by go_num, hMn.heap rfl, hLn.heap rfl, hB2.drew⟩
        case measure => simp [intOf]; omega
    · have hkc : k = c := by omega
      subst hkc
      go_wp2_with fail
      refine (c3.out wr g1 hB hM).mono ?_
      rintro e w5 ⟨rfl, hB5'⟩
      have hL5 := Row.below hL hB5' (Row.lt hL)
      have hB5 := hB.trans (hB5'.mono hB.size)
      clear hB hB5' hM hL c3
      go_wp2_with fail
      refine (c4.out w5 g2 hB5 hL5).mono ?_
      rintro e w6 ⟨rfl, hB6'⟩
      have hB6 := hB5.trans (hB6'.mono hB5.size)
      clear hB5 hB6' hL5 c4
      go_wp2_with (first
        | (at_make; refine wpList_make_row _ rfl (.tmp 140) _ 23 rfl 3 j0 (.int .i64 0) Try.underlying23 hJi.out hJz.out hJs.out rfl .i64 .i64 _ _ k rfl rfl rfl rfl b2 (by unfold maxLen; omega) ?_; intro w7 hR7 hG7))
      have hB7 : Below w.heap.size w w7 := hB6.grown hG7 hB6.size (by simp)
      rw [intRow_zero] at hR7
      refine (c5.out w7 _ hB7 hR7).mono ?_
      rintro e w8 ⟨rfl, hB8'⟩
      have hB8 := hB7.trans (hB8'.mono hB7.size)
      clear hB7 hB8' hR7 hG7 hB6 c5
      cases P with
      | false =>
        clear hXY
        go_wp2_with fail
        go_ret
        exact ⟨rfl, hB8⟩
      | true =>
        cases Q with
        | false =>
          clear hXY
          go_wp2_with fail
          go_ret
          exact ⟨rfl, hB8⟩
        | true =>
          obtain ⟨rfl, rfl⟩ := hXY.out rfl rfl
          clear hXY
          go_wp2_with fail
          go_ret
          exact ⟨rfl, hB8⟩

theorem cutJoin_law (w : World) (n : Int) (_hn : I64 n) (A : Option Addr) (cap : Nat) (l : List Ev) (hE : Evs w w.heap.size A l) (hF : Fits l) (_hcap : l.length ≤ cap) (hl : l.length ≤ maxLen) (_hs : l.length ≤ 17592186044416) (Aa : Option Addr) (capa : Nat) (a : List Int) (hNa : Nums w w.heap.size Aa a) (_hNFa : NumFits a) (_hcapa : a.length ≤ capa) (_hla : a.length ≤ maxLen) (_hsa : a.length ≤ 17592186044416) (Ab : Option Addr) (capb : Nat) (b : List Int) (hNb : Nums w w.heap.size Ab b) (_hNFb : NumFits b) (_hcapb : b.length ≤ capb) (_hlb : b.length ≤ maxLen) (_hsb : b.length ≤ 17592186044416) :
    Calls Try.prog 7 #[.int .i64 n, .slice A l.length cap, .slice Aa a.length capa, .slice Ab b.length capb] w fun e w' => e = .returned (.bool true) ∧ Below w.heap.size w w' := by
  by_cases h0 : cutC n l a = 0 ∧ cutC n l b = 0
  · have hn := (check_small (cutC_ok.1 h0.1).1).1
    obtain ⟨c, rfl⟩ := Int.eq_ofNat_of_zero_le (show 0 ≤ n by omega)
    exact cutjoin_ok w c A cap l hE hF hl Aa capa a hNa Ab capb b hNb h0.1 h0.2
  · exact cutjoin_bad w n A cap l hE hF hl Aa capa a hNa Ab capb b hNb h0

#print axioms cutJoin_law
end Go.Proofs.Ytpofmhlmaejmoaa
