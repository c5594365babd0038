/-
  The walk of the law CutLeast: the least whole cut with an event is whole, and within every whole cut with it.
-/
import Derived.Test.YtpofmhlmaejmoaaIsa
import Derived.Test.YtpofmhlmaejmoaaLst
import Derived.Test.YtpofmhlmaejmoaaIns
import Derived.Test.YtpofmhlmaejmoaaRan
import Derived.BigQuiet
import Derived.Deep.QuietTactic
namespace Go.Proofs.Ytpofmhlmaejmoaa
open Go.RowKit Go.Maps

set_option maxHeartbeats 2000000 in
set_option maxRecDepth 100000 in
theorem cutleast_no (w : World) (n : Int) (A : Option Addr) (cap : Nat) (l : List Ev) (hE : Evs w w.heap.size A l) (hF : Fits l) (hcap : l.length ≤ cap) (hl : l.length ≤ maxLen) (i : Int) (Ac : Option Addr) (capc : Nat) (cv : List Int) (h0 : ¬ checkCode n l = 0) :
    Calls Try.prog 8 #[.int .i64 n, .slice A l.length cap, .int .i64 i, .slice Ac cv.length capc] w fun e w' => e = .returned (.bool true) ∧ Below w.heap.size w w' := by
  have hr : (checkCode n l == 0) = false := by simp [h0]
  have hr' : (checkCode n l != 0) = true := by simp [h0]
  have h0H := Lib.hid h0
  clear h0
  go_enter Try.func8, Try.ntmps8
  go_wp2_with fail
  refine (least_no A cap l n i _ hE hF hl h0H.out).mono ?_
  rintro e w1 ⟨rfl, hB1⟩
  go_wp2_with fail
  refine (ran_any A cap l n _ ((hE.below hB1).more hB1.size) hcap hl).mono ?_
  rintro e w2 ⟨rfl, hB2'⟩
  have hB2 := hB1.trans (hB2'.mono hB1.size)
  go_wp2_with fail
  go_ret
  exact ⟨rfl, hB2⟩

set_option maxHeartbeats 2000000 in
set_option maxRecDepth 100000 in
theorem cutleast_out (w : World) (c : Nat) (A : Option Addr) (cap : Nat) (l : List Ev) (hE : Evs w w.heap.size A l) (hF : Fits l) (hcap : l.length ≤ cap) (hl : l.length ≤ maxLen) (i : Int) (Ac : Option Addr) (capc : Nat) (cv : List Int) (h0 : checkCode (c : Int) l = 0) (hi : ¬ (0 ≤ i ∧ i < l.length)) :
    Calls Try.prog 8 #[.int .i64 (c : Int), .slice A l.length cap, .int .i64 i, .slice Ac cv.length capc] w fun e w' => e = .returned (.bool true) ∧ Below w.heap.size w w' := by
  have hr : (checkCode (c : Int) l == 0) = true := by simp [h0]
  have hin : Hid (inB l.length [i] = false) := by
    unfold Hid inB
    rw [← Bool.not_eq_true]
    simp only [List.all_cons, List.all_nil, Bool.and_true, decide_eq_true_eq]
    exact hi
  have hiH := Lib.hid hi
  have h0H := Lib.hid h0
  clear h0 hi
  go_enter Try.func8, Try.ntmps8
  go_wp2_with fail
  refine (least_out A cap l c i _ hE hF h0H.out hiH.out).mono ?_
  rintro e w1 ⟨rfl, hB1⟩
  go_wp2_with fail
  refine (ran_any A cap l (c : Int) _ ((hE.below hB1).more hB1.size) hcap hl).mono ?_
  rintro e w2 ⟨rfl, hB2'⟩
  have hB2 := hB1.trans (hB2'.mono hB1.size)
  go_wp2_with fail
  refine (inside_any _ _ [i] l.length _ (nums1 _ _ _) (by simp) false hin).mono ?_
  rintro e w4 ⟨rfl, rfl⟩
  have hB4 : Below w.heap.size w (w2.alloc (.cells #[.int .i64 i] 3)) := hB2.alloc hB2.size _
  go_wp2_with fail
  go_ret
  exact ⟨rfl, hB4⟩

/-- What the law asks of a cut. -/
structure LeastIn (c : Nat) (l : List Ev) (i q : Nat) (cv : List Int) : Prop where
  le : ∀ p : Nat, p < c → ((vec l i (p : Int) : Nat) : Int) ≤ vat cv p
  len : cv.length = c

theorem leastIn {c : Nat} {l : List Ev} {cv : List Int} {i q : Nat} (h : cutC (c : Int) l cv = 0) (hw : WholeC l (vat cv)) (hi : i < l.length) (hq : (ev l i).p = (q : Int)) (hle : (own l (q : Int) i : Int) + 1 ≤ vat cv q) : LeastIn c l i q cv := by
  obtain ⟨h1, h2, h3⟩ := cutC_ok.1 h
  have h4 : cv.length = c := by omega
  rw [h4] at h3
  exact ⟨(whole_vec (check_good.1 h1).2 h3).1 hw i hi ((inC_at hq).2 (by omega)), h4⟩

theorem vlist_cut {c : Nat} {l : List Ev} (h0 : checkCode (c : Int) l = 0) (i : Nat) : cutC (c : Int) l (vlist l c i) = 0 :=
  cutC_of h0 (vlist_len l c i) fun p hp => by rw [vlist_at l i hp]; exact least_ranged l c i p hp
theorem vlist_whole {c : Nat} {l : List Ev} (h0 : checkCode (c : Int) l = 0) {i : Nat} (hi : i < l.length) : WholeC l (vat (vlist l c i)) :=
  whole_congr (check_good.1 h0).2 (fun _ hp => (vlist_at l i hp).symm) (least_whole (check_good.1 h0).2 hi)

def ClRel (w wr : World) : Prop := Below w.heap.size w wr

set_option maxHeartbeats 4000000 in
set_option maxRecDepth 100000 in
theorem cutleast_in (w : World) (c : Nat) (A : Option Addr) (cap : Nat) (l : List Ev) (hE : Evs w w.heap.size A l) (hF : Fits l) (hcap : l.length ≤ cap) (hl : l.length ≤ maxLen) (i : Nat) (Ac : Option Addr) (capc : Nat) (cv : List Int) (hN : Nums w w.heap.size Ac cv) (h0 : checkCode (c : Int) l = 0) (hi : i < l.length) :
    Calls Try.prog 8 #[.int .i64 (c : Int), .slice A l.length cap, .int .i64 (i : Int), .slice Ac cv.length capc] w fun e w' => e = .returned (.bool true) ∧ Below w.heap.size w w' := by
  have hr : (checkCode (c : Int) l == 0) = true := by simp [h0]
  have h30 := (check_small h0).2.2
  have hc6 := (check_small h0).2.1
  have hin : Hid (inB l.length [(i : Int)] = true) := by unfold Hid inB; simp; omega
  have h0H := Lib.hid h0
  clear h0
  obtain ⟨q, hq, hqe⟩ := (check_good.1 h0H.out).2.procN hi
  have hqH := Lib.hid hqe
  clear hqe
  obtain ⟨C, hC⟩ := bool_of (cutC (c : Int) l cv = 0 ∧ WholeC l (vat cv))
  have hCH := Lib.hid hC
  clear hC
  have c1 : Hid (∀ w1 g, Below w.heap.size w w1 → Nums w1 w1.heap.size (some ⟨g, 0, none⟩) (vlist l c i) → Calls Try.prog 11 #[.int .i64 (c : Int), .slice A l.length cap, .slice (some ⟨g, 0, none⟩) c c] w1 fun e w' => e = .returned (.tuple #[.bool true, .int .i64 0]) ∧ Below w1.heap.size w1 w') := fun w1 g hB1 hN1 => by
    have := is_any A (some ⟨g, 0, none⟩) cap c l (c : Int) (vlist l c i) w1 ((hE.below hB1).more hB1.size) hF hl hN1 true (Lib.hid ⟨fun _ => ⟨vlist_cut h0H.out i, vlist_whole h0H.out hi⟩, fun _ => rfl⟩)
    rw [vlist_len, vlist_cut h0H.out] at this
    exact this
  have hiI : (i : Int) < (l.length : Int) := by omega
  go_enter Try.func8, Try.ntmps8
  go_wp2_with fail
  refine (least_ok A cap l c i _ hE hF h0H.out hi).mono ?_
  rintro e w1 ⟨g, rfl, hN1, hB1⟩
  go_wp2_with fail
  refine (ran_any A cap l (c : Int) _ ((hE.below hB1).more hB1.size) hcap hl).mono ?_
  rintro e w2 ⟨rfl, hB2'⟩
  have hN2 := (hN1.below hB2').more hB2'.size
  have hB2 := hB1.trans (hB2'.mono hB1.size)
  clear hB1 hB2' hN1
  go_wp2_with fail
  refine (inside_any _ _ [(i : Int)] l.length _ (nums1 _ _ _) (by simp) true hin).mono ?_
  rintro e w4 ⟨rfl, rfl⟩
  have hB4 : Below w.heap.size w (w2.alloc (.cells #[.int .i64 (i : Int)] 3)) := hB2.alloc hB2.size _
  have hN4 := (hN2.below ((Below.refl w2.heap.size w2).alloc (Nat.le_refl _) (.cells #[.int .i64 (i : Int)] 3))).more (show w2.heap.size ≤ (w2.alloc (.cells #[.int .i64 (i : Int)] 3)).heap.size by simp)
  generalize w2.alloc (.cells #[.int .i64 (i : Int)] 3) = w3 at *
  clear hB2 hN2
  go_wp2_with fail
  refine (c1.out w3 g hB4 hN4).mono ?_
  rintro e w5 ⟨rfl, hB5'⟩
  have hN5 := (hN4.below hB5').more hB5'.size
  have hB5 := hB4.trans (hB5'.mono hB4.size)
  clear hB4 hB5' hN4 c1
  go_wp2_with fail
  refine (is_any A Ac cap capc l (c : Int) cv _ ((hE.below hB5).more hB5.size) hF hl ((hN.below hB5).more hB5.size) C hCH).mono ?_
  rintro e w6 ⟨rfl, hB6'⟩
  have hN6 := (hN5.below hB6').more hB6'.size
  have hB6 := hB5.trans (hB6'.mono hB5.size)
  clear hB5 hB6' hN5
  by_cases hcc : cutC (c : Int) l cv = 0
  · cases C with
    | false =>
      have hx : (cutC (c : Int) l cv != 0) = false := by simp [hcc]
      have hccH := Lib.hid hcc
      clear hcc
      go_wp2_with fail
      go_ret
      exact ⟨rfl, hB6⟩
    | true =>
      have hw : Hid (WholeC l (vat cv)) := (hCH.out.1 rfl).2
      have hlen : cv.length = c := by have := (cutC_ok.1 hcc).2.1; omega
      have hx : (cutC (c : Int) l cv != 0) = false := by simp [hcc]
      have hx2 : ((cv.length : Int) != (c : Int)) = false := by simp [hlen]
      have hx3 : (cv.length != c) = false := by simp [hlen]
      have hlenH := Lib.hid hlen
      have hccH := Lib.hid hcc
      clear hcc hCH hlen
      go_wp2_with fail
      go_loopw [15, 16] (fun a t wr => ∃ k : Nat, k ≤ i + 1 ∧ t = .int .i64 k ∧ a = .int .i64 (own l (q : Int) k : Nat) ∧ ClRel w6 wr) (fun _ t _ => i + 1 - (intOf t).toNat)
      case atStart => exact ⟨0, Nat.zero_le _, rfl, rfl, Below.refl _ _⟩
      case round =>
        obtain ⟨k, hk, rfl, rfl, hB7⟩ := hrel
        unfold ClRel at hB7
        have hBw := hB6.trans (hB7.mono hB6.size)
        have hE7 := hE.below hBw
        by_cases hlt : k < i + 1
        · obtain ⟨b, off, rfl, hb, hc⟩ := hE7 (by omega)
          have x1 := (hc k (by omega)).1
          have x2 := (hc i (by omega)).1
          clear hc hE7
          have e1 : Hid (l[k].p = (ev l k).p) := by unfold Hid; rw [ev_get l (by omega)]
          have e2 : Hid (l[i].p = (q : Int)) := by unfold Hid; rw [← hqH.out, ev_get l (by omega)]
          rw [e1.out] at x1
          rw [e2.out] at x2
          have hkI : (k : Int) < (l.length : Int) := by omega
          have hki : (k : Int) ≤ (i : Int) := by omega
          have ho := own_le l (q : Int) k
          have hos := own_succ l (q : Int) k
          by_cases e : (ev l k).p = (q : Int)
          · have v1 : ((ev l k).p == (q : Int)) = true := by simp [e]
            rw [if_pos e] at hos
            have hosH := Lib.hid hos
            clear hos e
            generalize (ev l k).p = pk at *
            obtain ⟨a, haH⟩ : ∃ a, Hid (own l (q : Int) k = a) := ⟨_, rfl⟩
            rw [haH.out] at ho ⊢
            go_wp2_with fail
            go_quiet (fail)
            go_wp2_with fail
            go_roundw
            case rel => exact ⟨k + 1, by omega, by go_num, by rw [hosH.out, haH.out]; rfl, below_drewN hB7 _⟩
            case measure => simp [intOf]; omega
          · have v1 : ((ev l k).p == (q : Int)) = false := by simp [e]
            rw [if_neg e] at hos
            have hosH := Lib.hid hos
            clear hos e
            generalize (ev l k).p = pk at *
            go_wp2_with fail
            go_quiet (fail)
            go_wp2_with fail
            go_roundw
            case rel => exact ⟨k + 1, by omega, by go_num, by rw [hosH.out]; rfl, below_drewN hB7 _⟩
            case measure => simp [intOf]; omega
        · have hki : k = i + 1 := by omega
          subst hki
          have hd1 : decide (((i + 1 : Nat) : Int) ≤ (i : Int)) = false := by simp; omega
          have hd2 : ¬ ((i : Int) + 1 ≤ (i : Int)) := by omega
          have hos : Hid (own l (q : Int) (i + 1) = own l (q : Int) i + 1) := by
            unfold Hid; rw [own_succ, if_pos hqH.out]
          have hve : Hid (vec l i (q : Int) = own l (q : Int) i + 1) := by
            unfold Hid
            rw [← hqH.out]
            exact vec_own (check_good.1 h0H.out).2.sole hi
          have ho := own_le l (q : Int) i
          rw [hos.out]
          obtain ⟨b, off, rfl, hb, hc⟩ := hE7 (by omega)
          have x2 := (hc i (by omega)).1
          clear hc hE7
          have e2 : Hid (l[i].p = (q : Int)) := by unfold Hid; rw [← hqH.out, ev_get l (by omega)]
          rw [e2.out] at x2
          have hqI : (q : Int) < (c : Int) := by omega
          have hqI2 : (q : Int) < (cv.length : Int) := by have := hlenH.out; omega
          obtain ⟨bc, offc, rfl, hbc, hcs⟩ := hN.below hBw (by have := hlenH.out; omega)
          have y1 := hcs q (by have := hlenH.out; omega)
          rw [← vat_get cv (by have := hlenH.out; omega)] at y1
          have hN7 := hN6.below hB7
          by_cases hle : vat cv q < (own l (q : Int) i : Int) + 1
          · generalize vat cv q = u at *
            generalize own l (q : Int) i = a at *
            have hlep : decide (u < ((a + 1 : Nat) : Int)) = true := by simp; omega
            have hle2 : u < ((a + 1 : Nat) : Int) := by omega
            go_wp2_with fail
            go_ret
            exact ⟨rfl, hBw⟩
          · have hLI := Lib.hid (leastIn hccH.out hw.out hi hqH.out (by omega))
            have hle2 : ¬ (vat cv q < ((own l (q : Int) i + 1 : Nat) : Int)) := by omega
            have hle3 : decide (vat cv q < ((own l (q : Int) i + 1 : Nat) : Int)) = false := by simp; omega
            have hNv := Lib.hid hN7
            have hcsH := Lib.hid hcs
            clear hcs hN7
            have hveI : ((vec l i (q : Int) : Nat) : Int) = ((own l (q : Int) i + 1 : Nat) : Int) := by rw [hve.out]
            have hveH := Lib.hid hveI
            clear hveI
            generalize vat cv q = u at *
            generalize own l (q : Int) i + 1 = a at *
            go_wp2_with fail
            rename World => w7
            go_loopw [17] (fun t wr => ∃ p : Nat, p ≤ c ∧ t = .int .i64 p ∧ ClRel w7 wr) (fun t _ => c - (intOf t).toNat)
            case atStart => exact ⟨0, Nat.zero_le _, rfl, Below.refl _ _⟩
            case round =>
              obtain ⟨p, hp, rfl, hB8⟩ := hrel
              unfold ClRel at hB8
              have hs6 := hB6.size
              have hs7 := hB7.size
              have hB8w := hBw.trans (hB8.mono hBw.size)
              have hN8 := hNv.out.keep (fun p hp => hB8.cell (Nat.lt_of_lt_of_le hp hs7))
              by_cases hpc : p < c
              · have hpI : (p : Int) < (c : Int) := by omega
                have hpI2 : (p : Int) < (cv.length : Int) := by have := hlenH.out; omega
                obtain ⟨bg, offg, hg0, hbg, hcg⟩ := hN8 (by rw [vlist_len]; omega)
                injection hg0 with hg0
                injection hg0 with hg1 hg2
                subst hg1
                subst hg2
                have z1 := hcg p (by rw [vlist_len]; exact hpc)
                rw [← vat_get _ (by rw [vlist_len]; exact hpc), vlist_at l i hpc, Nat.zero_add] at z1
                have z2 := (hB8.cell (p := ⟨bc, offc + p, none⟩) (by show bc < _; omega)).trans (hcsH.out p (by have := hlenH.out; omega))
                rw [← vat_get cv (by have := hlenH.out; omega)] at z2
                have hle5 := hLI.out.le p hpc
                have hle6 : ¬ (vat cv p < ((vec l i (p : Int) : Nat) : Int)) := by omega
                have hle7 : decide (vat cv p < ((vec l i (p : Int) : Nat) : Int)) = false := by simp; omega
                clear hcg hN8
                generalize vat cv p = v at *
                generalize vec l i (p : Int) = m at *
                go_wp2_with fail
                go_quiet (fail)
                go_wp2_with fail
                go_roundw
                case rel => exact ⟨p + 1, by omega, by go_num, below_drewN hB8 _⟩
                case measure => simp [intOf]; omega
              · have hpc2 : p = c := by omega
                subst hpc2
                obtain ⟨bg, offg, hg0, hbg, hcg⟩ := hN8 (by rw [vlist_len]; omega)
                injection hg0 with hg0
                injection hg0 with hg1 hg2
                subst hg1
                subst hg2
                have z1 := hcg q (by rw [vlist_len]; omega)
                rw [← vat_get _ (by rw [vlist_len]; omega), vlist_at l i (by omega), Nat.zero_add, hveH.out] at z1
                have z2 := (hB8.cell (p := ⟨b, off + i * 3, none⟩) (by show b < _; omega)).trans x2
                clear hcg hN8
                go_wp2_with fail
                go_ret
                exact ⟨by simp, hB8w⟩
  · have hx : (cutC (c : Int) l cv != 0) = true := by simp [hcc]
    have hccH := Lib.hid hcc
    clear hcc
    go_wp2_with fail
    go_ret
    exact ⟨rfl, hB6⟩

theorem cutLeast_law (w : World) (n : Int) (_hn : I64 n) (A : Option Addr) (cap : Nat) (l : List Ev) (hE : Evs w w.heap.size A l) (hF : Fits l) (hcap : l.length ≤ cap) (hl : l.length ≤ maxLen) (_hs : l.length ≤ 17592186044416) (i : Int) (_hi : I64 i) (Ac : Option Addr) (capc : Nat) (cv : List Int) (hN : Nums w w.heap.size Ac cv) (_hNF : NumFits cv) (_hcapc : cv.length ≤ capc) (_hlc : cv.length ≤ maxLen) (_hsc : cv.length ≤ 17592186044416) :
    Calls Try.prog 8 #[.int .i64 n, .slice A l.length cap, .int .i64 i, .slice Ac cv.length capc] w fun e w' => e = .returned (.bool true) ∧ Below w.heap.size w w' := by
  by_cases h0 : checkCode n l = 0
  · have hn := (check_small h0).1
    obtain ⟨c, rfl⟩ := Int.eq_ofNat_of_zero_le (show 0 ≤ n by omega)
    by_cases hi : 0 ≤ i ∧ i < l.length
    · obtain ⟨x, rfl⟩ := Int.eq_ofNat_of_zero_le hi.1
      exact cutleast_in w c A cap l hE hF hcap hl x Ac capc cv hN h0 (by omega)
    · exact cutleast_out w c A cap l hE hF hcap hl i Ac capc cv h0 hi
  · exact cutleast_no w n A cap l hE hF hcap hl i Ac capc cv h0

#print axioms cutLeast_law
end Go.Proofs.Ytpofmhlmaejmoaa
