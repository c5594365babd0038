/-
  The contracts of fork.joins, fork.check.
-/
import Derived.Test.YtieicimoolegoaaFsm
import Derived.Test.YtieicimoolegoaaFcd
import Derived.BigQuiet
import Derived.Deep.QuietTactic
import Derived.Lib.QuietBelow
namespace Go.Proofs.Ytieicimoolegoaa
open Go.RowKit Go.Maps
set_option linter.unusedVariables false

theorem eqL (a b c d : Int) (w : World) : (Op.equalIn 10000 43 (.agg #[.int .i64 a, .int .i64 b]) (.agg #[.int .i64 c, .int .i64 d])).run Try.prog w = .ok (a == c && b == d) w := by
  have u3 := Try.underlying3
  have a3 := Try.isAgg3
  have z3 := Try.sizeOf3
  rw [show (10000 : Nat) = 9999 + 1 from rfl, Op.equalIn]
  simp only [Sem.run_bind, run_underlying Try.underlying43, Result.andThen_ok]
  simp only [Std.Legacy.Range.forIn_eq_forIn_range', Std.Legacy.Range.size, Nat.sub_zero, Nat.add_sub_cancel, Nat.div_one, List.range'_succ, List.range'_zero, List.forIn_cons, List.forIn_nil]
  go_simp
  by_cases h1 : a = c <;> by_cases h2 : b = d <;> simp [h1, h2]

def JnRel (l : List Lk) (x y : Int) (k : Nat) (w1 wr : World) : Prop := (∀ j, j < k → ¬ SameL ⟨x, y⟩ (lat l j)) ∧ Below w1.heap.size w1 wr
theorem lk_alloc {w wr : World} (h : Below w.heap.size w wr) (a b : Int) : Below w.heap.size w (wr.alloc (.cells #[.int .i64 a, .int .i64 b] 43)) := h.alloc h.size _
set_option maxHeartbeats 1600000 in
theorem joins_any (A : Option Addr) (cap : Nat) (l : List Lk) (x y : Int) (w : World) (hE : Lks w w.heap.size A l) (hl : l.length ≤ 1000) (C : Bool) (hC0 : C = true ↔ ∃ j, j < l.length ∧ SameL ⟨x, y⟩ (lat l j)) :
    Calls Try.prog 36 #[.slice A l.length cap, .agg #[.int .i64 x, .int .i64 y]] w fun e w' => e = .returned (.bool C) ∧ Below w.heap.size w w' := by
  have hC := Lib.hid hC0
  have hB0 := (Below.refl w.heap.size w).alloc (Nat.le_refl _) (.cells #[.int .i64 x, .int .i64 y] 43)
  have hR0 := Row.made w 43 [.int .i64 x, .int .i64 y]
  have hBH := Lib.hid hB0
  have hEH := Lib.hid hE
  clear hE hB0 hC0
  go_enter Try.func36, Try.ntmps36
  go_wp2_with fail
  generalize hw1 : w.alloc (.cells #[.int .i64 x, .int .i64 y] 43) = w1 at *
  generalize hg : w.heap.size = g at *
  have hR1 : Row w1 g 43 [.int .i64 x, .int .i64 y] := hR0
  have hg1 : g < w1.heap.size := hR1.lt
  have hgH := Lib.hid hg
  clear hR0 hw1
  go_loopw [9] (fun v wr => ∃ k : Nat, k ≤ l.length ∧ v = .int .i64 k ∧ JnRel l x y k w1 wr) (fun v _ => l.length - (intOf v).toNat)
  case atStart => exact ⟨0, Nat.zero_le _, rfl, fun _ h => absurd h (Nat.not_lt_zero _), Below.refl _ _⟩
  case round =>
    obtain ⟨k, hk, rfl, hr, hB⟩ := hrel
    have hrH := Lib.hid hr
    clear hr
    have hR := hR1.below hB hg1
    have hBw := hBH.out.trans (hB.mono (Nat.le_of_lt hg1))
    have hBwH := Lib.hid hBw
    by_cases hlt : k < l.length
    · obtain ⟨b, off, rfl, hb, c3, c4⟩ := (hEH.out.below hBw).at_ hlt
      have hkI : (k : Int) < (l.length : Int) := by omega
      have hB1 := Lib.hid (lk_alloc hB (lat l k).a (lat l k).b)
      have hRr := hR.alloc (.cells #[.int .i64 (lat l k).a, .int .i64 (lat l k).b] 43)
      have f0 := hRr.cell (i := 0) (by simp)
      have f1 := hRr.cell (i := 1) (by simp)
      simp only [List.getElem_cons_zero, List.getElem_cons_succ] at f0 f1
      have hR2 := Row.made wr 43 [.int .i64 (lat l k).a, .int .i64 (lat l k).b]
      have d0 := hR2.cell (i := 0) (by simp)
      have d1 := hR2.cell (i := 1) (by simp)
      simp only [List.getElem_cons_zero, List.getElem_cons_succ] at d0 d1
      have hsame : SameL ⟨x, y⟩ (lat l k) ↔ (x = (lat l k).a ∧ y = (lat l k).b) ∨ (x = (lat l k).b ∧ y = (lat l k).a) := Iff.rfl
      have hyes : Hid (SameL ⟨x, y⟩ (lat l k) → C = true) := fun h => hC.out.2 ⟨k, hlt, h⟩
      have hno : Hid (¬ SameL ⟨x, y⟩ (lat l k) → ∀ j, j < k + 1 → ¬ SameL ⟨x, y⟩ (lat l j)) := fun h j hj => by
        by_cases e : j = k
        · subst e; exact h
        · exact hrH.out j (by omega)
      generalize SameL ⟨x, y⟩ (lat l k) = SM at *
      have hqa : Hid (∀ w a b, (Op.equalIn 10000 43 (.agg #[.int .i64 a, .int .i64 b]) (.agg #[.int .i64 x, .int .i64 y])).run Try.prog w = .ok (a == x && b == y) w) := fun w a b => eqL _ _ _ _ w
      clear hRr hR2 hR hrH hB hBw
      generalize (lat l k).a = a at *
      generalize (lat l k).b = c at *
      by_cases p1 : a = x ∧ c = y
      · have hq : ∀ w, (Op.equalIn 10000 43 (.agg #[.int .i64 a, .int .i64 c]) (.agg #[.int .i64 x, .int .i64 y])).run Try.prog w = .ok true w := fun w => by rw [eqL, p1.1, p1.2]; simp
        have hfin : Hid (C = true) := hyes.out (hsame.2 (.inl ⟨p1.1.symm, p1.2.symm⟩))
        clear hyes hno hsame p1 hqa
        go_wp2_with fail
        go_quiet (fail)
        go_wp2_with fail
        go_ret
        exact ⟨by rw [hfin.out]; rfl, below_drewN (by rw [hgH.out]; exact hBH.out.trans (hB1.out.mono (Nat.le_of_lt hg1))) _⟩
      · have hq : ∀ w, (Op.equalIn 10000 43 (.agg #[.int .i64 a, .int .i64 c]) (.agg #[.int .i64 x, .int .i64 y])).run Try.prog w = .ok false w := fun w => by
          rw [eqL]
          have : (a == x && c == y) = false := by
            rw [← Bool.not_eq_true]; intro h; simp at h; exact p1 h
          rw [this]
        have hct : Hid (∀ d os, Calls Try.prog 37 #[.agg #[.int .i64 x, .int .i64 y]] (Sort.grow (redrawn (wr.alloc (.cells #[.int .i64 a, .int .i64 c] 43)) d) os) fun e w'' => e = .returned (.agg #[.int .i64 y, .int .i64 x]) ∧ ∃ p : Regrown, w'' = Sort.grow (redrawn (wr.alloc (.cells #[.int .i64 a, .int .i64 c] 43)) p.d) p.os) := fun d os => Calls.regrown_of (turn_any x y _)
        by_cases p2 : a = y ∧ c = x
        · have hq2 : ∀ w, (Op.equalIn 10000 43 (.agg #[.int .i64 a, .int .i64 c]) (.agg #[.int .i64 y, .int .i64 x])).run Try.prog w = .ok true w := fun w => by rw [eqL, p2.1, p2.2]; simp
          have hfin : Hid (C = true) := hyes.out (hsame.2 (.inr ⟨p2.2.symm, p2.1.symm⟩))
          clear hyes hno hsame p1 p2 hqa
          have xf0 := cell_regrown f0
          have xf1 := cell_regrown f1
          have xd0 := cell_regrown d0
          have xd1 := cell_regrown d1
          go_wp2_with fail
          refine wp_region_quiet_below (by kernel_rfl) (by kernel_rfl) ?_
          repeat (quiet_step (exact hct.out _ _))
          refine wpQuiet_nil ?_
          intro _ hw'
          obtain ⟨⟨dq, osq⟩, hw''⟩ := hw'
          subst hw''
          have hBq := hB1.out.trans ((below_regrown _ dq osq).mono hB1.out.size)
          generalize Sort.grow (redrawn _ dq) osq = w7 at *
          clear xf0 xf1 xd0 xd1
          go_wp2_with fail
          go_ret
          exact ⟨by rw [hfin.out]; rfl, by rw [hgH.out]; exact hBH.out.trans (hBq.mono (Nat.le_of_lt hg1))⟩
        · have hq2 : ∀ w, (Op.equalIn 10000 43 (.agg #[.int .i64 a, .int .i64 c]) (.agg #[.int .i64 y, .int .i64 x])).run Try.prog w = .ok false w := fun w => by
            rw [eqL]
            have : (a == y && c == x) = false := by
              rw [← Bool.not_eq_true]; intro h; simp at h; exact p2 h
            rw [this]
          have hnext := Lib.hid (hno.out fun h => by
            rcases hsame.1 h with h | h
            · exact p1 ⟨h.1.symm, h.2.symm⟩
            · exact p2 ⟨h.2.symm, h.1.symm⟩)
          clear hyes hno hsame p1 p2 hqa
          have xf0 := cell_regrown f0
          have xf1 := cell_regrown f1
          have xd0 := cell_regrown d0
          have xd1 := cell_regrown d1
          go_wp2_with fail
          refine wp_region_quiet_below (by kernel_rfl) (by kernel_rfl) ?_
          repeat (quiet_step (exact hct.out _ _))
          refine wpQuiet_nil ?_
          intro _ hw'
          obtain ⟨⟨dq, osq⟩, hw''⟩ := hw'
          subst hw''
          have hBq := hB1.out.trans ((below_regrown _ dq osq).mono hB1.out.size)
          generalize Sort.grow (redrawn _ dq) osq = w7 at *
          clear xf0 xf1 xd0 xd1
          go_wp2_with fail
          go_roundw
          case rel => exact ⟨k + 1, by omega, by go_num, hnext.out, hBq⟩
          case measure => simp [intOf]; omega
    · have hkl : k = l.length := by omega
      subst hkl
      have hfin : Hid (C = false) := by
        unfold Hid
        rw [← Bool.not_eq_true, hC.out]
        rintro ⟨j, hj, h⟩
        exact hrH.out j hj h
      go_wp2_with fail
      go_ret
      exact ⟨by rw [hfin.out]; rfl, by rw [hgH.out]; exact hBwH.out⟩

def FckRel (n : Int) (l : List Lk) (w : World) (k : Nat) (wr : World) : Prop := LOk n (l.take k) ∧ Below w.heap.size w wr
def FckRel2 (l : List Lk) (w : World) (k : Nat) (wr : World) : Prop := Once (l.take k) ∧ Below w.heap.size w wr
set_option maxHeartbeats 3200000 in
theorem check_any (A : Option Addr) (cap : Nat) (l : List Lk) (n : Int) (w : World) (hE : Lks w w.heap.size A l) (hc : l.length ≤ cap) (hl : l.length ≤ 17592186044416) :
    Calls Try.prog 24 #[.int .i64 n, .slice A l.length cap] w fun e w' => e = .returned (.int .i64 (fcode n l)) ∧ Below w.heap.size w w' := by
  obtain ⟨C, hC⟩ : ∃ C, Hid (C = fcode n l) := ⟨_, rfl⟩
  rw [← hC.out]
  have hEH := Lib.hid hE
  clear hE
  by_cases hL : LargeL n l
  · have h1 : Hid (C = 1) := by unfold Hid; rw [hC.out, fcode_large hL]
    by_cases c1 : n < 1
    · have v1 : decide (n < 1) = true := decide_eq_true c1
      clear hL
      go_enter Try.func24, Try.ntmps24
      go_wp2_with fail
      go_ret
      exact ⟨by rw [h1.out]; rfl, Below.refl _ _⟩
    by_cases c2 : 6 < n
    · have v1 : decide (n < 1) = false := decide_eq_false c1
      have v2 : decide (n > 6) = true := decide_eq_true c2
      have v2' : decide (6 < n) = true := decide_eq_true c2
      clear hL
      go_enter Try.func24, Try.ntmps24
      go_wp2_with fail
      go_ret
      exact ⟨by rw [h1.out]; rfl, Below.refl _ _⟩
    · have c3 : 15 < (l.length : Int) := by
        rcases hL with h | h | h
        · exact absurd h c1
        · exact absurd h c2
        · omega
      have v1 : decide (n < 1) = false := decide_eq_false c1
      have v2 : decide (n > 6) = false := decide_eq_false c2
      have v2' : decide (6 < n) = false := decide_eq_false c2
      have v3 : decide ((l.length : Int) > 15) = true := decide_eq_true c3
      have v3' : decide (15 < (l.length : Int)) = true := decide_eq_true c3
      clear hL
      go_enter Try.func24, Try.ntmps24
      go_wp2_with fail
      go_ret
      exact ⟨by rw [h1.out]; rfl, Below.refl _ _⟩
  · have hLH := Lib.hid hL
    have hn1 : ¬ n < 1 := fun h => hL (.inl h)
    have hn6 : ¬ 6 < n := fun h => hL (.inr (.inl h))
    have hl15 : ¬ 15 < l.length := fun h => hL (.inr (.inr h))
    have v1 : decide (n < 1) = false := decide_eq_false hn1
    have v2 : decide (n > 6) = false := decide_eq_false hn6
    have v2' : decide (6 < n) = false := decide_eq_false hn6
    have v3 : decide ((l.length : Int) > 15) = false := decide_eq_false (by omega)
    have v3' : decide (15 < (l.length : Int)) = false := decide_eq_false (by omega)
    clear hL
    go_enter Try.func24, Try.ntmps24
    go_wp2_with fail
    go_loopw [22] (fun v wr => ∃ k : Nat, k ≤ l.length ∧ v = .int .i64 k ∧ FckRel n l w k wr) (fun v _ => l.length - (intOf v).toNat)
    case atStart => exact ⟨0, Nat.zero_le _, rfl, by simpa using LOk.nil n, Below.refl _ _⟩
    case round =>
      obtain ⟨k, hk, rfl, hr, hB⟩ := hrel
      have hrH := Lib.hid hr
      clear hr
      by_cases hlt : k < l.length
      · obtain ⟨b, off, rfl, hb, c3, c4⟩ := (hEH.out.below hB).at_ hlt
        have hkI : (k : Int) < (l.length : Int) := by omega
        have hB1 := Lib.hid (lk_alloc hB (lat l k).a (lat l k).b)
        have hR1 := Row.made wr 43 [.int .i64 (lat l k).a, .int .i64 (lat l k).b]
        have d0 := hR1.cell (i := 0) (by simp)
        have d1 := hR1.cell (i := 1) (by simp)
        simp only [List.getElem_cons_zero, List.getElem_cons_succ] at d0 d1
        have hbad : Hid (okL n (lat l k) = false → C = 2) := fun h => by rw [hC.out, fcode_bad hLH.out (not_LOk hlt h)]
        have hgood : Hid (okL n (lat l k) = true → LOk n (l.take (k + 1))) := fun h => hrH.out.succ hlt h
        have hokd : Hid (okL n (lat l k) = (inP n (lat l k).a && inP n (lat l k).b && !decide ((lat l k).a = (lat l k).b))) := rfl
        generalize okL n (lat l k) = O at *
        have ca := fun w => isproc_any (lat l k).a n w
        have cb := fun w => isproc_any (lat l k).b n w
        have hwe : ((lat l k).a == (lat l k).b) = decide ((lat l k).a = (lat l k).b) := by rw [Bool.eq_iff_iff]; simp
        clear hR1 hrH
        generalize (lat l k).a = x at *
        generalize (lat l k).b = y at *
        cases hpa : inP n x with
        | false =>
          rw [hpa] at ca
          have hfin : Hid (C = 2) := hbad.out (by rw [hokd.out, hpa]; rfl)
          have caH := Lib.hid ca
          clear ca cb hpa hbad hgood hokd
          go_wp2_with fail
          refine (caH.out _).mono ?_
          rintro e w1 ⟨rfl, rfl⟩
          go_wp2_with fail
          go_ret
          exact ⟨by rw [hfin.out]; rfl, hB1.out⟩
        | true =>
          rw [hpa] at ca
          cases hpb : inP n y with
          | false =>
            rw [hpb] at cb
            have hfin : Hid (C = 2) := hbad.out (by rw [hokd.out, hpa, hpb]; rfl)
            have caH := Lib.hid ca
            have cbH := Lib.hid cb
            clear ca cb hpa hpb hbad hgood hokd
            go_wp2_with fail
            refine (caH.out _).mono ?_
            rintro e w1 ⟨rfl, rfl⟩
            go_wp2_with fail
            refine (cbH.out _).mono ?_
            rintro e w1 ⟨rfl, rfl⟩
            go_wp2_with fail
            go_ret
            exact ⟨by rw [hfin.out]; rfl, hB1.out⟩
          | true =>
            rw [hpb] at cb
            by_cases hxy : x = y
            · have v5 : (x == y) = true := by rw [hwe]; exact decide_eq_true hxy
              have hfin : Hid (C = 2) := hbad.out (by rw [hokd.out, hpa, hpb, decide_eq_true hxy]; rfl)
              have caH := Lib.hid ca
              have cbH := Lib.hid cb
              clear ca cb hpa hpb hbad hgood hokd hwe hxy
              go_wp2_with fail
              refine (caH.out _).mono ?_
              rintro e w1 ⟨rfl, rfl⟩
              go_wp2_with fail
              refine (cbH.out _).mono ?_
              rintro e w1 ⟨rfl, rfl⟩
              go_wp2_with fail
              go_ret
              exact ⟨by rw [hfin.out]; rfl, hB1.out⟩
            · have v5 : (x == y) = false := by rw [hwe]; exact decide_eq_false hxy
              have hnext : Hid (LOk n (l.take (k + 1))) := hgood.out (by rw [hokd.out, hpa, hpb, decide_eq_false hxy]; rfl)
              have caH := Lib.hid ca
              have cbH := Lib.hid cb
              clear ca cb hpa hpb hbad hgood hokd hwe hxy
              go_wp2_with fail
              refine (caH.out _).mono ?_
              rintro e w1 ⟨rfl, rfl⟩
              go_wp2_with fail
              refine (cbH.out _).mono ?_
              rintro e w1 ⟨rfl, rfl⟩
              go_wp2_with fail
              go_roundw
              case rel => exact ⟨k + 1, by omega, by go_num, hnext.out, hB1.out⟩
              case measure => simp [intOf]; omega
      · have hkl : k = l.length := by omega
        subst hkl
        have hok : Hid (LOk n l) := by have := hrH.out; rwa [List.take_length] at this
        go_wp2_with fail
        go_loopw [48] (fun v wr => ∃ k : Nat, k ≤ l.length ∧ v = .int .i64 k ∧ FckRel2 l w k wr) (fun v _ => l.length - (intOf v).toNat)
        case atStart => exact ⟨0, Nat.zero_le _, rfl, by unfold Once; simp, hB⟩
        case round =>
          clear hB
          obtain ⟨k, hk, rfl, hr, hB⟩ := hrel
          rename World => wr
          have hrH2 := Lib.hid hr
          clear hr
          by_cases hlt : k < l.length
          · obtain ⟨b, off, rfl, hb, c3, c4⟩ := (hEH.out.below hB).at_ hlt
            have hkI : (k : Int) < (l.length : Int) := by omega
            have hkc : k ≤ cap := by omega
            have hkl : k ≤ l.length := by omega
            have hB1 := Lib.hid (lk_alloc hB (lat l k).a (lat l k).b)
            have hR1 := Row.made wr 43 [.int .i64 (lat l k).a, .int .i64 (lat l k).b]
            have d0 := hR1.cell (i := 0) (by simp)
            have d1 := hR1.cell (i := 1) (by simp)
            simp only [List.getElem_cons_zero, List.getElem_cons_succ] at d0 d1
            have htl : (l.take k).length = k := by simp; omega
            have htw : Hid (∀ B : Bool, (B = true ↔ Twin l k) → ∀ d os, Calls Try.prog 36 #[.slice (some ⟨b, off, none⟩) k cap, .agg #[.int .i64 (lat l k).a, .int .i64 (lat l k).b]] (Sort.grow (redrawn (wr.alloc (.cells #[.int .i64 (lat l k).a, .int .i64 (lat l k).b] 43)) d) os) fun e w'' => e = .returned (.bool B) ∧ ∃ p : Regrown, w'' = Sort.grow (redrawn (wr.alloc (.cells #[.int .i64 (lat l k).a, .int .i64 (lat l k).b] 43)) p.d) p.os) := fun Bo hBo d os => Calls.regrown_of (by
              have hB3 := hB1.out.trans ((below_regrown _ d os).mono hB1.out.size)
              have := joins_any (some ⟨b, off, none⟩) cap (l.take k) (lat l k).a (lat l k).b _ (((hEH.out.below hB3).take k).more hB3.size) (by omega) Bo (by
                rw [hBo, htl]
                unfold Twin
                constructor
                · rintro ⟨j, hj, h⟩; exact ⟨j, hj, by rw [lat_take l hj]; exact h⟩
                · rintro ⟨j, hj, h⟩; exact ⟨j, hj, by rw [lat_take l hj] at h; exact h⟩)
              rw [htl] at this
              exact this)
            have hbad : Hid (Twin l k → C = 3) := fun h => by rw [hC.out, fcode_twice hLH.out hok.out (not_once hlt h)]
            have hgood : Hid (¬ Twin l k → Once (l.take (k + 1))) := fun h => once_take hlt hrH2.out h
            clear hR1 hrH2
            by_cases t1 : Twin l k
            · have hfin : Hid (C = 3) := hbad.out t1
              have k1 := Lib.hid (htw.out true ⟨fun _ => t1, fun _ => rfl⟩)
              clear htw t1 hbad hgood
              generalize (lat l k).a = x at *
              generalize (lat l k).b = y at *
              have xd0 := cell_regrown d0
              have xd1 := cell_regrown d1
              go_wp2_with fail
              refine wp_region_quiet_below (by kernel_rfl) (by kernel_rfl) ?_
              repeat (quiet_step (exact k1.out _ _))
              refine wpQuiet_nil ?_
              intro _ hw'
              obtain ⟨⟨dq, osq⟩, hw''⟩ := hw'
              subst hw''
              have hBq := hB1.out.trans ((below_regrown _ dq osq).mono hB1.out.size)
              generalize Sort.grow (redrawn _ dq) osq = w7 at *
              clear xd0 xd1
              go_wp2_with fail
              go_ret
              exact ⟨by rw [hfin.out]; rfl, hBq⟩
            · have hnext := Lib.hid (hgood.out t1)
              have k1 := Lib.hid (htw.out false ⟨(nomatch ·), fun h => absurd h t1⟩)
              clear htw t1 hbad hgood
              generalize (lat l k).a = x at *
              generalize (lat l k).b = y at *
              have xd0 := cell_regrown d0
              have xd1 := cell_regrown d1
              go_wp2_with fail
              refine wp_region_quiet_below (by kernel_rfl) (by kernel_rfl) ?_
              repeat (quiet_step (exact k1.out _ _))
              refine wpQuiet_nil ?_
              intro _ hw'
              obtain ⟨⟨dq, osq⟩, hw''⟩ := hw'
              subst hw''
              have hBq := hB1.out.trans ((below_regrown _ dq osq).mono hB1.out.size)
              generalize Sort.grow (redrawn _ dq) osq = w7 at *
              clear xd0 xd1
              go_wp2_with fail
              go_roundw
              case rel => exact ⟨k + 1, by omega, by go_num, hnext.out, hBq⟩
              case measure => simp [intOf]; omega
          · have hkl : k = l.length := by omega
            subst hkl
            have hfin : Hid (C = 0) := by
              unfold Hid
              rw [hC.out, fcode_ok hLH.out hok.out (by have := hrH2.out; rwa [List.take_length] at this)]
            go_wp2_with fail
            go_ret
            exact ⟨by rw [hfin.out]; rfl, hB⟩
#print axioms joins_any
#print axioms check_any
end Go.Proofs.Ytieicimoolegoaa
