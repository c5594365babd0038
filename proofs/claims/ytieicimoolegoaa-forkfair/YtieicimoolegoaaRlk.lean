/-
  The contracts of beaconryref.LinksCheck, beaconryref.Twice, beaconrykeep.linked.
-/
import Derived.Test.YtieicimoolegoaaRows
import Derived.Test.YtieicimoolegoaaLks
import Derived.Test.YtieicimoolegoaaRowW
import Derived.Test.YtieicimoolegoaaIns
import Derived.KernelRfl
import Derived.BigQuiet
import Derived.Deep.QuietTactic
namespace Go.Proofs.Ytieicimoolegoaa
open Go.RowKit Go.Maps
set_option linter.unusedVariables false

def RlkRel (n : Int) (l : List Lk) (w : World) (k : Nat) (wr : World) : Prop := LOk n (l.take k) ∧ Below w.heap.size w wr
theorem rlk_alloc {w wr : World} (h : Below w.heap.size w wr) (a b : Int) : Below w.heap.size w (wr.alloc (.cells #[.int .i64 a, .int .i64 b] 43)) := h.alloc h.size _

set_option maxHeartbeats 3200000 in
theorem linkscheck_any (A : Option Addr) (cap : Nat) (l : List Lk) (n : Int) (w : World) (hE : Lks w w.heap.size A l) (hl : l.length ≤ 17592186044416) :
    Calls Try.prog 26 #[.int .i64 n, .slice A l.length cap] w fun e w' => e = .returned (.int .i64 (lcode n l)) ∧ Below w.heap.size w w' := by
  obtain ⟨C, hC⟩ : ∃ C, Hid (C = lcode n l) := ⟨_, rfl⟩
  rw [← hC.out]
  have hEH := Lib.hid hE
  clear hE
  by_cases hL : LargeL n l
  · have h1 : Hid (C = 1) := by unfold Hid; rw [hC.out, lcode_large hL]
    by_cases c1 : n < 1
    · have v1 : decide (n < 1) = true := decide_eq_true c1
      clear hL
      go_enter Try.func26, Try.ntmps26
      go_wp2_with fail
      go_ret
      exact ⟨by rw [h1.out]; rfl, Below.refl _ _⟩
    by_cases c2 : 6 < n
    · have v1 : decide (n < 1) = false := decide_eq_false c1
      have v2 : decide (n > 6) = true := decide_eq_true c2
      have v2' : decide (6 < n) = true := decide_eq_true c2
      clear hL
      go_enter Try.func26, Try.ntmps26
      go_wp2_with fail
      go_ret
      exact ⟨by rw [h1.out]; rfl, Below.refl _ _⟩
    · have c3 : 15 < (l.length : Int) := by
        rcases hL with h | h | h
        · exact absurd h c1
        · exact absurd h c2
        · omega
      have v1 : decide (n < 1) = false := decide_eq_false c1
      have v2 : decide (n > 6) = false := decide_eq_false c2
      have v2' : decide (6 < n) = false := decide_eq_false c2
      have v3 : decide ((l.length : Int) > 15) = true := decide_eq_true c3
      have v3' : decide (15 < (l.length : Int)) = true := decide_eq_true c3
      clear hL
      go_enter Try.func26, Try.ntmps26
      go_wp2_with fail
      go_ret
      exact ⟨by rw [h1.out]; rfl, Below.refl _ _⟩
  · have hLH := Lib.hid hL
    have hn1 : ¬ n < 1 := fun h => hL (.inl h)
    have hn6 : ¬ 6 < n := fun h => hL (.inr (.inl h))
    have hl15 : ¬ 15 < l.length := fun h => hL (.inr (.inr h))
    have v1 : decide (n < 1) = false := decide_eq_false hn1
    have v2 : decide (n > 6) = false := decide_eq_false hn6
    have v2' : decide (6 < n) = false := decide_eq_false hn6
    have v3 : decide ((l.length : Int) > 15) = false := decide_eq_false (by omega)
    have v3' : decide (15 < (l.length : Int)) = false := decide_eq_false (by omega)
    clear hL
    go_enter Try.func26, Try.ntmps26
    go_wp2_with fail
    go_loopw [20] (fun v wr => ∃ k : Nat, k ≤ l.length ∧ v = .int .i64 k ∧ RlkRel n l w k wr) (fun v _ => l.length - (intOf v).toNat)
    case atStart => exact ⟨0, Nat.zero_le _, rfl, by simpa using LOk.nil n, Below.refl _ _⟩
    case round =>
      obtain ⟨k, hk, rfl, hr, hB⟩ := hrel
      have hrH := Lib.hid hr
      clear hr
      by_cases hlt : k < l.length
      · obtain ⟨b, off, rfl, hb, c3, c4⟩ := (hEH.out.below hB).at_ hlt
        have hkI : (k : Int) < (l.length : Int) := by omega
        have hB1 := Lib.hid (rlk_alloc hB (lat l k).a (lat l k).b)
        have hR1 := Row.made wr 43 [.int .i64 (lat l k).a, .int .i64 (lat l k).b]
        have d0 := hR1.cell (i := 0) (by simp)
        have d1 := hR1.cell (i := 1) (by simp)
        simp only [List.getElem_cons_zero, List.getElem_cons_succ] at d0 d1
        have hbad : Hid (okL n (lat l k) = false → C = 2) := fun h => by rw [hC.out, lcode_bad hLH.out (not_LOk hlt h)]
        have hgood : Hid (okL n (lat l k) = true → LOk n (l.take (k + 1))) := fun h => hrH.out.succ hlt h
        have hokd : Hid (okL n (lat l k) = (inP n (lat l k).a && inP n (lat l k).b && !decide ((lat l k).a = (lat l k).b))) := rfl
        generalize okL n (lat l k) = O at *
        clear hR1 hrH
        generalize (lat l k).a = x at *
        generalize (lat l k).b = y at *
        by_cases p1 : x < 0
        · have v5 : decide (x < 0) = true := decide_eq_true p1
          have hfin : Hid (C = 2) := hbad.out (by rw [hokd.out]; unfold inP; rw [decide_eq_false (show ¬ 0 ≤ x by omega)]; rfl)
          clear hbad hgood hokd p1
          go_wp2_with fail
          go_ret
          exact ⟨by rw [hfin.out]; rfl, hB1.out⟩
        have v5 : decide (x < 0) = false := decide_eq_false p1
        by_cases p2 : n ≤ x
        · have v6 : decide (x ≥ n) = true := decide_eq_true p2
          have v6' : decide (n ≤ x) = true := decide_eq_true p2
          have hfin : Hid (C = 2) := hbad.out (by rw [hokd.out]; unfold inP; rw [decide_eq_false (show ¬ x < n by omega)]; simp)
          clear hbad hgood hokd p1 p2
          go_wp2_with fail
          go_ret
          exact ⟨by rw [hfin.out]; rfl, hB1.out⟩
        have v6 : decide (x ≥ n) = false := decide_eq_false p2
        have v6' : decide (n ≤ x) = false := decide_eq_false p2
        by_cases p3 : y < 0
        · have v7 : decide (y < 0) = true := decide_eq_true p3
          have hfin : Hid (C = 2) := hbad.out (by rw [hokd.out]; unfold inP; rw [decide_eq_false (show ¬ 0 ≤ y by omega)]; simp)
          clear hbad hgood hokd p1 p2 p3
          go_wp2_with fail
          go_ret
          exact ⟨by rw [hfin.out]; rfl, hB1.out⟩
        have v7 : decide (y < 0) = false := decide_eq_false p3
        by_cases p4 : n ≤ y
        · have v8 : decide (y ≥ n) = true := decide_eq_true p4
          have v8' : decide (n ≤ y) = true := decide_eq_true p4
          have hfin : Hid (C = 2) := hbad.out (by rw [hokd.out]; unfold inP; rw [decide_eq_false (show ¬ y < n by omega)]; simp)
          clear hbad hgood hokd p1 p2 p3 p4
          go_wp2_with fail
          go_ret
          exact ⟨by rw [hfin.out]; rfl, hB1.out⟩
        have v8 : decide (y ≥ n) = false := decide_eq_false p4
        have v8' : decide (n ≤ y) = false := decide_eq_false p4
        by_cases hxy : x = y
        · have v9 : (x == y) = true := by simp [hxy]
          have hfin : Hid (C = 2) := hbad.out (by rw [hokd.out, decide_eq_true hxy]; simp)
          clear hbad hgood hokd p1 p2 p3 p4 hxy
          go_wp2_with fail
          go_ret
          exact ⟨by rw [hfin.out]; rfl, hB1.out⟩
        · have v9 : (x == y) = false := by simp [hxy]
          have hnext : Hid (LOk n (l.take (k + 1))) := hgood.out (by
            rw [hokd.out, decide_eq_false hxy]; unfold inP
            rw [decide_eq_true (show 0 ≤ x by omega), decide_eq_true (show x < n by omega), decide_eq_true (show 0 ≤ y by omega), decide_eq_true (show y < n by omega)]; rfl)
          clear hbad hgood hokd p1 p2 p3 p4 hxy
          go_wp2_with fail
          go_roundw
          case rel => exact ⟨k + 1, by omega, by go_num, hnext.out, hB1.out⟩
          case measure => simp [intOf]; omega
      · have hkl : k = l.length := by omega
        subst hkl
        have hfin : Hid (C = 0) := by unfold Hid; rw [hC.out, lcode_ok hLH.out (by have := hrH.out; rwa [List.take_length] at this)]
        go_wp2_with fail
        go_ret
        exact ⟨by rw [hfin.out]; rfl, hB⟩

def TwRel (l : List Lk) (w : World) (k : Nat) (wr : World) : Prop := Once (l.take k) ∧ Below w.heap.size w wr
def TwIn (l : List Lk) (w : World) (p k : Nat) (x y : Int) (m : Nat) (wr : World) : Prop := (∀ j, j < m → ¬ SameL (lat l k) (lat l j)) ∧ Below w.heap.size w wr ∧ Row wr p 43 [.int .i64 x, .int .i64 y]

set_option maxHeartbeats 3200000 in
theorem twice_any (A : Option Addr) (cap : Nat) (l : List Lk) (w : World) (hE : Lks w w.heap.size A l) (hc : l.length ≤ cap) (hl : l.length ≤ 17592186044416) (C : Bool) (hC0 : C = true ↔ ¬ Once l) :
    Calls Try.prog 27 #[.slice A l.length cap] w fun e w' => e = .returned (.bool C) ∧ Below w.heap.size w w' := by
  have hC := Lib.hid hC0
  have hEH := Lib.hid hE
  clear hE hC0
  go_enter Try.func27, Try.ntmps27
  go_wp2_with fail
  go_loopw [9] (fun v wr => ∃ k : Nat, k ≤ l.length ∧ v = .int .i64 k ∧ TwRel l w k wr) (fun v _ => l.length - (intOf v).toNat)
  case atStart => exact ⟨0, Nat.zero_le _, rfl, by unfold Once; simp, Below.refl _ _⟩
  case round =>
    obtain ⟨k, hk, rfl, hr, hB⟩ := hrel
    have hrH := Lib.hid hr
    clear hr
    rename World => w1
    by_cases hlt : k < l.length
    · obtain ⟨b, off, rfl, hb, c3, c4⟩ := (hEH.out.below hB).at_ hlt
      have hkI : (k : Int) < (l.length : Int) := by omega
      have hkc : k ≤ cap := by omega
      have hkc2 : (k : Int) ≤ (cap : Int) := by omega
      have hB1 := Lib.hid (rlk_alloc hB (lat l k).a (lat l k).b)
      have hR1 := Lib.hid (Row.made w1 43 [.int .i64 (lat l k).a, .int .i64 (lat l k).b])
      have hxy : Hid (∀ j, SameL (lat l k) (lat l j) ↔ ((lat l k).a = (lat l j).a ∧ (lat l k).b = (lat l j).b) ∨ ((lat l k).a = (lat l j).b ∧ (lat l k).b = (lat l j).a)) := fun _ => Iff.rfl
      have hcells := Lib.hid (fun wr (hBr : Below w.heap.size w wr) j (hj : j < l.length) => ((hEH.out.below hBr).cells (by omega)))
      have hbe := Lib.hid (fun wr (hBr : Below w.heap.size w wr) j (hj : j < l.length) => ((hEH.out.below hBr).at_ hj))
      clear hcells
      generalize hx : (lat l k).a = x at *
      generalize hy : (lat l k).b = y at *
      have hxH := Lib.hid hx
      have hyH := Lib.hid hy
      clear hx hy hB
      go_wp2_with fail
      go_loopw [18] (fun v wr => ∃ m : Nat, m ≤ k ∧ v = .int .i64 m ∧ TwIn l w w1.heap.size k x y m wr) (fun v _ => l.length - (intOf v).toNat)
      case atStart => exact ⟨0, Nat.zero_le _, rfl, fun j hj => by omega, hB1.out, hR1.out⟩
      case round =>
        clear hR1 hB1
        obtain ⟨m, hm, rfl, hq, hB2, hRr⟩ := hrel
        rename World => wr
        have hqH := Lib.hid hq
        clear hq
        by_cases hmk : m < k
        · have hmI : (m : Int) < (k : Int) := by omega
          have hmI2 : (m : Int) < (l.length : Int) := by omega
          obtain ⟨b', off', hbb, hb', e3, e4⟩ := hbe.out wr hB2 m (by omega)
          injection hbb with hbb
          injection hbb with hbb1 hbb2
          subst hbb1 hbb2
          have hB3 := Lib.hid (rlk_alloc hB2 (lat l m).a (lat l m).b)
          have hR2 := Row.made wr 43 [.int .i64 (lat l m).a, .int .i64 (lat l m).b]
          have d0 := hR2.cell (i := 0) (by simp)
          have d1 := hR2.cell (i := 1) (by simp)
          simp only [List.getElem_cons_zero, List.getElem_cons_succ] at d0 d1
          have hR3 := hRr.alloc (.cells #[.int .i64 (lat l m).a, .int .i64 (lat l m).b] 43)
          have f0 := hR3.cell (i := 0) (by simp)
          have f1 := hR3.cell (i := 1) (by simp)
          simp only [List.getElem_cons_zero, List.getElem_cons_succ] at f0 f1
          have hR3H := Lib.hid hR3
          have hsame := hxy.out m
          have hbad : Hid (SameL (lat l k) (lat l m) → C = true) := fun h => hC.out.2 (not_once hlt ⟨m, hmk, h⟩)
          have hgood : Hid (¬ SameL (lat l k) (lat l m) → ∀ j, j < m + 1 → ¬ SameL (lat l k) (lat l j)) := fun h j hj => by
            by_cases e : j = m
            · rw [e]; exact h
            · exact hqH.out j (by omega)
          generalize SameL (lat l k) (lat l m) = SM at *
          clear hqH hR2 hRr hR3 hB2
          generalize (lat l m).a = u at *
          generalize (lat l m).b = v at *
          by_cases p1 : x = u
          · have v1 : (x == u) = true := by simp [p1]
            by_cases p2 : y = v
            · have v2 : (y == v) = true := by simp [p2]
              have hfin : Hid (C = true) := hbad.out (hsame.2 (.inl ⟨p1, p2⟩))
              clear hbad hgood hsame p1 p2
              go_wp2_with fail
              go_ret
              exact ⟨by rw [hfin.out]; rfl, hB3.out⟩
            · have v2 : (y == v) = false := by simp [p2]
              by_cases p3 : x = v
              · have v3 : (x == v) = true := by simp [p3]
                by_cases p4 : y = u
                · have v4 : (y == u) = true := by simp [p4]
                  have hfin : Hid (C = true) := hbad.out (hsame.2 (.inr ⟨p3, p4⟩))
                  clear hbad hgood hsame p1 p2 p3 p4
                  go_wp2_with fail
                  go_ret
                  exact ⟨by rw [hfin.out]; rfl, hB3.out⟩
                · have v4 : (y == u) = false := by simp [p4]
                  have hnext := Lib.hid (hgood.out (fun h => by rcases hsame.1 h with h | h; exact p2 h.2; exact p4 h.2))
                  clear hbad hgood hsame p1 p2 p3 p4
                  go_wp2_with fail
                  go_roundw
                  case rel => exact ⟨m + 1, by omega, by go_num, hnext.out, hB3.out, hR3H.out⟩
                  case measure => simp [intOf]; omega
              · have v3 : (x == v) = false := by simp [p3]
                have hnext := Lib.hid (hgood.out (fun h => by rcases hsame.1 h with h | h; exact p2 h.2; exact p3 h.1))
                clear hbad hgood hsame p1 p2 p3
                go_wp2_with fail
                go_roundw
                case rel => exact ⟨m + 1, by omega, by go_num, hnext.out, hB3.out, hR3H.out⟩
                case measure => simp [intOf]; omega
          · have v1 : (x == u) = false := by simp [p1]
            by_cases p3 : x = v
            · have v3 : (x == v) = true := by simp [p3]
              by_cases p4 : y = u
              · have v4 : (y == u) = true := by simp [p4]
                have hfin : Hid (C = true) := hbad.out (hsame.2 (.inr ⟨p3, p4⟩))
                clear hbad hgood hsame p1 p3 p4
                go_wp2_with fail
                go_ret
                exact ⟨by rw [hfin.out]; rfl, hB3.out⟩
              · have v4 : (y == u) = false := by simp [p4]
                have hnext := Lib.hid (hgood.out (fun h => by rcases hsame.1 h with h | h; exact p1 h.1; exact p4 h.2))
                clear hbad hgood hsame p1 p3 p4
                go_wp2_with fail
                go_roundw
                case rel => exact ⟨m + 1, by omega, by go_num, hnext.out, hB3.out, hR3H.out⟩
                case measure => simp [intOf]; omega
            · have v3 : (x == v) = false := by simp [p3]
              have hnext := Lib.hid (hgood.out (fun h => by rcases hsame.1 h with h | h; exact p1 h.1; exact p3 h.1))
              clear hbad hgood hsame p1 p3
              go_wp2_with fail
              go_roundw
              case rel => exact ⟨m + 1, by omega, by go_num, hnext.out, hB3.out, hR3H.out⟩
              case measure => simp [intOf]; omega
        · have hmk' : m = k := by omega
          subst hmk'
          have hn : Hid (Once (l.take (m + 1))) := once_take hlt hrH.out (fun ⟨j, hj, h⟩ => hqH.out j hj h)
          go_wp2_with fail
          go_roundw
          case rel => exact ⟨m + 1, by omega, by go_num, hn.out, hB2⟩
          case measure => simp [intOf]; omega
    · have hkl : k = l.length := by omega
      subst hkl
      have hfin : Hid (C = false) := by
        unfold Hid
        rw [← Bool.not_eq_true, hC.out]
        intro h
        exact h (by have := hrH.out; rwa [List.take_length] at this)
      go_wp2_with fail
      go_ret
      exact ⟨by rw [hfin.out]; rfl, hB⟩
#print axioms linkscheck_any
#print axioms twice_any
end Go.Proofs.Ytieicimoolegoaa
