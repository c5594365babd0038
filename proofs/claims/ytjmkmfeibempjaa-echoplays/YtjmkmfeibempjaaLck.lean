/-
  The contracts of slices.Index and slices.Contains at links, echo.isProcess, echo.check.
-/
import Derived.Test.YtjmkmfeibempjaaRows
import Derived.Test.YtjmkmfeibempjaaLks
import Derived.Test.YtjmkmfeibempjaaRowW
import Derived.KernelRfl
import Derived.BigQuiet
import Derived.Deep.QuietTactic
import Derived.Lib.QuietBelow
namespace Go.Proofs.Ytjmkmfeibempjaa
open Go.RowKit Go.Maps
set_option linter.unusedVariables false

theorem isproc_any (x n : Int) (w : World) : Calls Try.prog 25 #[.int .i64 x, .int .i64 n] w fun e w' => e = .returned (.bool (inP n x)) ∧ w = w' := by
  by_cases h : 0 ≤ x
  · have v1 : decide (0 ≤ x) = true := decide_eq_true h
    have hd : Hid (inP n x = decide (x < n)) := by unfold Hid inP; rw [v1]; rfl
    go_enter Try.func25, Try.ntmps25
    go_wp2_with fail
    go_ret
    exact ⟨by rw [hd.out]; rfl, rfl⟩
  · have v1 : decide (0 ≤ x) = false := decide_eq_false h
    have hd : Hid (inP n x = false) := by unfold Hid inP; rw [v1]; rfl
    go_enter Try.func25, Try.ntmps25
    go_wp2_with fail
    go_ret
    exact ⟨by rw [hd.out]; rfl, rfl⟩

theorem eqL (a b c d : Int) (w : World) : (Op.equalIn 10000 38 (.agg #[.int .i64 a, .int .i64 b]) (.agg #[.int .i64 c, .int .i64 d])).run Try.prog w = .ok (a == c && b == d) w := by
  have u3 := Try.underlying3
  have a3 := Try.isAgg3
  have z3 := Try.sizeOf3
  rw [show (10000 : Nat) = 9999 + 1 from rfl, Op.equalIn]
  simp only [Sem.run_bind, run_underlying Try.underlying38, Result.andThen_ok]
  simp only [Std.Legacy.Range.forIn_eq_forIn_range', Std.Legacy.Range.size, Nat.sub_zero, Nat.add_sub_cancel, Nat.div_one, List.range'_succ, List.range'_zero, List.forIn_cons, List.forIn_nil]
  go_simp
  by_cases h1 : a = c <;> by_cases h2 : b = d <;> simp [h1, h2]

def IdxRel (l : List Lk) (x y : Int) (k : Nat) (w1 wr : World) : Prop := (∀ j, j < l.length → j < k → ¬ ((lat l j).a = x ∧ (lat l j).b = y)) ∧ Below w1.heap.size w1 wr
set_option maxHeartbeats 800000 in
theorem indexL_any (A : Option Addr) (cap : Nat) (l : List Lk) (x y : Int) (w : World) (hE : Lks w w.heap.size A l) (hl : l.length ≤ 1000) :
    Calls Try.prog 32 #[.slice A l.length cap, .agg #[.int .i64 x, .int .i64 y]] w fun e w' => ∃ k : Int, e = .returned (.int .i64 k) ∧ (0 ≤ k ↔ ∃ z ∈ l, z.a = x ∧ z.b = y) ∧ Below w.heap.size w w' := by
  have hB0 := (Below.refl w.heap.size w).alloc (Nat.le_refl _) (.cells #[.int .i64 x, .int .i64 y] 38)
  have hR0 := Row.made w 38 [.int .i64 x, .int .i64 y]
  have hBH := Lib.hid hB0
  have hEH := Lib.hid hE
  clear hE hB0
  go_enter Try.func32, Try.ntmps32
  go_wp2_with fail
  generalize hw1 : w.alloc (.cells #[.int .i64 x, .int .i64 y] 38) = w1 at *
  generalize hg : w.heap.size = g at *
  have hR1 : Row w1 g 38 [.int .i64 x, .int .i64 y] := hR0
  have hg1 : g < w1.heap.size := hR1.lt
  have hgH := Lib.hid hg
  clear hR0 hw1
  go_loopw [8] (fun v wr => ∃ k : Nat, k ≤ l.length ∧ v = .int .i64 k ∧ IdxRel l x y k w1 wr) (fun v _ => l.length - (intOf v).toNat)
  case atStart => exact ⟨0, Nat.zero_le _, rfl, fun _ _ h => absurd h (Nat.not_lt_zero _), Below.refl _ _⟩
  case round =>
    obtain ⟨k, hk, rfl, hr, hB⟩ := hrel
    have hrH := Lib.hid hr
    clear hr
    have hR := hR1.below hB hg1
    have c1 := hR.cell (i := 0) (by simp)
    have c2 := hR.cell (i := 1) (by simp)
    simp only [List.getElem_cons_zero, List.getElem_cons_succ] at c1 c2
    have hBw := Lib.hid (hBH.out.trans (hB.mono (Nat.le_of_lt hg1)))
    by_cases hlt : k < l.length
    · obtain ⟨b, off, rfl, hb, c3, c4⟩ := (hEH.out.below hBw.out).at_ hlt
      have hkI : (k : Int) < (l.length : Int) := by omega
      by_cases he : (lat l k).a = x ∧ (lat l k).b = y
      · have hf : Hid (∃ z ∈ l, z.a = x ∧ z.b = y) := ⟨_, lat_mem l hlt, he⟩
        have hq : ∀ w, (Op.equalIn 10000 38 (.agg #[.int .i64 x, .int .i64 y]) (.agg #[.int .i64 (lat l k).a, .int .i64 (lat l k).b])).run Try.prog w = .ok true w := fun w => by rw [eqL, he.1, he.2]; simp
        clear he hrH
        generalize (lat l k).a = u at *
        generalize (lat l k).b = v at *
        go_wp2_with fail
        go_quiet (fail)
        go_wp2_with fail
        go_ret
        exact ⟨k, rfl, ⟨fun _ => hf.out, fun _ => by omega⟩, by rw [hgH.out]; exact below_drewN hBw.out _⟩
      · have hn : Hid (∀ j, j < l.length → j < k + 1 → ¬ ((lat l j).a = x ∧ (lat l j).b = y)) := fun j h hj => by
          by_cases e : j = k
          · subst e; exact he
          · exact hrH.out j h (by omega)
        have hq : ∀ w, (Op.equalIn 10000 38 (.agg #[.int .i64 x, .int .i64 y]) (.agg #[.int .i64 (lat l k).a, .int .i64 (lat l k).b])).run Try.prog w = .ok false w := fun w => by
          rw [eqL]
          have : (x == (lat l k).a && y == (lat l k).b) = false := by
            rw [← Bool.not_eq_true]; intro h; simp at h; exact he ⟨h.1.symm, h.2.symm⟩
          rw [this]
        clear he hrH
        generalize (lat l k).a = u at *
        generalize (lat l k).b = v at *
        go_wp2_with fail
        go_quiet (fail)
        go_wp2_with fail
        go_roundw
        case rel => exact ⟨k + 1, by omega, by go_num, hn.out, below_drewN hB _⟩
        case measure => simp [intOf]; omega
    · have hf : Hid (¬ ∃ z ∈ l, z.a = x ∧ z.b = y) := by
        unfold Hid
        rintro ⟨z, hz, e⟩
        obtain ⟨j, hj, rfl⟩ := List.getElem_of_mem hz
        rw [← lat_get l hj] at e
        exact hrH.out j hj (by omega) e
      go_wp2_with fail
      go_ret
      exact ⟨-1, rfl, ⟨fun h => absurd h (by omega), fun h => absurd h hf.out⟩, by rw [hgH.out]; exact hBw.out⟩

set_option maxHeartbeats 400000 in
theorem containsL_any (A : Option Addr) (cap : Nat) (l : List Lk) (x y : Int) (w : World) (hE : Lks w w.heap.size A l) (hl : l.length ≤ 1000) (C : Bool) (hC : C = true ↔ ∃ z ∈ l, z.a = x ∧ z.b = y) :
    Calls Try.prog 26 #[.slice A l.length cap, .agg #[.int .i64 x, .int .i64 y]] w fun e w' => e = .returned (.bool C) ∧ Below w.heap.size w w' := by
  have hB0 := Lib.hid ((Below.refl w.heap.size w).alloc (Nat.le_refl _) (.cells #[.int .i64 x, .int .i64 y] 38))
  have hR0 := Row.made w 38 [.int .i64 x, .int .i64 y]
  have c1 := hR0.cell (i := 0) (by simp)
  have c2 := hR0.cell (i := 1) (by simp)
  simp only [List.getElem_cons_zero, List.getElem_cons_succ] at c1 c2
  have hcall := Lib.hid (indexL_any A cap l x y (w.alloc (.cells #[.int .i64 x, .int .i64 y] 38)) ((hE.below hB0.out).more (by simp)) hl)
  have hCH := Lib.hid hC
  clear hC hE hR0
  go_enter Try.func26, Try.ntmps26
  go_wp2_with fail
  refine hcall.out.mono ?_
  rintro e w1 ⟨k, rfl, hk, hB1⟩
  have hkC : Hid (C = decide (0 ≤ k)) := by
    unfold Hid
    rw [Bool.eq_iff_iff, hCH.out, ← hk]
    simp
  have hB2 := Lib.hid (hB0.out.trans (hB1.mono (by simp)))
  clear hk hCH hcall
  go_wp2_with fail
  go_ret
  exact ⟨by rw [hkC.out]; rfl, hB2.out⟩
#print axioms containsL_any
#print axioms indexL_any

def EckRel (n : Int) (l : List Lk) (w : World) (k : Nat) (wr : World) : Prop := LOk n (l.take k) ∧ Below w.heap.size w wr
def EckRel2 (l : List Lk) (w : World) (k : Nat) (wr : World) : Prop := Once (l.take k) ∧ Below w.heap.size w wr
theorem eck_alloc {w wr : World} (h : Below w.heap.size w wr) (a b : Int) : Below w.heap.size w (wr.alloc (.cells #[.int .i64 a, .int .i64 b] 38)) := h.alloc h.size _

set_option maxHeartbeats 3200000 in
theorem check_any (A : Option Addr) (cap : Nat) (l : List Lk) (A2 : Option Addr) (m cap2 : Nat) (n s : Int) (w : World) (hE : Lks w w.heap.size A l) (hc : l.length ≤ cap) (hl : l.length ≤ 17592186044416) (hl2 : m ≤ 17592186044416) :
    Calls Try.prog 17 #[.int .i64 n, .slice A l.length cap, .int .i64 s, .slice A2 m cap2] w fun e w' => e = .returned (.int .i64 (ecode n l s m)) ∧ Below w.heap.size w w' := by
  obtain ⟨C, hC⟩ : ∃ C, Hid (C = ecode n l s m) := ⟨_, rfl⟩
  rw [← hC.out]
  have hEH := Lib.hid hE
  clear hE
  by_cases hL : LargeL n l ∨ 60 < m
  · have h1 : Hid (C = 1) := by unfold Hid; rw [hC.out, ecode_large hL]
    by_cases c1 : n < 1
    · have v1 : decide (n < 1) = true := decide_eq_true c1
      clear hL
      go_enter Try.func17, Try.ntmps17
      go_wp2_with fail
      go_ret
      exact ⟨by rw [h1.out]; rfl, Below.refl _ _⟩
    by_cases c2 : 6 < n
    · have v1 : decide (n < 1) = false := decide_eq_false c1
      have v2 : decide (n > 6) = true := decide_eq_true c2
      have v2' : decide (6 < n) = true := decide_eq_true c2
      clear hL
      go_enter Try.func17, Try.ntmps17
      go_wp2_with fail
      go_ret
      exact ⟨by rw [h1.out]; rfl, Below.refl _ _⟩
    by_cases c3 : 15 < (l.length : Int)
    · have v1 : decide (n < 1) = false := decide_eq_false c1
      have v2 : decide (n > 6) = false := decide_eq_false c2
      have v2' : decide (6 < n) = false := decide_eq_false c2
      have v3 : decide ((l.length : Int) > 15) = true := decide_eq_true c3
      have v3' : decide (15 < (l.length : Int)) = true := decide_eq_true c3
      clear hL
      go_enter Try.func17, Try.ntmps17
      go_wp2_with fail
      go_ret
      exact ⟨by rw [h1.out]; rfl, Below.refl _ _⟩
    · have c4 : 60 < (m : Int) := by
        rcases hL with (h | h | h) | h
        · exact absurd h c1
        · exact absurd h c2
        · omega
        · omega
      have v1 : decide (n < 1) = false := decide_eq_false c1
      have v2 : decide (n > 6) = false := decide_eq_false c2
      have v2' : decide (6 < n) = false := decide_eq_false c2
      have v3 : decide ((l.length : Int) > 15) = false := decide_eq_false c3
      have v3' : decide (15 < (l.length : Int)) = false := decide_eq_false c3
      have v4 : decide ((m : Int) > 60) = true := decide_eq_true c4
      have v4' : decide (60 < (m : Int)) = true := decide_eq_true c4
      clear hL
      go_enter Try.func17, Try.ntmps17
      go_wp2_with fail
      go_ret
      exact ⟨by rw [h1.out]; rfl, Below.refl _ _⟩
  · have hLH := Lib.hid hL
    have hn1 : ¬ n < 1 := fun h => hL (.inl (.inl h))
    have hn6 : ¬ 6 < n := fun h => hL (.inl (.inr (.inl h)))
    have hl15 : ¬ 15 < l.length := fun h => hL (.inl (.inr (.inr h)))
    have hm60 : ¬ 60 < m := fun h => hL (.inr h)
    have v1 : decide (n < 1) = false := decide_eq_false hn1
    have v2 : decide (n > 6) = false := decide_eq_false hn6
    have v2' : decide (6 < n) = false := decide_eq_false hn6
    have v3 : decide ((l.length : Int) > 15) = false := decide_eq_false (by omega)
    have v3' : decide (15 < (l.length : Int)) = false := decide_eq_false (by omega)
    have v4 : decide ((m : Int) > 60) = false := decide_eq_false (by omega)
    have v4' : decide (60 < (m : Int)) = false := decide_eq_false (by omega)
    clear hL
    go_enter Try.func17, Try.ntmps17
    go_wp2_with fail
    go_loopw [32] (fun v wr => ∃ k : Nat, k ≤ l.length ∧ v = .int .i64 k ∧ EckRel n l w k wr) (fun v _ => l.length - (intOf v).toNat)
    case atStart => exact ⟨0, Nat.zero_le _, rfl, by simpa using LOk.nil n, Below.refl _ _⟩
    case round =>
      obtain ⟨k, hk, rfl, hr, hB⟩ := hrel
      have hrH := Lib.hid hr
      clear hr
      by_cases hlt : k < l.length
      · obtain ⟨b, off, rfl, hb, c3, c4⟩ := (hEH.out.below hB).at_ hlt
        have hkI : (k : Int) < (l.length : Int) := by omega
        have hB1 := Lib.hid (eck_alloc hB (lat l k).a (lat l k).b)
        have hR1 := Row.made wr 38 [.int .i64 (lat l k).a, .int .i64 (lat l k).b]
        have d0 := hR1.cell (i := 0) (by simp)
        have d1 := hR1.cell (i := 1) (by simp)
        simp only [List.getElem_cons_zero, List.getElem_cons_succ] at d0 d1
        have hbad : Hid (okL n (lat l k) = false → C = 2) := fun h => by rw [hC.out, ecode_bad hLH.out (not_LOk hlt h)]
        have hgood : Hid (okL n (lat l k) = true → LOk n (l.take (k + 1))) := fun h => hrH.out.succ hlt h
        have hokd : Hid (okL n (lat l k) = (inP n (lat l k).a && inP n (lat l k).b && !decide ((lat l k).a = (lat l k).b))) := rfl
        generalize okL n (lat l k) = O at *
        have ca := fun w => isproc_any (lat l k).a n w
        have cb := fun w => isproc_any (lat l k).b n w
        have hwe : ((lat l k).a == (lat l k).b) = decide ((lat l k).a = (lat l k).b) := by rw [Bool.eq_iff_iff]; simp
        clear hR1 hrH
        generalize (lat l k).a = x at *
        generalize (lat l k).b = y at *
        cases hpa : inP n x with
        | false =>
          rw [hpa] at ca
          have hfin : Hid (C = 2) := hbad.out (by rw [hokd.out, hpa]; rfl)
          have caH := Lib.hid ca
          clear ca cb hpa hbad hgood hokd
          go_wp2_with fail
          refine (caH.out _).mono ?_
          rintro e w1 ⟨rfl, rfl⟩
          go_wp2_with fail
          go_ret
          exact ⟨by rw [hfin.out]; rfl, hB1.out⟩
        | true =>
          rw [hpa] at ca
          cases hpb : inP n y with
          | false =>
            rw [hpb] at cb
            have hfin : Hid (C = 2) := hbad.out (by rw [hokd.out, hpa, hpb]; rfl)
            have caH := Lib.hid ca
            have cbH := Lib.hid cb
            clear ca cb hpa hpb hbad hgood hokd
            go_wp2_with fail
            refine (caH.out _).mono ?_
            rintro e w1 ⟨rfl, rfl⟩
            go_wp2_with fail
            refine (cbH.out _).mono ?_
            rintro e w1 ⟨rfl, rfl⟩
            go_wp2_with fail
            go_ret
            exact ⟨by rw [hfin.out]; rfl, hB1.out⟩
          | true =>
            rw [hpb] at cb
            by_cases hxy : x = y
            · have v5 : (x == y) = true := by rw [hwe]; exact decide_eq_true hxy
              have hfin : Hid (C = 2) := hbad.out (by rw [hokd.out, hpa, hpb, decide_eq_true hxy]; rfl)
              have caH := Lib.hid ca
              have cbH := Lib.hid cb
              clear ca cb hpa hpb hbad hgood hokd hwe hxy
              go_wp2_with fail
              refine (caH.out _).mono ?_
              rintro e w1 ⟨rfl, rfl⟩
              go_wp2_with fail
              refine (cbH.out _).mono ?_
              rintro e w1 ⟨rfl, rfl⟩
              go_wp2_with fail
              go_ret
              exact ⟨by rw [hfin.out]; rfl, hB1.out⟩
            · have v5 : (x == y) = false := by rw [hwe]; exact decide_eq_false hxy
              have hnext : Hid (LOk n (l.take (k + 1))) := hgood.out (by rw [hokd.out, hpa, hpb, decide_eq_false hxy]; rfl)
              have caH := Lib.hid ca
              have cbH := Lib.hid cb
              clear ca cb hpa hpb hbad hgood hokd hwe hxy
              go_wp2_with fail
              refine (caH.out _).mono ?_
              rintro e w1 ⟨rfl, rfl⟩
              go_wp2_with fail
              refine (cbH.out _).mono ?_
              rintro e w1 ⟨rfl, rfl⟩
              go_wp2_with fail
              go_roundw
              case rel => exact ⟨k + 1, by omega, by go_num, hnext.out, hB1.out⟩
              case measure => simp [intOf]; omega
      · have hkl : k = l.length := by omega
        subst hkl
        have hok : Hid (LOk n l) := by have := hrH.out; rwa [List.take_length] at this
        have cs := fun w => isproc_any s n w
        cases hps : inP n s with
        | false =>
          rw [hps] at cs
          have hfin : Hid (C = 2) := by unfold Hid; rw [hC.out, ecode_start hLH.out hok.out hps]
          have csH := Lib.hid cs
          clear cs hps
          go_wp2_with fail
          refine (csH.out _).mono ?_
          rintro e w1 ⟨rfl, rfl⟩
          go_wp2_with fail
          go_ret
          exact ⟨by rw [hfin.out]; rfl, hB⟩
        | true =>
          rw [hps] at cs
          have csH := Lib.hid cs
          have hpsH := Lib.hid hps
          clear cs hps
          go_wp2_with fail
          refine (csH.out _).mono ?_
          rintro e w1 ⟨rfl, rfl⟩
          go_wp2_with fail
          go_loopw [62] (fun v wr => ∃ k : Nat, k ≤ l.length ∧ v = .int .i64 k ∧ EckRel2 l w k wr) (fun v _ => l.length - (intOf v).toNat)
          case atStart => exact ⟨0, Nat.zero_le _, rfl, by unfold Once; simp, hB⟩
          case round =>
            clear hB
            obtain ⟨k, hk, rfl, hr, hB⟩ := hrel
            rename World => wr
            have hrH2 := Lib.hid hr
            clear hr
            by_cases hlt : k < l.length
            · obtain ⟨b, off, rfl, hb, c3, c4⟩ := (hEH.out.below hB).at_ hlt
              have hkI : (k : Int) < (l.length : Int) := by omega
              have hkc : k ≤ cap := by omega
              have hkl : k ≤ l.length := by omega
              have hB1 := eck_alloc hB (lat l k).a (lat l k).b
              have hB2 := Lib.hid (eck_alloc hB1 (lat l k).b (lat l k).a)
              have hR1 := Row.made wr 38 [.int .i64 (lat l k).a, .int .i64 (lat l k).b]
              have d0 := hR1.cell (i := 0) (by simp)
              have d1 := hR1.cell (i := 1) (by simp)
              simp only [List.getElem_cons_zero, List.getElem_cons_succ] at d0 d1
              have hR2 := Row.made (wr.alloc (.cells #[.int .i64 (lat l k).a, .int .i64 (lat l k).b] 38)) 38 [.int .i64 (lat l k).b, .int .i64 (lat l k).a]
              have e0 := hR2.cell (i := 0) (by simp)
              have e1 := hR2.cell (i := 1) (by simp)
              simp only [List.getElem_cons_zero, List.getElem_cons_succ] at e0 e1
              rw [show (wr.alloc (.cells #[.int .i64 (lat l k).a, .int .i64 (lat l k).b] 38)).heap.size = wr.heap.size + 1 by simp] at e0 e1
              have f0 := (hR1.alloc (.cells #[.int .i64 (lat l k).b, .int .i64 (lat l k).a] 38)).cell (i := 0) (by simp)
              have f1 := (hR1.alloc (.cells #[.int .i64 (lat l k).b, .int .i64 (lat l k).a] 38)).cell (i := 1) (by simp)
              simp only [List.getElem_cons_zero, List.getElem_cons_succ] at f0 f1
              have htl : (l.take k).length = k := by simp; omega
              have htw := twin_iff l k hkl
              have hbad : Hid (Twin l k → C = 3) := fun h => by rw [hC.out, ecode_twice hLH.out hok.out hpsH.out (not_once hlt h)]
              have hgood : Hid (¬ Twin l k → Once (l.take (k + 1))) := fun h => once_take hlt hrH2.out h
              have key : ∀ (p q : Int) (c : Bool), (c = true ↔ ∃ z ∈ l.take k, z.a = p ∧ z.b = q) → ∀ d os, Calls Try.prog 26 #[.slice (some ⟨b, off, none⟩) k cap, .agg #[.int .i64 p, .int .i64 q]] (Sort.grow (redrawn ((wr.alloc (.cells #[.int .i64 (lat l k).a, .int .i64 (lat l k).b] 38)).alloc (.cells #[.int .i64 (lat l k).b, .int .i64 (lat l k).a] 38)) d) os) fun e w'' => e = .returned (.bool c) ∧ ∃ p : Regrown, w'' = Sort.grow (redrawn ((wr.alloc (.cells #[.int .i64 (lat l k).a, .int .i64 (lat l k).b] 38)).alloc (.cells #[.int .i64 (lat l k).b, .int .i64 (lat l k).a] 38)) p.d) p.os := fun p q c hcc d os => Calls.regrown_of (by
                have hB3 := hB2.out.trans ((below_regrown _ d os).mono hB2.out.size)
                have := containsL_any (some ⟨b, off, none⟩) cap (l.take k) p q _ (((hEH.out.below hB3).take k).more hB3.size) (by omega) c hcc
                rw [htl] at this
                exact this)
              have keyH := Lib.hid key
              clear key hR1 hR2 hB1 hrH2
              by_cases t1 : ∃ z ∈ l.take k, z.a = (lat l k).a ∧ z.b = (lat l k).b
              · have hfin : Hid (C = 3) := hbad.out (htw.2 (.inl t1))
                have k1 := Lib.hid (keyH.out _ _ true ⟨fun _ => t1, fun _ => rfl⟩)
                clear keyH t1 hbad hgood htw
                generalize (lat l k).a = x at *
                generalize (lat l k).b = y at *
                have xf0 := cell_regrown f0
                have xf1 := cell_regrown f1
                have xe0 := cell_regrown e0
                have xe1 := cell_regrown e1
                go_wp2_with fail
                refine wp_region_quiet_below (by kernel_rfl) (by kernel_rfl) ?_
                repeat (quiet_step (exact k1.out _ _))
                refine wpQuiet_nil ?_
                intro _ hw'
                obtain ⟨⟨dq, osq⟩, hw''⟩ := hw'
                subst hw''
                have hBq := hB2.out.trans ((below_regrown _ dq osq).mono hB2.out.size)
                generalize Sort.grow (redrawn _ dq) osq = w7 at *
                clear xf0 xf1 xe0 xe1
                go_wp2_with fail
                go_ret
                exact ⟨by rw [hfin.out]; rfl, hBq⟩
              · have k1 := Lib.hid (keyH.out _ _ false ⟨(nomatch ·), fun h => absurd h t1⟩)
                by_cases t2 : ∃ z ∈ l.take k, z.a = (lat l k).b ∧ z.b = (lat l k).a
                · have hfin : Hid (C = 3) := hbad.out (htw.2 (.inr t2))
                  have k2 := Lib.hid (keyH.out _ _ true ⟨fun _ => t2, fun _ => rfl⟩)
                  clear keyH t1 t2 hbad hgood htw
                  generalize (lat l k).a = x at *
                  generalize (lat l k).b = y at *
                  have xf0 := cell_regrown f0
                  have xf1 := cell_regrown f1
                  have xe0 := cell_regrown e0
                  have xe1 := cell_regrown e1
                  go_wp2_with fail
                  refine wp_region_quiet_below (by kernel_rfl) (by kernel_rfl) ?_
                  repeat (quiet_step (first | exact k1.out _ _ | exact k2.out _ _))
                  refine wpQuiet_nil ?_
                  intro _ hw'
                  obtain ⟨⟨dq, osq⟩, hw''⟩ := hw'
                  subst hw''
                  have hBq := hB2.out.trans ((below_regrown _ dq osq).mono hB2.out.size)
                  generalize Sort.grow (redrawn _ dq) osq = w7 at *
                  clear xf0 xf1 xe0 xe1
                  go_wp2_with fail
                  go_ret
                  exact ⟨by rw [hfin.out]; rfl, hBq⟩
                · have hnext : Hid (Once (l.take (k + 1))) := hgood.out fun h => by
                    rcases htw.1 h with h | h
                    · exact t1 h
                    · exact t2 h
                  have k2 := Lib.hid (keyH.out _ _ false ⟨(nomatch ·), fun h => absurd h t2⟩)
                  clear keyH t1 t2 hbad hgood htw
                  generalize (lat l k).a = x at *
                  generalize (lat l k).b = y at *
                  have xf0 := cell_regrown f0
                  have xf1 := cell_regrown f1
                  have xe0 := cell_regrown e0
                  have xe1 := cell_regrown e1
                  go_wp2_with fail
                  refine wp_region_quiet_below (by kernel_rfl) (by kernel_rfl) ?_
                  repeat (quiet_step (first | exact k1.out _ _ | exact k2.out _ _))
                  refine wpQuiet_nil ?_
                  intro _ hw'
                  obtain ⟨⟨dq, osq⟩, hw''⟩ := hw'
                  subst hw''
                  have hBq := hB2.out.trans ((below_regrown _ dq osq).mono hB2.out.size)
                  generalize Sort.grow (redrawn _ dq) osq = w7 at *
                  clear xf0 xf1 xe0 xe1
                  go_wp2_with fail
                  go_roundw
                  case rel => exact ⟨k + 1, by omega, by go_num, hnext.out, hBq⟩
                  case measure => simp [intOf]; omega
            · have hkl : k = l.length := by omega
              subst hkl
              have hfin : Hid (C = 0) := by
                unfold Hid
                rw [hC.out, ecode_ok hLH.out hok.out hpsH.out (by have := hrH2.out; rwa [List.take_length] at this)]
              go_wp2_with fail
              go_ret
              exact ⟨by rw [hfin.out]; rfl, hB⟩
#print axioms check_any
end Go.Proofs.Ytjmkmfeibempjaa
