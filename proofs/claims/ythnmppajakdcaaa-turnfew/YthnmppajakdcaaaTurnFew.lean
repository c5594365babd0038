/-
  The walk of the law TurnFew: how many messages are sent.
-/
import Derived.Test.YthnmppajakdcaaaTpl
import Derived.Test.YthnmppajakdcaaaPlq
import Derived.Test.YthnmppajakdcaaaTrf
namespace Go.Proofs.Ythnmppajakdcaaa
open Go.RowKit Go.Maps
set_option linter.unusedVariables false

set_option maxHeartbeats 1000000 in
theorem tfew_no (w : World) (n : Int) (A : Option Addr) (cap : Nat) (l : List Mv) (hl : l.length ≤ maxLen) (h0 : ¬ Plays n l.length) :
    Calls Try.prog 6 #[.int .i64 n, .slice A l.length cap] w fun e w' => e = .returned (.bool true) ∧ Below w.heap.size w w' := by
  have h0H := Lib.hid h0
  have hno : Hid (¬ (1 ≤ n ∧ n ≤ 6 ∧ (l.length : Int) ≤ 60)) := fun h => h0 ⟨h.1, h.2.1, by omega⟩
  clear h0
  go_enter Try.func6, Try.ntmps6
  go_wp2_with fail
  refine (play_no A cap l n _ hl h0H.out).mono ?_
  rintro e w1 ⟨rfl, hB1⟩
  have hB2 := hB1.alloc hB1.size (.cells #[.slice none 0 0, .int .u32 0, .int .u32 0, .int .i64 0] 26)
  clear hB1
  go_wp2_with fail
  generalize w1.alloc (.cells #[.slice none 0 0, .int .u32 0, .int .u32 0, .int .i64 0] 26) = w2 at *
  refine (played_any w2 n (l.length : Int) false ⟨fun h => absurd h (by decide), fun h => absurd h hno.out⟩).mono ?_
  rintro e w5 ⟨rfl, rfl⟩
  go_wp2_with fail
  go_ret
  exact ⟨rfl, hB2⟩

def FwRel (w5 : World) (wr : World) : Prop := Below w5.heap.size w5 wr
theorem mul_le60 {a : Int} {m : Nat} (h0 : 0 ≤ a) (h1 : a ≤ 10) (hm : m ≤ 60) : 0 ≤ a * (m : Int) ∧ a * (m : Int) ≤ 600 := by
  constructor
  · exact Int.mul_nonneg h0 (by omega)
  · have h2 : a * (m : Int) ≤ 10 * (m : Int) := Int.mul_le_mul_of_nonneg_right h1 (by omega)
    omega

set_option maxHeartbeats 4000000 in
set_option maxRecDepth 100000 in
theorem tfew_ok (w : World) (n : Nat) (A : Option Addr) (cap : Nat) (l : List Mv) (hE : Mvs w w.heap.size A l) (hF : MFits l) (h0 : Plays (n : Int) l.length) :
    Calls Try.prog 6 #[.int .i64 (n : Int), .slice A l.length cap] w fun e w' => e = .returned (.bool true) ∧ Below w.heap.size w w' := by
  have h60 := h0.2.2
  have hn : n ≤ 6 := by have := h0.2.1; omega
  have hn1 : 1 ≤ n := by have := h0.1; omega
  have h0H := Lib.hid h0
  have hyes : Hid (1 ≤ (n : Int) ∧ (n : Int) ≤ 6 ∧ (l.length : Int) ≤ 60) := ⟨h0.1, h0.2.1, by omega⟩
  have hfb := Lib.hid (few_bounds n l l.length)
  have hwl : Hid (wayT n (tAt n l l.length) = lenT n (tAt n l l.length)) := rfl
  have hl0 : Hid (0 ≤ wayT n (tAt n l l.length)) := sum2_nonneg fun _ _ => by omega
  have hEH := Lib.hid hE
  have hFH := Lib.hid hF
  clear h0 hE hF
  go_enter Try.func6, Try.ntmps6
  go_wp2_with fail
  refine (play_ok A cap l n _ hEH.out hFH.out h0H.out).mono ?_
  rintro e w1 ⟨gc, rfl, hO1, hgc1, hB1⟩
  unfold ttVal
  generalize wordB n (tAt n l l.length).ins = V at *
  generalize wordB n (tAt n l l.length).req = W at *
  rw [← hwl.out] at hfb
  generalize wayT n (tAt n l l.length) = y at *
  have hR2 := Row.made w1 26 [.slice (some ⟨gc, 0, none⟩) l.length l.length, .int .u32 (V : Int), .int .u32 (W : Int), .int .i64 y]
  have hO2 := Row.alloc hO1 (.cells #[.slice (some ⟨gc, 0, none⟩) l.length l.length, .int .u32 (V : Int), .int .u32 (W : Int), .int .i64 y] 26)
  have hB2 := hB1.alloc hB1.size (.cells #[.slice (some ⟨gc, 0, none⟩) l.length l.length, .int .u32 (V : Int), .int .u32 (W : Int), .int .i64 y] 26)
  clear hB1 hO1 hgc1
  go_wp2_with fail
  generalize w1.alloc (.cells #[.slice (some ⟨gc, 0, none⟩) l.length l.length, .int .u32 (V : Int), .int .u32 (W : Int), .int .i64 y] 26) = w2 at *
  generalize w1.heap.size = b1 at *
  refine (played_any w2 n (l.length : Int) true ⟨fun _ => hyes.out, fun _ => rfl⟩).mono ?_
  rintro e w5 ⟨rfl, rfl⟩
  have ll : ((l.length : Int) != (l.length : Int)) = false := by simp
  have y0 := hR2.cell (i := 0) (by simp)
  simp only [List.getElem_cons_zero] at y0
  go_wp2_with fail
  have hE5 := Lib.hid ((hEH.out.below hB2).more hB2.size)
  have hR2H := Lib.hid hR2
  have hO2H := Lib.hid hO2
  have hB2H := Lib.hid hB2
  clear hR2 hO2 hB2 y0 ll
  go_loopw [36, 7, 8, 9, 10] (fun t u v _ _ wr => ∃ k : Nat, k ≤ l.length ∧ t = .int .i64 k ∧ u = .int .i64 (wantsT n l k : Int) ∧ v = .int .i64 (tooksT n l k : Int) ∧ FwRel w5 wr) (fun t _ _ _ _ _ => l.length - (intOf t).toNat)
  case atStart => exact ⟨0, Nat.zero_le _, rfl, rfl, rfl, Below.refl _ _⟩
  case round =>
    obtain ⟨k, hk, rfl, rfl, rfl, hB⟩ := hrel
    unfold FwRel at hB
    have hwt := wants_le n l k
    obtain ⟨hwt1, hwt2⟩ := hwt
    have hRr := hR2H.out.below hB hR2H.out.lt
    have y0 := hRr.cell (i := 0) (by simp)
    have y3 := hRr.cell (i := 3) (by simp)
    simp only [List.getElem_cons_zero, List.getElem_cons_succ] at y0 y3
    by_cases hlt : k < l.length
    · have hkI : (k : Int) < (l.length : Int) := by omega
      obtain ⟨b, off, rfl, hb, hc⟩ := (hE5.out.below hB) (by omega)
      obtain ⟨c0, c1, c2, c3⟩ := hc k hlt
      clear hc
      rw [mv_get l hlt] at c0 c1 c2 c3
      have hOr : CodRow wr gc l.length (codeT n l) := Row.below hO2H.out hB (Row.lt hO2H.out)
      have x1 := CodRow.at_ hOr hlt
      have x2 : ∀ o, (wr.alloc o).cell? ⟨gc, k, none⟩ = some (.int .i64 (codeT n l k)) := fun o => CodRow.at_ (Row.alloc hOr o) hlt
      have y0' : ∀ o, (wr.alloc o).cell? ⟨b1, 0, none⟩ = some (.slice (some ⟨gc, 0, none⟩) l.length l.length) := fun o => (hRr.alloc o).cell (i := 0) (by simp)
      have hw1 : Hid (wantsT n l (k + 1) = wantsT n l k + if codeT n l k = 0 ∧ (mv l k).k = 1 then 1 else 0) := rfl
      have ht1 : Hid (tooksT n l (k + 1) = tooksT n l k + if codeT n l k = 0 ∧ (mv l k).k = 2 then 1 else 0) := rfl
      generalize codeT n l k = cd at *
      generalize mv l k = m at *
      obtain ⟨mk, mf, mt, mv'⟩ := m
      simp only at c0 c1 c2 c3 hw1 ht1
      have hBa := Lib.hid (hB.alloc hB.size (.cells #[.int .i64 mk, .int .i64 mf, .int .i64 mt, .int .i64 mv'] 38))
      clear hB hOr hRr
      generalize wantsT n l k = u at *
      generalize tooksT n l k = v at *
      by_cases hcd : cd = 0
      · subst hcd
        by_cases h1 : mk = 1
        · have e1 : Hid (wantsT n l (k + 1) = u + 1) := by unfold Hid; rw [hw1.out, if_pos ⟨rfl, h1⟩]
          have e2 : Hid (tooksT n l (k + 1) = v) := by unfold Hid; rw [ht1.out, if_neg (fun h => by have := h.2; omega)]; omega
          subst h1
          clear hw1 ht1
          go_wp2_with fail
          go_roundw
          case rel => exact ⟨k + 1, by omega, by go_num, by rw [e1.out]; go_num, by rw [e2.out], hBa.out⟩
          case measure => simp [intOf]; omega
        · by_cases h2 : mk = 2
          · have e1 : Hid (wantsT n l (k + 1) = u) := by unfold Hid; rw [hw1.out, if_neg (fun h => h1 h.2)]; omega
            have e2 : Hid (tooksT n l (k + 1) = v + 1) := by unfold Hid; rw [ht1.out, if_pos ⟨rfl, h2⟩]
            subst h2
            clear hw1 ht1 h1
            go_wp2_with fail
            go_roundw
            case rel => exact ⟨k + 1, by omega, by go_num, by rw [e1.out], by rw [e2.out]; go_num, hBa.out⟩
            case measure => simp [intOf]; omega
          · have e1 : Hid (wantsT n l (k + 1) = u) := by unfold Hid; rw [hw1.out, if_neg (fun h => h1 h.2)]; omega
            have e2 : Hid (tooksT n l (k + 1) = v) := by unfold Hid; rw [ht1.out, if_neg (fun h => h2 h.2)]; omega
            have k1 : (mk == 1) = false := by simpa using h1
            have k2 : (mk == 2) = false := by simpa using h2
            clear hw1 ht1 h1 h2
            go_wp2_with fail
            go_roundw
            case rel => exact ⟨k + 1, by omega, by go_num, by rw [e1.out], by rw [e2.out], hBa.out⟩
            case measure => simp [intOf]; omega
      · have e1 : Hid (wantsT n l (k + 1) = u) := by unfold Hid; rw [hw1.out, if_neg (fun h => hcd h.1)]; omega
        have e2 : Hid (tooksT n l (k + 1) = v) := by unfold Hid; rw [ht1.out, if_neg (fun h => hcd h.1)]; omega
        have k1 : (cd != 0) = true := by simpa using hcd
        clear hw1 ht1 hcd
        go_wp2_with fail
        go_roundw
        case rel => exact ⟨k + 1, by omega, by go_num, by rw [e1.out], by rw [e2.out], hBa.out⟩
        case measure => simp [intOf]; omega
    · have hkl : k = l.length := by omega
      rw [hkl] at hwt1 hwt2 hlt hk
      subst hkl
      obtain ⟨f1, f2⟩ := hfb.out
      have hy0 := hl0.out
      have hBz := Lib.hid (hB2H.out.trans (hB.mono hB2H.out.size))
      clear hB hRr
      generalize wantsT n l l.length = u at *
      generalize tooksT n l l.length = v at *
      obtain ⟨m1, m2⟩ := mul_le60 (a := 2 * ((n : Int) - 1)) (m := u) (by omega) (by omega) (by omega)
      obtain ⟨m3, m4⟩ := mul_le60 (a := (n : Int) - 1) (m := u) (by omega) (by omega) (by omega)
      go_wp2_with fail
      go_ret
      exact ⟨rfl, hBz.out⟩

theorem turnFew_law (w : World) (n : Int) (_hn : I64 n) (A : Option Addr) (cap : Nat) (l : List Mv) (hE : Mvs w w.heap.size A l) (hF : MFits l) (hcap : l.length ≤ cap) (hl : l.length ≤ maxLen) (hs : l.length ≤ 17592186044416) :
    Calls Try.prog 6 #[.int .i64 n, .slice A l.length cap] w fun e w' => e = .returned (.bool true) ∧ Below w.heap.size w w' := by
  by_cases h0 : Plays n l.length
  · have h1 := h0.1
    obtain ⟨c, rfl⟩ := Int.eq_ofNat_of_zero_le (show 0 ≤ n by omega)
    exact tfew_ok w c A cap l hE hF h0
  · exact tfew_no w n A cap l hl h0

#print axioms turnFew_law
end Go.Proofs.Ythnmppajakdcaaa
