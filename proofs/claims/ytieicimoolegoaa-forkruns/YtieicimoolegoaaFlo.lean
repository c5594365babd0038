/-
  The contract of beaconryref.Low.
-/
import Derived.Test.YtieicimoolegoaaFsk
namespace Go.Proofs.Ytieicimoolegoaa
open Go.RowKit Go.Maps
set_option linter.unusedVariables false

def LoRel (w wr : World) : Prop := Below w.heap.size w wr
theorem fromB_succ (l : List Lk) (i k : Nat) : fromB l i (k + 1) = (fromB l i k || decide ((lat l k).a = (i : Int))) := rfl
set_option maxHeartbeats 1600000 in
theorem rlow_any (A : Option Addr) (cap : Nat) (l : List Lk) (N : Nat) (w : World) (hE : Lks w w.heap.size A l) (hN : N ≤ 6) (hok : LOk (N : Int) l) (hl : l.length ≤ 1000) :
    Calls Try.prog 15 #[.int .i64 (N : Int), .slice A l.length cap] w fun e w' => e = .returned (.int .u32 (lowN N l : Int)) ∧ Below w.heap.size w w' := by
  have h64 := Nat.pow_le_pow_right (n := 2) (by omega) hN
  have hEH := Lib.hid hE
  have hokH := Lib.hid (fun k (hk : k < l.length) => hok.at_ hk)
  have hdone := Lib.hid (lowN_word hN hok)
  clear hE hok
  go_enter Try.func15, Try.ntmps15
  go_wp2_with fail
  go_loopw [6, 5] (fun t v wr => ∃ i : Nat, i ≤ N ∧ t = .int .i64 i ∧ v = .int .u32 (wordB i (lowB l) : Int) ∧ LoRel w wr) (fun t _ _ => N - (intOf t).toNat)
  case atStart => exact ⟨0, Nat.zero_le _, rfl, rfl, Below.refl _ _⟩
  case round =>
    obtain ⟨i, hi, rfl, rfl, hB⟩ := hrel
    unfold LoRel at hB
    rename World => w1
    by_cases hiN : i < N
    · have hiI : (i : Int) < (N : Int) := by omega
      have hW := wordB_lt i (lowB l)
      have hadd : Hid (lowB l i = true → wordB (i + 1) (lowB l) = wordB i (lowB l) + 2 ^ i) := fun h => wordB_add i _ h
      have hskip : Hid (lowB l i = false → wordB (i + 1) (lowB l) = wordB i (lowB l)) := fun h => wordB_skip i _ h
      have hlb : Hid (lowB l i = !fromB l i l.length) := rfl
      have hpi := two_pow_lt i hiN
      generalize hS0 : wordB i (lowB l) = S at *
      generalize hLB : lowB l i = L at *
      clear hS0 hLB
      have hpm := Lib.hid (pow_mod i (by omega))
      have hval : Hid (((S : Int) + 2 ^ i % 4294967296) % 4294967296 = ((S + 2 ^ i : Nat) : Int)) := by
        unfold Hid
        rw [hpm.out]
        omega
      go_wp2_with fail
      go_loopw [17, 7] (fun t v wr => ∃ k : Nat, k ≤ l.length ∧ t = .int .i64 k ∧ v = .bool (!fromB l i k) ∧ LoRel w wr) (fun t _ _ => l.length - (intOf t).toNat)
      case atStart => exact ⟨0, Nat.zero_le _, rfl, rfl, hB⟩
      case round =>
        clear hB
        obtain ⟨k, hk, rfl, rfl, hB⟩ := hrel
        unfold LoRel at hB
        rename World => wr
        by_cases hlt : k < l.length
        · obtain ⟨b, off, rfl, hb, c3, c4⟩ := (hEH.out.below hB).at_ hlt
          have hkI : (k : Int) < (l.length : Int) := by omega
          have hB1 := Lib.hid (lk_alloc hB (lat l k).a (lat l k).b)
          have hR1 := Row.made wr 43 [.int .i64 (lat l k).a, .int .i64 (lat l k).b]
          have d0 := hR1.cell (i := 0) (by simp)
          simp only [List.getElem_cons_zero] at d0
          have hn := Lib.hid (fromB_succ l i k)
          clear hR1 hB
          generalize (lat l k).a = x at *
          generalize (lat l k).b = y at *
          generalize hF : fromB l i k = F at *
          clear hF
          cases F with
          | true =>
            have hnx : Hid (fromB l i (k + 1) = true) := by unfold Hid; rw [hn.out]; rfl
            clear hn
            go_wp2_with fail
            go_roundw
            case rel => exact ⟨k + 1, by omega, by go_num, by rw [hnx.out]; rfl, hB1.out⟩
            case measure => simp [intOf]; omega
          | false =>
            by_cases hx : x = (i : Int)
            · have hnx : Hid (fromB l i (k + 1) = true) := by unfold Hid; rw [hn.out, decide_eq_true hx]; rfl
              have v1 : (x != (i : Int)) = false := by simp [hx]
              have v2 : (x == (i : Int)) = true := by simp [hx]
              clear hn hx
              go_wp2_with fail
              go_roundw
              case rel => exact ⟨k + 1, by omega, by go_num, by rw [hnx.out]; rfl, hB1.out⟩
              case measure => simp [intOf]; omega
            · have hnx : Hid (fromB l i (k + 1) = false) := by unfold Hid; rw [hn.out, decide_eq_false hx]; rfl
              have v1 : (x != (i : Int)) = true := by simp [hx]
              have v2 : (x == (i : Int)) = false := by simp [hx]
              clear hn hx
              go_wp2_with fail
              go_roundw
              case rel => exact ⟨k + 1, by omega, by go_num, by rw [hnx.out]; rfl, hB1.out⟩
              case measure => simp [intOf]; omega
        · have hkl : k = l.length := by omega
          subst hkl
          generalize hF : fromB l i l.length = F at *
          clear hF
          cases F with
          | true =>
            have hnx := Lib.hid (hskip.out hlb.out)
            clear hadd hskip hlb
            go_wp2_with fail
            go_roundw
            case rel => exact ⟨i + 1, by omega, by go_num, by rw [hnx.out], hB⟩
            case measure => simp [intOf]; omega
          | false =>
            have hnx := Lib.hid (hadd.out hlb.out)
            clear hadd hskip hlb
            go_wp2_with fail
            go_roundw
            case rel => exact ⟨i + 1, by omega, by go_num, by rw [hnx.out, ← hval.out], hB⟩
            case measure => simp [intOf]; omega
    · have hiN' : i = N := by omega
      subst hiN'
      go_wp2_with fail
      go_ret
      exact ⟨by rw [hdone.out]; rfl, hB⟩
#print axioms rlow_any
end Go.Proofs.Ytieicimoolegoaa
