/-
  The walks of the laws beaconrylaw.ForkRounds and beaconrylaw.ForkLows.
-/
import Derived.Test.YtieicimoolegoaaFro
import Derived.Test.YtieicimoolegoaaFlo
import Derived.Test.YtieicimoolegoaaFfc
namespace Go.Proofs.Ytieicimoolegoaa
open Go.RowKit Go.Maps
set_option linter.unusedVariables false

set_option maxHeartbeats 1600000 in
theorem forkRounds_law (w : World) (n : Int) (_hn : I64 n) (A : Option Addr) (cap : Nat) (l : List Lk) (hE : Lks w w.heap.size A l) (hF : LFits l) (hc : l.length ≤ cap) (hlm : l.length ≤ maxLen) (hl : l.length ≤ 17592186044416) :
    Calls Try.prog 3 #[.int .i64 n, .slice A l.length cap] w fun e w' => e = .returned (.bool true) ∧ Below w.heap.size w w' := by
  have h1 := Lib.hid (round_any A cap l n w hE hc hl)
  have h2 : Hid (∀ w1, Below w.heap.size w w1 → Calls Try.prog 12 #[.int .i64 n, .slice A l.length cap] w1 fun e w' => e = .returned (.int .i64 (fcode n l)) ∧ Below w1.heap.size w1 w') := fun w1 hB => forkCode_any A cap l n w1 ((hE.below hB).more hB.size) hc hl
  by_cases hf : fcode n l = 0
  · obtain ⟨hn, hV⟩ := fcode_FV hf
    have h15 := fcode_len hf
    have h3 : Hid (∀ w1, Below w.heap.size w w1 → Calls Try.prog 13 #[.int .i64 n, .slice A l.length cap] w1 fun e w' => e = .returned (.bool (roundOut n l)) ∧ Below w1.heap.size w1 w') := fun w1 hB => by
      have := rround_any A cap l n.toNat w1 ((hE.below hB).more hB.size) hV (by omega) (roundOut n l) (roundOut_iff hf)
      rw [← hn] at this
      exact this
    unfold RoundRes at h1
    rw [hf] at h1 h2
    generalize roundOut n l = R at *
    clear hE hF hf hn hV
    go_enter Try.func3, Try.ntmps3
    go_wp2_with fail
    refine h1.out.mono ?_
    rintro e w1 ⟨rfl, hB1⟩
    have h2' := Lib.hid (h2.out w1 hB1)
    clear h1 h2
    go_wp2_with fail
    refine h2'.out.mono ?_
    rintro e w2 ⟨rfl, hB2⟩
    have hB3 := hB1.trans (hB2.mono hB1.size)
    have h3' := Lib.hid (h3.out w2 hB3)
    clear h2' h3 hB2
    cases R
    all_goals
      go_wp2_with fail
      refine h3'.out.mono ?_
      rintro e w3 ⟨rfl, hB4⟩
      go_wp2_with fail
      go_ret
      exact ⟨by simp_all, hB3.trans (hB4.mono hB3.size)⟩
  · unfold RoundRes at h1
    rw [roundOut_no hf] at h1
    generalize fcode n l = x at *
    have hx : (x != 0) = true := by simpa using hf
    have hx2 : (x == 0) = false := by simpa using hf
    clear hE hF hf
    go_enter Try.func3, Try.ntmps3
    go_wp2_with fail
    refine h1.out.mono ?_
    rintro e w1 ⟨rfl, hB1⟩
    have h2' := Lib.hid (h2.out w1 hB1)
    clear h1 h2
    go_wp2_with fail
    refine h2'.out.mono ?_
    rintro e w2 ⟨rfl, hB2⟩
    have hB3 := hB1.trans (hB2.mono hB1.size)
    go_wp2_with fail
    go_ret
    exact ⟨by simp_all, hB3⟩

set_option maxHeartbeats 1600000 in
theorem forkLows_law (w : World) (n : Int) (_hn : I64 n) (A : Option Addr) (cap : Nat) (l : List Lk) (hE : Lks w w.heap.size A l) (hF : LFits l) (hc : l.length ≤ cap) (hlm : l.length ≤ maxLen) (hl : l.length ≤ 17592186044416) :
    Calls Try.prog 4 #[.int .i64 n, .slice A l.length cap] w fun e w' => e = .returned (.bool true) ∧ Below w.heap.size w w' := by
  have h1 := Lib.hid (low_any A cap l n w hE hc hl)
  have h2 : Hid (∀ w1, Below w.heap.size w w1 → Calls Try.prog 12 #[.int .i64 n, .slice A l.length cap] w1 fun e w' => e = .returned (.int .i64 (fcode n l)) ∧ Below w1.heap.size w1 w') := fun w1 hB => forkCode_any A cap l n w1 ((hE.below hB).more hB.size) hc hl
  by_cases hf : fcode n l = 0
  · obtain ⟨hn, hV⟩ := fcode_FV hf
    have h15 := fcode_len hf
    have h3 : Hid (∀ w1, Below w.heap.size w w1 → Calls Try.prog 15 #[.int .i64 n, .slice A l.length cap] w1 fun e w' => e = .returned (.int .u32 (lowOut n l : Int)) ∧ Below w1.heap.size w1 w') := fun w1 hB => by
      have := rlow_any A cap l n.toNat w1 ((hE.below hB).more hB.size) hV.six hV.ok (by omega)
      rw [← hn] at this
      rw [lowOut_ok hf]
      exact this
    unfold LowRes at h1
    rw [hf] at h1 h2
    generalize lowOut n l = R at *
    clear hE hF hf hn hV
    go_enter Try.func4, Try.ntmps4
    go_wp2_with fail
    refine h1.out.mono ?_
    rintro e w1 ⟨rfl, hB1⟩
    have h2' := Lib.hid (h2.out w1 hB1)
    clear h1 h2
    go_wp2_with fail
    refine h2'.out.mono ?_
    rintro e w2 ⟨rfl, hB2⟩
    have hB3 := hB1.trans (hB2.mono hB1.size)
    have h3' := Lib.hid (h3.out w2 hB3)
    clear h2' h3 hB2
    go_wp2_with fail
    refine h3'.out.mono ?_
    rintro e w3 ⟨rfl, hB4⟩
    go_wp2_with fail
    go_ret
    exact ⟨by simp_all, hB3.trans (hB4.mono hB3.size)⟩
  · unfold LowRes at h1
    rw [lowOut_no hf] at h1
    generalize fcode n l = x at *
    have hx : (x != 0) = true := by simpa using hf
    have hx2 : (x == 0) = false := by simpa using hf
    clear hE hF hf
    go_enter Try.func4, Try.ntmps4
    go_wp2_with fail
    refine h1.out.mono ?_
    rintro e w1 ⟨rfl, hB1⟩
    have h2' := Lib.hid (h2.out w1 hB1)
    clear h1 h2
    go_wp2_with fail
    refine h2'.out.mono ?_
    rintro e w2 ⟨rfl, hB2⟩
    have hB3 := hB1.trans (hB2.mono hB1.size)
    go_wp2_with fail
    go_ret
    exact ⟨by simp_all, hB3⟩
#print axioms forkRounds_law
#print axioms forkLows_law
end Go.Proofs.Ytieicimoolegoaa
