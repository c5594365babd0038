/-
  The contract of tick.Ticks.
-/
import Derived.Test.YtiokfehckhbnaaaTck
import Derived.Test.YtiokfehckhbnaaaChk
namespace Go.Proofs.Ytiokfehckhbnaaa
open Go.RowKit Go.Maps

set_option maxHeartbeats 800000 in
theorem tticks_no (A : Option Addr) (cap : Nat) (l : List Ev) (n : Int) (w : World) (hE : Evs w w.heap.size A l) (hF : Fits l) (hl : l.length ≤ maxLen) (h0 : ¬ checkCode n l = 0) :
    Calls Try.prog 9 #[.int .i64 n, .slice A l.length cap] w fun e w' => e = .returned (.tuple #[.slice none 0 0, .int .i64 (checkCode n l)]) ∧ Below w.heap.size w w' := by
  have hb0 : (checkCode n l != 0) = true := by simp [h0]
  have h0H := Lib.hid h0
  clear h0
  go_enter Try.func9, Try.ntmps9
  go_wp2_with fail
  refine (check_any A cap l n _ hE hF hl).mono ?_
  rintro e w1 ⟨rfl, hB1⟩
  go_wp2_with fail
  go_ret2
  exact ⟨rfl, hB1⟩

/-- The timestamps, and no error. -/
def TicksRes (l : List Ev) (w : World) (e : Ending) (w' : World) : Prop :=
  ∃ g T, e = .returned (.tuple #[.slice (some ⟨g, 0, none⟩) l.length l.length, .int .i64 0]) ∧ NatRow w' g l.length T ∧ Rank (HB l) l.length T ∧ (∀ j, j < l.length → T j ≤ l.length) ∧ w.heap.size ≤ g ∧ Below w.heap.size w w'

set_option maxHeartbeats 800000 in
theorem tticks_ok (A : Option Addr) (cap : Nat) (l : List Ev) (n : Int) (w : World) (hE : Evs w w.heap.size A l) (hF : Fits l) (h0 : checkCode n l = 0) :
    Calls Try.prog 9 #[.int .i64 n, .slice A l.length cap] w (TicksRes l w) := by
  have hb0 : (checkCode n l != 0) = false := by simp [h0]
  obtain ⟨⟨_, _, h30⟩, hg⟩ := check_good.1 h0
  have hl : l.length ≤ maxLen := by unfold maxLen; omega
  have h0H := Lib.hid h0
  clear h0
  go_enter Try.func9, Try.ntmps9
  go_wp2_with fail
  refine (check_any A cap l n _ hE hF hl).mono ?_
  rintro e w1 ⟨rfl, hB1⟩
  go_wp2_with fail
  refine (ticks_any A cap l n _ ((hE.below hB1).more hB1.size) hF h30 hg).mono ?_
  rintro e w2 ⟨T, rfl, hR, hT, hle, hB2⟩
  have hB := hB1.trans (hB2.mono hB1.size)
  go_wp2_with fail
  go_ret2
  exact ⟨_, T, rfl, hR, hT, hle, hB1.size, hB⟩

#print axioms tticks_ok
end Go.Proofs.Ytiokfehckhbnaaa
