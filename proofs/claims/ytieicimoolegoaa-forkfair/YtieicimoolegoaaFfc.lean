/-
  The contracts of beaconrylaw.forkCode, beaconrykeep.forked.
-/
import Derived.Test.YtieicimoolegoaaRlk
import Derived.Test.YtieicimoolegoaaFcd
namespace Go.Proofs.Ytieicimoolegoaa
open Go.RowKit Go.Maps
set_option linter.unusedVariables false

set_option maxHeartbeats 800000 in
theorem forkCode_any (A : Option Addr) (cap : Nat) (l : List Lk) (n : Int) (w : World) (hE : Lks w w.heap.size A l) (hc : l.length ≤ cap) (hl : l.length ≤ 17592186044416) :
    Calls Try.prog 12 #[.int .i64 n, .slice A l.length cap] w fun e w' => e = .returned (.int .i64 (fcode n l)) ∧ Below w.heap.size w w' := by
  have hlc := Lib.hid (linkscheck_any A cap l n w hE hl)
  have htw : Hid (∀ wr, Below w.heap.size w wr → ∀ C : Bool, (C = true ↔ ¬ Once l) → Calls Try.prog 27 #[.slice A l.length cap] wr fun e w' => e = .returned (.bool C) ∧ Below wr.heap.size wr w') := fun wr hB C hC => twice_any A cap l wr ((hE.below hB).more hB.size) hc hl C hC
  clear hE
  rcases fcode_lcode n l with ⟨h1, h2⟩ | ⟨h1, h2, h3⟩ | ⟨h1, h2, h3⟩
  · rw [h2]
    generalize lcode n l = x at *
    have hx : (x == 0) = false := by simpa using h1
    clear h2
    go_enter Try.func12, Try.ntmps12
    go_wp2_with fail
    refine hlc.out.mono ?_
    rintro e w1 ⟨rfl, hB1⟩
    go_wp2_with fail
    go_ret
    exact ⟨rfl, hB1⟩
  · rw [h3]
    rw [h1] at hlc
    have htw2 : Hid (∀ wr, Below w.heap.size w wr → Calls Try.prog 27 #[.slice A l.length cap] wr fun e w' => e = .returned (.bool true) ∧ Below wr.heap.size wr w') := fun wr hB => htw.out wr hB true ⟨fun _ => h2, fun _ => rfl⟩
    clear h1 h2 h3 htw
    go_enter Try.func12, Try.ntmps12
    go_wp2_with fail
    refine hlc.out.mono ?_
    rintro e w1 ⟨rfl, hB1⟩
    have hcc := Lib.hid (htw2.out w1 hB1)
    clear htw2
    go_wp2_with fail
    refine hcc.out.mono ?_
    rintro e w2 ⟨rfl, hB2⟩
    go_wp2_with fail
    go_ret
    exact ⟨rfl, hB1.trans (hB2.mono hB1.size)⟩
  · rw [h3]
    rw [h1] at hlc
    have htw2 : Hid (∀ wr, Below w.heap.size w wr → Calls Try.prog 27 #[.slice A l.length cap] wr fun e w' => e = .returned (.bool false) ∧ Below wr.heap.size wr w') := fun wr hB => htw.out wr hB false ⟨(nomatch ·), fun h => absurd h2 h⟩
    clear h1 h2 h3 htw
    go_enter Try.func12, Try.ntmps12
    go_wp2_with fail
    refine hlc.out.mono ?_
    rintro e w1 ⟨rfl, hB1⟩
    have hcc := Lib.hid (htw2.out w1 hB1)
    clear htw2
    go_wp2_with fail
    refine hcc.out.mono ?_
    rintro e w2 ⟨rfl, hB2⟩
    go_wp2_with fail
    go_ret
    exact ⟨rfl, hB1.trans (hB2.mono hB1.size)⟩

set_option maxHeartbeats 800000 in
theorem forked_any (A : Option Addr) (cap : Nat) (l : List Lk) (n : Int) (w : World) (hE : Lks w w.heap.size A l) (hc : l.length ≤ cap) (hl : l.length ≤ 17592186044416) (C : Bool) (hC0 : C = true ↔ fcode n l = 0) :
    Calls Try.prog 22 #[.int .i64 n, .slice A l.length cap] w fun e w' => e = .returned (.bool C) ∧ Below w.heap.size w w' := by
  have hlc := Lib.hid (linkscheck_any A cap l n w hE hl)
  have htw : Hid (∀ wr, Below w.heap.size w wr → ∀ C : Bool, (C = true ↔ ¬ Once l) → Calls Try.prog 27 #[.slice A l.length cap] wr fun e w' => e = .returned (.bool C) ∧ Below wr.heap.size wr w') := fun wr hB C hC => twice_any A cap l wr ((hE.below hB).more hB.size) hc hl C hC
  clear hE
  rcases fcode_lcode n l with ⟨h1, h2⟩ | ⟨h1, h2, h3⟩ | ⟨h1, h2, h3⟩
  · rw [h2] at hC0
    generalize lcode n l = x at *
    have hx : (x == 0) = false := by simpa using h1
    obtain rfl : C = false := by
      cases C with
      | false => rfl
      | true => exact absurd (hC0.1 rfl) h1
    clear h2 hC0
    go_enter Try.func22, Try.ntmps22
    go_wp2_with fail
    refine hlc.out.mono ?_
    rintro e w1 ⟨rfl, hB1⟩
    go_wp2_with fail
    go_ret
    exact ⟨rfl, hB1⟩
  · rw [h3] at hC0
    rw [h1] at hlc
    obtain rfl : C = false := by
      cases C with
      | false => rfl
      | true => exact absurd (hC0.1 rfl) (by omega)
    have htw2 : Hid (∀ wr, Below w.heap.size w wr → Calls Try.prog 27 #[.slice A l.length cap] wr fun e w' => e = .returned (.bool true) ∧ Below wr.heap.size wr w') := fun wr hB => htw.out wr hB true ⟨fun _ => h2, fun _ => rfl⟩
    clear h1 h2 h3 htw hC0
    go_enter Try.func22, Try.ntmps22
    go_wp2_with fail
    refine hlc.out.mono ?_
    rintro e w1 ⟨rfl, hB1⟩
    have hcc := Lib.hid (htw2.out w1 hB1)
    clear htw2
    go_wp2_with fail
    refine hcc.out.mono ?_
    rintro e w2 ⟨rfl, hB2⟩
    go_wp2_with fail
    go_ret
    exact ⟨rfl, hB1.trans (hB2.mono hB1.size)⟩
  · rw [h3] at hC0
    rw [h1] at hlc
    obtain rfl : C = true := hC0.2 rfl
    have htw2 : Hid (∀ wr, Below w.heap.size w wr → Calls Try.prog 27 #[.slice A l.length cap] wr fun e w' => e = .returned (.bool false) ∧ Below wr.heap.size wr w') := fun wr hB => htw.out wr hB false ⟨(nomatch ·), fun h => absurd h2 h⟩
    clear h1 h2 h3 htw hC0
    go_enter Try.func22, Try.ntmps22
    go_wp2_with fail
    refine hlc.out.mono ?_
    rintro e w1 ⟨rfl, hB1⟩
    have hcc := Lib.hid (htw2.out w1 hB1)
    clear htw2
    go_wp2_with fail
    refine hcc.out.mono ?_
    rintro e w2 ⟨rfl, hB2⟩
    go_wp2_with fail
    go_ret
    exact ⟨rfl, hB1.trans (hB2.mono hB1.size)⟩
#print axioms forkCode_any
#print axioms forked_any
end Go.Proofs.Ytieicimoolegoaa
