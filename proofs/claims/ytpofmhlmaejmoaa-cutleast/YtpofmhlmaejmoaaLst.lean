/-
  The contract of cut.Least.
-/
import Derived.Test.YtpofmhlmaejmoaaVVs
namespace Go.Proofs.Ytpofmhlmaejmoaa
open Go.RowKit Go.Maps

set_option maxHeartbeats 800000 in
theorem least_no (A : Option Addr) (cap : Nat) (l : List Ev) (n i : Int) (w : World) (hE : Evs w w.heap.size A l) (hF : Fits l) (hl : l.length ≤ maxLen) (h0 : ¬ checkCode n l = 0) :
    Calls Try.prog 20 #[.int .i64 n, .slice A l.length cap, .int .i64 i] w fun e w' => e = .returned (.tuple #[.slice none 0 0, .int .i64 (checkCode n l)]) ∧ Below w.heap.size w w' := by
  have hb0 : (checkCode n l != 0) = true := by simp [h0]
  have h0H := Lib.hid h0
  clear h0
  go_enter Try.func20, Try.ntmps20
  go_wp2_with fail
  refine (vectors_no A cap l n _ hE hF hl h0H.out).mono ?_
  rintro e w1 ⟨rfl, hB1⟩
  go_wp2_with fail
  go_ret2
  exact ⟨rfl, hB1⟩

set_option maxHeartbeats 800000 in
theorem least_out (A : Option Addr) (cap : Nat) (l : List Ev) (c : Nat) (i : Int) (w : World) (hE : Evs w w.heap.size A l) (hF : Fits l) (h0 : checkCode (c : Int) l = 0) (hi : ¬ (0 ≤ i ∧ i < l.length)) :
    Calls Try.prog 20 #[.int .i64 (c : Int), .slice A l.length cap, .int .i64 i] w fun e w' => e = .returned (.tuple #[.slice none 0 0, .int .i64 4]) ∧ Below w.heap.size w w' := by
  have h0H := Lib.hid h0
  clear h0
  have hiH := Lib.hid hi
  go_enter Try.func20, Try.ntmps20
  by_cases h1 : i < 0
  · clear hi hiH
    go_wp2_with fail
    refine (vectors_ok A cap l c _ hE hF h0H.out).mono ?_
    rintro e w1 ⟨T, gs, rfl, hO1, hB1⟩
    go_wp2_with fail
    go_ret2
    exact ⟨rfl, hB1⟩
  · have h2 : (l.length : Int) ≤ i := by have := hiH.out; omega
    clear hi hiH
    go_wp2_with fail
    refine (vectors_ok A cap l c _ hE hF h0H.out).mono ?_
    rintro e w1 ⟨T, gs, rfl, hO1, hB1⟩
    go_wp2_with fail
    go_ret2
    exact ⟨rfl, hB1⟩

/-- The vector of event i is answered. -/
def LstRes (l : List Ev) (c i : Nat) (w : World) (e : Ending) (w' : World) : Prop :=
  ∃ g, e = .returned (.tuple #[.slice (some ⟨g, 0, none⟩) c c, .int .i64 0]) ∧ Nums w' w'.heap.size (some ⟨g, 0, none⟩) (vlist l c i) ∧ Below w.heap.size w w'

set_option maxHeartbeats 800000 in
theorem least_ok (A : Option Addr) (cap : Nat) (l : List Ev) (c : Nat) (i : Nat) (w : World) (hE : Evs w w.heap.size A l) (hF : Fits l) (h0 : checkCode (c : Int) l = 0) (hi : i < l.length) :
    Calls Try.prog 20 #[.int .i64 (c : Int), .slice A l.length cap, .int .i64 (i : Int)] w (LstRes l c i w) := by
  have h0H := Lib.hid h0
  clear h0
  have hiI : (i : Int) < (l.length : Int) := by omega
  go_enter Try.func20, Try.ntmps20
  go_wp2_with fail
  refine (vectors_ok A cap l c _ hE hF h0H.out).mono ?_
  rintro e w1 ⟨T, gs, rfl, hO1, hB1⟩
  have s1 := hO1.slot i hi
  have n1 := hO1.nums i hi
  generalize gs i = g at *
  go_wp2_with fail
  go_ret2
  exact ⟨g, rfl, n1, hB1⟩

#print axioms least_ok
end Go.Proofs.Ytpofmhlmaejmoaa
