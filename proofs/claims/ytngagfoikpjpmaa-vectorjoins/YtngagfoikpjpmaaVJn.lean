/-
  The contract of vector.Join.
-/
import Derived.Test.YtngagfoikpjpmaaVCk
import Derived.Test.YtngagfoikpjpmaaVRs
namespace Go.Proofs.Ytngagfoikpjpmaa
open Go.RowKit Go.Maps

theorem vjoin_no (A1 A2 : Option Addr) (c1 c2 : Nat) (a b : List Int) (w : World) (h1 : Nums w w.heap.size A1 a) (h2 : Nums w w.heap.size A2 b) (ha : a.length ≤ 17592186044416) (hb : b.length ≤ 17592186044416) (h0 : ¬ vcode a b = 0) :
    Calls Try.prog 17 #[.slice A1 a.length c1, .slice A2 b.length c2] w fun e w' => e = .returned (.tuple #[.slice none 0 0, .int .i64 (vcode a b)]) ∧ Below w.heap.size w w' := by
  have hb0 : (vcode a b != 0) = true := by simp [h0]
  have h0H := Lib.hid h0
  clear h0
  go_enter Try.func17, Try.ntmps17
  go_wp2_with fail
  refine (vcheck_any A1 A2 c1 c2 a b _ h1 h2 ha hb).mono ?_
  rintro e w1 ⟨rfl, rfl⟩
  go_wp2_with fail
  go_ret2
  exact ⟨rfl, Below.refl _ _⟩

/-- The greater numbers, in memory of their own. -/
def JoinRes (a b : List Int) (w : World) (e : Ending) (w' : World) : Prop :=
  ∃ g, e = .returned (.tuple #[.slice (some ⟨g, 0, none⟩) a.length a.length, .int .i64 0]) ∧ Nums w' w'.heap.size (some ⟨g, 0, none⟩) (vjoin a b) ∧ Below w.heap.size w w'

set_option maxHeartbeats 1000000 in
theorem vjoin_ok (A1 A2 : Option Addr) (c1 c2 : Nat) (a b : List Int) (w : World) (h1 : Nums w w.heap.size A1 a) (h2 : Nums w w.heap.size A2 b) (h0 : VGood a b) :
    Calls Try.prog 17 #[.slice A1 a.length c1, .slice A2 b.length c2] w (JoinRes a b w) := by
  have hs := h0.same
  have hl := h0.len
  have h00 := Lib.hid ((vcode_ok a b).2 h0)
  have hbl : b.length ≤ 17592186044416 := by omega
  obtain ⟨i0, hi0, hz0, hz1, hz2⟩ := info_parts infoInt
  have hz2' : i0.bytes * a.length ≤ 281474976710656 := by rw [hz2]; omega
  have hHi := Lib.hid hi0; have hHz := Lib.hid hz0; have hHs := Lib.hid hz1
  clear hi0 hz0 hz1 hz2
  have h0H := Lib.hid h0
  have hsH := Lib.hid hs
  clear h0 hs
  go_enter Try.func17, Try.ntmps17
  go_wp2_with fail
  refine (vcheck_any A1 A2 c1 c2 a b _ h1 h2 (by omega) hbl).mono ?_
  rintro e w1 ⟨rfl, rfl⟩
  rw [h00.out]
  go_wp2_with (first
    | (at_make; refine wpList_make_row _ rfl _ _ 31 rfl 3 i0 (.int .i64 0) Try.underlying31 hHi.out hHz.out hHs.out rfl .i64 .i64 _ _ a.length rfl rfl rfl rfl hz2' (by unfold maxLen; omega) ?_; intro w1 hR1 hG1))
  have hB1 : Below w.heap.size w w1 := (Below.refl _ _).grown hG1 (Nat.le_refl _) (by simp)
  rw [intRow_zero] at hR1
  refine (raise_any w.heap.size a.length (fun _ => 0) A1 c1 a w1 hR1 (h1.below hB1) (Nat.le_refl _) (by omega)).mono ?_
  rintro e w2 ⟨rfl, hR2, hB2, _⟩
  have hB3 := hB1.trans hB2
  clear hB1 hB2 hR1 hG1
  go_wp2_with fail
  refine (raise_any w.heap.size a.length _ A2 c2 b w2 hR2 (h2.below hB3) (by have := hsH.out; omega) (by omega)).mono ?_
  rintro e w3 ⟨rfl, hR4, hB4, _⟩
  have hB5 := hB3.trans hB4
  clear hB3 hB4 hR2
  have hN : Nums w3 w3.heap.size (some ⟨w.heap.size, 0, none⟩) (vjoin a b) := hR4.numsAt (Row.lt hR4) (vjoin_len a b) (fun j hj => by
    have hj' : j < a.length := by rw [vjoin_len] at hj; exact hj
    have := h0H.out.one j hj'
    have := hsH.out
    rw [← vat_get _ hj, vjoin_at a b hj']
    unfold raised
    rw [if_pos (by omega), if_pos (by omega)]
    show _ = max (max (0 : Int) (vat a j)) (vat b j)
    omega)
  go_wp2_with fail
  go_ret2
  exact ⟨_, rfl, hN, hB5⟩

#print axioms vjoin_ok
end Go.Proofs.Ytngagfoikpjpmaa
