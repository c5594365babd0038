/-
  The walk of the law TickOrder: by rising ticks, and processes, it is a run in which the same are ahead of the same.
-/
import Derived.Test.YtiokfehckhbnaaaOrder
import Derived.Test.YtiokfehckhbnaaaAgn
import Derived.Test.YtiokfehckhbnaaaRan
namespace Go.Proofs.Ytiokfehckhbnaaa
open Go.RowKit Go.Maps

set_option maxHeartbeats 1000000 in
theorem tickorder_no (w : World) (n : Int) (A : Option Addr) (cap : Nat) (l : List Ev) (hE : Evs w w.heap.size A l) (hF : Fits l) (hcap : l.length ≤ cap) (hl : l.length ≤ maxLen) (h0 : ¬ checkCode n l = 0) :
    Calls Try.prog 7 #[.int .i64 n, .slice A l.length cap] w fun e w' => e = .returned (.bool true) ∧ Below w.heap.size w w' := by
  have hr : (checkCode n l == 0) = false := by simp [h0]
  have hr' : (checkCode n l != 0) = true := by simp [h0]
  have h0H := Lib.hid h0
  clear h0
  go_enter Try.func7, Try.ntmps7
  go_wp2_with fail
  refine (torder_no A cap l n _ hE hF hl h0H.out).mono ?_
  rintro e w1 ⟨rfl, hB1⟩
  go_wp2_with fail
  refine (ran_any A cap l n _ ((hE.below hB1).more hB1.size) hcap hl).mono ?_
  rintro e w2 ⟨rfl, hB2'⟩
  have hB2 := hB1.trans (hB2'.mono hB1.size)
  go_wp2_with fail
  go_ret
  exact ⟨rfl, hB2⟩

set_option maxHeartbeats 1000000 in
theorem tickorder_ok (w : World) (n : Int) (A : Option Addr) (cap : Nat) (l : List Ev) (hE : Evs w w.heap.size A l) (hF : Fits l) (hcap : l.length ≤ cap) (h0 : checkCode n l = 0) :
    Calls Try.prog 7 #[.int .i64 n, .slice A l.length cap] w fun e w' => e = .returned (.bool true) ∧ Below w.heap.size w w' := by
  have h30 := (check_small h0).2.2
  have hl : l.length ≤ maxLen := by unfold maxLen; omega
  have hr : (checkCode n l == 0) = true := by simp [h0]
  have h0H := Lib.hid h0
  clear h0
  go_enter Try.func7, Try.ntmps7
  go_wp2_with fail
  refine (torder_ok A cap l n _ hE hF h0H.out).mono ?_
  rintro e w1 ⟨g1, s, T1, rfl, hsl, hsp, hT1, hss, hN1, hB1⟩
  have hslH := Lib.hid hsl
  clear hsl
  go_wp2_with fail
  refine (ran_any A cap l n _ ((hE.below hB1).more hB1.size) hcap hl).mono ?_
  rintro e w2 ⟨rfl, hB2'⟩
  have hN2 := (hN1.below hB2').more hB2'.size
  have hB2 := hB1.trans (hB2'.mono hB1.size)
  have hP : Perm s l.length := ⟨hslH.out, fun x hx => List.mem_range.1 (hsp.mem_iff.1 hx), hsp.nodup_iff.2 List.nodup_range⟩
  have hX := ext_of hT1 hsp hss
  clear hB2' hB1 hN1 hss hsp hT1
  go_wp2_with fail
  refine (again_ext A (some ⟨g1, 0, none⟩) cap l.length l s n _ ((hE.below hB2).more hB2.size) hF hN2 h0H.out hP true ⟨fun _ => hX, fun _ => rfl⟩).mono ?_
  rintro e w3 ⟨rfl, hB3'⟩
  have hB3 := hB2.trans (hB3'.mono hB2.size)
  go_wp2_with fail
  go_ret
  exact ⟨by simp, hB3⟩

theorem tickOrder_law (w : World) (n : Int) (_hn : I64 n) (A : Option Addr) (cap : Nat) (l : List Ev) (hE : Evs w w.heap.size A l) (hF : Fits l) (hcap : l.length ≤ cap) (hl : l.length ≤ maxLen) (_hs : l.length ≤ 17592186044416) :
    Calls Try.prog 7 #[.int .i64 n, .slice A l.length cap] w fun e w' => e = .returned (.bool true) ∧ Below w.heap.size w w' := by
  by_cases h0 : checkCode n l = 0
  · exact tickorder_ok w n A cap l hE hF hcap h0
  · exact tickorder_no w n A cap l hE hF hcap hl h0

#print axioms tickOrder_law
end Go.Proofs.Ytiokfehckhbnaaa
