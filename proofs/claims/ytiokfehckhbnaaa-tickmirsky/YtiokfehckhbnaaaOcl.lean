/-
  The contract of the closure of tick.Order.
-/
import Derived.Test.YtiokfehckhbnaaaCmp
import Derived.StillTailTactics
import Derived.Sort.Grow
namespace Go.Proofs.Ytiokfehckhbnaaa
open Go.RowKit Go.Maps Go.Sort

/-- By timestamp, and by process. -/
def cfO (t1 p1 t2 p2 : Int) : Int := if cmp3 t1 t2 = 0 then cmp3 p1 p2 else cmp3 t1 t2

theorem compare_at (x y : Int) (w : World) : Calls Try.prog 28 #[.int .i64 x, .int .i64 y] w fun e w' => e = .returned (.int .i64 (cmp3 x y)) ∧ w' = w := (compare_any x y w).mono fun _ _ ⟨h1, h2⟩ => ⟨h1, h2.symm⟩

set_option maxHeartbeats 2000000 in
theorem ordcl_any (x y c cap bs bl g b off : Nat) (t1 t2 p1 p2 : Int) (w : World) (hx : x < c) (hy : y < c)
    (hs : w.cell? ⟨bs, 0, none⟩ = some (.slice (some ⟨g, 0, none⟩) c c)) (hl : w.cell? ⟨bl, 0, none⟩ = some (.slice (some ⟨b, off, none⟩) c cap))
    (a1 : w.cell? ⟨g, x, none⟩ = some (.int .i64 t1)) (a2 : w.cell? ⟨g, y, none⟩ = some (.int .i64 t2)) (q1 : w.cell? ⟨b, off + x * 3, none⟩ = some (.int .i64 p1)) (q2 : w.cell? ⟨b, off + y * 3, none⟩ = some (.int .i64 p2)) :
    Calls Try.prog 26 #[.int .i64 x, .int .i64 y, .pointer (some ⟨bs, 0, none⟩), .pointer (some ⟨bl, 0, none⟩)] w fun e w' => e = .returned (.int .i64 (cfO t1 p1 t2 p2)) ∧ ∃ q os, w' = grow (w.drewN q) os := by
  have hxI : (x : Int) < (c : Int) := by omega
  have hyI : (y : Int) < (c : Int) := by omega
  obtain ⟨C, hC⟩ : ∃ C, Hid ((if cmp3 t1 t2 = 0 then cmp3 p1 p2 else cmp3 t1 t2) = C) := ⟨_, rfl⟩
  unfold cfO
  rw [hC.out]
  go_enter Try.func26, Try.ntmps26
  go_wp2_with fail
  go_still_tail 20, (by kernel_rfl)
  still_call (compare_at t1 t2 _)
  repeat still_step
  still_call (compare_at p1 p2 _)
  refine wpStill_nil ?_
  change wpList _ _ _ _ _ w.drew
  obtain ⟨w2, hw2⟩ : ∃ w2, Hid (w2 = w.drew) := ⟨_, rfl⟩
  rw [← hw2.out]
  generalize cmp3 t1 t2 = d1 at *
  generalize cmp3 p1 p2 = d2 at *
  have n0 : (w2.alloc (.cells #[.int .i64 d1, .int .i64 d2] 3)).cell? ⟨w2.heap.size, 0, none⟩ = some (.int .i64 d1) := by simp [World.cell?_alloc_new]
  have n1 : (w2.alloc (.cells #[.int .i64 d1, .int .i64 d2] 3)).cell? ⟨w2.heap.size, 1, none⟩ = some (.int .i64 d2) := by simp [World.cell?_alloc_new]
  have n0H := Lib.hid n0
  have n1H := Lib.hid n1
  clear n0 n1
  go_wp2_with fail
  refine (or2_any _ d1 d2 _ n0H.out n1H.out).mono ?_
  rintro e w3 ⟨rfl, rfl⟩
  have hC2 : Hid ((if d1 = 0 then d2 else d1) = C) := hC.out
  rw [hC2.out]
  go_wp2_with fail
  go_ret
  refine ⟨rfl, 1, #[.cells #[.int .i64 d1, .int .i64 d2] 3], ?_⟩
  rw [hw2.out, alloc_eq_grow]
  rfl

#print axioms ordcl_any
end Go.Proofs.Ytiokfehckhbnaaa
