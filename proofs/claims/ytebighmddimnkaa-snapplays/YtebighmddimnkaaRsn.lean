/-
  The contract of beaconryref.Snap.
-/
import Derived.Test.YtebighmddimnkaaRin
import Derived.Test.YtebighmddimnkaaFir
import Derived.Test.YtebighmddimnkaaWot
import Derived.BigQuiet
import Derived.Deep.QuietTactic
import Derived.Deep.RegionHeld3
import Derived.Laws.ResultCell
namespace Go.Proofs.Ytebighmddimnkaa
open Go.RowKit Go.Maps

theorem infoBool : (Try.prog.info? 4).map (fun i => (i.zero, i.size, i.bytes)) = some (some (.bool false), 1, 1) := by kernel_rfl
theorem infoBools : (Try.prog.info? 47).map (fun i => (i.zero, i.size, i.bytes)) = some (some (.slice none 0 0), 1, 24) := by kernel_rfl
theorem infoInts' : (Try.prog.info? 24).map (fun i => (i.zero, i.size, i.bytes)) = some (some (.slice none 0 0), 1, 24) := by kernel_rfl
theorem infoErr' : (Try.prog.info? 28).map (fun i => (i.zero, i.size, i.bytes)) = some (some (.int .i64 0), 1, 8) := by kernel_rfl
theorem make_eq (t e : TypeId) (z : Value) (by_ : Nat) (hi : (Try.prog.info? e).map (fun i => (i.zero, i.size, i.bytes)) = some (some z, 1, by_)) (ht : Try.prog.underlying t = some (.slice e)) (hz : z.cells = #[z]) (n : Nat) (hn : n ≤ 6) (hb : by_ ≤ 1000) (w : World) :
    (Instr.makeSlice t (.int .i64 (n : Int)) (.int .i64 (n : Int))).run Try.prog w = .ok (.slice (some ⟨w.heap.size, 0, none⟩) n n) (w.alloc (.cells (List.replicate n z).toArray e)) := by
  obtain ⟨i0, hi0, hz0, hz1, hz2⟩ := info_parts hi
  have h1 := run_make (P := Try.prog) w t e i0 z ht hi0 hz0 .i64 .i64 (n : Int) (n : Int) (by omega) (by omega) (by
    rw [hz2]
    have h1 : by_ * n ≤ 1000 * 6 := Nat.mul_le_mul hb hn
    have h2 : ((by_ * n : Nat) : Int) ≤ 6000 := by omega
    rw [Int.natCast_mul] at h2
    omega) (by omega)
  rw [h1, hz1, hz]
  congr 2
  · rw [Int.toNat_natCast, Nat.mul_one]
    have : madeCells #[z] n = (List.replicate n z).toArray := by
      rw [← toList_madeCells_one]
    rw [this]
theorem wtop0 (n : Nat) (ib : Nat → Nat) : wtop n 0 ib = [] := rfl
theorem ctop0 (n : Nat) (bb : Nat → Nat) : ctop n 0 bb = List.replicate n (.slice none 0 0) := by
  unfold ctop
  simp [List.map_const']

/-- The world once the rows are there. -/
def w9 (w : World) (n : Nat) (ZI ZB ZT : List Value) : World :=
  ((((((((w.alloc (.cells #[.int .i64 (n : Int)] 3)).alloc (.cells #[.slice none 0 0, .bool false, .slice none 0 0, .slice none 0 0] 27)).alloc (.cells ZI.toArray 3)).alloc (.cells #[.slice none 0 0, .bool false, .slice (some ⟨w.heap.size + 1 + 1, 0, none⟩) n n, .slice none 0 0] 27)).alloc (.cells ZI.toArray 3)).alloc (.cells #[.slice (some ⟨w.heap.size + 1 + 1 + 1 + 1, 0, none⟩) n n] 24)).alloc (.cells ZB.toArray 4)).alloc (.cells #[.slice (some ⟨w.heap.size + 1 + 1 + 1 + 1 + 1 + 1, 0, none⟩) n n] 47)).alloc (.cells ZT.toArray 47)
def b9 (h : Nat) : RB := ⟨h, h + 1, h + 1 + 1 + 1, h + 1 + 1 + 1 + 1 + 1, h + 1 + 1 + 1 + 1 + 1 + 1 + 1, 0, h + 1 + 1 + 1 + 1 + 1 + 1 + 1 + 1, fun x => if x = 0 then h + 1 + 1 + 1 + 1 else h + 1 + 1, fun _ => h + 1 + 1 + 1 + 1 + 1 + 1⟩
theorem made_at' (w : World) {g : Nat} (hg : g = w.heap.size) (e : TypeId) (xs : List Value) : Row (w.alloc (.cells xs.toArray e)) g e xs := by subst hg; exact Row.made w e xs
theorem refI_start (w : World) (n : Nat) (ZI ZB ZT : List Value) (hI : ZI = List.replicate n (.int .i64 0)) (hB : ZB = List.replicate n (.bool false)) (hT : ZT = List.replicate n (.slice none 0 0)) :
    RefI (w9 w n ZI ZB ZT) w.heap.size (w9 w n ZI ZB ZT).heap.size n 0 0 0 (b9 w.heap.size) (.slice none 0 0) := by
  have hs : (w9 w n ZI ZB ZT).heap.size = w.heap.size + 9 := by simp [w9]
  have r0 : Row (w9 w n ZI ZB ZT) w.heap.size 3 [.int .i64 (n : Int)] := ((((((((made_at' w rfl 3 [.int .i64 (n : Int)]).alloc _).alloc _).alloc _).alloc _).alloc _).alloc _).alloc _).alloc _
  have r1 : Row (w9 w n ZI ZB ZT) (w.heap.size + 1) 27 [.slice none 0 0, .bool false, .slice none 0 0, .slice none 0 0] := (((((((made_at' _ (by simp) 27 [.slice none 0 0, .bool false, .slice none 0 0, .slice none 0 0]).alloc _).alloc _).alloc _).alloc _).alloc _).alloc _).alloc _
  have r2 : Row (w9 w n ZI ZB ZT) (w.heap.size + 1 + 1) 3 ZI := ((((((made_at' _ (by simp) 3 ZI).alloc _).alloc _).alloc _).alloc _).alloc _).alloc _
  have r3 : Row (w9 w n ZI ZB ZT) (w.heap.size + 1 + 1 + 1) 27 [.slice none 0 0, .bool false, .slice (some ⟨w.heap.size + 1 + 1, 0, none⟩) n n, .slice none 0 0] := (((((made_at' _ (by simp) 27 [.slice none 0 0, .bool false, .slice (some ⟨w.heap.size + 1 + 1, 0, none⟩) n n, .slice none 0 0]).alloc _).alloc _).alloc _).alloc _).alloc _
  have r4 : Row (w9 w n ZI ZB ZT) (w.heap.size + 1 + 1 + 1 + 1) 3 ZI := ((((made_at' _ (by simp) 3 ZI).alloc _).alloc _).alloc _).alloc _
  have r5 : Row (w9 w n ZI ZB ZT) (w.heap.size + 1 + 1 + 1 + 1 + 1) 24 [.slice (some ⟨w.heap.size + 1 + 1 + 1 + 1, 0, none⟩) n n] := (((made_at' _ (by simp) 24 [.slice (some ⟨w.heap.size + 1 + 1 + 1 + 1, 0, none⟩) n n]).alloc _).alloc _).alloc _
  have r6 : Row (w9 w n ZI ZB ZT) (w.heap.size + 1 + 1 + 1 + 1 + 1 + 1) 4 ZB := ((made_at' _ (by simp) 4 ZB).alloc _).alloc _
  have r7 : Row (w9 w n ZI ZB ZT) (w.heap.size + 1 + 1 + 1 + 1 + 1 + 1 + 1) 47 [.slice (some ⟨w.heap.size + 1 + 1 + 1 + 1 + 1 + 1, 0, none⟩) n n] := (made_at' _ (by simp) 47 [.slice (some ⟨w.heap.size + 1 + 1 + 1 + 1 + 1 + 1, 0, none⟩) n n]).alloc _
  have r8 : Row (w9 w n ZI ZB ZT) (w.heap.size + 1 + 1 + 1 + 1 + 1 + 1 + 1 + 1) 47 ZT := made_at' _ (by simp) 47 ZT
  have hI2 : ZI = intRow (fun _ => 0) n := by rw [hI, intRow_zero]
  have hB2 : ZB = boolRow (fun _ => false) n := by
    rw [hB]
    apply List.ext_getElem
    · simp [boolRow]
    · intro a h1 h2; simp [boolRow]
  generalize w9 w n ZI ZB ZT = W at *
  rw [hI2] at r2 r4
  rw [hB2] at r6
  rw [hT, ← ctop0 n (b9 w.heap.size).bb] at r8
  refine ⟨r0, r1, r3, r5, r7, fun x hx => ?_, fun x hx => r6, r8, World.ownsRow_nil _ _ _ _, fun x y hx hy hne => ?_, fun x y hx hy hne => by omega, fun x hx => ?_, ?_, ?_, ?_, ?_, fun x hx => ?_, fun x hx => ?_⟩
  · show IntRow _ (if x = 0 then _ else _) n _
    match x, hx with
    | 0, _ => rw [if_pos rfl]; exact IntRow.congr r4 (fun a _ => by simp [icI])
    | 1, _ => rw [if_neg (by omega)]; exact IntRow.congr r2 (fun a _ => by simp [icI])
  · show (if x = 0 then _ else _) ≠ (if y = 0 then _ else _)
    split <;> split <;> omega
  · show w.heap.size ≠ (if x = 0 then _ else _)
    split <;> omega
  · show w.heap.size + 1 + 1 + 1 + 1 + 1 + 1 + 1 ≠ w.heap.size + 1 + 1 + 1 + 1 + 1 + 1 + 1 + 1
    omega
  · show w.heap.size + 1 ≠ w.heap.size + 1 + 1 + 1
    omega
  · show w.heap.size + 1 + 1 + 1 + 1 + 1 < _
    rw [hs]; omega
  · rw [hs]
    refine ⟨Nat.le_refl _, ?_, ?_, ?_, ?_, by omega, ?_⟩ <;> simp [b9] <;> omega
  · show w.heap.size ≤ (if x = 0 then _ else _)
    split <;> omega
  · show w.heap.size ≤ w.heap.size + 1 + 1 + 1 + 1 + 1 + 1
    omega

#print axioms refI_start
end Go.Proofs.Ytebighmddimnkaa
