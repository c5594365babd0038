/-
  How what beaconryref.Token holds follows the state: the relation of its loop; the start.
-/
import Derived.Test.YtejckoffllhjcaaRks
import Derived.Test.YtejckoffllhjcaaKpl
namespace Go.Proofs.Ytejckoffllhjcaa
open Go.RowKit Go.Maps
set_option linter.unusedVariables false

theorem infoBlR : (Try.prog.info? 4).map (fun i => (i.zero, i.size, i.bytes)) = some (some (.bool false), 1, 1) := by kernel_rfl
theorem infoIntsR : (Try.prog.info? 22).map (fun i => (i.zero, i.size, i.bytes)) = some (some (.slice none 0 0), 1, 24) := by kernel_rfl
theorem make_eqG (t e : TypeId) (z : Value) (by_ : Nat) (hi : (Try.prog.info? e).map (fun i => (i.zero, i.size, i.bytes)) = some (some z, 1, by_)) (ht : Try.prog.underlying t = some (.slice e)) (hz : z.cells = #[z]) (n : Nat) (hn : n ≤ 6) (hb : by_ ≤ 1000) (w : World) :
    (Instr.makeSlice t (.int .i64 (n : Int)) (.int .i64 (n : Int))).run Try.prog w = .ok (.slice (some ⟨w.heap.size, 0, none⟩) n n) (w.alloc (.cells (List.replicate n z).toArray e)) := by
  obtain ⟨i0, hi0, hz0, hz1, hz2⟩ := info_parts hi
  have h1 := run_make (P := Try.prog) w t e i0 z ht hi0 hz0 .i64 .i64 (n : Int) (n : Int) (by omega) (by omega) (by
    rw [hz2]
    have h1 : by_ * n ≤ 1000 * 6 := Nat.mul_le_mul hb hn
    have h2 : ((by_ * n : Nat) : Int) ≤ 6000 := by omega
    rw [Int.natCast_mul] at h2
    omega) (by omega)
  rw [h1, hz1, hz]
  congr 2
  · rw [Int.toNat_natCast, Nat.mul_one]
    have : madeCells #[z] n = (List.replicate n z).toArray := by
      rw [← toList_madeCells_one]
    rw [this]
theorem made_atG (w : World) {g : Nat} (hg : g = w.heap.size) (e : TypeId) (xs : List Value) : Row (w.alloc (.cells xs.toArray e)) g e xs := by subst hg; exact Row.made w e xs

/-- Behind k moves. -/
def RkRel (w : World) (B n : Nat) (b : KB) (u : Nat → Nat) (l : List Mv) (k : Nat) (wr : World) : Prop := RkS wr B n b (kAt n u l k) (4 * k) (codesK n u l k) ∧ Below B w wr
/-- Behind the branches of a move: its code. -/
def RkCut (w : World) (B n : Nat) (b : KB) (u : Nat → Nat) (l : List Mv) (k : Nat) (e : Value) (wr : World) : Prop := e = .int .i64 (codeK n u l k) ∧ RkS wr B n b (kAt n u l (k + 1)) (4 * (k + 1)) (codesK n u l k) ∧ Below B w wr
theorem RkCut.of {w wr : World} {B n : Nat} {b : KB} {u : Nat → Nat} {l : List Mv} {k N : Nat} {T : KS} {c : Int} (hst : kAt n u l (k + 1) = T) (hcd : codeK n u l k = c) (h : RkS wr B n b T N (codesK n u l k)) (hN : N ≤ 4 * (k + 1)) (hB : Below B w wr) : RkCut w B n b u l k (.int .i64 c) wr :=
  ⟨by rw [hcd], by rw [hst]; exact h.more hN, hB⟩
/-- What Token returns. -/
def RtkRes (w : World) (n : Nat) (u : Nat → Nat) (l : List Mv) (e : Ending) (w' : World) : Prop :=
  ∃ A cap, e = .returned (.agg #[.slice A l.length cap, .int .u32 (wordB n (kAt n u l l.length).ins : Int), .int .u32 (wordB n (wantB (kAt n u l l.length)) : Int), .int .i64 (wayK n (kAt n u l l.length))]) ∧
    OwnC w' w.heap.size (.slice A l.length cap) (codesK n u l l.length) ∧ Below w.heap.size w w'

/-- The world once the lists are there. -/
def w7K (w4 : World) (n P cp : Nat) (ZT ZB : List Value) : World :=
  ((((((w4.alloc (.cells #[.slice (some ⟨P, 0, none⟩) n cp] 22)).alloc (.cells ZT.toArray 22)).alloc (.cells #[.slice (some ⟨w4.heap.size + 1, 0, none⟩) n n] 48)).alloc (.cells ZB.toArray 4)).alloc (.cells #[.slice (some ⟨w4.heap.size + 1 + 1 + 1, 0, none⟩) n n] 49)).alloc (.cells ZB.toArray 4)).alloc (.cells #[.slice (some ⟨w4.heap.size + 1 + 1 + 1 + 1 + 1, 0, none⟩) n n] 49)
def b7K (bR bo P cp h : Nat) : KB := ⟨bR, bo, h, P, cp, h + 1 + 1, h + 1, h + 1 + 1 + 1 + 1, h + 1 + 1 + 1, h + 1 + 1 + 1 + 1 + 1 + 1, h + 1 + 1 + 1 + 1 + 1, h + 1 + 1 + 1 + 1 + 1 + 1 + 1, h + 1 + 1 + 1 + 1 + 1 + 1 + 1 + 1⟩
/-- While it is told who has the token. -/
structure HsK (w4 w7 : World) (B n bR bo P cp : Nat) (u : Nat → Nat) (k : Nat) (w wr : World) : Prop where
  row : BRowG wr (w4.heap.size + 1 + 1 + 1) n (fun j => if j < k then decide (u j = j) else false)
  oth : ∀ q, q ≠ w4.heap.size + 1 + 1 + 1 → wr.heap[q]? = w7.heap[q]?
  sz : wr.heap.size = w7.heap.size
  bl : Below B w wr
theorem rk_start (w4 : World) (n P cp bR bo B : Nat) (u : Nat → Nat) (ZT ZB : List Value) (hB : ZB = List.replicate n (.bool false)) (hT : ZT = List.replicate n (.slice none 0 0)) (hRR : Row w4 bR 27 [.slice none 0 0, .int .u32 0, .int .u32 0, .int .i64 0]) (hRO : Row w4 bo 27 [.slice none 0 0, .int .u32 0, .int .u32 0, .int .i64 0]) (hne : bo ≠ bR)
    (hP : PtsK w4 P n (fun i => (u i : Int))) (l1 : B ≤ bR) (l2 : B ≤ bo) (l3 : B ≤ P) (w wl : World) (hl : HsK w4 (w7K w4 n P cp ZT ZB) B n bR bo P cp u n w wl) :
    RkS ((wl.alloc (.cells #[.slice none 0 0] 50)).alloc (.cells #[giveF (b7K bR bo P cp w4.heap.size)] 53)) B n (b7K bR bo P cp w4.heap.size) (KS.begin u) 0 [] := by
  have hsz7 : (w7K w4 n P cp ZT ZB).heap.size = w4.heap.size + 1 + 1 + 1 + 1 + 1 + 1 + 1 := by unfold w7K; simp
  have r0 : Row (w7K w4 n P cp ZT ZB) (w4.heap.size) 22 [.slice (some ⟨P, 0, none⟩) n cp] := (((((((made_atG _ (by simp) 22 [.slice (some ⟨P, 0, none⟩) n cp]).alloc _).alloc _).alloc _).alloc _).alloc _).alloc _)
  have r1 : Row (w7K w4 n P cp ZT ZB) (w4.heap.size + 1) 22 ZT := ((((((made_atG _ (by simp) 22 ZT).alloc _).alloc _).alloc _).alloc _).alloc _)
  have r2 : Row (w7K w4 n P cp ZT ZB) (w4.heap.size + 1 + 1) 48 [.slice (some ⟨w4.heap.size + 1, 0, none⟩) n n] := (((((made_atG _ (by simp) 48 [.slice (some ⟨w4.heap.size + 1, 0, none⟩) n n]).alloc _).alloc _).alloc _).alloc _)
  have r3 : Row (w7K w4 n P cp ZT ZB) (w4.heap.size + 1 + 1 + 1) 4 ZB := ((((made_atG _ (by simp) 4 ZB).alloc _).alloc _).alloc _)
  have r4 : Row (w7K w4 n P cp ZT ZB) (w4.heap.size + 1 + 1 + 1 + 1) 49 [.slice (some ⟨w4.heap.size + 1 + 1 + 1, 0, none⟩) n n] := (((made_atG _ (by simp) 49 [.slice (some ⟨w4.heap.size + 1 + 1 + 1, 0, none⟩) n n]).alloc _).alloc _)
  have r5 : Row (w7K w4 n P cp ZT ZB) (w4.heap.size + 1 + 1 + 1 + 1 + 1) 4 ZB := ((made_atG _ (by simp) 4 ZB).alloc _)
  have r6 : Row (w7K w4 n P cp ZT ZB) (w4.heap.size + 1 + 1 + 1 + 1 + 1 + 1) 49 [.slice (some ⟨w4.heap.size + 1 + 1 + 1 + 1 + 1, 0, none⟩) n n] := (made_atG _ (by simp) 49 [.slice (some ⟨w4.heap.size + 1 + 1 + 1 + 1 + 1, 0, none⟩) n n])
  have hR7 : Row (w7K w4 n P cp ZT ZB) bR 27 [.slice none 0 0, .int .u32 0, .int .u32 0, .int .i64 0] := ((((((hRR.alloc _).alloc _).alloc _).alloc _).alloc _).alloc _).alloc _
  have hO7 : Row (w7K w4 n P cp ZT ZB) bo 27 [.slice none 0 0, .int .u32 0, .int .u32 0, .int .i64 0] := ((((((hRO.alloc _).alloc _).alloc _).alloc _).alloc _).alloc _).alloc _
  have hP7 : PtsK (w7K w4 n P cp ZT ZB) P n (fun i => (u i : Int)) := by
    obtain ⟨xs, h1, h2⟩ := hP
    exact ⟨xs, ((((((h1.alloc _).alloc _).alloc _).alloc _).alloc _).alloc _).alloc _, h2⟩
  have hB2 : ZB = boolG (fun _ => false) n := by rw [hB, boolG_zero]
  have hT2 : ZT = hdG (fun _ => .slice none 0 0) 0 n := by
    rw [hT]
    apply List.ext_getElem
    · simp [hdG]
    · intro i h1 h2; simp [hdG]
  have z1 := hRR.lt
  have z2 := hRO.lt
  have z3 := hP.lt
  obtain ⟨hrow, hoth, hsz, hbl⟩ := hl
  generalize w7K w4 n P cp ZT ZB = W7 at *
  rw [hB2] at r5
  rw [hT2] at r1
  have kp : ∀ {q : Nat} {t : TypeId} {xs : List Value}, Row W7 q t xs → q ≠ w4.heap.size + 1 + 1 + 1 → Row ((wl.alloc (.cells #[.slice none 0 0] 50)).alloc (.cells #[giveF (b7K bR bo P cp w4.heap.size)] 53)) q t xs := fun {q t xs} hq hn => ((hq.block (hoth q hn)).alloc _).alloc _
  have s1 : wl.heap.size = w4.heap.size + 1 + 1 + 1 + 1 + 1 + 1 + 1 := by rw [hsz, hsz7]
  refine ⟨fun _ => .slice none 0 0, .slice none 0 0, [], .slice none 0 0, ⟨kp hR7 (by first | omega | (simp only [b7K]; omega)), kp hO7 (by first | omega | (simp only [b7K]; omega)), kp r0 (by first | omega | (simp only [b7K]; omega)), ?_, kp r2 (by first | omega | (simp only [b7K]; omega)), kp r1 (by first | omega | (simp only [b7K]; omega)), kp r4 (by first | omega | (simp only [b7K]; omega)), ?_, kp r6 (by first | omega | (simp only [b7K]; omega)), kp r5 (by first | omega | (simp only [b7K]; omega)), ?_, ?_, fun j _ => .nil _ _ _, fun _ _ _ _ _ => .inl rfl, World.ownsRow_nil _ _ _ _, World.ownsRow_nil _ _ _ _, fun j _ => by simp [Value.ownBlock], ?_, ?_⟩, RelL.begin n, Nat.le_refl _⟩
  · simp only [b7K]
    obtain ⟨xs, h1, h2⟩ := hP7
    exact ⟨xs, kp h1 (by omega), h2⟩
  · exact BRowG.congr (Row.alloc (Row.alloc hrow _) _) (fun j hj => by rw [if_pos hj]; rfl)
  · exact (made_atG wl (by rw [s1]; rfl) 50 [.slice none 0 0]).alloc _
  · exact made_atG _ (by simp [s1, b7K]) 53 [giveF (b7K bR bo P cp w4.heap.size)]
  · simp only [b7K]
    refine ⟨?_, ?_, ?_, ?_⟩ <;> omega
  · simp only [b7K]
    refine ⟨?_, ?_, ?_, ?_, ?_, ?_, ?_, ?_, ?_, ?_, ?_, ?_⟩ <;> omega

#print axioms rk_start
end Go.Proofs.Ytejckoffllhjcaa
