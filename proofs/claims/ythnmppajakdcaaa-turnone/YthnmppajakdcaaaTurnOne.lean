/-
  The walk of the law TurnOne: no two are in the critical section, and none that is in it is requesting.
-/
import Derived.Test.YthnmppajakdcaaaTpl
import Derived.Test.YthnmppajakdcaaaPlq
import Derived.Test.YthnmppajakdcaaaBtw
namespace Go.Proofs.Ythnmppajakdcaaa
open Go.RowKit Go.Maps
set_option linter.unusedVariables false

/-! The argument: no two are in. -/
theorem TInv.two {n : Nat} {S : TS} (h : TInv n S) {i j : Nat} (hi : S.ins i = true) (hj : S.ins j = true) : i = j := by
  by_cases e : i = j
  · exact e
  · have hz : ∀ a b, S.ins a = true → S.own a b = 0 := fun a b ha => by
      by_cases e : S.own a b = 0
      · exact e
      · have := h.one a (h.ownR a b e)
        rw [ha] at this; cases this
    obtain ⟨a1, a2, _⟩ := TS.own_zero (hz i j hi)
    obtain ⟨b1, b2, _⟩ := TS.own_zero (hz j i hj)
    exact (TS.bef_asymm (h.prec i j e (.inr hi) (.inr hj) a1 a2) (h.prec j i (fun e2 => e e2.symm) (.inr hj) (.inr hi) b1 b2)).elim
theorem ins_size (n : Nat) (l : List Mv) (k : Nat) : bcnt (wordB n (tAt n l k).ins) 32 ≤ 1 := bcnt_one (fun i j hi hj => by
  rw [wordB_bit] at hi hj
  simp only [Bool.and_eq_true] at hi hj
  exact (TInv.at_ n l k).two hi.2 hj.2) 32
theorem ins_want (n : Nat) (l : List Mv) (k : Nat) : wordB n (tAt n l k).ins &&& wordB n (tAt n l k).req = 0 := wordB_apart fun i _ hi => by
  cases e : (tAt n l k).req i with
  | false => rfl
  | true => have := (TInv.at_ n l k).one i e; rw [hi] at this; cases this
theorem wayT_nonneg (n : Nat) (S : TS) : 0 ≤ wayT n S := sum2_nonneg fun _ _ => by omega

set_option maxHeartbeats 1000000 in
theorem tone_no (w : World) (n : Int) (A : Option Addr) (cap : Nat) (l : List Mv) (hl : l.length ≤ maxLen) (h0 : ¬ Plays n l.length) :
    Calls Try.prog 4 #[.int .i64 n, .slice A l.length cap] w fun e w' => e = .returned (.bool true) ∧ Below w.heap.size w w' := by
  have h0H := Lib.hid h0
  have hno : Hid (¬ (1 ≤ n ∧ n ≤ 6 ∧ (l.length : Int) ≤ 60)) := fun h => h0 ⟨h.1, h.2.1, by omega⟩
  clear h0
  go_enter Try.func4, Try.ntmps4
  go_wp2_with fail
  refine (play_no A cap l n _ hl h0H.out).mono ?_
  rintro e w1 ⟨rfl, hB1⟩
  have hB2 := hB1.alloc hB1.size (.cells #[.slice none 0 0, .int .u32 0, .int .u32 0, .int .i64 0] 26)
  clear hB1
  go_wp2_with fail
  generalize w1.alloc (.cells #[.slice none 0 0, .int .u32 0, .int .u32 0, .int .i64 0] 26) = w2 at *
  refine (played_any w2 n (l.length : Int) false ⟨fun h => absurd h (by decide), fun h => absurd h hno.out⟩).mono ?_
  rintro e w5 ⟨rfl, rfl⟩
  go_wp2_with fail
  go_ret
  exact ⟨rfl, hB2⟩

set_option maxHeartbeats 4000000 in
set_option maxRecDepth 100000 in
theorem tone_ok (w : World) (n : Nat) (A : Option Addr) (cap : Nat) (l : List Mv) (hE : Mvs w w.heap.size A l) (hF : MFits l) (h0 : Plays (n : Int) l.length) :
    Calls Try.prog 4 #[.int .i64 (n : Int), .slice A l.length cap] w fun e w' => e = .returned (.bool true) ∧ Below w.heap.size w w' := by
  have h60 := h0.2.2
  have hn : n ≤ 6 := by have := h0.2.1; omega
  have h0H := Lib.hid h0
  have hyes : Hid (1 ≤ (n : Int) ∧ (n : Int) ≤ 6 ∧ (l.length : Int) ≤ 60) := ⟨h0.1, h0.2.1, by omega⟩
  have hsz := Lib.hid (ins_size n l l.length)
  have han := Lib.hid (ins_want n l l.length)
  have hy0 : 0 ≤ wayT n (tAt n l l.length) := wayT_nonneg _ _
  have hV := wordB_small hn (tAt n l l.length).ins
  have hW := wordB_small hn (tAt n l l.length).req
  have hEH := Lib.hid hE
  have hFH := Lib.hid hF
  clear h0 hE hF
  go_enter Try.func4, Try.ntmps4
  go_wp2_with fail
  refine (play_ok A cap l n _ hEH.out hFH.out h0H.out).mono ?_
  rintro e w1 ⟨gc, rfl, hO1, hgc1, hB1⟩
  unfold ttVal
  generalize wordB n (tAt n l l.length).ins = V at *
  generalize wordB n (tAt n l l.length).req = W at *
  generalize wayT n (tAt n l l.length) = y at *
  have hR2 := Row.made w1 26 [.slice (some ⟨gc, 0, none⟩) l.length l.length, .int .u32 (V : Int), .int .u32 (W : Int), .int .i64 y]
  have hB2 := hB1.alloc hB1.size (.cells #[.slice (some ⟨gc, 0, none⟩) l.length l.length, .int .u32 (V : Int), .int .u32 (W : Int), .int .i64 y] 26)
  clear hB1 hO1 hgc1
  go_wp2_with fail
  generalize w1.alloc (.cells #[.slice (some ⟨gc, 0, none⟩) l.length l.length, .int .u32 (V : Int), .int .u32 (W : Int), .int .i64 y] 26) = w2 at *
  generalize w1.heap.size = b1 at *
  refine (played_any w2 n (l.length : Int) true ⟨fun _ => hyes.out, fun _ => rfl⟩).mono ?_
  rintro e w5 ⟨rfl, rfl⟩
  have y0 := hR2.cell (i := 0) (by simp)
  have y1 := hR2.cell (i := 1) (by simp)
  have y2 := hR2.cell (i := 2) (by simp)
  have y3 := hR2.cell (i := 3) (by simp)
  simp only [List.getElem_cons_zero, List.getElem_cons_succ] at y0 y1 y2 y3
  clear hR2
  have ll : ((l.length : Int) == (l.length : Int)) = true := by simp
  have hav : bits BinOp.and IntKind.u32 (V : Int) (W : Int) = 0 := by rw [and_val V W (by omega) (by omega), han.out]; rfl
  have hszI : (bcnt V 32 : Int) ≤ 1 := by have := hsz.out; omega
  have hcall := Lib.hid (size_any V w5 (by omega))
  generalize bcnt V 32 = z at *
  clear hsz
  go_wp2_with fail
  refine hcall.out.mono ?_
  rintro e w6 ⟨rfl, rfl⟩
  go_wp2_with fail
  go_ret
  exact ⟨rfl, hB2⟩

theorem turnOne_law (w : World) (n : Int) (_hn : I64 n) (A : Option Addr) (cap : Nat) (l : List Mv) (hE : Mvs w w.heap.size A l) (hF : MFits l) (hcap : l.length ≤ cap) (hl : l.length ≤ maxLen) (hs : l.length ≤ 17592186044416) :
    Calls Try.prog 4 #[.int .i64 n, .slice A l.length cap] w fun e w' => e = .returned (.bool true) ∧ Below w.heap.size w w' := by
  by_cases h0 : Plays n l.length
  · have h1 := h0.1
    obtain ⟨c, rfl⟩ := Int.eq_ofNat_of_zero_le (show 0 ≤ n by omega)
    exact tone_ok w c A cap l hE hF h0
  · exact tone_no w n A cap l hl h0

#print axioms turnOne_law
end Go.Proofs.Ythnmppajakdcaaa
