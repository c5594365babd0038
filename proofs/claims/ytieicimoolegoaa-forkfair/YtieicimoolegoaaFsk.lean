/-
  The contracts of fork.sinks, fork.hasCycle, fork.Round, fork.Low.
-/
import Derived.Test.YtieicimoolegoaaFck
namespace Go.Proofs.Ytieicimoolegoaa
open Go.RowKit Go.Maps
set_option linter.unusedVariables false

theorem snk_lt {N s : Nat} (hs : s < 2 ^ N) (l : List Lk) (k : Nat) : snk s l k < 2 ^ N := subW_lt (snk_sub _ _ _) N hs
def SkRel (w : World) (wr : World) : Prop := Below w.heap.size w wr
set_option maxHeartbeats 1600000 in
theorem sinks_any (A : Option Addr) (cap : Nat) (l : List Lk) (N s : Nat) (w : World) (hE : Lks w w.heap.size A l) (hN : N ≤ 6) (hok : LOk (N : Int) l) (hs : s < 2 ^ N) (hl : l.length ≤ 1000) :
    Calls Try.prog 29 #[.int .u32 (s : Int), .slice A l.length cap] w fun e w' => e = .returned (.int .u32 (low s l : Int)) ∧ Below w.heap.size w w' := by
  have h64 := Nat.pow_le_pow_right (n := 2) (by omega) hN
  have hEH := Lib.hid hE
  have hokH := Lib.hid (fun k (hk : k < l.length) => hok.at_ hk)
  have hltH : Hid (∀ k, snk s l k < 2 ^ N) := fun k => snk_lt hs l k
  have hdone : Hid (low s l = snk s l l.length) := rfl
  clear hE hok
  go_enter Try.func29, Try.ntmps29
  go_wp2_with fail
  go_loopw [11, 5] (fun t v wr => ∃ k : Nat, k ≤ l.length ∧ t = .int .i64 k ∧ v = .int .u32 (snk s l k : Int) ∧ SkRel w wr) (fun t _ _ => l.length - (intOf t).toNat)
  case atStart => exact ⟨0, Nat.zero_le _, rfl, rfl, Below.refl _ _⟩
  case round =>
    obtain ⟨k, hk, rfl, rfl, hB⟩ := hrel
    unfold SkRel at hB
    by_cases hlt : k < l.length
    · obtain ⟨b, off, rfl, hb, c3, c4⟩ := (hEH.out.below hB).at_ hlt
      obtain ⟨ha, hbb, h1, h2, h3⟩ := hokH.out k hlt
      rw [ha] at c3
      rw [hbb] at c4
      have hkI : (k : Int) < (l.length : Int) := by omega
      have hB1 := Lib.hid (lk_alloc hB (la l k : Int) (lb l k : Int))
      have hR1 := Row.made wr 43 [.int .i64 (la l k : Int), .int .i64 (lb l k : Int)]
      have d0 := hR1.cell (i := 0) (by simp)
      have d1 := hR1.cell (i := 1) (by simp)
      simp only [List.getElem_cons_zero, List.getElem_cons_succ] at d0 d1
      have hSl := hltH.out k
      have hcc := Lib.hid (fun w => has_any s (lb l k) w (by omega) (by omega))
      have hn1 : Hid (s.testBit (lb l k) = true → snk s l (k + 1) = snk s l k &&& (4294967295 - 2 ^ la l k)) := fun h => by show (if _ then _ else _) = _; rw [if_pos h]
      have hn0 : Hid (s.testBit (lb l k) = false → snk s l (k + 1) = snk s l k) := fun h => by show (if _ then _ else _) = _; rw [if_neg (by rw [h]; decide)]
      clear ha hbb hR1 hB
      generalize snk s l k = S at *
      generalize la l k = x at *
      generalize lb l k = y at *
      have hx32 : (x : Int) < 32 := by omega
      have hval : Hid (bits BinOp.andNot IntKind.u32 (S : Int) (2 ^ x % 4294967296) = ((S &&& (4294967295 - 2 ^ x) : Nat) : Int)) := by
        unfold Hid
        rw [pow_mod x (by omega), u32_andNot_nat S (2 ^ x) (by omega) (pow_lt x (by omega))]
      cases e : s.testBit y with
      | true =>
        have hnx := Lib.hid (hn1.out e)
        rw [e] at hcc
        clear hn1 hn0 e
        go_wp2_with fail
        refine (hcc.out _).mono ?_
        rintro e w1 ⟨rfl, rfl⟩
        go_wp2_with fail
        go_roundw
        case rel => exact ⟨k + 1, by omega, by go_num, by rw [hnx.out, ← hval.out], hB1.out⟩
        case measure => simp [intOf]; omega
      | false =>
        have hnx := Lib.hid (hn0.out e)
        rw [e] at hcc
        clear hn1 hn0 e
        go_wp2_with fail
        refine (hcc.out _).mono ?_
        rintro e w1 ⟨rfl, rfl⟩
        go_wp2_with fail
        go_roundw
        case rel => exact ⟨k + 1, by omega, by go_num, by rw [hnx.out], hB1.out⟩
        case measure => simp [intOf]; omega
    · have hkl : k = l.length := by omega
      subst hkl
      go_wp2_with fail
      go_ret
      exact ⟨by rw [hdone.out]; rfl, hB⟩

set_option maxHeartbeats 1600000 in
theorem hasCycle_any (A : Option Addr) (cap : Nat) (l : List Lk) (N : Nat) (w : World) (hE : Lks w w.heap.size A l) (hV : FV N l) (hl : l.length ≤ 1000) (C : Bool) (hC0 : C = true ↔ Cyc N l) :
    Calls Try.prog 25 #[.int .i64 (N : Int), .slice A l.length cap] w fun e w' => e = .returned (.bool C) ∧ Below w.heap.size w w' := by
  have h6 := hV.six
  have h64 := Nat.pow_le_pow_right (n := 2) (by omega) hV.six
  have hEH := Lib.hid hE
  have hltH : Hid (∀ k, rst N l k < 2 ^ N) := rst_lt N l
  have hC : Hid (C = (((rst N l N : Nat) : Int) != 0)) := by
    unfold Hid
    rw [Bool.eq_iff_iff, hC0, ← rst_iff hV, bne_iff_ne]
    omega
  have hev := Lib.hid (everybody_any N h6 w)
  have hcall : Hid (∀ k wr, Below w.heap.size w wr → Calls Try.prog 29 #[.int .u32 (rst N l k : Int), .slice A l.length cap] wr fun e w' => e = .returned (.int .u32 (low (rst N l k) l : Int)) ∧ Below wr.heap.size wr w') := fun k wr hB => sinks_any A cap l N (rst N l k) wr ((hE.below hB).more hB.size) h6 hV.ok (rst_lt N l k) hl
  have hlow : Hid (∀ k, low (rst N l k) l < 2 ^ N) := fun k => low_lt (rst_lt N l k) l
  have hnx : Hid (∀ k, rst N l (k + 1) = rst N l k &&& (4294967295 - low (rst N l k) l)) := fun k => rfl
  have h0 : Hid (rst N l 0 = 2 ^ N - 1) := rfl
  clear hE hV hC0
  go_enter Try.func25, Try.ntmps25
  go_wp2_with fail
  refine hev.out.mono ?_
  rintro e w1 ⟨rfl, rfl⟩
  go_wp2_with fail
  go_loopw [9, 5] (fun t v wr => ∃ k : Nat, k ≤ N ∧ t = .int .i64 k ∧ v = .int .u32 (rst N l k : Int) ∧ SkRel w wr) (fun t _ _ => N - (intOf t).toNat)
  case atStart => exact ⟨0, Nat.zero_le _, rfl, by rw [h0.out], Below.refl _ _⟩
  case round =>
    obtain ⟨k, hk, rfl, rfl, hB⟩ := hrel
    unfold SkRel at hB
    by_cases hlt : k < N
    · have hkI : (k : Int) < (N : Int) := by omega
      have hSl := hltH.out k
      have hLl := hlow.out k
      have hcc := Lib.hid (hcall.out k wr hB)
      have hnk := Lib.hid (hnx.out k)
      have hBH := Lib.hid hB
      clear hnx hcall hltH hlow hB
      generalize low (rst N l k) l = L at *
      generalize rst N l k = S at *
      have hval : Hid (bits BinOp.andNot IntKind.u32 (S : Int) (L : Int) = ((S &&& (4294967295 - L) : Nat) : Int)) := u32_andNot_nat S L (by omega) (by omega)
      go_wp2_with fail
      refine hcc.out.mono ?_
      rintro e w1 ⟨rfl, hB2⟩
      have hB3 := Lib.hid (hBH.out.trans (hB2.mono hBH.out.size))
      clear hB2
      go_wp2_with fail
      go_roundw
      case rel => exact ⟨k + 1, by omega, by go_num, by rw [hnk.out, ← hval.out], hB3.out⟩
      case measure => simp [intOf]; omega
    · have hkl : k = N := by omega
      subst hkl
      go_wp2_with fail
      go_ret
      exact ⟨by rw [hC.out]; rfl, hB⟩

open Classical in
/-- What Round and Low tell. -/
noncomputable def roundOut (n : Int) (l : List Lk) : Bool := if fcode n l = 0 ∧ Cyc n.toNat l then true else false
noncomputable def lowOut (n : Int) (l : List Lk) : Nat := if fcode n l = 0 then lowN n.toNat l else 0
theorem roundOut_iff {n : Int} {l : List Lk} (h : fcode n l = 0) : roundOut n l = true ↔ Cyc n.toNat l := by
  unfold roundOut
  split
  · next h1 => exact ⟨fun _ => h1.2, fun _ => rfl⟩
  · next h1 => exact ⟨(nomatch ·), fun x => absurd ⟨h, x⟩ h1⟩
theorem roundOut_no {n : Int} {l : List Lk} (h : fcode n l ≠ 0) : roundOut n l = false := by
  unfold roundOut
  rw [if_neg fun x => h x.1]
theorem lowOut_ok {n : Int} {l : List Lk} (h : fcode n l = 0) : lowOut n l = lowN n.toNat l := by unfold lowOut; rw [if_pos h]
theorem lowOut_no {n : Int} {l : List Lk} (h : fcode n l ≠ 0) : lowOut n l = 0 := by unfold lowOut; rw [if_neg h]
def RoundRes (w : World) (n : Int) (l : List Lk) (e : Ending) (w' : World) : Prop := e = .returned (.tuple #[.bool (roundOut n l), .int .i64 (fcode n l)]) ∧ Below w.heap.size w w'
def LowRes (w : World) (n : Int) (l : List Lk) (e : Ending) (w' : World) : Prop := e = .returned (.tuple #[.int .u32 (lowOut n l : Int), .int .i64 (fcode n l)]) ∧ Below w.heap.size w w'

set_option maxHeartbeats 800000 in
theorem round_any (A : Option Addr) (cap : Nat) (l : List Lk) (n : Int) (w : World) (hE : Lks w w.heap.size A l) (hc : l.length ≤ cap) (hl : l.length ≤ 17592186044416) :
    Calls Try.prog 11 #[.int .i64 n, .slice A l.length cap] w (RoundRes w n l) := by
  have hchk := Lib.hid (check_any A cap l n w hE hc hl)
  by_cases hf : fcode n l = 0
  · obtain ⟨hn, hV⟩ := fcode_FV hf
    have h15 := fcode_len hf
    have hcall : Hid (∀ wr, Below w.heap.size w wr → Calls Try.prog 25 #[.int .i64 n, .slice A l.length cap] wr fun e w' => e = .returned (.bool (roundOut n l)) ∧ Below wr.heap.size wr w') := fun wr hB => by
      have := hasCycle_any A cap l n.toNat wr ((hE.below hB).more hB.size) hV (by omega) (roundOut n l) (roundOut_iff hf)
      rw [← hn] at this
      exact this
    unfold RoundRes
    rw [hf] at hchk ⊢
    generalize roundOut n l = R at *
    clear hE hn hV hf
    go_enter Try.func11, Try.ntmps11
    go_wp2_with fail
    refine hchk.out.mono ?_
    rintro e w1 ⟨rfl, hB1⟩
    have hcc := Lib.hid (hcall.out w1 hB1)
    clear hcall
    go_wp2_with fail
    refine hcc.out.mono ?_
    rintro e w2 ⟨rfl, hB2⟩
    go_wp2_with fail
    go_ret2
    exact ⟨rfl, hB1.trans (hB2.mono hB1.size)⟩
  · unfold RoundRes
    rw [roundOut_no hf]
    generalize fcode n l = x at *
    have hx : (x != 0) = true := by simpa using hf
    clear hE
    go_enter Try.func11, Try.ntmps11
    go_wp2_with fail
    refine hchk.out.mono ?_
    rintro e w1 ⟨rfl, hB1⟩
    go_wp2_with fail
    go_ret2
    exact ⟨rfl, hB1⟩

set_option maxHeartbeats 800000 in
theorem low_any (A : Option Addr) (cap : Nat) (l : List Lk) (n : Int) (w : World) (hE : Lks w w.heap.size A l) (hc : l.length ≤ cap) (hl : l.length ≤ 17592186044416) :
    Calls Try.prog 14 #[.int .i64 n, .slice A l.length cap] w (LowRes w n l) := by
  have hchk := Lib.hid (check_any A cap l n w hE hc hl)
  by_cases hf : fcode n l = 0
  · obtain ⟨hn, hV⟩ := fcode_FV hf
    have h15 := fcode_len hf
    have hev : Hid (∀ wr, Calls Try.prog 30 #[.int .i64 n] wr fun e w' => e = .returned (.int .u32 ((2 ^ n.toNat - 1 : Nat) : Int)) ∧ wr = w') := fun wr => by
      have := everybody_any n.toNat hV.six wr
      rw [← hn] at this
      exact this
    have hcall : Hid (∀ wr, Below w.heap.size w wr → Calls Try.prog 29 #[.int .u32 ((2 ^ n.toNat - 1 : Nat) : Int), .slice A l.length cap] wr fun e w' => e = .returned (.int .u32 (lowN n.toNat l : Int)) ∧ Below wr.heap.size wr w') := fun wr hB => sinks_any A cap l n.toNat _ wr ((hE.below hB).more hB.size) hV.six hV.ok (all_lt _) (by omega)
    unfold LowRes
    rw [lowOut_ok hf]
    rw [hf] at hchk ⊢
    generalize lowN n.toNat l = R at *
    generalize 2 ^ n.toNat - 1 = Q at *
    clear hE hn hV hf
    go_enter Try.func14, Try.ntmps14
    go_wp2_with fail
    refine hchk.out.mono ?_
    rintro e w1 ⟨rfl, hB1⟩
    have hcc := Lib.hid (hcall.out w1 hB1)
    clear hcall
    go_wp2_with fail
    refine (hev.out _).mono ?_
    rintro e w2 ⟨rfl, rfl⟩
    go_wp2_with fail
    refine hcc.out.mono ?_
    rintro e w2 ⟨rfl, hB2⟩
    go_wp2_with fail
    go_ret2
    exact ⟨rfl, hB1.trans (hB2.mono hB1.size)⟩
  · unfold LowRes
    rw [lowOut_no hf]
    generalize fcode n l = x at *
    have hx : (x != 0) = true := by simpa using hf
    clear hE
    go_enter Try.func14, Try.ntmps14
    go_wp2_with fail
    refine hchk.out.mono ?_
    rintro e w1 ⟨rfl, hB1⟩
    go_wp2_with fail
    go_ret2
    exact ⟨rfl, hB1⟩
#print axioms round_any
#print axioms low_any
end Go.Proofs.Ytieicimoolegoaa
