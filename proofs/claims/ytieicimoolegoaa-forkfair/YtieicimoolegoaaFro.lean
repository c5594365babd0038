/-
  The contract of beaconryref.Round.
-/
import Derived.Test.YtieicimoolegoaaFsk
import Derived.Test.YtieicimoolegoaaRea
import Derived.StillTailTactics
namespace Go.Proofs.Ytieicimoolegoaa
open Go.RowKit Go.Maps
set_option linter.unusedVariables false

theorem infoU32 : (Try.prog.info? 28).map (fun i => (i.zero, i.size, i.bytes)) = some (some (.int .u32 0), 1, 4) := by kernel_rfl
/-- The first c words of f, as a row's cells. -/
def wordRow (f : Nat → Nat) (c : Nat) : List Value := (List.range c).map fun j => Value.int .u32 (f j : Int)
theorem wordRow_len (f : Nat → Nat) (c : Nat) : (wordRow f c).length = c := by simp [wordRow]
theorem wordRow_get (f : Nat → Nat) {c j : Nat} (h : j < c) : (wordRow f c)[j]'(by rw [wordRow_len]; exact h) = .int .u32 (f j : Int) := by simp [wordRow]
theorem wordRow_congr {f f' : Nat → Nat} {c : Nat} (h : ∀ j, j < c → f j = f' j) : wordRow f c = wordRow f' c := by
  unfold wordRow
  exact List.map_congr_left fun j hj => by rw [h j (List.mem_range.1 hj)]
theorem wordRow_set (f : Nat → Nat) (c j v : Nat) : (wordRow f c).set j (.int .u32 (v : Int)) = wordRow (upN f j v) c := by
  apply List.ext_getElem
  · simp [wordRow]
  · intro b h1 h2
    rw [List.getElem_set]
    by_cases e : j = b
    · subst e; simp [wordRow, upN]
    · rw [if_neg e]
      have : ¬ b = j := fun h => e h.symm
      simp [wordRow, upN, this]
theorem wordRow_zero (c : Nat) : List.replicate c (Value.int .u32 0) = wordRow (fun _ => 0) c := by
  apply List.ext_getElem
  · simp [wordRow]
  · intro b h1 h2; simp [wordRow]
abbrev WRow (w : World) (g c : Nat) (f : Nat → Nat) : Prop := Row w g 28 (wordRow f c)
theorem WRow.at_ {w : World} {g c : Nat} {f : Nat → Nat} (h : WRow w g c f) {j : Nat} (hj : j < c) : w.cell? ⟨g, j, none⟩ = some (.int .u32 (f j : Int)) := by
  rw [Row.cell h (by rw [wordRow_len]; exact hj), wordRow_get f hj]
theorem WRow.put {w : World} {g c : Nat} {f : Nat → Nat} (h : WRow w g c f) (j v : Nat) : WRow (w.setCell ⟨g, j, none⟩ (.int .u32 (v : Int))) g c (upN f j v) := by
  have := Row.set h j (.int .u32 (v : Int))
  rw [wordRow_set] at this
  exact this
theorem WRow.congr {w : World} {g c : Nat} {f f' : Nat → Nat} (h : WRow w g c f) (e : ∀ j, j < c → f j = f' j) : WRow w g c f' := by
  unfold WRow at *
  rw [← wordRow_congr e]; exact h
theorem WRow.wds {w : World} {g c : Nat} {f : Nat → Nat} (h : WRow w g c f) {l : List Nat} (hl : l.length = c) (e : ∀ j, j < c → f j = wat l j) : Wds w w.heap.size (some ⟨g, 0, none⟩) l := by
  intro _
  refine ⟨g, 0, rfl, Row.lt h, fun i hi => ?_⟩
  rw [Nat.zero_add, h.at_ (by omega), e i (by omega)]

theorem outF_zero (l : List Lk) (N i : Nat) : outF l N 0 i = 0 := by
  unfold outF
  rw [wordB_zero]
  intro j _
  rfl
theorem outF_at (l : List Lk) {N k : Nat} (hb : lb l k < N) : outF l N (k + 1) (la l k) = outF l N k (la l k) ||| 2 ^ lb l k := by
  apply Nat.eq_of_testBit_eq
  intro j
  unfold outF
  rw [Nat.testBit_or, wordB_bit, wordB_bit, Nat.testBit_two_pow]
  have hd : outB l (la l k) j (k + 1) = (outB l (la l k) j k || (decide (la l k = la l k) && decide (lb l k = j))) := rfl
  rw [hd, decide_eq_true (rfl : la l k = la l k), Bool.true_and]
  by_cases e : lb l k = j
  · rw [decide_eq_true e, Bool.or_true, Bool.or_true, Bool.and_true, decide_eq_true (show j < N by omega)]
  · rw [decide_eq_false e, Bool.or_false, Bool.or_false]
theorem outF_other (l : List Lk) (N : Nat) {k i : Nat} (h : i ≠ la l k) : outF l N (k + 1) i = outF l N k i := by
  unfold outF
  refine wordB_congr fun j _ => ?_
  have hd : outB l i j (k + 1) = (outB l i j k || (decide (la l k = i) && decide (lb l k = j))) := rfl
  rw [hd, decide_eq_false (fun e => h e.symm), Bool.false_and, Bool.or_false]

def RoRel (w : World) (g N : Nat) (l : List Lk) (k : Nat) (wr : World) : Prop := WRow wr g N (outF l N k) ∧ Below w.heap.size w wr
set_option maxHeartbeats 4000000 in
theorem rround_any (A : Option Addr) (cap : Nat) (l : List Lk) (N : Nat) (w : World) (hE : Lks w w.heap.size A l) (hV : FV N l) (hl : l.length ≤ 1000) (C : Bool) (hC0 : C = true ↔ Cyc N l) :
    Calls Try.prog 13 #[.int .i64 (N : Int), .slice A l.length cap] w fun e w' => e = .returned (.bool C) ∧ Below w.heap.size w w' := by
  have h6 := hV.six
  have h64 := Nat.pow_le_pow_right (n := 2) (by omega) h6
  have hWV := outG_WV hV.one h6 l
  have hEH := Lib.hid hE
  have hokH := Lib.hid (fun k (hk : k < l.length) => hV.at_ hk)
  have hltH : Hid (∀ k i, outF l N k i < 2 ^ N) := fun k i => outF_lt l N k i
  have hrc : Hid (∀ wr g, WRow wr g N (outF l N l.length) → ∀ i, i < N → Calls Try.prog 28 #[.slice (some ⟨g, 0, none⟩) N N, .int .i64 (i : Int)] wr fun e w' => e = .returned (.int .u32 (reach (outG N l) i : Int)) ∧ wr = w') := fun wr g hR i hi => by
    have := reach_any N wr (some ⟨g, 0, none⟩) (outG N l) (hR.wds (outG_len N l) fun j hj => (outG_wat N l hj).symm) hWV i (by rw [outG_len]; exact hi)
    rw [outG_len] at this
    exact this
  have hrl : Hid (∀ i, reach (outG N l) i < 2 ^ N) := fun i => by have := reach_lt hWV i; rwa [outG_len] at this
  have hyes : Hid (∀ i, i < N → (reach (outG N l) i).testBit i = true → C = true) := fun i hi h => hC0.2 ⟨i, (reach_iff hWV i i).1 h⟩
  have hno : Hid ((∀ i, i < N → (reach (outG N l) i).testBit i = false) → C = false) := fun h => by
    rw [← Bool.not_eq_true, hC0]
    rintro ⟨j, hj⟩
    have hjN : j < N := by have := hj.lt hWV; rwa [outG_len] at this
    have := h j hjN
    rw [(reach_iff hWV j j).2 hj] at this
    cases this
  obtain ⟨j0, hi0, hz0, hz1, hz2⟩ := info_parts infoU32
  have hJi := Lib.hid hi0; have hJz := Lib.hid hz0; have hJs := Lib.hid hz1; have hJb := Lib.hid hz2
  have h1 := hV.one
  clear hi0 hz0 hz1 hz2 hE hV hC0 hWV
  go_enter Try.func13, Try.ntmps13
  go_wp2_with (first
    | (at_make; refine wpList_make_row _ rfl (.tmp 9) (.tmp 9) 47 rfl 28 j0 (.int .u32 0) Try.underlying47 hJi.out hJz.out hJs.out rfl .i64 .i64 _ _ N rfl rfl rfl rfl (by rw [hJb.out]; omega) (by unfold maxLen; omega) ?_; intro w2 hR2 hG2))
  have hst : RoRel w w.heap.size N l 0 w2 := by
    refine ⟨?_, (Below.refl _ w).grown hG2 (Nat.le_refl _) (fun k hk => by cases hk)⟩
    rw [wordRow_zero] at hR2
    exact WRow.congr hR2 fun j _ => (outF_zero l N j).symm
  have hstH := Lib.hid hst
  have hgw : Hid (w.heap.size = w.heap.size) := rfl
  clear hR2 hG2 hst
  go_loopw [13] (fun t wr => ∃ k : Nat, k ≤ l.length ∧ t = .int .i64 k ∧ RoRel w w.heap.size N l k wr) (fun t _ => l.length - (intOf t).toNat)
  case atStart => exact ⟨0, Nat.zero_le _, rfl, hstH.out⟩
  case round =>
    clear hstH
    obtain ⟨k, hk, rfl, hR, hB⟩ := hrel
    rename World => wr
    by_cases hlt : k < l.length
    · obtain ⟨b, off, rfl, hb, c3, c4⟩ := (hEH.out.below hB).at_ hlt
      obtain ⟨ha, hbb, hx, hy, hxy⟩ := hokH.out k hlt
      rw [ha] at c3
      rw [hbb] at c4
      have hkI : (k : Int) < (l.length : Int) := by omega
      have hB1 := lk_alloc hB (la l k : Int) (lb l k : Int)
      have hR1 := Row.made wr 43 [.int .i64 (la l k : Int), .int .i64 (lb l k : Int)]
      have d0 := hR1.cell (i := 0) (by simp)
      have d1 := hR1.cell (i := 1) (by simp)
      simp only [List.getElem_cons_zero, List.getElem_cons_succ] at d0 d1
      have hRa : WRow (wr.alloc (.cells #[.int .i64 (la l k : Int), .int .i64 (lb l k : Int)] 43)) w.heap.size N (outF l N k) := Row.alloc hR _
      have e0 := hRa.at_ hx
      have z0 := Row.frozen hRa (la l k)
      have hat := Lib.hid (outF_at l (N := N) hy)
      have hot : Hid (∀ i, i ≠ la l k → outF l N (k + 1) i = outF l N k i) := fun i hi => outF_other l N hi
      have hSl := hltH.out k (la l k)
      have hRH := Lib.hid hRa
      have hBH := Lib.hid hB1
      clear ha hbb hR1 hR hB hRa hB1
      generalize hS : outF l N k (la l k) = S at *
      have hxI : (la l k : Int) < (N : Int) := by omega
      have hx0 : (0 : Int) ≤ (la l k : Int) := by omega
      have hy32 : (lb l k : Int) < 32 := by omega
      have hval := Lib.hid (set_val S (lb l k) (by omega) (by omega))
      clear hS
      generalize la l k = x at *
      generalize lb l k = y at *
      generalize hw1 : wr.alloc (.cells #[.int .i64 (x : Int), .int .i64 (y : Int)] 43) = w1 at *
      go_wp2_with fail
      go_still_tail 13, (by kernel_rfl)
      change wpList _ _ _ _ _ w1.drew
      have e0d : w1.drew.cell? ⟨w.heap.size, x, none⟩ = some (.int .u32 (S : Int)) := e0
      have z0d : w1.drew.frozen? ⟨w.heap.size, x, none⟩ = false := z0
      have hRd : Hid (WRow w1.drew w.heap.size N (outF l N k)) := hRH.out
      have hBd : Hid (Below w.heap.size w w1.drew) := below_drewN hBH.out 1
      generalize w1.drew = w9 at *
      clear d0 d1 e0 z0 hw1 c3 c4
      go_wp2_with fail
      go_roundw
      case rel =>
        refine ⟨k + 1, by omega, by go_num, ?_, hBd.out.setCell (Nat.le_refl _) _⟩
        rw [Nat.min_eq_left (show y ≤ 32 by omega), hval.out]
        refine (WRow.put hRd.out x _).congr fun j hj => ?_
        unfold upN
        by_cases e : j = x
        · rw [if_pos e, e, hat.out]
        · rw [if_neg e, hot.out j e]
      case measure => simp [intOf]; omega
    · have hkl : k = l.length := by omega
      subst hkl
      have hrc2 := Lib.hid (hrc.out wr w.heap.size hR)
      have hRH := Lib.hid hR
      clear hrc hR hokH hltH hEH
      go_wp2_with fail
      go_loop [8] (fun t => ∃ i : Nat, i ≤ N ∧ t = .int .i64 i ∧ Hid (∀ j, j < i → (reach (outG N l) j).testBit j = false)) (fun t => N - (intOf t).toNat)
      case atStart => exact ⟨0, Nat.zero_le _, rfl, fun _ h => absurd h (Nat.not_lt_zero _)⟩
      case round =>
        obtain ⟨i, hi, rfl, hr⟩ := hrel
        by_cases hiN : i < N
        · have hiI : (i : Int) < (N : Int) := by omega
          have hcc := Lib.hid (hrc2.out i hiN)
          have hRl := hrl.out i
          have hye : Hid ((reach (outG N l) i).testBit i = true → C = true) := hyes.out i hiN
          have hne : Hid ((reach (outG N l) i).testBit i = false → ∀ j, j < i + 1 → (reach (outG N l) j).testBit j = false) := fun h j hj => by
            by_cases e : j = i
            · subst e; exact h
            · exact hr.out j (by omega)
          generalize reach (outG N l) i = Q at *
          have hbt := Lib.hid (bit_any Q i wr (by omega) (by omega))
          cases e : Q.testBit i with
          | true =>
            have hfin := Lib.hid (hye.out e)
            rw [e] at hbt
            clear hye hne e
            go_wp2_with fail
            refine hcc.out.mono ?_
            rintro e w1 ⟨rfl, rfl⟩
            go_wp2_with fail
            refine hbt.out.mono ?_
            rintro e w1 ⟨rfl, rfl⟩
            go_wp2_with fail
            go_ret
            exact ⟨by rw [hfin.out]; rfl, hB⟩
          | false =>
            have hnx := Lib.hid (hne.out e)
            rw [e] at hbt
            clear hye hne e
            go_wp2_with fail
            refine hcc.out.mono ?_
            rintro e w1 ⟨rfl, rfl⟩
            go_wp2_with fail
            refine hbt.out.mono ?_
            rintro e w1 ⟨rfl, rfl⟩
            go_wp2_with fail
            go_round
            case rel => exact ⟨i + 1, by omega, by go_num, hnx⟩
            case measure => simp [intOf]; omega
        · have hiN' : i = N := by omega
          subst hiN'
          have hfin := Lib.hid (hno.out hr.out)
          go_wp2_with fail
          go_ret
          exact ⟨by rw [hfin.out]; rfl, hB⟩
#print axioms rround_any
end Go.Proofs.Ytieicimoolegoaa
