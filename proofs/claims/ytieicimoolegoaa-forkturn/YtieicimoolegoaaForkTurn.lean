/-
  The walk of the law beaconrykeep.ForkTurn.
-/
import Derived.Test.YtieicimoolegoaaFrn
import Derived.Test.YtieicimoolegoaaFfc
import Derived.Test.YtieicimoolegoaaIns
namespace Go.Proofs.Ytieicimoolegoaa
open Go.RowKit Go.Maps
set_option linter.unusedVariables false

theorem inB_one (n s : Int) : inB n [s] = inP n s := by simp [inB, inP]
/-- Leads one of the first k links to j? -/
def ownB (l : List Lk) (j k : Nat) : Bool := anyB (fun m => decide ((lat l m).b = (j : Int))) k
theorem ownB_succ (l : List Lk) (j k : Nat) : ownB l j (k + 1) = (ownB l j k || decide ((lat l k).b = (j : Int))) := rfl
theorem ownB_iff {N : Nat} {l : List Lk} (h : FV N l) (j : Nat) : ownB l j l.length = true ↔ ∃ k, k < l.length ∧ lb l k = j := by
  unfold ownB
  rw [anyB_iff]
  constructor
  · rintro ⟨k, hk, e⟩
    rw [decide_eq_true_iff] at e
    have := (h.at_ hk).2.1
    exact ⟨k, hk, by omega⟩
  · rintro ⟨k, hk, e⟩
    have := (h.at_ hk).2.1
    exact ⟨k, hk, by rw [decide_eq_true_iff]; omega⟩
theorem rev_la {l : List Lk} {j k : Nat} (hk : k < l.length) : (lb l k = j → la (revL (2 ^ j) l) k = j) ∧ (lb l k ≠ j → la (revL (2 ^ j) l) k = la l k) := by
  constructor
  · intro e
    rw [(revL_on hk (by rw [e]; exact (pow_bit j j).2 rfl)).1, e]
  · intro e
    exact (revL_off hk (by rw [← Bool.not_eq_true, pow_bit]; exact e)).1
theorem turn_own {N : Nat} {l : List Lk} (h : FV N l) {j : Nat} (hj : j < N) (hs : ∀ k, k < l.length → la l k ≠ j) : (lowN N (revL (2 ^ j) l)).testBit j = !ownB l j l.length := by
  have hR := revL_FV (2 ^ j) h
  cases e : ownB l j l.length with
  | true =>
    obtain ⟨k, hk, e1⟩ := (ownB_iff h j).1 e
    show _ = false
    rw [← Bool.not_eq_true, lowN_bit hR.six hR.ok]
    rintro ⟨_, h2⟩
    exact h2 k (by rw [revL_len]; exact hk) ((rev_la hk).1 e1)
  | false =>
    show _ = true
    rw [lowN_bit hR.six hR.ok]
    refine ⟨hj, fun k hk => ?_⟩
    rw [revL_len] at hk
    rw [(rev_la hk).2 (fun e1 => by rw [(ownB_iff h j).2 ⟨k, hk, e1⟩] at e; cases e)]
    exact hs k hk
theorem turn_keeps {N : Nat} {l : List Lk} (h : FV N l) {j : Nat} : subW (lowN N l &&& (4294967295 - lowN N (revL (2 ^ j) l))) (2 ^ j) := by
  have hR := revL_FV (2 ^ j) h
  have h64 := Nat.pow_le_pow_right (n := 2) (by omega) h.six
  have hl := lowN_lt N (revL (2 ^ j) l)
  intro v hv
  rw [andNot_bit _ _ _ (by omega), lowN_bit h.six h.ok] at hv
  obtain ⟨_, ⟨h1, h2⟩, h3⟩ := hv
  rw [pow_bit]
  apply Classical.byContradiction
  intro hne
  rw [← Bool.not_eq_true, lowN_bit hR.six hR.ok] at h3
  apply h3
  refine ⟨h1, fun k hk => ?_⟩
  rw [revL_len] at hk
  by_cases e : lb l k = j
  · rw [(rev_la hk).1 e]; exact fun e => hne e.symm
  · rw [(rev_la hk).2 e]; exact h2 k hk

def TuRel (w wr : World) : Prop := Below w.heap.size w wr
def TuGoal (w : World) (n : Int) (A : Option Addr) (cap : Nat) (l : List Lk) (i : Int) : Prop := Calls Try.prog 8 #[.int .i64 n, .slice A l.length cap, .int .i64 i] w fun e w' => e = .returned (.bool true) ∧ Below w.heap.size w w'

set_option maxHeartbeats 3200000 in
theorem forkTurn_no (w : World) (n : Int) (A : Option Addr) (cap : Nat) (l : List Lk) (hE : Lks w w.heap.size A l) (hc : l.length ≤ cap) (hl : l.length ≤ 17592186044416) (i : Int) (hno : fcode n l ≠ 0 ∨ inP n i = false) : TuGoal w n A cap l i := by
  unfold TuGoal
  have h1 := Lib.hid (turn_any_ A cap l n i w hE hc hl)
  have h3 : Hid (∀ w1, Below w.heap.size w w1 → ∀ C : Bool, (C = true ↔ fcode n l = 0) → Calls Try.prog 22 #[.int .i64 n, .slice A l.length cap] w1 fun e w' => e = .returned (.bool C) ∧ Below w1.heap.size w1 w') := fun w1 hB C hC => forked_any A cap l n w1 ((hE.below hB).more hB.size) hc hl C hC
  unfold TurnRes at h1
  by_cases hf : fcode n l = 0
  · have hin : inP n i = false := by
      rcases hno with h | h
      · exact absurd hf h
      · exact h
    have h3b : Hid (∀ w1, Below w.heap.size w w1 → Calls Try.prog 22 #[.int .i64 n, .slice A l.length cap] w1 fun e w' => e = .returned (.bool true) ∧ Below w1.heap.size w1 w') := fun w1 hB => h3.out w1 hB true ⟨fun _ => hf, fun _ => rfl⟩
    have hT := turnCode_out (i := i) hf hin
    rw [hT] at h1
    have hiB : Hid (inB n [i] = false) := by unfold Hid; rw [inB_one]; exact hin
    clear hE hno hf hin hT h3
    go_enter Try.func8, Try.ntmps8
    go_wp2_with fail
    refine h1.out.mono ?_
    rintro e w1 ⟨v, rfl, hB1, hv⟩
    have h3' := Lib.hid (h3b.out w1 hB1)
    clear h1 hv h3b
    go_wp2_with fail
    refine h3'.out.mono ?_
    rintro e w2 ⟨rfl, hB2⟩
    have hB3 := hB1.trans (hB2.mono hB1.size)
    have hB4 := Lib.hid (hB3.alloc hB3.size (.cells #[.int .i64 i] 3))
    have hcall := Lib.hid (inside_any (some ⟨w2.heap.size, 0, none⟩) 1 [i] n _ (nums1 w2 i 3) (by simp) false hiB)
    clear hB1 hB2 hB3 h3'
    go_wp2_with fail
    refine hcall.out.mono ?_
    rintro e w5 ⟨rfl, rfl⟩
    go_wp2_with fail
    go_ret
    exact ⟨by simp_all, hB4.out⟩
  · have h3b : Hid (∀ w1, Below w.heap.size w w1 → Calls Try.prog 22 #[.int .i64 n, .slice A l.length cap] w1 fun e w' => e = .returned (.bool false) ∧ Below w1.heap.size w1 w') := fun w1 hB => h3.out w1 hB false ⟨(nomatch ·), fun h => absurd h hf⟩
    have hT := turnCode_bad (i := i) hf
    rw [hT] at h1
    generalize fcode n l = x at *
    have hx : (x != 0) = true := by simpa using hf
    clear hE hno hf hT h3
    go_enter Try.func8, Try.ntmps8
    go_wp2_with fail
    refine h1.out.mono ?_
    rintro e w1 ⟨v, rfl, hB1, hv⟩
    have h3' := Lib.hid (h3b.out w1 hB1)
    clear h1 hv h3b
    go_wp2_with fail
    refine h3'.out.mono ?_
    rintro e w2 ⟨rfl, hB2⟩
    go_wp2_with fail
    go_ret
    exact ⟨by simp_all, hB1.trans (hB2.mono hB1.size)⟩

set_option maxHeartbeats 6400000 in
theorem forkTurn_in (w : World) (N : Nat) (A : Option Addr) (cap : Nat) (l : List Lk) (hE : Lks w w.heap.size A l) (hc : l.length ≤ cap) (hl : l.length ≤ 17592186044416) (j : Nat) (hf : fcode (N : Int) l = 0) (hjN : j < N) : TuGoal w N A cap l j := by
  unfold TuGoal
  obtain ⟨hn, hV⟩ := fcode_FV hf
  rw [show ((N : Int)).toNat = N by simp] at hV
  clear hn
  have h15 := fcode_len hf
  have hin : inP (N : Int) (j : Int) = true := by rw [inP_iff]; omega
  have h1 := Lib.hid (turn_any_ A cap l (N : Int) (j : Int) w hE hc hl)
  have h3b : Hid (∀ w1, Below w.heap.size w w1 → Calls Try.prog 22 #[.int .i64 (N : Int), .slice A l.length cap] w1 fun e w' => e = .returned (.bool true) ∧ Below w1.heap.size w1 w') := fun w1 hB => forked_any A cap l (N : Int) w1 ((hE.below hB).more hB.size) hc hl true ⟨fun _ => hf, fun _ => rfl⟩
  have hiB : Hid (inB (N : Int) [(j : Int)] = true) := by unfold Hid; rw [inB_one]; exact hin
  have h4 : Hid (∀ w1, Below w.heap.size w w1 → Calls Try.prog 14 #[.int .i64 (N : Int), .slice A l.length cap] w1 fun e w' => e = .returned (.tuple #[.int .u32 (lowN N l : Int), .int .i64 0]) ∧ Below w1.heap.size w1 w') := fun w1 hB => by
    have := low_any A cap l (N : Int) w1 ((hE.below hB).more hB.size) hc hl
    unfold LowRes at this
    rw [lowOut_ok hf, hf, show ((N : Int)).toNat = N by simp] at this
    exact this
  have h6 := hV.six
  have h64 := Nat.pow_le_pow_right (n := 2) (by omega) h6
  have hLl := lowN_lt N l
  have hbit := Lib.hid (fun w => bit_any (lowN N l) j w (by omega) (by omega))
  unfold TurnRes at h1
  cases hb : (lowN N l).testBit j with
  | false =>
    have hT := turnCode_none (i := (j : Int)) hf hin (by simpa using hb)
    rw [hT] at h1
    rw [hb] at hbit
    generalize lowN N l = S at *
    clear hE hf hV hin hT hb
    go_enter Try.func8, Try.ntmps8
    go_wp2_with fail
    refine h1.out.mono ?_
    rintro e w1 ⟨v, rfl, hB1, hv⟩
    obtain rfl : v = .slice none 0 0 := by
      rcases hv with h | h
      · exact absurd h.1 (by omega)
      · exact h.2
    have h3' := Lib.hid (h3b.out w1 hB1)
    clear h1 hv h3b
    go_wp2_with fail
    refine h3'.out.mono ?_
    rintro e w2 ⟨rfl, hB2⟩
    have hB3 := hB1.trans (hB2.mono hB1.size)
    have hB4 := hB3.alloc hB3.size (.cells #[.int .i64 (j : Int)] 3)
    have h4' := Lib.hid (h4.out _ hB4)
    have hB4H := Lib.hid hB4
    have hcall := Lib.hid (inside_any (some ⟨w2.heap.size, 0, none⟩) 1 [(j : Int)] (N : Int) _ (nums1 w2 (j : Int) 3) (by simp) true hiB)
    clear hB1 hB2 hB3 h3' h4 hB4
    go_wp2_with fail
    refine hcall.out.mono ?_
    rintro e w5 ⟨rfl, rfl⟩
    go_wp2_with fail
    refine h4'.out.mono ?_
    rintro e w6 ⟨rfl, hB6⟩
    have hB7 := Lib.hid (hB4H.out.trans (hB6.mono hB4H.out.size))
    clear hB6 h4'
    go_wp2_with fail
    refine (hbit.out _).mono ?_
    rintro e w7 ⟨rfl, rfl⟩
    go_wp2_with fail
    go_ret
    exact ⟨by simp_all, hB7.out⟩
  | true =>
    have hT := turnCode_ok (i := (j : Int)) hf hin (by simpa using hb)
    rw [hT] at h1
    rw [hb] at hbit
    have hs := ((lowN_bit hV.six hV.ok j).1 hb).2
    have hsnk : Snk l (2 ^ j) := pow_Snk hs
    have hRV := revL_FV (2 ^ j) hV
    have hRf : fcode (N : Int) (revL (2 ^ j) l) = 0 := FV_fcode hRV (by rw [revL_len]; exact h15)
    have hrd : Hid (roundOut (N : Int) (revL (2 ^ j) l) = roundOut (N : Int) l) := by
      unfold Hid
      rw [Bool.eq_iff_iff, roundOut_iff hRf, roundOut_iff hf, show ((N : Int)).toNat = N by simp]
      exact rev_cyc hV hsnk
    have h5 : Hid (∀ w1, Below w.heap.size w w1 → Calls Try.prog 11 #[.int .i64 (N : Int), .slice A l.length cap] w1 fun e w' => e = .returned (.tuple #[.bool (roundOut (N : Int) l), .int .i64 0]) ∧ Below w1.heap.size w1 w') := fun w1 hB => by
      have := round_any A cap l (N : Int) w1 ((hE.below hB).more hB.size) hc hl
      unfold RoundRes at this
      rw [hf] at this
      exact this
    have h6' : Hid (∀ w1 A1 cap1, l.length ≤ cap1 → Lks w1 w1.heap.size A1 (revL (2 ^ j) l) → Calls Try.prog 11 #[.int .i64 (N : Int), .slice A1 l.length cap1] w1 fun e w' => e = .returned (.tuple #[.bool (roundOut (N : Int) l), .int .i64 0]) ∧ Below w1.heap.size w1 w') := fun w1 A1 cap1 h1 h2 => by
      have := round_any A1 cap1 (revL (2 ^ j) l) (N : Int) w1 h2 (by rw [revL_len]; exact h1) (by rw [revL_len]; exact hl)
      unfold RoundRes at this
      rw [hRf, revL_len, hrd.out] at this
      exact this
    have h7' : Hid (∀ w1 A1 cap1, l.length ≤ cap1 → Lks w1 w1.heap.size A1 (revL (2 ^ j) l) → Calls Try.prog 14 #[.int .i64 (N : Int), .slice A1 l.length cap1] w1 fun e w' => e = .returned (.tuple #[.int .u32 (lowN N (revL (2 ^ j) l) : Int), .int .i64 0]) ∧ Below w1.heap.size w1 w') := fun w1 A1 cap1 h1 h2 => by
      have := low_any A1 cap1 (revL (2 ^ j) l) (N : Int) w1 h2 (by rw [revL_len]; exact h1) (by rw [revL_len]; exact hl)
      unfold LowRes at this
      rw [lowOut_ok hRf, hRf, revL_len, show ((N : Int)).toNat = N by simp] at this
      exact this
    have hTl := lowN_lt N (revL (2 ^ j) l)
    have hbitT := Lib.hid (fun w => bit_any (lowN N (revL (2 ^ j) l)) j w (by omega) (by omega))
    rw [turn_own hV hjN hs] at hbitT
    have hj32 : (j : Int) < 32 := by omega
    have hz : Hid ((bits BinOp.andNot IntKind.u32 (bits BinOp.andNot IntKind.u32 (lowN N l : Int) (lowN N (revL (2 ^ j) l) : Int)) (2 ^ j % 4294967296) == 0) = true) := by
      unfold Hid
      have hpl := pow_lt j (by omega)
      have hle : lowN N l &&& (4294967295 - lowN N (revL (2 ^ j) l)) ≤ lowN N l := Nat.and_le_left
      have hlt : lowN N l &&& (4294967295 - lowN N (revL (2 ^ j) l)) < 4294967296 := by omega
      rw [u32_andNot_nat _ _ (by omega) (by omega), pow_mod j (by omega), u32_andNot_nat _ _ hlt hpl, (andNot_zero _ _ hlt hpl).2 (turn_keeps hV)]
      rfl
    have hEH := Lib.hid hE
    have hMv : Hid (∀ v w1, MadeL w1 w.heap.size v (revL (2 ^ ((j : Int)).toNat) l) → ∃ A1 cap1, v = .slice A1 l.length cap1 ∧ l.length ≤ cap1 ∧ ∀ w2, Below w1.heap.size w1 w2 → Lks w2 w2.heap.size A1 (revL (2 ^ j) l)) := fun v w1 h => by
      rw [show ((j : Int)).toNat = j by simp] at h
      obtain ⟨A1, cap1, e1, e2, _, e4⟩ := h.lks
      rw [revL_len] at e1 e2
      exact ⟨A1, cap1, e1, e2, fun w2 hB => (e4.below hB).more hB.size⟩
    have hown0 : Hid (ownB l j 0 = false) := rfl
    generalize roundOut (N : Int) l = is at *
    generalize lowN N (revL (2 ^ j) l) = Q at *
    generalize lowN N l = S at *
    clear hE hf hV hin hT hb hs hsnk hRV hRf
    go_enter Try.func8, Try.ntmps8
    go_wp2_with fail
    refine h1.out.mono ?_
    rintro e w1 ⟨v, rfl, hB1, hv⟩
    obtain ⟨A1, cap1, rfl, hc1, hLR⟩ : ∃ A1 cap1, v = .slice A1 l.length cap1 ∧ l.length ≤ cap1 ∧ ∀ w2, Below w1.heap.size w1 w2 → Lks w2 w2.heap.size A1 (revL (2 ^ j) l) := by
      rcases hv with h | h
      · exact hMv.out v w1 h.2
      · exact absurd rfl h.1
    have hLRH := Lib.hid hLR
    have h3' := Lib.hid (h3b.out w1 hB1)
    clear h1 hv h3b hMv hLR
    go_wp2_with fail
    refine h3'.out.mono ?_
    rintro e w2 ⟨rfl, hB2⟩
    have hB3 := hB1.trans (hB2.mono hB1.size)
    have hB4 := hB3.alloc hB3.size (.cells #[.int .i64 (j : Int)] 3)
    have hK4 := Lib.hid (hB2.alloc hB2.size (.cells #[.int .i64 (j : Int)] 3))
    have h4' := Lib.hid (h4.out _ hB4)
    have hB4H := Lib.hid hB4
    have hcall := Lib.hid (inside_any (some ⟨w2.heap.size, 0, none⟩) 1 [(j : Int)] (N : Int) _ (nums1 w2 (j : Int) 3) (by simp) true hiB)
    clear hB1 hB2 hB3 h3' h4 hB4
    go_wp2_with fail
    refine hcall.out.mono ?_
    rintro e w5 ⟨rfl, rfl⟩
    go_wp2_with fail
    refine h4'.out.mono ?_
    rintro e w6 ⟨rfl, hB6⟩
    have hB7 := Lib.hid (hB4H.out.trans (hB6.mono hB4H.out.size))
    have hK7 := Lib.hid (hK4.out.trans (hB6.mono hK4.out.size))
    have h5' := Lib.hid (h5.out w6 hB7.out)
    clear hB6 h4' hB4H hK4 hcall h5
    go_wp2_with fail
    refine (hbit.out _).mono ?_
    rintro e w7 ⟨rfl, rfl⟩
    go_wp2_with fail
    refine h5'.out.mono ?_
    rintro e w8 ⟨rfl, hB8⟩
    have hB9 := Lib.hid (hB7.out.trans (hB8.mono hB7.out.size))
    have hK9 := Lib.hid (hK7.out.trans (hB8.mono hK7.out.size))
    have h6'' := Lib.hid (h6'.out w8 A1 cap1 hc1 (hLRH.out w8 hK9.out))
    clear hB8 h5' hB7 hK7 h6'
    go_wp2_with fail
    refine h6''.out.mono ?_
    rintro e w9 ⟨rfl, hB10⟩
    have hB11 := Lib.hid (hB9.out.trans (hB10.mono hB9.out.size))
    have hK11 := Lib.hid (hK9.out.trans (hB10.mono hK9.out.size))
    have h7'' := Lib.hid (h7'.out w9 A1 cap1 hc1 (hLRH.out w9 hK11.out))
    clear hB10 h6'' hB9 hK9 h7'
    go_wp2_with fail
    refine h7''.out.mono ?_
    rintro e w10 ⟨rfl, hB12⟩
    have hB13 := Lib.hid (hB11.out.trans (hB12.mono hB11.out.size))
    have v9 : (is != is) = false := by cases is <;> rfl
    clear hB12 h7'' hB11 hK11 hLRH
    go_wp2_with fail
    go_loopw [102, 16] (fun t o wr => ∃ k : Nat, k ≤ l.length ∧ t = .int .i64 k ∧ o = .bool (ownB l j k) ∧ TuRel w wr) (fun t _ _ => l.length - (intOf t).toNat)
    case atStart => exact ⟨0, Nat.zero_le _, rfl, rfl, hB13.out⟩
    case round =>
      obtain ⟨k, hk, rfl, rfl, hB⟩ := hrel
      unfold TuRel at hB
      by_cases hlt : k < l.length
      · obtain ⟨b, off, rfl, hb, c3, c4⟩ := (hEH.out.below hB).at_ hlt
        have hkI : (k : Int) < (l.length : Int) := by omega
        have hB1 := Lib.hid (lk_alloc hB (lat l k).a (lat l k).b)
        have hR1 := Row.made wr 43 [.int .i64 (lat l k).a, .int .i64 (lat l k).b]
        have d1 := hR1.cell (i := 1) (by simp)
        simp only [List.getElem_cons_zero, List.getElem_cons_succ] at d1
        have hn := Lib.hid (ownB_succ l j k)
        clear hR1 hB
        generalize (lat l k).a = x at *
        generalize (lat l k).b = y at *
        generalize hF : ownB l j k = F at *
        clear hF
        cases F with
        | true =>
          have hnx : Hid (ownB l j (k + 1) = true) := by unfold Hid; rw [hn.out]; rfl
          clear hn
          go_wp2_with fail
          go_roundw
          case rel => exact ⟨k + 1, by omega, by go_num, by rw [hnx.out], hB1.out⟩
          case measure => simp [intOf]; omega
        | false =>
          by_cases hx : y = (j : Int)
          · have hnx : Hid (ownB l j (k + 1) = true) := by unfold Hid; rw [hn.out, decide_eq_true hx]; rfl
            have v2 : (y == (j : Int)) = true := by simp [hx]
            clear hn hx
            go_wp2_with fail
            go_roundw
            case rel => exact ⟨k + 1, by omega, by go_num, by rw [hnx.out], hB1.out⟩
            case measure => simp [intOf]; omega
          · have hnx : Hid (ownB l j (k + 1) = false) := by unfold Hid; rw [hn.out, decide_eq_false hx]; rfl
            have v2 : (y == (j : Int)) = false := by simp [hx]
            clear hn hx
            go_wp2_with fail
            go_roundw
            case rel => exact ⟨k + 1, by omega, by go_num, by rw [hnx.out], hB1.out⟩
            case measure => simp [intOf]; omega
      · have hkl : k = l.length := by omega
        subst hkl
        have hz0 := hz.out
        generalize ownB l j l.length = O at *
        have v8 : ((!O) == (!O)) = true := by cases O <;> rfl
        go_wp2_with fail
        refine (hbitT.out _).mono ?_
        rintro e w11 ⟨rfl, rfl⟩
        go_wp2_with fail
        go_ret
        exact ⟨by simp_all, hB⟩

theorem forkTurn_law (w : World) (n : Int) (_hn : I64 n) (A : Option Addr) (cap : Nat) (l : List Lk) (hE : Lks w w.heap.size A l) (hF : LFits l) (hc : l.length ≤ cap) (hlm : l.length ≤ maxLen) (hl : l.length ≤ 17592186044416) (i : Int) (_hi : I64 i) :
    Calls Try.prog 8 #[.int .i64 n, .slice A l.length cap, .int .i64 i] w fun e w' => e = .returned (.bool true) ∧ Below w.heap.size w w' := by
  by_cases hf : fcode n l = 0
  · cases hin : inP n i with
    | false => exact forkTurn_no w n A cap l hE hc hl i (.inr hin)
    | true =>
      obtain ⟨hn, hV⟩ := fcode_FV hf
      obtain ⟨N, rfl⟩ : ∃ N : Nat, n = (N : Int) := ⟨_, hn⟩
      have := (inP_iff (N : Int) i).1 hin
      obtain ⟨j, rfl⟩ : ∃ j : Nat, i = (j : Int) := ⟨i.toNat, by omega⟩
      exact forkTurn_in w N A cap l hE hc hl j hf (by omega)
  · exact forkTurn_no w n A cap l hE hc hl i (.inl hf)
#print axioms forkTurn_law
end Go.Proofs.Ytieicimoolegoaa
