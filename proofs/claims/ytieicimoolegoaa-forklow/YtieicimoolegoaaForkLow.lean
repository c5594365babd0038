/-
  The walk of the law beaconrykeep.ForkLow.
-/
import Derived.Test.YtieicimoolegoaaFsk
import Derived.Test.YtieicimoolegoaaFfc
namespace Go.Proofs.Ytieicimoolegoaa
open Go.RowKit Go.Maps
set_option linter.unusedVariables false

theorem low_all {N : Nat} {l : List Lk} (h : FV N l) : lowN N l = 2 ^ N - 1 ↔ l.length = 0 := by
  constructor
  · intro e
    apply Classical.byContradiction
    intro h0
    have h1 := h.at_ (k := 0) (by omega)
    have h2 := (lowN_bit h.six h.ok (la l 0)).1 (by rw [e, all_bit]; exact h1.2.2.1)
    exact h2.2 0 (by omega) rfl
  · intro h0
    apply Nat.eq_of_testBit_eq
    intro i
    rw [Bool.eq_iff_iff, lowN_bit h.six h.ok, all_bit]
    exact ⟨fun x => x.1, fun x => ⟨x, fun k hk => by omega⟩⟩
def LwRel (w wr : World) : Prop := Below w.heap.size w wr
set_option maxHeartbeats 3200000 in
theorem forkLow_law (w : World) (n : Int) (_hn : I64 n) (A : Option Addr) (cap : Nat) (l : List Lk) (hE : Lks w w.heap.size A l) (hF : LFits l) (hc : l.length ≤ cap) (hlm : l.length ≤ maxLen) (hl : l.length ≤ 17592186044416) :
    Calls Try.prog 7 #[.int .i64 n, .slice A l.length cap] w fun e w' => e = .returned (.bool true) ∧ Below w.heap.size w w' := by
  have h1 := Lib.hid (low_any A cap l n w hE hc hl)
  have h2 : Hid (∀ w1, Below w.heap.size w w1 → Calls Try.prog 11 #[.int .i64 n, .slice A l.length cap] w1 (RoundRes w1 n l)) := fun w1 hB => round_any A cap l n w1 ((hE.below hB).more hB.size) hc hl
  have h3 : Hid (∀ w1, Below w.heap.size w w1 → ∀ C : Bool, (C = true ↔ fcode n l = 0) → Calls Try.prog 22 #[.int .i64 n, .slice A l.length cap] w1 fun e w' => e = .returned (.bool C) ∧ Below w1.heap.size w1 w') := fun w1 hB C hC => forked_any A cap l n w1 ((hE.below hB).more hB.size) hc hl C hC
  unfold RoundRes at h2
  unfold LowRes at h1
  by_cases hf : fcode n l = 0
  · obtain ⟨hn, hV⟩ := fcode_FV hf
    have h15 := fcode_len hf
    have h3b : Hid (∀ w1, Below w.heap.size w w1 → Calls Try.prog 22 #[.int .i64 n, .slice A l.length cap] w1 fun e w' => e = .returned (.bool true) ∧ Below w1.heap.size w1 w') := fun w1 hB => h3.out w1 hB true ⟨fun _ => hf, fun _ => rfl⟩
    have hcyc := roundOut_iff hf
    rw [lowOut_ok hf, hf] at h1
    rw [hf] at h2
    generalize roundOut n l = is at *
    clear h3 hf
    obtain ⟨N, hN⟩ : ∃ N : Nat, N = n.toNat := ⟨_, rfl⟩
    rw [← hN] at hn hV hcyc h1
    subst hn
    clear hN
    have h6 := hV.six
    have hone := hV.one
    have h64 := Nat.pow_le_pow_right (n := 2) (by omega) h6
    have hEH := Lib.hid hE
    have hLl := lowN_lt N l
    have hkey : Hid (∀ k, k < l.length → (lat l k).a = (la l k : Int) ∧ la l k < N ∧ (lowN N l).testBit (la l k) = false) := fun k hk => ⟨(hV.at_ hk).1, (hV.at_ hk).2.2.1, lowN_Snk hV k hk⟩
    have hN32 : (N : Int) < 32 := by omega
    have hval : ((2 : Int) ^ N - 1) % 4294967296 = ((2 ^ N - 1 : Nat) : Int) := by
      rw [show (2 : Int) ^ N = ((2 ^ N : Nat) : Int) by simp]
      have h1 := pow_lt N (by omega)
      have h2 : 0 < 2 ^ N := Nat.pow_pos (by omega)
      generalize 2 ^ N = y at *
      omega
    have hall : ((lowN N l : Int) == ((2 : Int) ^ N - 1) % 4294967296) = ((l.length : Int) == 0) := by
      rw [hval, Bool.eq_iff_iff, beq_iff_eq, beq_iff_eq]
      have := low_all hV
      omega
    have hs0 : is = false → ((lowN N l : Int) == 0) = false := fun h => by
      have := low_some hV (fun hc => by rw [hcyc.2 hc] at h; cases h)
      rw [← Bool.not_eq_true, beq_iff_eq]
      omega
    generalize lowN N l = S at *
    clear hE hF hV hval hcyc
    have hallH := Lib.hid hall
    have hs0H := Lib.hid hs0
    clear hall hs0
    go_enter Try.func7, Try.ntmps7
    go_wp2_with fail
    refine h1.out.mono ?_
    rintro e w1 ⟨rfl, hB1⟩
    have h2' := Lib.hid (h2.out w1 hB1)
    clear h1 h2
    go_wp2_with fail
    refine h2'.out.mono ?_
    rintro e w2 ⟨rfl, hB2⟩
    have hB3 := hB1.trans (hB2.mono hB1.size)
    have h3' := Lib.hid (h3b.out w2 hB3)
    clear h2' h3b hB2 hB1
    go_wp2_with fail
    refine h3'.out.mono ?_
    rintro e w3 ⟨rfl, hB4⟩
    have hB5 := Lib.hid (hB3.trans (hB4.mono hB3.size))
    clear hB3 hB4 h3'
    have hall := hallH.out
    have hs0 := hs0H.out
    by_cases hl0 : l.length = 0
    · have v1 : ((l.length : Int) == 0) = true := by simp [hl0]
      rw [v1] at hall
      have hnil : l = [] := List.length_eq_zero_iff.1 hl0
      subst hnil
      cases is with
      | true =>
        clear hs0
        go_wp2_with fail
        go_loopw [61] (fun t wr => t = .int .i64 0 ∧ wr = w3) (fun t _ => 0)
        case atStart => exact ⟨rfl, rfl⟩
        case round =>
          obtain ⟨rfl, rfl⟩ := hrel
          go_wp2_with fail
          go_ret
          exact ⟨rfl, hB5.out⟩
      | false =>
        have v2 := hs0 rfl
        clear hs0
        go_wp2_with fail
        go_loopw [61] (fun t wr => t = .int .i64 0 ∧ wr = w3) (fun t _ => 0)
        case atStart => exact ⟨rfl, rfl⟩
        case round =>
          obtain ⟨rfl, rfl⟩ := hrel
          go_wp2_with fail
          go_ret
          exact ⟨rfl, hB5.out⟩
    · have v1 : ((l.length : Int) == 0) = false := by simp; exact fun h => hl0 (by rw [h]; rfl)
      have hlp : 0 < l.length := by omega
      rw [v1] at hall
      have v2 : is = false → ((S : Int) == 0) = false := hs0
      clear hs0
      cases is with
      | false =>
        have v3 := v2 rfl
        clear v2
        go_wp2_with fail
        generalize ((2 : Int) ^ N % 4294967296 - 1) % 4294967296 = q2
        go_loopw [61] (fun t wr => ∃ k : Nat, k ≤ l.length ∧ t = .int .i64 k ∧ LwRel w wr) (fun t _ => l.length - (intOf t).toNat)
        case atStart => exact ⟨0, Nat.zero_le _, rfl, hB5.out⟩
        case round =>
          obtain ⟨k, hk, rfl, hB⟩ := hrel
          unfold LwRel at hB
          by_cases hlt : k < l.length
          · obtain ⟨b, off, rfl, hb, c3, c4⟩ := (hEH.out.below hB).at_ hlt
            obtain ⟨ha, hx, hbit⟩ := hkey.out k hlt
            rw [ha] at c3
            have hkI : (k : Int) < (l.length : Int) := by omega
            have hB1 := Lib.hid (lk_alloc hB (la l k : Int) (lat l k).b)
            have hR1 := Row.made wr 43 [.int .i64 (la l k : Int), .int .i64 (lat l k).b]
            have d0 := hR1.cell (i := 0) (by simp)
            simp only [List.getElem_cons_zero] at d0
            have hbt := Lib.hid (fun w => bit_any S (la l k) w (by omega) (by omega))
            rw [hbit] at hbt
            clear hR1 hB ha hbit
            generalize la l k = x at *
            generalize (lat l k).b = y at *
            go_wp2_with fail
            refine (hbt.out _).mono ?_
            rintro e w6 ⟨rfl, rfl⟩
            go_wp2_with fail
            go_roundw
            case rel => exact ⟨k + 1, by omega, by go_num, hB1.out⟩
            case measure => simp [intOf]; omega
          · have hkl : k = l.length := by omega
            subst hkl
            go_wp2_with fail
            go_ret
            exact ⟨rfl, hB⟩
      | true =>
        clear v2
        go_wp2_with fail
        generalize ((2 : Int) ^ N % 4294967296 - 1) % 4294967296 = q2
        go_loopw [61] (fun t wr => ∃ k : Nat, k ≤ l.length ∧ t = .int .i64 k ∧ LwRel w wr) (fun t _ => l.length - (intOf t).toNat)
        case atStart => exact ⟨0, Nat.zero_le _, rfl, hB5.out⟩
        case round =>
          obtain ⟨k, hk, rfl, hB⟩ := hrel
          unfold LwRel at hB
          by_cases hlt : k < l.length
          · obtain ⟨b, off, rfl, hb, c3, c4⟩ := (hEH.out.below hB).at_ hlt
            obtain ⟨ha, hx, hbit⟩ := hkey.out k hlt
            rw [ha] at c3
            have hkI : (k : Int) < (l.length : Int) := by omega
            have hB1 := Lib.hid (lk_alloc hB (la l k : Int) (lat l k).b)
            have hR1 := Row.made wr 43 [.int .i64 (la l k : Int), .int .i64 (lat l k).b]
            have d0 := hR1.cell (i := 0) (by simp)
            simp only [List.getElem_cons_zero] at d0
            have hbt := Lib.hid (fun w => bit_any S (la l k) w (by omega) (by omega))
            rw [hbit] at hbt
            clear hR1 hB ha hbit
            generalize la l k = x at *
            generalize (lat l k).b = y at *
            go_wp2_with fail
            refine (hbt.out _).mono ?_
            rintro e w6 ⟨rfl, rfl⟩
            go_wp2_with fail
            go_roundw
            case rel => exact ⟨k + 1, by omega, by go_num, hB1.out⟩
            case measure => simp [intOf]; omega
          · have hkl : k = l.length := by omega
            subst hkl
            go_wp2_with fail
            go_ret
            exact ⟨rfl, hB⟩
  · have h3b : Hid (∀ w1, Below w.heap.size w w1 → Calls Try.prog 22 #[.int .i64 n, .slice A l.length cap] w1 fun e w' => e = .returned (.bool false) ∧ Below w1.heap.size w1 w') := fun w1 hB => h3.out w1 hB false ⟨(nomatch ·), fun h => absurd h hf⟩
    generalize roundOut n l = is at *
    generalize lowOut n l = S at *
    generalize fcode n l = x at *
    have hx : (x != 0) = true := by simpa using hf
    clear hE hF hf h3
    go_enter Try.func7, Try.ntmps7
    go_wp2_with fail
    refine h1.out.mono ?_
    rintro e w1 ⟨rfl, hB1⟩
    have h2' := Lib.hid (h2.out w1 hB1)
    clear h1 h2
    go_wp2_with fail
    refine h2'.out.mono ?_
    rintro e w2 ⟨rfl, hB2⟩
    have hB3 := hB1.trans (hB2.mono hB1.size)
    have h3' := Lib.hid (h3b.out w2 hB3)
    clear h2' h3b hB2 hB1
    go_wp2_with fail
    refine h3'.out.mono ?_
    rintro e w3 ⟨rfl, hB4⟩
    go_wp2_with fail
    go_ret
    exact ⟨by simp_all, hB3.trans (hB4.mono hB3.size)⟩
#print axioms forkLow_law
end Go.Proofs.Ytieicimoolegoaa
