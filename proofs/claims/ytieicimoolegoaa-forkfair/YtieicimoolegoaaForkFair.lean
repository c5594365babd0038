/-
  The walk of the law beaconrykeep.ForkFair.
-/
import Derived.Test.YtieicimoolegoaaFrn
import Derived.Test.YtieicimoolegoaaFro
import Derived.Test.YtieicimoolegoaaFfc
import Derived.BigQuiet
import Derived.Deep.QuietTactic
namespace Go.Proofs.Ytieicimoolegoaa
open Go.RowKit Go.Maps
set_option linter.unusedVariables false

def FaRel (w wr : World) : Prop := Below w.heap.size w wr
def FairGoal (w : World) (n : Int) (A : Option Addr) (cap : Nat) (l : List Lk) (m : Int) : Prop := Calls Try.prog 9 #[.int .i64 n, .slice A l.length cap, .int .i64 m] w fun e w' => e = .returned (.bool true) ∧ Below w.heap.size w w'
theorem runCode_zero {n : Int} {l : List Lk} {m : Int} (h : runCode n l m = 0) : fcode n l = 0 ∧ ¬ (m < 0 ∨ 60 < m) ∧ ¬ Cyc n.toNat l := by
  by_cases h1 : fcode n l = 0
  · by_cases h2 : m < 0 ∨ 60 < m
    · rw [runCode_range h1 h2] at h; omega
    · by_cases h3 : Cyc n.toNat l
      · rw [runCode_cyc h1 h2 h3] at h; omega
      · exact ⟨h1, h2, h3⟩
  · rw [runCode_bad h1] at h; exact absurd h h1

set_option maxHeartbeats 3200000 in
theorem forkFair_no (w : World) (n : Int) (A : Option Addr) (cap : Nat) (l : List Lk) (hE : Lks w w.heap.size A l) (hc : l.length ≤ cap) (hl : l.length ≤ 17592186044416) (m : Int) (hno : runCode n l m ≠ 0) : FairGoal w n A cap l m := by
  unfold FairGoal
  have h1 := Lib.hid (run_any_ A cap l n m w hE hc hl)
  have h2 : Hid (∀ w1, Below w.heap.size w w1 → ∀ C : Bool, (C = true ↔ fcode n l = 0) → Calls Try.prog 22 #[.int .i64 n, .slice A l.length cap] w1 fun e w' => e = .returned (.bool C) ∧ Below w1.heap.size w1 w') := fun w1 hB C hC => forked_any A cap l n w1 ((hE.below hB).more hB.size) hc hl C hC
  unfold RunRes at h1
  have hx : (runCode n l m != 0) = true := by simpa using hno
  by_cases hf : fcode n l = 0
  · obtain ⟨hn, hV⟩ := fcode_FV hf
    have h15 := fcode_len hf
    have h2b : Hid (∀ w1, Below w.heap.size w w1 → Calls Try.prog 22 #[.int .i64 n, .slice A l.length cap] w1 fun e w' => e = .returned (.bool true) ∧ Below w1.heap.size w1 w') := fun w1 hB => h2.out w1 hB true ⟨fun _ => hf, fun _ => rfl⟩
    by_cases hm : m < 0 ∨ 60 < m
    · generalize runCode n l m = x at *
      by_cases hm0 : m < 0
      · have v1 : decide (m < 0) = true := decide_eq_true hm0
        clear hE hn hV hf hm hno h2
        go_enter Try.func9, Try.ntmps9
        go_wp2_with fail
        refine h1.out.mono ?_
        rintro e w1 ⟨v, u, rfl, hB1, hv⟩
        have h2' := Lib.hid (h2b.out w1 hB1)
        clear h1 h2b hv
        go_wp2_with fail
        refine h2'.out.mono ?_
        rintro e w2 ⟨rfl, hB2⟩
        go_wp2_with fail
        go_ret
        exact ⟨by simp_all, hB1.trans (hB2.mono hB1.size)⟩
      · have v1 : decide (m < 0) = false := decide_eq_false hm0
        have v2 : decide (m > 60) = true := decide_eq_true (by omega)
        have v2' : decide (60 < m) = true := decide_eq_true (by omega)
        clear hE hn hV hf hm hno h2
        go_enter Try.func9, Try.ntmps9
        go_wp2_with fail
        refine h1.out.mono ?_
        rintro e w1 ⟨v, u, rfl, hB1, hv⟩
        have h2' := Lib.hid (h2b.out w1 hB1)
        clear h1 h2b hv
        go_wp2_with fail
        refine h2'.out.mono ?_
        rintro e w2 ⟨rfl, hB2⟩
        go_wp2_with fail
        go_ret
        exact ⟨by simp_all, hB1.trans (hB2.mono hB1.size)⟩
    · have v1 : decide (m < 0) = false := decide_eq_false (by omega)
      have v2 : decide (m > 60) = false := decide_eq_false (by omega)
      have v2' : decide (60 < m) = false := decide_eq_false (by omega)
      have hcy : Cyc n.toNat l := Classical.byContradiction fun h => hno (runCode_ok hf hm h)
      have h3 : Hid (∀ w1, Below w.heap.size w w1 → Calls Try.prog 13 #[.int .i64 n, .slice A l.length cap] w1 fun e w' => e = .returned (.bool true) ∧ Below w1.heap.size w1 w') := fun w1 hB => by
        have := rround_any A cap l n.toNat w1 ((hE.below hB).more hB.size) hV (by omega) true ⟨fun _ => hcy, fun _ => rfl⟩
        rw [← hn] at this
        exact this
      generalize runCode n l m = x at *
      clear hE hn hV hf hm hno hcy h2
      go_enter Try.func9, Try.ntmps9
      go_wp2_with fail
      refine h1.out.mono ?_
      rintro e w1 ⟨v, u, rfl, hB1, hv⟩
      have h2' := Lib.hid (h2b.out w1 hB1)
      clear h1 h2b hv
      go_wp2_with fail
      refine h2'.out.mono ?_
      rintro e w2 ⟨rfl, hB2⟩
      have hB3 := hB1.trans (hB2.mono hB1.size)
      have h3' := Lib.hid (h3.out w2 hB3)
      clear h3 h2'
      go_wp2_with fail
      refine h3'.out.mono ?_
      rintro e w3 ⟨rfl, hB4⟩
      go_wp2_with fail
      go_ret
      exact ⟨by simp_all, hB3.trans (hB4.mono hB3.size)⟩
  · have h2b : Hid (∀ w1, Below w.heap.size w w1 → Calls Try.prog 22 #[.int .i64 n, .slice A l.length cap] w1 fun e w' => e = .returned (.bool false) ∧ Below w1.heap.size w1 w') := fun w1 hB => h2.out w1 hB false ⟨(nomatch ·), fun h => absurd h hf⟩
    generalize runCode n l m = x at *
    clear hE hf hno h2
    go_enter Try.func9, Try.ntmps9
    go_wp2_with fail
    refine h1.out.mono ?_
    rintro e w1 ⟨v, u, rfl, hB1, hv⟩
    have h2' := Lib.hid (h2b.out w1 hB1)
    clear h1 h2b hv
    go_wp2_with fail
    refine h2'.out.mono ?_
    rintro e w2 ⟨rfl, hB2⟩
    go_wp2_with fail
    go_ret
    exact ⟨by simp_all, hB1.trans (hB2.mono hB1.size)⟩

set_option maxHeartbeats 6400000 in
theorem forkFair_ok (w : World) (N : Nat) (A : Option Addr) (cap : Nat) (l : List Lk) (hE : Lks w w.heap.size A l) (hc : l.length ≤ cap) (hl : l.length ≤ 17592186044416) (M : Nat) (hM60 : M ≤ 60) (hyes : runCode (N : Int) l (M : Int) = 0) (hf : fcode (N : Int) l = 0) (hcy : ¬ Cyc N l) (hV : FV N l) : FairGoal w N A cap l M := by
  unfold FairGoal
  have h15 := fcode_len hf
  have h1 := Lib.hid (run_any_ A cap l (N : Int) (M : Int) w hE hc hl)
  have h2 : Hid (∀ w1, Below w.heap.size w w1 → Calls Try.prog 22 #[.int .i64 (N : Int), .slice A l.length cap] w1 fun e w' => e = .returned (.bool true) ∧ Below w1.heap.size w1 w') := fun w1 hB => forked_any A cap l (N : Int) w1 ((hE.below hB).more hB.size) hc hl true ⟨fun _ => hf, fun _ => rfl⟩
  have h3 : Hid (∀ w1, Below w.heap.size w w1 → Calls Try.prog 13 #[.int .i64 (N : Int), .slice A l.length cap] w1 fun e w' => e = .returned (.bool false) ∧ Below w1.heap.size w1 w') := fun w1 hB => rround_any A cap l N w1 ((hE.below hB).more hB.size) hV (by omega) false ⟨(nomatch ·), fun h => absurd h hcy⟩
  unfold RunRes at h1
  rw [hyes, show ((M : Int)).toNat = M by simp, show ((N : Int)).toNat = N by simp] at h1
  have h6 := hV.six
  have v1 : decide ((M : Int) < 0) = false := decide_eq_false (by omega)
  have v2 : decide ((M : Int) > 60) = false := decide_eq_false (by omega)
  have v2' : decide (60 < (M : Int)) = false := decide_eq_false (by omega)
  have hEH := Lib.hid hE
  have hat : Hid (∀ k, k < l.length → (lat l k).a = (la l k : Int) ∧ (lat l k).b = (lb l k : Int) ∧ la l k < N ∧ lb l k < N ∧ (tmR N l M (la l k) = tmR N l M (lb l k) ∨ tmR N l M (lb l k) = tmR N l M (la l k) + 1)) := fun k hk => by
    have h := hV.at_ hk
    refine ⟨h.1, h.2.1, h.2.2.1, h.2.2.2.1, ?_⟩
    rcases turns hV hk M with h | h
    · exact .inl h.2.2
    · exact .inr h.2.2
  have hle : Hid (∀ i, tmR N l M i ≤ M) := tmR_le N l M
  have hone : Hid (∀ i, i < N → N ≤ M → 1 ≤ tmR N l M i) := fun i hi hm => all_turned hV hcy hm hi
  have hlen : Hid ((lksR N l M).length = l.length) := lksR_len N l M
  generalize hTM : tmR N l M = F at *
  clear hTM hE hf hyes hcy hV
  go_enter Try.func9, Try.ntmps9
  go_wp2_with fail
  refine h1.out.mono ?_
  rintro e w1 ⟨v, u, rfl, hB1, hv⟩
  obtain ⟨hMv, T, rfl, hT1, hR1⟩ : MadeL w1 w.heap.size v (lksR N l M) ∧ ∃ T, u = .slice (some ⟨T, 0, none⟩) N N ∧ w.heap.size ≤ T ∧ IntRow w1 T N (fun i => (F i : Int)) := by
    rcases hv with h | h
    · exact h.2
    · exact absurd rfl h.1
  obtain ⟨A1, cap1, rfl, hc1, _, _⟩ := hMv
  rw [hlen.out] at hc1
  rw [hlen.out]
  have h2' := Lib.hid (h2.out w1 hB1)
  have hR1H := Lib.hid hR1
  clear h1 h2 hv hR1 hlen
  go_wp2_with fail
  refine h2'.out.mono ?_
  rintro e w2 ⟨rfl, hB2⟩
  have hB3 := hB1.trans (hB2.mono hB1.size)
  have h3' := Lib.hid (h3.out w2 hB3)
  have hR2 := Lib.hid (Row.below hR1H.out hB2 (Row.lt hR1H.out))
  clear h3 h2' hB2 hR1H hB1
  go_wp2_with fail
  refine h3'.out.mono ?_
  rintro e w3 ⟨rfl, hB4⟩
  have hB5 := Lib.hid (hB3.trans (hB4.mono hB3.size))
  have hR3 : Hid (IntRow w3 T N (fun i => (F i : Int))) := Row.below hR2.out hB4 (Row.lt hR2.out)
  have hE3 := Lib.hid ((hEH.out.below hB5.out).more hB5.out.size)
  clear hB4 hB3 h3' hR2 hEH
  go_wp2_with fail
  go_loopw [58] (fun t wr => ∃ k : Nat, k ≤ l.length ∧ t = .int .i64 k ∧ FaRel w3 wr) (fun t _ => l.length - (intOf t).toNat)
  case atStart => exact ⟨0, Nat.zero_le _, rfl, Below.refl _ _⟩
  case round =>
    obtain ⟨k, hk, rfl, hB⟩ := hrel
    unfold FaRel at hB
    by_cases hlt : k < l.length
    · obtain ⟨b, off, rfl, hb, c3, c4⟩ := (hE3.out.below hB).at_ hlt
      obtain ⟨ha, hbb, hx, hy, htm⟩ := hat.out k hlt
      rw [ha] at c3
      rw [hbb] at c4
      have hkI : (k : Int) < (l.length : Int) := by omega
      have hB1 := lk_alloc hB (la l k : Int) (lb l k : Int)
      have hR1 := Row.made wr 43 [.int .i64 (la l k : Int), .int .i64 (lb l k : Int)]
      have d0 := hR1.cell (i := 0) (by simp)
      have d1 := hR1.cell (i := 1) (by simp)
      simp only [List.getElem_cons_zero, List.getElem_cons_succ] at d0 d1
      have hRr : IntRow (wr.alloc (.cells #[.int .i64 (la l k : Int), .int .i64 (lb l k : Int)] 43)) T N (fun i => (F i : Int)) := Row.below hR3.out hB1 (Row.lt hR3.out)
      have e0 := hRr.at_ hx
      have e1 := hRr.at_ hy
      have b0 := hle.out (la l k)
      have b1 := hle.out (lb l k)
      have hBH := Lib.hid hB1
      clear ha hbb hR1 hRr hB hB1
      generalize hF0 : F (la l k) = f at *
      generalize hF1 : F (lb l k) = g at *
      clear hF0 hF1
      have hxI : (la l k : Int) < (N : Int) := by omega
      have hyI : (lb l k : Int) < (N : Int) := by omega
      generalize la l k = x at *
      generalize lb l k = y at *
      rcases htm with rfl | rfl
      · go_wp2_with fail
        go_quiet (fail)
        go_wp2_with fail
        go_roundw
        case rel => exact ⟨k + 1, by omega, by go_num, below_drewN hBH.out _⟩
        case measure => simp [intOf]; omega
      · have hd : (f : Int) - ((f + 1 : Nat) : Int) = -1 := by omega
        go_wp2_with fail
        go_quiet (fail)
        go_wp2_with fail
        go_roundw
        case rel => exact ⟨k + 1, by omega, by go_num, below_drewN hBH.out _⟩
        case measure => simp [intOf]; omega
    · have hkl : k = l.length := by omega
      subst hkl
      have hBH := Lib.hid hB
      have hR9 : Hid (IntRow wr T N (fun i => (F i : Int))) := Row.below hR3.out hB (Row.lt hR3.out)
      clear hB hat hE3
      go_wp2_with fail
      go_loop [13] (fun t => ∃ i : Nat, i ≤ N ∧ t = .int .i64 i) (fun t => N - (intOf t).toNat)
      case atStart => exact ⟨0, Nat.zero_le _, rfl⟩
      case round =>
        obtain ⟨i, hi, rfl⟩ := hrel
        by_cases hiN : i < N
        · have hiI : (i : Int) < (N : Int) := by omega
          have e0 := hR9.out.at_ hiN
          have b0 := hle.out i
          have b1 : Hid (N ≤ M → 1 ≤ F i) := hone.out i hiN
          generalize F i = f at *
          have u1 : decide ((f : Int) < 0) = false := decide_eq_false (by omega)
          have u2 : decide ((f : Int) > (M : Int)) = false := decide_eq_false (by omega)
          have u2' : decide ((M : Int) < (f : Int)) = false := decide_eq_false (by omega)
          by_cases hNM : N ≤ M
          · have b2 := b1.out hNM
            have u3 : decide ((M : Int) ≥ (N : Int)) = true := decide_eq_true (by omega)
            have u3' : decide ((N : Int) ≤ (M : Int)) = true := decide_eq_true (by omega)
            have u4 : ((f : Int) == 0) = false := by
              rw [← Bool.not_eq_true, beq_iff_eq]
              omega
            clear b1
            go_wp2_with fail
            go_round
            case rel => exact ⟨i + 1, by omega, by go_num⟩
            case measure => simp [intOf]; omega
          · have u3 : decide ((M : Int) ≥ (N : Int)) = false := decide_eq_false (by omega)
            have u3' : decide ((N : Int) ≤ (M : Int)) = false := decide_eq_false (by omega)
            clear b1
            go_wp2_with fail
            go_round
            case rel => exact ⟨i + 1, by omega, by go_num⟩
            case measure => simp [intOf]; omega
        · have hiE : i = N := by omega
          subst hiE
          go_wp2_with fail
          go_ret
          exact ⟨rfl, hB5.out.trans (hBH.out.mono hB5.out.size)⟩

theorem forkFair_law (w : World) (n : Int) (_hn : I64 n) (A : Option Addr) (cap : Nat) (l : List Lk) (hE : Lks w w.heap.size A l) (hF : LFits l) (hc : l.length ≤ cap) (hlm : l.length ≤ maxLen) (hl : l.length ≤ 17592186044416) (m : Int) (_hm : I64 m) :
    Calls Try.prog 9 #[.int .i64 n, .slice A l.length cap, .int .i64 m] w fun e w' => e = .returned (.bool true) ∧ Below w.heap.size w w' := by
  by_cases h : runCode n l m = 0
  · obtain ⟨hf, hm, hcy⟩ := runCode_zero h
    obtain ⟨hn, hV⟩ := fcode_FV hf
    obtain ⟨N, rfl⟩ : ∃ N : Nat, n = (N : Int) := ⟨_, hn⟩
    obtain ⟨M, rfl⟩ : ∃ M : Nat, m = (M : Int) := ⟨m.toNat, by omega⟩
    rw [show ((N : Int)).toNat = N by simp] at hV hcy
    exact forkFair_ok w N A cap l hE hc hl M (by omega) h hf hcy hV
  · exact forkFair_no w n A cap l hE hc hl m h
#print axioms forkFair_law
end Go.Proofs.Ytieicimoolegoaa
