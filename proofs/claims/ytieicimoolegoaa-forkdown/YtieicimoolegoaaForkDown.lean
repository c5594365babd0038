/-
  The walk of the law beaconrykeep.ForkDown.
-/
import Derived.Test.YtieicimoolegoaaForkFair
import Derived.Test.YtieicimoolegoaaFtd
namespace Go.Proofs.Ytieicimoolegoaa
open Go.RowKit Go.Maps
set_option linter.unusedVariables false

def DoRel (w wr : World) : Prop := Below w.heap.size w wr
def DownGoal (w : World) (n : Int) (A : Option Addr) (cap : Nat) (l : List Lk) (a b : Int) : Prop := Calls Try.prog 10 #[.int .i64 n, .slice A l.length cap, .int .i64 a, .int .i64 b] w fun e w' => e = .returned (.bool true) ∧ Below w.heap.size w w'

/-- What the first two runs leave, if the first one fails. -/
def DownIn (w : World) (n : Int) (A : Option Addr) (cap : Nat) (l : List Lk) (a b : Int) : Prop := ∃ x y : Int, (x != 0 || y != 0) = true ∧
  (∀ w0, w0 = w → Calls Try.prog 20 #[.int .i64 n, .slice A l.length cap, .int .i64 a] w0 fun e w1 => ∃ v u, e = .returned (.tuple #[v, u, .int .i64 x]) ∧ Below w.heap.size w w1 ∧
    Calls Try.prog 20 #[.int .i64 n, v, .int .i64 b] w1 fun e w2 => ∃ v2 u2, e = .returned (.tuple #[v2, u2, .int .i64 y]) ∧ Below w1.heap.size w1 w2)

theorem run_nil (n b : Int) (w : World) : Calls Try.prog 20 #[.int .i64 n, .slice none 0 0, .int .i64 b] w (RunRes w n [] b) :=
  run_any_ none 0 [] n b w (fun h => absurd h (Nat.lt_irrefl _)) (Nat.le_refl _) (Nat.zero_le _)

theorem down_in (w : World) (n : Int) (A : Option Addr) (cap : Nat) (l : List Lk) (hE : Lks w w.heap.size A l) (hc : l.length ≤ cap) (hl : l.length ≤ 17592186044416) (a b : Int) (h : runCode n l a ≠ 0 ∨ (b < 0 ∨ 60 < b)) : DownIn w n A cap l a b := by
  by_cases ha : runCode n l a = 0
  · have hb : b < 0 ∨ 60 < b := by
      rcases h with h | h
      · exact absurd ha h
      · exact h
    obtain ⟨hf, hm, hcy⟩ := runCode_zero ha
    obtain ⟨hn, hV⟩ := fcode_FV hf
    have h15 := fcode_len hf
    refine ⟨0, 4, rfl, ?_⟩
    rintro w0 rfl
    refine (run_any_ A cap l n a w0 hE hc hl).mono ?_
    rintro e w1 ⟨v, u, rfl, hB, hv⟩
    rw [ha] at hv ⊢
    refine ⟨v, u, rfl, hB, ?_⟩
    have hM : MadeL w1 w0.heap.size v (lksR n.toNat l a.toNat) := by
      rcases hv with h | h
      · exact h.2.1
      · exact absurd rfl h.1
    obtain ⟨A1, cap1, rfl, hc1, _, hL⟩ := hM.lks
    have hV2 := lksR_FV hV a.toNat
    have hf2 : fcode n (lksR n.toNat l a.toNat) = 0 := by
      have := FV_fcode hV2 (by rw [lksR_len]; exact h15)
      rw [← hn] at this
      exact this
    have := run_any_ A1 cap1 (lksR n.toNat l a.toNat) n b w1 hL hc1 (by rw [lksR_len]; exact hl)
    unfold RunRes at this
    rw [runCode_range hf2 hb] at this
    refine this.mono ?_
    rintro e w2 ⟨v2, u2, rfl, hB2, _⟩
    exact ⟨v2, u2, rfl, hB2⟩
  · refine ⟨runCode n l a, runCode n [] b, by rw [Bool.or_eq_true]; left; simpa using ha, ?_⟩
    rintro w0 rfl
    refine (run_any_ A cap l n a w0 hE hc hl).mono ?_
    rintro e w1 ⟨v, u, rfl, hB, hv⟩
    obtain ⟨rfl, rfl⟩ : v = .slice none 0 0 ∧ u = .slice none 0 0 := by
      rcases hv with h | h
      · exact absurd h.1 ha
      · exact h.2
    refine ⟨_, _, rfl, hB, ?_⟩
    refine (run_nil n b w1).mono ?_
    rintro e w2 ⟨v2, u2, rfl, hB2, _⟩
    exact ⟨v2, u2, rfl, hB2⟩

set_option maxHeartbeats 6400000 in
theorem forkDown_no (w : World) (n : Int) (A : Option Addr) (cap : Nat) (l : List Lk) (hE : Lks w w.heap.size A l) (hc : l.length ≤ cap) (hl : l.length ≤ 17592186044416) (a b : Int) (h : runCode n l a ≠ 0 ∨ (b < 0 ∨ 60 < b)) : DownGoal w n A cap l a b := by
  unfold DownGoal
  obtain ⟨x, y, hxy, hrun⟩ := down_in w n A cap l hE hc hl a b h
  have h1 := Lib.hid (hrun w rfl)
  have hx : ((x != 0) = true) ∨ ((x != 0) = false ∧ (y != 0) = true) := by
    cases e : (x != 0) with
    | true => exact .inl rfl
    | false => rw [e, Bool.false_or] at hxy; exact .inr ⟨rfl, hxy⟩
  have h2f : Hid (∀ w1, Below w.heap.size w w1 → ∀ C : Bool, (C = true ↔ fcode n l = 0) → Calls Try.prog 22 #[.int .i64 n, .slice A l.length cap] w1 fun e w' => e = .returned (.bool C) ∧ Below w1.heap.size w1 w') := fun w1 hB C hC => forked_any A cap l n w1 ((hE.below hB).more hB.size) hc hl C hC
  clear hrun hxy
  by_cases hf : fcode n l = 0
  · have h2 : Hid (∀ w1, Below w.heap.size w w1 → Calls Try.prog 22 #[.int .i64 n, .slice A l.length cap] w1 fun e w' => e = .returned (.bool true) ∧ Below w1.heap.size w1 w') := fun w1 hB => h2f.out w1 hB true ⟨fun _ => hf, fun _ => rfl⟩
    clear h2f
    by_cases q1 : a < 0
    · have v1 : decide (a < 0) = true := decide_eq_true q1
      clear hE hf h q1
      rcases hx with hx | ⟨hx, hy⟩
      · go_enter Try.func10, Try.ntmps10
        go_wp2_with fail
        refine h1.out.mono ?_
        rintro e w1 ⟨v, u, rfl, hB1, hr2⟩
        have hr2H := Lib.hid hr2
        have h2' := Lib.hid (fun w2 (hB : Below w1.heap.size w1 w2) => h2.out w2 (hB1.trans (hB.mono hB1.size)))
        clear h1 h2 hr2
        go_wp2_with fail
        refine hr2H.out.mono ?_
        rintro e w2 ⟨v2, u2, rfl, hB2⟩
        have h2'' := Lib.hid (h2'.out w2 hB2)
        clear h2' hr2H
        go_wp2_with fail
        refine h2''.out.mono ?_
        rintro e w3 ⟨rfl, hB3⟩
        have hB4 := hB2.trans (hB3.mono hB2.size)
        clear h2''
        go_wp2_with fail
        go_ret
        exact ⟨by simp_all, hB1.trans (hB4.mono hB1.size)⟩
      · go_enter Try.func10, Try.ntmps10
        go_wp2_with fail
        refine h1.out.mono ?_
        rintro e w1 ⟨v, u, rfl, hB1, hr2⟩
        have hr2H := Lib.hid hr2
        have h2' := Lib.hid (fun w2 (hB : Below w1.heap.size w1 w2) => h2.out w2 (hB1.trans (hB.mono hB1.size)))
        clear h1 h2 hr2
        go_wp2_with fail
        refine hr2H.out.mono ?_
        rintro e w2 ⟨v2, u2, rfl, hB2⟩
        have h2'' := Lib.hid (h2'.out w2 hB2)
        clear h2' hr2H
        go_wp2_with fail
        refine h2''.out.mono ?_
        rintro e w3 ⟨rfl, hB3⟩
        have hB4 := hB2.trans (hB3.mono hB2.size)
        clear h2''
        go_wp2_with fail
        go_ret
        exact ⟨by simp_all, hB1.trans (hB4.mono hB1.size)⟩
    have v1 : decide (a < 0) = false := decide_eq_false q1
    by_cases q2 : b < 0
    · have v2 : decide (b < 0) = true := decide_eq_true q2
      clear hE hf h q1 q2
      rcases hx with hx | ⟨hx, hy⟩
      · go_enter Try.func10, Try.ntmps10
        go_wp2_with fail
        refine h1.out.mono ?_
        rintro e w1 ⟨v, u, rfl, hB1, hr2⟩
        have hr2H := Lib.hid hr2
        have h2' := Lib.hid (fun w2 (hB : Below w1.heap.size w1 w2) => h2.out w2 (hB1.trans (hB.mono hB1.size)))
        clear h1 h2 hr2
        go_wp2_with fail
        refine hr2H.out.mono ?_
        rintro e w2 ⟨v2, u2, rfl, hB2⟩
        have h2'' := Lib.hid (h2'.out w2 hB2)
        clear h2' hr2H
        go_wp2_with fail
        refine h2''.out.mono ?_
        rintro e w3 ⟨rfl, hB3⟩
        have hB4 := hB2.trans (hB3.mono hB2.size)
        clear h2''
        go_wp2_with fail
        go_ret
        exact ⟨by simp_all, hB1.trans (hB4.mono hB1.size)⟩
      · go_enter Try.func10, Try.ntmps10
        go_wp2_with fail
        refine h1.out.mono ?_
        rintro e w1 ⟨v, u, rfl, hB1, hr2⟩
        have hr2H := Lib.hid hr2
        have h2' := Lib.hid (fun w2 (hB : Below w1.heap.size w1 w2) => h2.out w2 (hB1.trans (hB.mono hB1.size)))
        clear h1 h2 hr2
        go_wp2_with fail
        refine hr2H.out.mono ?_
        rintro e w2 ⟨v2, u2, rfl, hB2⟩
        have h2'' := Lib.hid (h2'.out w2 hB2)
        clear h2' hr2H
        go_wp2_with fail
        refine h2''.out.mono ?_
        rintro e w3 ⟨rfl, hB3⟩
        have hB4 := hB2.trans (hB3.mono hB2.size)
        clear h2''
        go_wp2_with fail
        go_ret
        exact ⟨by simp_all, hB1.trans (hB4.mono hB1.size)⟩
    have v2 : decide (b < 0) = false := decide_eq_false q2
    by_cases q3 : 60 < a
    · have v3 : decide (a > 60) = true := decide_eq_true q3
      have v3' : decide (60 < a) = true := decide_eq_true q3
      clear hE hf h q1 q2 q3
      rcases hx with hx | ⟨hx, hy⟩
      · go_enter Try.func10, Try.ntmps10
        go_wp2_with fail
        refine h1.out.mono ?_
        rintro e w1 ⟨v, u, rfl, hB1, hr2⟩
        have hr2H := Lib.hid hr2
        have h2' := Lib.hid (fun w2 (hB : Below w1.heap.size w1 w2) => h2.out w2 (hB1.trans (hB.mono hB1.size)))
        clear h1 h2 hr2
        go_wp2_with fail
        refine hr2H.out.mono ?_
        rintro e w2 ⟨v2, u2, rfl, hB2⟩
        have h2'' := Lib.hid (h2'.out w2 hB2)
        clear h2' hr2H
        go_wp2_with fail
        refine h2''.out.mono ?_
        rintro e w3 ⟨rfl, hB3⟩
        have hB4 := hB2.trans (hB3.mono hB2.size)
        clear h2''
        go_wp2_with fail
        go_ret
        exact ⟨by simp_all, hB1.trans (hB4.mono hB1.size)⟩
      · go_enter Try.func10, Try.ntmps10
        go_wp2_with fail
        refine h1.out.mono ?_
        rintro e w1 ⟨v, u, rfl, hB1, hr2⟩
        have hr2H := Lib.hid hr2
        have h2' := Lib.hid (fun w2 (hB : Below w1.heap.size w1 w2) => h2.out w2 (hB1.trans (hB.mono hB1.size)))
        clear h1 h2 hr2
        go_wp2_with fail
        refine hr2H.out.mono ?_
        rintro e w2 ⟨v2, u2, rfl, hB2⟩
        have h2'' := Lib.hid (h2'.out w2 hB2)
        clear h2' hr2H
        go_wp2_with fail
        refine h2''.out.mono ?_
        rintro e w3 ⟨rfl, hB3⟩
        have hB4 := hB2.trans (hB3.mono hB2.size)
        clear h2''
        go_wp2_with fail
        go_ret
        exact ⟨by simp_all, hB1.trans (hB4.mono hB1.size)⟩
    have v3 : decide (a > 60) = false := decide_eq_false q3
    have v3' : decide (60 < a) = false := decide_eq_false q3
    by_cases q4 : 60 < b
    · have v4 : decide (b > 60) = true := decide_eq_true q4
      have v4' : decide (60 < b) = true := decide_eq_true q4
      clear hE hf h q1 q2 q3 q4
      rcases hx with hx | ⟨hx, hy⟩
      · go_enter Try.func10, Try.ntmps10
        go_wp2_with fail
        refine h1.out.mono ?_
        rintro e w1 ⟨v, u, rfl, hB1, hr2⟩
        have hr2H := Lib.hid hr2
        have h2' := Lib.hid (fun w2 (hB : Below w1.heap.size w1 w2) => h2.out w2 (hB1.trans (hB.mono hB1.size)))
        clear h1 h2 hr2
        go_wp2_with fail
        refine hr2H.out.mono ?_
        rintro e w2 ⟨v2, u2, rfl, hB2⟩
        have h2'' := Lib.hid (h2'.out w2 hB2)
        clear h2' hr2H
        go_wp2_with fail
        refine h2''.out.mono ?_
        rintro e w3 ⟨rfl, hB3⟩
        have hB4 := hB2.trans (hB3.mono hB2.size)
        clear h2''
        go_wp2_with fail
        go_ret
        exact ⟨by simp_all, hB1.trans (hB4.mono hB1.size)⟩
      · go_enter Try.func10, Try.ntmps10
        go_wp2_with fail
        refine h1.out.mono ?_
        rintro e w1 ⟨v, u, rfl, hB1, hr2⟩
        have hr2H := Lib.hid hr2
        have h2' := Lib.hid (fun w2 (hB : Below w1.heap.size w1 w2) => h2.out w2 (hB1.trans (hB.mono hB1.size)))
        clear h1 h2 hr2
        go_wp2_with fail
        refine hr2H.out.mono ?_
        rintro e w2 ⟨v2, u2, rfl, hB2⟩
        have h2'' := Lib.hid (h2'.out w2 hB2)
        clear h2' hr2H
        go_wp2_with fail
        refine h2''.out.mono ?_
        rintro e w3 ⟨rfl, hB3⟩
        have hB4 := hB2.trans (hB3.mono hB2.size)
        clear h2''
        go_wp2_with fail
        go_ret
        exact ⟨by simp_all, hB1.trans (hB4.mono hB1.size)⟩
    have v4 : decide (b > 60) = false := decide_eq_false q4
    have v4' : decide (60 < b) = false := decide_eq_false q4
    have r1 : 0 ≤ a := by omega
    have r2 : a ≤ 60 := by omega
    have r3 : 0 ≤ b := by omega
    have r4 : b ≤ 60 := by omega
    by_cases q5 : 60 < a + b
    · have v5 : decide (a + b > 60) = true := decide_eq_true q5
      have v5' : decide (60 < a + b) = true := decide_eq_true q5
      clear hE hf h q1 q2 q3 q4
      rcases hx with hx | ⟨hx, hy⟩
      · go_enter Try.func10, Try.ntmps10
        go_wp2_with fail
        refine h1.out.mono ?_
        rintro e w1 ⟨v, u, rfl, hB1, hr2⟩
        have hr2H := Lib.hid hr2
        have h2' := Lib.hid (fun w2 (hB : Below w1.heap.size w1 w2) => h2.out w2 (hB1.trans (hB.mono hB1.size)))
        clear h1 h2 hr2
        go_wp2_with fail
        refine hr2H.out.mono ?_
        rintro e w2 ⟨v2, u2, rfl, hB2⟩
        have h2'' := Lib.hid (h2'.out w2 hB2)
        clear h2' hr2H
        go_wp2_with fail
        refine h2''.out.mono ?_
        rintro e w3 ⟨rfl, hB3⟩
        have hB4 := hB2.trans (hB3.mono hB2.size)
        clear h2''
        go_wp2_with fail
        go_ret
        exact ⟨by simp_all, hB1.trans (hB4.mono hB1.size)⟩
      · go_enter Try.func10, Try.ntmps10
        go_wp2_with fail
        refine h1.out.mono ?_
        rintro e w1 ⟨v, u, rfl, hB1, hr2⟩
        have hr2H := Lib.hid hr2
        have h2' := Lib.hid (fun w2 (hB : Below w1.heap.size w1 w2) => h2.out w2 (hB1.trans (hB.mono hB1.size)))
        clear h1 h2 hr2
        go_wp2_with fail
        refine hr2H.out.mono ?_
        rintro e w2 ⟨v2, u2, rfl, hB2⟩
        have h2'' := Lib.hid (h2'.out w2 hB2)
        clear h2' hr2H
        go_wp2_with fail
        refine h2''.out.mono ?_
        rintro e w3 ⟨rfl, hB3⟩
        have hB4 := hB2.trans (hB3.mono hB2.size)
        clear h2''
        go_wp2_with fail
        go_ret
        exact ⟨by simp_all, hB1.trans (hB4.mono hB1.size)⟩
    have v5 : decide (a + b > 60) = false := decide_eq_false q5
    have v5' : decide (60 < a + b) = false := decide_eq_false q5
    have hcy : Cyc n.toNat l := Classical.byContradiction fun hcy => by
      rcases h with h | h
      · exact h (runCode_ok hf (by omega) hcy)
      · omega
    obtain ⟨hn, hV⟩ := fcode_FV hf
    have h15 := fcode_len hf
    have h3 : Hid (∀ w1, Below w.heap.size w w1 → Calls Try.prog 13 #[.int .i64 n, .slice A l.length cap] w1 fun e w' => e = .returned (.bool true) ∧ Below w1.heap.size w1 w') := fun w1 hB => by
      have := rround_any A cap l n.toNat w1 ((hE.below hB).more hB.size) hV (by omega) true ⟨fun _ => hcy, fun _ => rfl⟩
      rw [← hn] at this
      exact this
    clear hE hf h q1 q2 q3 q4 q5 hcy hn hV
    rcases hx with hx | ⟨hx, hy⟩
    · go_enter Try.func10, Try.ntmps10
      go_wp2_with fail
      refine h1.out.mono ?_
      rintro e w1 ⟨v, u, rfl, hB1, hr2⟩
      have hr2H := Lib.hid hr2
      have h2' := Lib.hid (fun w2 (hB : Below w1.heap.size w1 w2) => h2.out w2 (hB1.trans (hB.mono hB1.size)))
      have h3' := Lib.hid (fun w2 (hB : Below w1.heap.size w1 w2) => h3.out w2 (hB1.trans (hB.mono hB1.size)))
      clear h1 h2 hr2 h3
      go_wp2_with fail
      refine hr2H.out.mono ?_
      rintro e w2 ⟨v2, u2, rfl, hB2⟩
      have h2'' := Lib.hid (h2'.out w2 hB2)
      clear h2' hr2H
      go_wp2_with fail
      refine h2''.out.mono ?_
      rintro e w3 ⟨rfl, hB3⟩
      have hB4 := hB2.trans (hB3.mono hB2.size)
      have h3'' := Lib.hid (h3'.out w3 hB4)
      clear h2'' h3'
      go_wp2_with fail
      refine h3''.out.mono ?_
      rintro e w4 ⟨rfl, hB5⟩
      have hB6 := hB4.trans (hB5.mono hB4.size)
      go_wp2_with fail
      go_ret
      exact ⟨by simp_all, hB1.trans (hB6.mono hB1.size)⟩
    · go_enter Try.func10, Try.ntmps10
      go_wp2_with fail
      refine h1.out.mono ?_
      rintro e w1 ⟨v, u, rfl, hB1, hr2⟩
      have hr2H := Lib.hid hr2
      have h2' := Lib.hid (fun w2 (hB : Below w1.heap.size w1 w2) => h2.out w2 (hB1.trans (hB.mono hB1.size)))
      have h3' := Lib.hid (fun w2 (hB : Below w1.heap.size w1 w2) => h3.out w2 (hB1.trans (hB.mono hB1.size)))
      clear h1 h2 hr2 h3
      go_wp2_with fail
      refine hr2H.out.mono ?_
      rintro e w2 ⟨v2, u2, rfl, hB2⟩
      have h2'' := Lib.hid (h2'.out w2 hB2)
      clear h2' hr2H
      go_wp2_with fail
      refine h2''.out.mono ?_
      rintro e w3 ⟨rfl, hB3⟩
      have hB4 := hB2.trans (hB3.mono hB2.size)
      have h3'' := Lib.hid (h3'.out w3 hB4)
      clear h2'' h3'
      go_wp2_with fail
      refine h3''.out.mono ?_
      rintro e w4 ⟨rfl, hB5⟩
      have hB6 := hB4.trans (hB5.mono hB4.size)
      go_wp2_with fail
      go_ret
      exact ⟨by simp_all, hB1.trans (hB6.mono hB1.size)⟩
  · have h2 : Hid (∀ w1, Below w.heap.size w w1 → Calls Try.prog 22 #[.int .i64 n, .slice A l.length cap] w1 fun e w' => e = .returned (.bool false) ∧ Below w1.heap.size w1 w') := fun w1 hB => h2f.out w1 hB false ⟨(nomatch ·), fun h => absurd h hf⟩
    clear hE hf h h2f
    rcases hx with hx | ⟨hx, hy⟩
    · go_enter Try.func10, Try.ntmps10
      go_wp2_with fail
      refine h1.out.mono ?_
      rintro e w1 ⟨v, u, rfl, hB1, hr2⟩
      have hr2H := Lib.hid hr2
      have h2' := Lib.hid (fun w2 (hB : Below w1.heap.size w1 w2) => h2.out w2 (hB1.trans (hB.mono hB1.size)))
      clear h1 h2 hr2
      go_wp2_with fail
      refine hr2H.out.mono ?_
      rintro e w2 ⟨v2, u2, rfl, hB2⟩
      have h2'' := Lib.hid (h2'.out w2 hB2)
      clear h2' hr2H
      go_wp2_with fail
      refine h2''.out.mono ?_
      rintro e w3 ⟨rfl, hB3⟩
      have hB4 := hB2.trans (hB3.mono hB2.size)
      clear h2''
      go_wp2_with fail
      go_ret
      exact ⟨by simp_all, hB1.trans (hB4.mono hB1.size)⟩
    · go_enter Try.func10, Try.ntmps10
      go_wp2_with fail
      refine h1.out.mono ?_
      rintro e w1 ⟨v, u, rfl, hB1, hr2⟩
      have hr2H := Lib.hid hr2
      have h2' := Lib.hid (fun w2 (hB : Below w1.heap.size w1 w2) => h2.out w2 (hB1.trans (hB.mono hB1.size)))
      clear h1 h2 hr2
      go_wp2_with fail
      refine hr2H.out.mono ?_
      rintro e w2 ⟨v2, u2, rfl, hB2⟩
      have h2'' := Lib.hid (h2'.out w2 hB2)
      clear h2' hr2H
      go_wp2_with fail
      refine h2''.out.mono ?_
      rintro e w3 ⟨rfl, hB3⟩
      have hB4 := hB2.trans (hB3.mono hB2.size)
      clear h2''
      go_wp2_with fail
      go_ret
      exact ⟨by simp_all, hB1.trans (hB4.mono hB1.size)⟩

set_option maxHeartbeats 8000000 in
theorem forkDown_ok (w : World) (N : Nat) (A : Option Addr) (cap : Nat) (l : List Lk) (hE : Lks w w.heap.size A l) (hc : l.length ≤ cap) (hl : l.length ≤ 17592186044416) (a b : Nat) (ha : a ≤ 60) (hb : b ≤ 60) (hf : fcode (N : Int) l = 0) (hcy : ¬ Cyc N l) (hV : FV N l) : DownGoal w N A cap l a b := by
  unfold DownGoal
  have h15 := fcode_len hf
  have hNt : ((N : Int)).toNat = N := by simp
  have hcode : ∀ (l' : List Lk) (m : Nat), fcode (N : Int) l' = 0 → ¬ Cyc N l' → m ≤ 60 → runCode (N : Int) l' (m : Int) = 0 := fun l' m h1 h2 h3 => runCode_ok h1 (by omega) (by rw [hNt]; exact h2)
  have hrun : Hid (∀ (l' : List Lk) (m : Nat) w1 A1 cap1, fcode (N : Int) l' = 0 → ¬ Cyc N l' → m ≤ 60 → l'.length = l.length → l.length ≤ cap1 → Lks w1 w1.heap.size A1 l' → Calls Try.prog 20 #[.int .i64 (N : Int), .slice A1 l.length cap1, .int .i64 (m : Int)] w1 fun e w' => ∃ A2 cap2 T, e = .returned (.tuple #[.slice A2 l.length cap2, .slice (some ⟨T, 0, none⟩) N N, .int .i64 0]) ∧ Below w1.heap.size w1 w' ∧ l.length ≤ cap2 ∧ Lks w' w'.heap.size A2 (lksR N l' m) ∧ IntRow w' T N (fun i => (tmR N l' m i : Int))) := fun l' m w1 A1 cap1 h1 h2 h3 h4 h5 h6 => by
    have hr := run_any_ A1 cap1 l' (N : Int) (m : Int) w1 h6 (by omega) (by omega)
    unfold RunRes at hr
    rw [hcode l' m h1 h2 h3, h4, hNt, show ((m : Int)).toNat = m by simp] at hr
    refine hr.mono ?_
    rintro e w' ⟨v, u, rfl, hB, hv⟩
    obtain ⟨hM, T, rfl, _, hR⟩ : MadeL w' w1.heap.size v (lksR N l' m) ∧ ∃ T, u = .slice (some ⟨T, 0, none⟩) N N ∧ w1.heap.size ≤ T ∧ IntRow w' T N (fun i => (tmR N l' m i : Int)) := by
      rcases hv with h | h
      · exact h.2
      · exact absurd rfl h.1
    obtain ⟨A2, cap2, rfl, h7, _, hL⟩ := hM.lks
    rw [lksR_len, h4] at h7 ⊢
    exact ⟨A2, cap2, T, rfl, hB, h7, hL, hR⟩
  have h1 := Lib.hid (hrun.out l a w A cap hf hcy ha rfl hc hE)
  have hf2 : fcode (N : Int) (lksR N l a) = 0 := FV_fcode (lksR_FV hV a) (by rw [lksR_len]; exact h15)
  have hcy2 : ¬ Cyc N (lksR N l a) := fun h => hcy ((lksR_cyc hV a).1 h)
  have h2 : Hid (∀ w1 A1 cap1, l.length ≤ cap1 → Lks w1 w1.heap.size A1 (lksR N l a) → _) := fun w1 A1 cap1 h5 h6 => hrun.out (lksR N l a) b w1 A1 cap1 hf2 hcy2 hb (lksR_len N l a) h5 h6
  have h3 : Hid (∀ w1, Below w.heap.size w w1 → Calls Try.prog 22 #[.int .i64 (N : Int), .slice A l.length cap] w1 fun e w' => e = .returned (.bool true) ∧ Below w1.heap.size w1 w') := fun w1 hB => forked_any A cap l (N : Int) w1 ((hE.below hB).more hB.size) hc hl true ⟨fun _ => hf, fun _ => rfl⟩
  have h4 : Hid (∀ w1, Below w.heap.size w w1 → Calls Try.prog 13 #[.int .i64 (N : Int), .slice A l.length cap] w1 fun e w' => e = .returned (.bool false) ∧ Below w1.heap.size w1 w') := fun w1 hB => rround_any A cap l N w1 ((hE.below hB).more hB.size) hV (by omega) false ⟨(nomatch ·), fun h => absurd h hcy⟩
  have v1 : decide ((a : Int) < 0) = false := decide_eq_false (by omega)
  have v2 : decide ((b : Int) < 0) = false := decide_eq_false (by omega)
  have v3 : decide ((a : Int) > 60) = false := decide_eq_false (by omega)
  have v3' : decide (60 < (a : Int)) = false := decide_eq_false (by omega)
  have v4 : decide ((b : Int) > 60) = false := decide_eq_false (by omega)
  have v4' : decide (60 < (b : Int)) = false := decide_eq_false (by omega)
  have h6 := hV.six
  by_cases q5 : 60 < (a : Int) + (b : Int)
  · have v5 : decide ((a : Int) + (b : Int) > 60) = true := decide_eq_true q5
    have v5' : decide (60 < (a : Int) + (b : Int)) = true := decide_eq_true q5
    clear hE hf hcy hV hf2 hcy2 h4 hrun hcode hNt
    go_enter Try.func10, Try.ntmps10
    go_wp2_with fail
    refine h1.out.mono ?_
    rintro e w1 ⟨A1, cap1, T1, rfl, hB1, hc1, hL1, hR1⟩
    have h2' := Lib.hid (h2.out w1 A1 cap1 hc1 hL1)
    clear h1 h2 hL1 hR1
    go_wp2_with fail
    refine h2'.out.mono ?_
    rintro e w2 ⟨A2, cap2, T2, rfl, hB2, hc2, hL2, hR2⟩
    have hB3 := hB1.trans (hB2.mono hB1.size)
    have h3' := Lib.hid (h3.out w2 hB3)
    clear h2' hL2 hR2 h3 hB2
    go_wp2_with fail
    refine h3'.out.mono ?_
    rintro e w3 ⟨rfl, hB4⟩
    go_wp2_with fail
    go_ret
    exact ⟨by simp_all, hB3.trans (hB4.mono hB3.size)⟩
  · have v5 : decide ((a : Int) + (b : Int) > 60) = false := decide_eq_false q5
    have v5' : decide (60 < (a : Int) + (b : Int)) = false := decide_eq_false q5
    have h5 : Hid (∀ w1, Below w.heap.size w w1 → Calls Try.prog 20 #[.int .i64 (N : Int), .slice A l.length cap, .int .i64 ((a : Int) + (b : Int))] w1 fun e w' => ∃ A2 cap2 T, e = .returned (.tuple #[.slice A2 l.length cap2, .slice (some ⟨T, 0, none⟩) N N, .int .i64 0]) ∧ Below w1.heap.size w1 w' ∧ l.length ≤ cap2 ∧ Lks w' w'.heap.size A2 (lksR N (lksR N l a) b) ∧ IntRow w' T N (fun i => ((tmR N l a i + tmR N (lksR N l a) b i : Nat) : Int))) := fun w1 hB => by
      have := hrun.out l (a + b) w1 A cap hf hcy (by omega) rfl hc ((hE.below hB).more hB.size)
      rw [lksR_add] at this
      rw [show ((a + b : Nat) : Int) = (a : Int) + (b : Int) by simp] at this
      refine this.mono ?_
      rintro e w' ⟨A2, cap2, T, h1, h2, h3, h4, h5⟩
      exact ⟨A2, cap2, T, h1, h2, h3, h4, h5.congr fun j _ => by rw [tmR_add]⟩
    have htw : Hid (∀ w1 A1 A2 c1 c2, Lks w1 w1.heap.size A1 (lksR N (lksR N l a) b) → Lks w1 w1.heap.size A2 (lksR N (lksR N l a) b) → Calls Try.prog 18 #[.slice A1 l.length c1, .slice A2 l.length c2] w1 fun e w' => e = .returned (.bool true) ∧ Below w1.heap.size w1 w') := fun w1 A1 A2 c1 c2 g1 g2 => by
      have := twos_same A1 A2 c1 c2 (lksR N (lksR N l a) b) w1 g1 g2 (by rw [lksR_len, lksR_len]; omega)
      rw [lksR_len, lksR_len] at this
      exact this
    have hle1 : Hid (∀ i, tmR N l a i ≤ 60) := fun i => by have := tmR_le N l a i; omega
    have hle2 : Hid (∀ i, tmR N (lksR N l a) b i ≤ 60) := fun i => by have := tmR_le N (lksR N l a) b i; omega
    have hlast : Hid (∀ A2 w1, Lks w1 w1.heap.size A2 (lksR N (lksR N l a) b) → ∀ w2, Below w1.heap.size w1 w2 → Lks w2 w2.heap.size A2 (lksR N (lksR N l a) b)) := fun A2 w1 g w2 hB => (g.below hB).more hB.size
    generalize tmR N (lksR N l a) b = G at *
    generalize tmR N l a = F at *
    generalize lksR N (lksR N l a) b = LB at *
    generalize lksR N l a = LA at *
    clear hE hf hcy hV hf2 hcy2 hrun hcode hNt
    go_enter Try.func10, Try.ntmps10
    go_wp2_with fail
    refine h1.out.mono ?_
    rintro e w1 ⟨A1, cap1, T1, rfl, hB1, hc1, hL1, hR1⟩
    have h2' := Lib.hid (h2.out w1 A1 cap1 hc1 hL1)
    have hR1H := Lib.hid hR1
    clear h1 h2 hL1 hR1
    go_wp2_with fail
    refine h2'.out.mono ?_
    rintro e w2 ⟨A2, cap2, T2, rfl, hB2, hc2, hL2, hR2⟩
    have hB3 := hB1.trans (hB2.mono hB1.size)
    have h3' := Lib.hid (h3.out w2 hB3)
    have hR1b := Lib.hid (Row.below hR1H.out hB2 (Row.lt hR1H.out))
    have hR2H := Lib.hid hR2
    have hL2H := Lib.hid hL2
    clear h2' hL2 hR2 h3 hB2 hB1 hR1H
    go_wp2_with fail
    refine h3'.out.mono ?_
    rintro e w3 ⟨rfl, hB4⟩
    have hB5 := hB3.trans (hB4.mono hB3.size)
    have h4' := Lib.hid (h4.out w3 hB5)
    have hR1c := Lib.hid (Row.below hR1b.out hB4 (Row.lt hR1b.out))
    have hR2c := Lib.hid (Row.below hR2H.out hB4 (Row.lt hR2H.out))
    have hL2c := Lib.hid (hlast.out A2 w2 hL2H.out w3 hB4)
    clear h3' h4 hB4 hB3 hR1b hR2H hL2H
    go_wp2_with fail
    refine h4'.out.mono ?_
    rintro e w4 ⟨rfl, hB6⟩
    have hB7 := hB5.trans (hB6.mono hB5.size)
    have h5' := Lib.hid (h5.out w4 hB7)
    have hR1d := Lib.hid (Row.below hR1c.out hB6 (Row.lt hR1c.out))
    have hR2d := Lib.hid (Row.below hR2c.out hB6 (Row.lt hR2c.out))
    have hL2d := Lib.hid (hlast.out A2 w3 hL2c.out w4 hB6)
    clear h4' h5 hB6 hB5 hR1c hR2c hL2c
    go_wp2_with fail
    refine h5'.out.mono ?_
    rintro e w5 ⟨A3, cap3, T3, rfl, hB8, hc3, hL3, hR3⟩
    have hB9 := Lib.hid (hB7.trans (hB8.mono hB7.size))
    have g1 : Hid (IntRow w5 T1 N (fun i => (F i : Int))) := Row.below hR1d.out hB8 (Row.lt hR1d.out)
    have g2 : Hid (IntRow w5 T2 N (fun i => (G i : Int))) := Row.below hR2d.out hB8 (Row.lt hR2d.out)
    have g3 := Lib.hid hR3
    have gL := Lib.hid (hlast.out A2 w4 hL2d.out w5 hB8)
    have gL3 := Lib.hid hL3
    clear h5' hB8 hB7 hR1d hR2d hL2d hL3 hR3
    go_wp2_with fail
    go_loopw [18] (fun t wr => ∃ i : Nat, i ≤ N ∧ t = .int .i64 i ∧ DoRel w5 wr) (fun t _ => N - (intOf t).toNat)
    case atStart => exact ⟨0, Nat.zero_le _, rfl, Below.refl _ _⟩
    case round =>
      obtain ⟨i, hi, rfl, hB⟩ := hrel
      unfold DoRel at hB
      by_cases hiN : i < N
      · have hiI : (i : Int) < (N : Int) := by omega
        have e1 := IntRow.at_ (Row.below g1.out hB (Row.lt g1.out) : IntRow wr T1 N (fun i => (F i : Int))) hiN
        have e2 := IntRow.at_ (Row.below g2.out hB (Row.lt g2.out) : IntRow wr T2 N (fun i => (G i : Int))) hiN
        have e3 := IntRow.at_ (Row.below g3.out hB (Row.lt g3.out) : IntRow wr T3 N (fun i => ((F i + G i : Nat) : Int))) hiN
        have b1 := hle1.out i
        have b2 := hle2.out i
        have hBH := Lib.hid hB
        clear hB
        generalize F i = f at *
        generalize G i = g at *
        have hne : ((f : Int) + (g : Int) != ((f + g : Nat) : Int)) = false := by simp
        have hs : ((f + g : Nat) : Int) = (f : Int) + (g : Int) := by simp
        rw [hs] at e3
        clear hne hs
        go_wp2_with fail
        go_quiet (fail)
        go_wp2_with fail
        go_roundw
        case rel => exact ⟨i + 1, by omega, by go_num, below_drewN hBH.out _⟩
        case measure => simp [intOf]; omega
      · have hiE : i = N := by omega
        subst hiE
        have htw' := Lib.hid (htw.out wr A2 A3 cap2 cap3 (hlast.out A2 w5 gL.out wr hB) (hlast.out A3 w5 gL3.out wr hB))
        have hBH := Lib.hid (hB9.out.trans (hB.mono hB9.out.size))
        clear hB htw
        go_wp2_with fail
        refine htw'.out.mono ?_
        rintro e w6 ⟨rfl, hB10⟩
        go_wp2_with fail
        go_ret
        exact ⟨rfl, hBH.out.trans (hB10.mono hBH.out.size)⟩

theorem forkDown_law (w : World) (n : Int) (_hn : I64 n) (A : Option Addr) (cap : Nat) (l : List Lk) (hE : Lks w w.heap.size A l) (hF : LFits l) (hc : l.length ≤ cap) (hlm : l.length ≤ maxLen) (hl : l.length ≤ 17592186044416) (a : Int) (_ha : I64 a) (b : Int) (_hb : I64 b) :
    Calls Try.prog 10 #[.int .i64 n, .slice A l.length cap, .int .i64 a, .int .i64 b] w fun e w' => e = .returned (.bool true) ∧ Below w.heap.size w w' := by
  by_cases h : runCode n l a ≠ 0 ∨ (b < 0 ∨ 60 < b)
  · exact forkDown_no w n A cap l hE hc hl a b h
  · have h0 : runCode n l a = 0 := Classical.byContradiction fun x => h (.inl x)
    obtain ⟨hf, hm, hcy⟩ := runCode_zero h0
    obtain ⟨hn, hV⟩ := fcode_FV hf
    obtain ⟨N, rfl⟩ : ∃ N : Nat, n = (N : Int) := ⟨_, hn⟩
    obtain ⟨a', rfl⟩ : ∃ M : Nat, a = (M : Int) := ⟨a.toNat, by omega⟩
    have hb : ¬ (b < 0 ∨ 60 < b) := fun x => h (.inr x)
    obtain ⟨b', rfl⟩ : ∃ M : Nat, b = (M : Int) := ⟨b.toNat, by omega⟩
    rw [show ((N : Int)).toNat = N by simp] at hV hcy
    exact forkDown_ok w N A cap l hE hc hl a' b' (by omega) (by omega) hf hcy hV
#print axioms forkDown_law
end Go.Proofs.Ytieicimoolegoaa
