/-
  The walk of the law beaconrylaw.ForkRuns.
-/
import Derived.Test.YtieicimoolegoaaFrn
import Derived.Test.YtieicimoolegoaaFtd
import Derived.Test.YtieicimoolegoaaFlo
import Derived.Test.YtieicimoolegoaaFro
import Derived.Test.YtieicimoolegoaaFfc
import Derived.Test.YtieicimoolegoaaInt
namespace Go.Proofs.Ytieicimoolegoaa
open Go.RowKit Go.Maps
set_option linter.unusedVariables false

/-- The links are not in block T. -/
def Off (T : Nat) (A : Option Addr) (l : List Lk) : Prop := 0 < l.length → ∀ b off, A = some ⟨b, off, none⟩ → b ≠ T
def LksAt (N T : Nat) (l : List Lk) (k : Nat) (v : Value) (wr : World) : Prop := ∃ A cap, v = .slice A l.length cap ∧ Lks wr wr.heap.size A (lksR N l k) ∧ Off T A l
theorem cell_blk {w w' : World} {p : Addr} (h : w'.heap[p.block]? = w.heap[p.block]?) : w'.cell? p = w.cell? p := by simp [World.cell?, h]
theorem Lks.kpt {w w' : World} {T : Nat} {A : Option Addr} {l : List Lk} (h : Lks w w.heap.size A l) (hk : Kpt T w w') (ho : Off T A l) : Lks w' w'.heap.size A l := by
  intro h0
  obtain ⟨b, off, e, hb, hc⟩ := h h0
  have hne := ho h0 b off e
  have hsz := hk.1.size
  refine ⟨b, off, e, by omega, fun i hi => ?_⟩
  rw [cell_blk (hk.2 b hne), cell_blk (p := ⟨b, off + i * 2 + 1, none⟩) (hk.2 b hne)]
  exact hc i hi
def RuRel (Wz : World) (N T : Nat) (l : List Lk) (k : Nat) (v : Value) (wr : World) : Prop := LksAt N T l k v wr ∧ IntRow wr T N (fun i => (tmR N l k i : Int)) ∧ Below T Wz wr
def RuIn (T N s : Nat) (f : Nat → Int) (w : World) (i : Nat) (wr : World) : Prop := IntRow wr T N (cntF s f i) ∧ Kpt T w wr
theorem cntF_zero (s : Nat) (f : Nat → Int) : ∀ j, f j = cntF s f 0 j := fun j => by unfold cntF; rw [if_neg (by omega)]
theorem cntF_was (s : Nat) (f : Nat → Int) (i : Nat) : cntF s f i i = f i := by unfold cntF; rw [if_neg (by omega)]
theorem cntF_yes {s i : Nat} (f : Nat → Int) (h : s.testBit i = true) : cntF s f (i + 1) i = f i + 1 := by unfold cntF; rw [if_pos ⟨by omega, h⟩]
theorem cntF_no {s i : Nat} (f : Nat → Int) (h : s.testBit i = false) : cntF s f (i + 1) i = f i := by unfold cntF; rw [if_neg (by rw [h]; simp)]
theorem cntF_other (s : Nat) (f : Nat → Int) (i : Nat) : ∀ j, j ≠ i → cntF s f (i + 1) j = cntF s f i j := fun j hj => by
  unfold cntF
  by_cases h : s.testBit j = true
  · by_cases h1 : j < i
    · rw [if_pos (show j < i + 1 ∧ _ from ⟨by omega, h⟩), if_pos (show j < i ∧ _ from ⟨h1, h⟩)]
    · rw [if_neg (show ¬ (j < i + 1 ∧ s.testBit j = true) from fun x => h1 (by omega)), if_neg (show ¬ (j < i ∧ s.testBit j = true) from fun x => h1 x.1)]
  · rw [if_neg (fun x => h x.2), if_neg (fun x => h x.2)]

def RunsGoal (w : World) (n : Int) (A : Option Addr) (cap : Nat) (l : List Lk) (m : Int) : Prop := Calls Try.prog 6 #[.int .i64 n, .slice A l.length cap, .int .i64 m] w fun e w' => e = .returned (.bool true) ∧ Below w.heap.size w w'

set_option maxHeartbeats 3200000 in
theorem forkRuns_no (w : World) (n : Int) (A : Option Addr) (cap : Nat) (l : List Lk) (hE : Lks w w.heap.size A l) (hc : l.length ≤ cap) (hl : l.length ≤ 17592186044416) (m : Int) (hno : runCode n l m ≠ 0) : RunsGoal w n A cap l m := by
  unfold RunsGoal
  have h1 := Lib.hid (run_any_ A cap l n m w hE hc hl)
  have h2 : Hid (∀ w1, Below w.heap.size w w1 → Calls Try.prog 12 #[.int .i64 n, .slice A l.length cap] w1 fun e w' => e = .returned (.int .i64 (fcode n l)) ∧ Below w1.heap.size w1 w') := fun w1 hB => forkCode_any A cap l n w1 ((hE.below hB).more hB.size) hc hl
  have hnoH := Lib.hid hno
  by_cases hf : fcode n l = 0
  · obtain ⟨hn, hV⟩ := fcode_FV hf
    have h15 := fcode_len hf
    rw [hf] at h2
    by_cases hm : m < 0 ∨ 60 < m
    · have hT := runCode_range hf hm
      unfold RunRes at h1
      rw [hT] at h1 hnoH
      by_cases hm0 : m < 0
      · have v1 : decide (m < 0) = true := decide_eq_true hm0
        clear hE hn hV hf hT hm hno
        go_enter Try.func6, Try.ntmps6
        go_wp2_with fail
        refine h1.out.mono ?_
        rintro e w1 ⟨v, u, rfl, hB1, hv⟩
        obtain ⟨rfl, rfl⟩ : v = .slice none 0 0 ∧ u = .slice none 0 0 := by
          rcases hv with h | h
          · exact absurd h.1 hnoH.out
          · exact h.2
        have h2' := Lib.hid (h2.out w1 hB1)
        clear h1 h2 hv hnoH
        go_wp2_with fail
        refine h2'.out.mono ?_
        rintro e w2 ⟨rfl, hB2⟩
        go_wp2_with fail
        go_ret
        exact ⟨by simp_all, hB1.trans (hB2.mono hB1.size)⟩
      · have v1 : decide (m < 0) = false := decide_eq_false hm0
        have v2 : decide (m > 60) = true := decide_eq_true (by omega)
        have v2' : decide (60 < m) = true := decide_eq_true (by omega)
        clear hE hn hV hf hT hm hno
        go_enter Try.func6, Try.ntmps6
        go_wp2_with fail
        refine h1.out.mono ?_
        rintro e w1 ⟨v, u, rfl, hB1, hv⟩
        obtain ⟨rfl, rfl⟩ : v = .slice none 0 0 ∧ u = .slice none 0 0 := by
          rcases hv with h | h
          · exact absurd h.1 hnoH.out
          · exact h.2
        have h2' := Lib.hid (h2.out w1 hB1)
        clear h1 h2 hv hnoH
        go_wp2_with fail
        refine h2'.out.mono ?_
        rintro e w2 ⟨rfl, hB2⟩
        go_wp2_with fail
        go_ret
        exact ⟨by simp_all, hB1.trans (hB2.mono hB1.size)⟩
    · have v1 : decide (m < 0) = false := decide_eq_false (by omega)
      have v2 : decide (m > 60) = false := decide_eq_false (by omega)
      have v2' : decide (60 < m) = false := decide_eq_false (by omega)
      have hcy : Cyc n.toNat l := Classical.byContradiction fun h => hno (runCode_ok hf hm h)
      have hT := runCode_cyc hf hm hcy
      unfold RunRes at h1
      rw [hT] at h1 hnoH
      have h3 : Hid (∀ w1, Below w.heap.size w w1 → Calls Try.prog 13 #[.int .i64 n, .slice A l.length cap] w1 fun e w' => e = .returned (.bool true) ∧ Below w1.heap.size w1 w') := fun w1 hB => by
        have := rround_any A cap l n.toNat w1 ((hE.below hB).more hB.size) hV (by omega) true ⟨fun _ => hcy, fun _ => rfl⟩
        rw [← hn] at this
        exact this
      clear hE hn hV hf hT hm hno hcy
      go_enter Try.func6, Try.ntmps6
      go_wp2_with fail
      refine h1.out.mono ?_
      rintro e w1 ⟨v, u, rfl, hB1, hv⟩
      obtain ⟨rfl, rfl⟩ : v = .slice none 0 0 ∧ u = .slice none 0 0 := by
        rcases hv with h | h
        · exact absurd h.1 hnoH.out
        · exact h.2
      have h2' := Lib.hid (h2.out w1 hB1)
      clear h1 h2 hv hnoH
      go_wp2_with fail
      refine h2'.out.mono ?_
      rintro e w2 ⟨rfl, hB2⟩
      have hB3 := hB1.trans (hB2.mono hB1.size)
      have h3' := Lib.hid (h3.out w2 hB3)
      clear h3 h2'
      go_wp2_with fail
      refine h3'.out.mono ?_
      rintro e w3 ⟨rfl, hB4⟩
      go_wp2_with fail
      go_ret
      exact ⟨by simp_all, hB3.trans (hB4.mono hB3.size)⟩
  · have hT := runCode_bad (m := m) hf
    unfold RunRes at h1
    rw [hT] at h1
    generalize fcode n l = x at *
    have hx : (x != 0) = true := by simpa using hf
    have hx2 : (x == 0) = false := by simpa using hf
    have hfH := Lib.hid hf
    clear hE hT hf hno hnoH
    go_enter Try.func6, Try.ntmps6
    go_wp2_with fail
    refine h1.out.mono ?_
    rintro e w1 ⟨v, u, rfl, hB1, hv⟩
    obtain ⟨rfl, rfl⟩ : v = .slice none 0 0 ∧ u = .slice none 0 0 := by
      rcases hv with h | h
      · exact absurd h.1 hfH.out
      · exact h.2
    have h2' := Lib.hid (h2.out w1 hB1)
    clear h1 h2 hv
    go_wp2_with fail
    refine h2'.out.mono ?_
    rintro e w2 ⟨rfl, hB2⟩
    go_wp2_with fail
    go_ret
    exact ⟨by simp_all, hB1.trans (hB2.mono hB1.size)⟩

theorem runCode_zero {n : Int} {l : List Lk} {m : Int} (h : runCode n l m = 0) : fcode n l = 0 ∧ ¬ (m < 0 ∨ 60 < m) ∧ ¬ Cyc n.toNat l := by
  by_cases h1 : fcode n l = 0
  · by_cases h2 : m < 0 ∨ 60 < m
    · rw [runCode_range h1 h2] at h; omega
    · by_cases h3 : Cyc n.toNat l
      · rw [runCode_cyc h1 h2 h3] at h; omega
      · exact ⟨h1, h2, h3⟩
  · rw [runCode_bad h1] at h; exact absurd h h1

set_option maxHeartbeats 6400000 in
theorem forkRuns_ok (w : World) (n : Int) (A : Option Addr) (cap : Nat) (l : List Lk) (hE : Lks w w.heap.size A l) (hc : l.length ≤ cap) (hl : l.length ≤ 17592186044416) (m : Int) (hyes : runCode n l m = 0) : RunsGoal w n A cap l m := by
  unfold RunsGoal
  obtain ⟨hf, hm, hcy⟩ := runCode_zero hyes
  have h1 := Lib.hid (run_any_ A cap l n m w hE hc hl)
  have h2 : Hid (∀ w1, Below w.heap.size w w1 → Calls Try.prog 12 #[.int .i64 n, .slice A l.length cap] w1 fun e w' => e = .returned (.int .i64 (fcode n l)) ∧ Below w1.heap.size w1 w') := fun w1 hB => forkCode_any A cap l n w1 ((hE.below hB).more hB.size) hc hl
  unfold RunRes at h1
  rw [hyes] at h1
  rw [hf] at h2
  obtain ⟨hn, hV⟩ := fcode_FV hf
  have h15 := fcode_len hf
  obtain ⟨M, rfl⟩ : ∃ M : Nat, m = (M : Int) := ⟨m.toNat, by omega⟩
  have hM60 : M ≤ 60 := by omega
  have hMt : ((M : Int)).toNat = M := by simp
  rw [hMt] at h1
  obtain ⟨N, hN⟩ : ∃ N : Nat, N = n.toNat := ⟨_, rfl⟩
  rw [← hN] at hn hV h1 hcy
  subst hn
  clear hN hMt
  have h6 := hV.six
  have hone := hV.one
  have h64 := Nat.pow_le_pow_right (n := 2) (by omega) h6
  have v1 : decide ((M : Int) < 0) = false := decide_eq_false (by omega)
  have v2 : decide ((M : Int) > 60) = false := decide_eq_false (by omega)
  have v2' : decide (60 < (M : Int)) = false := decide_eq_false (by omega)
  have h3 : Hid (∀ w1, Below w.heap.size w w1 → Calls Try.prog 13 #[.int .i64 (N : Int), .slice A l.length cap] w1 fun e w' => e = .returned (.bool false) ∧ Below w1.heap.size w1 w') := fun w1 hB => rround_any A cap l N w1 ((hE.below hB).more hB.size) hV (by omega) false ⟨(nomatch ·), fun h => absurd h hcy⟩
  have hlw : Hid (∀ k wr A1 cap1, Lks wr wr.heap.size A1 (lksR N l k) → Calls Try.prog 15 #[.int .i64 (N : Int), .slice A1 l.length cap1] wr fun e w' => e = .returned (.int .u32 (lowN N (lksR N l k) : Int)) ∧ Below wr.heap.size wr w') := fun k wr A1 cap1 h => by
    have := rlow_any A1 cap1 (lksR N l k) N wr h h6 (lksR_FV hV k).ok (by rw [lksR_len]; omega)
    rw [lksR_len] at this
    exact this
  have htd : Hid (∀ k wr A1 cap1, Lks wr wr.heap.size A1 (lksR N l k) → Calls Try.prog 19 #[.slice A1 l.length cap1, .int .u32 (lowN N (lksR N l k) : Int)] wr fun e w' => ∃ v, e = .returned v ∧ MadeL w' wr.heap.size v (lksR N l (k + 1)) ∧ Below wr.heap.size wr w') := fun k wr A1 cap1 h => by
    have hlt := lowN_lt N (lksR N l k)
    have := turned_any A1 cap1 (lksR N l k) N (lowN N (lksR N l k)) wr h h6 (lksR_FV hV k).ok (by omega) (by rw [lksR_len]; omega)
    rw [lksR_len] at this
    refine this.mono ?_
    rintro e w' ⟨v, h1, h2, h3⟩
    rw [turnedL_eq (lowN_Snk (lksR_FV hV k))] at h2
    exact ⟨v, h1, h2, h3⟩
  have hLl : Hid (∀ k, lowN N (lksR N l k) < 2 ^ N) := fun k => lowN_lt _ _
  have hcn : Hid (∀ k j, j < N → cntF (lowN N (lksR N l k)) (fun i => (tmR N l k i : Int)) N j = (tmR N l (k + 1) j : Int)) := fun k => cntF_tm N l k
  have htl : Hid (∀ k i, tmR N l k i ≤ k) := tmR_le N l
  have hlen : Hid (∀ k, (lksR N l k).length = l.length) := lksR_len N l
  obtain ⟨j0, hi0, hz0, hz1, hz2⟩ := info_parts infoInt
  have hJi := Lib.hid hi0; have hJz := Lib.hid hz0; have hJs := Lib.hid hz1; have hJb := Lib.hid hz2
  have hEH := Lib.hid hE
  clear hi0 hz0 hz1 hz2 hE hV hf hm hyes hcy
  go_enter Try.func6, Try.ntmps6
  go_wp2_with fail
  refine h1.out.mono ?_
  rintro e w1 ⟨v, u, rfl, hB1, hv⟩
  obtain ⟨hMv, T1, rfl, hT1, hR1⟩ : MadeL w1 w.heap.size v (lksR N l M) ∧ ∃ T, u = .slice (some ⟨T, 0, none⟩) N N ∧ w.heap.size ≤ T ∧ IntRow w1 T N (fun i => (tmR N l M i : Int)) := by
    rcases hv with h | h
    · exact h.2
    · exact absurd rfl h.1
  have h2' := Lib.hid (h2.out w1 hB1)
  have hMH := Lib.hid hMv
  have hR1H := Lib.hid hR1
  clear h1 h2 hv hMv hR1
  go_wp2_with fail
  refine h2'.out.mono ?_
  rintro e w2 ⟨rfl, hB2⟩
  have hB3 := hB1.trans (hB2.mono hB1.size)
  have h3' := Lib.hid (h3.out w2 hB3)
  have hM2 := Lib.hid (hMH.out.below hB2)
  have hR2 := Lib.hid (Row.below hR1H.out hB2 (Row.lt hR1H.out))
  clear h3 h2' hB2 hMH hR1H
  go_wp2_with fail
  refine h3'.out.mono ?_
  rintro e w3 ⟨rfl, hB4⟩
  have hB5 := hB3.trans (hB4.mono hB3.size)
  have hM3 := Lib.hid (hM2.out.below hB4)
  have hR3 := Lib.hid (Row.below hR2.out hB4 (Row.lt hR2.out))
  have hE3 := Lib.hid ((hEH.out.below hB5).more hB5.size)
  have hB5H := Lib.hid hB5
  clear hB4 hB3 h3' hM2 hR2 hB1 hB5
  go_wp2_with (first
    | (at_make; refine wpList_make_row _ rfl (.tmp 58) (.tmp 58) 39 rfl 3 j0 (.int .i64 0) Try.underlying39 hJi.out hJz.out hJs.out rfl .i64 .i64 _ _ N rfl rfl rfl rfl (by rw [hJb.out]; omega) (by unfold maxLen; omega) ?_; intro w4 hR4 hG4))
  have hst : RuRel w3 N w3.heap.size l 0 (.slice A l.length cap) w4 := by
    have hB6 := (Below.refl _ w3).grown hG4 (Nat.le_refl _) (fun k hk => by cases hk)
    refine ⟨⟨A, cap, rfl, (hE3.out.below hB6).more hB6.size, fun h0 b off e => ?_⟩, ?_, hB6⟩
    · obtain ⟨b', off', e', hb', _⟩ := hE3.out h0
      rw [e] at e'
      simp only [Option.some.injEq, Addr.mk.injEq] at e'
      omega
    · rw [intRow_zero] at hR4
      exact IntRow.congr hR4 fun j _ => rfl
  have hstH := Lib.hid hst
  have hTr : Hid (T1 < w3.heap.size) := Row.lt hR3.out
  obtain ⟨T, hT⟩ : ∃ T, Hid (w3.heap.size = T) := ⟨_, rfl⟩
  rw [hT.out] at hstH hTr
  rw [hT.out]
  clear hst hR4 hG4
  go_loopw [12, 1] (fun t v wr => ∃ k : Nat, k ≤ M ∧ t = .int .i64 k ∧ RuRel w3 N T l k v wr) (fun t _ _ => M - (intOf t).toNat)
  case atStart => exact ⟨0, Nat.zero_le _, rfl, hstH.out⟩
  case round =>
    clear hstH
    obtain ⟨k, hk, rfl, ⟨A1, cap1, rfl, hLk, hOff⟩, hR, hB⟩ := hrel
    have hOffH := Lib.hid hOff
    clear hOff
    rename World => wr
    by_cases hlt : k < M
    · have hkI : (k : Int) < (M : Int) := by omega
      have hc1 := Lib.hid (hlw.out k wr A1 cap1 hLk)
      have hLkH := Lib.hid hLk
      have hBH := Lib.hid hB
      have hRH := Lib.hid hR
      clear hR hB hLk
      go_wp2_with fail
      refine hc1.out.mono ?_
      rintro e w5 ⟨rfl, hB5⟩
      have hR5 : IntRow w5 T N (fun i => (tmR N l k i : Int)) := Row.below hRH.out hB5 (Row.lt hRH.out)
      have hL5 := Lib.hid ((hLkH.out.below hB5).more hB5.size)
      have hB6 := Lib.hid (hBH.out.trans (hB5.mono (Nat.le_of_lt (Row.lt hRH.out))))
      have hSl := hLl.out k
      have hfin := Lib.hid (hcn.out k)
      have htd' : Hid (∀ wr, Lks wr wr.heap.size A1 (lksR N l k) → _) := fun wr h => htd.out k wr A1 cap1 h
      have htk := Lib.hid (htl.out k)
      have hst5 : RuIn T N (lowN N (lksR N l k)) (fun i => (tmR N l k i : Int)) w5 0 w5 := ⟨hR5.congr fun j _ => cntF_zero (lowN N (lksR N l k)) (fun i => (tmR N l k i : Int)) j, Kpt.refl _ _⟩
      have hst5H := Lib.hid hst5
      have hbH : Hid (T < w5.heap.size) := Row.lt hR5
      clear hB5 hR5 hst5 hLkH hc1
      generalize hS : lowN N (lksR N l k) = S at *
      generalize hF : (fun i => (tmR N l k i : Int)) = F at *
      have hF0 : Hid (∀ i, 0 ≤ F i ∧ F i ≤ 60) := fun i => by
        rw [← hF]
        have := htk.out i
        constructor
        · show (0 : Int) ≤ (tmR N l k i : Int); omega
        · show (tmR N l k i : Int) ≤ 60; omega
      clear hS hF
      go_wp2_with fail
      go_loopw [14] (fun t wr => ∃ i : Nat, i ≤ N ∧ t = .int .i64 i ∧ RuIn T N S F w5 i wr) (fun t _ => N - (intOf t).toNat)
      case atStart => exact ⟨0, Nat.zero_le _, rfl, hst5H.out⟩
      case round =>
        clear hst5H
        obtain ⟨i, hi, rfl, hR, hK⟩ := hrel
        rename World => w6
        by_cases hiN : i < N
        · have hiI : (i : Int) < (N : Int) := by omega
          have hbt := Lib.hid (fun w => bit_any S i w (by omega) (by omega))
          have d0 := hR.at_ hiN
          rw [cntF_was] at d0
          have z0 := Row.frozen hR i
          obtain ⟨hf1, hf2⟩ := hF0.out i
          have hRH := Lib.hid hR
          have hKH := Lib.hid hK
          have hyes : Hid (S.testBit i = true → cntF S F (i + 1) i = F i + 1) := cntF_yes F
          have hno : Hid (S.testBit i = false → cntF S F (i + 1) i = F i) := cntF_no F
          have hwas : Hid (cntF S F i i = F i) := cntF_was S F i
          have hoth := Lib.hid (cntF_other S F i)
          clear hR hK
          cases e : S.testBit i with
          | true =>
            have hnx := Lib.hid (hyes.out e)
            rw [e] at hbt
            clear hyes hno e hwas
            generalize hy : F i = y at *
            clear hy
            go_wp2_with fail
            refine (hbt.out _).mono ?_
            rintro e w7 ⟨rfl, rfl⟩
            go_wp2_with fail
            go_roundw
            case rel =>
              refine ⟨i + 1, by omega, by go_num, (hRH.out.put i _).congr fun j hj => ?_, hKH.out.set i _⟩
              unfold updI
              by_cases e : j = i
              · subst e; rw [if_pos rfl, hnx.out]
              · rw [if_neg e, hoth.out j e]
            case measure => simp [intOf]; omega
          | false =>
            have hnx := Lib.hid (hno.out e)
            rw [e] at hbt
            clear hyes hno e
            generalize hy : F i = y at *
            clear hy
            go_wp2_with fail
            refine (hbt.out _).mono ?_
            rintro e w7 ⟨rfl, rfl⟩
            go_wp2_with fail
            go_roundw
            case rel =>
              refine ⟨i + 1, by omega, by go_num, hRH.out.congr fun j hj => ?_, hKH.out⟩
              by_cases e : j = i
              · subst e; rw [hnx.out, hwas.out]
              · rw [hoth.out j e]
            case measure => simp [intOf]; omega
        · have hiE : i = N := by omega
          subst hiE
          have hL6 : Lks w6 w6.heap.size A1 (lksR i l k) := hL5.out.kpt hK (fun h0 b off e => hOffH.out (by rw [hlen.out] at h0; exact h0) b off e)
          have hcc := Lib.hid (htd'.out w6 hL6)
          have hRH := Lib.hid hR
          have hKH := Lib.hid hK
          clear hR hK
          go_wp2_with fail
          refine hcc.out.mono ?_
          rintro e w8 ⟨v8, rfl, hM8, hB8⟩
          have hR8 : IntRow w8 T i (cntF S F i) := Row.below hRH.out hB8 (Row.lt hRH.out)
          have hM8b := hM8
          obtain ⟨A8, cap8, hv8, _, _, hL8⟩ := hM8.lks
          have hO8 : Off T A8 l := fun h0 b off e => by
            obtain ⟨A7, cap7, hv7, _, _, h7⟩ := hM8b
            rw [hv7] at hv8
            injection hv8 with q1 _ _
            obtain ⟨g, cur, e2, _, hRg, _⟩ := h7 (by rw [hlen.out]; exact h0)
            rw [← q1, e2] at e
            simp only [Option.some.injEq, Addr.mk.injEq] at e
            rw [← e.1]
            exact row_ne hRg hR8 (by decide)
          rw [hlen.out] at hv8
          subst hv8
          have hO8H := Lib.hid hO8
          have hB9 := (hB6.out.trans (hKH.out.1)).trans (hB8.mono (Nat.le_of_lt (Row.lt hRH.out)))
          have hL8H := Lib.hid hL8
          clear hM8 hM8b hO8 hL8 hB8
          go_wp2_with fail
          go_roundw
          case rel => exact ⟨k + 1, by omega, by go_num, ⟨A8, cap8, rfl, hL8H.out, hO8H.out⟩, hR8.congr hfin.out, hB9⟩
          case measure => simp [intOf]; omega
    · have hkM : k = M := by omega
      subst hkM
      have hB9 : Below w3.heap.size w3 wr := by rw [hT.out]; exact hB
      have hM9 := hM3.out.below hB9
      have hR9 : IntRow wr T1 N (fun i => (tmR N l k i : Int)) := Row.below hR3.out hB9 (Row.lt hR3.out)
      obtain ⟨Aa, capa, hva, _, _, hLa⟩ := hM9.lks
      rw [hlen.out] at hva
      subst hva
      have hB10 := Lib.hid (hB5H.out.trans (hB9.mono hB5H.out.size))
      have htw := twos_same Aa A1 capa cap1 (lksR N l k) wr hLa hLk (by rw [hlen.out]; omega)
      rw [hlen.out] at htw
      have htwH := Lib.hid htw
      have hlenR : ((List.range N).map fun i => (tmR N l k i : Int)).length = N := by simp
      have hin : Hid (∀ w9, Below wr.heap.size wr w9 → Calls Try.prog 21 #[.slice (some ⟨T1, 0, none⟩) N N, .slice (some ⟨T, 0, none⟩) N N] w9 fun e w' => e = .returned (.bool true) ∧ Below w9.heap.size w9 w') := fun w9 hB => by
        have a1 := IntRow.nums (Row.below hR9 hB (Row.lt hR9) : IntRow w9 T1 N _)
        have a2 := IntRow.nums (Row.below hR hB (Row.lt hR) : IntRow w9 T N _)
        have := ints_same (some ⟨T1, 0, none⟩) (some ⟨T, 0, none⟩) N N _ w9 a1 a2 (by rw [hlenR]; omega)
        rw [hlenR] at this
        exact this
      clear htw hR9 hR hM9 hLa hLk hB hB9 hlenR
      go_wp2_with fail
      refine htwH.out.mono ?_
      rintro e w10 ⟨rfl, hB11⟩
      have hcc := Lib.hid (hin.out w10 hB11)
      have hB12 := hB10.out.trans (hB11.mono hB10.out.size)
      clear hin hB11
      go_wp2_with fail
      refine hcc.out.mono ?_
      rintro e w11 ⟨rfl, hB13⟩
      go_wp2_with fail
      go_ret
      exact ⟨by simp_all, hB12.trans (hB13.mono hB12.size)⟩

theorem forkRuns_law (w : World) (n : Int) (_hn : I64 n) (A : Option Addr) (cap : Nat) (l : List Lk) (hE : Lks w w.heap.size A l) (hF : LFits l) (hc : l.length ≤ cap) (hlm : l.length ≤ maxLen) (hl : l.length ≤ 17592186044416) (m : Int) (_hm : I64 m) :
    Calls Try.prog 6 #[.int .i64 n, .slice A l.length cap, .int .i64 m] w fun e w' => e = .returned (.bool true) ∧ Below w.heap.size w w' := by
  by_cases h : runCode n l m = 0
  · exact forkRuns_ok w n A cap l hE hc hl m h
  · exact forkRuns_no w n A cap l hE hc hl m h
#print axioms forkRuns_law
end Go.Proofs.Ytieicimoolegoaa
