/-
  The contracts of fork.Turn and fork.Run.
-/
import Derived.Test.YtieicimoolegoaaFrv
namespace Go.Proofs.Ytieicimoolegoaa
open Go.RowKit Go.Maps
set_option linter.unusedVariables false
open Classical in
/-- The first error of Turn. -/
noncomputable def turnCode (n : Int) (l : List Lk) (i : Int) : Int := if fcode n l ≠ 0 then fcode n l else if inP n i = false then 2 else if (lowN n.toNat l).testBit i.toNat = false then 5 else 0
open Classical in
/-- The first error of Run. -/
noncomputable def runCode (n : Int) (l : List Lk) (m : Int) : Int := if fcode n l ≠ 0 then fcode n l else if m < 0 ∨ 60 < m then 4 else if Cyc n.toNat l then 3 else 0
def TurnRes (w : World) (n : Int) (l : List Lk) (i : Int) (e : Ending) (w' : World) : Prop :=
  ∃ v, e = .returned (.tuple #[v, .int .i64 (turnCode n l i)]) ∧ Below w.heap.size w w' ∧ ((turnCode n l i = 0 ∧ MadeL w' w.heap.size v (revL (2 ^ i.toNat) l)) ∨ (turnCode n l i ≠ 0 ∧ v = .slice none 0 0))
section
variable {n : Int} {l : List Lk} {i : Int}
theorem turnCode_bad (h : fcode n l ≠ 0) : turnCode n l i = fcode n l := by unfold turnCode; rw [if_pos h]
theorem turnCode_out (h : fcode n l = 0) (h2 : inP n i = false) : turnCode n l i = 2 := by unfold turnCode; rw [if_neg (fun x => x h), if_pos h2]
theorem turnCode_none (h : fcode n l = 0) (h2 : inP n i = true) (h3 : (lowN n.toNat l).testBit i.toNat = false) : turnCode n l i = 5 := by unfold turnCode; rw [if_neg (fun x => x h), if_neg (by rw [h2]; decide), if_pos h3]
theorem turnCode_ok (h : fcode n l = 0) (h2 : inP n i = true) (h3 : (lowN n.toNat l).testBit i.toNat = true) : turnCode n l i = 0 := by unfold turnCode; rw [if_neg (fun x => x h), if_neg (by rw [h2]; decide), if_neg (by rw [h3]; decide)]
end

set_option maxHeartbeats 1600000 in
theorem turn_any_ (A : Option Addr) (cap : Nat) (l : List Lk) (n i : Int) (w : World) (hE : Lks w w.heap.size A l) (hc : l.length ≤ cap) (hl : l.length ≤ 17592186044416) :
    Calls Try.prog 16 #[.int .i64 n, .slice A l.length cap, .int .i64 i] w (TurnRes w n l i) := by
  have hchk := Lib.hid (check_any A cap l n w hE hc hl)
  by_cases hf : fcode n l = 0
  · obtain ⟨hn, hV⟩ := fcode_FV hf
    have h15 := fcode_len hf
    have hp := Lib.hid (fun w => isproc_any i n w)
    cases hin : inP n i with
    | false =>
      have hT := turnCode_out (i := i) hf hin
      rw [hin] at hp
      rw [hf] at hchk
      unfold TurnRes
      rw [hT]
      clear hE hn hV hf hin hT
      go_enter Try.func16, Try.ntmps16
      go_wp2_with fail
      refine hchk.out.mono ?_
      rintro e w1 ⟨rfl, hB1⟩
      go_wp2_with fail
      refine (hp.out _).mono ?_
      rintro e w2 ⟨rfl, rfl⟩
      go_wp2_with fail
      go_ret2
      exact ⟨_, rfl, hB1, .inr ⟨by omega, rfl⟩⟩
    | true =>
      obtain ⟨j, rfl⟩ : ∃ j : Nat, i = (j : Int) := ⟨i.toNat, by have := (inP_iff n i).1 hin; omega⟩
      have hjn : j < n.toNat := by have := (inP_iff n j).1 hin; omega
      have h6 := hV.six
      have h64 := Nat.pow_le_pow_right (n := 2) (by omega) hV.six
      have hev : Hid (∀ wr, Calls Try.prog 30 #[.int .i64 n] wr fun e w' => e = .returned (.int .u32 ((2 ^ n.toNat - 1 : Nat) : Int)) ∧ wr = w') := fun wr => by
        have := everybody_any n.toNat hV.six wr
        rw [← hn] at this
        exact this
      have hcall : Hid (∀ wr, Below w.heap.size w wr → Calls Try.prog 29 #[.int .u32 ((2 ^ n.toNat - 1 : Nat) : Int), .slice A l.length cap] wr fun e w' => e = .returned (.int .u32 (lowN n.toNat l : Int)) ∧ Below wr.heap.size wr w') := fun wr hB => sinks_any A cap l n.toNat _ wr ((hE.below hB).more hB.size) hV.six hV.ok (all_lt _) (by omega)
      have hLl := lowN_lt n.toNat l
      have hhas := Lib.hid (fun w => has_any (lowN n.toNat l) j w (by omega) (by omega))
      have hpj := two_pow_lt j hjn
      have hrev : Hid (∀ wr, Below w.heap.size w wr → Calls Try.prog 33 #[.slice A l.length cap, .int .u32 ((2 ^ j : Nat) : Int)] wr (RevRes wr (2 ^ j) l)) := fun wr hB => reverse_any A cap l n.toNat (2 ^ j) wr ((hE.below hB).more hB.size) hV.six hV.ok hpj (by omega)
      have hpm := Lib.hid (pow_mod j (by omega))
      have hj32 : (j : Int) < 32 := by omega
      rw [hin] at hp
      rw [hf] at hchk
      cases hb : (lowN n.toNat l).testBit j with
      | false =>
        have hT := turnCode_none (i := (j : Int)) hf hin (by simpa using hb)
        rw [hb] at hhas
        unfold TurnRes
        rw [hT]
        generalize lowN n.toNat l = L at *
        generalize 2 ^ n.toNat - 1 = Q at *
        clear hE hn hV hf hin hT hb hrev
        go_enter Try.func16, Try.ntmps16
        go_wp2_with fail
        refine hchk.out.mono ?_
        rintro e w1 ⟨rfl, hB1⟩
        have hcc := Lib.hid (hcall.out w1 hB1)
        clear hcall
        go_wp2_with fail
        refine (hp.out _).mono ?_
        rintro e w2 ⟨rfl, rfl⟩
        go_wp2_with fail
        refine (hev.out _).mono ?_
        rintro e w2 ⟨rfl, rfl⟩
        go_wp2_with fail
        refine hcc.out.mono ?_
        rintro e w2 ⟨rfl, hB2⟩
        go_wp2_with fail
        refine (hhas.out _).mono ?_
        rintro e w3 ⟨rfl, rfl⟩
        go_wp2_with fail
        go_ret2
        exact ⟨_, rfl, hB1.trans (hB2.mono hB1.size), .inr ⟨by omega, rfl⟩⟩
      | true =>
        have hT := turnCode_ok (i := (j : Int)) hf hin (by simpa using hb)
        rw [hb] at hhas
        unfold TurnRes
        rw [hT]
        generalize lowN n.toNat l = L at *
        generalize 2 ^ n.toNat - 1 = Q at *
        clear hE hn hV hf hin hT hb
        go_enter Try.func16, Try.ntmps16
        go_wp2_with fail
        refine hchk.out.mono ?_
        rintro e w1 ⟨rfl, hB1⟩
        have hcc := Lib.hid (hcall.out w1 hB1)
        clear hcall
        go_wp2_with fail
        refine (hp.out _).mono ?_
        rintro e w2 ⟨rfl, rfl⟩
        go_wp2_with fail
        refine (hev.out _).mono ?_
        rintro e w2 ⟨rfl, rfl⟩
        go_wp2_with fail
        refine hcc.out.mono ?_
        rintro e w2 ⟨rfl, hB2⟩
        have hB3 := hB1.trans (hB2.mono hB1.size)
        have hrr := Lib.hid (hrev.out w2 hB3)
        clear hB2 hrev
        go_wp2_with fail
        refine (hhas.out _).mono ?_
        rintro e w3 ⟨rfl, rfl⟩
        go_wp2_with fail
        rw [hpm.out]
        refine hrr.out.mono ?_
        rintro e w4 ⟨v, rfl, hM, hB4⟩
        have hMH := Lib.hid (hM.less hB3.size)
        have hB5 := hB3.trans (hB4.mono hB3.size)
        clear hM hB4
        go_wp2_with fail
        go_ret2
        exact ⟨_, rfl, hB5, .inl ⟨by trivial, by simpa using hMH.out⟩⟩
  · have hT := turnCode_bad (i := i) hf
    unfold TurnRes
    rw [hT]
    generalize fcode n l = x at *
    have hx : (x != 0) = true := by simpa using hf
    clear hE hT
    go_enter Try.func16, Try.ntmps16
    go_wp2_with fail
    refine hchk.out.mono ?_
    rintro e w1 ⟨rfl, hB1⟩
    go_wp2_with fail
    go_ret2
    exact ⟨_, rfl, hB1, .inr ⟨hf, rfl⟩⟩

def RunRes (w : World) (n : Int) (l : List Lk) (m : Int) (e : Ending) (w' : World) : Prop :=
  ∃ v u, e = .returned (.tuple #[v, u, .int .i64 (runCode n l m)]) ∧ Below w.heap.size w w' ∧
    ((runCode n l m = 0 ∧ MadeL w' w.heap.size v (lksR n.toNat l m.toNat) ∧ ∃ T, u = .slice (some ⟨T, 0, none⟩) n.toNat n.toNat ∧ w.heap.size ≤ T ∧ IntRow w' T n.toNat (fun i => (tmR n.toNat l m.toNat i : Int))) ∨
     (runCode n l m ≠ 0 ∧ v = .slice none 0 0 ∧ u = .slice none 0 0))
section
variable {n : Int} {l : List Lk} {m : Int}
theorem runCode_bad (h : fcode n l ≠ 0) : runCode n l m = fcode n l := by unfold runCode; rw [if_pos h]
theorem runCode_range (h : fcode n l = 0) (h2 : m < 0 ∨ 60 < m) : runCode n l m = 4 := by unfold runCode; rw [if_neg (fun x => x h), if_pos h2]
theorem runCode_cyc (h : fcode n l = 0) (h2 : ¬ (m < 0 ∨ 60 < m)) (h3 : Cyc n.toNat l) : runCode n l m = 3 := by unfold runCode; rw [if_neg (fun x => x h), if_neg h2, if_pos h3]
theorem runCode_ok (h : fcode n l = 0) (h2 : ¬ (m < 0 ∨ 60 < m)) (h3 : ¬ Cyc n.toNat l) : runCode n l m = 0 := by unfold runCode; rw [if_neg (fun x => x h), if_neg h2, if_neg h3]
end
def RnRel (w : World) (N T : Nat) (l : List Lk) (k : Nat) (v : Value) (wr : World) : Prop := MadeL wr w.heap.size v (lksR N l k) ∧ IntRow wr T N (fun i => (tmR N l k i : Int)) ∧ Below w.heap.size w wr
theorem cntF_tm (N : Nat) (l : List Lk) (k : Nat) : ∀ j, j < N → cntF (lowN N (lksR N l k)) (fun i => (tmR N l k i : Int)) N j = (tmR N l (k + 1) j : Int) := fun j hj => by
  unfold cntF
  rw [tmR_succ]
  by_cases e : (lowN N (lksR N l k)).testBit j = true
  · rw [if_pos (show j < N ∧ _ from ⟨hj, e⟩), if_pos e]
    rfl
  · rw [if_neg (show ¬ (j < N ∧ (lowN N (lksR N l k)).testBit j = true) from fun x => e x.2), if_neg e]
    rfl

set_option maxHeartbeats 3200000 in
theorem run_any_ (A : Option Addr) (cap : Nat) (l : List Lk) (n m : Int) (w : World) (hE : Lks w w.heap.size A l) (hc : l.length ≤ cap) (hl : l.length ≤ 17592186044416) :
    Calls Try.prog 20 #[.int .i64 n, .slice A l.length cap, .int .i64 m] w (RunRes w n l m) := by
  have hchk := Lib.hid (check_any A cap l n w hE hc hl)
  by_cases hf : fcode n l = 0
  · obtain ⟨hn, hV⟩ := fcode_FV hf
    have h15 := fcode_len hf
    rw [hf] at hchk
    by_cases hm : m < 0 ∨ 60 < m
    · have hT := runCode_range hf hm
      unfold RunRes
      rw [hT]
      by_cases hm0 : m < 0
      · have v1 : decide (m < 0) = true := decide_eq_true hm0
        clear hE hn hV hf hT hm
        go_enter Try.func20, Try.ntmps20
        go_wp2_with fail
        refine hchk.out.mono ?_
        rintro e w1 ⟨rfl, hB1⟩
        go_wp2_with fail
        go_ret3
        exact ⟨_, _, rfl, hB1, .inr ⟨by omega, rfl, rfl⟩⟩
      · have v1 : decide (m < 0) = false := decide_eq_false hm0
        have v2 : decide (m > 60) = true := decide_eq_true (by omega)
        have v2' : decide (60 < m) = true := decide_eq_true (by omega)
        clear hE hn hV hf hT hm
        go_enter Try.func20, Try.ntmps20
        go_wp2_with fail
        refine hchk.out.mono ?_
        rintro e w1 ⟨rfl, hB1⟩
        go_wp2_with fail
        go_ret3
        exact ⟨_, _, rfl, hB1, .inr ⟨by omega, rfl, rfl⟩⟩
    · have v1 : decide (m < 0) = false := decide_eq_false (by omega)
      have v2 : decide (m > 60) = false := decide_eq_false (by omega)
      have v2' : decide (60 < m) = false := decide_eq_false (by omega)
      have hcyc : Hid (∀ wr, Below w.heap.size w wr → ∀ C : Bool, (C = true ↔ Cyc n.toNat l) → Calls Try.prog 25 #[.int .i64 n, .slice A l.length cap] wr fun e w' => e = .returned (.bool C) ∧ Below wr.heap.size wr w') := fun wr hB C hC => by
        have := hasCycle_any A cap l n.toNat wr ((hE.below hB).more hB.size) hV (by omega) C hC
        rw [← hn] at this
        exact this
      by_cases hcy : Cyc n.toNat l
      · have hT := runCode_cyc hf hm hcy
        unfold RunRes
        rw [hT]
        have hcyc2 : Hid (∀ wr, Below w.heap.size w wr → Calls Try.prog 25 #[.int .i64 n, .slice A l.length cap] wr fun e w' => e = .returned (.bool true) ∧ Below wr.heap.size wr w') := fun wr hB => hcyc.out wr hB true ⟨fun _ => hcy, fun _ => rfl⟩
        clear hE hn hV hf hT hm hcyc hcy
        go_enter Try.func20, Try.ntmps20
        go_wp2_with fail
        refine hchk.out.mono ?_
        rintro e w1 ⟨rfl, hB1⟩
        have hcc := Lib.hid (hcyc2.out w1 hB1)
        clear hcyc2
        go_wp2_with fail
        refine hcc.out.mono ?_
        rintro e w2 ⟨rfl, hB2⟩
        go_wp2_with fail
        go_ret3
        exact ⟨_, _, rfl, hB1.trans (hB2.mono hB1.size), .inr ⟨by omega, rfl, rfl⟩⟩
      · have hT := runCode_ok hf hm hcy
        unfold RunRes
        rw [hT]
        obtain ⟨M, rfl⟩ : ∃ M : Nat, m = (M : Int) := ⟨m.toNat, by omega⟩
        have hM60 : M ≤ 60 := by omega
        have hMt : ((M : Int)).toNat = M := by simp
        rw [hMt]
        have hcyc2 : Hid (∀ wr, Below w.heap.size w wr → Calls Try.prog 25 #[.int .i64 n, .slice A l.length cap] wr fun e w' => e = .returned (.bool false) ∧ Below wr.heap.size wr w') := fun wr hB => hcyc.out wr hB false ⟨(nomatch ·), fun h => absurd h hcy⟩
        obtain ⟨N, hN⟩ : ∃ N : Nat, N = n.toNat := ⟨_, rfl⟩
        rw [← hN] at hn hV ⊢
        subst hn
        clear hN
        have h6 := hV.six
        have h1 := hV.one
        have h64 := Nat.pow_le_pow_right (n := 2) (by omega) h6
        have hcl : Hid (∀ wr, Below w.heap.size w wr → Calls Try.prog 34 #[.slice A l.length cap] wr (CloneRes wr l)) := fun wr hB => clone_any A cap l wr ((hE.below hB).more hB.size) (by omega)
        have hev := Lib.hid (fun w => everybody_any N h6 w)
        have hsk : Hid (∀ k wr A1 cap1, Lks wr wr.heap.size A1 (lksR N l k) → Calls Try.prog 29 #[.int .u32 ((2 ^ N - 1 : Nat) : Int), .slice A1 (lksR N l k).length cap1] wr fun e w' => e = .returned (.int .u32 (lowN N (lksR N l k) : Int)) ∧ Below wr.heap.size wr w') := fun k wr A1 cap1 h => sinks_any A1 cap1 (lksR N l k) N _ wr h h6 (lksR_FV hV k).ok (all_lt _) (by rw [lksR_len]; omega)
        have hrv : Hid (∀ k wr A1 cap1, Lks wr wr.heap.size A1 (lksR N l k) → Calls Try.prog 33 #[.slice A1 (lksR N l k).length cap1, .int .u32 (lowN N (lksR N l k) : Int)] wr (RevRes wr (lowN N (lksR N l k)) (lksR N l k))) := fun k wr A1 cap1 h => reverse_any A1 cap1 (lksR N l k) N _ wr h h6 (lksR_FV hV k).ok (lowN_lt _ _) (by rw [lksR_len]; omega)
        have hct : Hid (∀ k wr T, IntRow wr T N (fun i => (tmR N l k i : Int)) → k ≤ 60 → Calls Try.prog 35 #[.slice (some ⟨T, 0, none⟩) N N, .int .u32 (lowN N (lksR N l k) : Int)] wr fun e w' => e = .returned (.tuple #[]) ∧ IntRow w' T N (cntF (lowN N (lksR N l k)) (fun i => (tmR N l k i : Int)) N) ∧ Kpt T wr w') := fun k wr T h hk => count_any T N _ _ wr h6 (lowN_lt _ _) h (fun i => by have := tmR_le N l k i; omega)
        have hnx : Hid (∀ k, lksR N l (k + 1) = revL (lowN N (lksR N l k)) (lksR N l k)) := fun k => rfl
        have hcn : Hid (∀ k j, j < N → cntF (lowN N (lksR N l k)) (fun i => (tmR N l k i : Int)) N j = (tmR N l (k + 1) j : Int)) := fun k => cntF_tm N l k
        obtain ⟨j0, hi0, hz0, hz1, hz2⟩ := info_parts infoInt
        have hJi := Lib.hid hi0; have hJz := Lib.hid hz0; have hJs := Lib.hid hz1; have hJb := Lib.hid hz2
        clear hi0 hz0 hz1 hz2 hE hV hf hT hm hcyc hcy hMt
        go_enter Try.func20, Try.ntmps20
        go_wp2_with fail
        refine hchk.out.mono ?_
        rintro e w1 ⟨rfl, hB1⟩
        have hcc := Lib.hid (hcyc2.out w1 hB1)
        clear hcyc2
        go_wp2_with fail
        refine hcc.out.mono ?_
        rintro e w2 ⟨rfl, hB2⟩
        have hB3 := hB1.trans (hB2.mono hB1.size)
        have hcc2 := Lib.hid (hcl.out w2 hB3)
        clear hcl hB2 hcc
        go_wp2_with fail
        refine hcc2.out.mono ?_
        rintro e w3 ⟨v3, rfl, hM3, hB4⟩
        have hM3H := Lib.hid (hM3.less hB3.size)
        have hB5 := hB3.trans (hB4.mono hB3.size)
        clear hM3 hB4
        go_wp2_with (first
          | (at_make; refine wpList_make_row _ rfl (.tmp 30) (.tmp 30) 39 rfl 3 j0 (.int .i64 0) Try.underlying39 hJi.out hJz.out hJs.out rfl .i64 .i64 _ _ N rfl rfl rfl rfl (by rw [hJb.out]; omega) (by unfold maxLen; omega) ?_; intro w4 hR4 hG4))
        have hst : RnRel w N w3.heap.size l 0 v3 w4 := by
          refine ⟨hM3H.out.below ((Below.refl _ w3).grown hG4 (Nat.le_refl _) (fun k hk => by cases hk)), ?_, hB5.grown hG4 hB5.size (fun k hk => by cases hk)⟩
          rw [intRow_zero] at hR4
          exact IntRow.congr hR4 fun j _ => rfl
        have hstH := Lib.hid hst
        have hTlow : Hid (w.heap.size ≤ w3.heap.size) := hB5.size
        generalize w3.heap.size = T at *
        clear hst hR4 hG4 hM3H hB5
        go_loopw [33, 10] (fun t v wr => ∃ k : Nat, k ≤ M ∧ t = .int .i64 k ∧ RnRel w N T l k v wr) (fun t _ _ => M - (intOf t).toNat)
        case atStart => exact ⟨0, Nat.zero_le _, rfl, hstH.out⟩
        case round =>
          clear hstH
          obtain ⟨k, hk, rfl, hMd, hR, hB⟩ := hrel
          rename World => wr
          by_cases hlt : k < M
          · have hkI : (k : Int) < (M : Int) := by omega
            obtain ⟨A1, cap1, hv1, _, _, hLk⟩ := hMd.lks
            subst hv1
            have hc1 := Lib.hid (hsk.out k wr A1 cap1 hLk)
            have hLkH := Lib.hid hLk
            have hBH := Lib.hid hB
            have hRH := Lib.hid hR
            clear hMd hR hB hLk
            go_wp2_with fail
            refine (hev.out _).mono ?_
            rintro e w5 ⟨rfl, rfl⟩
            go_wp2_with fail
            refine hc1.out.mono ?_
            rintro e w5 ⟨rfl, hB5⟩
            have hc2 := Lib.hid (hrv.out k w5 A1 cap1 ((hLkH.out.below hB5).more hB5.size))
            have hR5 := Row.below hRH.out hB5 (Row.lt hRH.out)
            have hB6 := hBH.out.trans (hB5.mono hBH.out.size)
            clear hB5
            go_wp2_with fail
            refine hc2.out.mono ?_
            rintro e w7 ⟨v7, rfl, hM7, hB7⟩
            have hR7 : IntRow w7 T N (fun i => (tmR N l k i : Int)) := Row.below hR5 hB7 (Row.lt hR5)
            have hB8 := hB6.trans (hB7.mono hB6.size)
            have hM7H := Lib.hid (hM7.less hB6.size)
            have hc3 := Lib.hid (hct.out k w7 T hR7 (by omega))
            have hR7H := Lib.hid hR7
            clear hM7 hB7 hR5 hR7 hB6
            go_wp2_with fail
            refine hc3.out.mono ?_
            rintro e w9 ⟨rfl, hR9, hK9⟩
            go_wp2_with fail
            go_roundw
            case rel =>
              refine ⟨k + 1, by omega, by go_num, ?_, hR9.congr (hcn.out k), hB8.trans (hK9.1.mono hTlow.out)⟩
              rw [hnx.out]
              exact hM7H.out.blocks fun g cur _ hg => hK9.2 g (row_ne hg hR7H.out (by decide))
            case measure => simp [intOf]; omega
          · have hkM : k = M := by omega
            subst hkM
            go_wp2_with fail
            go_ret3
            exact ⟨_, _, rfl, hB, .inl ⟨by trivial, hMd, T, rfl, hTlow.out, hR⟩⟩
  · have hT := runCode_bad (m := m) hf
    unfold RunRes
    rw [hT]
    generalize fcode n l = x at *
    have hx : (x != 0) = true := by simpa using hf
    clear hE hT
    go_enter Try.func20, Try.ntmps20
    go_wp2_with fail
    refine hchk.out.mono ?_
    rintro e w1 ⟨rfl, hB1⟩
    go_wp2_with fail
    go_ret3
    exact ⟨_, _, rfl, hB1, .inr ⟨hf, rfl, rfl⟩⟩
#print axioms turn_any_
#print axioms run_any_
end Go.Proofs.Ytieicimoolegoaa
