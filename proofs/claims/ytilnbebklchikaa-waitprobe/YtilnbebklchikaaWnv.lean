/-
  The contracts of wait.never, of its two closures, of wait.All and wait.Any.
-/
import Derived.Test.YtilnbebklchikaaWck
namespace Go.Proofs.Ytilnbebklchikaa
open Go.RowKit Go.Maps
set_option linter.unusedVariables false

theorem pow64 {n : Nat} (hn : n ≤ 6) : 2 ^ n ≤ 64 := Nat.pow_le_pow_right (n := 2) (by omega) hn
theorem nev_val {n s : Nat} (hn : n ≤ 6) (hs : s < 2 ^ n) : bits BinOp.andNot IntKind.u32 ((2 ^ n - 1 : Nat) : Int) (s : Int) = ((nev n s : Nat) : Int) := by
  have := pow64 hn
  exact u32_andNot_nat (2 ^ n - 1) s (by omega) (by omega)

set_option maxHeartbeats 1600000 in
theorem neverA_any (b n : Nat) (p : Nat → Nat → Bool) (w : World) (hn : n ≤ 6)
    (hcl : ∀ i s : Nat, i < n → s < 2 ^ n → Calls Try.prog 22 #[.int .i64 (i : Int), .int .u32 (s : Int), .pointer (some ⟨b, 0, none⟩)] w fun e w' => e = .returned (.bool (p i s)) ∧ w = w') :
    Calls Try.prog 21 #[.int .i64 (n : Int), .func (.func 22) #[] #[.pointer (some ⟨b, 0, none⟩)]] w fun e w' => e = .returned (.int .u32 (nev n (fin p n) : Int)) ∧ w = w' := by
  have hclH := Lib.hid hcl
  have hev := Lib.hid (everybody_any n w hn)
  have hfin : Hid (∀ k, rnds p (fun j => 2 ^ j) n k 0 < 2 ^ n) := fun k => rnds_lt two_pow_lt (Nat.pow_pos (by omega)) k
  have hlast : Hid (fin p n = rnds p (fun j => 2 ^ j) n n 0) := rfl
  have h64 := pow64 hn
  clear hcl
  go_enter Try.func21, Try.ntmps21
  go_wp2_with fail
  go_loop [8, 5] (fun t s => ∃ k : Nat, k ≤ n ∧ t = .int .i64 k ∧ s = .int .u32 (rnds p (fun j => 2 ^ j) n k 0 : Int)) (fun t _ => n - (intOf t).toNat)
  case atStart => exact ⟨0, Nat.zero_le _, rfl, rfl⟩
  case round =>
    obtain ⟨k, hk, rfl, rfl⟩ := hrel
    have hlt0 := hfin.out k
    have hnext : Hid (rnds p (fun j => 2 ^ j) n (k + 1) 0 = rnd p (fun j => 2 ^ j) n (rnds p (fun j => 2 ^ j) n k 0)) := rfl
    by_cases hlt : k < n
    · have hkI : (k : Int) < (n : Int) := by omega
      generalize rnds p (fun j => 2 ^ j) n k 0 = S at *
      have hrl : Hid (∀ j, j ≤ n → rnd p (fun j => 2 ^ j) j S < 2 ^ n) := fun j hj => rnd_lt two_pow_lt hj hlt0
      go_wp2_with fail
      go_loop [11, 5] (fun t s => ∃ j : Nat, j ≤ n ∧ t = .int .i64 j ∧ s = .int .u32 (rnd p (fun j => 2 ^ j) j S : Int)) (fun t _ => n - (intOf t).toNat)
      case atStart => exact ⟨0, Nat.zero_le _, rfl, rfl⟩
      case round =>
        obtain ⟨j, hj, rfl, rfl⟩ := hrel
        have hT := hrl.out j hj
        by_cases hjt : j < n
        · have hjI : (j : Int) < (n : Int) := by omega
          have hcc := Lib.hid (hclH.out j _ hjt hT)
          have hn2 : Hid (rnd p (fun j => 2 ^ j) (j + 1) S = if p j (rnd p (fun j => 2 ^ j) j S) = true then rnd p (fun j => 2 ^ j) j S ||| 2 ^ j else rnd p (fun j => 2 ^ j) j S) := rfl
          generalize rnd p (fun j => 2 ^ j) j S = T at *
          cases e : p j T with
          | true =>
            have hsv := Lib.hid (set_val T j (by omega) (by omega))
            have hT1 : Hid (rnd p (fun j => 2 ^ j) (j + 1) S = T ||| 2 ^ j) := by unfold Hid; rw [hn2.out, if_pos e]
            rw [e] at hcc
            clear hn2 e
            go_wp2_with fail
            refine hcc.out.mono ?_
            rintro e w1 ⟨rfl, rfl⟩
            go_wp2_with fail
            go_round
            case rel => exact ⟨j + 1, by omega, by go_num, by rw [hT1.out, ← hsv.out]⟩
            case measure => simp [intOf]; omega
          | false =>
            have hT1 : Hid (rnd p (fun j => 2 ^ j) (j + 1) S = T) := by unfold Hid; rw [hn2.out, if_neg (by rw [e]; decide)]
            rw [e] at hcc
            clear hn2 e
            go_wp2_with fail
            refine hcc.out.mono ?_
            rintro e w1 ⟨rfl, rfl⟩
            go_wp2_with fail
            go_round
            case rel => exact ⟨j + 1, by omega, by go_num, by rw [hT1.out]⟩
            case measure => simp [intOf]; omega
        · have hjn : j = n := by omega
          subst hjn
          go_wp2_with fail
          go_round
          case rel => exact ⟨k + 1, by omega, by go_num, by rw [hnext.out]⟩
          case measure => simp [intOf]; omega
    · have hkn : k = n := by omega
      subst hkn
      have hv := Lib.hid (nev_val hn hlt0)
      clear hnext
      generalize rnds p (fun j => 2 ^ j) k k 0 = S at *
      generalize 2 ^ k - 1 = y at *
      go_wp2_with fail
      refine hev.out.mono ?_
      rintro e w1 ⟨rfl, rfl⟩
      go_wp2_with fail
      go_ret
      exact ⟨by rw [hlast.out, ← hv.out]; rfl, rfl⟩

set_option maxHeartbeats 1600000 in
theorem neverB_any (b n : Nat) (p : Nat → Nat → Bool) (w : World) (hn : n ≤ 6)
    (hcl : ∀ i s : Nat, i < n → s < 2 ^ n → Calls Try.prog 23 #[.int .i64 (i : Int), .int .u32 (s : Int), .pointer (some ⟨b, 0, none⟩)] w fun e w' => e = .returned (.bool (p i s)) ∧ w = w') :
    Calls Try.prog 21 #[.int .i64 (n : Int), .func (.func 23) #[] #[.pointer (some ⟨b, 0, none⟩)]] w fun e w' => e = .returned (.int .u32 (nev n (fin p n) : Int)) ∧ w = w' := by
  have hclH := Lib.hid hcl
  have hev := Lib.hid (everybody_any n w hn)
  have hfin : Hid (∀ k, rnds p (fun j => 2 ^ j) n k 0 < 2 ^ n) := fun k => rnds_lt two_pow_lt (Nat.pow_pos (by omega)) k
  have hlast : Hid (fin p n = rnds p (fun j => 2 ^ j) n n 0) := rfl
  have h64 := pow64 hn
  clear hcl
  go_enter Try.func21, Try.ntmps21
  go_wp2_with fail
  go_loop [8, 5] (fun t s => ∃ k : Nat, k ≤ n ∧ t = .int .i64 k ∧ s = .int .u32 (rnds p (fun j => 2 ^ j) n k 0 : Int)) (fun t _ => n - (intOf t).toNat)
  case atStart => exact ⟨0, Nat.zero_le _, rfl, rfl⟩
  case round =>
    obtain ⟨k, hk, rfl, rfl⟩ := hrel
    have hlt0 := hfin.out k
    have hnext : Hid (rnds p (fun j => 2 ^ j) n (k + 1) 0 = rnd p (fun j => 2 ^ j) n (rnds p (fun j => 2 ^ j) n k 0)) := rfl
    by_cases hlt : k < n
    · have hkI : (k : Int) < (n : Int) := by omega
      generalize rnds p (fun j => 2 ^ j) n k 0 = S at *
      have hrl : Hid (∀ j, j ≤ n → rnd p (fun j => 2 ^ j) j S < 2 ^ n) := fun j hj => rnd_lt two_pow_lt hj hlt0
      go_wp2_with fail
      go_loop [11, 5] (fun t s => ∃ j : Nat, j ≤ n ∧ t = .int .i64 j ∧ s = .int .u32 (rnd p (fun j => 2 ^ j) j S : Int)) (fun t _ => n - (intOf t).toNat)
      case atStart => exact ⟨0, Nat.zero_le _, rfl, rfl⟩
      case round =>
        obtain ⟨j, hj, rfl, rfl⟩ := hrel
        have hT := hrl.out j hj
        by_cases hjt : j < n
        · have hjI : (j : Int) < (n : Int) := by omega
          have hcc := Lib.hid (hclH.out j _ hjt hT)
          have hn2 : Hid (rnd p (fun j => 2 ^ j) (j + 1) S = if p j (rnd p (fun j => 2 ^ j) j S) = true then rnd p (fun j => 2 ^ j) j S ||| 2 ^ j else rnd p (fun j => 2 ^ j) j S) := rfl
          generalize rnd p (fun j => 2 ^ j) j S = T at *
          cases e : p j T with
          | true =>
            have hsv := Lib.hid (set_val T j (by omega) (by omega))
            have hT1 : Hid (rnd p (fun j => 2 ^ j) (j + 1) S = T ||| 2 ^ j) := by unfold Hid; rw [hn2.out, if_pos e]
            rw [e] at hcc
            clear hn2 e
            go_wp2_with fail
            refine hcc.out.mono ?_
            rintro e w1 ⟨rfl, rfl⟩
            go_wp2_with fail
            go_round
            case rel => exact ⟨j + 1, by omega, by go_num, by rw [hT1.out, ← hsv.out]⟩
            case measure => simp [intOf]; omega
          | false =>
            have hT1 : Hid (rnd p (fun j => 2 ^ j) (j + 1) S = T) := by unfold Hid; rw [hn2.out, if_neg (by rw [e]; decide)]
            rw [e] at hcc
            clear hn2 e
            go_wp2_with fail
            refine hcc.out.mono ?_
            rintro e w1 ⟨rfl, rfl⟩
            go_wp2_with fail
            go_round
            case rel => exact ⟨j + 1, by omega, by go_num, by rw [hT1.out]⟩
            case measure => simp [intOf]; omega
        · have hjn : j = n := by omega
          subst hjn
          go_wp2_with fail
          go_round
          case rel => exact ⟨k + 1, by omega, by go_num, by rw [hnext.out]⟩
          case measure => simp [intOf]; omega
    · have hkn : k = n := by omega
      subst hkn
      have hv := Lib.hid (nev_val hn hlt0)
      clear hnext
      generalize rnds p (fun j => 2 ^ j) k k 0 = S at *
      generalize 2 ^ k - 1 = y at *
      go_wp2_with fail
      refine hev.out.mono ?_
      rintro e w1 ⟨rfl, rfl⟩
      go_wp2_with fail
      go_ret
      exact ⟨by rw [hlast.out, ← hv.out]; rfl, rfl⟩

theorem pAll_val {l : List Nat} (hV : WV l) (i s : Nat) (hs : s < 4294967296) : (bits BinOp.andNot IntKind.u32 (wat l i : Int) (s : Int) == 0) = pAll l i s := by
  rw [u32_andNot_nat _ _ (hV.u32 i) hs, Bool.eq_iff_iff]
  unfold pAll
  rw [beq_iff_eq, beq_iff_eq]
  omega
set_option maxHeartbeats 800000 in
theorem allcl_any (b cap : Nat) (w : World) (A : Option Addr) (l : List Nat) (hq : Wds w w.heap.size A l) (hV : WV l) (hR : Row w b 22 [.slice A l.length cap]) (i s : Nat) (hi : i < l.length) (hs : s < 2 ^ l.length) :
    Calls Try.prog 22 #[.int .i64 (i : Int), .int .u32 (s : Int), .pointer (some ⟨b, 0, none⟩)] w fun e w' => e = .returned (.bool (qAll l i s)) ∧ w = w' := by
  have h64 := pow64 hV.six
  have c0 := hR.cell (i := 0) (by simp)
  simp only [List.getElem_cons_zero] at c0
  obtain ⟨b2, off, rfl, hb, hc⟩ := hq (by omega)
  have c1 := hc i hi
  rw [← pq_all hV i s (by omega)]
  have hv := Lib.hid (pAll_val hV i s (by omega))
  have hiI : (i : Int) < (l.length : Int) := by omega
  generalize pAll l i s = C at *
  generalize wat l i = x at *
  clear hR hq hc
  go_enter Try.func22, Try.ntmps22
  go_wp2_with fail
  go_ret
  exact ⟨by rw [← hv.out]; rfl, rfl⟩

set_option maxHeartbeats 800000 in
theorem anycl_any (b cap : Nat) (w : World) (A : Option Addr) (l : List Nat) (hq : Wds w w.heap.size A l) (hV : WV l) (hR : Row w b 22 [.slice A l.length cap]) (i s : Nat) (hi : i < l.length) (hs : s < 2 ^ l.length) :
    Calls Try.prog 23 #[.int .i64 (i : Int), .int .u32 (s : Int), .pointer (some ⟨b, 0, none⟩)] w fun e w' => e = .returned (.bool (pAny l i s)) ∧ w = w' := by
  have h64 := pow64 hV.six
  have c0 := hR.cell (i := 0) (by simp)
  simp only [List.getElem_cons_zero] at c0
  obtain ⟨b2, off, rfl, hb, hc⟩ := hq (by omega)
  have c1 := hc i hi
  have hx := hV.u32 i
  have hiI : (i : Int) < (l.length : Int) := by omega
  have hp : Hid (pAny l i s = (wat l i == 0 || (wat l i &&& s) != 0)) := rfl
  generalize pAny l i s = C at *
  generalize wat l i = x at *
  clear hR hq hc
  by_cases h0 : x = 0
  · subst h0
    have hC : Hid (C = true) := by unfold Hid; rw [hp.out]; rfl
    obtain rfl := hC.out
    clear hp
    go_enter Try.func23, Try.ntmps23
    go_wp2_with fail
    go_ret
    exact ⟨rfl, rfl⟩
  · have h0I : ((x : Int) == 0) = false := by simp; omega
    have hC : Hid ((bits BinOp.and IntKind.u32 (x : Int) (s : Int) != 0) = C) := by
      unfold Hid
      have h0b : (x == 0) = false := by simpa using h0
      rw [hp.out, h0b, Bool.false_or, u32_and_nat x s hx (by omega), Bool.eq_iff_iff, bne_iff_ne, bne_iff_ne]
      omega
    clear hp
    go_enter Try.func23, Try.ntmps23
    go_wp2_with fail
    go_ret
    exact ⟨by rw [← hC.out]; rfl, rfl⟩

/-- Who never proceeds if all must, as a word; 0 for wrong waits. -/
noncomputable def allOut (l : List Nat) : Nat := open Classical in if WV l then nev l.length (fAll l) else 0
noncomputable def anyOut (l : List Nat) : Nat := open Classical in if WV l then nev l.length (fAny l) else 0
theorem allOut_ok {l : List Nat} (h : WV l) : allOut l = nev l.length (fAll l) := by unfold allOut; rw [if_pos h]
theorem allOut_no {l : List Nat} (h : ¬ WV l) : allOut l = 0 := by unfold allOut; rw [if_neg h]
theorem anyOut_ok {l : List Nat} (h : WV l) : anyOut l = nev l.length (fAny l) := by unfold anyOut; rw [if_pos h]
theorem anyOut_no {l : List Nat} (h : ¬ WV l) : anyOut l = 0 := by unfold anyOut; rw [if_neg h]
def SetRes (w : World) (s : Nat) (c : Int) (e : Ending) (w' : World) : Prop := e = .returned (.tuple #[.int .u32 (s : Int), .int .i64 c]) ∧ Below w.heap.size w w'

set_option maxHeartbeats 1600000 in
theorem all_any_ (cap : Nat) (w : World) (A : Option Addr) (l : List Nat) (hq : Wds w w.heap.size A l) (hF : WFits l) (hl : l.length ≤ maxLen) :
    Calls Try.prog 9 #[.slice A l.length cap] w (SetRes w (allOut l) (waitCode l)) := by
  have hB1 := (Below.refl w.heap.size w).alloc (Nat.le_refl _) (.cells #[.slice A l.length cap] 22)
  have hsz : (w.alloc (.cells #[.slice A l.length cap] 22)).heap.size = w.heap.size + 1 := by simp
  have hRow : Row (w.alloc (.cells #[.slice A l.length cap] 22)) w.heap.size 22 [.slice A l.length cap] := Row.made w _ [_]
  have hchk := Lib.hid (check_any cap _ A l ((hq.below hB1).more (by omega)) hF hl)
  rw [hsz] at hchk
  by_cases hV : WV l
  · have hcode := (waitCode_iff l).2 hV
    rw [hcode] at hchk
    rw [hcode, allOut_ok hV]
    have hcall : Hid (∀ w1, Below (w.heap.size + 1) (w.alloc (.cells #[.slice A l.length cap] 22)) w1 → Calls Try.prog 21 #[.int .i64 (l.length : Int), .func (.func 22) #[] #[.pointer (some ⟨w.heap.size, 0, none⟩)]] w1 fun e w' => e = .returned (.int .u32 (nev l.length (fAll l) : Int)) ∧ w1 = w') := fun w1 hB => by
      have hq1 : Wds w1 w1.heap.size A l := ((hq.below hB1).below (hB.mono (Nat.le_succ _))).more (by have := hB.size; omega)
      exact neverA_any w.heap.size l.length (qAll l) w1 hV.six (fun i s hi hs => allcl_any w.heap.size cap w1 A l hq1 hV (hRow.below hB (by omega)) i s hi hs)
    generalize nev l.length (fAll l) = N at *
    have h1 := hV.one
    clear hq hV hcode hF
    go_enter Try.func9, Try.ntmps9
    go_wp2_with fail
    refine hchk.out.mono ?_
    rintro e w1 ⟨rfl, hB2⟩
    have c0 := (hRow.below hB2 (Nat.lt_succ_self _)).cell (i := 0) (by simp)
    simp only [List.getElem_cons_zero] at c0
    have hcc := Lib.hid (hcall.out w1 hB2)
    have hB3 := hB1.trans (hB2.mono (Nat.le_succ _))
    clear hB2 hRow hcall hchk hB1 hsz
    go_wp2_with fail
    refine hcc.out.mono ?_
    rintro e w2 ⟨rfl, rfl⟩
    go_wp2_with fail
    go_ret2
    exact ⟨rfl, hB3⟩
  · have hcode : waitCode l ≠ 0 := fun h => hV ((waitCode_iff l).1 h)
    rw [allOut_no hV]
    generalize waitCode l = x at *
    have hx1 : (x != 0) = true := by simpa using hcode
    clear hq hV hF hRow
    go_enter Try.func9, Try.ntmps9
    go_wp2_with fail
    refine hchk.out.mono ?_
    rintro e w1 ⟨rfl, hB2⟩
    have hB3 := hB1.trans (hB2.mono (Nat.le_succ _))
    clear hB2 hchk hB1 hsz
    go_wp2_with fail
    go_ret2
    exact ⟨rfl, hB3⟩

set_option maxHeartbeats 1600000 in
theorem any_any_ (cap : Nat) (w : World) (A : Option Addr) (l : List Nat) (hq : Wds w w.heap.size A l) (hF : WFits l) (hl : l.length ≤ maxLen) :
    Calls Try.prog 12 #[.slice A l.length cap] w (SetRes w (anyOut l) (waitCode l)) := by
  have hB1 := (Below.refl w.heap.size w).alloc (Nat.le_refl _) (.cells #[.slice A l.length cap] 22)
  have hsz : (w.alloc (.cells #[.slice A l.length cap] 22)).heap.size = w.heap.size + 1 := by simp
  have hRow : Row (w.alloc (.cells #[.slice A l.length cap] 22)) w.heap.size 22 [.slice A l.length cap] := Row.made w _ [_]
  have hchk := Lib.hid (check_any cap _ A l ((hq.below hB1).more (by omega)) hF hl)
  rw [hsz] at hchk
  by_cases hV : WV l
  · have hcode := (waitCode_iff l).2 hV
    rw [hcode] at hchk
    rw [hcode, anyOut_ok hV]
    have hcall : Hid (∀ w1, Below (w.heap.size + 1) (w.alloc (.cells #[.slice A l.length cap] 22)) w1 → Calls Try.prog 21 #[.int .i64 (l.length : Int), .func (.func 23) #[] #[.pointer (some ⟨w.heap.size, 0, none⟩)]] w1 fun e w' => e = .returned (.int .u32 (nev l.length (fAny l) : Int)) ∧ w1 = w') := fun w1 hB => by
      have hq1 : Wds w1 w1.heap.size A l := ((hq.below hB1).below (hB.mono (Nat.le_succ _))).more (by have := hB.size; omega)
      exact neverB_any w.heap.size l.length (pAny l) w1 hV.six (fun i s hi hs => anycl_any w.heap.size cap w1 A l hq1 hV (hRow.below hB (by omega)) i s hi hs)
    generalize nev l.length (fAny l) = N at *
    have h1 := hV.one
    clear hq hV hcode hF
    go_enter Try.func12, Try.ntmps12
    go_wp2_with fail
    refine hchk.out.mono ?_
    rintro e w1 ⟨rfl, hB2⟩
    have c0 := (hRow.below hB2 (Nat.lt_succ_self _)).cell (i := 0) (by simp)
    simp only [List.getElem_cons_zero] at c0
    have hcc := Lib.hid (hcall.out w1 hB2)
    have hB3 := hB1.trans (hB2.mono (Nat.le_succ _))
    clear hB2 hRow hcall hchk hB1 hsz
    go_wp2_with fail
    refine hcc.out.mono ?_
    rintro e w2 ⟨rfl, rfl⟩
    go_wp2_with fail
    go_ret2
    exact ⟨rfl, hB3⟩
  · have hcode : waitCode l ≠ 0 := fun h => hV ((waitCode_iff l).1 h)
    rw [anyOut_no hV]
    generalize waitCode l = x at *
    have hx1 : (x != 0) = true := by simpa using hcode
    clear hq hV hF hRow
    go_enter Try.func12, Try.ntmps12
    go_wp2_with fail
    refine hchk.out.mono ?_
    rintro e w1 ⟨rfl, hB2⟩
    have hB3 := hB1.trans (hB2.mono (Nat.le_succ _))
    clear hB2 hchk hB1 hsz
    go_wp2_with fail
    go_ret2
    exact ⟨rfl, hB3⟩

#print axioms neverA_any
#print axioms all_any_
#print axioms any_any_
end Go.Proofs.Ytilnbebklchikaa
