/-
  The contracts of quorum.Votes' closure, of quorum.minimal and of quorum.Votes.
-/
import Derived.Test.YtgamppdfjbcbeaaUvc
import Derived.Test.YtgamppdfjbcbeaaUow
import Derived.Test.YtgamppdfjbcbeaaUbt
namespace Go.Proofs.Ytgamppdfjbcbeaa
open Go.RowKit Go.Maps
set_option linter.unusedVariables false

set_option maxHeartbeats 800000 in
theorem voteFn_any (b1 b2 cap s : Nat) (m : Int) (A : Option Addr) (v : List Int) (w : World) (hs : s < 4294967296) (hR1 : Row w b1 38 [.slice A v.length cap]) (hR2 : Row w b2 3 [.int .i64 m]) (hq : Nums w w.heap.size A v) (h6 : v.length ≤ 6) (hok : VOk v) :
    Calls Try.prog 35 #[.int .u32 (s : Int), .pointer (some ⟨b1, 0, none⟩), .pointer (some ⟨b2, 0, none⟩)] w fun e w' => e = .returned (.bool (enoB v m s)) ∧ Below w.heap.size w w' := by
  have c1 := hR1.cell (i := 0) (by simp)
  have c2 := hR2.cell (i := 0) (by simp)
  simp only [List.getElem_cons_zero] at c1 c2
  have ht : Hid (∀ k, Calls Try.prog 36 #[.slice A v.length cap, .int .u32 (s : Int)] (w.drewN k) fun e w' => e = .returned (.int .i64 (totV v s)) ∧ w' = w.drewN k) := fun k => (total_any cap s A v (w.drewN k) hs (hq.keep fun p _ => rfl) h6 hok).mono fun _ _ h => ⟨h.1, h.2.symm⟩
  have hB := Lib.hid (Below.refl w.heap.size w)
  have hen : Hid (enoB v m s = decide (m ≤ totV v s)) := rfl
  generalize enoB v m s = R at *
  generalize totV v s = T at *
  by_cases hge : m ≤ T
  · have h1 : decide (T ≥ m) = true := decide_eq_true hge
    have h2 : decide (m ≤ T) = true := decide_eq_true hge
    rw [h2] at hen
    obtain rfl := hen.out
    clear hq hok hR1 hR2
    go_enter Try.func35, Try.ntmps35
    go_wp2_with fail
    go_quiet ((go_at_call 36; exact Calls.quiet_of_same (ht.out _)))
    go_wp2_with fail
    go_ret
    exact ⟨rfl, below_drewN hB.out _⟩
  · have h1 : decide (T ≥ m) = false := decide_eq_false hge
    have h2 : decide (m ≤ T) = false := decide_eq_false hge
    rw [h2] at hen
    obtain rfl := hen.out
    clear hq hok hR1 hR2
    go_enter Try.func35, Try.ntmps35
    go_wp2_with fail
    go_quiet ((go_at_call 36; exact Calls.quiet_of_same (ht.out _)))
    go_wp2_with fail
    go_ret
    exact ⟨rfl, below_drewN hB.out _⟩

def fnV (b1 b2 : Nat) : Value := .func (.func 35) #[] #[.pointer (some ⟨b1, 0, none⟩), .pointer (some ⟨b2, 0, none⟩)]
/-- How far the least sets are found. -/
def MnRel (f : Nat → Bool) (w : World) (k : Nat) (v : Value) (wr : World) : Prop := OwnW wr w.heap.size v (minL f k) ∧ Below w.heap.size w wr
set_option maxHeartbeats 3200000 in
theorem minimal_any (b1 b2 n : Nat) (f : Nat → Bool) (w : World) (hn : n ≤ 6) (hcl : ∀ (wr : World) (s : Nat), Below w.heap.size w wr → s < 4294967296 → Calls Try.prog 35 #[.int .u32 (s : Int), .pointer (some ⟨b1, 0, none⟩), .pointer (some ⟨b2, 0, none⟩)] wr fun e w' => e = .returned (.bool (f s)) ∧ Below wr.heap.size wr w') :
    Calls Try.prog 34 #[.int .i64 (n : Int), fnV b1 b2] w fun e w' => ∃ v, e = .returned v ∧ OwnW w' w.heap.size v (minL f (2 ^ n)) ∧ Below w.heap.size w w' := by
  have h64 := Nat.pow_le_pow_right (n := 2) (by omega) hn
  have hpos : 0 < 2 ^ n := Nat.pow_pos (by omega)
  have hev := Lib.hid (everybody_any n w hn)
  have hclH := Lib.hid hcl
  have hinc : Hid (∀ (wr : World) (A2 : Option Addr) (cap2 k : Nat), k ≤ 64 → Wds wr wr.heap.size A2 (minL f k) → Calls Try.prog 28 #[.int .u32 (k : Int), .slice A2 (minL f k).length cap2] wr fun e w' => e = .returned (.bool (winB (minL f k) k)) ∧ Below wr.heap.size wr w') := fun wr A2 cap2 k hk hW => includesOne_any k cap2 A2 (minL f k) wr (by omega) hW (fits_of (K := k) (by omega) fun x hx => (minL_mem.1 hx).1) (by have := minL_len f k; omega)
  have hlen : Hid (∀ k, (minL f k).length ≤ k) := minL_len f
  have hpush : Hid (∀ k, f k = true → winB (minL f k) k = false → minL f (k + 1) = minL f k ++ [k]) := fun k => minL_push
  have hsame : Hid (∀ k, (f k = false ∨ winB (minL f k) k = true) → minL f (k + 1) = minL f k) := fun k => minL_same
  have hst : Hid (MnRel f w 0 (.slice none 0 0) w) := ⟨OwnW.nil _ _, Below.refl _ _⟩
  have h64' : 2 ^ n ≤ 64 := by omega
  clear h64
  generalize 2 ^ n = K at *
  obtain ⟨P, rfl⟩ : ∃ P, K = P + 1 := ⟨K - 1, by omega⟩
  rw [Nat.add_sub_cancel] at hev
  have hp32 : (P : Int) + 1 < 4294967296 := by omega
  obtain ⟨j0, hi0, hz0, hz1, hz2⟩ := partsU32
  have hJi := Lib.hid hi0; have hJz := Lib.hid hz0; have hJs := Lib.hid hz1; have hJb := Lib.hid hz2
  unfold fnV
  clear hi0 hz0 hz1 hz2 hcl
  go_enter Try.func34, Try.ntmps34
  go_wp2_with fail
  refine hev.out.mono ?_
  rintro e w1 ⟨rfl, rfl⟩
  clear hev
  go_wp2_with fail
  go_loopw [10, 5] (fun t v wr => ∃ k : Nat, k ≤ P + 1 ∧ t = .int .u32 (k : Int) ∧ MnRel f w k v wr) (fun t _ _ => P + 1 - (intOf t).toNat)
  case atStart => exact ⟨0, by omega, rfl, hst.out⟩
  case round =>
    obtain ⟨k, hk, rfl, hM⟩ := hrel
    rename World => wr
    clear hst
    obtain ⟨hO, hB⟩ := hM
    by_cases hlt : k < P + 1
    · have hkI : (k : Int) < (P : Int) + 1 := by omega
      have hk32 : (k : Int) + 1 < 4294967296 := by omega
      have hmea : k + 1 ≤ P + 1 := hlt
      have hc := Lib.hid (hclH.out wr k hB (by omega))
      have hl64 := hlen.out k
      have hps := Lib.hid (hpush.out k)
      have hsm := Lib.hid (hsame.out k)
      have hOH := Lib.hid hO
      have hBH := Lib.hid hB
      clear hclH hlen hpush hsame hO hB
      generalize hF : f k = F at hc hps hsm
      clear hF
      cases F with
      | false =>
        have hn := Lib.hid (hsm.out (.inl rfl))
        clear hps hsm hinc
        go_wp2_with fail
        refine hc.out.mono ?_
        rintro e w2 ⟨rfl, hB2⟩
        have hR : Hid (MnRel f w (k + 1) (_) w2) := ⟨by rw [hn.out]; exact hOH.out.below hB2, hBH.out.trans (hB2.mono hBH.out.size)⟩
        go_wp2_with fail
        go_roundw
        case rel => exact ⟨k + 1, hmea, by go_num, hR.out⟩
        case measure => simp [intOf]; omega
      | true =>
        obtain ⟨A2, cap2, rfl, hc1, hc2, hW⟩ := hOH.out.words
        have hinc' : Hid (∀ (w2 : World), Below wr.heap.size wr w2 → Calls Try.prog 28 #[.int .u32 (k : Int), .slice A2 (minL f k).length cap2] w2 fun e w' => e = .returned (.bool (winB (minL f k) k)) ∧ Below w2.heap.size w2 w') := fun w2 hB => hinc.out w2 A2 cap2 k (by omega) ((hW.below hB).more hB.size)
        have hps' := Lib.hid (hps.out rfl)
        clear hinc hW hps
        generalize hWb : winB (minL f k) k = Wb at hinc' hps' hsm
        clear hWb
        cases Wb with
        | true =>
          have hn := Lib.hid (hsm.out (.inr rfl))
          clear hps' hsm
          go_wp2_with fail
          refine hc.out.mono ?_
          rintro e w2 ⟨rfl, hB2⟩
          have hi := Lib.hid (hinc'.out w2 hB2)
          have hO2 := Lib.hid (hOH.out.below hB2)
          have hB2H := Lib.hid (hBH.out.trans (hB2.mono hBH.out.size))
          clear hc hinc' hOH hBH hB2
          go_wp2_with fail
          refine hi.out.mono ?_
          rintro e w3 ⟨rfl, hB3⟩
          have hR : Hid (MnRel f w (k + 1) _ w3) := ⟨by rw [hn.out]; exact hO2.out.below hB3, hB2H.out.trans (hB3.mono hB2H.out.size)⟩
          clear hi hO2 hB2H hB3
          go_wp2_with fail
          go_roundw
          case rel => exact ⟨k + 1, hmea, by go_num, hR.out⟩
          case measure => simp [intOf]; omega
        | false =>
          have hn := Lib.hid (hps'.out rfl)
          clear hps' hsm
          go_wp2_with fail
          refine hc.out.mono ?_
          rintro e w2 ⟨rfl, hB2⟩
          have hi := Lib.hid (hinc'.out w2 hB2)
          have hO2 := Lib.hid (hOH.out.below hB2)
          have hB2H := Lib.hid (hBH.out.trans (hB2.mono hBH.out.size))
          clear hc hinc' hOH hBH hB2
          go_wp2_with fail
          refine hi.out.mono ?_
          rintro e w3 ⟨rfl, hB3⟩
          have hB3' := hB2H.out.trans (hB3.mono hB2H.out.size)
          have hBa := Lib.hid (hB3'.alloc hB3'.size (.cells #[.int .u32 (k : Int)] 27))
          have hO3 := Lib.hid ((hO2.out.below hB3).alloc (.cells #[.int .u32 (k : Int)] 27))
          have hge := Lib.hid hO3.out.block_ge
          have hnews := Lib.hid (newsW (w := w3) k rfl)
          clear hi hO2 hB2H hB3 hB3'
          go_wp2_with (first
            | (at_builtin; refine wpList_append_lies _ rfl (.tmp 22) (.tmp 24) 22 rfl w.heap.size 27 j0 (.int .u32 0) 1 4 Try.underlying22 hJi.out hJz.out hJs.out hJb.out rfl (by decide) (.slice A2 (minL f k).length cap2) (minL f k).length (wordVals (minL f k)) rfl hO3.out ⟨w3.heap.size, 0, none⟩ 1 1 [.int .u32 (k : Int)] rfl rfl hnews.out (by simp [Value.oneCell']) (by omega) (by unfold maxLen; omega) (by omega) hBa.out.size _ rfl ?_; intro g cap3 w4 hown hgr hat hlt4
               have hR : Hid (MnRel f w (k + 1) (.slice (some ⟨g, 0, none⟩) ((minL f k).length + 1) cap3) w4) := ⟨by rw [hn.out]; exact OwnW.push hown, hBa.out.grown hgr hBa.out.size hge.out⟩
               clear hown hgr hat hlt4 hO3 hge hnews hBa))
          go_roundw
          case rel => exact ⟨k + 1, hmea, by go_num, hR.out⟩
          case measure => simp [intOf]; omega
    · have hkl : k = P + 1 := by omega
      subst hkl
      have hOH := Lib.hid hO
      have hBH := Lib.hid hB
      clear hclH hlen hpush hsame hinc hO hB
      go_wp2_with fail
      go_ret
      exact ⟨_, rfl, hOH.out, hBH.out⟩

/-- What Votes tells. -/
def VotRes (v : List Int) (m : Int) (w : World) (e : Ending) (w' : World) : Prop := ∃ a, e = .returned (.tuple #[a, .int .i64 (votCode v m)]) ∧ ((votCode v m = 0 ∧ OwnW w' w.heap.size a (votL v m)) ∨ (votCode v m ≠ 0 ∧ a = .slice none 0 0)) ∧ Below w.heap.size w w'
set_option maxHeartbeats 3200000 in
theorem votes_any (cap : Nat) (m : Int) (A : Option Addr) (v : List Int) (w : World) (hq : Nums w w.heap.size A v) (hl : v.length ≤ maxLen) :
    Calls Try.prog 22 #[.slice A v.length cap, .int .i64 m] w (VotRes v m w) := by
  have hB1 := (Below.refl w.heap.size w).alloc (Nat.le_refl _) (.cells #[.slice A v.length cap] 38)
  have hB2 := hB1.alloc hB1.size (.cells #[.int .i64 m] 3)
  have hsz : (w.alloc (.cells #[.slice A v.length cap] 38)).heap.size = w.heap.size + 1 := by simp
  have hsz2 : ((w.alloc (.cells #[.slice A v.length cap] 38)).alloc (.cells #[.int .i64 m] 3)).heap.size = w.heap.size + 2 := by simp
  have hR1 : Row ((w.alloc (.cells #[.slice A v.length cap] 38)).alloc (.cells #[.int .i64 m] 3)) w.heap.size 38 [.slice A v.length cap] := (Row.made w _ [_]).alloc _
  have hR2 : Row ((w.alloc (.cells #[.slice A v.length cap] 38)).alloc (.cells #[.int .i64 m] 3)) (w.heap.size + 1) 3 [.int .i64 m] := by
    have := Row.made (w.alloc (.cells #[.slice A v.length cap] 38)) 3 [.int .i64 m]
    rw [hsz] at this
    exact this
  have c1 := hR1.cell (i := 0) (by simp)
  have c2 := hR2.cell (i := 0) (by simp)
  simp only [List.getElem_cons_zero] at c1 c2
  have hq2 := (hq.below hB2).more hB2.size
  have hc := Lib.hid (checkVotes_any cap m A v _ hq2 hl)
  have hBH := Lib.hid hB2
  unfold VotRes
  by_cases h0 : vCode v m = 0
  · have hV := vCode_zero h0
    have hmin := Lib.hid (minimal_any w.heap.size (w.heap.size + 1) v.length (enoB v m) _ hV.six fun wr s hB hs => voteFn_any w.heap.size (w.heap.size + 1) cap s m A v wr hs (hR1.block (hB.block _ (by omega))) (hR2.block (hB.block _ (by omega))) ((hq2.below hB).more hB.size) hV.six hV.ok)
    have hdef : Hid (votL v m = minL (enoB v m) (2 ^ v.length)) := rfl
    rw [← hdef.out] at hmin
    have hno : Hid ((votL v m).length = 0 → votCode v m = 5) := votCode_none h0
    have hok : Hid ((votL v m).length ≠ 0 → votCode v m = 0) := votCode_ok h0
    unfold fnV at hmin
    rw [h0] at hc
    have hs2 := Lib.hid (show w.heap.size ≤ ((w.alloc (.cells #[.slice A v.length cap] 38)).alloc (.cells #[.int .i64 m] 3)).heap.size by omega)
    clear hq hq2 hR1 hR2 hB1 hB2 hsz hsz2 h0 hV hdef
    go_enter Try.func22, Try.ntmps22
    go_wp2_with fail
    refine hc.out.mono ?_
    rintro e w1 ⟨rfl, rfl⟩
    go_wp2_with fail
    refine hmin.out.mono ?_
    rintro e w2 ⟨a, rfl, hO, hB⟩
    have hO2 := Lib.hid (hO.less hs2.out)
    have hBf := Lib.hid (hBH.out.trans (hB.mono hs2.out))
    obtain ⟨A2, cap2, rfl, hc1, hc2, _⟩ := hO2.out.words
    clear hmin hc hO hB hBH c1 c2 hs2
    by_cases hz : (votL v m).length = 0
    · have hx := Lib.hid (hno.out hz)
      have hzI : (((votL v m).length : Int) == 0) = true := by rw [hz]; rfl
      clear hz hno hok
      go_wp2_with fail
      go_ret2
      exact ⟨_, by rw [hx.out]; rfl, .inr ⟨by rw [hx.out]; decide, rfl⟩, hBf.out⟩
    · have hx := Lib.hid (hok.out hz)
      have hzI : (((votL v m).length : Int) == 0) = false := by simpa using hz
      clear hz hno hok
      go_wp2_with fail
      go_ret2
      exact ⟨_, by rw [hx.out]; rfl, .inl ⟨hx.out, hO2.out⟩, hBf.out⟩
  · rw [votCode_first h0]
    generalize vCode v m = x at *
    have hx0 : (x != 0) = true := by simpa using h0
    clear hq hq2 hR1 hR2 hB1 hB2 hsz hsz2
    go_enter Try.func22, Try.ntmps22
    go_wp2_with fail
    refine hc.out.mono ?_
    rintro e w1 ⟨rfl, rfl⟩
    go_wp2_with fail
    go_ret2
    exact ⟨_, rfl, .inr ⟨h0, rfl⟩, hBH.out⟩
#print axioms voteFn_any
#print axioms minimal_any
#print axioms votes_any
end Go.Proofs.Ytgamppdfjbcbeaa
