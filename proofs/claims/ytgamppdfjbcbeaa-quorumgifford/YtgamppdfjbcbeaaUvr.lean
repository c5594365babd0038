/-
  The contract of beaconryref.Votes.
-/
import Derived.Test.YtgamppdfjbcbeaaUvp
import Derived.Test.YtgamppdfjbcbeaaUbt
import Derived.Test.YtgamppdfjbcbeaaUrf
import Derived.Test.YtgamppdfjbcbeaaBtw
namespace Go.Proofs.Ytgamppdfjbcbeaa
open Go.RowKit Go.Maps
set_option linter.unusedVariables false

/-- Do none of the first k stand in s, but itself? -/
def noneP (l : List Nat) (s k : Nat) : Bool := noneIn (l.take k) s
theorem noneP_zero (l : List Nat) (s : Nat) : noneP l s 0 = true := rfl
theorem noneP_next (l : List Nat) (s : Nat) {k : Nat} (h : k < l.length) : noneP l s (k + 1) = (noneP l s k && (wat l k == s || !incB s (wat l k))) := by
  unfold noneP noneIn
  rw [take_snoc l h, List.all_append]
  simp
theorem noneP_all (l : List Nat) (s : Nat) : noneP l s l.length = noneIn l s := by unfold noneP; rw [List.take_length]
theorem or_ne (s x : Nat) (hs : s < 4294967296) (hx : x < 4294967296) : (bits BinOp.or IntKind.u32 (x : Int) (s : Int) != (s : Int)) = !incB s x := by
  rw [← or_val s x hs hx]
  rfl
def VrOut (f : Nat → Bool) (w : World) (k : Nat) (a : Value) (wr : World) : Prop := OwnW wr w.heap.size a (allF f k) ∧ Below w.heap.size w wr
def VrIn (w : World) (wr : World) : Prop := w = wr
def VrFil (q : Nat → Bool) (l : List Nat) (w : World) (k : Nat) (a : Value) (wr : World) : Prop := OwnW wr w.heap.size a ((l.take k).filter q) ∧ Below w.heap.size w wr
set_option maxHeartbeats 6400000 in
theorem refVotes_any (cap : Nat) (m : Int) (A : Option Addr) (v : List Int) (w : World) (hq : Nums w w.heap.size A v) (h6 : v.length ≤ 6) (hok : VOk v) :
    Calls Try.prog 23 #[.slice A v.length cap, .int .i64 m] w fun e w' => ∃ a, e = .returned a ∧ OwnW w' w.heap.size a (votL v m) ∧ Below w.heap.size w w' := by
  have h64 := Nat.pow_le_pow_right (n := 2) (by omega) h6
  have hpos : 0 < 2 ^ v.length := Nat.pow_pos (by omega)
  have hN32 : (v.length : Int) < 32 := by omega
  have hqH := Lib.hid hq
  have hokH := Lib.hid hok
  have hrg : Hid (∀ s k : Nat, k ≤ v.length → 0 ≤ sumV v s k ∧ sumV v s k ≤ 100 * (k : Int)) := fun s k hk => sumV_range hok s hk
  have hp := Lib.hid (pow_mod v.length (by omega))
  have hyes : Hid (∀ s : Nat, m ≤ sumV v s v.length → enoB v m s = true) := fun s h => (enoB_iff v m s).2 h
  have hno : Hid (∀ s : Nat, ¬ m ≤ sumV v s v.length → enoB v m s = false) := fun s h => by
    rw [← Bool.not_eq_true, enoB_iff]
    exact h
  have hvot : Hid (votL v m = (allF (enoB v m) (2 ^ v.length)).filter (noneIn (allF (enoB v m) (2 ^ v.length)))) := (allF_none _ _).symm
  generalize enoB v m = f at *
  have hlen : Hid (∀ k, (allF f k).length ≤ k) := allF_len f
  have hst : Hid (VrOut f w 0 (.slice none 0 0) w) := ⟨OwnW.nil _ _, Below.refl _ _⟩
  have hpush : Hid (∀ k : Nat, f k = true → allF f (k + 1) = allF f k ++ [k]) := fun k => allF_push
  have hsame : Hid (∀ k : Nat, f k = false → allF f (k + 1) = allF f k) := fun k => allF_same
  have hbelow : Hid (∀ k x : Nat, x ∈ allF f k → x < k) := fun k x h => (allF_mem.1 h).1
  obtain ⟨j0, hi0, hz0, hz1, hz2⟩ := partsU32
  have hJi := Lib.hid hi0; have hJz := Lib.hid hz0; have hJs := Lib.hid hz1; have hJb := Lib.hid hz2
  clear hi0 hz0 hz1 hz2 hq hok
  go_enter Try.func23, Try.ntmps23
  go_wp2_with fail
  go_loopw [6, 5] (fun t a wr => ∃ k : Nat, k ≤ 2 ^ v.length ∧ t = .int .u32 (k : Int) ∧ VrOut f w k a wr) (fun t _ _ => 2 ^ v.length - (intOf t).toNat)
  case atStart => exact ⟨0, by omega, rfl, hst.out⟩
  case round =>
    obtain ⟨k, hk, rfl, hM⟩ := hrel
    rename World => wr
    clear hst
    obtain ⟨hO, hB⟩ := hM
    have hOH := Lib.hid hO
    have hBH := Lib.hid hB
    by_cases hlt : k < 2 ^ v.length
    · have hb1 : (k : Int) < (2 : Int) ^ v.length % 4294967296 := by rw [hp.out]; omega
      have hk32 : (k : Int) + 1 < 4294967296 := by omega
      have hmea : k + 1 ≤ 2 ^ v.length := hlt
      have hk64 : k < 64 := by omega
      have hqr := Lib.hid ((hqH.out.below hB).more hB.size)
      have hl64 := hlen.out k
      have hps := Lib.hid (hpush.out k)
      have hsm := Lib.hid (hsame.out k)
      have hys := Lib.hid (hyes.out k)
      have hns := Lib.hid (hno.out k)
      have hrk := Lib.hid (fun j => hrg.out k j)
      clear hO hB hlen hpush hsame hyes hno hrg hvot hqH hbelow
      go_wp2_with fail
      go_loopw [26, 7] (fun i t wi => ∃ j : Nat, j ≤ v.length ∧ i = .int .i64 j ∧ t = .int .i64 (sumV v k j) ∧ VrIn wr wi) (fun i _ _ => v.length - (intOf i).toNat)
      case atStart => exact ⟨0, Nat.zero_le _, rfl, rfl, rfl⟩
      case round =>
        obtain ⟨j, hj, rfl, rfl, hw⟩ := hrel
        unfold VrIn at hw
        subst hw
        by_cases hjl : j < v.length
        · obtain ⟨b, off, rfl, hb, c0⟩ := hqr.out.vote hjl
          have hjI : (j : Int) < (v.length : Int) := by omega
          obtain ⟨r1, r2⟩ := hrk.out j hj
          obtain ⟨r3, r4⟩ := hokH.out j hjl
          have hbt := Lib.hid (bit_any k j wr (by omega) (by omega))
          have hn1 : Hid (k.testBit j = true → sumV v k (j + 1) = sumV v k j + vat v j) := fun h => by unfold Hid at *; rw [sumV, if_pos h]
          have hn0 : Hid (k.testBit j = false → sumV v k (j + 1) = sumV v k j) := fun h => by rw [sumV, if_neg (by rw [h]; decide)]; omega
          clear hrk hokH hps hsm hys hns hqr
          obtain ⟨S, hS⟩ : ∃ S, Hid (sumV v k j = S) := ⟨_, (rfl : sumV v k j = sumV v k j)⟩
          obtain ⟨x, hx⟩ : ∃ x, Hid (vat v j = x) := ⟨_, (rfl : vat v j = vat v j)⟩
          rw [hx.out] at c0 r3 r4 hn1
          rw [hS.out] at r1 r2 hn1 hn0 ⊢
          cases e : k.testBit j with
          | true =>
            have hnx := Lib.hid (hn1.out e)
            rw [e] at hbt
            clear hn1 hn0 e
            go_wp2_with fail
            refine hbt.out.mono ?_
            rintro e w1 ⟨rfl, rfl⟩
            go_wp2_with fail
            go_roundw
            case rel => exact ⟨j + 1, by omega, by go_num, by rw [hnx.out], rfl⟩
            case measure => simp [intOf]; omega
          | false =>
            have hnx := Lib.hid (hn0.out e)
            rw [e] at hbt
            clear hn1 hn0 e
            go_wp2_with fail
            refine hbt.out.mono ?_
            rintro e w1 ⟨rfl, rfl⟩
            go_wp2_with fail
            go_roundw
            case rel => exact ⟨j + 1, by omega, by go_num, by rw [hnx.out], rfl⟩
            case measure => simp [intOf]; omega
        · have hjl' : j = v.length := by omega
          subst hjl'
          clear hokH hqr hrk
          obtain ⟨S, hS⟩ : ∃ S, Hid (sumV v k v.length = S) := ⟨_, (rfl : sumV v k v.length = sumV v k v.length)⟩
          rw [hS.out] at hys hns ⊢
          by_cases hge : m ≤ S
          · have hn := Lib.hid (hps.out (hys.out hge))
            have hBa := Lib.hid (hBH.out.alloc hBH.out.size (.cells #[.int .u32 (k : Int)] 27))
            have hO3 := Lib.hid (hOH.out.alloc (.cells #[.int .u32 (k : Int)] 27))
            have hge3 := Lib.hid hO3.out.block_ge
            have hnews := Lib.hid (newsW (w := wr) k rfl)
            obtain ⟨A2, cap2, rfl, hc1, hc2, _⟩ := hOH.out.words
            clear hps hsm hys hns hOH hBH
            go_wp2_with (first
              | (at_builtin; refine wpList_append_lies _ rfl (.tmp 41) (.tmp 43) 22 rfl w.heap.size 27 j0 (.int .u32 0) 1 4 Try.underlying22 hJi.out hJz.out hJs.out hJb.out rfl (by decide) (.slice A2 (allF f k).length cap2) (allF f k).length (wordVals (allF f k)) rfl hO3.out ⟨wr.heap.size, 0, none⟩ 1 1 [.int .u32 (k : Int)] rfl rfl hnews.out (by simp [Value.oneCell']) (by omega) (by unfold maxLen; omega) (by omega) hBa.out.size _ rfl ?_; intro g cap3 w4 hown hgr hat hlt4
                 have hR : Hid (VrOut f w (k + 1) (.slice (some ⟨g, 0, none⟩) ((allF f k).length + 1) cap3) w4) := ⟨by rw [hn.out]; exact OwnW.push hown, hBa.out.grown hgr hBa.out.size hge3.out⟩
                 clear hown hgr hat hlt4 hO3 hge3 hnews hBa))
            go_roundw
            case rel => exact ⟨k + 1, hmea, by go_num, hR.out⟩
            case measure => simp [intOf]; omega
          · have hn := Lib.hid (hsm.out (hns.out (by omega)))
            have hR : Hid (VrOut f w (k + 1) _ wr) := ⟨by rw [hn.out]; exact hOH.out, hBH.out⟩
            clear hps hsm hys hns hOH hBH
            go_wp2_with fail
            go_roundw
            case rel => exact ⟨k + 1, hmea, by go_num, hR.out⟩
            case measure => simp [intOf]; omega
    · have hkl : k = 2 ^ v.length := by omega
      have hb1 : ¬ (k : Int) < (2 : Int) ^ v.length % 4294967296 := by rw [hp.out]; omega
      rw [← hkl] at hvot
      have hk64 : k ≤ 64 := by omega
      have hl64 := hlen.out k
      have hFt := Lib.hid (fits_of (K := k) (by omega) fun x hx => hbelow.out k x hx)
      obtain ⟨A2, cap2, rfl, hc1, hc2, hW⟩ := hOH.out.words
      have hWH := Lib.hid hW
      have hst2 : Hid (VrFil (noneIn (allF f k)) (allF f k) wr 0 (.slice none 0 0) wr) := ⟨OwnW.nil _ _, Below.refl _ _⟩
      clear hlen hpush hsame hyes hno hrg hbelow hokH hqH hO hB hOH hW hkl hlt hk hp
      generalize allF f k = r at *
      go_wp2_with fail
      go_loopw [47, 10] (fun t a wi => ∃ j : Nat, j ≤ r.length ∧ t = .int .i64 (j : Int) ∧ VrFil (noneIn r) r wr j a wi) (fun t _ _ => r.length - (intOf t).toNat)
      case atStart => exact ⟨0, by omega, rfl, hst2.out⟩
      case round =>
        obtain ⟨j, hj, rfl, hM⟩ := hrel
        rename World => w2
        clear hst2
        obtain ⟨hO, hB⟩ := hM
        have hOH := Lib.hid hO
        have hB2H := Lib.hid hB
        by_cases hjl : j < r.length
        · have hW2 := Lib.hid (hWH.out.below hB)
          have hs32 := hFt.out j
          have hk1 : Hid (noneIn r (wat r j) = true → (r.take (j + 1)).filter (noneIn r) = (r.take j).filter (noneIn r) ++ [wat r j]) := fun h => filt_keep _ r hjl h
          have hk0 : Hid (noneIn r (wat r j) = false → (r.take (j + 1)).filter (noneIn r) = (r.take j).filter (noneIn r)) := fun h => filt_drop _ r hjl h
          have hnp : Hid (∀ i, i < r.length → noneP r (wat r j) (i + 1) = (noneP r (wat r j) i && (wat r i == wat r j || !incB (wat r j) (wat r i)))) := fun i hi => noneP_next r (wat r j) hi
          have hna : Hid (noneP r (wat r j) r.length = noneIn r (wat r j)) := noneP_all r _
          have hn0 : Hid (noneP r (wat r j) 0 = true) := noneP_zero r _
          have hjI : (j : Int) < (r.length : Int) := by omega
          obtain ⟨b, off, rfl, hb, hc⟩ := hW2.out (by omega)
          have hcc := Lib.hid hc
          have c0 := hc j hjl
          have hfl : ((r.take j).filter (noneIn r)).length ≤ 64 := by
            have h1 := List.length_filter_le (noneIn r) (r.take j)
            have h2 := List.length_take_le j r
            omega
          clear hc hO hB hWH hvot hW2
          obtain ⟨s, hse⟩ : ∃ s, Hid (wat r j = s) := ⟨_, (rfl : wat r j = wat r j)⟩
          rw [hse.out] at c0 hs32 hk1 hk0 hnp hna hn0
          go_wp2_with fail
          go_loopw [53, 13] (fun t a wi => ∃ i : Nat, i ≤ r.length ∧ t = .int .i64 (i : Int) ∧ a = .bool (noneP r s i) ∧ VrIn w2 wi) (fun t _ _ => r.length - (intOf t).toNat)
          case atStart => exact ⟨0, Nat.zero_le _, rfl, by rw [hn0.out], rfl⟩
          case round =>
            obtain ⟨i, hi, rfl, rfl, hw⟩ := hrel
            unfold VrIn at hw
            subst hw
            by_cases hil : i < r.length
            · have d0 := hcc.out i hil
              have hiI : (i : Int) < (r.length : Int) := by omega
              have hx32 := hFt.out i
              have hnx := Lib.hid (hnp.out i hil)
              have hor := or_ne s (wat r i) hs32 hx32
              clear hnp hna hn0 hcc hk1 hk0 hFt hOH hB2H hBH
              obtain ⟨x, hxe⟩ : ∃ x, Hid (wat r i = x) := ⟨_, (rfl : wat r i = wat r i)⟩
              rw [hxe.out] at d0 hx32 hnx hor
              obtain ⟨P, hP⟩ : ∃ P, Hid (noneP r s i = P) := ⟨_, (rfl : noneP r s i = noneP r s i)⟩
              rw [hP.out] at hnx ⊢
              cases P with
              | false =>
                clear hor
                go_wp2_with fail
                go_roundw
                case rel => exact ⟨i + 1, by omega, by go_num, by rw [hnx.out]; rfl, rfl⟩
                case measure => simp [intOf]; omega
              | true =>
                by_cases hxs : x = s
                · have hq1 : ((x : Int) == (s : Int)) = true := by simp [hxs]
                  have hq2 : Hid ((x == s) = true) := by unfold Hid; simp [hxs]
                  clear hor hxs
                  go_wp2_with fail
                  go_roundw
                  case rel => exact ⟨i + 1, by omega, by go_num, by rw [hnx.out, hq2.out]; rfl, rfl⟩
                  case measure => simp [intOf]; omega
                · have hq1 : ((x : Int) == (s : Int)) = false := by simp; omega
                  have hq2 : Hid ((x == s) = false) := by unfold Hid; simp [hxs]
                  cases hIn : incB s x with
                  | true =>
                    rw [hIn] at hor hnx
                    simp only [Bool.not_true] at hor
                    clear hxs hIn
                    go_wp2_with fail
                    go_roundw
                    case rel => exact ⟨i + 1, by omega, by go_num, by rw [hnx.out, hq2.out]; rfl, rfl⟩
                    case measure => simp [intOf]; omega
                  | false =>
                    rw [hIn] at hor hnx
                    simp only [Bool.not_false] at hor
                    clear hxs hIn
                    go_wp2_with fail
                    go_roundw
                    case rel => exact ⟨i + 1, by omega, by go_num, by rw [hnx.out, hq2.out]; rfl, rfl⟩
                    case measure => simp [intOf]; omega
            · have hil' : i = r.length := by omega
              subst hil'
              rw [hna.out]
              clear hnp hna hn0 hcc hFt
              generalize hC : noneIn r s = C at hk1 hk0 ⊢
              clear hC
              cases C with
              | false =>
                have hn := Lib.hid (hk0.out rfl)
                have hR : Hid (VrFil (noneIn r) r wr (j + 1) _ w2) := ⟨by rw [hn.out]; exact hOH.out, hB2H.out⟩
                clear hk1 hk0 hOH hB2H
                go_wp2_with fail
                go_roundw
                case rel => exact ⟨j + 1, by omega, by go_num, hR.out⟩
                case measure => simp [intOf]; omega
              | true =>
                have hn := Lib.hid (hk1.out rfl)
                have hBa := Lib.hid (hB2H.out.alloc hB2H.out.size (.cells #[.int .u32 (s : Int)] 27))
                have hO3 := Lib.hid (hOH.out.alloc (.cells #[.int .u32 (s : Int)] 27))
                have hge3 := Lib.hid hO3.out.block_ge
                have hnews := Lib.hid (newsW (w := w2) s rfl)
                obtain ⟨A4, cap4, rfl, hc3, hc4, _⟩ := hOH.out.words
                clear hk1 hk0 hOH hB2H
                obtain ⟨q, hqe⟩ : ∃ q, Hid ((r.take j).filter (noneIn r) = q) := ⟨_, (rfl : (r.take j).filter (noneIn r) = (r.take j).filter (noneIn r))⟩
                rw [hqe.out] at hfl hO3 hge3 hn hc3 ⊢
                go_wp2_with (first
                  | (at_builtin; refine wpList_append_lies _ rfl (.tmp 72) (.tmp 74) 22 rfl wr.heap.size 27 j0 (.int .u32 0) 1 4 Try.underlying22 hJi.out hJz.out hJs.out hJb.out rfl (by decide) (.slice A4 q.length cap4) q.length (wordVals q) rfl hO3.out ⟨w2.heap.size, 0, none⟩ 1 1 [.int .u32 (s : Int)] rfl rfl hnews.out (by simp [Value.oneCell']) (by omega) (by unfold maxLen; omega) (by omega) hBa.out.size _ rfl ?_; intro g cap3 w4 hown hgr hat hlt4
                     have hR : Hid (VrFil (noneIn r) r wr (j + 1) (.slice (some ⟨g, 0, none⟩) (q.length + 1) cap3) w4) := ⟨by rw [hn.out]; exact OwnW.push hown, hBa.out.grown hgr hBa.out.size hge3.out⟩
                     clear hown hgr hat hlt4 hO3 hge3 hnews hBa))
                go_roundw
                case rel => exact ⟨j + 1, by omega, by go_num, hR.out⟩
                case measure => simp [intOf]; omega
        · have hjl' : j = r.length := by omega
          subst hjl'
          have hfin : Hid (OwnW w2 w.heap.size _ (votL v m) ∧ Below w.heap.size w w2) := ⟨by rw [hvot.out]; have := hOH.out; rw [List.take_length] at this; exact this.less hBH.out.size, hBH.out.trans (hB2H.out.mono hBH.out.size)⟩
          clear hO hB hvot hWH hFt hOH hB2H hBH
          go_wp2_with fail
          go_ret
          exact ⟨_, rfl, hfin.out.1, hfin.out.2⟩
#print axioms refVotes_any
end Go.Proofs.Ytgamppdfjbcbeaa
