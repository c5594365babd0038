/-
  The contract of beaconrykeep.joined.
-/
import Derived.Test.YtjmkmfeibempjaaBit
import Derived.Test.YtjmkmfeibempjaaEcd
import Derived.Test.YtjmkmfeibempjaaLks
namespace Go.Proofs.Ytjmkmfeibempjaa
open Go.RowKit Go.Maps
set_option linter.unusedVariables false

theorem jround_succ {l : List Lk} {k : Nat} (W : Nat) (h : k < l.length) : jround (l.take (k + 1)) W = jnW (jround (l.take k) W) (lat l k) := by
  rw [List.take_succ_eq_append_getElem h, jround_snoc, lat_get l h]
theorem jnW_two (W x y : Nat) (a b : Int) (ha : a = (x : Int)) (hb : b = (y : Int)) : jnW W ⟨a, b⟩ = if (W.testBit x || W.testBit y) = true then W ||| 2 ^ x ||| 2 ^ y else W := by
  unfold jnW; rw [ha, hb]; rfl
def JnRel (w wr : World) : Prop := Below w.heap.size w wr

set_option maxHeartbeats 1600000 in
theorem joined_any (A : Option Addr) (cap : Nat) (l : List Lk) (n s : Nat) (w : World) (hE : Lks w w.heap.size A l) (hl : l.length ≤ 15) (hn : n ≤ 6) (hs : s < n) (hL : LkOk n l) :
    Calls Try.prog 15 #[.int .i64 (n : Int), .slice A l.length cap, .int .i64 (s : Int)] w fun e w' => e = .returned (.int .u32 (jset l s n : Nat)) ∧ Below w.heap.size w w' := by
  have hEH := Lib.hid hE
  have hst := Lib.hid (show (2 : Int) ^ s % 4294967296 = ((jset l s 0 : Nat) : Int) from pow_mod s (by omega))
  clear hE
  go_enter Try.func15, Try.ntmps15
  go_wp2_with fail
  go_loopw [8, 7] (fun t v wr => ∃ k : Nat, k ≤ n ∧ t = .int .i64 k ∧ v = .int .u32 (jset l s k : Nat) ∧ JnRel w wr) (fun t _ _ => n - (intOf t).toNat)
  case atStart => exact ⟨0, Nat.zero_le _, rfl, by rw [hst.out], Below.refl _ _⟩
  case round =>
    clear hst
    obtain ⟨k, hk, rfl, rfl, hB⟩ := hrel
    unfold JnRel at hB
    rename World => w1
    by_cases hlt : k < n
    · have hkI : (k : Int) < (n : Int) := by omega
      have hstep : Hid (jset l s (k + 1) = jround (l.take l.length) (jset l s k)) := by unfold Hid; rw [List.take_length]; rfl
      have hWlt : Hid (∀ m, jround (l.take m) (jset l s k) < 2 ^ n) := fun m => jround_lt _ (fun y hy => hL y (List.mem_of_mem_take hy)) (jset_lt l hL hs k)
      have h26 : 2 ^ n ≤ 2 ^ 6 := Nat.pow_le_pow_right (by omega) hn
      have hst : Hid (jround (l.take 0) (jset l s k) = jset l s k) := rfl
      have hBH := Lib.hid hB
      clear hB
      go_wp2_with fail
      go_loopw [21, 7] (fun t v wr => ∃ m : Nat, m ≤ l.length ∧ t = .int .i64 m ∧ v = .int .u32 (jround (l.take m) (jset l s k) : Nat) ∧ JnRel w wr) (fun t _ _ => l.length - (intOf t).toNat)
      case atStart => exact ⟨0, Nat.zero_le _, rfl, by rw [hst.out], hBH.out⟩
      case round =>
        clear hBH
        obtain ⟨m, hm, rfl, rfl, hB⟩ := hrel
        unfold JnRel at hB
        rename World => wr
        by_cases hml : m < l.length
        · obtain ⟨b, off, rfl, hb, c3, c4⟩ := (hEH.out.below hB).at_ hml
          have hmI : (m : Int) < (l.length : Int) := by omega
          have hx := hL (lat l m) (lat_mem l hml)
          obtain ⟨x, hxe⟩ : ∃ x : Nat, (lat l m).a = (x : Int) := ⟨(lat l m).a.toNat, by omega⟩
          obtain ⟨y, hye⟩ : ∃ y : Nat, (lat l m).b = (y : Int) := ⟨(lat l m).b.toNat, by omega⟩
          have hnx : Hid (jround (l.take (m + 1)) (jset l s k) = if ((jround (l.take m) (jset l s k)).testBit x || (jround (l.take m) (jset l s k)).testBit y) = true then jround (l.take m) (jset l s k) ||| 2 ^ x ||| 2 ^ y else jround (l.take m) (jset l s k)) := by
            unfold Hid
            rw [jround_succ _ hml, ← jnW_two _ x y _ _ hxe hye]
          rw [hxe] at c3 hx
          rw [hye] at c4 hx
          have hx32 : x < 32 := by omega
          have hy32 : y < 32 := by omega
          have hW := hWlt.out m
          generalize jround (l.take m) (jset l s k) = W at *
          generalize hG : jround (l.take (m + 1)) (jset l s k) = G at *
          have hGH := Lib.hid hG
          have hB1 := Lib.hid (hB.alloc hB.size (.cells #[.int .i64 (x : Int), .int .i64 (y : Int)] 38))
          have hR1 := Row.made wr 38 [.int .i64 (x : Int), .int .i64 (y : Int)]
          have d0 := hR1.cell (i := 0) (by simp)
          have d1 := hR1.cell (i := 1) (by simp)
          simp only [List.getElem_cons_zero, List.getElem_cons_succ] at d0 d1
          have hW1 : W ||| 2 ^ x < 4294967296 := by
            have : W ||| 2 ^ x < 2 ^ 32 := Nat.or_lt_two_pow (by omega) (Nat.pow_lt_pow_right (by omega) hx32)
            omega
          have s1 := set_val W x (by omega) hx32
          have s2 := set_val (W ||| 2 ^ x) y hW1 hy32
          have b1 := Lib.hid (fun w => bit_any W x w (by omega) hx32)
          have b2 := Lib.hid (fun w => bit_any W y w (by omega) hy32)
          clear hB hR1 hxe hye hG
          generalize hV : W ||| 2 ^ x = V at *
          generalize hU : V ||| 2 ^ y = U at *
          cases hb1 : W.testBit x with
          | true =>
            have hfin : Hid (U = G) := by unfold Hid; rw [hnx.out, hb1]; rfl
            rw [hb1] at b1
            clear hnx hV hU hb1 hW1
            go_wp2_with fail
            refine (b1.out _).mono ?_
            rintro e w2 ⟨rfl, rfl⟩
            go_wp2_with fail
            go_roundw
            case rel => exact ⟨m + 1, by omega, by go_num, by rw [hGH.out, hfin.out], hB1.out⟩
            case measure => simp [intOf]; omega
          | false =>
            rw [hb1] at b1
            cases hb2 : W.testBit y with
            | true =>
              have hfin : Hid (U = G) := by unfold Hid; rw [hnx.out, hb1, hb2]; rfl
              rw [hb2] at b2
              clear hnx hV hU hb1 hb2 hW1
              go_wp2_with fail
              refine (b1.out _).mono ?_
              rintro e w2 ⟨rfl, rfl⟩
              go_wp2_with fail
              refine (b2.out _).mono ?_
              rintro e w2 ⟨rfl, rfl⟩
              go_wp2_with fail
              go_roundw
              case rel => exact ⟨m + 1, by omega, by go_num, by rw [hGH.out, hfin.out], hB1.out⟩
              case measure => simp [intOf]; omega
            | false =>
              have hfin : Hid (W = G) := by unfold Hid; rw [hnx.out, hb1, hb2]; rfl
              rw [hb2] at b2
              clear hnx hV hU hb1 hb2 hW1 s1 s2
              go_wp2_with fail
              refine (b1.out _).mono ?_
              rintro e w2 ⟨rfl, rfl⟩
              go_wp2_with fail
              refine (b2.out _).mono ?_
              rintro e w2 ⟨rfl, rfl⟩
              go_wp2_with fail
              go_roundw
              case rel => exact ⟨m + 1, by omega, by go_num, by rw [hGH.out, hfin.out], hB1.out⟩
              case measure => simp [intOf]; omega
        · have hml' : m = l.length := by omega
          subst hml'
          rw [← hstep.out]
          have hBH := Lib.hid hB
          clear hB
          go_wp2_with fail
          go_roundw
          case rel => exact ⟨k + 1, by omega, by go_num, rfl, hBH.out⟩
          case measure => simp [intOf]; omega
    · have hkn : k = n := by omega
      subst hkn
      have hBH := Lib.hid hB
      clear hB
      go_wp2_with fail
      go_ret
      exact ⟨rfl, hBH.out⟩
#print axioms joined_any
end Go.Proofs.Ytjmkmfeibempjaa
