/-
  The walk of the law beaconrylaw.QuorumVotes.
-/
import Derived.Test.YtgamppdfjbcbeaaUvm
import Derived.Test.YtgamppdfjbcbeaaUvr
import Derived.Test.YtgamppdfjbcbeaaUws
namespace Go.Proofs.Ytgamppdfjbcbeaa
open Go.RowKit Go.Maps
set_option linter.unusedVariables false

/-- What the law has found wrong in the first k votes. -/
def xS (v : List Int) : Nat → Int
  | 0 => 0
  | k + 1 => if xS v k = 0 ∧ badV (vat v k) = true then 4 else xS v k
theorem xS_two (v : List Int) (k : Nat) : xS v k = 0 ∨ xS v k = 4 := by
  induction k with
  | zero => exact .inl rfl
  | succ k ih =>
    rw [xS]
    split
    · exact .inr rfl
    · exact ih
theorem xS_four {v : List Int} {k : Nat} (h : xS v k = 4) : xS v (k + 1) = 4 := by
  rw [xS, if_neg (by omega), h]
theorem xS_bad {v : List Int} {k : Nat} (h : xS v k = 0) (hb : badV (vat v k) = true) : xS v (k + 1) = 4 := by
  rw [xS, if_pos ⟨h, hb⟩]
theorem xS_good {v : List Int} {k : Nat} (h : xS v k = 0) (hb : badV (vat v k) = false) : xS v (k + 1) = 0 := by
  rw [xS, if_neg (by rw [hb]; rintro ⟨_, h⟩; cases h), h]
theorem xS_zero {v : List Int} {k : Nat} : xS v k = 0 ↔ ∀ j, j < k → badV (vat v j) = false := by
  induction k with
  | zero => exact ⟨fun _ _ h => absurd h (Nat.not_lt_zero _), fun _ => rfl⟩
  | succ k ih =>
    cases hb : badV (vat v k) with
    | true =>
      constructor
      · intro h
        rcases xS_two v k with h0 | h0
        · rw [xS_bad h0 hb] at h; omega
        · rw [xS_four h0] at h; omega
      · intro h
        rw [h k (by omega)] at hb
        cases hb
    | false =>
      constructor
      · intro h j hj
        rcases xS_two v k with h0 | h0
        · by_cases e : j = k
          · subst e; exact hb
          · exact ih.1 h0 j (by omega)
        · rw [xS_four h0] at h; omega
      · intro h
        exact xS_good (ih.2 fun j hj => h j (by omega)) hb
theorem xS_end (v : List Int) : xS v v.length = 0 ↔ ¬ badVs v := by
  rw [xS_zero]
  constructor
  · rintro h ⟨j, hj, e⟩
    rw [h j hj] at e
    cases e
  · intro h j hj
    cases hb : badV (vat v j) with
    | false => rfl
    | true => exact absurd ⟨j, hj, hb⟩ h

def VqRel (w : World) (wr : World) : Prop := w = wr
set_option maxHeartbeats 1600000 in
theorem votes_none (w : World) (A : Option Addr) (cap : Nat) (v : List Int) (hq : Nums w w.heap.size A v) (hl : v.length ≤ maxLen) (m : Int) (h0 : v.length < 1) :
    Calls Try.prog 7 #[.slice A v.length cap, .int .i64 m] w fun e w' => e = .returned (.bool true) ∧ Below w.heap.size w w' := by
  have h1 := Lib.hid (votes_any cap m A v w hq hl)
  have hx := vCode_large (m := m) (.inl h0 : v.length < 1 ∨ 6 < v.length)
  have hz := votCode_first (v := v) (m := m) (by omega)
  rw [hx] at hz
  have hlz : v.length = 0 := by omega
  unfold VotRes at h1
  rw [hz, hlz] at h1
  rw [hlz]
  clear hx hz hq h0 hlz hl
  go_enter Try.func7, Try.ntmps7
  go_wp2_with fail
  refine h1.out.mono ?_
  rintro e w1 ⟨a, rfl, hcase, hB1⟩
  have ha : a = .slice none 0 0 := by
    rcases hcase with ⟨h, _⟩ | ⟨_, h⟩
    · omega
    · exact h
  subst ha
  clear hcase h1
  go_wp2_with fail
  go_loopw [26, 7] (fun i x wr => i = .int .i64 0 ∧ x = .int .i64 1 ∧ VqRel w1 wr) (fun i _ _ => 1)
  case atStart => exact ⟨rfl, rfl, rfl⟩
  case round =>
    obtain ⟨rfl, rfl, hw⟩ := hrel
    unfold VqRel at hw
    subst hw
    go_wp2_with fail
    go_ret
    exact ⟨rfl, hB1⟩

set_option maxHeartbeats 1600000 in
theorem votes_many (w : World) (A : Option Addr) (cap : Nat) (v : List Int) (hq : Nums w w.heap.size A v) (hl : v.length ≤ maxLen) (hs : v.length ≤ 17592186044416) (m : Int) (h0 : 6 < v.length) :
    Calls Try.prog 7 #[.slice A v.length cap, .int .i64 m] w fun e w' => e = .returned (.bool true) ∧ Below w.heap.size w w' := by
  have h1 := Lib.hid (votes_any cap m A v w hq hl)
  have hx := vCode_large (m := m) (.inr h0 : v.length < 1 ∨ 6 < v.length)
  have hz := votCode_first (v := v) (m := m) (by omega)
  rw [hx] at hz
  have h0I : ¬ (v.length : Int) < 1 := by omega
  have h0J : 6 < (v.length : Int) := by omega
  have hqH := Lib.hid hq
  unfold VotRes at h1
  rw [hz] at h1
  clear hx hz hq
  go_enter Try.func7, Try.ntmps7
  go_wp2_with fail
  refine h1.out.mono ?_
  rintro e w1 ⟨a, rfl, hcase, hB1⟩
  have ha : a = .slice none 0 0 := by
    rcases hcase with ⟨h, _⟩ | ⟨_, h⟩
    · omega
    · exact h
  subst ha
  have hq1 := Lib.hid (hqH.out.below hB1)
  clear hcase h1 hqH
  go_wp2_with fail
  go_loopw [26, 7] (fun i x wr => ∃ k : Nat, k ≤ v.length ∧ i = .int .i64 k ∧ x = .int .i64 1 ∧ VqRel w1 wr) (fun i _ _ => v.length - (intOf i).toNat)
  case atStart => exact ⟨0, Nat.zero_le _, rfl, rfl, rfl⟩
  case round =>
    obtain ⟨k, hk, rfl, rfl, hw⟩ := hrel
    unfold VqRel at hw
    subst hw
    by_cases hlt : k < v.length
    · obtain ⟨b, off, rfl, hb, c0⟩ := hq1.out.vote hlt
      have hkI : (k : Int) < (v.length : Int) := by omega
      generalize vat v k = x at c0
      go_wp2_with fail
      go_roundw
      case rel => exact ⟨k + 1, by omega, by go_num, rfl, rfl⟩
      case measure => simp [intOf]; omega
    · have hkI : ¬ (k : Int) < (v.length : Int) := by omega
      go_wp2_with fail
      go_ret
      exact ⟨rfl, hB1⟩

set_option maxHeartbeats 6400000 in
theorem votes_few (w : World) (A : Option Addr) (cap : Nat) (v : List Int) (hq : Nums w w.heap.size A v) (hl : v.length ≤ maxLen) (m : Int) (h1 : 1 ≤ v.length) (h6 : v.length ≤ 6) :
    Calls Try.prog 7 #[.slice A v.length cap, .int .i64 m] w fun e w' => e = .returned (.bool true) ∧ Below w.heap.size w w' := by
  have hv := Lib.hid (votes_any cap m A v w hq hl)
  have hno : ¬ (v.length < 1 ∨ 6 < v.length) := by omega
  have href : Hid (∀ w1 : World, Below w.heap.size w w1 → ¬ badVs v → Calls Try.prog 23 #[.slice A v.length cap, .int .i64 m] w1 fun e w' => ∃ a, e = .returned a ∧ OwnW w' w1.heap.size a (votL v m) ∧ Below w1.heap.size w1 w') := fun w1 hB hok => refVotes_any cap m A v w1 ((hq.below hB).more hB.size) h6 (badVs_not hok)
  have hws : Hid (∀ (w1 : World) (A1 A2 : Option Addr) (c1 c2 : Nat), Wds w1 w1.heap.size A1 (votL v m) → Wds w1 w1.heap.size A2 (votL v m) → Calls Try.prog 21 #[.slice A1 (votL v m).length c1, .slice A2 (votL v m).length c2] w1 fun e w' => e = .returned (.bool true) ∧ Below w1.heap.size w1 w') := fun w1 A1 A2 c1 c2 h h' => words_same A1 A2 c1 c2 _ w1 h h' (by
    have k1 := minL_len (enoB v m) (2 ^ v.length)
    have k2 := Nat.pow_le_pow_right (n := 2) (by omega) h6
    unfold votL
    omega)
  have hz1 : Hid (badVs v → votCode v m = 4) := fun h => by
    have hx := vCode_range (m := m) hno (.inl h)
    rw [votCode_first (by omega), hx]
  have hz2 : Hid (m < 1 → votCode v m = 4) := fun h => by
    have hx := vCode_range (m := m) hno (.inr h : badVs v ∨ m < 1)
    rw [votCode_first (by omega), hx]
  have hz3 : Hid (¬ badVs v → ¬ m < 1 → (votL v m).length = 0 → votCode v m = 5) := fun h h' hz => votCode_none (vCode_ok hno (fun e => e.elim h h')) hz
  have hz4 : Hid (¬ badVs v → ¬ m < 1 → (votL v m).length ≠ 0 → votCode v m = 0) := fun h h' hz => votCode_ok (vCode_ok hno (fun e => e.elim h h')) hz
  have hend := Lib.hid (xS_end v)
  have htwo := Lib.hid (xS_two v)
  have hqH := Lib.hid hq
  have h1I : ¬ (v.length : Int) < 1 := by omega
  have h6I : ¬ 6 < (v.length : Int) := by omega
  unfold VotRes at hv
  obtain ⟨z, hz⟩ : ∃ z, Hid (votCode v m = z) := ⟨_, (rfl : votCode v m = votCode v m)⟩
  obtain ⟨L, hL⟩ : ∃ L, Hid (votL v m = L) := ⟨_, (rfl : votL v m = votL v m)⟩
  rw [hL.out] at hv href hws hz3 hz4
  rw [hz.out] at hv hz1 hz2 hz3 hz4
  clear hq hno hz hL h1 h6
  go_enter Try.func7, Try.ntmps7
  go_wp2_with fail
  refine hv.out.mono ?_
  rintro e w1 ⟨a, rfl, hcase, hB1⟩
  have hcaseH := Lib.hid hcase
  have hB1H := Lib.hid hB1
  have hq1 := Lib.hid (hqH.out.below hB1)
  clear hcase hv hqH hB1
  go_wp2_with fail
  go_loopw [26, 7] (fun i x wr => ∃ k : Nat, k ≤ v.length ∧ i = .int .i64 k ∧ x = .int .i64 (xS v k) ∧ VqRel w1 wr) (fun i _ _ => v.length - (intOf i).toNat)
  case atStart => exact ⟨0, Nat.zero_le _, rfl, rfl, rfl⟩
  case round =>
    obtain ⟨k, hk, rfl, rfl, hw⟩ := hrel
    unfold VqRel at hw
    subst hw
    by_cases hlt : k < v.length
    · obtain ⟨b, off, rfl, hb, c0⟩ := hq1.out.vote hlt
      have hkI : (k : Int) < (v.length : Int) := by omega
      have hn4 : Hid (xS v k = 4 → xS v (k + 1) = 4) := xS_four
      have hnb : Hid (xS v k = 0 → badV (vat v k) = true → xS v (k + 1) = 4) := xS_bad
      have hng : Hid (xS v k = 0 → badV (vat v k) = false → xS v (k + 1) = 0) := xS_good
      have htk := Lib.hid (htwo.out k)
      clear href hws hz1 hz2 hz3 hz4 hend htwo hq1 hcaseH
      obtain ⟨x, hx⟩ : ∃ x, Hid (vat v k = x) := ⟨_, (rfl : vat v k = vat v k)⟩
      obtain ⟨X, hX⟩ : ∃ X, Hid (xS v k = X) := ⟨_, (rfl : xS v k = xS v k)⟩
      rw [hx.out] at c0 hnb hng
      rw [hX.out] at hn4 hnb hng htk ⊢
      rcases htk.out with rfl | rfl
      · by_cases hx0 : x < 0
        · have hn := Lib.hid (hnb.out rfl ((badV_iff x).2 (.inl hx0)))
          clear hn4 hnb hng htk
          go_wp2_with fail
          go_roundw
          case rel => exact ⟨k + 1, by omega, by go_num, by rw [hn.out], rfl⟩
          case measure => simp [intOf]; omega
        · by_cases hx1 : 100 < x
          · have hn := Lib.hid (hnb.out rfl ((badV_iff x).2 (.inr hx1)))
            clear hn4 hnb hng htk
            go_wp2_with fail
            go_roundw
            case rel => exact ⟨k + 1, by omega, by go_num, by rw [hn.out], rfl⟩
            case measure => simp [intOf]; omega
          · have hn := Lib.hid (hng.out rfl (by rw [← Bool.not_eq_true, badV_iff]; omega))
            clear hn4 hnb hng htk
            go_wp2_with fail
            go_roundw
            case rel => exact ⟨k + 1, by omega, by go_num, by rw [hn.out], rfl⟩
            case measure => simp [intOf]; omega
      · have hn := Lib.hid (hn4.out rfl)
        clear hn4 hnb hng htk
        go_wp2_with fail
        go_roundw
        case rel => exact ⟨k + 1, by omega, by go_num, by rw [hn.out], rfl⟩
        case measure => simp [intOf]; omega
    · have hkI : ¬ (k : Int) < (v.length : Int) := by omega
      have hkl : k = v.length := by omega
      subst hkl
      by_cases hbad : badVs v
      · have hz := hz1.out hbad
        have hx : xS v v.length = 4 := by
          rcases htwo.out v.length with h | h
          · exact absurd hbad (hend.out.1 h)
          · exact h
        subst hz
        rw [hx]
        have ha : a = .slice none 0 0 := by
          rcases hcaseH.out with ⟨h, _⟩ | ⟨_, h⟩
          · omega
          · exact h
        subst ha
        clear href hws hz1 hz2 hz3 hz4 hend htwo hq1 hcaseH hx hbad
        go_wp2_with fail
        go_ret
        exact ⟨rfl, hB1H.out⟩
      · have hx : xS v v.length = 0 := hend.out.2 hbad
        rw [hx]
        by_cases hm : m < 1
        · have hz := hz2.out hm
          subst hz
          have ha : a = .slice none 0 0 := by
            rcases hcaseH.out with ⟨h, _⟩ | ⟨_, h⟩
            · omega
            · exact h
          subst ha
          clear href hws hz1 hz2 hz3 hz4 hend htwo hq1 hcaseH hx hbad
          go_wp2_with fail
          go_ret
          exact ⟨rfl, hB1H.out⟩
        · have hr1 : Hid (∀ w2 : World, Below w1.heap.size w1 w2 → Calls Try.prog 23 #[.slice A v.length cap, .int .i64 m] w2 fun e w' => ∃ a, e = .returned a ∧ OwnW w' w2.heap.size a L ∧ Below w2.heap.size w2 w') := fun w2 hB => href.out w2 (hB1H.out.trans (hB.mono hB1H.out.size)) hbad
          have hr2 := Lib.hid (hr1.out w1 (Below.refl _ _))
          by_cases hlz : L.length = 0
          · have hz := hz3.out hbad (by omega) hlz
            subst hz
            have ha : a = .slice none 0 0 := by
              rcases hcaseH.out with ⟨h, _⟩ | ⟨_, h⟩
              · omega
              · exact h
            subst ha
            have hlzI : ((L.length : Int) == 0) = true := by rw [hlz]; rfl
            clear href hws hz1 hz2 hz3 hz4 hend htwo hq1 hcaseH hx hbad hlz hr1
            go_wp2_with fail
            refine hr2.out.mono ?_
            rintro e w2 ⟨a2, rfl, hO2, hB2⟩
            obtain ⟨A2, cap2, rfl, hc1, hc2, _⟩ := hO2.words
            clear hr2 hO2
            go_wp2_with fail
            go_ret
            exact ⟨rfl, hB1H.out.trans (hB2.mono hB1H.out.size)⟩
          · have hz := hz4.out hbad (by omega) hlz
            subst hz
            have hO : OwnW w1 w.heap.size a L := by
              rcases hcaseH.out with ⟨_, h⟩ | ⟨h, _⟩
              · exact h
              · exact absurd rfl h
            obtain ⟨A1, cap1, rfl, hc1, hc2, hW1⟩ := hO.words
            have hW1H := Lib.hid hW1
            have hlzI : ((L.length : Int) == 0) = false := by simp; exact fun e => hlz (by rw [e]; rfl)
            clear href hz1 hz2 hz3 hz4 hend htwo hq1 hcaseH hx hbad hlz hO hW1
            go_wp2_with fail
            refine hr2.out.mono ?_
            rintro e w2 ⟨a2, rfl, hO2, hB2⟩
            obtain ⟨A2, cap2, rfl, hc3, hc4, _⟩ := hO2.words
            have hr3 := Lib.hid (hr1.out w2 hB2)
            have hB2H := Lib.hid hB2
            clear hr2 hr1 hO2 hB2
            go_wp2_with fail
            refine hr3.out.mono ?_
            rintro e w3 ⟨a3, rfl, hO3, hB3⟩
            obtain ⟨A3, cap3, rfl, hc5, hc6, hW3⟩ := hO3.words
            have hB3H := Lib.hid (hB2H.out.trans (hB3.mono hB2H.out.size))
            have hw := Lib.hid (hws.out w3 A1 A3 cap1 cap3 ((hW1H.out.below hB3H.out).more hB3H.out.size) hW3)
            clear hr3 hO3 hB3 hW3 hws hW1H hB2H
            go_wp2_with fail
            refine hw.out.mono ?_
            rintro e w4 ⟨rfl, hB4⟩
            go_wp2_with fail
            go_ret
            have hB13 := hB1H.out.trans (hB3H.out.mono hB1H.out.size)
            exact ⟨rfl, hB13.trans (hB4.mono hB13.size)⟩

theorem quorumVotes_law (w : World) (A : Option Addr) (cap : Nat) (v : List Int) (hE : Nums w w.heap.size A v) (hF : NumFits v) (hc : v.length ≤ cap) (hl : v.length ≤ maxLen) (hs : v.length ≤ 17592186044416) (m : Int) (_hm : I64 m) :
    Calls Try.prog 7 #[.slice A v.length cap, .int .i64 m] w fun e w' => e = .returned (.bool true) ∧ Below w.heap.size w w' := by
  by_cases h1 : v.length < 1
  · exact votes_none w A cap v hE hl m h1
  · by_cases h6 : 6 < v.length
    · exact votes_many w A cap v hE hl hs m h6
    · exact votes_few w A cap v hE hl m (by omega) (by omega)
#print axioms quorumVotes_law
end Go.Proofs.Ytgamppdfjbcbeaa
