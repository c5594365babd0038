/-
  The walk of the law beaconrykeep.QuorumGifford.
-/
import Derived.Test.YtgamppdfjbcbeaaUvm
import Derived.Test.YtgamppdfjbcbeaaUvr
import Derived.Test.YtgamppdfjbcbeaaQuorumBetter
namespace Go.Proofs.Ytgamppdfjbcbeaa
open Go.RowKit Go.Maps
set_option linter.unusedVariables false

theorem most_le {v : List Int} {m : Int} (h : Vot v m) (h0 : 0 < (votL v m).length) : m ≤ 600 := by
  have h1 := (minL_mem.1 (wat_mem h0)).2
  rw [lstB_iff] at h1
  have h2 := h1.1
  rw [enoB_iff] at h2
  have h3 := sumV_range h.ok (wat (minL (enoB v m) (2 ^ v.length)) 0) (Nat.le_refl v.length)
  have h6 := h.six
  unfold totV at h2
  omega
def GfRel (w : World) (wr : World) : Prop := w = wr
set_option maxHeartbeats 1600000 in
theorem gifford_no (w : World) (A : Option Addr) (cap : Nat) (v : List Int) (hq : Nums w w.heap.size A v) (hl : v.length ≤ maxLen) (m : Int) (h0 : votCode v m ≠ 0) :
    Calls Try.prog 11 #[.slice A v.length cap, .int .i64 m] w fun e w' => e = .returned (.bool true) ∧ Below w.heap.size w w' := by
  have h1 := Lib.hid (votes_any cap m A v w hq hl)
  unfold VotRes at h1
  generalize votCode v m = x at *
  have hx0 : (x != 0) = true := by simpa using h0
  clear hq
  go_enter Try.func11, Try.ntmps11
  go_wp2_with fail
  refine h1.out.mono ?_
  rintro e w1 ⟨a, rfl, hcase, hB1⟩
  have ha : a = .slice none 0 0 := by
    rcases hcase with ⟨h, _⟩ | ⟨_, h⟩
    · exact absurd h h0
    · exact h
  subst ha
  clear hcase h1
  go_wp2_with fail
  go_ret
  exact ⟨rfl, hB1⟩

set_option maxHeartbeats 6400000 in
theorem quorumGifford_law (w : World) (A : Option Addr) (cap : Nat) (v : List Int) (hE : Nums w w.heap.size A v) (hF : NumFits v) (hc : v.length ≤ cap) (hl : v.length ≤ maxLen) (hs : v.length ≤ 17592186044416) (m : Int) (_hm : I64 m) :
    Calls Try.prog 11 #[.slice A v.length cap, .int .i64 m] w fun e w' => e = .returned (.bool true) ∧ Below w.heap.size w w' := by
  by_cases h0 : votCode v m = 0
  rotate_left
  · exact gifford_no w A cap v hE hl m h0
  obtain ⟨hv0, hL0⟩ := votCode_zero h0
  have hV := vCode_zero hv0
  have hv := Lib.hid (votes_any cap m A v w hE hl)
  have hm1 := hV.most
  have hm6 := most_le hV hL0
  have h1 := hV.one
  have h6 := hV.six
  have hLok := votL_ok hV
  have hcot : Hid (allV v v.length < 2 * m → Cot (votL v m)) := votL_cot hV
  have hful : Hid (2 * m = allV v v.length + 1 → FullP v.length (votL v m)) := votL_full hV
  have hrg : Hid (∀ k : Nat, k ≤ v.length → 0 ≤ allV v k ∧ allV v k ≤ 100 * (k : Int)) := fun k hk => allV_range hV.ok hk
  have hvr : Hid (∀ k : Nat, k < v.length → 0 ≤ vat v k ∧ vat v k ≤ 100) := fun k hk => hV.ok k hk
  have hnx : Hid (∀ k : Nat, allV v (k + 1) = allV v k + vat v k) := fun k => rfl
  have hqH := Lib.hid hE
  unfold VotRes at hv
  rw [h0] at hv
  have hmeet : Hid (∀ (w1 : World) (A2 : Option Addr) (cap2 : Nat), Wds w1 w1.heap.size A2 (votL v m) → (votL v m).length ≤ cap2 → (votL v m).length ≤ 20 → Cot (votL v m) → Calls Try.prog 12 #[.int .i64 (v.length : Int), .slice A2 (votL v m).length cap2] w1 (TwoRes w1 true 0)) := fun w1 A2 cap2 hW hc2 h20 hC => by
    have h2 := hLok.code h20
    have := meet_any cap2 (v.length : Int) A2 (votL v m) w1 hW hLok.fits (by unfold maxLen; omega) hc2 true ⟨fun _ => ⟨h2, hC⟩, fun _ => rfl⟩
    rw [h2] at this
    exact this
  have hfull : Hid (∀ (w1 : World) (A2 : Option Addr) (cap2 : Nat), Wds w1 w1.heap.size A2 (votL v m) → (votL v m).length ≤ cap2 → (votL v m).length ≤ 20 → Cot (votL v m) → ∃ C : Bool, (FullP v.length (votL v m) → C = true) ∧ Calls Try.prog 17 #[.int .i64 (v.length : Int), .slice A2 (votL v m).length cap2] w1 (TwoRes w1 C 0)) := fun w1 A2 cap2 hW hc2 h20 hC => by
    have h2 := hLok.cot h20 hC
    obtain ⟨C, hCC⟩ : ∃ C : Bool, C = true ↔ FullP v.length (votL v m) := by
      by_cases h : FullP v.length (votL v m)
      · exact ⟨true, fun _ => h, fun _ => rfl⟩
      · exact ⟨false, (nomatch ·), fun h' => absurd h' h⟩
    have := full_any cap2 (v.length : Int) A2 (votL v m) w1 hW hLok.fits (by unfold maxLen; omega) hc2 C (by rw [hCC, Int.toNat_natCast]; exact ⟨fun h => ⟨h2, h⟩, fun h => h.2⟩)
    rw [h2] at this
    exact ⟨C, hCC.2, this⟩
  have hn1 : ¬ (v.length : Int) < 1 := by omega
  have hn6 : ¬ 6 < (v.length : Int) := by omega
  unfold TwoRes at hmeet hfull
  have hm1H := Lib.hid hm1
  clear hE h0 hv0 hV hLok
  generalize votL v m = L at *
  go_enter Try.func11, Try.ntmps11
  go_wp2_with fail
  refine hv.out.mono ?_
  rintro e w1 ⟨a, rfl, hcase, hB1⟩
  have hO : OwnW w1 w.heap.size a L := by
    rcases hcase with ⟨_, h⟩ | ⟨h, _⟩
    · exact h
    · exact absurd rfl h
  obtain ⟨A1, cap1, rfl, hc1, hc2, hW⟩ := hO.words
  have hWH := Lib.hid hW
  have hB1H := Lib.hid hB1
  have hq1 := Lib.hid (hqH.out.below hB1)
  have hLI : ((L.length : Int) == 0) = false := by simp; intro h; rw [h] at hL0; exact absurd hL0 (by decide)
  clear hcase hv hO hW hB1 hqH
  go_wp2_with fail
  go_loopw [40, 8] (fun i t wr => ∃ k : Nat, k ≤ v.length ∧ i = .int .i64 k ∧ t = .int .i64 (allV v k) ∧ GfRel w1 wr) (fun i _ _ => v.length - (intOf i).toNat)
  case atStart => exact ⟨0, Nat.zero_le _, rfl, rfl, rfl⟩
  case round =>
    obtain ⟨k, hk, rfl, rfl, hw⟩ := hrel
    unfold GfRel at hw
    subst hw
    by_cases hlt : k < v.length
    · obtain ⟨b, off, rfl, hb, c0⟩ := hq1.out.vote hlt
      have hkI : (k : Int) < (v.length : Int) := by omega
      have hnk := Lib.hid (hnx.out k)
      obtain ⟨r1, r2⟩ := hrg.out k hk
      obtain ⟨r3, r4⟩ := hvr.out k hlt
      clear hmeet hfull hcot hful hnx hrg hvr hWH hq1 hLI
      obtain ⟨x, hx⟩ : ∃ x, Hid (vat v k = x) := ⟨_, (rfl : vat v k = vat v k)⟩
      obtain ⟨S, hS⟩ : ∃ S, Hid (allV v k = S) := ⟨_, (rfl : allV v k = allV v k)⟩
      rw [hx.out] at c0 r3 r4 hnk
      rw [hS.out] at r1 r2 hnk ⊢
      go_wp2_with fail
      go_roundw
      case rel => exact ⟨k + 1, by omega, by go_num, by rw [hnk.out], rfl⟩
      case measure => simp [intOf]; omega
    · have hkl : k = v.length := by omega
      subst hkl
      obtain ⟨r1, r2⟩ := hrg.out v.length (Nat.le_refl _)
      clear hrg hvr hnx hq1
      generalize allV v v.length = S at *
      by_cases h2m : 2 * m ≤ S
      · clear hmeet hfull hcot hful hWH
        go_wp2_with fail
        go_ret
        exact ⟨rfl, hB1H.out⟩
      · have hC := Lib.hid (hcot.out (by omega))
        by_cases h20 : 20 < L.length
        · have h20I : 20 < (L.length : Int) := by omega
          clear hmeet hfull hcot hful hWH
          go_wp2_with fail
          go_ret
          exact ⟨rfl, hB1H.out⟩
        · have h20I : ¬ 20 < (L.length : Int) := by omega
          have hm' := Lib.hid (hmeet.out w1 A1 cap1 hWH.out hc1 (by omega) hC.out)
          have hf' : Hid (∀ w2 : World, Below w1.heap.size w1 w2 → ∃ C : Bool, (FullP v.length L → C = true) ∧ Calls Try.prog 17 #[.int .i64 (v.length : Int), .slice A1 L.length cap1] w2 fun e w' => e = .returned (.tuple #[.bool C, .int .i64 0]) ∧ Below w2.heap.size w2 w') := fun w2 hB => hfull.out w2 A1 cap1 ((hWH.out.below hB).more hB.size) hc1 (by omega) hC.out
          clear hmeet hfull hcot hWH
          go_wp2_with fail
          refine hm'.out.mono ?_
          rintro e w2 ⟨rfl, hB2⟩
          obtain ⟨C, hCf, hcall⟩ := hf'.out w2 hB2
          have hcH := Lib.hid hcall
          have hB2H := Lib.hid (hB1H.out.trans (hB2.mono hB1H.out.size))
          have hCfH := Lib.hid hCf
          clear hf' hm' hcall hCf hB2
          go_wp2_with fail
          refine hcH.out.mono ?_
          rintro e w3 ⟨rfl, hB3⟩
          have hB3H := Lib.hid (hB2H.out.trans (hB3.mono hB2H.out.size))
          clear hcH hB3 hB2H
          by_cases hev : S % 2 = 0
          · have e1 : (S % 2 == 0) = true := by rw [hev]; rfl
            have e2 : (S.tmod 2 == 0) = true := by rw [Int.tmod_eq_emod_of_nonneg r1]; exact e1
            clear hev hful hCfH
            go_wp2_with fail
            go_ret
            exact ⟨rfl, hB3H.out⟩
          · have e1 : (S % 2 == 0) = false := by simpa using hev
            have e2 : (S.tmod 2 == 0) = false := by rw [Int.tmod_eq_emod_of_nonneg r1]; exact e1
            by_cases h2s : 2 * m = S + 1
            · have hCt := Lib.hid (hCfH.out (hful.out h2s))
              obtain rfl := hCt.out
              have e3 : (2 * m != S + 1) = false := by simpa using h2s
              clear hev hful hCfH h2s
              go_wp2_with fail
              go_ret
              exact ⟨rfl, hB3H.out⟩
            · have e3 : (2 * m != S + 1) = true := by simpa using h2s
              clear hev hful hCfH h2s
              go_wp2_with fail
              go_ret
              exact ⟨rfl, hB3H.out⟩
#print axioms quorumGifford_law
end Go.Proofs.Ytgamppdfjbcbeaa
