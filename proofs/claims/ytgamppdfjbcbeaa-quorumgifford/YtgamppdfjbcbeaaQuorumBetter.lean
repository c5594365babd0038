/-
  The walk of the law beaconrykeep.QuorumBetter.
-/
import Derived.Test.YtgamppdfjbcbeaaUbt
import Derived.Test.YtgamppdfjbcbeaaUrg
namespace Go.Proofs.Ytgamppdfjbcbeaa
open Go.RowKit Go.Maps
set_option linter.unusedVariables false

theorem OkS.fits {N : Nat} {l : List Nat} (h : OkS N l) : WFits l := by
  intro i
  have h64 := Nat.pow_le_pow_right (n := 2) (by omega) h.six
  rcases Nat.lt_or_ge i l.length with hi | hi
  · have := h.at_ hi
    omega
  · rw [wat_out _ hi]; decide
theorem OkS.cot {N : Nat} {l : List Nat} (h : OkS N l) (hl : l.length ≤ 20) (hc : Cot l) : cotCode (N : Int) l = 0 := cotCode_ok (h.code hl) hc
theorem BetOk.start {N : Nat} {l : List Nat} (h : OkS N l) (hc : Cot l) : BetOk N 0 l := ⟨h, hc, .inr (Nat.zero_le _)⟩
/-- How far the making better has come. -/
def BvRel (N : Nat) (w : World) (k : Nat) (v : Value) (y : Int) (wr : World) : Prop := ((y = 0 ∧ ∃ r, OwnW wr w.heap.size v r ∧ BetOk N (k + 1) r ∧ r.length ≤ 20) ∨ y = 1) ∧ Below w.heap.size w wr
theorem BvRel.of {N : Nat} {w wr w' : World} {k : Nat} {v : Value} {x : Int} {l : List Nat} {u : Nat} (hb : BetOk N k l) (hB : Below w.heap.size w wr) (hu : UndRes N l u) (h : (x = 0 ∧ OwnW w' wr.heap.size v (betL l u) ∧ (betL l u).length ≤ 20) ∨ (x = 1 ∧ v = .slice none 0 0 ∧ 20 < (betL l u).length)) (hB2 : Below wr.heap.size wr w') : BvRel N w k v x w' := by
  refine ⟨?_, hB.trans (hB2.mono hB.size)⟩
  rcases h with ⟨h1, h2, h3⟩ | ⟨h1, h2, h3⟩
  · exact .inl ⟨h1, _, h2.less hB.size, hb.next hu, h3⟩
  · exact .inr h1
set_option maxHeartbeats 3200000 in
theorem quorumBetter_law (w : World) (n : Int) (_hn : I64 n) (A : Option Addr) (cap : Nat) (l : List Nat) (hE : Wds w w.heap.size A l) (hF : WFits l) (hc : l.length ≤ cap) (hl : l.length ≤ maxLen) (hs : l.length ≤ 35184372088832) :
    Calls Try.prog 9 #[.int .i64 n, .slice A l.length cap] w fun e w' => e = .returned (.bool true) ∧ Below w.heap.size w w' := by
  by_cases h4 : 4 < n
  · clear hE
    go_enter Try.func9, Try.ntmps9
    go_wp2_with fail
    go_ret
    exact ⟨rfl, Below.refl _ _⟩
  have h4' : n ≤ 4 := by omega
  by_cases h0 : cotCode n l = 0
  · obtain ⟨hn, hlen, hok⟩ := setsCode_zero (cotCode_zero h0).1
    have hb := Lib.hid (better_ok cap n A l w hE hF hl hc h0)
    have hm : Hid (∀ (w1 : World), Below w.heap.size w w1 → Calls Try.prog 24 #[.int .i64 n, .slice A l.length cap] w1 fun e w' => e = .returned (.bool true) ∧ Below w1.heap.size w1 w') := fun w1 hB => met_any cap n A l w1 ((hE.below hB).more hB.size) hF hl true ⟨fun _ => h0, fun _ => rfl⟩
    have hst := Lib.hid (BetOk.start hok (cotCode_zero h0).2)
    have hnext : Hid (∀ (wr : World) (r : List Nat) (A2 : Option Addr) (cap2 k : Nat), Wds wr wr.heap.size A2 r → r.length ≤ cap2 → r.length ≤ 20 → BetOk n.toNat k r → Calls Try.prog 20 #[.int .i64 n, .slice A2 r.length cap2] wr (BetRes n.toNat wr r)) := fun wr r A2 cap2 k hW hc hr hB => by
      have h1 := hB.1
      have h2 := h1.cot hr hB.2.1
      rw [← hn] at h2
      exact better_ok cap2 n A2 r wr hW h1.fits (by unfold maxLen; omega) hc h2
    have hfull : Hid (∀ (wr : World) (r : List Nat) (A2 : Option Addr) (cap2 : Nat), Wds wr wr.heap.size A2 r → r.length ≤ cap2 → r.length ≤ 20 → BetOk n.toNat (16 + 1) r → Calls Try.prog 17 #[.int .i64 n, .slice A2 r.length cap2] wr (TwoRes wr true 0) ∧ 0 < r.length) := fun wr r A2 cap2 hW hc hr hB => by
      have h1 := hB.1
      have h2 := h1.cot hr hB.2.1
      rw [← hn] at h2
      have hp := Nat.pow_le_pow_right (n := 2) (by omega) (show n.toNat ≤ 4 by omega)
      have hf := hB.done (by omega)
      have := full_any cap2 n A2 r wr hW h1.fits (by unfold maxLen; omega) hc true ⟨fun _ => ⟨h2, hf⟩, fun _ => rfl⟩
      rw [h2] at this
      exact ⟨this, full_some h1 hf⟩
    unfold BetRes at hb hnext
    unfold TwoRes at hfull
    have hlen20 := Lib.hid hlen
    clear hE h0 hok hlen hc hl hs
    generalize n.toNat = N at *
    clear hn
    go_enter Try.func9, Try.ntmps9
    go_wp2_with fail
    refine hb.out.mono ?_
    rintro e w1 ⟨u, v, x, rfl, hu, hv, hB1⟩
    have hV1 := Lib.hid (BvRel.of hst.out (Below.refl _ _) hu hv hB1)
    have hm' := Lib.hid (hm.out w1 hB1)
    clear hb hm hu hv hB1 hst
    go_wp2_with fail
    refine hm'.out.mono ?_
    rintro e w2 ⟨rfl, hB2⟩
    have hV2 : Hid (BvRel N w 0 v x w2) := by
      obtain ⟨h1, h2⟩ := hV1.out
      refine ⟨?_, h2.trans (hB2.mono h2.size)⟩
      rcases h1 with ⟨h1, r, h3, h4⟩ | h1
      · exact .inl ⟨h1, r, h3.below hB2, h4⟩
      · exact .inr h1
    clear hm' hV1 hB2
    go_wp2_with fail
    go_loopw [7, 5, 6] (fun t v x wr => ∃ (k : Nat) (y : Int), k ≤ 16 ∧ t = .int .i64 k ∧ x = .int .i64 y ∧ BvRel N w k v y wr) (fun t _ _ _ => 16 - (intOf t).toNat)
    case atStart => exact ⟨0, x, by omega, rfl, rfl, hV2.out⟩
    case round =>
      obtain ⟨k, y, hk, rfl, rfl, hV⟩ := hrel
      rename World => wr
      obtain ⟨hcase, hB⟩ := hV
      have hBH := Lib.hid hB
      rcases hcase with ⟨rfl, r, hO, hbr, hr20⟩ | rfl
      · obtain ⟨A2, cap2, rfl, hc1, hc2, hW⟩ := hO.words
        by_cases hlt : k < 16
        · have hkI : (k : Int) < 16 := by omega
          have hnx := Lib.hid (hnext.out wr r A2 cap2 (k + 1) hW hc1 hr20 hbr)
          have hbH := Lib.hid hbr
          clear hnext hfull hO hW hbr hB
          go_wp2_with fail
          refine hnx.out.mono ?_
          rintro e w3 ⟨u3, v3, x3, rfl, hu3, hv3, hB3⟩
          have hV3 := Lib.hid (BvRel.of hbH.out hBH.out hu3 hv3 hB3)
          clear hu3 hv3 hB3
          go_wp2_with fail
          go_roundw
          case rel => exact ⟨k + 1, x3, by omega, by go_num, rfl, hV3.out⟩
          case measure => simp [intOf]; omega
        · have hk16 : k = 16 := by omega
          subst hk16
          obtain ⟨hf, hr0⟩ := hfull.out wr r A2 cap2 hW hc1 hr20 hbr
          have hfH := Lib.hid hf
          have hr0I : 0 < (r.length : Int) := by omega
          clear hnext hfull hO hW hbr hB hf
          go_wp2_with fail
          refine hfH.out.mono ?_
          rintro e w3 ⟨rfl, hB3⟩
          go_wp2_with fail
          go_ret
          exact ⟨rfl, hBH.out.trans (hB3.mono hBH.out.size)⟩
      · clear hnext hfull
        by_cases hlt : k < 16
        · have hkI : (k : Int) < 16 := by omega
          go_wp2_with fail
          go_ret
          exact ⟨rfl, hB⟩
        · have hkI : ¬ (k : Int) < 16 := by omega
          go_wp2_with fail
          go_ret
          exact ⟨rfl, hB⟩
  · have hb := Lib.hid (better_no cap n A l w hE hF hl hc h0)
    have hm : Hid (∀ (w1 : World), Below w.heap.size w w1 → Calls Try.prog 24 #[.int .i64 n, .slice A l.length cap] w1 fun e w' => e = .returned (.bool false) ∧ Below w1.heap.size w1 w') := fun w1 hB => met_any cap n A l w1 ((hE.below hB).more hB.size) hF hl false ⟨(nomatch ·), fun h => absurd h h0⟩
    generalize cotCode n l = x at *
    have hx0 : (x != 0) = true := by simpa using h0
    clear hE
    go_enter Try.func9, Try.ntmps9
    go_wp2_with fail
    refine hb.out.mono ?_
    rintro e w1 ⟨rfl, hB1⟩
    have hm' := Lib.hid (hm.out w1 hB1)
    have hBH := Lib.hid hB1
    clear hb hm hB1
    go_wp2_with fail
    refine hm'.out.mono ?_
    rintro e w2 ⟨rfl, hB2⟩
    go_wp2_with fail
    go_ret
    exact ⟨by simp, hBH.out.trans (hB2.mono hBH.out.size)⟩
#print axioms quorumBetter_law
end Go.Proofs.Ytgamppdfjbcbeaa
