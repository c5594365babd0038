/-
  The contracts of ring.start, (*election).round of package ring.
-/
import Derived.Test.YtcmfpnghejapbaaEsd
import Derived.Maps.OwnOps
import Derived.Deep.LoopGhost
namespace Go.Proofs.Ytcmfpnghejapbaa
open Go.RowKit Go.Maps

theorem rs0_none {l : List Int} {b : Nat → Bool} {k : Nat} (h : b k = false) : rs0To l b (k + 1) = rs0To l b k := by
  have ho : out0 l b k = none := by unfold out0; rw [h]; rfl
  unfold rs0To
  rw [sentTo_none h, trTo_none ho, cnt_none ho]
theorem rs0_some {l : List Int} {b : Nat → Bool} {k : Nat} (hk : k < l.length) (h : b k = true) : rs0To l b (k + 1) = ⟨updB (rs0To l b k).sent k true, updO (rs0To l b k).tr ((k + 1) % l.length) (vat l k), (rs0To l b k).ms + 1⟩ := by
  have ho : out0 l b k = some (vat l k) := by unfold out0; rw [if_pos h]
  unfold rs0To
  rw [sentTo_some h, trTo_some hk ho, cnt_some ho]
theorem rs0_zero (l : List Int) (b : Nat → Bool) : rs0To l b 0 = ⟨fun _ => false, fun _ => none, 0⟩ := by
  unfold rs0To sentTo trTo
  simp [cnt]
theorem rs0_ms (l : List Int) (b : Nat → Bool) (k : Nat) : (rs0To l b k).ms ≤ k := cnt_le _ _
theorem rsTo_ms (l : List Int) (S : RS) (k : Nat) : (rsTo l S k).ms ≤ S.ms + k := Nat.add_le_add_left (cnt_le _ _) _
theorem rsTo_zero (l : List Int) (S : RS) : rsTo l S 0 = ⟨S.sent, fun _ => none, S.ms⟩ := by
  unfold rsTo sentTo trTo
  simp [cnt]
theorem rsTo_none {l : List Int} {S : RS} {k : Nat} (h : outS l S k = none) (h2 : ownS l S k = false) : rsTo l S (k + 1) = rsTo l S k := by
  unfold rsTo
  rw [sentTo_none h2, trTo_none h, cnt_none h]
theorem rsTo_pass {l : List Int} {S : RS} {k : Nat} (hk : k < l.length) {x : Int} (h : outS l S k = some x) (h2 : ownS l S k = false) : rsTo l S (k + 1) = ⟨(rsTo l S k).sent, updO (rsTo l S k).tr ((k + 1) % l.length) x, (rsTo l S k).ms + 1⟩ := by
  unfold rsTo
  rw [sentTo_none h2, trTo_some hk h, cnt_some h]
  rfl
theorem rsTo_own {l : List Int} {S : RS} {k : Nat} (hk : k < l.length) {x : Int} (h : outS l S k = some x) (h2 : ownS l S k = true) : rsTo l S (k + 1) = ⟨updB (rsTo l S k).sent k true, updO (rsTo l S k).tr ((k + 1) % l.length) x, (rsTo l S k).ms + 1⟩ := by
  unfold rsTo
  rw [sentTo_some h2, trTo_some hk h, cnt_some h]
  rfl

def StRel (w : World) (A : Option Addr) (cap : Nat) (l : List Int) (b : Nat → Bool) (E S M k : Nat) (wr : World) : Prop :=
  Elec wr w.heap.size E S M k l.length A cap (rs0To l b k) ∧ Below w.heap.size w wr

set_option maxHeartbeats 1600000 in
theorem start_any (w : World) (A : Option Addr) (cap : Nat) (l : List Int) (hN : Nums w w.heap.size A l) (hF : NumFits l) (hR : Rng l) (Ab : Option Addr) (capb : Nat) (bl : List Bool) (hbl : bl.length = l.length) (hb : Bits w w.heap.size Ab bl) :
    Calls Try.prog 22 #[.slice A l.length cap, .slice Ab bl.length capb] w fun e w' => ∃ E S M, e = .returned (.pointer (some ⟨E, 0, none⟩)) ∧ Elec w' w.heap.size E S M 12 l.length A cap (sim l (bat bl) 0) ∧ Below w.heap.size w w' := by
  have hn := hR.len
  rw [hbl]
  obtain ⟨i0, hi0, hz0, hz1, hz2⟩ := info_parts infoBool
  have hJi := Lib.hid hi0; have hJz := Lib.hid hz0; have hJs := Lib.hid hz1; have hJb := Lib.hid hz2
  have hNH := Lib.hid hN
  have hbH := Lib.hid hb
  clear hi0 hz0 hz1 hz2 hN hb
  have hmm := @run_makeMap Try.prog
  go_enter Try.func22, Try.ntmps22
  go_wp2_with (at_make; refine wpList_make_row w rfl (.tmp 10) (.tmp 10) 23 rfl 4 i0 (.bool false) Try.underlying23 hJi.out hJz.out hJs.out rfl .i64 .i64 _ _ l.length rfl rfl rfl rfl (by rw [hJb.out]; omega) (by unfold maxLen; omega) ?_; intro w1 hS1 hg1)
  have hini : StRel w A cap l (bat bl) (w1.heap.size + 1) w.heap.size w1.heap.size 0 ((w1.alloc (.map #[] 0)).alloc (.cells #[.slice A l.length cap, .slice (some ⟨w.heap.size, 0, none⟩) l.length l.length, .map (some w1.heap.size), .int .i64 0] 48)) := by
    have hz : w.heap.size ≤ w1.heap.size := hg1.size
    refine ⟨?_, ?_⟩
    · rw [rs0_zero]
      rw [boolRow_zero] at hS1
      refine ⟨?_, (hS1.alloc _).alloc _, (MapZ.made w1).alloc _, by omega, Nat.le_refl _, hz⟩
      have := Row.made (w1.alloc (.map #[] 0)) 48 [.slice A l.length cap, .slice (some ⟨w.heap.size, 0, none⟩) l.length l.length, .map (some w1.heap.size), .int .i64 0]
      rw [show (w1.alloc (.map #[] 0)).heap.size = w1.heap.size + 1 by simp] at this
      exact this
    · exact Below.alloc (Below.alloc ((Below.refl _ w).grown hg1 (Nat.le_refl _) (fun k hk => by cases hk)) hz _) (by simp; omega) _
  have hiniH := Lib.hid hini
  clear hini hS1 hg1 hmm
  generalize ((w1.alloc (.map #[] 0)).alloc (.cells #[.slice A l.length cap, .slice (some ⟨w.heap.size, 0, none⟩) l.length l.length, .map (some w1.heap.size), .int .i64 0] 48)) = w2 at *
  generalize w1.heap.size + 1 = E at *
  generalize w1.heap.size = M at *
  obtain ⟨S, hSS⟩ : ∃ S, Hid (S = w.heap.size) := ⟨_, rfl⟩
  rw [← hSS.out] at hiniH ⊢
  go_loopw [17] (fun i wr => ∃ k : Nat, k ≤ l.length ∧ i = .int .i64 k ∧ StRel w A cap l (bat bl) E S M k wr) (fun i _ => l.length - (intOf i).toNat)
  case atStart => exact ⟨0, Nat.zero_le _, rfl, hiniH.out⟩
  case round =>
    obtain ⟨k, hk, rfl, hEl, hB⟩ := hrel
    by_cases hlt : k < l.length
    · obtain ⟨ba, off, rfl, hba, hcells⟩ := (hbH.out.below hB) (by omega)
      have c0 := hcells k (by omega)
      have hkI : (k : Int) < (l.length : Int) := by omega
      clear hcells
      cases hbk : bat bl k with
      | true =>
        rw [hbk] at c0
        have hms := rs0_ms l (bat bl) k
        have hcall := Lib.hid (sendOwn_any wr w.heap.size E S M k A cap l _ hEl (hNH.out.below hB) hF k hlt (by omega) (by omega) (by omega))
        have he := Lib.hid (rs0_some hlt hbk)
        clear hEl hms hbk
        have hBH := Lib.hid hB
        clear hB
        go_wp2_with fail
        refine hcall.out.mono ?_
        rintro e w3 ⟨rfl, hE3, hK3⟩
        go_wp2_with fail
        go_roundw
        case rel => exact ⟨k + 1, by omega, by go_num, by rw [he.out]; exact hE3, hBH.out.trans hK3.low⟩
        case measure => simp [intOf]; omega
      | false =>
        rw [hbk] at c0
        have he := Lib.hid (rs0_none (l := l) hbk)
        have hElH := Lib.hid hEl
        have hBH := Lib.hid hB
        clear hbk hB hEl
        go_wp2_with fail
        go_roundw
        case rel => exact ⟨k + 1, by omega, by go_num, by rw [he.out]; exact hElH.out.mono (Nat.le_succ _), hBH.out⟩
        case measure => simp [intOf]; omega
    · have hkl : k = l.length := by omega
      subst hkl
      have hfin : Hid (Elec wr w.heap.size E S M 12 l.length A cap (sim l (bat bl) 0)) := hEl.mono (by omega)
      have hBH := Lib.hid hB
      clear hB hEl
      go_wp2_with fail
      go_ret
      exact ⟨E, S, M, rfl, hfin.out, hBH.out⟩
#print axioms start_any
end Go.Proofs.Ytcmfpnghejapbaa
