/-
  The contract of (*election).round of package ring.
-/
import Derived.Test.YtcmfpnghejapbaaEst
namespace Go.Proofs.Ytcmfpnghejapbaa
open Go.RowKit Go.Maps

def RoRel (w : World) (B E S M0 M1 c : Nat) (A : Option Addr) (cap : Nat) (l : List Int) (R : RS) (k : Nat) (wr : World) : Prop :=
  Elec wr B E S M1 k l.length A cap (rsTo l R k) ∧ MapZ wr M0 c R.tr ∧ Below B w wr

set_option maxHeartbeats 3200000 in
theorem round_any (w : World) (B E S M c : Nat) (A : Option Addr) (cap : Nat) (l : List Int) (R : RS) (hE : Elec w B E S M c l.length A cap R) (hN : Nums w B A l) (hF : NumFits l) (hR : Rng l) (hT : ∀ p x, p < l.length → R.tr p = some x → I64 x) (hms : R.ms ≤ 900) :
    Calls Try.prog 24 #[.pointer (some ⟨E, 0, none⟩)] w fun e w' => e = .returned (.tuple #[]) ∧ (∃ M', Elec w' B E S M' 12 l.length A cap (rsTo l R l.length)) ∧ Below B w w' := by
  have hn := hR.len
  obtain ⟨s0, s1, s2, s3⟩ := hE.cells
  have hTH := Lib.hid hT
  have hNH := Lib.hid hN
  have hRH := Lib.hid hR
  have hap := hE.apart
  have hlt := hE.lts
  have hini : RoRel w B E S M w.heap.size c A cap l R 0 ((w.alloc (.map #[] 0)).setCell ⟨E, 2, none⟩ (.map (some w.heap.size))) := by
    have hBsz : B ≤ w.heap.size := by have := hE.lowE; omega
    refine ⟨?_, ?_, ?_⟩
    · rw [rsTo_zero]
      refine ⟨(hE.top.alloc _).set 2 _, Row.far (Row.alloc hE.sent _) (p := ⟨E, 2, none⟩) (fun e => hap.1 e.symm) _, (MapZ.made w).far (p := ⟨E, 2, none⟩) (by show w.heap.size ≠ E; omega) _, hE.lowE, hE.lowS, hBsz⟩
    · exact (hE.tr.alloc _).far (p := ⟨E, 2, none⟩) hap.2.1 _
    · exact Below.setCell (Below.alloc (Below.refl _ _) hBsz _) (p := ⟨E, 2, none⟩) hE.lowE _
  have hne : Hid (M ≠ E ∧ M ≠ S ∧ M ≠ w.heap.size) := ⟨hap.2.1, hap.2.2, by omega⟩
  have a2 := ((hE.top.alloc (.map #[] 0)).cell (i := 2) (by simp))
  have af := ((hE.top.alloc (.map #[] 0)).frozen 2)
  have b0 := hini.1.cells.1
  have hmm := @run_makeMap Try.prog
  have hiniH := Lib.hid hini
  clear hini hE hT hN hap hlt s1 s3 hR
  go_enter Try.func24, Try.ntmps24
  go_wp2_with fail
  clear hmm a2 af s2 s0
  generalize ((w.alloc (.map #[] 0)).setCell ⟨E, 2, none⟩ (.map (some w.heap.size))) = w1 at *
  generalize w.heap.size = M1 at *
  go_loopw [20] (fun i wr => ∃ k : Nat, k ≤ l.length ∧ i = .int .i64 k ∧ RoRel w B E S M M1 c A cap l R k wr) (fun i _ => l.length - (intOf i).toNat)
  case atStart => exact ⟨0, Nat.zero_le _, rfl, hiniH.out⟩
  case round =>
    obtain ⟨k, hk, rfl, hEl, hM, hB⟩ := hrel
    by_cases hlt : k < l.length
    · obtain ⟨b, off, rfl, hb, hcells⟩ := nums_cells (hNH.out.below hB) (by omega)
      have c0 := hcells k hlt
      have hkI : (k : Int) < (l.length : Int) := by omega
      have hk10 : k ≤ 1000 := by omega
      have hMne := hEl.tr
      obtain ⟨t0, t1, t2, t3⟩ := hEl.cells
      have hsn := BoolRow.at_ hEl.sent hlt
      rw [show (rsTo l R k).sent k = R.sent k from sentTo_at _ _ _] at hsn
      have hms2 := rsTo_ms l R k
      clear hcells hMne
      have hBH := Lib.hid hB
      have hNH2 := Lib.hid (hNH.out.below hB)
      clear hB
      have hvx : I64 (vat l k) := by rw [vat_get l hlt]; exact hF _ (List.getElem_mem hlt)
      cases hy : R.tr k with
      | none =>
        have he : Hid (rsTo l R (k + 1) = rsTo l R k) := rsTo_none (by unfold outS; rw [hy]) (by unfold ownS; rw [hy])
        have hyH := Lib.hid hy
        have hElH := Lib.hid (hEl.mono (Nat.le_succ k))
        clear hy hEl t0 t1 t2 t3 hsn
        generalize vat l k = z at *
        go_wp2_with (at_lookup; refine wpList_lookZ rfl _ _ rfl (zeroI _) M c R.tr k none rfl hM rfl hk10 hyH.out ?_)
        go_roundw
        case rel => exact ⟨k + 1, by omega, by go_num, by rw [he.out]; exact hElH.out, hM, hBH.out⟩
        case measure => simp [intOf]; omega
      | some x =>
        have hyH := Lib.hid hy
        have hxI := hTH.out k x hlt hy
        by_cases hgt : vat l k < x
        · have he := Lib.hid (rsTo_pass (S := R) hlt (x := x) (by unfold outS; rw [hy]; simp only; rw [if_pos hgt]) (by unfold ownS; rw [hy]; simp only; rw [decide_eq_true hgt]; rfl))
          have hcall := Lib.hid (send_any wr B E S M1 k l.length _ cap _ hEl k hlt (by omega) x hxI (by omega) (by omega))
          clear hy hEl t0 t1 t2 t3 hsn hms2
          generalize vat l k = z at *
          go_wp2_with (at_lookup; refine wpList_lookZ rfl _ _ rfl (zeroI _) M c R.tr k (some x) rfl hM rfl hk10 hyH.out ?_)
          refine hcall.out.mono ?_
          rintro e w3 ⟨rfl, hE3, hK3⟩
          have hM3 := Lib.hid (hM.block (hK3.blk M hM.lt hne.out.1 hne.out.2.1 hne.out.2.2))
          go_wp2_with fail
          go_roundw
          case rel => exact ⟨k + 1, by omega, by go_num, by rw [he.out]; exact hE3, hM3.out, hBH.out.trans hK3.low⟩
          case measure => simp [intOf]; omega
        · cases hs : R.sent k with
          | true =>
            have he : Hid (rsTo l R (k + 1) = rsTo l R k) := rsTo_none (by unfold outS; rw [hy]; simp only; rw [if_neg hgt, if_pos hs]) (by unfold ownS; rw [hy]; simp only; rw [hs]; simp)
            have hElH := Lib.hid (hEl.mono (Nat.le_succ k))
            rw [hs] at hsn
            clear hy hEl t0 t2 t3 hs
            generalize vat l k = z at *
            go_wp2_with (at_lookup; refine wpList_lookZ rfl _ _ rfl (zeroI _) M c R.tr k (some x) rfl hM rfl hk10 hyH.out ?_)
            go_roundw
            case rel => exact ⟨k + 1, by omega, by go_num, by rw [he.out]; exact hElH.out, hM, hBH.out⟩
            case measure => simp [intOf]; omega
          | false =>
            have he := Lib.hid (rsTo_own (S := R) hlt (x := vat l k) (by unfold outS; rw [hy]; simp only; rw [if_neg hgt, if_neg (by rw [hs]; simp)]) (by unfold ownS; rw [hy]; simp only; rw [decide_eq_false hgt, hs]; rfl))
            have hcall := Lib.hid (sendOwn_any wr B E S M1 k _ cap l _ hEl hNH2.out hF k hlt (by omega) (by omega) (by omega))
            rw [hs] at hsn
            clear hy hEl t0 t2 t3 hs hms2
            generalize hzz : vat l k = z at *
            have hzH := Lib.hid hzz
            clear hzz
            go_wp2_with (at_lookup; refine wpList_lookZ rfl _ _ rfl (zeroI _) M c R.tr k (some x) rfl hM rfl hk10 hyH.out ?_)
            refine hcall.out.mono ?_
            rintro e w3 ⟨rfl, hE3, hK3⟩
            have hM3 := Lib.hid (hM.block (hK3.blk M hM.lt hne.out.1 hne.out.2.1 hne.out.2.2))
            go_wp2_with fail
            go_roundw
            case rel => exact ⟨k + 1, by omega, by go_num, by rw [he.out]; exact hE3, hM3.out, hBH.out.trans hK3.low⟩
            case measure => simp [intOf]; omega
    · have hkl : k = l.length := by omega
      subst hkl
      have hElH := Lib.hid (hEl.mono (c' := 12) (by omega))
      have hBH := Lib.hid hB
      clear hB hEl hM
      go_wp2_with fail
      go_end0
      exact ⟨rfl, ⟨_, hElH.out⟩, hBH.out⟩
#print axioms round_any
end Go.Proofs.Ytcmfpnghejapbaa
