/-
  The contracts of (*election).send, (*election).sendOwn, (*election).leader of package ring.
-/
import Derived.Test.YtcmfpnghejapbaaEmm
import Derived.BigQuiet
import Derived.Deep.QuietTactic
namespace Go.Proofs.Ytcmfpnghejapbaa
open Go.RowKit Go.Maps

theorem Elec.drew {w : World} {B E S M c n : Nat} {A : Option Addr} {cap : Nat} {R : RS} (h : Elec w B E S M c n A cap R) : Elec w.drew B E S M c n A cap R :=
  ⟨h.top.block rfl, Row.block h.sent rfl, h.tr.block rfl, h.lowE, h.lowS, h.lowM⟩
theorem mod_next (p n : Nat) : ((p : Int) + 1).tmod (n : Int) = (((p + 1) % n : Nat) : Int) := by
  rw [Int.tmod_eq_emod_of_nonneg (by omega)]
  rfl

set_option maxHeartbeats 1600000 in
theorem send_any (w : World) (B E S M c n : Nat) (A : Option Addr) (cap : Nat) (R : RS) (hE : Elec w B E S M c n A cap R) (p : Nat) (hp : p < n) (hn : n ≤ 12) (x : Int) (hx : I64 x) (hc : c ≤ 100) (hms : R.ms ≤ 1000) :
    Calls Try.prog 29 #[.pointer (some ⟨E, 0, none⟩), .int .i64 (p : Int), .int .i64 x] w fun e w' => e = .returned (.tuple #[]) ∧ Elec w' B E S M (c + 1) n A cap ⟨R.sent, updO R.tr ((p + 1) % n) x, R.ms + 1⟩ ∧ Kp B E S M w w' := by
  obtain ⟨s0, s1, s2, s3⟩ := hE.cells
  have hq : (p + 1) % n < n := Nat.mod_lt _ (by omega)
  have hE' := hE.drew
  obtain ⟨w1, hrun, hM, hg⟩ := hE'.tr.update (by unfold maxLen; omega) (k := (p + 1) % n) (by omega) hx
  have hEM := hE.apart.2.1
  have c3 := hg.cell hE'.cells.2.2.2 (by simp; exact fun e => hEM e.symm)
  have hf3 := (hE'.top.grown hg (by simp; exact fun e => hEM e.symm)).frozen 3
  have hfin := Lib.hid (hE'.send hM hg (v := (R.ms : Int) + 1) (by omega))
  have hmod := mod_next p n
  clear hE hM hg hEM hE'
  generalize hqq : (p + 1) % n = q at *
  clear hqq
  have hn0 : ¬ (n : Int) = 0 := by omega
  go_enter Try.func29, Try.ntmps29
  go_wp2_with fail
  go_region
  go_wp2_with fail
  go_end0
  exact ⟨rfl, hfin.out.1, (Kp.mk (Below.refl B w).drew fun _ _ _ _ _ => rfl).trans hfin.out.2⟩

set_option maxHeartbeats 800000 in
theorem sendOwn_any (w : World) (B E S M c : Nat) (A : Option Addr) (cap : Nat) (l : List Int) (R : RS) (hE : Elec w B E S M c l.length A cap R) (hN : Nums w B A l) (hF : NumFits l) (p : Nat) (hp : p < l.length) (hn : l.length ≤ 12) (hc : c ≤ 100) (hms : R.ms ≤ 1000) :
    Calls Try.prog 28 #[.pointer (some ⟨E, 0, none⟩), .int .i64 (p : Int)] w fun e w' => e = .returned (.tuple #[]) ∧ Elec w' B E S M (c + 1) l.length A cap ⟨updB R.sent p true, updO R.tr ((p + 1) % l.length) (vat l p), R.ms + 1⟩ ∧ Kp B E S M w w' := by
  obtain ⟨s0, s1, s2, s3⟩ := hE.cells
  obtain ⟨hE2, hK2⟩ := hE.own p
  obtain ⟨t0, t1, t2, t3⟩ := hE2.cells
  have hfz := Row.frozen hE.sent p
  have c1 := BoolRow.at_ hE.sent hp
  obtain ⟨b, off, rfl, hb, hcells⟩ := nums_cells (hN.below hK2.low) (by omega)
  have c0 := hcells p hp
  have hx : I64 (vat l p) := by rw [vat_get l hp]; exact hF _ (List.getElem_mem hp)
  have hpI : (p : Int) < (l.length : Int) := by omega
  have hcall := Lib.hid (send_any _ B E S M c l.length _ cap _ hE2 p hp hn (vat l p) hx hc hms)
  have hK2H := Lib.hid hK2
  clear hcells hE hE2 hK2 hN hF
  generalize vat l p = y at *
  go_enter Try.func28, Try.ntmps28
  go_wp2_with fail
  refine hcall.out.mono ?_
  rintro e w2 ⟨rfl, hE3, hK3⟩
  go_wp2_with fail
  go_end0
  exact ⟨rfl, hE3, hK2H.out.trans hK3⟩

theorem zeroI (w : World) : (zeroValue 3).run Try.prog w = .ok (.int .i64 0) w := by kernel_rfl

set_option maxHeartbeats 1600000 in
/-- The first place to which its own number is on the way. -/
theorem leader_any (w : World) (B E S M c : Nat) (A : Option Addr) (cap : Nat) (l : List Int) (R : RS) (hE : Elec w B E S M c l.length A cap R) (hN : Nums w B A l) (hn : l.length ≤ 12) (h0 : 0 < l.length) (m : Nat) (hm : m ≤ l.length) (h1 : ∀ p, p < m → leadB l R p = false) (h2 : m < l.length → leadB l R m = true) :
    Calls Try.prog 23 #[.pointer (some ⟨E, 0, none⟩)] w fun e w' => e = .returned (.tuple #[.int .i64 (if m < l.length then (m : Int) else 0), .bool (decide (m < l.length))]) ∧ w = w' := by
  obtain ⟨s0, s1, s2, s3⟩ := hE.cells
  obtain ⟨b, off, rfl, hb, hcells⟩ := nums_cells hN h0
  have hM := hE.tr
  have h1H := Lib.hid h1
  have h2H := Lib.hid h2
  have hcH := Lib.hid hcells
  obtain ⟨V, hV⟩ : ∃ V : Int, Hid (V = if m < l.length then (m : Int) else 0) := ⟨_, rfl⟩
  obtain ⟨F, hF⟩ : ∃ F : Bool, Hid (F = decide (m < l.length)) := ⟨_, rfl⟩
  rw [← hV.out, ← hF.out]
  clear h1 h2 hcells hE hN s1 s3
  go_enter Try.func23, Try.ntmps23
  go_wp2_with fail
  go_loop [13] (fun i => ∃ k : Nat, k ≤ m ∧ i = .int .i64 k) (fun i => l.length - (intOf i).toNat)
  case atStart => exact ⟨0, Nat.zero_le _, rfl⟩
  case round =>
    obtain ⟨k, hk, rfl⟩ := hrel
    by_cases hlt : k < l.length
    · have c0 := hcH.out k hlt
      have hkI : (k : Int) < (l.length : Int) := by omega
      have hk10 : k ≤ 1000 := by omega
      have hlb : Hid (leadB l R k = decide (k = m)) := by
        unfold Hid
        by_cases e : k = m
        · subst e; rw [h2H.out hlt]; simp
        · rw [h1H.out k (by omega)]; simp [e]
      generalize hy : R.tr k = y at *
      generalize hz : vat l k = z at *
      have hyz : Hid ((y == some z) = decide (k = m)) := by
        unfold Hid
        have := hlb.out
        unfold leadB at this
        rw [hy, hz] at this
        exact this
      have hyH := Lib.hid hy
      clear hy hlb
      by_cases e : k = m
      · have hyv : y = some z := by have := hyz.out; rw [decide_eq_true e] at this; simpa using this
        subst hyv
        have hv1 : Hid (V = (k : Int)) := by unfold Hid; rw [hV.out, if_pos (by omega), e]
        have hf1 : Hid (F = true) := by unfold Hid; rw [hF.out, decide_eq_true (by omega)]
        clear hV hF hyz e hk
        go_wp2_with (at_lookup; refine wpList_lookZ rfl _ _ rfl (zeroI _) M c R.tr k (some z) rfl hM rfl hk10 hyH.out ?_)
        go_ret2
        exact ⟨by rw [hv1.out, hf1.out]; rfl, rfl⟩
      · have hkm : k + 1 ≤ m := by omega
        cases y with
        | none =>
          clear hyz
          go_wp2_with (at_lookup; refine wpList_lookZ rfl _ _ rfl (zeroI _) M c R.tr k none rfl hM rfl hk10 hyH.out ?_)
          go_round
          case rel => exact ⟨k + 1, hkm, by go_num⟩
          case measure => simp [intOf]; omega
        | some x =>
          have hxz : (x == z) = false := by have := hyz.out; rw [decide_eq_false e] at this; simpa using this
          clear hyz
          go_wp2_with (at_lookup; refine wpList_lookZ rfl _ _ rfl (zeroI _) M c R.tr k (some x) rfl hM rfl hk10 hyH.out ?_)
          go_round
          case rel => exact ⟨k + 1, hkm, by go_num⟩
          case measure => simp [intOf]; omega
    · have hv1 : Hid (V = 0) := by unfold Hid; rw [hV.out, if_neg (by omega)]
      have hf1 : Hid (F = false) := by unfold Hid; rw [hF.out, decide_eq_false (by omega)]
      clear hV hF
      go_wp2_with fail
      go_ret2
      exact ⟨by rw [hv1.out, hf1.out]; rfl, rfl⟩
#print axioms send_any
#print axioms sendOwn_any
#print axioms leader_any
end Go.Proofs.Ytcmfpnghejapbaa
