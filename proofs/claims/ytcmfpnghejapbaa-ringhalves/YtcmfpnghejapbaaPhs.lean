/-
  The contracts of ring.before and ring.phase.
-/
import Derived.Test.YtcmfpnghejapbaaRck
import Derived.Test.YtcmfpnghejapbaaPck
import Derived.Test.YtcmfpnghejapbaaIntW
namespace Go.Proofs.Ytcmfpnghejapbaa
open Go.RowKit Go.Maps

theorem bef_int {n : Nat} (h : 0 < n) (p : Nat) : ((p : Int) + (n : Int) - 1) % (n : Int) = ((bef n p : Nat) : Int) := by
  unfold bef
  rw [show (p : Int) + (n : Int) - 1 = ((p + n - 1 : Nat) : Int) by omega]
  exact (Int.natCast_emod _ _).symm

set_option maxHeartbeats 400000 in
theorem before_any (n p : Nat) (h : 0 < n) (hn : n ≤ 12) (hp : p < 12) (w : World) :
    Calls Try.prog 30 #[.int .i64 (p : Int), .int .i64 (n : Int)] w fun e w' => e = .returned (.int .i64 ((bef n p : Nat) : Int)) ∧ w' = w := by
  have hm := Lib.hid (bef_int h p)
  go_enter Try.func30, Try.ntmps30
  go_wp2_with fail
  go_ret
  exact ⟨by rw [← hm.out]; rfl, rfl⟩

/-- A list of ints, handed back: new, or nil. -/
def ListRes (xs : List Int) (w : World) (e : Ending) (w' : World) : Prop :=
  ∃ A cap, e = .returned (.slice A xs.length cap) ∧ xs.length ≤ cap ∧ Nums w' w'.heap.size A xs ∧ Below w.heap.size w w'
theorem lit1_nums (w : World) (x : Int) : Nums (w.alloc (.cells #[.int .i64 x] 3)) (w.alloc (.cells #[.int .i64 x] 3)).heap.size (some ⟨w.heap.size, 0, none⟩) [x] := by
  intro _
  refine ⟨w.heap.size, 0, rfl, by simp, fun i hi => ?_⟩
  have h0 : i = 0 := by simp at hi; omega
  subst h0
  simp

def PhsRel (w : World) (l : List Int) (k : Nat) (v : Value) (wr : World) : Prop := OwnInts wr w.heap.size v (halfTo l k) ∧ Below w.heap.size w wr

set_option maxHeartbeats 4000000 in
set_option maxRecDepth 100000 in
theorem phase_any (A : Option Addr) (cap : Nat) (l : List Int) (w : World) (hE : Nums w w.heap.size A l) (hR : Rng l) :
    Calls Try.prog 25 #[.slice A l.length cap] w (ListRes (half l) w) := by
  have hl := hR.len
  clear hR
  obtain ⟨b, off, rfl, hb, hcells⟩ := nums_cells hE (by omega)
  clear hE
  by_cases h1 : l.length = 1
  · have hx : l = [vat l 0] := by
      apply vat_ext
      · rw [h1]; rfl
      · intro i hi
        have : i = 0 := by omega
        subst this
        simp [vat]
    have hh : Hid (half l = [vat l 0]) := by unfold Hid half; rw [if_pos h1]; exact hx
    have c0 := hcells 0 (by omega)
    rw [Nat.add_zero] at c0
    have hh0 := hh.out
    rw [hh0]
    clear hx hh0 hcells
    generalize vat l 0 = x at *
    have h1I : ((l.length : Int) == 1) = true := by simp [h1]
    have h1L : (l.length == 1) = true := by simp [h1]
    have hN := Lib.hid (lit1_nums w x)
    have hB : Below w.heap.size w (w.alloc (.cells #[.int .i64 x] 3)) := (Below.refl _ _).alloc (Nat.le_refl _) _
    rw [h1]
    clear h1 hl h1I h1L hh
    go_enter Try.func25, Try.ntmps25
    go_wp2_with fail
    go_ret
    exact ⟨some ⟨w.heap.size, 0, none⟩, 1, rfl, Nat.le_refl _, hN.out, hB⟩
  have hhalf : Hid (halfTo l l.length = half l) := by unfold Hid half; rw [if_neg h1]
  have h1I : ((l.length : Int) == 1) = false := by simp; omega
  have hcH := Lib.hid hcells
  have hn2 : 2 ≤ l.length := by omega
  clear hcells h1
  obtain ⟨j0, hi0, hz0, hz1, hz2⟩ := info_parts infoInt
  have hJi := Lib.hid hi0; have hJz := Lib.hid hz0; have hJs := Lib.hid hz1; have hJb := Lib.hid hz2
  clear hi0 hz0 hz1 hz2
  go_enter Try.func25, Try.ntmps25
  go_wp2_with fail
  go_loopw [3, 15] (fun v t wr => ∃ k : Nat, k ≤ l.length ∧ t = .int .i64 k ∧ PhsRel w l k v wr) (fun _ t _ => l.length - (intOf t).toNat)
  case atStart => exact ⟨0, Nat.zero_le _, rfl, ⟨rfl, .inl ⟨rfl, rfl⟩⟩, Below.refl _ _⟩
  case round =>
    obtain ⟨k, hk, rfl, hW, hB⟩ := hrel
    by_cases hlt : k < l.length
    · have hkI : (k : Int) < (l.length : Int) := by omega
      have hp0 : 0 < l.length := by omega
      have hf := bef_lt hp0 k
      have hg := bef_lt hp0 (bef l.length k)
      have ck : wr.cell? ⟨b, off + k, none⟩ = some (.int .i64 (vat l k)) := (hB.cell hb).trans (hcH.out k hlt)
      have cf : wr.cell? ⟨b, off + bef l.length k, none⟩ = some (.int .i64 (vat l (bef l.length k))) := (hB.cell hb).trans (hcH.out _ hf)
      have cg : wr.cell? ⟨b, off + bef l.length (bef l.length k), none⟩ = some (.int .i64 (vat l (bef l.length (bef l.length k)))) := (hB.cell hb).trans (hcH.out _ hg)
      have hq1 := Lib.hid (before_any l.length k hp0 hl.2 (by omega))
      have hq2 := Lib.hid (before_any l.length (bef l.length k) hp0 hl.2 (by omega))
      have hkeep := Lib.hid (keepB_iff l k)
      have hlen : (halfTo l k).length ≤ 12 := by rw [halfTo_len]; have := cnt_le (keepB l) k; omega
      have hyes : Hid (keepB l k = true → halfTo l (k + 1) = halfTo l k ++ [vat l (bef l.length k)]) := fun h => by rw [halfTo, if_pos h]
      have hno : Hid (¬ keepB l k = true → halfTo l (k + 1) = halfTo l k) := fun h => by rw [halfTo, if_neg h]
      generalize hxk : vat l k = xk at *
      generalize hxf : vat l (bef l.length k) = xf at *
      generalize hxg : vat l (bef l.length (bef l.length k)) = xg at *
      clear hxk hxf hxg
      generalize bef l.length (bef l.length k) = pg at *
      generalize bef l.length k = pf at *
      have hfI : (pf : Int) < (l.length : Int) := by omega
      have hgI : (pg : Int) < (l.length : Int) := by omega
      by_cases d1 : xg < xf
      · have e1 : decide (xg < xf) = true := by simp [d1]
        by_cases d2 : xk < xf
        · have e2 : decide (xk < xf) = true := by simp [d2]
          have hn := Lib.hid (hyes.out (hkeep.out.2 ⟨d1, d2⟩))
          clear d1 d2 hkeep hyes hno
          go_wp2_with fail
          refine (hq1.out _).mono ?_
          rintro e w1 ⟨rfl, rfl⟩
          go_wp2_with fail
          go_quiet ((go_at_call 30; exact Calls.quiet_of_same (hq2.out _)))
          have hB4 := below_drewN hB nq
          have hW4 : OwnInts (w1.drewN nq) w.heap.size u3 (halfTo l k) := hW
          have cf4 : (w1.drewN nq).cell? ⟨b, off + pf, none⟩ = some (.int .i64 xf) := cf
          clear hB hW cf ck cg hq1 hq2 e1 e2
          generalize w1.drewN nq = w4 at *
          have hWa : (w4.alloc (.cells #[.int .i64 xf] 3)).ownsRow w.heap.size 3 1 u3 (halfTo l k).length (intVals (halfTo l k)) := hW4.alloc _
          have hBa := hB4.alloc hB4.size (.cells #[.int .i64 xf] 3)
          have hnews := Lib.hid (newsV (w := w4) (.int .i64 xf) 3 rfl)
          have hlt2 : Hid (∀ j, u3.ownBlock = some j → w.heap.size ≤ j) := fun j hj => (hW4.lt j hj).1
          have hbase : w.heap.size ≤ (w4.alloc (.cells #[.int .i64 xf] 3)).heap.size := by
            have := hB4.size
            simp; omega
          clear hW4 hB4
          generalize halfTo l k = xs at *
          go_wp2_with (first
            | (at_builtin; refine wpList_append_lies _ rfl (.tmp 45) (.tmp 50) 22 rfl w.heap.size 3 j0 (.int .i64 0) 1 8 Try.underlying22 hJi.out hJz.out hJs.out hJb.out rfl (by decide) u3 xs.length (intVals xs) rfl hWa ⟨w4.heap.size, 0, none⟩ 1 1 [.int .i64 xf] rfl rfl hnews.out (by simp [Value.oneCell']) (by omega) (by unfold maxLen; omega) (by omega) hbase _ rfl ?_; intro g5 cap5 w5 hown5 hgrow5 hat5 hltg5))
          have hW5 := OwnInts.push hown5
          have hB5 := hBa.grown hgrow5 hBa.size hlt2.out
          go_roundw
          case rel => exact ⟨k + 1, by omega, by go_num, by rw [hn.out]; exact hW5, hB5⟩
          case measure => simp [intOf]; omega
        · have e2 : decide (xk < xf) = false := by simp [d2]
          have hn := Lib.hid (hno.out (fun h => d2 (hkeep.out.1 h).2))
          clear d1 d2 hkeep hyes hno
          go_wp2_with fail
          refine (hq1.out _).mono ?_
          rintro e w1 ⟨rfl, rfl⟩
          go_wp2_with fail
          go_quiet ((go_at_call 30; exact Calls.quiet_of_same (hq2.out _)))
          have hB4 := below_drewN hB nq
          have hW4 : OwnInts (w1.drewN nq) w.heap.size u3 (halfTo l k) := hW
          clear hB hW cf ck cg hq1 hq2 e1 e2
          generalize w1.drewN nq = w4 at *
          go_wp2_with fail
          go_roundw
          case rel => exact ⟨k + 1, by omega, by go_num, by rw [hn.out]; exact hW4, hB4⟩
          case measure => simp [intOf]; omega
      · have e1 : decide (xg < xf) = false := by simp [d1]
        have hn := Lib.hid (hno.out (fun h => d1 (hkeep.out.1 h).1))
        clear d1 hkeep hyes hno
        go_wp2_with fail
        refine (hq1.out _).mono ?_
        rintro e w1 ⟨rfl, rfl⟩
        go_wp2_with fail
        go_quiet ((go_at_call 30; exact Calls.quiet_of_same (hq2.out _)))
        have hB4 := below_drewN hB nq
        have hW4 : OwnInts (w1.drewN nq) w.heap.size u3 (halfTo l k) := hW
        clear hB hW cf ck cg hq1 hq2 e1
        generalize w1.drewN nq = w4 at *
        go_wp2_with fail
        go_roundw
        case rel => exact ⟨k + 1, by omega, by go_num, by rw [hn.out]; exact hW4, hB4⟩
        case measure => simp [intOf]; omega
    · have hkl : k = l.length := by omega
      subst hkl
      obtain ⟨A2, cap2, rfl, hc2, _, hN2⟩ := OwnInts.nums hW
      rw [hhalf.out] at hN2 hc2 ⊢
      go_wp2_with fail
      go_ret
      exact ⟨A2, cap2, rfl, hc2, hN2, hB⟩

#print axioms before_any
#print axioms phase_any
end Go.Proofs.Ytcmfpnghejapbaa
