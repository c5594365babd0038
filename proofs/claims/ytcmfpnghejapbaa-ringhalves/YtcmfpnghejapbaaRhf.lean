/-
  The contract of beaconryref.Half.
-/
import Derived.Test.YtcmfpnghejapbaaPhs
namespace Go.Proofs.Ytcmfpnghejapbaa
open Go.RowKit Go.Maps

theorem bef2_int {n : Nat} (h : 2 ≤ n) {p : Nat} (hp : p < n) : ((p : Int) + (n : Int) - 2) % (n : Int) = ((bef n (bef n p) : Nat) : Int) := by
  have key : (p + n - 2) % n = bef n (bef n p) := by
    by_cases h0 : p = 0
    · subst h0
      rw [bef_zero (by omega), bef_pos (by omega) (by omega), Nat.mod_eq_of_lt (by omega)]
      omega
    · rw [bef_pos (by omega) hp]
      by_cases h1 : p = 1
      · subst h1
        rw [show 1 - 1 = 0 from rfl, bef_zero (by omega), Nat.mod_eq_of_lt (by omega)]
        omega
      · rw [bef_pos (by omega) (by omega), show p + n - 2 = (p - 2) + n by omega, Nat.add_mod_right, Nat.mod_eq_of_lt (by omega)]
        omega
  rw [show (p : Int) + (n : Int) - 2 = ((p + n - 2 : Nat) : Int) by omega, ← key]
  exact (Int.natCast_emod _ _).symm

theorem half_two {l : List Int} (h2 : l.length = 2) (hR : Rng l) : half l = if vat l 1 < vat l 0 then [vat l 0] else [vat l 1] := by
  have hne : vat l 0 ≠ vat l 1 := fun e => absurd (hR.inj (by omega) (by omega) e) (by omega)
  have b0 : bef l.length 0 = 1 := by rw [h2]; rfl
  have b1 : bef l.length 1 = 0 := by rw [h2]; rfl
  have k0 := keepB_iff l 0
  have k1 := keepB_iff l 1
  rw [b0, b1] at k0
  rw [b1, b0] at k1
  unfold half
  rw [if_neg (by omega), h2]
  unfold halfTo halfTo halfTo
  rw [b0, b1]
  by_cases h : vat l 1 < vat l 0
  · rw [if_pos h, if_pos (k1.2 ⟨h, h⟩), if_neg (fun hh => by have := k0.1 hh; omega)]
    rfl
  · rw [if_neg h, if_neg (fun hh => by have := k1.1 hh; omega), if_pos (k0.2 ⟨by omega, by omega⟩)]
    rfl

set_option maxHeartbeats 4000000 in
set_option maxRecDepth 100000 in
theorem rhalf_any (A : Option Addr) (cap : Nat) (l : List Int) (w : World) (hE : Nums w w.heap.size A l) (hR : Rng l) :
    Calls Try.prog 15 #[.slice A l.length cap] w (ListRes (half l) w) := by
  have hl := hR.len
  have htwo : Hid (l.length = 2 → half l = if vat l 1 < vat l 0 then [vat l 0] else [vat l 1]) := fun h => half_two h hR
  clear hR
  obtain ⟨b, off, rfl, hb, hcells⟩ := nums_cells hE (by omega)
  clear hE
  by_cases h1 : l.length = 1
  · have hx : l = [vat l 0] := by
      apply vat_ext
      · rw [h1]; rfl
      · intro i hi
        have : i = 0 := by omega
        subst this
        simp [vat]
    have hh : Hid (half l = [vat l 0]) := by unfold Hid half; rw [if_pos h1]; exact hx
    have c0 := hcells 0 (by omega)
    rw [Nat.add_zero] at c0
    have hh0 := hh.out
    rw [hh0]
    clear hx hh0 hcells htwo
    generalize vat l 0 = x at *
    have hN := Lib.hid (lit1_nums w x)
    have hB : Below w.heap.size w (w.alloc (.cells #[.int .i64 x] 3)) := (Below.refl _ _).alloc (Nat.le_refl _) _
    rw [h1]
    clear h1 hl hh
    go_enter Try.func15, Try.ntmps15
    go_wp2_with fail
    go_ret
    exact ⟨some ⟨w.heap.size, 0, none⟩, 1, rfl, Nat.le_refl _, hN.out, hB⟩
  have h1I : ((l.length : Int) == 1) = false := by simp; omega
  by_cases h2 : l.length = 2
  · have hh := Lib.hid (htwo.out h2)
    have c0 := hcells 0 (by omega)
    have c1 := hcells 1 (by omega)
    rw [Nat.add_zero] at c0
    have hh0 := hh.out
    rw [hh0]
    clear hcells htwo hh0 hh
    generalize vat l 0 = x at *
    generalize vat l 1 = y at *
    rw [h2]
    clear h1 h1I hl h2
    by_cases d : y < x
    · have e : decide (y < x) = true := by simp [d]
      rw [if_pos d]
      have hN := Lib.hid (fun n => lit1_nums (w.drewN n) x)
      have hB : Hid (∀ n, Below w.heap.size w ((w.drewN n).alloc (.cells #[.int .i64 x] 3))) := fun n => (below_drewN (Below.refl _ _) n).alloc (Nat.le_refl _) _
      clear d
      go_enter Try.func15, Try.ntmps15
      go_wp2_with fail
      go_quiet (fail)
      go_wp2_with fail
      go_ret
      exact ⟨some ⟨w.heap.size, 0, none⟩, 1, rfl, Nat.le_refl _, hN.out _, hB.out _⟩
    · have e : decide (y < x) = false := by simp [d]
      rw [if_neg d]
      have hN := Lib.hid (fun n => lit1_nums (w.drewN n) y)
      have hB : Hid (∀ n, Below w.heap.size w ((w.drewN n).alloc (.cells #[.int .i64 y] 3))) := fun n => (below_drewN (Below.refl _ _) n).alloc (Nat.le_refl _) _
      clear d
      go_enter Try.func15, Try.ntmps15
      go_wp2_with fail
      go_quiet (fail)
      go_wp2_with fail
      go_ret
      exact ⟨some ⟨w.heap.size, 0, none⟩, 1, rfl, Nat.le_refl _, hN.out _, hB.out _⟩
  have h2I : ((l.length : Int) == 2) = false := by simp; omega
  have hhalf : Hid (halfTo l l.length = half l) := by unfold Hid half; rw [if_neg h1]
  have hcH := Lib.hid hcells
  have hn3 : 3 ≤ l.length := by omega
  clear hcells h1 h2 htwo
  obtain ⟨j0, hi0, hz0, hz1, hz2⟩ := info_parts infoInt
  have hJi := Lib.hid hi0; have hJz := Lib.hid hz0; have hJs := Lib.hid hz1; have hJb := Lib.hid hz2
  clear hi0 hz0 hz1 hz2
  go_enter Try.func15, Try.ntmps15
  go_wp2_with fail
  go_loopw [4, 5] (fun v t wr => ∃ k : Nat, k ≤ l.length ∧ t = .int .i64 k ∧ PhsRel w l k v wr) (fun _ t _ => l.length - (intOf t).toNat)
  case atStart => exact ⟨0, Nat.zero_le _, rfl, ⟨rfl, .inl ⟨rfl, rfl⟩⟩, Below.refl _ _⟩
  case round =>
    obtain ⟨k, hk, rfl, hW, hB⟩ := hrel
    by_cases hlt : k < l.length
    · have hkI : (k : Int) < (l.length : Int) := by omega
      have hp0 : 0 < l.length := by omega
      have hf := bef_lt hp0 k
      have hg := bef_lt hp0 (bef l.length k)
      have m1 := bef_int hp0 k
      have m2 := bef2_int (n := l.length) (by omega) hlt
      have ck : wr.cell? ⟨b, off + k, none⟩ = some (.int .i64 (vat l k)) := (hB.cell hb).trans (hcH.out k hlt)
      have cf : wr.cell? ⟨b, off + bef l.length k, none⟩ = some (.int .i64 (vat l (bef l.length k))) := (hB.cell hb).trans (hcH.out _ hf)
      have cg : wr.cell? ⟨b, off + bef l.length (bef l.length k), none⟩ = some (.int .i64 (vat l (bef l.length (bef l.length k)))) := (hB.cell hb).trans (hcH.out _ hg)
      have hkeep := Lib.hid (keepB_iff l k)
      have hlen : (halfTo l k).length ≤ 12 := by rw [halfTo_len]; have := cnt_le (keepB l) k; omega
      have hyes : Hid (keepB l k = true → halfTo l (k + 1) = halfTo l k ++ [vat l (bef l.length k)]) := fun h => by rw [halfTo, if_pos h]
      have hno : Hid (¬ keepB l k = true → halfTo l (k + 1) = halfTo l k) := fun h => by rw [halfTo, if_neg h]
      generalize hxk : vat l k = xk at *
      generalize hxf : vat l (bef l.length k) = xf at *
      generalize hxg : vat l (bef l.length (bef l.length k)) = xg at *
      clear hxk hxf hxg
      generalize bef l.length (bef l.length k) = pg at *
      generalize bef l.length k = pf at *
      have hfI : (pf : Int) < (l.length : Int) := by omega
      have hgI : (pg : Int) < (l.length : Int) := by omega
      by_cases d2 : xk < xf
      · have e2 : decide (xk < xf) = true := by simp [d2]
        by_cases d1 : xg < xf
        · have e1 : decide (xg < xf) = true := by simp [d1]
          have hn := Lib.hid (hyes.out (hkeep.out.2 ⟨d1, d2⟩))
          clear d1 d2 hkeep hyes hno
          have hWa : (wr.alloc (.cells #[.int .i64 xf] 3)).ownsRow w.heap.size 3 1 u4 (halfTo l k).length (intVals (halfTo l k)) := hW.alloc _
          have hBa := hB.alloc hB.size (.cells #[.int .i64 xf] 3)
          have hnews := Lib.hid (newsV (w := wr) (.int .i64 xf) 3 rfl)
          have hlt2 : Hid (∀ j, u4.ownBlock = some j → w.heap.size ≤ j) := fun j hj => (hW.lt j hj).1
          have hbase : w.heap.size ≤ (wr.alloc (.cells #[.int .i64 xf] 3)).heap.size := by
            have := hB.size
            simp; omega
          clear hW hB
          generalize halfTo l k = xs at *
          go_wp2_with (first
            | (at_builtin; refine wpList_append_lies _ rfl (.tmp 65) (.tmp 67) 22 rfl w.heap.size 3 j0 (.int .i64 0) 1 8 Try.underlying22 hJi.out hJz.out hJs.out hJb.out rfl (by decide) u4 xs.length (intVals xs) rfl hWa ⟨wr.heap.size, 0, none⟩ 1 1 [.int .i64 xf] rfl rfl hnews.out (by simp [Value.oneCell']) (by omega) (by unfold maxLen; omega) (by omega) hbase _ rfl ?_; intro g5 cap5 w5 hown5 hgrow5 hat5 hltg5))
          have hW5 := OwnInts.push hown5
          have hB5 := hBa.grown hgrow5 hBa.size hlt2.out
          go_roundw
          case rel => exact ⟨k + 1, by omega, by go_num, by rw [hn.out]; exact hW5, hB5⟩
          case measure => simp [intOf]; omega
        · have e1 : decide (xg < xf) = false := by simp [d1]
          have hn := Lib.hid (hno.out (fun h => d1 (hkeep.out.1 h).1))
          clear d1 d2 hkeep hyes hno
          go_wp2_with fail
          go_roundw
          case rel => exact ⟨k + 1, by omega, by go_num, by rw [hn.out]; exact hW, hB⟩
          case measure => simp [intOf]; omega
      · have e2 : decide (xk < xf) = false := by simp [d2]
        have hn := Lib.hid (hno.out (fun h => d2 (hkeep.out.1 h).2))
        clear d2 hkeep hyes hno
        go_wp2_with fail
        go_roundw
        case rel => exact ⟨k + 1, by omega, by go_num, by rw [hn.out]; exact hW, hB⟩
        case measure => simp [intOf]; omega
    · have hkl : k = l.length := by omega
      subst hkl
      obtain ⟨A2, cap2, rfl, hc2, _, hN2⟩ := OwnInts.nums hW
      rw [hhalf.out] at hN2 hc2 ⊢
      go_wp2_with fail
      go_ret
      exact ⟨A2, cap2, rfl, hc2, hN2, hB⟩

#print axioms rhalf_any
end Go.Proofs.Ytcmfpnghejapbaa
