/-
  The walk of the law SnapAll: a complete snapshot has all that there is.
-/
import Derived.Test.YtebighmddimnkaaPld
namespace Go.Proofs.Ytebighmddimnkaa
open Go.RowKit Go.Maps

set_option maxHeartbeats 1000000 in
theorem snapall_no (w : World) (n : Int) (A : Option Addr) (cap : Nat) (l : List Mv) (hl : l.length ≤ maxLen) (h0 : ¬ Plays n l.length) :
    Calls Try.prog 4 #[.int .i64 n, .slice A l.length cap] w fun e w' => e = .returned (.bool true) ∧ Below w.heap.size w w' := by
  have h0H := Lib.hid h0
  have hno : Hid (¬ (1 ≤ n ∧ n ≤ 6 ∧ (l.length : Int) ≤ 60)) := fun h => h0 ⟨h.1, h.2.1, by omega⟩
  clear h0
  go_enter Try.func4, Try.ntmps4
  go_wp2_with fail
  refine (play_no A cap l n _ hl h0H.out).mono ?_
  rintro e w1 ⟨rfl, hB1⟩
  have hB2 := hB1.alloc hB1.size (.cells #[.slice none 0 0, .bool false, .slice none 0 0, .slice none 0 0] 27)
  clear hB1
  go_wp2_with fail
  generalize w1.alloc (.cells #[.slice none 0 0, .bool false, .slice none 0 0, .slice none 0 0] 27) = w2 at *
  refine (played_any w2 n (l.length : Int) false ⟨fun h => absurd h (by decide), fun h => absurd h hno.out⟩).mono ?_
  rintro e w5 ⟨rfl, rfl⟩
  go_wp2_with fail
  go_ret
  exact ⟨rfl, hB2⟩

/-- What has been added up of the first i. -/
def allF (n : Nat) (S : St) (i : Nat) : Int := sumN i (fun a => S.kp a + sumN n (S.wy a))
theorem allF_nonneg {n : Nat} {S : St} (h : SInv n S) (i : Nat) : 0 ≤ allF n S i := sumN_nonneg fun a _ => by
  have := h.kp0 a
  have := sumN_nonneg (n := n) (f := S.wy a) fun b _ => h.wy0 a b
  omega
theorem allF_le {n : Nat} {S : St} (h : SInv n S) {i k : Nat} (hi : i < n) (hk : k ≤ n) : allF n S i + S.kp i + sumN k (S.wy i) ≤ 100 * n := by
  have h1 := h.keptLe
  have hnn : ∀ a, 0 ≤ S.kp a + sumN n (S.wy a) := fun a => by
    have := h.kp0 a
    have := sumN_nonneg (n := n) (f := S.wy a) fun b _ => h.wy0 a b
    omega
  have h2 := sumN_mono (n := n) (m := i + 1) hnn (by omega)
  have h3 := sumN_mono (n := n) (m := k) (f := S.wy i) (fun b => h.wy0 i b) hk
  rw [sumN] at h2
  unfold allF
  omega

set_option maxHeartbeats 4000000 in
set_option maxRecDepth 100000 in
theorem snapall_ok (w : World) (n : Nat) (A : Option Addr) (cap : Nat) (l : List Mv) (hE : Mvs w w.heap.size A l) (hF : MFits l) (h0 : Plays (n : Int) l.length) :
    Calls Try.prog 4 #[.int .i64 (n : Int), .slice A l.length cap] w fun e w' => e = .returned (.bool true) ∧ Below w.heap.size w w' := by
  have h60 := h0.2.2
  have hn : n ≤ 6 := by have := h0.2.1; omega
  have h0H := Lib.hid h0
  have hyes : Hid (1 ≤ (n : Int) ∧ (n : Int) ≤ 6 ∧ (l.length : Int) ≤ 60) := ⟨h0.1, h0.2.1, by omega⟩
  clear h0
  go_enter Try.func4, Try.ntmps4
  go_wp2_with fail
  refine (play_ok A cap l n _ hE hF h0H.out).mono ?_
  rintro e w1 ⟨gc, gk, T, rw1, D, rfl, hD, hO1, hB1⟩
  unfold snpVal
  have hR2 := Row.made w1 27 [.slice (some ⟨gc, 0, none⟩) l.length l.length, .bool D, .slice (some ⟨gk, 0, none⟩) n n, .slice (some ⟨T, 0, none⟩) n n]
  have hO2 := hO1.alloc (.cells #[.slice (some ⟨gc, 0, none⟩) l.length l.length, .bool D, .slice (some ⟨gk, 0, none⟩) n n, .slice (some ⟨T, 0, none⟩) n n] 27)
  have hB2 := hB1.alloc hB1.size (.cells #[.slice (some ⟨gc, 0, none⟩) l.length l.length, .bool D, .slice (some ⟨gk, 0, none⟩) n n, .slice (some ⟨T, 0, none⟩) n n] 27)
  have hI := SInv.at_ n l l.length
  have hDone : Hid (D = true → allF n (stAt n l l.length) n = 100 * n) := fun h => hI.keptAll (hD.1 h)
  obtain ⟨_, hkep, hway, _, _⟩ := hO2
  generalize stAt n l l.length = S at *
  clear hB1 hO1 hD
  go_wp2_with fail
  generalize w1.alloc (.cells #[.slice (some ⟨gc, 0, none⟩) l.length l.length, .bool D, .slice (some ⟨gk, 0, none⟩) n n, .slice (some ⟨T, 0, none⟩) n n] 27) = w2 at *
  generalize w1.heap.size = b1 at *
  refine (played_any w2 (n : Int) (l.length : Int) true ⟨fun _ => hyes.out, fun _ => rfl⟩).mono ?_
  rintro e w5 ⟨rfl, rfl⟩
  have y0 := hR2.cell (i := 0) (by simp)
  have y1 := hR2.cell (i := 1) (by simp)
  have y2 := hR2.cell (i := 2) (by simp)
  have y3 := hR2.cell (i := 3) (by simp)
  simp only [List.getElem_cons_zero, List.getElem_cons_succ] at y0 y1 y2 y3
  have hIH := Lib.hid hI
  have hkH := Lib.hid hkep
  have hwH := Lib.hid hway
  clear hR2 hI hkep hway
  go_wp2_with fail
  go_loopw [7, 8] (fun v t wr => ∃ i : Nat, i ≤ n ∧ t = .int .i64 i ∧ v = .int .i64 (allF n S i) ∧ wr = w5) (fun _ t _ => n - (intOf t).toNat)
  case atStart => exact ⟨0, Nat.zero_le _, rfl, rfl, rfl⟩
  case round =>
    obtain ⟨i, hi, rfl, rfl, hw⟩ := hrel
    have hw' := hw.symm
    subst hw'
    have hs0 := allF_nonneg hIH.out i
    by_cases hlt : i < n
    · have hiI : (i : Int) < (n : Int) := by omega
      have hle := allF_le hIH.out hlt (Nat.zero_le n)
      rw [sumN] at hle
      have hk0 := hIH.out.kp0 i
      have x1 := IntRow.at_ hkH.out hlt
      have x2 := hwH.out.slot hlt hlt
      have x3 := IntRow.at_ (hwH.out.row i hlt hlt) hlt
      rw [hIH.out.wd i] at x3
      have hk0' : ¬ (S.kp i < 0) := by omega
      generalize hfi : allF n S i = fi at *
      generalize hki : S.kp i = ki at *
      have hfiH := Lib.hid hfi
      have hkiH := Lib.hid hki
      clear hfi hki
      have hrow := Lib.hid (fun b hb => IntRow.at_ (hwH.out.row i hlt hlt) (j := b) hb)
      generalize hgr : rw1 i = gr at *
      clear hgr
      go_wp2_with fail
      go_loopw [7, 93] (fun v t wr => ∃ k : Nat, k ≤ n ∧ t = .int .i64 k ∧ v = .int .i64 (fi + ki + sumN k (S.wy i)) ∧ wr = w5) (fun _ t _ => n - (intOf t).toNat)
      case atStart => exact ⟨0, Nat.zero_le _, rfl, by simp [sumN], rfl⟩
      case round =>
        obtain ⟨k, hk, rfl, rfl, hw⟩ := hrel
        have hw' := hw.symm
        subst hw'
        have hle2 := allF_le hIH.out hlt hk
        rw [hfiH.out, hkiH.out] at hle2
        have hsk0 := sumN_nonneg (n := k) (f := S.wy i) fun b _ => hIH.out.wy0 i b
        by_cases hkl : k < n
        · have hkI : (k : Int) < (n : Int) := by omega
          have x4 := hrow.out k hkl
          have hle3 := allF_le hIH.out hlt (show k + 1 ≤ n by omega)
          rw [hfiH.out, hkiH.out, sumN] at hle3
          have hw0 := hIH.out.wy0 i k
          have hw0' : ¬ (S.wy i k < 0) := by omega
          have hnx : Hid (sumN (k + 1) (S.wy i) = sumN k (S.wy i) + S.wy i k) := rfl
          generalize S.wy i k = wk at *
          generalize sumN k (S.wy i) = sk at *
          go_wp2_with fail
          go_roundw
          case rel => exact ⟨k + 1, by omega, by go_num, by rw [hnx.out]; congr 1; omega, trivial⟩
          case measure => simp [intOf]; omega
        · have hkn : k = n := by omega
          subst hkn
          have hnx : Hid (allF k S (i + 1) = fi + ki + sumN k (S.wy i)) := by
            unfold Hid
            rw [← hfiH.out, ← hkiH.out]
            unfold allF
            rw [sumN]
            omega
          generalize sumN k (S.wy i) = sk at *
          go_wp2_with fail
          go_roundw
          case rel => exact ⟨i + 1, by omega, by go_num, by rw [hnx.out], trivial⟩
          case measure => simp [intOf]; omega
    · have hin : i = n := by omega
      subst hin
      have hdn := hDone
      have hmul : ((i : Int) * 100) = 100 * (i : Int) := by omega
      cases D with
      | false =>
        clear hdn hDone
        generalize allF i S i = fi at *
        go_wp2_with fail
        go_ret
        exact ⟨rfl, hB2⟩
      | true =>
        have hd := hdn.out rfl
        have hd' : (allF i S i == (i : Int) * 100) = true := by simp; omega
        clear hdn hDone
        generalize allF i S i = fi at *
        subst hd
        go_wp2_with fail
        go_ret
        exact ⟨by simp, hB2⟩

theorem snapAll_law (w : World) (n : Int) (_hn : I64 n) (A : Option Addr) (cap : Nat) (l : List Mv) (hE : Mvs w w.heap.size A l) (hF : MFits l) (_hcap : l.length ≤ cap) (hl : l.length ≤ maxLen) (_hs : l.length ≤ 17592186044416) :
    Calls Try.prog 4 #[.int .i64 n, .slice A l.length cap] w fun e w' => e = .returned (.bool true) ∧ Below w.heap.size w w' := by
  by_cases h0 : Plays n l.length
  · have h1 := h0.1
    obtain ⟨c, rfl⟩ := Int.eq_ofNat_of_zero_le (show 0 ≤ n by omega)
    exact snapall_ok w c A cap l hE hF h0
  · exact snapall_no w n A cap l hl h0

#print axioms snapAll_law
end Go.Proofs.Ytebighmddimnkaa
