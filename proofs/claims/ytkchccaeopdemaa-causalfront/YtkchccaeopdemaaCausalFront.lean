/-
  The walk of the law CausalFront: what comes later takes back no delivery.
-/
import Derived.Test.YtkchccaeopdemaaCpl
import Derived.Test.YtkchccaeopdemaaPlc
import Derived.Lib.QuietBelow
import Derived.BigQuiet
import Derived.Deep.QuietTactic
namespace Go.Proofs.Ytkchccaeopdemaa
open Go.RowKit Go.Maps

def CplAny (w : World) (e : Ending) (w' : World) : Prop :=
  ∃ A1 n1 c1 A2 n2 c2 c, e = .returned (.tuple #[.agg #[.slice A1 n1 c1, .slice A2 n2 c2], .int .i64 c]) ∧ Below w.heap.size w w'
theorem play_all (A : Option Addr) (cap : Nat) (l : List Mv) (n : Int) (w : World) (hE : Mvs w w.heap.size A l) (hF : MFits l) (hl : l.length ≤ maxLen) :
    Calls Try.prog 7 #[.int .i64 n, .slice A l.length cap] w (CplAny w) := by
  by_cases h : Plays n l.length
  · have h1 := h.1
    obtain ⟨c, rfl⟩ := Int.eq_ofNat_of_zero_le (show 0 ≤ n by omega)
    refine (play_ok A cap l c w hE hF h).mono ?_
    rintro e w' ⟨gc, T, rfl, _, _, hB⟩
    exact ⟨_, _, _, _, _, _, _, rfl, hB⟩
  · refine (play_no A cap l n w hl h).mono ?_
    rintro e w' ⟨rfl, hB⟩
    exact ⟨_, _, _, _, _, _, _, rfl, hB⟩
theorem mpre_len (l : List Mv) {q : Nat} (hq : q ≤ l.length) : (l.take q).length = q := by simp; omega
theorem nums_take {w : World} {B : Nat} {A : Option Addr} {l : List Int} (h : Nums w B A l) (n : Nat) : Nums w B A (l.take n) := by
  intro h0
  have hl : (l.take n).length ≤ l.length := by simp; omega
  obtain ⟨b, off, e, hb, hc⟩ := h (by omega)
  exact ⟨b, off, e, hb, fun i hi => by simp only [List.getElem_take]; exact hc i (by omega)⟩

set_option maxHeartbeats 1000000 in
set_option maxRecDepth 100000 in
theorem cfront_no (w : World) (n : Int) (A : Option Addr) (cap : Nat) (l : List Mv) (hE : Mvs w w.heap.size A l) (hF : MFits l) (hcap : l.length ≤ cap) (hs : l.length ≤ 17592186044416) (k : Int) (hk0 : 0 ≤ k) (hk1 : k ≤ 255) (q : Nat) (hq : q ≤ l.length) (hmod : k % ((l.length : Int) + 1) = (q : Int)) (h0 : ¬ Plays n l.length) :
    Calls Try.prog 6 #[.int .i64 n, .slice A l.length cap, .int .u8 k] w fun e w' => e = .returned (.bool true) ∧ Below w.heap.size w w' := by
  have hl : l.length ≤ maxLen := by unfold maxLen; omega
  have h0H := Lib.hid h0
  have hno : Hid (¬ (1 ≤ n ∧ n ≤ 6 ∧ (l.length : Int) ≤ 60)) := fun h => h0 ⟨h.1, h.2.1, by omega⟩
  have hpre := Lib.hid (fun (w : World) (hE : Mvs w w.heap.size A l) => play_all A cap (l.take q) n w (hE.take q) (hF.take q) (by rw [mpre_len l hq]; omega))
  rw [mpre_len l hq] at hpre
  clear h0 hF
  go_enter Try.func6, Try.ntmps6
  go_wp2_with fail
  refine (play_no A cap l n _ hl h0H.out).mono ?_
  rintro e w1 ⟨rfl, hB1⟩
  have hB2 := hB1.alloc hB1.size (.cells #[.slice none 0 0, .slice none 0 0] 26)
  have hE2 := (hE.below hB2).more hB2.size
  clear hB1
  go_wp2_with fail
  generalize w1.alloc (.cells #[.slice none 0 0, .slice none 0 0] 26) = w2 at *
  refine (hpre.out w2 hE2).mono ?_
  rintro e w3 ⟨A1, n1, c1, A2, n2, c2, c, rfl, hB3⟩
  have hB4 := (hB2.trans (hB3.mono hB2.size)).alloc (by have := hB3.size; have := hB2.size; omega) (.cells #[.slice A1 n1 c1, .slice A2 n2 c2] 26)
  clear hB2 hB3 hE2
  go_wp2_with fail
  generalize w3.alloc (.cells #[.slice A1 n1 c1, .slice A2 n2 c2] 26) = w4 at *
  refine (played_any w4 n (l.length : Int) false ⟨fun h => absurd h (by decide), fun h => absurd h hno.out⟩).mono ?_
  rintro e w5 ⟨rfl, rfl⟩
  go_wp2_with fail
  go_ret
  exact ⟨rfl, hB4⟩

def FroRel (w w4 wr : World) : Prop := Below w.heap.size w wr ∧ Below w4.heap.size w4 wr

set_option maxHeartbeats 4000000 in
set_option maxRecDepth 100000 in
theorem cfront_ok (w : World) (n : Nat) (A : Option Addr) (cap : Nat) (l : List Mv) (hE : Mvs w w.heap.size A l) (hF : MFits l) (hcap : l.length ≤ cap) (k : Int) (hk0 : 0 ≤ k) (hk1 : k ≤ 255) (q : Nat) (hq : q ≤ l.length) (hmod : k % ((l.length : Int) + 1) = (q : Int)) (h0 : Plays (n : Int) l.length) :
    Calls Try.prog 6 #[.int .i64 (n : Int), .slice A l.length cap, .int .u8 k] w fun e w' => e = .returned (.bool true) ∧ Below w.heap.size w w' := by
  have h60 := h0.2.2
  have hl : l.length ≤ maxLen := by unfold maxLen; omega
  have h0H := Lib.hid h0
  have h0q : Hid (Plays (n : Int) (l.take q).length) := ⟨h0.1, h0.2.1, by rw [mpre_len l hq]; omega⟩
  have hn6 : n ≤ 6 := by have := h0.2.1; omega
  have hpre := Lib.hid (fun (w : World) (hE : Mvs w w.heap.size A l) => play_ok A cap (l.take q) n w (hE.take q) (hF.take q) h0q.out)
  rw [mpre_len l hq] at hpre
  have hFH := Lib.hid hF
  clear h0 hF h0q
  go_enter Try.func6, Try.ntmps6
  go_wp2_with fail
  refine (play_ok A cap l n _ hE hFH.out h0H.out).mono ?_
  rintro e w1 ⟨gc, T, rfl, _, hT1, hB1⟩
  unfold hrdVal
  have hR2 := Row.made w1 26 [.slice (some ⟨gc, 0, none⟩) l.length l.length, .slice (some ⟨T, 0, none⟩) n n]
  have hba := (Below.refl w1.heap.size w1).alloc (Nat.le_refl _) (.cells #[.slice (some ⟨gc, 0, none⟩) l.length l.length, .slice (some ⟨T, 0, none⟩) n n] 26)
  have hT2 := hT1.within hba
  have hB2 := hB1.alloc hB1.size (.cells #[.slice (some ⟨gc, 0, none⟩) l.length l.length, .slice (some ⟨T, 0, none⟩) n n] 26)
  have hE2 := (hE.below hB2).more hB2.size
  clear hB1 hT1 hba
  go_wp2_with fail
  generalize w1.alloc (.cells #[.slice (some ⟨gc, 0, none⟩) l.length l.length, .slice (some ⟨T, 0, none⟩) n n] 26) = w2 at *
  generalize w1.heap.size = b1 at *
  refine (hpre.out w2 hE2).mono ?_
  rintro e w3 ⟨gc3, T3, he, _, hT3, hB3⟩
  rw [mpre_len l hq] at he
  subst he
  unfold hrdVal
  have hR3 := hR2.below hB3 hR2.lt
  have hT23 := hT2.within hB3
  have hB4 := hB2.trans (hB3.mono hB2.size)
  clear hR2 hT2 hB2 hB3 hE2
  have hbb := (Below.refl w3.heap.size w3).alloc (Nat.le_refl _) (.cells #[.slice (some ⟨gc3, 0, none⟩) q q, .slice (some ⟨T3, 0, none⟩) n n] 26)
  have hR4 := hR3.alloc (.cells #[.slice (some ⟨gc3, 0, none⟩) q q, .slice (some ⟨T3, 0, none⟩) n n] 26)
  have hR5 := Row.made w3 26 [.slice (some ⟨gc3, 0, none⟩) q q, .slice (some ⟨T3, 0, none⟩) n n]
  have hT34 := hT3.within hbb
  have hT24 := hT23.within hbb
  have hB5 := hB4.alloc hB4.size (.cells #[.slice (some ⟨gc3, 0, none⟩) q q, .slice (some ⟨T3, 0, none⟩) n n] 26)
  rw [mpre_len l hq, cAt_take n l (Nat.le_refl _)] at hT34
  clear hR3 hT3 hT23 hB4 hbb
  have x0 := hR4.cell (i := 0) (by simp)
  have x1 := hR4.cell (i := 1) (by simp)
  have z0 := hR5.cell (i := 0) (by simp)
  have z1 := hR5.cell (i := 1) (by simp)
  simp only [List.getElem_cons_zero, List.getElem_cons_succ] at x0 x1 z0 z1
  have hltb1 := hR4.lt
  have hltb2 := hR5.lt
  have hT34H := Lib.hid hT34
  have hT24H := Lib.hid hT24
  have hB5H := Lib.hid hB5
  clear hT34 hT24 hB5 hR4 hR5
  go_wp2_with fail
  generalize w3.alloc (.cells #[.slice (some ⟨gc3, 0, none⟩) q q, .slice (some ⟨T3, 0, none⟩) n n] 26) = w4 at *
  generalize w3.heap.size = b2 at *
  go_loopw [12] (fun t wr => ∃ k : Nat, k ≤ n ∧ t = .int .i64 k ∧ FroRel w w4 wr) (fun t _ => n - (intOf t).toNat)
  case atStart => exact ⟨0, Nat.zero_le _, rfl, hB5H.out, Below.refl _ _⟩
  case round =>
    obtain ⟨p, hp, rfl, hBw, hB⟩ := hrel
    have u1 : wr.cell? ⟨b1, 1, none⟩ = some (.slice (some ⟨T, 0, none⟩) n n) := (hB.cell (p := ⟨b1, 1, none⟩) hltb1).trans x1
    have u3 : wr.cell? ⟨b2, 1, none⟩ = some (.slice (some ⟨T3, 0, none⟩) n n) := (hB.cell (p := ⟨b2, 1, none⟩) hltb2).trans z1
    by_cases hlt : p < n
    · have hpI : (p : Int) < (n : Int) := by omega
      have hl1 : p < (toldL n (cAt n l l.length)).length := by simp [toldL]; exact hlt
      have hl3 : p < (toldL n (cAt n l q)).length := by simp [toldL]; exact hlt
      obtain ⟨b, off, e1, hbl1, hc1⟩ := (hT24H.out.within hB) (by omega)
      obtain ⟨rfl, rfl⟩ : T = b ∧ 0 = off := by injection e1 with e1; injection e1 with e1 e2; exact ⟨e1, e2⟩
      obtain ⟨A1, ci1, y1, hr1, hN1⟩ := hc1 p hl1
      obtain ⟨b', off', e3, hbl3, hc3⟩ := (hT34H.out.within hB) (by omega)
      obtain ⟨rfl, rfl⟩ : T3 = b' ∧ 0 = off' := by injection e3 with e1; injection e1 with e1 e2; exact ⟨e1, e2⟩
      obtain ⟨A3, ci3, y3, hr3, hN3⟩ := hc3 p hl3
      have ee1 : (toldL n (cAt n l l.length))[p] = zs ((cAt n l l.length).td p) := by simp [toldL]
      have ee3 : (toldL n (cAt n l q))[p] = zs ((cAt n l q).td p) := by simp [toldL]
      rw [ee1] at y1 hr1 hN1
      rw [ee3] at y3 hr3 hN3
      obtain ⟨s, hs⟩ := cAt_td n l hq p
      have hle : (zs ((cAt n l q).td p)).length ≤ (zs ((cAt n l l.length).td p)).length := by rw [hs]; simp [zs]
      have htk : Hid ((zs ((cAt n l l.length).td p)).take (zs ((cAt n l q).td p)).length = zs ((cAt n l q).td p)) := by unfold Hid; rw [hs]; simp [zs]
      have hl60 : (zs ((cAt n l l.length).td p)).length ≤ 1000 := by rw [zs_len]; have := (cAt_len n l l.length p).1; omega
      clear hc1 hc3 hs ee1 ee3 e1 e3
      generalize zs ((cAt n l l.length).td p) = L1 at *
      generalize zs ((cAt n l q).td p) = L3 at *
      have hgd : decide ((L1.length : Int) < (L3.length : Int)) = false := by simp; omega
      have hleI : (L3.length : Int) ≤ (ci1 : Int) := by omega
      rw [Nat.zero_add] at y1 y3
      have v1 := cell_regrown u1
      have v3 := cell_regrown u3
      have v4 := cell_regrown y1
      have v5 := cell_regrown y3
      have cA : Hid (∀ d os, Calls Try.prog 17 #[.slice A3 L3.length ci3, .slice A1 L3.length ci1] (Sort.grow (redrawn wr d) os) fun e w'' => e = .returned (.bool true) ∧ ∃ p : Regrown, w'' = Sort.grow (redrawn wr p.d) p.os) := fun d os => Calls.regrown_of (by
        have hbr := below_regrown wr d os
        have m1 := (hN1.below hbr).more hbr.size
        have m3 := (hN3.below hbr).more hbr.size
        have m2 := nums_take m1 L3.length
        rw [htk.out] at m2
        exact ints_same A3 A1 ci3 ci1 L3 _ m3 m2 (by omega))
      clear u1 u3 y1 y3 hN1 hN3 x0 x1 z0 z1
      go_wp2_with fail
      refine wp_region_quiet_below (by kernel_rfl) (by kernel_rfl) ?_
      repeat (quiet_step (exact cA.out _ _))
      refine wpQuiet_nil ?_
      intro _ hw'
      obtain ⟨⟨dq, osq⟩, hw''⟩ := hw'
      subst hw''
      have hB6 := hB.trans ((below_regrown wr dq osq).mono hB.size)
      have hBw6 := hBw.trans ((below_regrown wr dq osq).mono hBw.size)
      clear v1 v3 v4 v5 cA
      generalize Sort.grow (redrawn wr dq) osq = w7 at *
      go_wp2_with fail
      go_roundw
      case rel => exact ⟨p + 1, by omega, by go_num, hBw6, hB6⟩
      case measure => simp [intOf]; omega
    · have hpn : p = n := by omega
      subst hpn
      go_wp2_with fail
      go_ret
      exact ⟨rfl, hBw⟩

theorem causalFront_law (w : World) (n : Int) (_hn : I64 n) (A : Option Addr) (cap : Nat) (l : List Mv) (hE : Mvs w w.heap.size A l) (hF : MFits l) (hcap : l.length ≤ cap) (_hl : l.length ≤ maxLen) (hs : l.length ≤ 17592186044416) (k : Int) (hk : 0 ≤ k ∧ k ≤ 255) :
    Calls Try.prog 6 #[.int .i64 n, .slice A l.length cap, .int .u8 k] w fun e w' => e = .returned (.bool true) ∧ Below w.heap.size w w' := by
  have hm1 : 0 ≤ k % ((l.length : Int) + 1) := Int.emod_nonneg _ (by omega)
  have hm2 : k % ((l.length : Int) + 1) < (l.length : Int) + 1 := Int.emod_lt_of_pos _ (by omega)
  obtain ⟨q, hq⟩ := Int.eq_ofNat_of_zero_le hm1
  have hql : q ≤ l.length := by omega
  by_cases h0 : Plays n l.length
  · have h1 := h0.1
    obtain ⟨c, rfl⟩ := Int.eq_ofNat_of_zero_le (show 0 ≤ n by omega)
    exact cfront_ok w c A cap l hE hF hcap k hk.1 hk.2 q hql hq h0
  · exact cfront_no w n A cap l hE hF hcap hs k hk.1 hk.2 q hql hq h0

#print axioms causalFront_law
end Go.Proofs.Ytkchccaeopdemaa
