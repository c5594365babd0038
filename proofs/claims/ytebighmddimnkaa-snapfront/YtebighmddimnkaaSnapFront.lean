/-
  The walk of the law SnapFront: what comes later changes no code.
-/
import Derived.Test.YtebighmddimnkaaPld
import Derived.Test.YtebighmddimnkaaMon
import Derived.Lib.QuietBelow
import Derived.BigQuiet
import Derived.Deep.QuietTactic
namespace Go.Proofs.Ytebighmddimnkaa
open Go.RowKit Go.Maps

def PlyAny (w : World) (e : Ending) (w' : World) : Prop :=
  ∃ A1 n1 c1 D A2 n2 c2 A3 n3 c3 c, e = .returned (.tuple #[.agg #[.slice A1 n1 c1, .bool D, .slice A2 n2 c2, .slice A3 n3 c3], .int .i64 c]) ∧ Below w.heap.size w w'
theorem play_all (A : Option Addr) (cap : Nat) (l : List Mv) (n : Int) (w : World) (hE : Mvs w w.heap.size A l) (hF : MFits l) (hl : l.length ≤ maxLen) :
    Calls Try.prog 7 #[.int .i64 n, .slice A l.length cap] w (PlyAny w) := by
  by_cases h : Plays n l.length
  · have h1 := h.1
    obtain ⟨c, rfl⟩ := Int.eq_ofNat_of_zero_le (show 0 ≤ n by omega)
    refine (play_ok A cap l c w hE hF h).mono ?_
    rintro e w' ⟨gc, gk, T, rw, D, rfl, _, _, hB⟩
    exact ⟨_, _, _, _, _, _, _, _, _, _, _, rfl, hB⟩
  · refine (play_no A cap l n w hl h).mono ?_
    rintro e w' ⟨rfl, hB⟩
    exact ⟨_, _, _, _, _, _, _, _, _, _, _, rfl, hB⟩
theorem mpre_len (l : List Mv) {q : Nat} (hq : q ≤ l.length) : (l.take q).length = q := by simp; omega

set_option maxHeartbeats 1000000 in
set_option maxRecDepth 100000 in
theorem snapfront_no (w : World) (n : Int) (A : Option Addr) (cap : Nat) (l : List Mv) (hE : Mvs w w.heap.size A l) (hF : MFits l) (hcap : l.length ≤ cap) (hs : l.length ≤ 17592186044416) (k : Int) (hk0 : 0 ≤ k) (hk1 : k ≤ 255) (q : Nat) (hq : q ≤ l.length) (hmod : k % ((l.length : Int) + 1) = (q : Int)) (h0 : ¬ Plays n l.length) :
    Calls Try.prog 6 #[.int .i64 n, .slice A l.length cap, .int .u8 k] w fun e w' => e = .returned (.bool true) ∧ Below w.heap.size w w' := by
  have hl : l.length ≤ maxLen := by unfold maxLen; omega
  have h0H := Lib.hid h0
  have hno : Hid (¬ (1 ≤ n ∧ n ≤ 6 ∧ (l.length : Int) ≤ 60)) := fun h => h0 ⟨h.1, h.2.1, by omega⟩
  have hpre := Lib.hid (fun (w : World) (hE : Mvs w w.heap.size A l) => play_all A cap (l.take q) n w (hE.take q) (hF.take q) (by rw [mpre_len l hq]; omega))
  rw [mpre_len l hq] at hpre
  clear h0 hF
  go_enter Try.func6, Try.ntmps6
  go_wp2_with fail
  refine (play_no A cap l n _ hl h0H.out).mono ?_
  rintro e w1 ⟨rfl, hB1⟩
  have hB2 := hB1.alloc hB1.size (.cells #[.slice none 0 0, .bool false, .slice none 0 0, .slice none 0 0] 27)
  have hE2 := (hE.below hB2).more hB2.size
  clear hB1
  go_wp2_with fail
  generalize w1.alloc (.cells #[.slice none 0 0, .bool false, .slice none 0 0, .slice none 0 0] 27) = w2 at *
  refine (hpre.out w2 hE2).mono ?_
  rintro e w3 ⟨A1, n1, c1, D, A2, n2, c2, A3, n3, c3, c, rfl, hB3⟩
  have hB4 := (hB2.trans (hB3.mono hB2.size)).alloc (by have := hB3.size; have := hB2.size; omega) (.cells #[.slice A1 n1 c1, .bool D, .slice A2 n2 c2, .slice A3 n3 c3] 27)
  clear hB2 hB3 hE2
  go_wp2_with fail
  generalize w3.alloc (.cells #[.slice A1 n1 c1, .bool D, .slice A2 n2 c2, .slice A3 n3 c3] 27) = w4 at *
  refine (played_any w4 n (l.length : Int) false ⟨fun h => absurd h (by decide), fun h => absurd h hno.out⟩).mono ?_
  rintro e w5 ⟨rfl, rfl⟩
  go_wp2_with fail
  go_ret
  exact ⟨rfl, hB4⟩

set_option maxHeartbeats 4000000 in
set_option maxRecDepth 100000 in
theorem snapfront_ok (w : World) (n : Nat) (A : Option Addr) (cap : Nat) (l : List Mv) (hE : Mvs w w.heap.size A l) (hF : MFits l) (hcap : l.length ≤ cap) (k : Int) (hk0 : 0 ≤ k) (hk1 : k ≤ 255) (q : Nat) (hq : q ≤ l.length) (hmod : k % ((l.length : Int) + 1) = (q : Int)) (h0 : Plays (n : Int) l.length) :
    Calls Try.prog 6 #[.int .i64 (n : Int), .slice A l.length cap, .int .u8 k] w fun e w' => e = .returned (.bool true) ∧ Below w.heap.size w w' := by
  have h60 := h0.2.2
  have hl : l.length ≤ maxLen := by unfold maxLen; omega
  have h0H := Lib.hid h0
  have h0q : Hid (Plays (n : Int) (l.take q).length) := ⟨h0.1, h0.2.1, by rw [mpre_len l hq]; omega⟩
  have hpre := Lib.hid (fun (w : World) (hE : Mvs w w.heap.size A l) => play_ok A cap (l.take q) n w (hE.take q) (hF.take q) h0q.out)
  rw [mpre_len l hq] at hpre
  have hFH := Lib.hid hF
  clear h0 hF h0q
  go_enter Try.func6, Try.ntmps6
  go_wp2_with fail
  refine (play_ok A cap l n _ hE hFH.out h0H.out).mono ?_
  rintro e w1 ⟨gc, gk, T, rw1, D, rfl, hD, hO1, hB1⟩
  have hDH := Lib.hid hD
  clear hD
  unfold snpVal
  have hR2 := Row.made w1 27 [.slice (some ⟨gc, 0, none⟩) l.length l.length, .bool D, .slice (some ⟨gk, 0, none⟩) n n, .slice (some ⟨T, 0, none⟩) n n]
  have hO2 := hO1.alloc (.cells #[.slice (some ⟨gc, 0, none⟩) l.length l.length, .bool D, .slice (some ⟨gk, 0, none⟩) n n, .slice (some ⟨T, 0, none⟩) n n] 27)
  have hB2 := hB1.alloc hB1.size (.cells #[.slice (some ⟨gc, 0, none⟩) l.length l.length, .bool D, .slice (some ⟨gk, 0, none⟩) n n, .slice (some ⟨T, 0, none⟩) n n] 27)
  have hE2 := (hE.below hB2).more hB2.size
  clear hB1 hO1
  go_wp2_with fail
  generalize w1.alloc (.cells #[.slice (some ⟨gc, 0, none⟩) l.length l.length, .bool D, .slice (some ⟨gk, 0, none⟩) n n, .slice (some ⟨T, 0, none⟩) n n] 27) = w2 at *
  generalize w1.heap.size = b1 at *
  refine (hpre.out w2 hE2).mono ?_
  rintro e w3 ⟨gc3, gk3, T3, rw3, D3, he, hD3, hO3, hB3⟩
  rw [mpre_len l hq] at he
  subst he
  have hD3H := Lib.hid hD3
  clear hD3
  unfold snpVal
  have hR3 := hR2.below hB3 hR2.lt
  have hO23 := hO2.below hB3
  have hB4 := hB2.trans (hB3.mono hB2.size)
  clear hR2 hO2 hB2 hB3 hE2
  have hR4 := hR3.alloc (.cells #[.slice (some ⟨gc3, 0, none⟩) q q, .bool D3, .slice (some ⟨gk3, 0, none⟩) n n, .slice (some ⟨T3, 0, none⟩) n n] 27)
  have hR5 := Row.made w3 27 [.slice (some ⟨gc3, 0, none⟩) q q, .bool D3, .slice (some ⟨gk3, 0, none⟩) n n, .slice (some ⟨T3, 0, none⟩) n n]
  have hO4 := hO3.alloc (.cells #[.slice (some ⟨gc3, 0, none⟩) q q, .bool D3, .slice (some ⟨gk3, 0, none⟩) n n, .slice (some ⟨T3, 0, none⟩) n n] 27)
  have hO24 := hO23.alloc (.cells #[.slice (some ⟨gc3, 0, none⟩) q q, .bool D3, .slice (some ⟨gk3, 0, none⟩) n n, .slice (some ⟨T3, 0, none⟩) n n] 27)
  have hB5 := hB4.alloc hB4.size (.cells #[.slice (some ⟨gc3, 0, none⟩) q q, .bool D3, .slice (some ⟨gk3, 0, none⟩) n n, .slice (some ⟨T3, 0, none⟩) n n] 27)
  clear hR3 hO3 hO23 hB4
  go_wp2_with fail
  generalize w3.alloc (.cells #[.slice (some ⟨gc3, 0, none⟩) q q, .bool D3, .slice (some ⟨gk3, 0, none⟩) n n, .slice (some ⟨T3, 0, none⟩) n n] 27) = w4 at *
  generalize w3.heap.size = b2 at *
  have hND : Hid (D3 = true → D = true) := fun h => hDH.out.2 (by
    have := hD3H.out.1 h
    rw [mpre_len l hq, stAt_take n l (Nat.le_refl _)] at this
    exact done_later l hq this)
  have y0 := cell_regrown (hR4.cell (i := 0) (by simp))
  have y1 := cell_regrown (hR4.cell (i := 1) (by simp))
  have z0 := cell_regrown (hR5.cell (i := 0) (by simp))
  have z1 := cell_regrown (hR5.cell (i := 1) (by simp))
  simp only [List.getElem_cons_zero, List.getElem_cons_succ] at y0 y1 z0 z1
  have cA : Hid (∀ d os, Calls Try.prog 10 #[.slice (some ⟨gc, 0, none⟩) q l.length, .slice (some ⟨gc3, 0, none⟩) q q] (Sort.grow (redrawn w4 d) os) fun e w'' => e = .returned (.bool true) ∧ ∃ p : Regrown, w'' = Sort.grow (redrawn w4 p.d) p.os) := fun d os => Calls.regrown_of (by
    have hA := (hO24.below (below_regrown w4 d os)).cod
    have hB := (hO4.below (below_regrown w4 d os)).cod
    have hA1 : Nums (Sort.grow (redrawn w4 d) os) (Sort.grow (redrawn w4 d) os).heap.size (some ⟨gc, 0, none⟩) ((List.range q).map (codeAt n l)) := by
      intro _
      refine ⟨gc, 0, rfl, Row.lt hA, fun i hi => ?_⟩
      have hi' : i < q := by simpa using hi
      rw [Nat.zero_add, CodRow.at_ hA (by omega)]
      simp
    have hB1 := CodRow.nums hB
    rw [mpre_len l hq] at hB1
    have e : (List.range q).map (codeAt n (l.take q)) = (List.range q).map (codeAt n l) := List.map_congr_left fun i hi => codeAt_take n l (List.mem_range.1 hi)
    rw [e] at hB1
    have := codes_same (some ⟨gc, 0, none⟩) (some ⟨gc3, 0, none⟩) l.length q _ _ hA1 hB1 (by simp; omega)
    rw [List.length_map, List.length_range] at this
    exact this)
  clear hO4 hO24 hR4 hR5 hDH hD3H
  have hqI : (q : Int) ≤ (l.length : Int) := by omega
  cases D3 with
  | false =>
    clear hND
    refine wp_region_quiet_below (by kernel_rfl) (by kernel_rfl) ?_
    repeat (quiet_step (exact cA.out _ _))
    refine wpQuiet_nil ?_
    intro _ hw'
    obtain ⟨⟨dq, osq⟩, hw''⟩ := hw'
    subst hw''
    have hB6 := hB5.trans ((below_regrown w4 dq osq).mono hB5.size)
    generalize Sort.grow (redrawn w4 dq) osq = w7 at *
    clear y0 y1 z0 z1
    go_wp2_with fail
    go_ret
    exact ⟨by simp, hB6⟩
  | true =>
    have hDt : D = true := hND.out rfl
    subst hDt
    clear hND
    refine wp_region_quiet_below (by kernel_rfl) (by kernel_rfl) ?_
    repeat (quiet_step (exact cA.out _ _))
    refine wpQuiet_nil ?_
    intro _ hw'
    obtain ⟨⟨dq, osq⟩, hw''⟩ := hw'
    subst hw''
    have hB6 := hB5.trans ((below_regrown w4 dq osq).mono hB5.size)
    generalize Sort.grow (redrawn w4 dq) osq = w7 at *
    clear y0 y1 z0 z1
    go_wp2_with fail
    go_ret
    exact ⟨by simp, hB6⟩

theorem snapFront_law (w : World) (n : Int) (_hn : I64 n) (A : Option Addr) (cap : Nat) (l : List Mv) (hE : Mvs w w.heap.size A l) (hF : MFits l) (hcap : l.length ≤ cap) (_hl : l.length ≤ maxLen) (hs : l.length ≤ 17592186044416) (k : Int) (hk : 0 ≤ k ∧ k ≤ 255) :
    Calls Try.prog 6 #[.int .i64 n, .slice A l.length cap, .int .u8 k] w fun e w' => e = .returned (.bool true) ∧ Below w.heap.size w w' := by
  have hm1 : 0 ≤ k % ((l.length : Int) + 1) := Int.emod_nonneg _ (by omega)
  have hm2 : k % ((l.length : Int) + 1) < (l.length : Int) + 1 := Int.emod_lt_of_pos _ (by omega)
  obtain ⟨q, hq⟩ := Int.eq_ofNat_of_zero_le hm1
  have hql : q ≤ l.length := by omega
  by_cases h0 : Plays n l.length
  · have h1 := h0.1
    obtain ⟨c, rfl⟩ := Int.eq_ofNat_of_zero_le (show 0 ≤ n by omega)
    exact snapfront_ok w c A cap l hE hF hcap k hk.1 hk.2 q hql hq h0
  · exact snapfront_no w n A cap l hE hF hcap hs k hk.1 hk.2 q hql hq h0

#print axioms snapFront_law
end Go.Proofs.Ytebighmddimnkaa
