/-
  The walk of the law QuietStays: what is told to be done stays done.
-/
import Derived.Test.YtichcahlokjblaaQpl
import Derived.Test.YtichcahlokjblaaPlq
import Derived.Lib.QuietBelow
namespace Go.Proofs.Ytichcahlokjblaa
open Go.RowKit Go.Maps
set_option linter.unusedVariables false

def PlqAny (w : World) (e : Ending) (w' : World) : Prop :=
  ∃ A1 n1 c1 D W y c, e = .returned (.tuple #[.agg #[.slice A1 n1 c1, .bool D, .int .u32 W, .int .i64 y], .int .i64 c]) ∧ Below w.heap.size w w'
theorem play_all (A : Option Addr) (cap : Nat) (l : List Mv) (n : Int) (w : World) (hE : Mvs w w.heap.size A l) (hF : MFits l) (hl : l.length ≤ maxLen) :
    Calls Try.prog 6 #[.int .i64 n, .slice A l.length cap] w (PlqAny w) := by
  by_cases h : Plays n l.length
  · have h1 := h.1
    obtain ⟨c, rfl⟩ := Int.eq_ofNat_of_zero_le (show 0 ≤ n by omega)
    refine (play_ok A cap l c w hE hF h).mono ?_
    rintro e w' ⟨gc, rfl, _, _, hB⟩
    exact ⟨_, _, _, _, _, _, _, rfl, hB⟩
  · refine (play_no A cap l n w hl h).mono ?_
    rintro e w' ⟨rfl, hB⟩
    exact ⟨_, _, _, _, _, _, _, rfl, hB⟩
theorem mpre_len (l : List Mv) {q : Nat} (hq : q ≤ l.length) : (l.take q).length = q := by simp; omega
theorem done_later {n : Nat} (hn : 0 < n) (l : List Mv) {q : Nat} (hq : q ≤ l.length) (h : doneB n (qAt n (l.take q) q) = true) : doneB n (qAt n l l.length) = true := by
  rw [qAt_take n l q q (Nat.le_refl _)] at h
  obtain ⟨h1, h2⟩ := (QOk.at_ hn l q).safe.1 ((doneB_iff _ _).1 h)
  rw [stays l hq h1 h2]; exact h

set_option maxHeartbeats 1000000 in
set_option maxRecDepth 100000 in
theorem qstays_no (w : World) (n : Int) (A : Option Addr) (cap : Nat) (l : List Mv) (hE : Mvs w w.heap.size A l) (hF : MFits l) (hcap : l.length ≤ cap) (hs : l.length ≤ 17592186044416) (k : Int) (hk0 : 0 ≤ k) (hk1 : k ≤ 255) (q : Nat) (hq : q ≤ l.length) (hmod : k % ((l.length : Int) + 1) = (q : Int)) (h0 : ¬ Plays n l.length) :
    Calls Try.prog 5 #[.int .i64 n, .slice A l.length cap, .int .u8 k] w fun e w' => e = .returned (.bool true) ∧ Below w.heap.size w w' := by
  have hl : l.length ≤ maxLen := by unfold maxLen; omega
  have h0H := Lib.hid h0
  have hno : Hid (¬ (1 ≤ n ∧ n ≤ 6 ∧ (l.length : Int) ≤ 60)) := fun h => h0 ⟨h.1, h.2.1, by omega⟩
  have hpre := Lib.hid (fun (w : World) (hE : Mvs w w.heap.size A l) => play_all A cap (l.take q) n w (hE.take q) (hF.take q) (by rw [mpre_len l hq]; omega))
  rw [mpre_len l hq] at hpre
  clear h0 hF
  go_enter Try.func5, Try.ntmps5
  go_wp2_with fail
  refine (play_no A cap l n _ hl h0H.out).mono ?_
  rintro e w1 ⟨rfl, hB1⟩
  have hB2 := hB1.alloc hB1.size (.cells #[.slice none 0 0, .bool false, .int .u32 0, .int .i64 0] 26)
  have hE2 := (hE.below hB2).more hB2.size
  clear hB1
  go_wp2_with fail
  generalize w1.alloc (.cells #[.slice none 0 0, .bool false, .int .u32 0, .int .i64 0] 26) = w2 at *
  refine (hpre.out w2 hE2).mono ?_
  rintro e w3 ⟨A1, n1, c1, D, W, y, c, rfl, hB3⟩
  have hB4 := (hB2.trans (hB3.mono hB2.size)).alloc (by have := hB3.size; have := hB2.size; omega) (.cells #[.slice A1 n1 c1, .bool D, .int .u32 W, .int .i64 y] 26)
  clear hB2 hB3 hE2
  go_wp2_with fail
  generalize w3.alloc (.cells #[.slice A1 n1 c1, .bool D, .int .u32 W, .int .i64 y] 26) = w4 at *
  refine (played_any w4 n (l.length : Int) false ⟨fun h => absurd h (by decide), fun h => absurd h hno.out⟩).mono ?_
  rintro e w5 ⟨rfl, rfl⟩
  go_wp2_with fail
  go_ret
  exact ⟨rfl, hB4⟩

set_option maxHeartbeats 4000000 in
set_option maxRecDepth 100000 in
theorem qstays_ok (w : World) (n : Nat) (A : Option Addr) (cap : Nat) (l : List Mv) (hE : Mvs w w.heap.size A l) (hF : MFits l) (hcap : l.length ≤ cap) (k : Int) (hk0 : 0 ≤ k) (hk1 : k ≤ 255) (q : Nat) (hq : q ≤ l.length) (hmod : k % ((l.length : Int) + 1) = (q : Int)) (h0 : Plays (n : Int) l.length) :
    Calls Try.prog 5 #[.int .i64 (n : Int), .slice A l.length cap, .int .u8 k] w fun e w' => e = .returned (.bool true) ∧ Below w.heap.size w w' := by
  have h60 := h0.2.2
  have hn0 : 0 < n := by have := h0.1; omega
  have hl : l.length ≤ maxLen := by unfold maxLen; omega
  have h0H := Lib.hid h0
  have h0q : Hid (Plays (n : Int) (l.take q).length) := ⟨h0.1, h0.2.1, by rw [mpre_len l hq]; omega⟩
  have hpre := Lib.hid (fun (w : World) (hE : Mvs w w.heap.size A l) => play_ok A cap (l.take q) n w (hE.take q) (hF.take q) h0q.out)
  rw [mpre_len l hq] at hpre
  have hFH := Lib.hid hF
  have hND : Hid (doneB n (qAt n (l.take q) q) = true → doneB n (qAt n l l.length) = true) := done_later hn0 l hq
  clear h0 hF h0q
  go_enter Try.func5, Try.ntmps5
  go_wp2_with fail
  refine (play_ok A cap l n _ hE hFH.out h0H.out).mono ?_
  rintro e w1 ⟨gc, rfl, hO1, hgc1, hB1⟩
  unfold qtVal
  generalize doneB n (qAt n l l.length) = D at *
  generalize wordB n (qAt n l l.length).act = W at *
  generalize wayS n (qAt n l l.length) = y at *
  have hR2 := Row.made w1 26 [.slice (some ⟨gc, 0, none⟩) l.length l.length, .bool D, .int .u32 (W : Int), .int .i64 y]
  have hO2 := Row.alloc hO1 (.cells #[.slice (some ⟨gc, 0, none⟩) l.length l.length, .bool D, .int .u32 (W : Int), .int .i64 y] 26)
  have hB2 := hB1.alloc hB1.size (.cells #[.slice (some ⟨gc, 0, none⟩) l.length l.length, .bool D, .int .u32 (W : Int), .int .i64 y] 26)
  have hE2 := (hE.below hB2).more hB2.size
  clear hB1 hO1 hgc1
  go_wp2_with fail
  generalize w1.alloc (.cells #[.slice (some ⟨gc, 0, none⟩) l.length l.length, .bool D, .int .u32 (W : Int), .int .i64 y] 26) = w2 at *
  generalize w1.heap.size = b1 at *
  refine (hpre.out w2 hE2).mono ?_
  rintro e w3 ⟨gc3, he, hO3, hgc3, hB3⟩
  rw [mpre_len l hq] at he
  subst he
  unfold qtVal
  generalize doneB n (qAt n (l.take q) q) = D3 at *
  generalize wordB n (qAt n (l.take q) q).act = W3 at *
  generalize wayS n (qAt n (l.take q) q) = y3 at *
  have hR3 := hR2.below hB3 hR2.lt
  have hO23 := Row.below hO2 hB3 (Row.lt hO2)
  have hB4 := hB2.trans (hB3.mono hB2.size)
  clear hR2 hO2 hB2 hB3 hE2 hgc3
  have hR4 := hR3.alloc (.cells #[.slice (some ⟨gc3, 0, none⟩) q q, .bool D3, .int .u32 (W3 : Int), .int .i64 y3] 26)
  have hR5 := Row.made w3 26 [.slice (some ⟨gc3, 0, none⟩) q q, .bool D3, .int .u32 (W3 : Int), .int .i64 y3]
  have hO4 := Row.alloc hO3 (.cells #[.slice (some ⟨gc3, 0, none⟩) q q, .bool D3, .int .u32 (W3 : Int), .int .i64 y3] 26)
  have hO24 := hO23.alloc (.cells #[.slice (some ⟨gc3, 0, none⟩) q q, .bool D3, .int .u32 (W3 : Int), .int .i64 y3] 26)
  have hB5 := hB4.alloc hB4.size (.cells #[.slice (some ⟨gc3, 0, none⟩) q q, .bool D3, .int .u32 (W3 : Int), .int .i64 y3] 26)
  clear hR3 hO3 hO23 hB4
  go_wp2_with fail
  generalize w3.alloc (.cells #[.slice (some ⟨gc3, 0, none⟩) q q, .bool D3, .int .u32 (W3 : Int), .int .i64 y3] 26) = w4 at *
  generalize w3.heap.size = b2 at *
  have y0 := cell_regrown (hR4.cell (i := 0) (by simp))
  have y1 := cell_regrown (hR4.cell (i := 1) (by simp))
  have z0 := cell_regrown (hR5.cell (i := 0) (by simp))
  have z1 := cell_regrown (hR5.cell (i := 1) (by simp))
  simp only [List.getElem_cons_zero, List.getElem_cons_succ] at y0 y1 z0 z1
  have cA : Hid (∀ d os, Calls Try.prog 9 #[.slice (some ⟨gc, 0, none⟩) q l.length, .slice (some ⟨gc3, 0, none⟩) q q] (Sort.grow (redrawn w4 d) os) fun e w'' => e = .returned (.bool true) ∧ ∃ p : Regrown, w'' = Sort.grow (redrawn w4 p.d) p.os) := fun d os => Calls.regrown_of (by
    have hA : CodRow (Sort.grow (redrawn w4 d) os) gc l.length (codeQ n l) := Row.below hO24 (below_regrown w4 d os) (Row.lt hO24)
    have hB : CodRow (Sort.grow (redrawn w4 d) os) gc3 (l.take q).length (codeQ n (l.take q)) := Row.below hO4 (below_regrown w4 d os) (Row.lt hO4)
    have hA1 : Nums (Sort.grow (redrawn w4 d) os) (Sort.grow (redrawn w4 d) os).heap.size (some ⟨gc, 0, none⟩) ((List.range q).map (codeQ n l)) := by
      intro _
      refine ⟨gc, 0, rfl, Row.lt hA, fun i hi => ?_⟩
      have hi' : i < q := by simpa using hi
      rw [Nat.zero_add, CodRow.at_ hA (by omega)]
      simp
    have hB1 := CodRow.nums hB
    rw [mpre_len l hq] at hB1
    have e : (List.range q).map (codeQ n (l.take q)) = (List.range q).map (codeQ n l) := List.map_congr_left fun i hi => codeQ_take n l q i (List.mem_range.1 hi)
    rw [e] at hB1
    have := codes_same (some ⟨gc, 0, none⟩) (some ⟨gc3, 0, none⟩) l.length q _ _ hA1 hB1 (by simp; omega)
    rw [List.length_map, List.length_range] at this
    exact this)
  clear hO4 hO24 hR4 hR5
  have hqI : (q : Int) ≤ (l.length : Int) := by omega
  cases D3 with
  | false =>
    clear hND
    refine wp_region_quiet_below (by kernel_rfl) (by kernel_rfl) ?_
    repeat (quiet_step (exact cA.out _ _))
    refine wpQuiet_nil ?_
    intro _ hw'
    obtain ⟨⟨dq, osq⟩, hw''⟩ := hw'
    subst hw''
    have hB6 := hB5.trans ((below_regrown w4 dq osq).mono hB5.size)
    generalize Sort.grow (redrawn w4 dq) osq = w7 at *
    clear y0 y1 z0 z1
    go_wp2_with fail
    go_ret
    exact ⟨by simp, hB6⟩
  | true =>
    have hDt : D = true := hND.out rfl
    subst hDt
    clear hND
    refine wp_region_quiet_below (by kernel_rfl) (by kernel_rfl) ?_
    repeat (quiet_step (exact cA.out _ _))
    refine wpQuiet_nil ?_
    intro _ hw'
    obtain ⟨⟨dq, osq⟩, hw''⟩ := hw'
    subst hw''
    have hB6 := hB5.trans ((below_regrown w4 dq osq).mono hB5.size)
    generalize Sort.grow (redrawn w4 dq) osq = w7 at *
    clear y0 y1 z0 z1
    go_wp2_with fail
    go_ret
    exact ⟨by simp, hB6⟩

theorem quietStays_law (w : World) (n : Int) (_hn : I64 n) (A : Option Addr) (cap : Nat) (l : List Mv) (hE : Mvs w w.heap.size A l) (hF : MFits l) (hcap : l.length ≤ cap) (_hl : l.length ≤ maxLen) (hs : l.length ≤ 17592186044416) (k : Int) (hk : 0 ≤ k ∧ k ≤ 255) :
    Calls Try.prog 5 #[.int .i64 n, .slice A l.length cap, .int .u8 k] w fun e w' => e = .returned (.bool true) ∧ Below w.heap.size w w' := by
  have hm1 : 0 ≤ k % ((l.length : Int) + 1) := Int.emod_nonneg _ (by omega)
  have hm2 : k % ((l.length : Int) + 1) < (l.length : Int) + 1 := Int.emod_lt_of_pos _ (by omega)
  obtain ⟨q, hq⟩ := Int.eq_ofNat_of_zero_le hm1
  have hql : q ≤ l.length := by omega
  by_cases h0 : Plays n l.length
  · have h1 := h0.1
    obtain ⟨c, rfl⟩ := Int.eq_ofNat_of_zero_le (show 0 ≤ n by omega)
    exact qstays_ok w c A cap l hE hF hcap k hk.1 hk.2 q hql hq h0
  · exact qstays_no w n A cap l hE hF hcap hs k hk.1 hk.2 q hql hq h0

#print axioms quietStays_law
end Go.Proofs.Ytichcahlokjblaa
