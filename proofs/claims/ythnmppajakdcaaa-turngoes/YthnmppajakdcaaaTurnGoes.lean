/-
  The walk of the law TurnGoes: when all is received somebody is in the critical section, if anybody is requesting.
-/
import Derived.Test.YthnmppajakdcaaaTpl
import Derived.Test.YthnmppajakdcaaaPlq
import Derived.Test.YthnmppajakdcaaaDrn
namespace Go.Proofs.Ythnmppajakdcaaa
open Go.RowKit Go.Maps
set_option linter.unusedVariables false

theorem goes_all {N : Nat} (l : List Mv) : wayT N (tAt N (l ++ (drainP N 8).map cmv) (l ++ (drainP N 8).map cmv).length) = 0 ∧
    (wordB N (tAt N (l ++ (drainP N 8).map cmv) (l ++ (drainP N 8).map cmv).length).req = 0 ∨ wordB N (tAt N (l ++ (drainP N 8).map cmv) (l ++ (drainP N 8).map cmv).length).ins ≠ 0) := by
  rw [tAt_all, runT_append]
  have h1 := runT_inv l TS.begin (TInv.begin N)
  have hq := drained h1
  have hI := runT_inv ((drainP N 8).map cmv) _ h1
  generalize runT N (runT N TS.begin l) ((drainP N 8).map cmv) = S at *
  constructor
  · unfold wayT
    rw [sum2_congr (f := fun _ _ => 0) (fun i j _ _ => by rw [hq i j]; rfl)]
    unfold sum2
    rw [sumN_congr (f := fun _ => 0) (fun i _ => by rw [sumN_const]; simp), sumN_const]; simp
  · by_cases e : wordB N S.req = 0
    · exact .inl e
    · right
      rw [Ne, wordB_zero] at *
      intro h2
      apply e
      intro i hi
      cases hr : S.req i with
      | false => rfl
      | true =>
        obtain ⟨j, hj, hji⟩ := hI.goes hq hr
        rw [h2 j hj] at hji; cases hji

set_option maxHeartbeats 1000000 in
theorem tgoes_far (w : World) (n : Int) (A : Option Addr) (cap : Nat) (l : List Mv) (hl : l.length ≤ maxLen) (h : 3 < n ∨ 8 < l.length) :
    Calls Try.prog 5 #[.int .i64 n, .slice A l.length cap] w fun e w' => e = .returned (.bool true) ∧ Below w.heap.size w w' := by
  have hl2 : (l.length : Int) ≤ 9223372036854775807 := by unfold maxLen at hl; omega
  by_cases h1 : 3 < n
  · go_enter Try.func5, Try.ntmps5
    go_wp2_with fail
    go_ret
    exact ⟨rfl, Below.refl _ _⟩
  · have h2 : 8 < (l.length : Int) := by omega
    clear h
    go_enter Try.func5, Try.ntmps5
    go_wp2_with fail
    go_ret
    exact ⟨rfl, Below.refl _ _⟩

set_option maxHeartbeats 8000000 in
set_option maxRecDepth 100000 in
theorem tgoes_near (w : World) (n : Int) (hn0 : I64 n) (A : Option Addr) (cap : Nat) (l : List Mv) (hE : Mvs w w.heap.size A l) (hF : MFits l) (h1 : n ≤ 3) (h2 : l.length ≤ 8) :
    Calls Try.prog 5 #[.int .i64 n, .slice A l.length cap] w fun e w' => e = .returned (.bool true) ∧ Below w.heap.size w w' := by
  have hlI : (l.length : Int) ≤ 8 := by omega
  obtain ⟨j0, hi0, hz0, hz1, hz2⟩ := info_parts infoMv
  have hJi := Lib.hid hi0; have hJz := Lib.hid hz0; have hJs := Lib.hid hz1; have hJb := Lib.hid hz2
  clear hi0 hz0 hz1 hz2
  have hN3 : n.toNat ≤ 3 := by omega
  have hdl := Lib.hid (drain8_len hN3)
  have hFH : Hid (MFits (l ++ (drainP n.toNat 8).map cmv)) := fun m hm => by
    rcases List.mem_append.1 hm with h | h
    · exact hF m h
    · exact cmv_fits (N := n.toNat) (by omega) drainP_vld m h
  have hgo := Lib.hid (goes_all (N := n.toNat) l)
  have hcall := Lib.hid (fun W => drain_any W n h1 hn0)
  clear hF
  have hW3 : (w.alloc (.cells #[] 38)).ownsRow w.heap.size 38 4 (.slice (some ⟨w.heap.size, 0, none⟩) 0 0) 0 [] := World.ownsRow_lit w #[] 0 (Nat.le_refl _) (by unfold maxLen; omega) (by simp)
  have hB3 := (Below.refl w.heap.size w).alloc (Nat.le_refl _) (.cells #[] 38)
  have hE3 := (hE.below hB3).more hB3.size
  have hsz3 : w.heap.size ≤ (w.alloc (.cells #[] 38)).heap.size := by simp
  generalize hR : (drainP n.toNat 8).map cmv = R at *
  have hRl : Hid (R.length ≤ 48) := by
    have := hdl.out
    rw [← hR]
    unfold Hid
    rw [List.length_map]
    exact this
  unfold DrRes at hcall
  rw [hR] at hcall
  clear hR
  obtain ⟨L, hL⟩ : ∃ L, Hid (l ++ R = L) := ⟨_, rfl⟩
  rw [hL.out] at hgo hFH
  have hLl : L.length ≤ 56 := by
    have := hRl.out
    rw [← hL.out, List.length_append]; omega
  go_enter Try.func5, Try.ntmps5
  go_wp2_with (first
    | (at_builtin; refine wpList_copyM rfl (.tmp 15) (.tmp 16) rfl j0 hJi.out hJz.out hJs.out hJb.out w.heap.size w.heap.size rfl hW3 A cap l rfl hE3 (by omega) hsz3 ?_; intro v4 w4 hW4 hG4
       have hB4 := hB3.grown hG4 hB3.size (by simp)
       have hWH := Lib.hid hW4
       clear hG4 hW4 hW3 hB3 hE3))
  refine (hcall.out _).mono ?_
  rintro e w5 ⟨y, rfl, hD5, hB5⟩
  have hW5 : OwnMvs w5 w.heap.size v4 l := by
    obtain ⟨h7, h8⟩ := hWH.out
    refine ⟨h7, ?_⟩
    rcases h8 with h9 | ⟨g, cp, cur, hv, hb', hg', rest⟩
    · exact .inl h9
    · exact .inr ⟨g, cp, cur, hv, hb', (hB5.block g (by
        rcases Nat.lt_or_ge g w4.heap.size with h | h
        · exact h
        · rw [Array.getElem?_eq_none h] at hg'; cases hg')).trans hg', rest⟩
  have hBx := hB4.trans (hB5.mono hB4.size)
  have hrl := hRl.out
  clear hB4 hB5 hWH hcall
  have hlowO : Hid (∀ b, v4.ownBlock = some b → w.heap.size ≤ b) := hW5.lt
  go_wp2_with (first
    | (at_builtin; refine wpList_append_mvs rfl (.tmp 17) (.tmp 19) rfl j0 hJi.out hJz.out hJs.out hJb.out w.heap.size w4.heap.size v4 y l R rfl hW5 rfl hD5 (by omega) hBx.size ?_; intro v6 w6 hW6 hG6
       rw [hL.out] at hW6
       have hB6 := hBx.grown hG6 hBx.size hlowO.out
       obtain ⟨A6, cap6, hv6, hc61, hc62, hM6⟩ := hW6.shape
       subst hv6
       clear hW5 hD5 hBx hG6 hW6))
  clear hL hrl hRl hdl
  by_cases hn1 : n < 1
  · have hno : Hid (¬ Plays n L.length) := fun h => by have := h.1; omega
    have hno2 : Hid (¬ (1 ≤ n ∧ n ≤ 6 ∧ (L.length : Int) ≤ 60)) := fun h => by have := h.1; omega
    clear hgo
    refine (play_no A6 cap6 L n w6 (by unfold maxLen; omega) hno.out).mono ?_
    rintro e w9 ⟨rfl, hB9⟩
    have hBx := (hB6.trans (hB9.mono hB6.size)).alloc (by have := hB9.size; have := hB6.size; omega) (.cells #[.slice none 0 0, .int .u32 0, .int .u32 0, .int .i64 0] 26)
    clear hB6 hB9
    go_wp2_with fail
    generalize w9.alloc (.cells #[.slice none 0 0, .int .u32 0, .int .u32 0, .int .i64 0] 26) = w10 at *
    refine (played_any w10 n (L.length : Int) false ⟨fun h => absurd h (by decide), fun h => absurd h hno2.out⟩).mono ?_
    rintro e w11 ⟨rfl, rfl⟩
    go_wp2_with fail
    go_ret
    exact ⟨rfl, hBx⟩
  · obtain ⟨N, hNn⟩ := Int.eq_ofNat_of_zero_le (show 0 ≤ n by omega)
    subst hNn
    rw [Int.toNat_natCast] at hgo
    have hyes : Hid (Plays (N : Int) L.length) := ⟨by omega, by omega, by omega⟩
    have hyes2 : Hid (1 ≤ (N : Int) ∧ (N : Int) ≤ 6 ∧ (L.length : Int) ≤ 60) := ⟨by omega, by omega, by omega⟩
    refine (play_ok A6 cap6 L N w6 hM6 hFH.out hyes.out).mono ?_
    rintro e w9 ⟨gc, rfl, hO9, hgc9, hB9⟩
    unfold ttVal
    obtain ⟨hg1, hg2⟩ := hgo.out
    rw [hg1]
    clear hg1 hgo
    generalize wordB N (tAt N L L.length).ins = V at *
    generalize wordB N (tAt N L L.length).req = W at *
    have hR2 := Row.made w9 26 [.slice (some ⟨gc, 0, none⟩) L.length L.length, .int .u32 (V : Int), .int .u32 (W : Int), .int .i64 0]
    have hBx := (hB6.trans (hB9.mono hB6.size)).alloc (by have := hB9.size; have := hB6.size; omega) (.cells #[.slice (some ⟨gc, 0, none⟩) L.length L.length, .int .u32 (V : Int), .int .u32 (W : Int), .int .i64 0] 26)
    clear hB6 hB9 hO9 hgc9
    go_wp2_with fail
    generalize w9.alloc (.cells #[.slice (some ⟨gc, 0, none⟩) L.length L.length, .int .u32 (V : Int), .int .u32 (W : Int), .int .i64 0] 26) = w10 at *
    generalize w9.heap.size = b1 at *
    refine (played_any w10 (N : Int) (L.length : Int) true ⟨fun _ => hyes2.out, fun _ => rfl⟩).mono ?_
    rintro e w11 ⟨rfl, rfl⟩
    have y0 := hR2.cell (i := 0) (by simp)
    have y1 := hR2.cell (i := 1) (by simp)
    have y2 := hR2.cell (i := 2) (by simp)
    have y3 := hR2.cell (i := 3) (by simp)
    simp only [List.getElem_cons_zero, List.getElem_cons_succ] at y0 y1 y2 y3
    clear hR2
    have ll : ((L.length : Int) == (L.length : Int)) = true := by simp
    by_cases hW0 : W = 0
    · subst hW0
      clear hg2
      go_wp2_with fail
      go_ret
      exact ⟨rfl, hBx⟩
    · have hV0 : V ≠ 0 := by
        rcases hg2 with h | h
        · exact absurd h hW0
        · exact h
      have b1' : ((W : Int) == 0) = false := by simpa using hW0
      have b2' : ((V : Int) != 0) = true := by simpa using hV0
      clear hg2 hW0 hV0
      go_wp2_with fail
      go_ret
      exact ⟨rfl, hBx⟩

theorem turnGoes_law (w : World) (n : Int) (hn : I64 n) (A : Option Addr) (cap : Nat) (l : List Mv) (hE : Mvs w w.heap.size A l) (hF : MFits l) (_hcap : l.length ≤ cap) (hl : l.length ≤ maxLen) (_hs : l.length ≤ 17592186044416) :
    Calls Try.prog 5 #[.int .i64 n, .slice A l.length cap] w fun e w' => e = .returned (.bool true) ∧ Below w.heap.size w w' := by
  by_cases h : 3 < n ∨ 8 < l.length
  · exact tgoes_far w n A cap l hl h
  · exact tgoes_near w n hn A cap l hE hF (by omega) (by omega)

#print axioms turnGoes_law
end Go.Proofs.Ythnmppajakdcaaa
