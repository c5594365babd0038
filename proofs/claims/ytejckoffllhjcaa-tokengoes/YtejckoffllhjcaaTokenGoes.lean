/-
  The walk of the law TokenGoes: when all is received somebody is in the critical section, if anybody waits.
-/
import Derived.Test.YtejckoffllhjcaaKcm
import Derived.Test.YtejckoffllhjcaaKgo
import Derived.Test.YtejckoffllhjcaaDrn
namespace Go.Proofs.Ytejckoffllhjcaa
open Go.RowKit Go.Maps
set_option linter.unusedVariables false

theorem goes_all {n : Nat} {u : Nat → Nat} (h0 : PInv n (KS.begin u) 0 0) (hn : n ≤ 3) (l : List Mv) : wayK n (kAt n u (l ++ (drainP n 8).map cmv) (l ++ (drainP n 8).map cmv).length) = 0 ∧
    (wordB n (wantB (kAt n u (l ++ (drainP n 8).map cmv) (l ++ (drainP n 8).map cmv).length)) = 0 ∨ wordB n (kAt n u (l ++ (drainP n 8).map cmv) (l ++ (drainP n 8).map cmv).length).ins ≠ 0) := by
  rw [kAt_all, runK_append]
  have h1 := runK_inv l (KS.begin u) ⟨0, 0, h0⟩
  have hI := runK_inv ((drainP n 8).map cmv) _ h1
  have hg : GInv n (runK n (KS.begin u) l) ((0 + 8 : Nat) : Int) := by
    obtain ⟨W, K, h⟩ := h1
    exact h.ginv hn
  have hd := GInv.drain 8 h1 0 (.inr hg)
  generalize runK n (runK n (KS.begin u) l) ((drainP n 8).map cmv) = S at *
  obtain ⟨W, K, hS⟩ := hI
  have hq : ∀ a b, S.q a b = [] := by
    rcases hd with h | h
    · exact h
    · exact h.end_ hS.inv
  constructor
  · unfold wayK
    rw [sum2_congr (f := fun _ _ => 0) (fun i j _ _ => by rw [hq i j]; rfl)]
    unfold sum2
    rw [sumN_congr (f := fun _ => 0) (fun i _ => by rw [sumN_const]; simp), sumN_const]; simp
  · by_cases e : wordB n (wantB S) = 0
    · exact .inl e
    · right
      rw [Ne, wordB_zero] at *
      intro h2
      apply e
      intro i hi
      unfold wantB
      rw [decide_eq_false_iff_not]
      intro hr
      obtain ⟨j, hj, hji⟩ := hS.goes hq hr
      rw [h2 j hj] at hji; cases hji

set_option maxHeartbeats 1000000 in
theorem kgoes_far (w : World) (A0 : Option Addr) (cap0 : Nat) (ul : List Int) (hl0 : ul.length ≤ maxLen) (A : Option Addr) (cap : Nat) (l : List Mv) (hl : l.length ≤ maxLen) (h : 3 < ul.length ∨ 8 < l.length) :
    Calls Try.prog 5 #[.slice A0 ul.length cap0, .slice A l.length cap] w fun e w' => e = .returned (.bool true) ∧ Below w.heap.size w w' := by
  have hl2 : (l.length : Int) ≤ 9223372036854775807 := by unfold maxLen at hl; omega
  have hl3 : (ul.length : Int) ≤ 9223372036854775807 := by unfold maxLen at hl0; omega
  by_cases h1 : 3 < (ul.length : Int)
  · go_enter Try.func5, Try.ntmps5
    go_wp2_with fail
    go_ret
    exact ⟨rfl, Below.refl _ _⟩
  · have h2 : 8 < (l.length : Int) := by omega
    clear h
    go_enter Try.func5, Try.ntmps5
    go_wp2_with fail
    go_ret
    exact ⟨rfl, Below.refl _ _⟩

set_option maxHeartbeats 8000000 in
set_option maxRecDepth 100000 in
theorem kgoes_near (w : World) (A0 : Option Addr) (cap0 : Nat) (ul : List Int) (hE0 : Nums w w.heap.size A0 ul) (hl0 : ul.length ≤ maxLen) (A : Option Addr) (cap : Nat) (l : List Mv) (hE : Mvs w w.heap.size A l) (hF : MFits l) (h1 : ul.length ≤ 3) (h2 : l.length ≤ 8) :
    Calls Try.prog 5 #[.slice A0 ul.length cap0, .slice A l.length cap] w fun e w' => e = .returned (.bool true) ∧ Below w.heap.size w w' := by
  have hlI : (l.length : Int) ≤ 8 := by omega
  obtain ⟨j0, hi0, hz0, hz1, hz2⟩ := info_parts infoMv
  have hJi := Lib.hid hi0; have hJz := Lib.hid hz0; have hJs := Lib.hid hz1; have hJb := Lib.hid hz2
  clear hi0 hz0 hz1 hz2
  have hdl := Lib.hid (drain8_len h1)
  have h1I : (ul.length : Int) ≤ 3 := by omega
  have hFH : Hid (MFits (l ++ (drainP ul.length 8).map cmv)) := fun m hm => by
    rcases List.mem_append.1 hm with h | h
    · exact hF m h
    · exact cmv_fits (N := ul.length) (by omega) drainP_vld m h
  have hgo := Lib.hid (fun (hrb : rngB ul = true) (htb : treeB ul.length (upN ul) = true) => goes_all (PInv.begin (KInv.tree hrb htb) (RInv.begin (itU (upN ul)) (fun _ => rfl) (fun _ _ => rfl) (treeB_iff.1 htb).1)) h1 l)
  have hUH := Lib.hid hE0
  have hcall := Lib.hid (fun W => drain_any W (ul.length : Int) h1I ⟨by omega, by omega⟩)
  clear hF hE0
  have hW3 : (w.alloc (.cells #[] 40)).ownsRow w.heap.size 40 4 (.slice (some ⟨w.heap.size, 0, none⟩) 0 0) 0 [] := World.ownsRow_lit w #[] 0 (Nat.le_refl _) (by unfold maxLen; omega) (by simp)
  have hB3 := (Below.refl w.heap.size w).alloc (Nat.le_refl _) (.cells #[] 40)
  have hE3 := (hE.below hB3).more hB3.size
  have hsz3 : w.heap.size ≤ (w.alloc (.cells #[] 40)).heap.size := by simp
  generalize hR : (drainP ul.length 8).map cmv = R at *
  have hRl : Hid (R.length ≤ 48) := by
    have := hdl.out
    rw [← hR]
    unfold Hid
    rw [List.length_map]
    exact this
  unfold DrRes at hcall
  rw [Int.toNat_natCast, hR] at hcall
  clear hR
  obtain ⟨L, hL⟩ : ∃ L, Hid (l ++ R = L) := ⟨_, rfl⟩
  rw [hL.out] at hgo hFH
  have hLl : L.length ≤ 56 := by
    have := hRl.out
    rw [← hL.out, List.length_append]; omega
  go_enter Try.func5, Try.ntmps5
  go_wp2_with (first
    | (at_builtin; refine wpList_copyM rfl (.tmp 16) (.tmp 17) rfl j0 hJi.out hJz.out hJs.out hJb.out w.heap.size w.heap.size rfl hW3 A cap l rfl hE3 (by omega) hsz3 ?_; intro v4 w4 hW4 hG4
       have hB4 := hB3.grown hG4 hB3.size (by simp)
       have hWH := Lib.hid hW4
       clear hG4 hW4 hW3 hB3 hE3))
  refine (hcall.out _).mono ?_
  rintro e w5 ⟨y, rfl, hD5, hB5⟩
  have hW5 : OwnMvs w5 w.heap.size v4 l := by
    obtain ⟨h7, h8⟩ := hWH.out
    refine ⟨h7, ?_⟩
    rcases h8 with h9 | ⟨g, cp, cur, hv, hb', hg', rest⟩
    · exact .inl h9
    · exact .inr ⟨g, cp, cur, hv, hb', (hB5.block g (by
        rcases Nat.lt_or_ge g w4.heap.size with h | h
        · exact h
        · rw [Array.getElem?_eq_none h] at hg'; cases hg')).trans hg', rest⟩
  have hBx := hB4.trans (hB5.mono hB4.size)
  have hrl := hRl.out
  clear hB4 hB5 hWH hcall
  have hlowO : Hid (∀ b, v4.ownBlock = some b → w.heap.size ≤ b) := hW5.lt
  go_wp2_with (first
    | (at_builtin; refine wpList_append_mvs rfl (.tmp 18) (.tmp 21) rfl j0 hJi.out hJz.out hJs.out hJb.out w.heap.size w4.heap.size v4 y l R rfl hW5 rfl hD5 (by omega) hBx.size ?_; intro v6 w6 hW6 hG6
       rw [hL.out] at hW6
       have hB6 := hBx.grown hG6 hBx.size hlowO.out
       obtain ⟨A6, cap6, hv6, hc61, hc62, hM6⟩ := hW6.shape
       subst hv6
       clear hW5 hD5 hBx hG6 hW6))
  clear hL hrl hRl hdl
  have hU6 : Nums w6 w6.heap.size A0 ul := (hUH.out.below hB6).more hB6.size
  have hLm : L.length ≤ maxLen := by unfold maxLen; omega
  by_cases h0 : checkK ul L.length = 0
  · obtain ⟨c1, c2, c3, hrb, htb⟩ := checkK_ok h0
    have hp := Lib.hid (play_ok A0 cap0 ul A6 cap6 L w6 hU6 hl0 hM6 hFH.out hLm h0)
    have htr := Lib.hid (fun (w2 : World) (hE2 : Nums w2 w2.heap.size A0 ul) => treed_yes (cap := cap0) hE2 hl0 h0)
    have hg3 := Lib.hid (hgo.out hrb htb)
    clear hgo hU6 hM6 h0 hrb htb hFH
    unfold PlkRes at hp
    refine hp.out.mono ?_
    rintro e w9 ⟨gc, rfl, hO9, hgc9, hB9⟩
    unfold ttVal
    obtain ⟨hg1, hg2⟩ := hg3.out
    rw [hg1]
    clear hg1 hp hg3
    generalize wordB ul.length (kAt ul.length (upN ul) L L.length).ins = V at *
    generalize wordB ul.length (wantB (kAt ul.length (upN ul) L L.length)) = W at *
    have hR2 := Row.made w9 27 [.slice (some ⟨gc, 0, none⟩) L.length L.length, .int .u32 (V : Int), .int .u32 (W : Int), .int .i64 0]
    have hBx := (hB6.trans (hB9.mono hB6.size)).alloc (by have := hB9.size; have := hB6.size; omega) (.cells #[.slice (some ⟨gc, 0, none⟩) L.length L.length, .int .u32 (V : Int), .int .u32 (W : Int), .int .i64 0] 27)
    have ht := Lib.hid (htr.out _ ((hUH.out.below hBx).more hBx.size))
    clear hB6 hB9 hO9 hgc9 htr
    go_wp2_with fail
    refine ht.out.mono ?_
    rintro e w11 ⟨rfl, rfl⟩
    generalize w9.alloc (.cells #[.slice (some ⟨gc, 0, none⟩) L.length L.length, .int .u32 (V : Int), .int .u32 (W : Int), .int .i64 0] 27) = w10 at *
    generalize w9.heap.size = b1 at *
    clear ht
    have y0 := hR2.cell (i := 0) (by simp)
    have y1 := hR2.cell (i := 1) (by simp)
    have y2 := hR2.cell (i := 2) (by simp)
    have y3 := hR2.cell (i := 3) (by simp)
    simp only [List.getElem_cons_zero, List.getElem_cons_succ] at y0 y1 y2 y3
    clear hR2
    have ll : ((L.length : Int) == (L.length : Int)) = true := by simp
    by_cases hW0 : W = 0
    · subst hW0
      clear hg2
      go_wp2_with fail
      go_ret
      exact ⟨rfl, hBx⟩
    · have hV0 : V ≠ 0 := by
        rcases hg2 with h | h
        · exact absurd h hW0
        · exact h
      have b1' : ((W : Int) == 0) = false := by rw [beq_eq_false_iff_ne]; omega
      have b2' : ((V : Int) != 0) = true := by rw [bne_iff_ne]; omega
      clear hg2 hW0 hV0
      go_wp2_with fail
      go_ret
      exact ⟨rfl, hBx⟩
  · have hp := Lib.hid (play_no A0 cap0 ul A6 cap6 L.length w6 hU6 hl0 hLm h0)
    have htr := Lib.hid (fun (w2 : World) (hE2 : Nums w2 w2.heap.size A0 ul) => treed_no (cap := cap0) hE2 hl0 h0)
    have hcb : (checkK ul L.length != 0) = true := by rw [bne_iff_ne]; exact h0
    generalize checkK ul L.length = c at *
    clear hgo hU6 hM6 h0 hFH
    unfold noVal at hp
    refine hp.out.mono ?_
    rintro e w9 ⟨rfl, hB9⟩
    have hBx := (hB6.trans (hB9.mono hB6.size)).alloc (by have := hB9.size; have := hB6.size; omega) (.cells #[.slice none 0 0, .int .u32 0, .int .u32 0, .int .i64 0] 27)
    have ht := Lib.hid (htr.out _ ((hUH.out.below hBx).more hBx.size))
    clear hB6 hB9 htr hp
    go_wp2_with fail
    refine ht.out.mono ?_
    rintro e w11 ⟨rfl, rfl⟩
    go_wp2_with fail
    go_ret
    exact ⟨rfl, hBx⟩

theorem tokenGoes_law (w : World) (A0 : Option Addr) (cap0 : Nat) (ul : List Int) (hE0 : Nums w w.heap.size A0 ul) (hF0 : NumFits ul) (hc0 : ul.length ≤ cap0) (hl0 : ul.length ≤ maxLen) (hs0 : ul.length ≤ 17592186044416)
    (A : Option Addr) (cap : Nat) (l : List Mv) (hE : Mvs w w.heap.size A l) (hF : MFits l) (hcap : l.length ≤ cap) (hl : l.length ≤ maxLen) (hs : l.length ≤ 17592186044416) :
    Calls Try.prog 5 #[.slice A0 ul.length cap0, .slice A l.length cap] w fun e w' => e = .returned (.bool true) ∧ Below w.heap.size w w' := by
  by_cases h : 3 < ul.length ∨ 8 < l.length
  · exact kgoes_far w A0 cap0 ul hl0 A cap l hl h
  · exact kgoes_near w A0 cap0 ul hE0 hl0 A cap l hE hF (by omega) (by omega)

#print axioms tokenGoes_law
end Go.Proofs.Ytejckoffllhjcaa
