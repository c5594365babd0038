/-
  The walk of the law beaconrykeep.WaitMore.
-/
import Derived.Test.YtilnbebklchikaaWaitHolt
import Derived.Test.YtilnbebklchikaaWcp
import Derived.Test.YtilnbebklchikaaIns
namespace Go.Proofs.Ytilnbebklchikaa
open Go.RowKit Go.Maps
set_option linter.unusedVariables false

def moreL (l : List Nat) (i j : Nat) : List Nat := l.set i (wat l i ||| 2 ^ j)
def ownL (l : List Nat) (i : Nat) : List Nat := l.set i (2 ^ i)
section
variable {l : List Nat} {i j : Nat}
theorem WV.set (hV : WV l) (hi : i < l.length) {v : Nat} (hv : v < 2 ^ l.length) : WV (l.set i v) :=
  ⟨by rw [List.length_set]; exact hV.one, by rw [List.length_set]; exact hV.six, fun k => by
    rw [List.length_set, wat_set l hi]
    split
    · exact hv
    · exact hV.small k⟩
theorem more_valid (hV : WV l) (hi : i < l.length) (hj : j < l.length) : WV (moreL l i j) := hV.set hi (Nat.or_lt_two_pow (hV.small i) (two_pow_lt j hj))
theorem own_valid (hV : WV l) (hi : i < l.length) : WV (ownL l i) := hV.set hi (two_pow_lt i hi)
theorem more_sub (hV : WV l) (hi : i < l.length) (hj : j < l.length) : subW (allOut l) (allOut (moreL l i j)) := by
  intro b hb
  rw [allOut_bit hV] at hb
  rw [allOut_bit (more_valid hV hi hj)]
  have hlen : (moreL l i j).length = l.length := List.length_set
  refine ⟨by omega, ?_⟩
  cases e : (fAll (moreL l i j)).testBit b with
  | false => rfl
  | true =>
    rw [all_more hlen (fun v c hvc => ?_) e] at hb
    · cases hb.2
    · unfold Wt at hvc ⊢
      unfold moreL
      rw [wat_set l hi]
      split
      · next ev => subst ev; exact subW_or_left _ _ c hvc
      · exact hvc
theorem own_bit (hV : WV l) (hi : i < l.length) : (allOut (ownL l i)).testBit i = true := by
  rw [allOut_bit (own_valid hV hi)]
  refine ⟨by unfold ownL; rw [List.length_set]; exact hi, all_own ?_⟩
  unfold Wt ownL
  rw [wat_set l hi, if_pos rfl, pow_bit]
end

set_option maxHeartbeats 6400000 in
theorem waitMore_law (w : World) (A : Option Addr) (cap : Nat) (l : List Nat) (hE : Wds w w.heap.size A l) (hF : WFits l) (hc : l.length ≤ cap) (hl : l.length ≤ maxLen) (hs : l.length ≤ 35184372088832) (i : Int) (hi : I64 i) (j : Int) (hj : I64 j) :
    Calls Try.prog 8 #[.slice A l.length cap, .int .i64 i, .int .i64 j] w fun e w' => e = .returned (.bool true) ∧ Below w.heap.size w w' := by
  have hall := Lib.hid (all_any_ cap w A l hE hF hl)
  have hEH := Lib.hid hE
  by_cases hV : WV l
  · have hwt : Hid (∀ w1, Below w.heap.size w w1 → Calls Try.prog 18 #[.slice A l.length cap] w1 fun e w' => e = .returned (.bool true) ∧ w1 = w') := fun w1 hB => waited_any cap w1 A l ((hE.below hB).more hB.size) hF hl true ⟨fun _ => hV, fun _ => rfl⟩
    have hcode := (waitCode_iff l).2 hV
    rw [hcode] at hall
    have h1 := hV.one
    have h6 := hV.six
    have h6I : (l.length : Int) ≤ 6 := by omega
    by_cases hin : (0 ≤ i ∧ i < l.length) ∧ (0 ≤ j ∧ j < l.length)
    · obtain ⟨a, rfl⟩ : ∃ a : Nat, i = (a : Int) := ⟨i.toNat, by omega⟩
      obtain ⟨b, rfl⟩ : ∃ b : Nat, j = (b : Int) := ⟨j.toNat, by omega⟩
      have ha : a < l.length := by omega
      have hb : b < l.length := by omega
      have hCin : Hid (inB l.length [(a : Int), (b : Int)] = true) := by unfold Hid inB; simp [ha, hb]
      have h64 := Nat.pow_le_pow_right (n := 2) (by omega) h6
      have hMV := more_valid hV ha hb
      have hOV := own_valid hV ha
      have hMl : (moreL l a b).length = l.length := List.length_set
      have hOl : (ownL l a).length = l.length := List.length_set
      have hallM : Hid (∀ w1 g cp, Wds w1 w1.heap.size (some ⟨g, 0, none⟩) (moreL l a b) → Calls Try.prog 9 #[.slice (some ⟨g, 0, none⟩) l.length cp] w1 (SetRes w1 (allOut (moreL l a b)) 0)) := fun w1 g cp hq => by
        have := all_any_ cp w1 (some ⟨g, 0, none⟩) (moreL l a b) hq hMV.u32 (by rw [hMl]; exact hl)
        rw [(waitCode_iff _).2 hMV, hMl] at this
        exact this
      have hallO : Hid (∀ w1 g cp, Wds w1 w1.heap.size (some ⟨g, 0, none⟩) (ownL l a) → Calls Try.prog 9 #[.slice (some ⟨g, 0, none⟩) l.length cp] w1 (SetRes w1 (allOut (ownL l a)) 0)) := fun w1 g cp hq => by
        have := all_any_ cp w1 (some ⟨g, 0, none⟩) (ownL l a) hq hOV.u32 (by rw [hOl]; exact hl)
        rw [(waitCode_iff _).2 hOV, hOl] at this
        exact this
      have hX := allOut_lt hV
      have hY := allOut_lt hMV
      have hZ := allOut_lt hOV
      rw [hMl] at hY
      rw [hOl] at hZ
      have f1 : Hid (bits BinOp.andNot IntKind.u32 (allOut l : Int) (allOut (moreL l a b) : Int) = 0) := by
        unfold Hid
        rw [u32_andNot_nat _ _ (by omega) (by omega), (andNot_zero _ _ (by omega) (by omega)).2 (more_sub hV ha hb)]
        rfl
      have f2 : Hid (∀ w1, Calls Try.prog 16 #[.int .u32 (allOut (ownL l a) : Int), .int .i64 (a : Int)] w1 fun e w' => e = .returned (.bool true) ∧ w1 = w') := fun w1 => by
        have := bit_any (allOut (ownL l a)) a w1 (by omega) (by omega)
        rw [own_bit hV ha] at this
        exact this
      have hset := Lib.hid (set_val (wat l a) b (hV.u32 a) (by omega))
      have hpow := Lib.hid (pow_mod a (by omega))
      have hmoreH : Hid (moreL l a b = l.set a (wat l a ||| 2 ^ b)) := rfl
      have hownH : Hid (ownL l a = l.set a (2 ^ a)) := rfl
      have haI : (a : Int) < (l.length : Int) := by omega
      have hbI : (b : Int) < (l.length : Int) := by omega
      generalize allOut l = X at *
      generalize allOut (moreL l a b) = Y at *
      generalize allOut (ownL l a) = Z at *
      clear hF hV hcode hMV hOV hMl hOl hE hX hY hZ h64
      go_enter Try.func8, Try.ntmps8
      go_wp2_with fail
      refine hall.out.mono ?_
      rintro e w2 ⟨rfl, hB2⟩
      have hwt1 := Lib.hid (hwt.out w2 hB2)
      clear hall hwt
      go_wp2_with fail
      refine hwt1.out.mono ?_
      rintro e w3 ⟨rfl, rfl⟩
      have hins := Lib.hid (inside_any (some ⟨w2.heap.size, 0, none⟩) 2 [(a : Int), (b : Int)] l.length _ (nums2 w2 (a : Int) (b : Int) 3) (by simp) true hCin)
      have hB4 : Below w.heap.size w (w2.alloc (.cells #[.int .i64 (a : Int), .int .i64 (b : Int)] 3)) := hB2.alloc hB2.size _
      clear hB2 hwt1
      go_wp2_with fail
      refine hins.out.mono ?_
      rintro e w3 ⟨rfl, rfl⟩
      generalize w2.alloc (.cells #[.int .i64 (a : Int), .int .i64 (b : Int)] 3) = w4 at *
      have hW5 : (w4.alloc (.cells #[] 23)).ownsRow w4.heap.size 23 1 (.slice (some ⟨w4.heap.size, 0, none⟩) 0 0) 0 [] := World.ownsRow_lit w4 #[] 0 (Nat.le_refl _) (by unfold maxLen; omega) (by simp)
      have hB5 := hB4.alloc hB4.size (.cells #[] 23)
      have hN5 := (hEH.out.below hB5).more hB5.size
      have hsz5 : w4.heap.size ≤ (w4.alloc (.cells #[] 23)).heap.size := by simp
      have hlow := hB4.size
      clear hins hB4
      go_wp2_with (first
        | (at_builtin; refine wpList_copyW rfl (.tmp 38) (.tmp 39) rfl w4.heap.size w4.heap.size rfl hW5 A l.length cap l rfl h1 rfl hN5 (by omega) hsz5 ?_; intro g6 cap6 w6 cur6 hBg hg6 hR6 hC6 hG6
           have hB6 := hB5.grown hG6 hB5.size (by simp; omega)
           have d0 := hC6.cell hR6 ha
           have hf6 := Row.frozen hR6 a
           clear hG6 hN5))
      have hR7 : Row (w6.setCell ⟨g6, a, none⟩ (.int .u32 (bits BinOp.or IntKind.u32 (wat l a : Int) (2 ^ b % 4294967296)))) g6 23 (cur6.set a (.int .u32 ((wat l a ||| 2 ^ b : Nat) : Int))) := by
        rw [hset.out]; exact Row.set hR6 a _
      have hC7 : Begins (cur6.set a (.int .u32 ((wat l a ||| 2 ^ b : Nat) : Int))) (moreL l a b) := hC6.set ha _
      have hq7 := hC7.wds hR7 (Row.lt hR7)
      have hB7 : Below w.heap.size w (w6.setCell ⟨g6, a, none⟩ (.int .u32 (bits BinOp.or IntKind.u32 (wat l a : Int) (2 ^ b % 4294967296)))) := hB6.setCell (Nat.le_trans hlow hBg) _
      refine (hallM.out _ g6 cap6 hq7).mono ?_
      rintro e w8 ⟨rfl, hB8'⟩
      have hB8 := hB7.trans (hB8'.mono hB7.size)
      clear hB8' hB7 hq7 hC7 hR7 d0 hf6 hB6 hallM hset hR6 hC6 hBg hg6 hlow hsz5 hW5
      have hW9 : (w8.alloc (.cells #[] 23)).ownsRow w8.heap.size 23 1 (.slice (some ⟨w8.heap.size, 0, none⟩) 0 0) 0 [] := World.ownsRow_lit w8 #[] 0 (Nat.le_refl _) (by unfold maxLen; omega) (by simp)
      have hB9 := hB8.alloc hB8.size (.cells #[] 23)
      have hN9 := (hEH.out.below hB9).more hB9.size
      have hsz9 : w8.heap.size ≤ (w8.alloc (.cells #[] 23)).heap.size := by simp
      have hlow := hB8.size
      have hf1 := f1.out
      clear hB8
      go_wp2_with (first
        | (at_builtin; refine wpList_copyW rfl (.tmp 57) (.tmp 58) rfl w8.heap.size w8.heap.size rfl hW9 A l.length cap l rfl h1 rfl hN9 (by omega) hsz9 ?_; intro g10 cap10 w10 cur10 hBg hg10 hR10 hC10 hG10
           have hB10 := hB9.grown hG10 hB9.size (by simp; omega)
           have d10 := hC10.cell hR10 ha
           have hf10 := Row.frozen hR10 a
           clear hG10 hN9))
      have hR11 : Row (w10.setCell ⟨g10, a, none⟩ (.int .u32 (2 ^ a % 4294967296))) g10 23 (cur10.set a (.int .u32 ((2 ^ a : Nat) : Int))) := by
        rw [hpow.out]; exact Row.set hR10 a _
      have hC11 : Begins (cur10.set a (.int .u32 ((2 ^ a : Nat) : Int))) (ownL l a) := hC10.set ha _
      have hq11 := hC11.wds hR11 (Row.lt hR11)
      have hB11 : Below w.heap.size w (w10.setCell ⟨g10, a, none⟩ (.int .u32 (2 ^ a % 4294967296))) := hB10.setCell (Nat.le_trans hlow hBg) _
      refine (hallO.out _ g10 cap10 hq11).mono ?_
      rintro e w12 ⟨rfl, hB12'⟩
      have hB12 := hB11.trans (hB12'.mono hB11.size)
      have f2' := Lib.hid (f2.out w12)
      clear hB12' hB11 hq11 hC11 hR11 hf10 d10 hB10 hR10 hC10 hBg hg10 hlow hsz9 hW9 hallO
      go_wp2_with fail
      refine f2'.out.mono ?_
      rintro e w13 ⟨rfl, rfl⟩
      go_wp2_with fail
      go_ret
      exact ⟨by simp_all, hB12⟩
    · have hCin : Hid (inB l.length [i, j] = false) := by
        unfold Hid inB
        simp only [List.all_cons, List.all_nil, Bool.and_true, Bool.and_eq_false_iff, decide_eq_false_iff_not]
        omega
      generalize allOut l = X at *
      clear hF hV hcode hE hEH
      go_enter Try.func8, Try.ntmps8
      go_wp2_with fail
      refine hall.out.mono ?_
      rintro e w2 ⟨rfl, hB2⟩
      have hwt1 := Lib.hid (hwt.out w2 hB2)
      clear hall hwt
      go_wp2_with fail
      refine hwt1.out.mono ?_
      rintro e w3 ⟨rfl, rfl⟩
      have hins := Lib.hid (inside_any (some ⟨w2.heap.size, 0, none⟩) 2 [i, j] l.length _ (nums2 w2 i j 3) (by simp) false hCin)
      have hB4 : Below w.heap.size w (w2.alloc (.cells #[.int .i64 i, .int .i64 j] 3)) := hB2.alloc hB2.size _
      clear hB2 hwt1
      go_wp2_with fail
      refine hins.out.mono ?_
      rintro e w3 ⟨rfl, rfl⟩
      go_wp2_with fail
      go_ret
      exact ⟨by simp, hB4⟩
  · have hwt : Hid (∀ w1, Below w.heap.size w w1 → Calls Try.prog 18 #[.slice A l.length cap] w1 fun e w' => e = .returned (.bool false) ∧ w1 = w') := fun w1 hB => waited_any cap w1 A l ((hE.below hB).more hB.size) hF hl false ⟨(nomatch ·), fun h => absurd h hV⟩
    have hcode : waitCode l ≠ 0 := fun h => hV ((waitCode_iff l).1 h)
    generalize waitCode l = x at *
    generalize allOut l = X at *
    have hx1 : (x != 0) = true := by simpa using hcode
    clear hE hF hV hEH
    go_enter Try.func8, Try.ntmps8
    go_wp2_with fail
    refine hall.out.mono ?_
    rintro e w1 ⟨rfl, hB1⟩
    have hwt1 := Lib.hid (hwt.out w1 hB1)
    clear hall hwt
    go_wp2_with fail
    refine hwt1.out.mono ?_
    rintro e w3 ⟨rfl, rfl⟩
    go_wp2_with fail
    go_ret
    exact ⟨by simp, hB1⟩

#print axioms waitMore_law
end Go.Proofs.Ytilnbebklchikaa
