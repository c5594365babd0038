/-
  The walk of the law RingMany: how many messages there are if all begin; turning the ring changes nothing.
-/
import Derived.Test.YtcmfpnghejapbaaCrm
import Derived.Test.YtcmfpnghejapbaaPck
import Derived.Maps.AppendAt
import Derived.Deep.RegionHeld3
namespace Go.Proofs.Ytcmfpnghejapbaa
open Go.RowKit Go.Maps

theorem nums_vals {w : World} {B : Nat} {b off : Nat} {l : List Int} (h : Nums w B (some ⟨b, off, none⟩) l) : ∀ j u, (intVals l)[j]? = some u → w.cell? ((⟨b, off, none⟩ : Addr).add j) = some u := by
  intro j u hj
  have hlt : j < l.length := by
    rcases Nat.lt_or_ge j l.length with h1 | h1
    · exact h1
    · rw [List.getElem?_eq_none (by rw [intVals_len]; exact h1)] at hj; cases hj
  have hadd : (⟨b, off, none⟩ : Addr).add j = ⟨b, off + j, none⟩ := by unfold Addr.add; split <;> simp_all
  rw [hadd]
  obtain ⟨b', off', e, _, hc⟩ := h (by omega)
  simp only [Option.some.injEq, Addr.mk.injEq] at e
  obtain ⟨rfl, rfl, _⟩ := e
  rw [hc j hlt, ← hj]
  simp [intVals, hlt]
theorem intVals_one (l : List Int) : ∀ u ∈ intVals l, u.oneCell' = true := by
  intro u hu
  obtain ⟨x, _, rfl⟩ := List.mem_map.1 hu
  rfl
theorem intVals_app (xs ys : List Int) : intVals xs ++ intVals ys = intVals (xs ++ ys) := by simp [intVals]

/-- 'append(s, ys...)' of ints, at a step of a region that draws its order. -/
theorem step_append_ints {w : World} {ops : Array Oper} {o : Oper} {a : Act} {K : Act → World → Prop} {Q : Exit → Act → World → Prop} {E : Prop} (hgd : o.guard = none) (s x : Operand)
    (ho : o.op = .call { callee := .builtin .append, args := #[s, x], argTypes := #[22, 22] }) (B : Nat) (v : Value) (xs : List Int) (hs : a.eval s = v) (hown : OwnInts w B v xs)
    (b off c m : Nat) (ys : List Int) (hm : ys.length = m) (hx : a.eval x = .slice (some ⟨b, off, none⟩) m c) (D : Nat) (hN : Nums w D (some ⟨b, off, none⟩) ys) (hl : xs.length + ys.length ≤ 1000) (hbase : B ≤ w.heap.size)
    (h : ∀ v' w', OwnInts w' B v' (xs ++ ys) → w.grownBy w' v.ownBlock → (v'.ownBlock = v.ownBlock ∨ v'.ownBlock = some w.heap.size) → K (a.put o.dst v') w') :
    if Region.wanted o (yielded ops a.tmps) = true then Oper.wp Try.prog o a w K Q else E := by
  subst hm
  have hw : Region.wanted o (yielded ops a.tmps) = true := by simp [Region.wanted, hgd]
  rw [if_pos hw]
  obtain ⟨j0, hj0, hy0, hy1, hy2⟩ := info_parts infoInt
  obtain ⟨v', w', hr, h2, h3, h4, h5⟩ := run_append_own_at (P := Try.prog) w B 22 o.type 3 j0 (.int .i64 0) 1 8 Try.underlying22 hj0 hy0 hy1 hy2 rfl (by decide) v xs.length (intVals xs) hown ⟨b, off, none⟩ ys.length c (intVals ys) (by rw [intVals_len, Nat.mul_one]) (nums_vals hN) (intVals_one ys) (by unfold maxLen; omega) (by omega) hbase
  unfold Oper.wp execOp
  simp only [ho, resolve, invoke, builtin, Sem.run_bind, Sem.run_pure, Result.andThen_ok, List.map_toArray, List.map_cons, List.map_nil, hs, hx, hr]
  refine h v' w' ?_ h3 h5
  rw [intVals_app] at h2
  unfold OwnInts
  rw [List.length_append]
  exact h2

theorem Nums.drop {w : World} {B b off : Nat} {l : List Int} (h : Nums w B (some ⟨b, off, none⟩) l) (i : Nat) : Nums w B (some ⟨b, off + i, none⟩) (l.drop i) := by
  intro h0
  rw [List.length_drop] at h0
  obtain ⟨b', off', e, hb, hc⟩ := h (by omega)
  simp only [Option.some.injEq, Addr.mk.injEq] at e
  obtain ⟨rfl, rfl, _⟩ := e
  refine ⟨b, off + i, rfl, hb, fun j hj => ?_⟩
  rw [List.length_drop] at hj
  rw [List.getElem_drop, Nat.add_assoc]
  exact hc (i + j) (by omega)
theorem bat_all {n p : Nat} (h : p < n) : bat (List.replicate n true) p = true := by
  rw [bat_get _ (by simp; exact h)]
  simp
theorem lcode_all (l : List Int) : lcode l (List.replicate l.length true) = rcode l := by
  unfold lcode
  by_cases h : rcode l ≠ 0
  · rw [if_pos h]
  · rw [if_neg h, if_neg (by simp), if_pos]
    · have : rcode l = 0 := by simpa using h
      exact this.symm
    · have hR := (rcode_ok l).1 (show rcode l = 0 by simpa using h)
      exact ⟨0, by simp; have := hR.len; omega, bat_all (by have := hR.len; omega)⟩
theorem ld_many {l : List Int} (hR : Rng l) {i k : Nat} (h : LdIs l (List.replicate l.length true) i k) : k = sumN (onN l) l.length := by
  obtain ⟨T, hL, hk⟩ := h.ok (by rw [lcode_all]; exact (rcode_ok l).2 hR)
  rw [hk]
  exact all_lead hR (fun p hp => bat_all hp) hL

theorem own_turn {w : World} {B : Nat} {v : Value} {l : List Int} {i : Nat} (hi : i < l.length) (h : OwnInts w B v (([] ++ l.drop i) ++ l.take i)) : ∃ A cap, v = .slice A l.length cap ∧ l.length ≤ cap ∧ Nums w w.heap.size A (turnL l i) := by
  obtain ⟨A, cap, h1, h2, _, h3⟩ := OwnInts.nums h
  have e : ([] ++ l.drop i) ++ l.take i = turnL l i := rfl
  rw [e] at h1 h2 h3
  rw [turnL_len l (by omega)] at h1 h2
  exact ⟨A, cap, h1, h2, h3⟩
theorem turnL_fits {l : List Int} (h : NumFits l) (i : Nat) : NumFits (turnL l i) := fun x hx => by
  unfold turnL at hx
  rcases List.mem_append.1 hx with h1 | h1
  · exact h x (List.mem_of_mem_drop h1)
  · exact h x (List.mem_of_mem_take h1)

def AlRel (w : World) (g n k : Nat) (wr : World) : Prop := BoolRow wr g n (fun p => decide (p < k)) ∧ Below w.heap.size w wr

set_option maxHeartbeats 4000000 in
theorem ringMany_law (w : World) (A : Option Addr) (cap : Nat) (l : List Int) (hE : Nums w w.heap.size A l) (hf : NumFits l) (hc : l.length ≤ cap) (hm : l.length ≤ maxLen) (hs : l.length ≤ 17592186044416) (t : Int) (ht : 0 ≤ t ∧ t ≤ 255) :
    Calls Try.prog 7 #[.slice A l.length cap, .int .u8 t] w fun e w' => e = .returned (.bool true) ∧ Below w.heap.size w w' := by
  obtain ⟨i0, hi0, hz0, hz1, hz2⟩ := info_parts infoBool
  have hJi := Lib.hid hi0; have hJz := Lib.hid hz0; have hJs := Lib.hid hz1; have hJb := Lib.hid hz2
  have hEH := Lib.hid hE
  have hfH := Lib.hid hf
  have hmx : Hid (l.length ≤ maxLen) := hm
  clear hi0 hz0 hz1 hz2 hE hf hm
  go_enter Try.func7, Try.ntmps7
  go_wp2_with (at_make; refine wpList_make_row w rfl (.tmp 17) (.tmp 17) 23 rfl 4 i0 (.bool false) Try.underlying23 hJi.out hJz.out hJs.out rfl .i64 .i64 _ _ l.length rfl rfl rfl rfl (by rw [hJb.out]; omega) hmx.out ?_; intro w1 hS1 hg1)
  have hini : Hid (AlRel w w.heap.size l.length 0 w1) := by
    rw [boolRow_zero] at hS1
    exact ⟨BoolRow.congr hS1 fun j _ => by simp, (Below.refl _ w).grown hg1 (Nat.le_refl _) (fun k hk => by cases hk)⟩
  clear hS1 hg1
  obtain ⟨g, hg⟩ : ∃ g, Hid (g = w.heap.size) := ⟨_, rfl⟩
  have hini2 : Hid (AlRel w g l.length 0 w1) := by unfold Hid; rw [hg.out]; exact hini.out
  rw [← hg.out]
  clear hini
  go_loopw [7] (fun i wr => ∃ k : Nat, k ≤ l.length ∧ i = .int .i64 k ∧ AlRel w g l.length k wr) (fun i _ => l.length - (intOf i).toNat)
  case atStart => exact ⟨0, Nat.zero_le _, rfl, hini2.out⟩
  case round =>
    obtain ⟨k, hk, rfl, hM, hB⟩ := hrel
    by_cases hlt : k < l.length
    · have hkI : (k : Int) < (l.length : Int) := by omega
      have c0 := BoolRow.at_ hM hlt
      have f0 := Row.frozen hM k
      have hnx := Lib.hid ((BoolRow.put hM k true).congr (A' := fun p => decide (p < k + 1)) fun j _ => by
        unfold updB
        by_cases e : j = k
        · rw [if_pos e, decide_eq_true (by omega)]
        · rw [if_neg e]
          have : (j < k) = (j < k + 1) := by simp; omega
          simp only [this])
      have hBH := Lib.hid (hB.setCell (p := ⟨g, k, none⟩) (by show w.heap.size ≤ g; rw [hg.out]; exact Nat.le_refl _) (.bool true))
      clear hM hB
      go_wp2_with fail
      go_roundw
      case rel => exact ⟨k + 1, by omega, by go_num, hnx.out, hBH.out⟩
      case measure => simp [intOf]; omega
    · have hkl : k = l.length := by omega
      subst hkl
      have hM' := Lib.hid hM
      have hBH := Lib.hid hB
      have hall : Hid (Bits wr wr.heap.size (some ⟨g, 0, none⟩) (List.replicate l.length true)) := BoolRow.bits hM (Row.lt hM) (by simp) (fun j hj => by
        simp at hj
        rw [bat_all hj, decide_eq_true hj])
      have hEr := Lib.hid ((hEH.out.below hB).more hB.size)
      have hcall := lead_any wr A cap l hEr.out hfH.out hc hs (some ⟨g, 0, none⟩) l.length _ hall.out
      rw [List.length_replicate, lcode_all] at hcall
      have hcallH := Lib.hid hcall
      clear hcall hM hB hini2
      by_cases h0 : rcode l = 0
      · have hR := Lib.hid ((rcode_ok l).1 h0)
        have hn := hR.out.len
        have h0b : (rcode l == 0) = true := by simp [h0]
        have h0bH := Lib.hid h0b
        rw [h0] at hcallH
        clear h0 h0b
        go_wp2_with fail
        refine hcallH.out.mono ?_
        rintro e w2 ⟨i2, k2, rfl, hB2, hI2⟩
        have hk2 := Lib.hid (ld_many hR.out hI2)
        have hkl2 : 2 * l.length - 1 ≤ k2 := by rw [hk2.out]; exact many_least hR.out
        have hkm2 : 2 * k2 ≤ l.length * (l.length + 1) := by rw [hk2.out]; exact many_most hR.out
        have hE2 := Lib.hid ((hEr.out.below hB2).more hB2.size)
        clear hI2
        have hB2H := Lib.hid (hBH.out.trans (hB2.mono hBH.out.size))
        have hall2 := Lib.hid ((hall.out.below hB2).more hB2.size)
        clear hB2
        go_wp2_with fail
        refine (ringed_any A cap l w2 hE2.out hs).mono ?_
        rintro e w3 ⟨rfl, hB3⟩
        rw [h0bH.out]
        have hE3 := Lib.hid ((hE2.out.below hB3).more hB3.size)
        have hall3 := Lib.hid ((hall2.out.below hB3).more hB3.size)
        have hB3H := Lib.hid (hB2H.out.trans (hB3.mono hB2H.out.size))
        clear hB3 hE2 hall2 hB2H hEr hall hcallH
        have htm : t.tmod (l.length : Int) = ((t.toNat % l.length : Nat) : Int) := by
          rw [Int.tmod_eq_emod_of_nonneg ht.1, Int.natCast_emod, Int.toNat_of_nonneg ht.1]
        have hi : t.toNat % l.length < l.length := Nat.mod_lt _ (by omega)
        have hl00 : ¬ (l.length : Int) = 0 := by omega
        generalize t.toNat % l.length = i at *
        go_wp2_with fail
        obtain ⟨b, off, rfl, hb, hcells⟩ := nums_cells hE3.out (by omega)
        clear hcells
        have hBd : Below w3.heap.size w3 (w3.drew.alloc (.cells #[] 3)) := (Below.refl _ w3).drew.alloc (Nat.le_refl _) _
        have hEd := hE3.out.below hBd
        have hd1 := Lib.hid (hEd.drop i)
        have hO0 : Hid (OwnInts (w3.drew.alloc (.cells #[] 3)) w3.heap.size (.slice (some ⟨w3.heap.size, 0, none⟩) 0 0) []) := World.ownsRow_lit w3.drew #[] 0 (Nat.le_refl _) (by unfold maxLen; omega) (by simp)
        have hsz1 : Hid (w3.heap.size ≤ (w3.drew.alloc (.cells #[] 3)).heap.size) := hBd.size
        have hiI : (i : Int) ≤ (l.length : Int) := by omega
        have hiC : (i : Int) ≤ (cap : Int) := by omega
        have hci : ¬ cap = i := by omega
        have hci0 : ¬ cap = 0 := by omega
        clear hEd
        have hcall3 : Hid (∀ w6 : World, Below w3.heap.size w3 w6 → ∀ A6 c6, l.length ≤ c6 → Nums w6 w6.heap.size A6 (turnL l i) → Calls Try.prog 10 #[.slice A6 l.length c6, .slice (some ⟨g, 0, none⟩) l.length l.length] w6 fun e w' => ∃ i7 : Nat, e = .returned (.tuple #[.int .i64 (i7 : Int), .int .i64 (k2 : Int), .int .i64 0]) ∧ Below w6.heap.size w6 w') := fun w6 hB6 A6 c6 hc6 hN6 => by
          have hlen := turnL_len l (i := i) (by omega)
          have hRt := turnL_rng hR.out hi
          have hcc := lead_any w6 A6 c6 (turnL l i) hN6 (turnL_fits hfH.out i) (by omega) (by omega) (some ⟨g, 0, none⟩) l.length (List.replicate (turnL l i).length true) (by rw [hlen]; exact (hall3.out.below hB6).more hB6.size)
          rw [List.length_replicate, lcode_all, (rcode_ok _).2 hRt] at hcc
          rw [hlen] at hcc
          refine hcc.mono ?_
          rintro e w7 ⟨i7, k7, rfl, hB7, hI7⟩
          have hk7 := ld_many hRt (by rw [hlen]; exact hI7)
          rw [turn_many hi, ← hk2.out] at hk7
          subst hk7
          exact ⟨i7, rfl, hB7⟩
        go_region_held3 (fun _ => True) (first | trivial) (first
          | (refine step_append_ints rfl (.tmp 44) (.tmp 47) rfl w3.heap.size _ [] rfl hO0.out b (off + i) _ _ (l.drop i) (List.length_drop) rfl w3.heap.size hd1.out (by simp; omega) hsz1.out ?_; intro v5 w5 hO5 hG5 hat5
             have hB5 : Below w3.heap.size w3 w5 := hBd.grown hG5 hBd.size (fun x hx => by injection (show some w3.heap.size = some x from hx) with hx; omega)
             have hd5 := (hE3.out.below hB5).take i
             have hsz5 : w3.heap.size ≤ w5.heap.size := hB5.size)
          | (refine step_append_ints rfl (.tmp 48) (.tmp 51) rfl w3.heap.size _ ([] ++ l.drop i) rfl hO5 b off _ _ (l.take i) (by simp; omega) rfl w3.heap.size hd5 (by simp; omega) hsz5 ?_; intro v6 w6 hO6 hG6 hat6
             have hB6 : Below w3.heap.size w3 w6 := hB5.grown hG6 hB5.size (fun x hx => (hO5.lt x hx).1)
             obtain ⟨A6, c6, hv6, hle6, hN6⟩ := own_turn hi hO6
             subst hv6)
          | (go_at_call 10; refine (hcall3.out w6 hB6 A6 c6 hle6 hN6).mono ?_; rintro e w7 ⟨i7, rfl, hB7⟩))
        have hB8 := Lib.hid (hB3H.out.trans ((hB6.mono hB3H.out.size).trans (hB7.mono (Nat.le_trans hB3H.out.size hB6.size))))
        clear hB5 hB6 hB7 hO5 hO6 hG5 hG6 hd5 hat5 hat6 hBd hN6 hcall3 hO0 hd1
        obtain ⟨P, hP, hP2, hP3⟩ : ∃ P : Nat, ((l.length : Int) * ((l.length : Int) + 1)) = (P : Int) ∧ P ≤ 156 ∧ 2 * k2 ≤ P := ⟨l.length * (l.length + 1), by simp, Nat.le_trans (Nat.mul_le_mul hn.2 (Nat.succ_le_succ hn.2)) (by decide), hkm2⟩
        clear hkm2
        have hge : (2 : Int) * (l.length : Int) - 1 ≤ (k2 : Int) := by omega
        have hge2 : ¬ (k2 : Int) < (2 : Int) * (l.length : Int) - 1 := by omega
        have hle1 : (2 : Int) * (k2 : Int) ≤ (P : Int) := by omega
        have hle2 : ¬ (P : Int) < (2 : Int) * (k2 : Int) := by omega
        go_wp2_with fail
        go_ret
        exact ⟨rfl, hB8.out⟩
      · have h0b : (rcode l == 0) = false := by simp [h0]
        have h0c : (rcode l != 0) = true := by simp [h0]
        have h0bH := Lib.hid h0b
        clear h0 h0b
        obtain ⟨X, hX⟩ : ∃ X, Hid (X = rcode l) := ⟨_, rfl⟩
        rw [← hX.out] at hcallH h0c
        go_wp2_with fail
        refine hcallH.out.mono ?_
        rintro e w2 ⟨i2, k2, rfl, hB2, hI2⟩
        have hE2 := Lib.hid ((hEr.out.below hB2).more hB2.size)
        have hB2H := Lib.hid (hBH.out.trans (hB2.mono hBH.out.size))
        clear hI2 hB2
        go_wp2_with fail
        refine (ringed_any A cap l w2 hE2.out hs).mono ?_
        rintro e w3 ⟨rfl, hB3⟩
        rw [h0bH.out]
        have hB3H := Lib.hid (hB2H.out.trans (hB3.mono hB2H.out.size))
        clear hB3
        go_wp2_with fail
        go_ret
        exact ⟨rfl, hB3H.out⟩
#print axioms ringMany_law
end Go.Proofs.Ytcmfpnghejapbaa
