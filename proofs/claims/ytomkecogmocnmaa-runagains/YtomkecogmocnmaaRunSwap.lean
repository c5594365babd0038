/-
  The walk of the law RunSwap: two events side by side can change places just if the first one is not ahead of the second one.
-/
import Derived.Test.YtomkecogmocnmaaLin
namespace Go.Proofs.Ytomkecogmocnmaa
open Go.RowKit Go.Maps

theorem again_ext (A A' : Option Addr) (cap cap' : Nat) (l : List Ev) (o : List Nat) (n : Int) (w : World) (hE : Evs w w.heap.size A l) (hF : Fits l) (hO : Nums w w.heap.size A' (o.map Int.ofNat)) (h0 : checkCode n l = 0) (hp : Perm o l.length)
    (C : Bool) (hC : C = true ↔ Ext l o) :
    Calls Try.prog 16 #[.int .i64 n, .slice A l.length cap, .slice A' l.length cap'] w fun e w' => e = .returned (.tuple #[.bool C, .int .i64 0]) ∧ Below w.heap.size w w' := by
  have := again_main A A' cap cap' l o n w hE hF hO h0 (of_perm hp) hp.len (fun i hi => by rw [hp.len]; exact hp.lt _ (List.getElem_mem hi)) C (by unfold Hid; rw [hC, again_iff h0 hp])
  rw [hp.len] at this
  exact this

theorem perm_range (c : Nat) : Perm (List.range c) c := ⟨by simp, fun _ hx => List.mem_range.1 hx, List.nodup_range⟩
theorem range_get {c k : Nat} (h : k < c) : (List.range c).getD k 0 = k := by simp [h]
theorem ext_range (l : List Ev) : Ext l (List.range l.length) := by
  intro a b hab hb hh
  rw [List.length_range] at hb
  rw [range_get hb, range_get (by omega)] at hh
  have := hh.lt
  omega

/-- 0, 1, .., i + 1, i, .. -/
def swapped (c i : Nat) : List Nat := ((List.range c).set i (i + 1)).set (i + 1) i
theorem swapped_get {c i k : Nat} (hi : i + 1 < c) (hk : k < c) : (swapped c i).getD k 0 = if k = i then i + 1 else if k = i + 1 then i else k := by
  unfold swapped
  rw [List.getD_eq_getElem?_getD]
  by_cases h1 : k = i
  · subst h1
    rw [if_pos rfl, List.getElem?_set_ne (by omega), List.getElem?_set_self (by simp; omega)]
    rfl
  · rw [if_neg h1]
    by_cases h2 : k = i + 1
    · subst h2
      rw [if_pos rfl, List.getElem?_set_self (by simp; omega)]
      rfl
    · rw [if_neg h2, List.getElem?_set_ne (by omega), List.getElem?_set_ne (by omega)]
      simp [hk]
theorem swapped_len (c i : Nat) : (swapped c i).length = c := by simp [swapped]
theorem perm_swapped {c i : Nat} (hi : i + 1 < c) : Perm (swapped c i) c := by
  have hg : ∀ k, (h : k < (swapped c i).length) → (swapped c i)[k] = if k = i then i + 1 else if k = i + 1 then i else k := fun k h => by
    have := swapped_get hi (k := k) (by rw [swapped_len] at h; exact h)
    simpa [h] using this
  refine ⟨swapped_len c i, fun x hx => ?_, ?_⟩
  · obtain ⟨k, hk, rfl⟩ := List.getElem_of_mem hx
    rw [hg k hk]
    rw [swapped_len] at hk
    split
    · omega
    · split <;> omega
  · rw [List.Nodup, List.pairwise_iff_getElem]
    intro a b ha hb hab
    rw [hg a ha, hg b hb]
    (repeat' split) <;> omega
theorem ext_swapped {l : List Ev} {i : Nat} (hi : i + 1 < l.length) : Ext l (swapped l.length i) ↔ ¬ HB l i (i + 1) := by
  constructor
  · intro h hh
    have := h i (i + 1) (by omega) (by rw [swapped_len]; exact hi)
    rw [swapped_get hi hi, swapped_get hi (by omega), if_neg (by omega), if_pos rfl, if_pos rfl] at this
    exact this hh
  · intro h a b hab hb hh
    rw [swapped_len] at hb
    rw [swapped_get hi hb, swapped_get hi (by omega)] at hh
    have hlt := hh.lt
    by_cases h1 : a = i ∧ b = i + 1
    · obtain ⟨rfl, rfl⟩ := h1
      rw [if_neg (by omega), if_pos rfl, if_pos rfl] at hh
      exact h hh
    · revert hlt
      (repeat' split) <;> omega

theorem info3 : (Try.prog.info? 3).map (fun i => (i.zero, i.size, i.bytes)) = some (some (.int .i64 0), 1, 8) := by kernel_rfl

/-- Row g holds the numbers o. -/
def ints (o : List Nat) : List Value := o.map fun (x : Nat) => Value.int .i64 (x : Int)
theorem nums_row {w : World} {g : Nat} {o : List Nat} (h : Row w g 3 (ints o)) : Nums w w.heap.size (some ⟨g, 0, none⟩) (o.map Int.ofNat) := by
  intro _
  refine ⟨g, 0, rfl, h.lt, fun i hi => ?_⟩
  have hi' : i < o.length := by simpa using hi
  rw [Nat.zero_add, h.cell (by simpa [ints] using hi')]
  simp [ints]

/-- The first k of them are laid, the others 0. -/
def idTo (c k : Nat) : List Nat := (List.range c).map fun i => if i < k then i else 0
theorem idTo_len (c k : Nat) : (idTo c k).length = c := by simp [idTo]
theorem idTo_zero (c : Nat) : ints (idTo c 0) = List.replicate c (.int .i64 0) := by
  apply List.ext_getElem
  · simp [ints, idTo]
  · intro i h1 h2; simp [ints, idTo]
theorem idTo_all (c : Nat) : idTo c c = List.range c := by
  apply List.ext_getElem
  · simp [idTo]
  · intro i h1 h2
    have : i < c := by simpa [idTo] using h1
    simp [idTo, this]
theorem idTo_set (c k : Nat) : (ints (idTo c k)).set k (.int .i64 (k : Int)) = ints (idTo c (k + 1)) := by
  apply List.ext_getElem
  · simp [ints, idTo]
  · intro i h1 h2
    rw [List.getElem_set]
    by_cases e : k = i
    · subst e; simp [ints, idTo]
    · rw [if_neg e]
      have : (i < k) ↔ (i < k + 1) := by omega
      simp [ints, idTo, this]

def SwapRel (c : Nat) (w : World) (k : Nat) (wr : World) : Prop := Row wr w.heap.size 3 (ints (idTo c k)) ∧ Below w.heap.size w wr

set_option maxHeartbeats 2000000 in
theorem runSwap_law (w : World) (n : Int) (_hn : I64 n) (A : Option Addr) (cap : Nat) (l : List Ev) (hE : Evs w w.heap.size A l) (hF : Fits l) (hcap : l.length ≤ cap) (hl : l.length ≤ maxLen) (hs : l.length ≤ 17592186044416) (k : Int) (hk : 0 ≤ k ∧ k ≤ 255) :
    Calls Try.prog 9 #[.int .i64 n, .slice A l.length cap, .int .u8 k] w fun e w' => e = .returned (.bool true) ∧ Below w.heap.size w w' := by
  obtain ⟨hk0, hk1⟩ := hk
  obtain ⟨i0, hi0, hz0, hz1, hz2⟩ := info_parts info3
  have hz2' : i0.bytes * l.length ≤ 281474976710656 := by rw [hz2]; omega
  have hHi := Lib.hid hi0; have hHz := Lib.hid hz0; have hHs := Lib.hid hz1
  clear hi0 hz0 hz1 hz2
  go_enter Try.func9, Try.ntmps9
  go_wp2_with (first
    | (at_make; refine wpList_make_row _ rfl _ _ 34 rfl 3 i0 (.int .i64 0) Try.underlying34 hHi.out hHz.out hHs.out rfl .i64 .i64 _ _ l.length rfl rfl rfl rfl hz2' hl ?_; intro w1 hR1 hG1))
  have hB1 : Below w.heap.size w w1 := (Below.refl _ _).grown hG1 (Nat.le_refl _) (by simp)
  go_loopw [8] (fun i wr => ∃ k : Nat, k ≤ l.length ∧ i = .int .i64 k ∧ SwapRel l.length w k wr) (fun i _ => l.length - (intOf i).toNat)
  case atStart => exact ⟨0, Nat.zero_le _, rfl, by rw [idTo_zero]; exact hR1, hB1⟩
  case round =>
    obtain ⟨q, hq, rfl, hR, hB⟩ := hrel
    clear hR1 hG1 hB1
    by_cases hlt : q < l.length
    · obtain ⟨v, hcell⟩ : ∃ v, wr.cell? ⟨w.heap.size, q, none⟩ = some v := ⟨_, hR.cell (by simp [ints, idTo]; exact hlt)⟩
      have hfro := hR.frozen q
      have hR2 := hR.set q (.int .i64 (q : Int))
      rw [idTo_set] at hR2
      have hB2 := hB.setCell (p := ⟨w.heap.size, q, none⟩) (Nat.le_refl _) (.int .i64 (q : Int))
      go_wp2
      go_roundw
      case rel => exact ⟨q + 1, by omega, by go_num, hR2, hB2⟩
      case measure => simp [intOf]; omega
    · have hql : q = l.length := by omega
      subst hql
      rw [idTo_all] at hR
      have hEr := (hE.below hB).more hB.size
      by_cases h0 : checkCode n l = 0
      · have h30 := (check_small h0).2.2
        have hr : (checkCode n l == 0) = true := by simp [h0]
        have h0H := Lib.hid h0
        clear h0
        go_wp2_with fail
        refine (again_ext A _ cap _ l (List.range l.length) n _ hEr hF (nums_row hR) h0H.out (perm_range _) true ⟨fun _ => ext_range l, fun _ => rfl⟩).mono ?_
        rintro e w2 ⟨rfl, hB2'⟩
        have hR2 := hR.below hB2' hR.lt
        have hB2 := hB.trans (hB2'.mono hB.size)
        clear hB2' hEr hR
        go_wp2_with fail
        refine (ran_any A cap l n _ ((hE.below hB2).more hB2.size) hcap hl).mono ?_
        rintro e w3 ⟨rfl, hB3'⟩
        have hR3 := hR2.below hB3' hR2.lt
        have hB3 := hB2.trans (hB3'.mono hB2.size)
        clear hB3' hR2 hB2
        by_cases h2 : l.length < 2
        · go_wp2_with fail
          go_ret
          exact ⟨rfl, hB3⟩
        · have hm1 : 0 ≤ k % ((l.length : Int) - 1) := Int.emod_nonneg _ (by omega)
          have hm2 : k % ((l.length : Int) - 1) < (l.length : Int) - 1 := Int.emod_lt_of_pos _ (by omega)
          obtain ⟨i, hmod⟩ := Int.eq_ofNat_of_zero_le hm1
          have hi : i + 1 < l.length := by omega
          clear hm1 hm2
          obtain ⟨v0, x0⟩ : ∃ v, w3.cell? ⟨w.heap.size, i, none⟩ = some v := ⟨_, hR3.cell (by simp [ints]; omega)⟩
          obtain ⟨v1, x1⟩ : ∃ v, w3.cell? ⟨w.heap.size, i + 1, none⟩ = some v := ⟨_, hR3.cell (by simp [ints]; omega)⟩
          have f0 := hR3.frozen i
          have f1 := hR3.frozen (i + 1)
          have hR4 : Row ((w3.setCell ⟨w.heap.size, i, none⟩ (.int .i64 ((i : Int) + 1))).setCell ⟨w.heap.size, i + 1, none⟩ (.int .i64 (i : Int))) w.heap.size 3 (ints (swapped l.length i)) := by
            have := (hR3.set i (.int .i64 ((i : Int) + 1))).set (i + 1) (.int .i64 (i : Int))
            unfold swapped
            unfold ints at this ⊢
            rw [List.map_set, List.map_set]
            exact this
          have hB4 := (hB3.setCell (p := ⟨w.heap.size, i, none⟩) (Nat.le_refl _) (.int .i64 ((i : Int) + 1))).setCell (p := ⟨w.heap.size, i + 1, none⟩) (Nat.le_refl _) (.int .i64 (i : Int))
          have hC : Hid ((!bitAt l i (i + 1)) = true ↔ Ext l (swapped l.length i)) := by
            unfold Hid
            rw [ext_swapped hi, ← bit_hb h0H.out i hi]
            simp
          have hx : bitAt l i (i + 1) = true ∨ bitAt l i (i + 1) = false := by cases bitAt l i (i + 1) <;> simp
          go_wp2_with fail
          refine (again_ext A _ cap _ l (swapped l.length i) n _ ((hE.below hB4).more hB4.size) hF (nums_row hR4) h0H.out (perm_swapped hi) (!bitAt l i (i + 1)) hC.out).mono ?_
          rintro e w5 ⟨rfl, hB5'⟩
          have hB5 := hB4.trans (hB5'.mono hB4.size)
          clear hB5' hB4 hR4 hR3 hB3
          go_wp2_with fail
          refine (ahead_ok A cap l n i (i + 1) _ ((hE.below hB5).more hB5.size) hF h0H.out (by omega) hi).mono ?_
          rintro e w6 ⟨rfl, hB6'⟩
          have hB6 := hB5.trans (hB6'.mono hB5.size)
          clear hB6' hB5 hC
          generalize bitAt l i (i + 1) = a at *
          clear hx
          cases a
          all_goals
            go_wp2_with fail
            go_ret
            exact ⟨rfl, hB6⟩
      · have hr : (checkCode n l == 0) = false := by simp [h0]
        have hr' : (checkCode n l != 0) = true := by simp [h0]
        have h0H := Lib.hid h0
        clear h0
        go_wp2_with fail
        refine (again_no A _ cap _ l.length l n _ hEr hF hl h0H.out).mono ?_
        rintro e w2 ⟨rfl, hB2'⟩
        have hB2 := hB.trans (hB2'.mono hB.size)
        clear hB2' hEr
        go_wp2_with fail
        refine (ran_any A cap l n _ ((hE.below hB2).more hB2.size) hcap hl).mono ?_
        rintro e w3 ⟨rfl, hB3'⟩
        have hB3 := hB2.trans (hB3'.mono hB2.size)
        go_wp2_with fail
        go_ret
        exact ⟨rfl, hB3⟩

#print axioms runSwap_law
end Go.Proofs.Ytomkecogmocnmaa
