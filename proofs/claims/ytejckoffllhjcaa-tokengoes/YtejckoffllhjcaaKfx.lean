/-
  How many messages the algorithm of Raymond sends: all steps. Plain.
-/
import Derived.Test.YtejckoffllhjcaaKfw
namespace Go.Proofs.Ytejckoffllhjcaa
set_option linter.unusedVariables false

section
variable {n : Nat} {S T : KS} {W K : Int}
theorem AtK.same {y : Nat} {r : List Nat} (h : AtK n S y r) (hp : T.ptr = S.ptr) (hr : ∀ i, r.head? = some i → i ∉ T.row y) : AtK n T y r :=
  ⟨by rw [hp]; exact h.trail, h.nodup, h.low, hr⟩
theorem MoveK.same {ts W' : Int} (h : MoveK n S W ts) (hp : T.ptr = S.ptr) (hr : ∀ x y, (1 : Int) ∈ S.q x y → x ∉ S.row y → x ∉ T.row y) (hq : ∀ a b, (1 : Int) ∈ S.q a b → (1 : Int) ∈ T.q a b) (hw : W' - pendK n T = W - pendK n S) : MoveK n T W' ts := by
  obtain ⟨x, y, r, h1, h2, h3⟩ := h
  refine ⟨x, y, r, hq _ _ h1, h2.same hp fun i hi => ?_, by rw [hw]; exact h3⟩
  have e : i = x := by injection hi with hi; exact hi.symm
  rw [e]
  exact hr x y h1 (h2.last x rfl)
theorem HoldK.same {ts W' : Int} (h : HoldK n S W ts) (hp : T.ptr = S.ptr) (hw : W' - pendK n T = W - pendK n S) : HoldK n T W' ts := ⟨by rw [hp]; exact h.1, by rw [hw]; exact h.2⟩
theorem FInv.serve {j : Nat} (h : FInv n S W K) (hK : KInvX n S j n) (hj : j < n) : FInv n (S.serve j) W K := by
  by_cases hp : S.ptr j = j
  · cases hi : S.ins j with
    | true =>
      unfold KS.serve
      rw [if_pos (.inr (.inl hi))]; exact h
    | false =>
      by_cases hr : S.row j = []
      · unfold KS.serve
        rw [if_pos (.inr (.inr hr))]; exact h
      · refine FPre.serve ?_ hK hj hp hi hr
        obtain ⟨ts, h1, h2 | ⟨x, y, r, h2, _⟩⟩ := h
        · exact ⟨ts, [], h1, AtK.one hj, by have := h2.2; simp; exact this⟩
        · exact absurd h2 (hK.away hj hp x y)
  · unfold KS.serve
    rw [if_pos (.inl hp)]; exact h
/-- A request is taken off. -/
theorem FInv.popAsk {i j : Nat} {r : List Int} (h : FInv n S W K) (hi : i < n) (hj : j < n) (hq : S.q i j = 0 :: r) : FInv n (S.pop i j) W (K + 1) := by
  obtain ⟨ts, h1, h2⟩ := h
  have p4 : (S.pop i j).q = up2 S.q i j r := by show up2 S.q i j (S.q i j).tail = _; rw [hq]; rfl
  obtain ⟨l1, l2⟩ := len_set hi hj _ p4
  have hm : ∀ a b, (1 : Int) ∈ S.q a b → (1 : Int) ∈ (S.pop i j).q a b := fun a b hm => by
    rw [p4]
    by_cases e : a = i ∧ b = j
    · rw [e.1, e.2, up2_same]
      rw [e.1, e.2, hq] at hm
      rcases List.mem_cons.1 hm with h | h
      · cases h
      · exact h
    · rw [up2_other _ _ e]; exact hm
  refine ⟨ts, ?_, ?_⟩
  · rw [len_split] at h1 ⊢
    rw [l1, l2, hq]
    have c1 : cntK n (S.pop i j) = cntK n S := rfl
    rw [c1]
    simp only [nA, nZ]
    simp
    omega
  · rcases h2 with h2 | h2
    · exact .inl (h2.same rfl rfl)
    · exact .inr (h2.same rfl (fun _ _ _ h => h) hm rfl)
theorem cnt_join (S : KS) {j y : Nat} (hj : j < n) : cntK n ((S.add j y).ask j) = cntK n S + if S.row j = [] ∧ S.ptr j ≠ j then 1 else 0 := by
  obtain ⟨p1, _, p3, _⟩ := join_parts S j y
  rw [cnt_at (S := S) hj (fun x hx => ⟨by rw [p3, up1_other _ _ hx], by rw [p1]⟩)]
  have a2 : cK ((S.add j y).ask j) j = if S.ptr j ≠ j then 1 else 0 := by
    unfold cK
    rw [p1, p3, up1_same]
    by_cases e : S.ptr j ≠ j
    · rw [if_pos ⟨by simp, e⟩, if_pos e]
    · rw [if_neg (fun h => e h.2), if_neg e]
  rw [a2]
  unfold cK
  by_cases e : S.ptr j ≠ j
  · by_cases e2 : S.row j = []
    · rw [if_neg (fun h => h.1 e2), if_pos e, if_pos ⟨e2, e⟩]; omega
    · rw [if_pos ⟨e2, e⟩, if_pos e, if_neg (fun h => e2 h.1)]; omega
  · rw [if_neg (fun h => e h.2), if_neg e, if_neg (fun h => e h.2)]; omega
theorem len_join (S : KS) {j y : Nat} (hj : j < n) (hpn : S.ptr j < n) : tkK n ((S.add j y).ask j) = tkK n S ∧ rqK n ((S.add j y).ask j) = rqK n S + if S.row j = [] ∧ S.ptr j ≠ j then 1 else 0 := by
  obtain ⟨_, _, _, p4⟩ := join_parts S j y
  by_cases e : S.row j = [] ∧ S.ptr j ≠ j
  · rw [if_pos e] at p4
    obtain ⟨l1, l2⟩ := len_set (S := S) hj hpn _ p4
    rw [l1, l2, if_pos e, nA_append, nZ_append]
    simp only [nA, nZ]
    simp
    omega
  · rw [if_neg e] at p4
    rw [if_neg e]
    unfold tkK rqK
    rw [p4]
    exact ⟨rfl, by omega⟩
theorem FInv.join {j y : Nat} (h : FInv n S W K) (hK : KInvX n S n (if y = j then n else y)) (hj : j < n) (hy : y ∉ S.row j) (hn : y ≠ j → S.q y j = []) : FInv n ((S.add j y).ask j) (if y = j then W + 1 else W) K := by
  obtain ⟨p1, _, p3, p4⟩ := join_parts S j y
  have hc := cnt_join (n := n) S (y := y) hj
  obtain ⟨l1, l2⟩ := len_join (n := n) S (y := y) hj (hK.ptrlt j hj)
  obtain ⟨ts, h1, h2⟩ := h
  have hpd : pendK n ((S.add j y).ask j) = pendK n S + if y = j then 1 else 0 := by
    rw [pend_at (S := S) hj (fun x hx => by rw [p3, up1_other _ _ hx])]
    have a1 : pK ((S.add j y).ask j) j = pK S j + if y = j then 1 else 0 := by
      unfold pK
      rw [p3, up1_same]
      by_cases e : y = j
      · rw [e] at hy
        rw [if_pos e, if_neg hy, if_pos (by rw [e]; simp)]; rfl
      · rw [if_neg e]
        have : j ∈ S.row j ++ [y] ↔ j ∈ S.row j := by
          rw [List.mem_append, List.mem_singleton]
          exact ⟨fun h => by rcases h with h | h; exact h; exact absurd h.symm e, .inl⟩
        simp only [this]
        omega
    omega
  have hw : (if y = j then W + 1 else W) - pendK n ((S.add j y).ask j) = W - pendK n S := by
    rw [hpd]; split <;> omega
  have hm : ∀ a b, (1 : Int) ∈ S.q a b → (1 : Int) ∈ ((S.add j y).ask j).q a b := fun a b hm => by
    rw [p4]
    split
    · by_cases e : a = j ∧ b = S.ptr j
      · rw [e.1, e.2, up2_same]
        rw [e.1, e.2] at hm
        exact List.mem_append.2 (.inl hm)
      · rw [up2_other _ _ e]; exact hm
    · exact hm
  refine ⟨ts, ?_, ?_⟩
  · rw [len_split] at h1 ⊢
    rw [l1, l2, hc]
    split <;> omega
  · rcases h2 with h2 | h2
    · exact .inl (h2.same p1 hw)
    · refine .inr (h2.same p1 (fun a b hm2 ha hb => ?_) hm hw)
      rw [p3] at hb
      by_cases e : b = j
      · rw [e, up1_same] at hb
        rw [e] at ha hm2
        rcases List.mem_append.1 hb with h3 | h3
        · exact ha h3
        · have e2 := List.mem_singleton.1 h3
          have hc2 := hK.chan a j (fun e3 => by rw [e3] at hm2; cases hm2)
          have hyj : y ≠ j := fun e3 => hc2.1 (e2.trans e3)
          rw [e2, hn hyj] at hm2
          cases hm2
      · rw [up1_other _ _ e] at hb; exact ha hb
/-- There is one token. -/
theorem KInvX.tok1 {e o : Nat} (h : KInvX n S e o) {i j x y : Nat} (h1 : (1 : Int) ∈ S.q i j) (h2 : (1 : Int) ∈ S.q x y) : x = i ∧ y = j := by
  by_cases e : x = i ∧ y = j
  · exact e
  · exfalso
    have c1 := h.chan i j (fun e => by rw [e] at h1; cases h1)
    have c2 := h.chan x y (fun e => by rw [e] at h2; cases h2)
    have h3 := sum2_at c1.2.1 c1.2.2.1 (f := fun a b => nA (S.q a b)) (g := up2 (fun a b => nA (S.q a b)) i j 0) (fun a b hab => up2_other _ _ hab)
    have h4 := le_sum2 (n := n) (f := up2 (fun a b => nA (S.q a b)) i j 0) (fun a b => by
      by_cases e2 : a = i ∧ b = j
      · rw [e2.1, e2.2, up2_same]; exact Int.le_refl _
      · rw [up2_other _ _ e2]; exact nA_nonneg _) c2.2.1 c2.2.2.1
    rw [up2_same] at h3
    rw [up2_other _ _ e] at h4
    have h5 := nA_mem h1 (by decide)
    have h6 := nA_mem h2 (by decide)
    have h7 := nA_nonneg (S.q i j)
    have h8 := nA_nonneg (S.q x y)
    have h9 := h.one
    have h10 : 0 ≤ sumN n (holdN S) := sumN_nonneg fun i _ => holdN_ge S i
    omega
/-- The token is taken off. -/
theorem AtK.taken {i j : Nat} {r : List Nat} (h : AtK n S j (i :: r)) : AtK n ((S.pop i j).aim j j) j (i :: r) := by
  have hd := List.nodup_cons.1 h.nodup
  refine ⟨h.trail.same fun x hx => ?_, h.nodup, h.low, h.last⟩
  exact up1_other _ _ (fun e => hd.1 (by rw [← e]; exact hx))
theorem popTok_counts {i j : Nat} {x : Int} {r : List Int} (hK : KInv n S) (hq : S.q i j = x :: r) (hx : x ≠ 0) :
    tkK n ((S.pop i j).aim j j) = tkK n S - 1 ∧ rqK n ((S.pop i j).aim j j) = rqK n S ∧ cntK n ((S.pop i j).aim j j) = cntK n S - 1 ∧ pendK n ((S.pop i j).aim j j) = pendK n S := by
  obtain ⟨_, hi, hj, hij, hpj, _, _, hrj, _, rfl, _⟩ := KInvX.popTok hK hq hx
  have p4 : ((S.pop i j).aim j j).q = up2 S.q i j r := by show up2 S.q i j (S.q i j).tail = _; rw [hq]; rfl
  obtain ⟨l1, l2⟩ := len_set hi hj _ p4
  refine ⟨?_, ?_, ?_, rfl⟩
  · rw [l1, hq]; simp only [nA]; simp; omega
  · rw [l2, hq]; simp only [nZ]; simp
  · rw [cnt_at (S := S) (T := (S.pop i j).aim j j) hj (fun x hx => ⟨rfl, up1_other _ _ hx⟩)]
    have a1 : cK S j = 1 := by unfold cK; rw [if_pos ⟨hrj, by rw [hpj]; exact hij⟩]
    have a2 : cK ((S.pop i j).aim j j) j = 0 := by unfold cK; rw [if_neg (fun h => h.2 (up1_same _ _ _))]
    omega
theorem FInv.popTok {i j : Nat} {x : Int} {r : List Int} (h : FInv n S W K) (hK : KInv n S) (hq : S.q i j = x :: r) (hx : x ≠ 0) : FPre n ((S.pop i j).aim j j) j W (K + 1) := by
  obtain ⟨_, hi, hj, hij, hpj, _, _, hrj, _, hx1, _⟩ := KInvX.popTok hK hq hx
  obtain ⟨c1, c2, c3, c4⟩ := popTok_counts hK hq hx
  have hm : (1 : Int) ∈ S.q i j := by rw [hq, hx1]; simp
  obtain ⟨ts, h1, h2⟩ := h
  rcases h2 with ⟨⟨k, hk, hk2⟩, _⟩ | ⟨a, b, r', h2, h3, h4⟩
  · exact absurd hm (hK.away hk hk2 i j)
  · obtain ⟨rfl, rfl⟩ := hK.tok1 hm h2
    refine ⟨ts, a :: r', ?_, h3.taken, ?_⟩
    · rw [len_split] at h1 ⊢
      rw [c1, c2, c3]
      omega
    · rw [c4, List.length_cons]
      omega

/-- All of it, with how many wanted to enter and how many messages were taken. -/
structure PInv (n : Nat) (S : KS) (W K : Int) : Prop where
  inv : KInv n S
  rank : RInv n S
  few : FInv n S W K
  w0 : 0 ≤ W
  k0 : 0 ≤ K
  zero : W = 0 → (∀ i, S.row i = []) ∧ (∀ a b, S.q a b = []) ∧ (∀ i, S.ins i = false) ∧ K = 0
theorem PInv.want {i : Nat} (h : PInv n S W K) (hi : i < n) (h1 : S.ins i = false) (h2 : i ∉ S.row i) : PInv n (S.enq i i) (W + 1) K := by
  have hj := KInvX.join h.inv hi hi (.inl rfl) h2 (fun _ => h1) (fun e => absurd rfl e)
  have hf := h.few.join (j := i) (y := i) (by rw [if_pos rfl]; exact h.inv) hi h2 (fun e => absurd rfl e)
  rw [if_pos rfl] at hf
  have := h.w0
  exact ⟨KInvX.want h.inv hi h1 h2, (h.rank.join i i).serve hj hi, hf.serve hj hi, by omega, h.k0, fun e => by omega⟩
theorem PInv.leave {i : Nat} (h : PInv n S W K) (hi : i < n) (h1 : S.ins i = true) : PInv n (S.leave i) W K := by
  have hb : KInvX n (S.off i) i n := by
    have hb : KInvX n S i n := KInvX.weak h.inv i
    refine { hb with insp := fun x hx => ?_, idle := fun x hx hxn h3 h4 => ?_ }
    · have e : x ≠ i := fun e => by
        have : up1 S.ins i false x = true := hx
        rw [e, up1_same] at this; cases this
      have : up1 S.ins i false x = true := hx
      rw [up1_other _ _ e] at this
      exact h.inv.insp x this
    · have : up1 S.ins i false x = false := h4
      rw [up1_other _ _ hx] at this
      exact hb.idle x hx hxn h3 this
  have hf : FInv n (S.off i) W K := by
    obtain ⟨ts, f1, f2⟩ := h.few
    refine ⟨ts, f1, ?_⟩
    rcases f2 with f2 | f2
    · exact .inl (f2.same rfl rfl)
    · exact .inr (f2.same rfl (fun _ _ _ h => h) (fun _ _ h => h) rfl)
  have hr : RInv n (S.off i) := h.rank.same rfl fun _ _ h => h
  refine ⟨KInvX.leave h.inv hi h1, hr.serve hb hi, hf.serve hb hi, h.w0, h.k0, fun e => ?_⟩
  have := (h.zero e).2.2.1 i
  rw [h1] at this; cases this
theorem come_eq {i j : Nat} {x : Int} {r : List Int} (h : S.q i j = x :: r) : S.come i j = if x = 0 then (S.pop i j).enq j i else ((S.pop i j).aim j j).serve j := by
  unfold KS.come
  rw [h]; rfl
theorem PInv.come {i j : Nat} (h : PInv n S W K) (hq : S.q i j ≠ []) : PInv n (S.come i j) W (K + 1) := by
  have hz : W ≠ 0 := fun e => hq ((h.zero e).2.1 i j)
  have hk := h.k0
  have hI := KInvX.come h.inv hq
  refine ⟨hI, ?_, ?_, h.w0, by omega, fun e => absurd e hz⟩
  all_goals
    cases e : S.q i j with
    | nil => exact absurd e hq
    | cons x r =>
      rw [come_eq e]
      by_cases hx : x = 0
      · subst hx
        rw [if_pos rfl]
        obtain ⟨a0, a1, a2, a3, a4, a5, a6, a7, a8, a9⟩ := KInvX.popAsk h.inv e
        have hqj : (S.pop i j).q j i = S.q j i := up2_other _ _ (fun e2 => a3 e2.2)
        have hj := KInvX.join a0 a2 a1 (.inr ⟨rfl, a3⟩) a4 (fun e2 => absurd e2 a3) (fun _ => ⟨a5, a6, a7, by rw [hqj]; exact a8⟩)
        first
          | exact ((h.rank.popAsk e).join j i).serve hj a2
          | (have hf := (h.few.popAsk a1 a2 e).join (j := j) (y := i) (by rw [if_neg a3]; exact a0) a2 a4 (fun _ => a6)
             rw [if_neg a3] at hf
             exact hf.serve hj a2)
      · obtain ⟨a0, a1, a2, a3, a4, a5, a6, a7, _⟩ := KInvX.popTok h.inv e hx
        rw [if_neg hx]
        first
          | exact (h.rank.popTok h.inv e hx).serve a0 a2
          | exact (h.few.popTok h.inv e hx).serve a0 a2 (up1_same _ _ _) (by
              cases e2 : S.ins j with
              | false => exact e2
              | true =>
                have := (h.inv.insp j e2).2.1
                exact absurd (this.symm.trans a4) (fun e3 => a3 e3.symm)) a7
end

#print axioms PInv.come
end Go.Proofs.Ytejckoffllhjcaa
