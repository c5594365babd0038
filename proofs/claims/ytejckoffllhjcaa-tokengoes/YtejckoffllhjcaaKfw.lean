/-
  How many messages the algorithm of Raymond sends, and that it comes to an end: plain.
-/
import Derived.Test.YtejckoffllhjcaaTos
import Derived.Test.YtejckoffllhjcaaTgo
namespace Go.Proofs.Ytejckoffllhjcaa
set_option linter.unusedVariables false

/-! What the stages of a step are. -/
theorem pass_parts {S : KS} {j y : Nat} {t : List Nat} (hr : S.row j = y :: t) (hq : S.q j y = []) :
    (S.pass j y).ptr = up1 S.ptr j y ∧ (S.pass j y).ins = S.ins ∧ (S.pass j y).row = up1 S.row j t ∧ (S.pass j y).q = up2 S.q j y (if t = [] then [1] else [1, 0]) := by
  have ht : (S.row j).tail = t := by rw [hr]; rfl
  refine ⟨by unfold KS.pass; split <;> rfl, by unfold KS.pass; split <;> rfl, ?_, ?_⟩
  · rw [← ht]
    unfold KS.pass; split <;> rfl
  · unfold KS.pass
    rw [ht]
    by_cases e : t = []
    · rw [if_pos e, if_pos e]
      show up2 S.q j y (S.q j y ++ [1]) = _
      rw [hq]; rfl
    · rw [if_neg e, if_neg e]
      show up2 (up2 S.q j y (S.q j y ++ [1])) j y (up2 S.q j y (S.q j y ++ [1]) j y ++ [0]) = _
      rw [up2_same, hq]
      funext a b
      by_cases e2 : a = j ∧ b = y
      · rw [e2.1, e2.2, up2_same, up2_same]; rfl
      · rw [up2_other _ _ e2, up2_other _ _ e2, up2_other _ _ e2]
theorem join_parts (S : KS) (j y : Nat) :
    ((S.add j y).ask j).ptr = S.ptr ∧ ((S.add j y).ask j).ins = S.ins ∧ ((S.add j y).ask j).row = up1 S.row j (S.row j ++ [y]) ∧
      ((S.add j y).ask j).q = if S.row j = [] ∧ S.ptr j ≠ j then up2 S.q j (S.ptr j) (S.q j (S.ptr j) ++ [0]) else S.q := by
  have hlen : ((S.add j y).row j).length = 1 ↔ S.row j = [] := by
    show (up1 S.row j (S.row j ++ [y]) j).length = 1 ↔ _
    rw [up1_same, List.length_append, List.length_singleton]
    constructor
    · intro h; exact List.length_eq_zero_iff.1 (by omega)
    · intro h; rw [h]; rfl
  refine ⟨by unfold KS.ask; split <;> rfl, by unfold KS.ask; split <;> rfl, by unfold KS.ask; split <;> rfl, ?_⟩
  unfold KS.ask
  simp only [hlen]
  show (if S.row j = [] ∧ S.ptr j ≠ j then _ else _ : KS).q = _
  split <;> rfl

/-! Ranks: whoever points to somebody is further from the token. -/
def RInv (n : Nat) (S : KS) : Prop := ∃ (rk : Nat → Nat) (b : Nat), ∀ p, p < n → rk p ≤ b ∧ (S.ptr p ≠ p → (1 : Int) ∉ S.q (S.ptr p) p → rk (S.ptr p) < rk p)
theorem RInv.same {n : Nat} {S T : KS} (h : RInv n S) (hp : T.ptr = S.ptr) (hq : ∀ a b, (1 : Int) ∈ S.q a b → (1 : Int) ∈ T.q a b) : RInv n T := by
  obtain ⟨rk, b, h⟩ := h
  refine ⟨rk, b, fun p hpn => ⟨(h p hpn).1, ?_⟩⟩
  rw [hp]
  intro h1 h2
  exact (h p hpn).2 h1 (fun h3 => h2 (hq _ _ h3))
theorem RInv.join {n : Nat} {S : KS} (h : RInv n S) (j y : Nat) : RInv n ((S.add j y).ask j) := by
  obtain ⟨p1, _, _, p4⟩ := join_parts S j y
  refine h.same p1 fun a b hm => ?_
  rw [p4]
  split
  · by_cases e : a = j ∧ b = S.ptr j
    · rw [e.1, e.2, up2_same]
      rw [e.1, e.2] at hm
      exact List.mem_append.2 (.inl hm)
    · rw [up2_other _ _ e]; exact hm
  · exact hm
theorem RInv.serve {n j : Nat} {S : KS} (h : RInv n S) (hK : KInvX n S j n) (hj : j < n) : RInv n (S.serve j) := by
  unfold KS.serve
  split
  · exact h
  · next hc =>
    have h1 : S.ptr j = j := by
      by_cases e : S.ptr j = j
      · exact e
      · exact absurd (.inl e) hc
    cases hr : S.row j with
    | nil => exact absurd (.inr (.inr hr)) hc
    | cons y t =>
      show RInv n (if y = j then _ else S.pass j y)
      by_cases e : y = j
      · rw [if_pos e]
        exact h.same rfl fun _ _ hm => hm
      · rw [if_neg e]
        obtain ⟨y1, y2, y3⟩ := hK.rowp j y (by rw [hr]; simp) e
        have hch : S.q j y = [] := by
          by_cases e2 : S.q j y = []
          · exact e2
          · have := hK.chan j y e2
            exact absurd (h1.symm.trans this.2.2.2.1) this.1
        obtain ⟨p1, _, _, p4⟩ := pass_parts hr hch
        obtain ⟨rk, b, h⟩ := h
        refine ⟨fun p => if p = y then 0 else rk p + 1, b + 1, fun p hp => ⟨?_, ?_⟩⟩
        · have := (h p hp).1
          show (if p = y then 0 else rk p + 1) ≤ _
          split <;> omega
        · rw [p1]
          show up1 S.ptr j y p ≠ p → (1 : Int) ∉ _ → (if up1 S.ptr j y p = y then 0 else rk (up1 S.ptr j y p) + 1) < (if p = y then 0 else rk p + 1)
          intro a1 a2
          by_cases e2 : p = y
          · exfalso
            apply a2
            rw [e2, up1_other _ _ e, y1, p4, up2_same]
            split <;> simp
          · rw [if_neg e2]
            by_cases e3 : p = j
            · rw [e3, up1_same, if_pos rfl]; omega
            · rw [up1_other _ _ e3] at a1 a2 ⊢
              by_cases e4 : S.ptr p = y
              · rw [if_pos e4]; omega
              · rw [if_neg e4]
                have a3 : (1 : Int) ∉ S.q (S.ptr p) p := fun hm => a2 (by rw [p4, up2_other _ _ (fun e5 => e2 e5.2)]; exact hm)
                have := (h p hp).2 a1 a3
                omega
theorem RInv.popAsk {n i j : Nat} {S : KS} {r : List Int} (h : RInv n S) (hq : S.q i j = 0 :: r) : RInv n (S.pop i j) := h.same rfl fun a b hm => by
  show (1 : Int) ∈ up2 S.q i j (S.q i j).tail a b
  by_cases e : a = i ∧ b = j
  · rw [e.1, e.2, up2_same]
    rw [e.1, e.2, hq] at hm
    rw [hq]
    rcases List.mem_cons.1 hm with h1 | h1
    · cases h1
    · exact h1
  · rw [up2_other _ _ e]; exact hm
theorem RInv.popTok {n i j : Nat} {S : KS} {x : Int} {r : List Int} (h : RInv n S) (hK : KInv n S) (hq : S.q i j = x :: r) (hx : x ≠ 0) : RInv n ((S.pop i j).aim j j) := by
  obtain ⟨_, b1, b2, b3, b4, _⟩ := KInvX.popTok hK hq hx
  obtain ⟨rk, b, h⟩ := h
  refine ⟨rk, b, fun p hp => ⟨(h p hp).1, ?_⟩⟩
  show up1 S.ptr j j p ≠ p → (1 : Int) ∉ up2 S.q i j (S.q i j).tail (up1 S.ptr j j p) p → rk (up1 S.ptr j j p) < rk p
  intro a1 a2
  by_cases e : p = j
  · rw [e, up1_same] at a1; exact absurd rfl a1
  · rw [up1_other _ _ e] at a1 a2 ⊢
    rw [up2_other _ _ (fun e2 => e e2.2)] at a2
    exact (h p hp).2 a1 a2
/-- Behind every queue there is somebody who waits. -/
theorem RInv.pend {n e o : Nat} {S : KS} (h : RInv n S) (hK : KInvX n S e o) {x : Nat} (hx : S.row x ≠ []) : ∃ p, p < n ∧ p ∈ S.row p := by
  obtain ⟨rk, b, h⟩ := h
  have key : ∀ (k x : Nat), S.row x ≠ [] → b - rk x < k → ∃ p, p < n ∧ p ∈ S.row p := by
    intro k
    induction k with
    | zero => intro x _ h2; omega
    | succ k ih =>
      intro x hx h2
      cases hr : S.row x with
      | nil => exact absurd hr hx
      | cons z t =>
        have hz : z ∈ S.row x := by rw [hr]; simp
        obtain ⟨l1, l2⟩ := hK.rowlt x z hz
        by_cases ez : z = x
        · exact ⟨x, l1, by rw [ez] at hz; exact hz⟩
        · obtain ⟨a1, a2, a3⟩ := hK.rowp x z hz ez
          have h3 := h z l2
          rw [a1] at h3
          have h4 := h3.2 (fun e2 => ez e2.symm) (fun hm => (hK.tok x z hm).2.2.2.1 hz)
          exact ih z a3 (by omega)
  exact key _ x hx (Nat.lt_succ_self _)

/-! How many. -/
def cK (S : KS) (i : Nat) : Int := if S.row i ≠ [] ∧ S.ptr i ≠ i then 1 else 0
def pK (S : KS) (i : Nat) : Int := if i ∈ S.row i then 1 else 0
def cntK (n : Nat) (S : KS) : Int := sumN n (cK S)
def pendK (n : Nat) (S : KS) : Int := sumN n (pK S)
def lenK (n : Nat) (S : KS) : Int := sum2 n fun i j => ((S.q i j).length : Int)
def tkK (n : Nat) (S : KS) : Int := sum2 n fun i j => nA (S.q i j)
def rqK (n : Nat) (S : KS) : Int := sum2 n fun i j => nZ (S.q i j)
section
variable {n : Nat} {S T : KS}
theorem len_split (n : Nat) (S : KS) : lenK n S = tkK n S + rqK n S := by
  unfold lenK tkK rqK
  rw [← sum2_add]
  exact sum2_congr fun i j _ _ => (nAZ _).symm
theorem cK_ge (S : KS) (i : Nat) : 0 ≤ cK S i := by unfold cK; split <;> decide
theorem cK_le (S : KS) (i : Nat) : cK S i ≤ 1 := by unfold cK; split <;> decide
theorem pK_ge (S : KS) (i : Nat) : 0 ≤ pK S i := by unfold pK; split <;> decide
theorem pend_ge (n : Nat) (S : KS) : 0 ≤ pendK n S := sumN_nonneg fun i _ => pK_ge S i
theorem cnt_ge (n : Nat) (S : KS) : 0 ≤ cntK n S := sumN_nonneg fun i _ => cK_ge S i
theorem tk_ge (n : Nat) (S : KS) : 0 ≤ tkK n S := sum2_nonneg fun i j => nA_nonneg _
theorem rq_ge (n : Nat) (S : KS) : 0 ≤ rqK n S := sum2_nonneg fun i j => nZ_nonneg _
theorem cnt_le (n : Nat) (S : KS) : cntK n S ≤ n := by
  unfold cntK
  induction n with
  | zero => exact Int.le_refl _
  | succ n ih => rw [sumN]; have := cK_le S n; omega
theorem cnt_hold {j : Nat} (hj : j < n) (h : S.ptr j = j) : cntK n S ≤ (n : Int) - 1 := by
  have h1 : sumN n (cK S) ≤ sumN n (fun i => if i = j then 0 else 1) := sumN_mono2 fun i _ => by
    by_cases e : i = j
    · rw [if_pos e, e]
      unfold cK
      rw [if_neg (fun h2 => h2.2 h)]; exact Int.le_refl _
    · rw [if_neg e]; exact cK_le S i
  have h2 := sumN_at hj (f := fun _ => 1) (g := fun i => if i = j then 0 else 1) (fun x hx => if_neg hx)
  rw [sumN_const, if_pos rfl] at h2
  unfold cntK
  omega
theorem cnt_at {j : Nat} (hj : j < n) (h : ∀ x, x ≠ j → T.row x = S.row x ∧ T.ptr x = S.ptr x) : cntK n T = cntK n S - cK S j + cK T j :=
  sumN_at hj fun x hx => by
    unfold cK
    rw [(h x hx).1, (h x hx).2]
theorem pend_at {j : Nat} (hj : j < n) (h : ∀ x, x ≠ j → T.row x = S.row x) : pendK n T = pendK n S - pK S j + pK T j :=
  sumN_at hj fun x hx => by
    unfold pK
    rw [h x hx]
theorem len_set {i j : Nat} (hi : i < n) (hj : j < n) (v : List Int) (h : T.q = up2 S.q i j v) :
    tkK n T = tkK n S - nA (S.q i j) + nA v ∧ rqK n T = rqK n S - nZ (S.q i j) + nZ v := by
  constructor
  · exact sum2_set hi hj v h
  · unfold rqK
    rw [sum2_at hi hj (f := fun a b => nZ (S.q a b)) (g := fun a b => nZ (T.q a b)) (fun a b hab => by rw [h, up2_other _ _ hab])]
    rw [h, up2_same]

/-! The way of the token. -/
def TrailK (u : Nat → Nat) : List Nat → Prop
  | [] => True
  | [_] => True
  | a :: b :: r => u b = a ∧ TrailK u (b :: r)
theorem TrailK.same {u v : Nat → Nat} : ∀ {l : List Nat}, TrailK u l → (∀ x ∈ l.tail, v x = u x) → TrailK v l
  | [], _, _ => trivial
  | [_], _, _ => trivial
  | a :: b :: r, h, he => ⟨(he b (by simp)).trans h.1, TrailK.same h.2 (fun x hx => he x (by simp; exact .inr hx))⟩
theorem TrailK.from_ {u : Nat → Nat} : ∀ {a : Nat} {r : List Nat}, TrailK u (a :: r) → ∀ x ∈ r, (u x = a ∧ r.head? = some x) ∨ u x ∈ r
  | a, b :: r, h, x, hx => by
    rcases List.mem_cons.1 hx with e | e
    · subst e; exact .inl ⟨h.1, rfl⟩
    · right
      rcases TrailK.from_ h.2 x e with ⟨h1, _⟩ | h1
      · rw [h1]; simp
      · exact List.mem_cons_of_mem _ h1
/-- The token is at j, by way of r. -/
structure AtK (n : Nat) (S : KS) (j : Nat) (r : List Nat) : Prop where
  trail : TrailK S.ptr (j :: r)
  nodup : (j :: r).Nodup
  low : ∀ x ∈ j :: r, x < n
  last : ∀ i, r.head? = some i → i ∉ S.row j
theorem AtK.len {j : Nat} {r : List Nat} (h : AtK n S j r) : r.length + 1 ≤ n := by
  have h1 : (j :: r) ⊆ List.range n := fun x hx => List.mem_range.2 (h.low x hx)
  have := h.nodup.length_le_of_subset h1
  rwa [List.length_range] at this
theorem AtK.one {j : Nat} (hj : j < n) : AtK n S j [] := ⟨trivial, by simp, fun x hx => by rw [List.mem_singleton.1 hx]; exact hj, fun i h => by cases h⟩
/-- It goes on to y. -/
theorem AtK.on {j y : Nat} {t r : List Nat} (h : AtK n S j r) (hK : KInvX n S j n) (hp : S.ptr j = j) (hr : S.row j = y :: t) (hy : y ≠ j) : AtK n (S.pass j y) y (j :: r) := by
  obtain ⟨y1, y2, y3⟩ := hK.rowp j y (by rw [hr]; simp) hy
  have hch : S.q j y = [] := by
    by_cases e2 : S.q j y = []
    · exact e2
    · have := hK.chan j y e2
      exact absurd (hp.symm.trans this.2.2.2.1) this.1
  obtain ⟨p1, _, p3, p4⟩ := pass_parts hr hch
  have hjr : j ∉ r := (List.nodup_cons.1 h.nodup).1
  have hyr : y ∉ r := fun hm => by
    rcases h.trail.from_ y hm with ⟨_, h2⟩ | h2
    · exact h.last y h2 (by rw [hr]; simp)
    · rw [y1] at h2; exact hjr h2
  refine ⟨⟨by rw [p1, up1_same], h.trail.same fun x hx => by
    rw [p1, up1_other _ _ (fun e => hjr (by rw [← e]; exact hx))]⟩, ?_, fun x hx => ?_, fun i hi => ?_⟩
  · rw [List.nodup_cons]
    refine ⟨fun hm => ?_, h.nodup⟩
    rcases List.mem_cons.1 hm with e | e
    · exact hy e
    · exact hyr e
  · rcases List.mem_cons.1 hx with e | e
    · rw [e]; exact (hK.rowlt j y (by rw [hr]; simp)).2
    · exact h.low x e
  · injection hi with hi
    rw [← hi, p3, up1_other _ _ hy]
    intro hm
    have := (hK.rowp y j hm (fun e => hy e.symm)).1
    rw [hp] at this
    exact hy this.symm

/-- The bound, with what is at rest or under way. -/
def HoldK (n : Nat) (S : KS) (W ts : Int) : Prop := (∃ j, j < n ∧ S.ptr j = j) ∧ ts ≤ ((n : Int) - 1) * (W - pendK n S)
def MoveK (n : Nat) (S : KS) (W ts : Int) : Prop := ∃ x y r, (1 : Int) ∈ S.q x y ∧ AtK n S y (x :: r) ∧ ts ≤ ((n : Int) - 1) * (W - pendK n S) + ((r.length : Int) + 1)
def FInv (n : Nat) (S : KS) (W T : Int) : Prop := ∃ ts, T + lenK n S + tkK n S ≤ 2 * ts + cntK n S ∧ (HoldK n S W ts ∨ MoveK n S W ts)
/-- What is ahead of it being served. -/
def FPre (n : Nat) (S : KS) (j : Nat) (W T : Int) : Prop := ∃ ts r, T + lenK n S + tkK n S ≤ 2 * ts + cntK n S ∧ AtK n S j r ∧ ts ≤ ((n : Int) - 1) * (W - pendK n S) + (r.length : Int)

theorem FPre.serve {j : Nat} {W T : Int} (h : FPre n S j W T) (hK : KInvX n S j n) (hj : j < n) (hp : S.ptr j = j) (hi : S.ins j = false) (hne : S.row j ≠ []) : FInv n (S.serve j) W T := by
  obtain ⟨ts, r, h1, h2, h3⟩ := h
  have hl := h2.len
  unfold KS.serve
  rw [if_neg (by rw [hp, hi]; simpa using hne)]
  cases hr : S.row j with
  | nil => exact absurd hr hne
  | cons y t =>
    show FInv n (if y = j then _ else S.pass j y) W T
    by_cases e : y = j
    · rw [if_pos e]
      subst e
      have hd := List.nodup_cons.1 (by have := hK.nodup y; rw [hr] at this; exact this)
      have ro : ∀ x, x ≠ y → ((S.cut y).into y).row x = S.row x := fun x hx => up1_other _ _ hx
      have rj : ((S.cut y).into y).row y = t := by show up1 S.row y (S.row y).tail y = t; rw [up1_same, hr]; rfl
      have c1 : cntK n ((S.cut y).into y) = cntK n S := by
        rw [cnt_at (S := S) hj (fun x hx => ⟨ro x hx, rfl⟩)]
        have a1 : cK S y = 0 := by unfold cK; rw [if_neg (fun h => h.2 hp)]
        have a2 : cK ((S.cut y).into y) y = 0 := by unfold cK; rw [if_neg (fun h => h.2 hp)]
        omega
      have c2 : pendK n ((S.cut y).into y) = pendK n S - 1 := by
        rw [pend_at (S := S) hj ro]
        have a1 : pK S y = 1 := by unfold pK; rw [if_pos (by rw [hr]; simp)]
        have a2 : pK ((S.cut y).into y) y = 0 := by unfold pK; rw [if_neg (by rw [rj]; exact hd.1)]
        omega
      refine ⟨ts, ?_, .inl ⟨⟨y, hj, hp⟩, ?_⟩⟩
      · rw [c1]; exact h1
      · rw [c2, show W - (pendK n S - 1) = (W - pendK n S) + 1 by omega, Int.mul_add, Int.mul_one]
        omega
    · rw [if_neg e]
      obtain ⟨y1, y2, y3⟩ := hK.rowp j y (by rw [hr]; simp) e
      have hyn := (hK.rowlt j y (by rw [hr]; simp)).2
      have hch : S.q j y = [] := by
        by_cases e2 : S.q j y = []
        · exact e2
        · have := hK.chan j y e2
          exact absurd (hp.symm.trans this.2.2.2.1) this.1
      obtain ⟨p1, p2, p3, p4⟩ := pass_parts hr hch
      have hon := h2.on hK hp hr e
      have ro : ∀ x, x ≠ j → (S.pass j y).row x = S.row x := fun x hx => by rw [p3, up1_other _ _ hx]
      have rj : (S.pass j y).row j = t := by rw [p3, up1_same]
      have po : ∀ x, x ≠ j → (S.pass j y).ptr x = S.ptr x := fun x hx => by rw [p1, up1_other _ _ hx]
      have pj : (S.pass j y).ptr j = y := by rw [p1, up1_same]
      obtain ⟨l1, l2⟩ := len_set hj hyn _ p4
      have c1 : cntK n (S.pass j y) = cntK n S + if t = [] then 0 else 1 := by
        rw [cnt_at (S := S) hj (fun x hx => ⟨ro x hx, po x hx⟩)]
        have a1 : cK S j = 0 := by unfold cK; rw [if_neg (fun h => h.2 hp)]
        have a2 : cK (S.pass j y) j = if t = [] then 0 else 1 := by
          unfold cK
          rw [rj, pj]
          by_cases e2 : t = []
          · rw [if_pos e2, if_neg (fun h => h.1 e2)]
          · rw [if_neg e2, if_pos ⟨e2, e⟩]
        omega
      have c2 : pendK n (S.pass j y) = pendK n S := by
        rw [pend_at (S := S) hj ro]
        have a1 : pK (S.pass j y) j = pK S j := by
          unfold pK
          rw [rj, hr]
          have : j ∈ y :: t ↔ j ∈ t := by simp; intro e3; exact absurd e3.symm e
          simp only [this]
        omega
      refine ⟨ts + 1, ?_, .inr ⟨j, y, r, ?_, hon, ?_⟩⟩
      · rw [len_split] at h1 ⊢
        rw [hch] at l1 l2
        rw [l1, l2, c1]
        by_cases e2 : t = []
        · simp only [if_pos e2, nA, nZ]
          simp
          omega
        · simp only [if_neg e2, nA, nZ]
          simp
          omega
      · rw [p4, up2_same]; split <;> simp
      · rw [c2]; omega
end

#print axioms FPre.serve
#print axioms RInv.pend
end Go.Proofs.Ytejckoffllhjcaa
