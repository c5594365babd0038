/-
  Mutual exclusion by a token in a tree (Raymond), as the document says it: the states, the steps, what they keep. Plain.
-/
import Derived.Test.YtejckoffllhjcaaTrf
namespace Go.Proofs.Ytejckoffllhjcaa

/-- Whom each points to; who is in the critical section; the queues; what is on each channel (0 is a request, 1 the token). -/
structure KS where
  ptr : Nat → Nat
  ins : Nat → Bool
  row : Nat → List Nat
  q : Nat → Nat → List Int
theorem KS.eq {S T : KS} (h1 : S.ptr = T.ptr) (h2 : S.ins = T.ins) (h3 : S.row = T.row) (h4 : S.q = T.q) : S = T := by
  cases S; cases T; simp_all
def KS.begin (u : Nat → Nat) : KS := ⟨u, fun _ => false, fun _ => [], fun _ _ => []⟩
def KS.put (S : KS) (i j : Nat) (x : Int) : KS := { S with q := up2 S.q i j (S.q i j ++ [x]) }
def KS.pop (S : KS) (i j : Nat) : KS := { S with q := up2 S.q i j (S.q i j).tail }
def KS.add (S : KS) (i y : Nat) : KS := { S with row := up1 S.row i (S.row i ++ [y]) }
def KS.cut (S : KS) (i : Nat) : KS := { S with row := up1 S.row i (S.row i).tail }
def KS.into (S : KS) (i : Nat) : KS := { S with ins := up1 S.ins i true }
def KS.off (S : KS) (i : Nat) : KS := { S with ins := up1 S.ins i false }
def KS.aim (S : KS) (i y : Nat) : KS := { S with ptr := up1 S.ptr i y }
def KS.ask (S : KS) (i : Nat) : KS := if (S.row i).length = 1 ∧ S.ptr i ≠ i then S.put i (S.ptr i) 0 else S
def KS.pass (S : KS) (i y : Nat) : KS := if (S.row i).tail = [] then ((S.cut i).aim i y).put i y 1 else (((S.cut i).aim i y).put i y 1).put i y 0
def KS.serve (S : KS) (i : Nat) : KS := if S.ptr i ≠ i ∨ S.ins i = true ∨ S.row i = [] then S else if (S.row i).headD 0 = i then (S.cut i).into i else S.pass i ((S.row i).headD 0)
def KS.enq (S : KS) (i y : Nat) : KS := ((S.add i y).ask i).serve i
def KS.leave (S : KS) (i : Nat) : KS := (S.off i).serve i
def KS.come (S : KS) (i j : Nat) : KS := if (S.q i j).headD 0 = 0 then (S.pop i j).enq j i else ((S.pop i j).aim j j).serve j

/-- A step: the state behind it, and the code. -/
def stepK (n : Nat) (S : KS) (m : Mv) : KS × Int :=
  if m.k < 1 ∨ 3 < m.k then (S, 6)
  else if ¬ (0 ≤ m.f ∧ m.f < n) then (S, 2)
  else if m.k = 1 then (if S.ins m.f.toNat = true ∨ m.f.toNat ∈ S.row m.f.toNat then (S, 7) else (S.enq m.f.toNat m.f.toNat, 0))
  else if m.k = 3 then (if S.ins m.f.toNat = true then (S.leave m.f.toNat, 0) else (S, 7))
  else if ¬ (0 ≤ m.t ∧ m.t < n) ∨ m.f = m.t then (S, 2)
  else if S.q m.f.toNat m.t.toNat = [] then (S, 5)
  else (S.come m.f.toNat m.t.toNat, 0)
def kAt (n : Nat) (u : Nat → Nat) (l : List Mv) : Nat → KS
  | 0 => KS.begin u
  | k + 1 => (stepK n (kAt n u l k) (mv l k)).1
def codeK (n : Nat) (u : Nat → Nat) (l : List Mv) (k : Nat) : Int := (stepK n (kAt n u l k) (mv l k)).2
theorem codeK_le (n : Nat) (S : KS) (m : Mv) : 0 ≤ (stepK n S m).2 ∧ (stepK n S m).2 ≤ 7 := by
  unfold stepK
  repeat' split
  all_goals exact ⟨by simp, by simp⟩

def holdN (S : KS) (i : Nat) : Int := if S.ptr i = i then 1 else 0
/-- What holds always, but for one who may be about to be served, and one whose request is being taken. -/
structure KInvX (n : Nat) (S : KS) (e o : Nat) : Prop where
  ptrlt : ∀ i, i < n → S.ptr i < n
  rowlt : ∀ x y, y ∈ S.row x → x < n ∧ y < n
  nodup : ∀ x, (S.row x).Nodup
  insp : ∀ x, S.ins x = true → x < n ∧ S.ptr x = x ∧ x ∉ S.row x
  rowp : ∀ x y, y ∈ S.row x → y ≠ x → S.ptr y = x ∧ S.q y x = [] ∧ S.row y ≠ []
  chan : ∀ y x, S.q y x ≠ [] → y ≠ x ∧ y < n ∧ x < n ∧ S.ptr y = x ∧ y ∉ S.row x ∧ (S.q y x = [1] ∨ (S.row y ≠ [] ∧ (S.q y x = [0] ∨ S.q y x = [1, 0])))
  tok : ∀ x y, (1 : Int) ∈ S.q x y → S.ptr y = x ∧ S.row y ≠ [] ∧ x ∉ S.row y ∧ y ∉ S.row x ∧ S.q y x = []
  idle : ∀ x, x ≠ e → x < n → S.ptr x = x → S.ins x = false → S.row x = []
  out : ∀ p, p ≠ o → S.row p ≠ [] → S.ptr p ≠ p → (0 : Int) ∈ S.q p (S.ptr p) ∨ p ∈ S.row (S.ptr p) ∨ (1 : Int) ∈ S.q (S.ptr p) p
  one : sumN n (holdN S) + sum2 n (fun i j => nA (S.q i j)) = 1
def KInv (n : Nat) (S : KS) : Prop := KInvX n S n n
section
variable {n e o : Nat} {S : KS}
theorem holdN_ge (S : KS) (i : Nat) : 0 ≤ holdN S i := by unfold holdN; split <;> decide
theorem sumN_two {n : Nat} {f : Nat → Int} (h : ∀ i, i < n → 0 ≤ f i) {i j : Nat} (hi : i < n) (hj : j < n) (hne : i ≠ j) : f i + f j ≤ sumN n f := by
  have h1 := sumN_at hi (f := f) (g := up1 f i 0) (fun x hx => up1_other _ _ hx)
  have h2 := le_sumN (n := n) (f := up1 f i 0) (fun k hk => by
    by_cases e : k = i
    · rw [e, up1_same]; exact Int.le_refl _
    · rw [up1_other _ _ e]; exact h k hk) hj
  rw [up1_same] at h1
  rw [up1_other _ _ (fun e => hne e.symm)] at h2
  omega
theorem KInvX.hold1 (h : KInvX n S e o) {i j : Nat} (hi : i < n) (hj : j < n) (h1 : S.ptr i = i) (h2 : S.ptr j = j) : i = j := by
  by_cases e1 : i = j
  · exact e1
  · exfalso
    have h3 := sumN_two (n := n) (f := holdN S) (fun i _ => holdN_ge S i) hi hj e1
    have h4 := h.one
    have h5 : 0 ≤ sum2 n (fun i j => nA (S.q i j)) := sum2_nonneg fun i j => nA_nonneg _
    have e2 : holdN S i = 1 := if_pos h1
    have e3 : holdN S j = 1 := if_pos h2
    omega
theorem KInvX.away (h : KInvX n S e o) {i : Nat} (hi : i < n) (h1 : S.ptr i = i) (x y : Nat) : (1 : Int) ∉ S.q x y := by
  intro hm
  have hc := h.chan x y (fun e => by rw [e] at hm; cases hm)
  have h2 := le_sumN (n := n) (f := holdN S) (fun i _ => holdN_ge S i) hi
  have h3 := le_sum2 (n := n) (f := fun i j => nA (S.q i j)) (fun i j => nA_nonneg _) hc.2.1 hc.2.2.1
  have h4 := nA_mem hm (by decide)
  have h5 := nA_nonneg (S.q x y)
  have h6 := h.one
  have e2 : holdN S i = 1 := if_pos h1
  omega
theorem KInvX.weak (h : KInvX n S n o) (e : Nat) : KInvX n S e o := { h with idle := fun x _ hx => h.idle x (by omega) hx }

theorem KInvX.begin {u : Nat → Nat} (hu : ∀ i, i < n → u i < n) (h1 : sumN n (holdN (KS.begin u)) = 1) : KInv n (KS.begin u) where
  ptrlt := hu
  rowlt x y h := by cases h
  nodup x := List.nodup_nil
  insp x h := by cases h
  rowp x y h := by cases h
  chan y x h := absurd rfl h
  tok x y h := by cases h
  idle x _ _ _ _ := rfl
  out p _ h := absurd rfl h
  one := by
    rw [h1, sum2_congr (f := fun _ _ => 0) (fun i j _ _ => by simp [KS.begin, nA])]
    unfold sum2
    rw [sumN_congr (f := fun _ => 0) (fun i _ => by rw [sumN_const]; simp), sumN_const]
    simp

theorem sum2_same {n : Nat} {S T : KS} (h : T.q = S.q) : sum2 n (fun i j => nA (T.q i j)) = sum2 n (fun i j => nA (S.q i j)) := by rw [h]
theorem sum2_set {n : Nat} {S T : KS} {i j : Nat} (hi : i < n) (hj : j < n) (v : List Int) (h : T.q = up2 S.q i j v) : sum2 n (fun i j => nA (T.q i j)) = sum2 n (fun i j => nA (S.q i j)) - nA (S.q i j) + nA v := by
  rw [sum2_at hi hj (f := fun a b => nA (S.q a b)) (g := fun a b => nA (T.q a b)) (fun a b hab => by rw [h, up2_other _ _ hab])]
  rw [h, up2_same]
theorem hold_same {n : Nat} {S T : KS} (h : T.ptr = S.ptr) : sumN n (holdN T) = sumN n (holdN S) := by
  refine sumN_congr fun i _ => ?_
  unfold holdN; rw [h]
theorem hold_set {n : Nat} {S T : KS} {i y : Nat} (hi : i < n) (h : T.ptr = up1 S.ptr i y) : sumN n (holdN T) = sumN n (holdN S) - (if S.ptr i = i then 1 else 0) + (if y = i then 1 else 0) := by
  rw [sumN_at hi (f := holdN S) (g := holdN T) (fun a ha => by unfold holdN; rw [h, up1_other _ _ ha])]
  unfold holdN
  rw [h, up1_same]

/-- It is served: it enters. -/
theorem KInvX.enter {j : Nat} {t : List Nat} (h : KInvX n S j n) (hj : j < n) (hp : S.ptr j = j) (hr : S.row j = j :: t) : KInv n ((S.cut j).into j) := by
  have r1 : ∀ x, x ≠ j → (S.cut j).row x = S.row x := fun x hx => up1_other _ _ hx
  have r2 : (S.cut j).row j = t := by show up1 S.row j (S.row j).tail j = t; rw [up1_same, hr]; rfl
  have hd := h.nodup j
  rw [hr] at hd
  have hd2 := List.nodup_cons.1 hd
  have hmem : ∀ x y, y ∈ (S.cut j).row x → y ∈ S.row x := fun x y hy => by
    by_cases e : x = j
    · subst e; rw [r2] at hy; rw [hr]; exact List.mem_cons_of_mem _ hy
    · rw [r1 x e] at hy; exact hy
  have hnil : ∀ y, y ≠ j → ((S.cut j).row y ≠ [] ↔ S.row y ≠ []) := fun y hy => by rw [r1 y hy]
  have hch : ∀ x, S.q j x = [] := fun x => by
    by_cases e : S.q j x = []
    · exact e
    · have := h.chan j x e
      exact absurd (hp.symm.trans this.2.2.2.1) this.1
  exact {
    ptrlt := h.ptrlt
    rowlt := fun x y hy => h.rowlt x y (hmem x y hy)
    nodup := fun x => by
      show ((S.cut j).row x).Nodup
      by_cases e : x = j
      · subst e; rw [r2]; exact hd2.2
      · rw [r1 x e]; exact h.nodup x
    insp := fun x hx => by
      show x < n ∧ S.ptr x = x ∧ x ∉ (S.cut j).row x
      by_cases e : x = j
      · subst e; rw [r2]; exact ⟨hj, hp, hd2.1⟩
      · have hx' : S.ins x = true := by
          have : up1 S.ins j true x = true := hx
          rwa [up1_other _ _ e] at this
        rw [r1 x e]; exact h.insp x hx'
    rowp := fun x y hy hne => by
      obtain ⟨a1, a2, a3⟩ := h.rowp x y (hmem x y hy) hne
      refine ⟨a1, a2, (hnil y (fun e => hne ?_)).2 a3⟩
      rw [e] at a1 ⊢
      exact hp.symm.trans a1
    chan := fun y x hq => by
      obtain ⟨a1, a2, a3, a4, a5, a6⟩ := h.chan y x hq
      have hyj : y ≠ j := fun e => by rw [e] at hq; exact hq (hch x)
      refine ⟨a1, a2, a3, a4, fun hy => a5 (hmem _ _ hy), ?_⟩
      show S.q y x = [1] ∨ ((S.cut j).row y ≠ [] ∧ _)
      rw [r1 y hyj]; exact a6
    tok := fun x y hm => absurd hm (h.away hj hp x y)
    idle := fun x _ hx h1 h2 => by
      show (S.cut j).row x = []
      have e : x ≠ j := fun e => by
        have : up1 S.ins j true x = false := h2
        rw [e, up1_same] at this; cases this
      exact absurd (h.hold1 hx hj h1 hp) e
    out := fun p _ h1 h2 => by
      have e : p ≠ j := fun e => h2 (by rw [e]; exact hp)
      have h1' : S.row p ≠ [] := (hnil p e).1 h1
      have hpn : p ≠ n := fun e2 => by
        obtain ⟨y, hy⟩ := List.exists_mem_of_ne_nil _ h1'
        have := (h.rowlt p y hy).1
        omega
      rcases h.out p hpn h1' h2 with h3 | h3 | h3
      · exact .inl h3
      · right; left
        show p ∈ (S.cut j).row (S.ptr p)
        by_cases e2 : S.ptr p = j
        · rw [e2, r2]
          rw [e2, hr] at h3
          rcases List.mem_cons.1 h3 with h4 | h4
          · exact absurd h4 e
          · exact h4
        · rw [r1 _ e2]; exact h3
      · exact .inr (.inr h3)
    one := h.one }

/-- It is served: it passes the token on. -/
theorem KInvX.give {j y : Nat} {t : List Nat} (h : KInvX n S j n) (hj : j < n) (hp : S.ptr j = j) (hi : S.ins j = false) (hr : S.row j = y :: t) (hy : y ≠ j) : KInv n (S.pass j y) := by
  have hd := h.nodup j
  rw [hr] at hd
  have hd2 := List.nodup_cons.1 hd
  obtain ⟨y1, y2, y3⟩ := h.rowp j y (by rw [hr]; simp) hy
  have hyn := (h.rowlt j y (by rw [hr]; simp)).2
  have hch : ∀ x, S.q j x = [] := fun x => by
    by_cases e : S.q j x = []
    · exact e
    · have := h.chan j x e
      exact absurd (hp.symm.trans this.2.2.2.1) this.1
  have haw := h.away hj hp
  have p1 : (S.pass j y).ptr = up1 S.ptr j y := by unfold KS.pass; split <;> rfl
  have p2 : (S.pass j y).ins = S.ins := by unfold KS.pass; split <;> rfl
  have p3 : (S.pass j y).row = up1 S.row j t := by
    have : (S.row j).tail = t := by rw [hr]; rfl
    rw [← this]
    unfold KS.pass; split <;> rfl
  have p4 : (S.pass j y).q = up2 S.q j y (if t = [] then [1] else [1, 0]) := by
    have ht : (S.row j).tail = t := by rw [hr]; rfl
    unfold KS.pass
    rw [ht]
    by_cases e : t = []
    · rw [if_pos e, if_pos e]
      show up2 S.q j y (S.q j y ++ [1]) = _
      rw [hch y]; rfl
    · rw [if_neg e, if_neg e]
      show up2 (up2 S.q j y (S.q j y ++ [1])) j y (up2 S.q j y (S.q j y ++ [1]) j y ++ [0]) = _
      rw [up2_same, hch y]
      funext a b
      by_cases e2 : a = j ∧ b = y
      · rw [e2.1, e2.2, up2_same, up2_same]; rfl
      · rw [up2_other _ _ e2, up2_other _ _ e2, up2_other _ _ e2]
  generalize S.pass j y = T at *
  have pj : T.ptr j = y := by rw [p1, up1_same]
  have po : ∀ x, x ≠ j → T.ptr x = S.ptr x := fun x hx => by rw [p1, up1_other _ _ hx]
  have rj : T.row j = t := by rw [p3, up1_same]
  have ro : ∀ x, x ≠ j → T.row x = S.row x := fun x hx => by rw [p3, up1_other _ _ hx]
  have qj : T.q j y = if t = [] then [1] else [1, 0] := by rw [p4, up2_same]
  have qo : ∀ a b, ¬ (a = j ∧ b = y) → T.q a b = S.q a b := fun a b hab => by rw [p4, up2_other _ _ hab]
  have hmem : ∀ x z, z ∈ T.row x → z ∈ S.row x := fun x z hz => by
    by_cases e : x = j
    · subst e; rw [rj] at hz; rw [hr]; exact List.mem_cons_of_mem _ hz
    · rw [ro x e] at hz; exact hz
  have hjrow : ∀ x, x ≠ j → j ∉ S.row x := fun x hx hm => hx (by
    have := (h.rowp x j hm (fun e => hx e.symm)).1
    rw [← this, hp])
  exact {
    ptrlt := fun i hi => by
      by_cases e : i = j
      · rw [e, pj]; exact hyn
      · rw [po i e]; exact h.ptrlt i hi
    rowlt := fun x z hz => h.rowlt x z (hmem x z hz)
    nodup := fun x => by
      by_cases e : x = j
      · subst e; rw [rj]; exact hd2.2
      · rw [ro x e]; exact h.nodup x
    insp := fun x hx => by
      rw [p2] at hx
      have e : x ≠ j := fun e => by rw [e, hi] at hx; cases hx
      rw [po x e, ro x e]; exact h.insp x hx
    rowp := fun x z hz hne => by
      obtain ⟨a1, a2, a3⟩ := h.rowp x z (hmem x z hz) hne
      have ez : z ≠ j := fun e => hne (by rw [e] at a1 ⊢; exact hp.symm.trans a1)
      rw [po z ez, ro z ez, qo z x (fun e => ez e.1)]
      exact ⟨a1, a2, a3⟩
    chan := fun a b hq => by
      by_cases e : a = j ∧ b = y
      · obtain ⟨rfl, rfl⟩ := e
        refine ⟨fun e => hy e.symm, hj, hyn, pj, fun hm => hjrow b hy (hmem _ _ hm), ?_⟩
        rw [qj, rj]
        by_cases e2 : t = []
        · left; rw [if_pos e2]
        · right; rw [if_neg e2]; exact ⟨e2, .inr rfl⟩
      · rw [qo a b e] at hq ⊢
        have ea : a ≠ j := fun e2 => by rw [e2] at hq; exact hq (hch b)
        obtain ⟨a1, a2, a3, a4, a5, a6⟩ := h.chan a b hq
        rw [po a ea, ro a ea]
        exact ⟨a1, a2, a3, a4, fun hm => a5 (hmem _ _ hm), a6⟩
    tok := fun a b hm => by
      by_cases e : a = j ∧ b = y
      · obtain ⟨rfl, rfl⟩ := e
        rw [po b hy, ro b hy, rj, qo b a (fun e => hy e.1)]
        exact ⟨y1, y3, hjrow b hy, hd2.1, y2⟩
      · rw [qo a b e] at hm
        exact absurd hm (haw a b)
    idle := fun x _ hx h1 h2 => by
      have e : x ≠ j := fun e => by rw [e, pj] at h1; exact hy h1
      rw [po x e] at h1
      exact absurd (h.hold1 hx hj h1 hp) e
    out := fun p _ h1 h2 => by
      by_cases e : p = j
      · subst e
        rw [rj] at h1
        left
        rw [pj, qj, if_neg h1]
        simp
      · rw [ro p e] at h1
        rw [po p e] at h2 ⊢
        have hpn : p ≠ n := fun e2 => by
          obtain ⟨z, hz⟩ := List.exists_mem_of_ne_nil _ h1
          have := (h.rowlt p z hz).1
          omega
        rcases h.out p hpn h1 h2 with h3 | h3 | h3
        · left; rw [qo p _ (fun e2 => e e2.1)]; exact h3
        · by_cases e2 : S.ptr p = j
          · rw [e2, hr] at h3
            rw [e2]
            rcases List.mem_cons.1 h3 with h4 | h4
            · right; right
              rw [h4, qj]
              split <;> simp
            · right; left; rw [rj]; exact h4
          · right; left; rw [ro _ e2]; exact h3
        · exact absurd h3 (haw _ _)
    one := by
      rw [hold_set hj p1, sum2_set hj hyn _ p4, hch y, if_pos hp, if_neg hy]
      have h1 := h.one
      have h2 : nA (if t = [] then [1] else [1, 0]) = 1 := by split <;> rfl
      rw [h2]
      simp only [nA]
      omega }
theorem KInvX.serve {j : Nat} (h : KInvX n S j n) (hj : j < n) : KInv n (S.serve j) := by
  unfold KS.serve
  split
  · next hc =>
    refine { h with idle := fun x _ hx h1 h2 => ?_ }
    by_cases e : x = j
    · subst e
      rcases hc with h3 | h3 | h3
      · exact absurd h1 h3
      · rw [h2] at h3; cases h3
      · exact h3
    · exact h.idle x e hx h1 h2
  · next hc =>
    have h1 : S.ptr j = j := by
      by_cases e : S.ptr j = j
      · exact e
      · exact absurd (.inl e) hc
    have h2 : S.ins j = false := by
      cases e : S.ins j with
      | false => rfl
      | true => exact absurd (.inr (.inl e)) hc
    cases hr : S.row j with
    | nil => exact absurd (.inr (.inr hr)) hc
    | cons y t =>
      show KInv n (if y = j then _ else S.pass j y)
      by_cases e : y = j
      · rw [if_pos e]
        exact h.enter hj h1 (by rw [hr, e])
      · rw [if_neg e]
        exact h.give hj h1 h2 hr e

/-- Somebody is appended to a queue. -/
theorem KInvX.join {j y : Nat} (h : KInvX n S n o) (hj : j < n) (hyn : y < n) (ho : o = n ∨ (o = y ∧ y ≠ j)) (hy : y ∉ S.row j) (hs : y = j → S.ins j = false) (hn : y ≠ j → S.ptr y = j ∧ S.q y j = [] ∧ S.row y ≠ [] ∧ (1 : Int) ∉ S.q j y) : KInvX n ((S.add j y).ask j) j n := by
  have p1 : ((S.add j y).ask j).ptr = S.ptr := by unfold KS.ask; split <;> rfl
  have p2 : ((S.add j y).ask j).ins = S.ins := by unfold KS.ask; split <;> rfl
  have p3 : ((S.add j y).ask j).row = up1 S.row j (S.row j ++ [y]) := by unfold KS.ask; split <;> rfl
  have hlen : ((S.add j y).row j).length = 1 ↔ S.row j = [] := by
    show (up1 S.row j (S.row j ++ [y]) j).length = 1 ↔ _
    rw [up1_same, List.length_append, List.length_singleton]
    constructor
    · intro h; exact List.length_eq_zero_iff.1 (by omega)
    · intro h; rw [h]; rfl
  have p4 : ((S.add j y).ask j).q = if S.row j = [] ∧ S.ptr j ≠ j then up2 S.q j (S.ptr j) (S.q j (S.ptr j) ++ [0]) else S.q := by
    unfold KS.ask
    simp only [hlen]
    show (if S.row j = [] ∧ S.ptr j ≠ j then _ else _ : KS).q = _
    split <;> rfl
  generalize (S.add j y).ask j = T at *
  have rj : T.row j = S.row j ++ [y] := by rw [p3, up1_same]
  have ro : ∀ x, x ≠ j → T.row x = S.row x := fun x hx => by rw [p3, up1_other _ _ hx]
  have rne : ∀ x, S.row x ≠ [] → T.row x ≠ [] := fun x hx => by
    by_cases e : x = j
    · rw [e, rj]; simp
    · rw [ro x e]; exact hx
  have rmem : ∀ x z, z ∈ T.row x ↔ z ∈ S.row x ∨ (x = j ∧ z = y) := fun x z => by
    by_cases e : x = j
    · subst e; rw [rj]; simp
    · rw [ro x e]; simp [e]
  have qc : ∀ a b, T.q a b = S.q a b ∨ (a = j ∧ b = S.ptr j ∧ S.row j = [] ∧ S.ptr j ≠ j ∧ T.q a b = S.q a b ++ [0]) := fun a b => by
    rw [p4]
    split
    · next e =>
      by_cases e2 : a = j ∧ b = S.ptr j
      · right; rw [e2.1, e2.2, up2_same]; exact ⟨rfl, rfl, e.1, e.2, rfl⟩
      · left; rw [up2_other _ _ e2]
    · exact .inl rfl
  have q1 : ∀ a b, (1 : Int) ∈ T.q a b ↔ (1 : Int) ∈ S.q a b := fun a b => by
    rcases qc a b with e | ⟨_, _, _, _, e⟩
    · rw [e]
    · rw [e]; simp
  have q0 : ∀ a b, (0 : Int) ∈ S.q a b → (0 : Int) ∈ T.q a b := fun a b hm => by
    rcases qc a b with e | ⟨_, _, _, _, e⟩
    · rw [e]; exact hm
    · rw [e]; exact List.mem_append.2 (.inl hm)
  have hjp : S.ptr j ≠ j → S.row j = [] → j ∉ S.row (S.ptr j) := fun h1 h2 hm => (h.rowp _ j hm (fun e => h1 e.symm)).2.2 h2
  exact {
    ptrlt := fun i hi => by rw [p1]; exact h.ptrlt i hi
    rowlt := fun x z hz => by
      rcases (rmem x z).1 hz with h1 | ⟨h1, h2⟩
      · exact h.rowlt x z h1
      · rw [h1, h2]; exact ⟨hj, hyn⟩
    nodup := fun x => by
      by_cases e : x = j
      · subst e
        rw [rj, List.nodup_append]
        refine ⟨h.nodup x, by simp, fun a ha b hb => ?_⟩
        rw [List.mem_singleton.1 hb]
        exact fun e => hy (by rw [← e]; exact ha)
      · rw [ro x e]; exact h.nodup x
    insp := fun x hx => by
      rw [p2] at hx
      rw [p1]
      obtain ⟨a1, a2, a3⟩ := h.insp x hx
      refine ⟨a1, a2, fun hm => ?_⟩
      rcases (rmem x x).1 hm with h1 | ⟨h1, h2⟩
      · exact a3 h1
      · have := hs (by rw [← h2, h1])
        rw [← h1, hx] at this; cases this
    rowp := fun x z hz hne => by
      rw [p1]
      rcases (rmem x z).1 hz with h1 | ⟨h1, h2⟩
      · obtain ⟨a1, a2, a3⟩ := h.rowp x z h1 hne
        refine ⟨a1, ?_, rne z a3⟩
        rcases qc z x with e | ⟨e1, e2, e3, e4, _⟩
        · rw [e]; exact a2
        · rw [e1] at a3; exact absurd e3 a3
      · subst h1 h2
        obtain ⟨a1, a2, a3, _⟩ := hn hne
        refine ⟨a1, ?_, rne z a3⟩
        rcases qc z x with e | ⟨e1, e2, e3, e4, _⟩
        · rw [e]; exact a2
        · exact absurd e1 hne
    chan := fun a b hq => by
      rw [p1]
      rcases qc a b with e | ⟨e1, e2, e3, e4, e5⟩
      · rw [e] at hq ⊢
        obtain ⟨a1, a2, a3, a4, a5, a6⟩ := h.chan a b hq
        refine ⟨a1, a2, a3, a4, fun hm => ?_, ?_⟩
        · rcases (rmem b a).1 hm with h1 | ⟨h1, h2⟩
          · exact a5 h1
          · subst h1 h2
            exact hq (hn a1).2.1
        · rcases a6 with a6 | ⟨a6, a7⟩
          · exact .inl a6
          · exact .inr ⟨rne a a6, a7⟩
      · subst e1 e2
        rw [e5]
        refine ⟨fun e => e4 e.symm, hj, h.ptrlt a hj, rfl, fun hm => ?_, ?_⟩
        · rcases (rmem (S.ptr a) a).1 hm with h1 | ⟨h1, h2⟩
          · exact hjp e4 e3 h1
          · exact e4 h1
        · right
          refine ⟨by rw [rj]; simp, ?_⟩
          by_cases e6 : S.q a (S.ptr a) = []
          · left; rw [e6]; rfl
          · rcases (h.chan a _ e6).2.2.2.2.2 with h1 | ⟨h1, _⟩
            · right; rw [h1]; rfl
            · exact absurd e3 h1
    tok := fun a b hm => by
      rw [p1]
      have hm' := (q1 a b).1 hm
      obtain ⟨a1, a2, a3, a4, a5⟩ := h.tok a b hm'
      have hne := (h.chan a b (fun e => by rw [e] at hm'; cases hm')).1
      refine ⟨a1, rne b a2, fun hz => ?_, fun hz => ?_, ?_⟩
      · rcases (rmem b a).1 hz with h1 | ⟨h1, h2⟩
        · exact a3 h1
        · subst h1 h2
          have := (hn hne).2.1
          rw [this] at hm'; cases hm'
      · rcases (rmem a b).1 hz with h1 | ⟨h1, h2⟩
        · exact a4 h1
        · subst h1 h2
          exact (hn (fun e => hne e.symm)).2.2.2 hm'
      · rcases qc b a with e | ⟨e1, e2, e3, e4, _⟩
        · rw [e]; exact a5
        · rw [e1] at a2; exact absurd e3 a2
    idle := fun x hx hxn h1 h2 => by
      rw [p1] at h1
      rw [p2] at h2
      rw [ro x hx]
      exact h.idle x (by omega) hxn h1 h2
    out := fun p _ h1 h2 => by
      rw [p1] at h2 ⊢
      by_cases e : p = j
      · subst e
        by_cases e2 : S.row p = []
        · left
          rw [p4, if_pos ⟨e2, h2⟩, up2_same]
          simp
        · rcases h.out p (by omega) e2 h2 with h3 | h3 | h3
          · exact .inl (q0 _ _ h3)
          · exact .inr (.inl ((rmem _ _).2 (.inl h3)))
          · exact .inr (.inr ((q1 _ _).2 h3))
      · by_cases e2 : p = o
        · have e3 : o ≠ n := fun e4 => by
            rw [ro p e] at h1
            obtain ⟨z, hz⟩ := List.exists_mem_of_ne_nil _ h1
            have := (h.rowlt p z hz).1
            omega
          rcases ho with ho | ⟨ho1, ho2⟩
          · exact absurd ho e3
          · right; left
            have e5 : p = y := e2.trans ho1
            rw [e5, (hn ho2).1]
            exact (rmem _ _).2 (.inr ⟨rfl, rfl⟩)
        · rw [ro p e] at h1
          rcases h.out p e2 h1 h2 with h3 | h3 | h3
          · exact .inl (q0 _ _ h3)
          · exact .inr (.inl ((rmem _ _).2 (.inl h3)))
          · exact .inr (.inr ((q1 _ _).2 h3))
    one := by
      rw [hold_same p1]
      have h1 := h.one
      rw [p4]
      split
      · next e =>
        have h2 := sum2_set (n := n) (S := S) (T := { S with q := up2 S.q j (S.ptr j) (S.q j (S.ptr j) ++ [0]) }) hj (h.ptrlt j hj) _ rfl
        simp only at h2
        rw [h2, nA_append]
        simp only [nA]
        simp
        exact h1
      · exact h1 }
/-- A request is taken off its channel. -/
theorem KInvX.popAsk {i j : Nat} {r : List Int} (h : KInv n S) (hq : S.q i j = 0 :: r) :
    KInvX n (S.pop i j) n i ∧ i < n ∧ j < n ∧ i ≠ j ∧ i ∉ S.row j ∧ S.ptr i = j ∧ (S.pop i j).q i j = [] ∧ S.row i ≠ [] ∧ (1 : Int) ∉ S.q j i ∧ r = [] := by
  have hne : S.q i j ≠ [] := by rw [hq]; simp
  obtain ⟨a1, a2, a3, a4, a5, a6⟩ := h.chan i j hne
  have hr : r = [] ∧ S.row i ≠ [] := by
    rw [hq] at a6
    rcases a6 with a6 | ⟨a6, a7 | a7⟩
    · simp at a6
    · simp at a7; exact ⟨a7, a6⟩
    · simp at a7
  obtain ⟨rfl, hri⟩ := hr
  have p4 : (S.pop i j).q = up2 S.q i j [] := by show up2 S.q i j (S.q i j).tail = _; rw [hq]; rfl
  have hno : (1 : Int) ∉ S.q j i := fun hm => by
    have := (h.tok j i hm).2.2.2.2
    rw [hq] at this; cases this
  have qs : (S.pop i j).q i j = [] := by rw [p4, up2_same]
  have qo : ∀ a b, ¬ (a = i ∧ b = j) → (S.pop i j).q a b = S.q a b := fun a b hab => by rw [p4, up2_other _ _ hab]
  have qm : ∀ a b (x : Int), x ∈ (S.pop i j).q a b → x ∈ S.q a b ∧ ¬ (a = i ∧ b = j) := fun a b x hx => by
    by_cases e : a = i ∧ b = j
    · rw [e.1, e.2, qs] at hx; cases hx
    · rw [qo a b e] at hx; exact ⟨hx, e⟩
  have qe : ∀ a b, S.q a b = [] → (S.pop i j).q a b = [] := fun a b hab => by
    by_cases e : a = i ∧ b = j
    · rw [e.1, e.2, qs]
    · rw [qo a b e]; exact hab
  refine ⟨?_, a2, a3, a1, a5, a4, qs, hri, hno, rfl⟩
  exact {
    ptrlt := h.ptrlt
    rowlt := h.rowlt
    nodup := h.nodup
    insp := h.insp
    rowp := fun x y hy hne => by
      obtain ⟨b1, b2, b3⟩ := h.rowp x y hy hne
      exact ⟨b1, qe _ _ b2, b3⟩
    chan := fun a b hab => by
      have e : ¬ (a = i ∧ b = j) := fun e => hab (by rw [e.1, e.2, qs])
      rw [qo a b e] at hab ⊢
      exact h.chan a b hab
    tok := fun a b hm => by
      obtain ⟨b1, b2, b3, b4, b5⟩ := h.tok a b (qm a b 1 hm).1
      exact ⟨b1, b2, b3, b4, qe _ _ b5⟩
    idle := h.idle
    out := fun p hp h1 h2 => by
      have hpn : p ≠ n := fun e2 => by
        obtain ⟨z, hz⟩ := List.exists_mem_of_ne_nil _ h1
        have := (h.rowlt p z hz).1
        omega
      have e : ∀ a b, S.q a b ≠ [] → ¬ (a = i ∧ b = j) → (S.pop i j).q a b = S.q a b := fun a b _ hab => qo a b hab
      rcases h.out p hpn h1 h2 with h3 | h3 | h3
      · left
        show (0 : Int) ∈ (S.pop i j).q p (S.ptr p)
        rw [qo _ _ (fun e => hp e.1)]; exact h3
      · exact .inr (.inl h3)
      · right; right
        show (1 : Int) ∈ (S.pop i j).q (S.ptr p) p
        rw [qo _ _ (fun e => by rw [e.1, e.2, hq] at h3; simp at h3)]; exact h3
    one := by
      have h1 := h.one
      rw [hold_same (S := S) (T := S.pop i j) rfl, sum2_set (S := S) (T := S.pop i j) a2 a3 [] p4, hq]
      simp only [nA]
      simp
      exact h1 }
/-- The token is taken off its channel. -/
theorem KInvX.popTok {i j : Nat} {x : Int} {r : List Int} (h : KInv n S) (hq : S.q i j = x :: r) (hx : x ≠ 0) :
    KInvX n ((S.pop i j).aim j j) j n ∧ i < n ∧ j < n ∧ i ≠ j ∧ S.ptr j = i ∧ S.ptr i = j ∧ i ∉ S.row j ∧ S.row j ≠ [] ∧ S.q j i = [] ∧ x = 1 ∧ (r = [] ∨ (r = [0] ∧ S.row i ≠ [])) := by
  have hne : S.q i j ≠ [] := by rw [hq]; simp
  obtain ⟨a1, a2, a3, a4, a5, a6⟩ := h.chan i j hne
  have hr : x = 1 ∧ (r = [] ∨ (r = [0] ∧ S.row i ≠ [])) := by
    rw [hq] at a6
    rcases a6 with a6 | ⟨a6, a7 | a7⟩
    · simp at a6; exact ⟨a6.1, .inl a6.2⟩
    · simp at a7; exact absurd a7.1 hx
    · simp at a7; exact ⟨a7.1, .inr ⟨a7.2, a6⟩⟩
  obtain ⟨rfl, hr⟩ := hr
  have hm : (1 : Int) ∈ S.q i j := by rw [hq]; simp
  obtain ⟨b1, b2, b3, b4, b5⟩ := h.tok i j hm
  have hr1 : (1 : Int) ∉ r := by rcases hr with e | ⟨e, _⟩ <;> rw [e] <;> simp
  have p4 : ((S.pop i j).aim j j).q = up2 S.q i j r := by show up2 S.q i j (S.q i j).tail = _; rw [hq]; rfl
  have p1 : ((S.pop i j).aim j j).ptr = up1 S.ptr j j := rfl
  have p2 : ((S.pop i j).aim j j).ins = S.ins := rfl
  have p3 : ((S.pop i j).aim j j).row = S.row := rfl
  have hone := h.one
  refine ⟨?_, a2, a3, a1, b1, a4, b3, b2, b5, rfl, hr⟩
  have s1 := hold_set (n := n) (S := S) (T := (S.pop i j).aim j j) a3 p1
  have s2 := sum2_set (n := n) (S := S) (T := (S.pop i j).aim j j) a2 a3 r p4
  generalize (S.pop i j).aim j j = T at *
  have pj : T.ptr j = j := by rw [p1, up1_same]
  have po : ∀ x, x ≠ j → T.ptr x = S.ptr x := fun x hx => by rw [p1, up1_other _ _ hx]
  have qs : T.q i j = r := by rw [p4, up2_same]
  have qo : ∀ a b, ¬ (a = i ∧ b = j) → T.q a b = S.q a b := fun a b hab => by rw [p4, up2_other _ _ hab]
  have hji : S.ptr j ≠ j := by rw [b1]; exact a1
  exact {
    ptrlt := fun k hk => by
      by_cases e : k = j
      · rw [e, pj]; exact a3
      · rw [po k e]; exact h.ptrlt k hk
    rowlt := by rw [p3]; exact h.rowlt
    nodup := by rw [p3]; exact h.nodup
    insp := fun x hx => by
      rw [p2] at hx
      rw [p3]
      obtain ⟨c1, c2, c3⟩ := h.insp x hx
      have e : x ≠ j := fun e => hji (by rw [← e]; exact c2)
      rw [po x e]; exact ⟨c1, c2, c3⟩
    rowp := fun x y hy hne => by
      rw [p3] at hy ⊢
      obtain ⟨c1, c2, c3⟩ := h.rowp x y hy hne
      have e : y ≠ j := fun e => by
        rw [e] at hy c1
        have e2 : x = i := c1.symm.trans b1
        rw [e2] at hy; exact b4 hy
      rw [po y e]
      refine ⟨c1, ?_, c3⟩
      rw [qo y x (fun e2 => by rw [e2.1, e2.2, hq] at c2; cases c2)]; exact c2
    chan := fun a b hab => by
      rw [p3]
      by_cases e : a = i ∧ b = j
      · obtain ⟨rfl, rfl⟩ := e
        rw [qs] at hab ⊢
        rw [po a a1]
        refine ⟨a1, a2, a3, a4, a5, ?_⟩
        rcases hr with e | ⟨e, e2⟩
        · exact absurd e hab
        · exact .inr ⟨e2, .inl e⟩
      · rw [qo a b e] at hab ⊢
        obtain ⟨c1, c2, c3, c4, c5, c6⟩ := h.chan a b hab
        have ea : a ≠ j := fun e2 => by
          rw [e2] at c4 hab
          have e3 : b = i := c4.symm.trans b1
          rw [e3] at hab; exact hab b5
        rw [po a ea]
        exact ⟨c1, c2, c3, c4, c5, c6⟩
    tok := fun a b hab => by
      rw [p3]
      have e : ¬ (a = i ∧ b = j) := fun e => by rw [e.1, e.2, qs] at hab; exact hr1 hab
      rw [qo a b e] at hab
      obtain ⟨c1, c2, c3, c4, c5⟩ := h.tok a b hab
      have eb : b ≠ j := fun e2 => by
        rw [e2] at c1
        exact e ⟨c1.symm.trans b1, e2⟩
      have ea : a ≠ j := fun e2 => by
        rw [e2] at hab
        have h4 := (h.chan j b (fun e => by rw [e] at hab; cases hab)).2.2.2.1
        have e3 : b = i := h4.symm.trans b1
        rw [e3, b5] at hab; cases hab
      rw [po b eb]
      refine ⟨c1, c2, c3, c4, ?_⟩
      rw [qo b a (fun e2 => ea e2.2)]; exact c5
    idle := fun x hx hxn h1 h2 => by
      rw [p3]
      rw [po x hx] at h1
      rw [p2] at h2
      exact h.idle x (by omega) hxn h1 h2
    out := fun p _ h1 h2 => by
      rw [p3] at h1 ⊢
      have e : p ≠ j := fun e => h2 (by rw [e, pj])
      rw [po p e] at h2 ⊢
      have hpn : p ≠ n := fun e2 => by
        obtain ⟨z, hz⟩ := List.exists_mem_of_ne_nil _ h1
        have := (h.rowlt p z hz).1
        omega
      rcases h.out p hpn h1 h2 with h3 | h3 | h3
      · left
        by_cases e2 : p = i
        · subst e2
          rw [a4, qs]
          rw [a4, hq] at h3
          simp at h3; exact h3
        · rw [qo _ _ (fun e3 => e2 e3.1)]; exact h3
      · exact .inr (.inl h3)
      · right; right
        rw [qo _ _ (fun e3 => e e3.2)]; exact h3
    one := by
      rw [s1, s2, hq, if_neg hji, if_pos rfl]
      have h2 : nA (1 :: r) = 1 + nA r := by simp [nA]
      rw [h2]
      omega }

theorem KInvX.want {i : Nat} (h : KInv n S) (hi : i < n) (h1 : S.ins i = false) (h2 : i ∉ S.row i) : KInv n (S.enq i i) :=
  (KInvX.join h hi hi (.inl rfl) h2 (fun _ => h1) (fun e => absurd rfl e)).serve hi
theorem KInvX.leave {i : Nat} (h : KInv n S) (hi : i < n) (h1 : S.ins i = true) : KInv n (S.leave i) := by
  obtain ⟨_, b2, b3⟩ := h.insp i h1
  refine KInvX.serve (j := i) ?_ hi
  have hb : KInvX n S i n := KInvX.weak h i
  refine { hb with insp := fun x hx => ?_, idle := fun x hx hxn h3 h4 => ?_ }
  · have e : x ≠ i := fun e => by
      have : up1 S.ins i false x = true := hx
      rw [e, up1_same] at this; cases this
    have : up1 S.ins i false x = true := hx
    rw [up1_other _ _ e] at this
    exact h.insp x this
  · have : up1 S.ins i false x = false := h4
    rw [up1_other _ _ hx] at this
    exact hb.idle x hx hxn h3 this
theorem KInvX.come {i j : Nat} (h : KInv n S) (hq : S.q i j ≠ []) : KInv n (S.come i j) := by
  unfold KS.come
  cases e : S.q i j with
  | nil => exact absurd e hq
  | cons x r =>
    show KInv n (if x = 0 then _ else _)
    by_cases hx : x = 0
    · rw [if_pos hx]
      subst hx
      obtain ⟨h0, h1, h2, h3, h4, h5, h6, h7, h8, h9⟩ := KInvX.popAsk h e
      have hqj : (S.pop i j).q j i = S.q j i := up2_other _ _ (fun e2 => h3 e2.2)
      exact (KInvX.join h0 h2 h1 (.inr ⟨rfl, h3⟩) h4 (fun e2 => absurd e2 h3) (fun _ => ⟨h5, h6, h7, by rw [hqj]; exact h8⟩)).serve h2
    · rw [if_neg hx]
      obtain ⟨h0, h1, h2, _⟩ := KInvX.popTok h e hx
      exact h0.serve h2
theorem KInvX.step (h : KInv n S) (m : Mv) : KInv n (stepK n S m).1 := by
  unfold stepK
  split
  · exact h
  split
  · exact h
  next hf =>
  have hfn : m.f.toNat < n := by omega
  split
  · split
    · exact h
    · next hw => exact KInvX.want h hfn (by
        cases e : S.ins m.f.toNat with
        | false => rfl
        | true => exact absurd (.inl e) hw) (fun e => hw (.inr e))
  split
  · split
    · next hw => exact KInvX.leave h hfn hw
    · exact h
  split
  · exact h
  split
  · exact h
  · next hq => exact KInvX.come h hq
theorem KInvX.at_ {u : Nat → Nat} (h : KInv n (KS.begin u)) (l : List Mv) (k : Nat) : KInv n (kAt n u l k) := by
  induction k with
  | zero => exact h
  | succ k ih => exact KInvX.step ih (mv l k)
theorem KInvX.len_le (h : KInvX n S e o) (i j : Nat) : (S.q i j).length ≤ 2 := by
  by_cases e1 : S.q i j = []
  · rw [e1]; simp
  · rcases (h.chan i j e1).2.2.2.2.2 with h1 | ⟨_, h1 | h1⟩ <;> rw [h1] <;> simp
theorem KInvX.row_le (h : KInvX n S e o) (i : Nat) : (S.row i).length ≤ n := by
  have h1 : (S.row i) ⊆ List.range n := fun x hx => List.mem_range.2 (h.rowlt i x hx).2
  have := (h.nodup i).length_le_of_subset h1
  rwa [List.length_range] at this
end

#print axioms KInvX.at_
end Go.Proofs.Ytejckoffllhjcaa
