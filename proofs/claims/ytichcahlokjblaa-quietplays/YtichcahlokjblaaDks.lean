/-
  Termination detection by Dijkstra and Scholten, as the document says it: the states, the steps, what they keep. Plain.
-/
import Derived.Test.YtichcahlokjblaaSnp
namespace Go.Proofs.Ytichcahlokjblaa

/-! Sums. -/
theorem sumN_zero_iff {n : Nat} {f : Nat → Int} (h : ∀ i, i < n → 0 ≤ f i) : sumN n f = 0 ↔ ∀ i, i < n → f i = 0 := by
  constructor
  · intro e i hi
    have := le_sumN h hi
    have := h i hi
    omega
  · intro e
    induction n with
    | zero => rfl
    | succ n ih => rw [sumN, ih (fun i hi => h i (by omega)) (fun i hi => e i (by omega)), e n (by omega)]; rfl
theorem sumN_leq {n : Nat} {f g : Nat → Int} (h : ∀ i, i < n → f i ≤ g i) : sumN n f ≤ sumN n g := by
  induction n with
  | zero => exact Int.le_refl _
  | succ n ih =>
    rw [sumN, sumN]
    have := ih (fun i hi => h i (by omega))
    have := h n (by omega)
    omega
theorem sumN_le {n : Nat} {f : Nat → Int} {c : Int} (h : ∀ i, i < n → f i ≤ c) : sumN n f ≤ n * c := by
  induction n with
  | zero => simp [sumN]
  | succ n ih =>
    rw [sumN]
    have := ih (fun i hi => h i (by omega))
    have h2 := h n (by omega)
    have : ((n + 1 : Nat) : Int) * c = n * c + c := by rw [Int.natCast_add, Int.add_mul]; simp
    omega

/-- How many of the first n are so. -/
def cntB : Nat → (Nat → Bool) → Nat
  | 0, _ => 0
  | n + 1, f => cntB n f + if f n = true then 1 else 0
theorem cntB_le (n : Nat) (f : Nat → Bool) : cntB n f ≤ n := by
  induction n with
  | zero => exact Nat.le_refl _
  | succ n ih => rw [cntB]; split <;> omega
theorem cntB_congr {n : Nat} {f g : Nat → Bool} (h : ∀ i, i < n → f i = g i) : cntB n f = cntB n g := by
  induction n with
  | zero => rfl
  | succ n ih => rw [cntB, cntB, ih (fun i hi => h i (by omega)), h n (by omega)]
theorem cntB_off {n : Nat} {f : Nat → Bool} {i : Nat} (hi : i < n) (h : f i = true) : cntB n (up1 f i false) + 1 = cntB n f := by
  induction n with
  | zero => omega
  | succ n ih =>
    rw [cntB, cntB]
    by_cases e : i = n
    · subst e
      rw [up1_same, cntB_congr (g := f) (fun j hj => up1_other _ _ (by omega)), h]
      simp
    · rw [up1_other _ _ (by omega : n ≠ i)]
      have := ih (by omega)
      omega
theorem cntB_pos {n : Nat} {f : Nat → Bool} {i : Nat} (hi : i < n) (h : f i = true) : 0 < cntB n f := by
  have := cntB_off hi h
  omega

/-- Who is active, who is engaged, whose parent is who, how many messages are on each way. -/
structure QS where
  act : Nat → Bool
  eng : Nat → Bool
  par : Nat → Nat
  tr : Nat → Nat → Nat
theorem QS.eq {S T : QS} (h1 : S.act = T.act) (h2 : S.eng = T.eng) (h3 : S.par = T.par) (h4 : S.tr = T.tr) : S = T := by
  cases S; cases T; simp_all
def QS.begin : QS := ⟨fun i => decide (i = 0), fun i => decide (i = 0), fun _ => 0, fun _ _ => 0⟩
/-- Is j engaged by i? -/
def QS.kid (S : QS) (i j : Nat) : Bool := decide (j ≠ 0) && S.eng j && decide (S.par j = i)
theorem QS.kid_iff (S : QS) (i j : Nat) : S.kid i j = true ↔ j ≠ 0 ∧ S.eng j = true ∧ S.par j = i := by
  unfold QS.kid
  simp [and_assoc]
/-- What i expects of j. -/
def QS.own (S : QS) (i j : Nat) : Int := (S.tr i j : Int) + if S.kid i j = true then 1 else 0
def QS.exp (S : QS) (n i : Nat) : Int := sumN n (S.own i)
def QS.off (S : QS) (i : Nat) : QS := { S with eng := up1 S.eng i false }
def QS.rest (S : QS) (i : Nat) : QS := { S with act := up1 S.act i false }
def QS.send (S : QS) (i j : Nat) : QS := { S with tr := up2 S.tr i j (S.tr i j + 1) }
def QS.got (S : QS) (i j : Nat) : QS := { S with act := up1 S.act j true, tr := up2 S.tr i j (S.tr i j - 1) }
def QS.bind (S : QS) (i j : Nat) : QS := { S with eng := up1 S.eng j true, par := up1 S.par j i }
def rel (n : Nat) : Nat → QS → Nat → QS
  | 0, S, _ => S
  | f + 1, S, i => if i = 0 ∨ S.act i = true ∨ S.exp n i ≠ 0 then S else rel n f (S.off i) (S.par i)
def QS.take (S : QS) (n i j : Nat) : QS := if S.eng j = true then rel n (n + 1) (S.got i j) i else (S.got i j).bind i j
def stepQ (n : Nat) (S : QS) (m : Mv) : QS × Int :=
  if m.k < 1 ∨ 3 < m.k then (S, 6)
  else if ¬ (0 ≤ m.f ∧ m.f < n) then (S, 2)
  else if m.k = 3 then (if S.act m.f.toNat = true then (rel n (n + 1) (S.rest m.f.toNat) m.f.toNat, 0) else (S, 7))
  else if ¬ (0 ≤ m.t ∧ m.t < n) ∨ m.f = m.t then (S, 2)
  else if m.k = 1 then (if S.act m.f.toNat = true then (S.send m.f.toNat m.t.toNat, 0) else (S, 7))
  else if S.tr m.f.toNat m.t.toNat = 0 then (S, 5)
  else (S.take n m.f.toNat m.t.toNat, 0)
def qAt (n : Nat) (l : List Mv) : Nat → QS
  | 0 => QS.begin
  | k + 1 => (stepQ n (qAt n l k) (mv l k)).1
def codeQ (n : Nat) (l : List Mv) (k : Nat) : Int := (stepQ n (qAt n l k) (mv l k)).2

/-! What is expected. -/
theorem QS.own_nonneg (S : QS) (i j : Nat) : 0 ≤ S.own i j := by unfold QS.own; split <;> omega
theorem QS.exp_nonneg (S : QS) (n i : Nat) : 0 ≤ S.exp n i := sumN_nonneg fun j _ => S.own_nonneg i j
theorem QS.exp_zero (S : QS) (n i : Nat) : S.exp n i = 0 ↔ ∀ j, j < n → S.tr i j = 0 ∧ S.kid i j = false := by
  unfold QS.exp
  rw [sumN_zero_iff fun j _ => S.own_nonneg i j]
  constructor
  · intro h j hj
    have := h j hj
    unfold QS.own at this
    split at this
    · omega
    · next e => exact ⟨by omega, by simpa using e⟩
  · intro h j hj
    obtain ⟨a, b⟩ := h j hj
    unfold QS.own
    rw [a, b]; rfl
theorem QS.exp_le (S : QS) (n i c : Nat) (h : ∀ j, S.tr i j ≤ c) : S.exp n i ≤ n * ((c : Int) + 1) := by
  unfold QS.exp
  refine sumN_le fun j _ => ?_
  have := h j
  unfold QS.own
  split <;> omega
theorem QS.exp_congr {S T : QS} (n i : Nat) (h : ∀ j, j < n → T.tr i j = S.tr i j ∧ T.kid i j = S.kid i j) : T.exp n i = S.exp n i := by
  unfold QS.exp
  refine sumN_congr fun j hj => ?_
  obtain ⟨a, b⟩ := h j hj
  unfold QS.own
  rw [a, b]
theorem QS.exp_mono {S T : QS} (n i : Nat) (h : ∀ j, j < n → T.tr i j ≤ S.tr i j ∧ (T.kid i j = true → S.kid i j = true)) : T.exp n i ≤ S.exp n i := by
  unfold QS.exp
  refine sumN_leq fun j hj => ?_
  obtain ⟨a, b⟩ := h j hj
  unfold QS.own
  by_cases e : T.kid i j = true
  · rw [if_pos e, if_pos (b e)]; omega
  · rw [if_neg e]; split <;> omega
theorem QS.kid_lt {S : QS} {n i j : Nat} (hj : j < n) (h : S.kid i j = true) : S.exp n i ≠ 0 := by
  intro e
  have := ((S.exp_zero n i).1 e j hj).2
  rw [h] at this; cases this
theorem QS.tr_lt {S : QS} {n i j : Nat} (hj : j < n) (h : S.tr i j ≠ 0) : S.exp n i ≠ 0 := fun e => h ((S.exp_zero n i).1 e j hj).1
theorem QS.exp_act {S : QS} (n i : Nat) (f : Nat → Bool) : QS.exp { S with act := f } n i = S.exp n i := rfl
theorem QS.exp_off {S : QS} {n i : Nat} (hi : i < n) (h0 : i ≠ 0) (he : S.eng i = true) (a : Nat) : (S.off i).exp n a = if a = S.par i then S.exp n a - 1 else S.exp n a := by
  have hk : ∀ x j, j ≠ i → (S.off i).kid x j = S.kid x j := fun x j hj => by
    unfold QS.kid QS.off
    simp only [up1_other _ _ hj]
  have hi' : ∀ x, (S.off i).kid x i = false := fun x => by
    unfold QS.kid QS.off
    simp only [up1_same]
    simp
  by_cases e : a = S.par i
  · rw [if_pos e]
    unfold QS.exp
    rw [sumN_at hi (f := S.own a) (g := (S.off i).own a) (fun x hx => by unfold QS.own; rw [hk _ _ hx]; rfl)]
    have hk1 : S.kid a i = true := (S.kid_iff a i).2 ⟨h0, he, e.symm⟩
    have e1 : S.own a i = (S.tr a i : Int) + 1 := by unfold QS.own; rw [hk1]; rfl
    have e2 : (S.off i).own a i = (S.tr a i : Int) := by unfold QS.own; rw [hi']; show ((S.tr a i : Int) + 0) = _; omega
    rw [e1, e2]; omega
  · rw [if_neg e]
    refine QS.exp_congr n a fun j _ => ⟨rfl, ?_⟩
    by_cases e2 : j = i
    · subst e2
      rw [hi']
      have : ¬ S.kid a j = true := fun h => e ((S.kid_iff a j).1 h).2.2.symm
      cases hh : S.kid a j with
      | false => rfl
      | true => exact absurd hh this
    · exact hk a j e2
theorem QS.exp_send {S : QS} {n i j : Nat} (hj : j < n) (a : Nat) : (S.send i j).exp n a = if a = i then S.exp n a + 1 else S.exp n a := by
  by_cases e : a = i
  · subst e
    rw [if_pos rfl]
    unfold QS.exp
    have hk : ∀ x, (S.send a j).kid a x = S.kid a x := fun _ => rfl
    rw [sumN_at hj (f := S.own a) (g := (S.send a j).own a) (fun x hx => by
      unfold QS.own
      rw [hk]
      show ((up2 S.tr a j _ a x : Nat) : Int) + _ = _
      rw [up2_other _ _ (fun h => hx h.2)])]
    have e2 : (S.send a j).own a j = S.own a j + 1 := by
      unfold QS.own
      rw [hk]
      show ((up2 S.tr a j _ a j : Nat) : Int) + _ = _
      rw [up2_same]
      omega
    rw [e2]; omega
  · rw [if_neg e]
    refine QS.exp_congr n a fun x _ => ⟨?_, rfl⟩
    show up2 S.tr i j _ a x = _
    rw [up2_other _ _ (fun h => e h.1)]
theorem QS.exp_got {S : QS} {n i j : Nat} (hj : j < n) (ht : S.tr i j ≠ 0) (a : Nat) : (S.got i j).exp n a = if a = i then S.exp n a - 1 else S.exp n a := by
  by_cases e : a = i
  · subst e
    rw [if_pos rfl]
    unfold QS.exp
    have hk : ∀ x, (S.got a j).kid a x = S.kid a x := fun _ => rfl
    rw [sumN_at hj (f := S.own a) (g := (S.got a j).own a) (fun x hx => by
      unfold QS.own
      rw [hk]
      show ((up2 S.tr a j _ a x : Nat) : Int) + _ = _
      rw [up2_other _ _ (fun h => hx h.2)])]
    have e2 : (S.got a j).own a j = S.own a j - 1 := by
      unfold QS.own
      rw [hk]
      show ((up2 S.tr a j _ a j : Nat) : Int) + _ = _
      rw [up2_same]
      omega
    rw [e2]; omega
  · rw [if_neg e]
    refine QS.exp_congr n a fun x _ => ⟨?_, rfl⟩
    show up2 S.tr i j _ a x = _
    rw [up2_other _ _ (fun h => e h.1)]
theorem QS.exp_bind {S : QS} {n i j : Nat} (hj : j < n) (h0 : j ≠ 0) (he : S.eng j = false) (a : Nat) : (S.bind i j).exp n a = if a = i then S.exp n a + 1 else S.exp n a := by
  have hk : ∀ x y, y ≠ j → (S.bind i j).kid x y = S.kid x y := fun x y hy => by
    unfold QS.kid QS.bind
    simp only [up1_other _ _ hy]
  have hs : ∀ x, S.kid x j = false := fun x => by
    unfold QS.kid
    rw [he]; simp
  by_cases e : a = i
  · subst e
    rw [if_pos rfl]
    unfold QS.exp
    rw [sumN_at hj (f := S.own a) (g := (S.bind a j).own a) (fun x hx => by unfold QS.own; rw [hk _ _ hx]; rfl)]
    have h1 : (S.bind a j).kid a j = true := by
      rw [QS.kid_iff]
      exact ⟨h0, up1_same _ _ _, up1_same _ _ _⟩
    have e1 : (S.bind a j).own a j = (S.tr a j : Int) + 1 := by unfold QS.own; rw [h1]; rfl
    have e2 : S.own a j = (S.tr a j : Int) := by unfold QS.own; rw [hs]; show ((S.tr a j : Int) + 0) = _; omega
    rw [e1, e2]; omega
  · rw [if_neg e]
    refine QS.exp_congr n a fun x _ => ⟨rfl, ?_⟩
    by_cases e2 : x = j
    · subst e2
      rw [hs]
      have : ¬ (S.bind i x).kid a x = true := fun h => by
        have := ((S.bind i x).kid_iff a x).1 h
        have h3 := this.2.2
        rw [show (S.bind i x).par x = i from up1_same _ _ _] at h3
        exact e h3.symm
      simpa using this
    · exact hk a x e2

/-! What holds always. -/
structure QInv (n : Nat) (S : QS) (dep : Nat → Nat) : Prop where
  e0 : S.eng 0 = true
  actE : ∀ i, S.act i = true → S.eng i = true
  trE : ∀ i j, S.tr i j ≠ 0 → i < n ∧ j < n ∧ S.eng i = true
  engL : ∀ j, S.eng j = true → j < n
  parE : ∀ j, j ≠ 0 → S.eng j = true → S.eng (S.par j) = true ∧ dep (S.par j) < dep j
  parL : ∀ j, S.par j < n
/-- Nobody can be let go, with just these engaged. -/
def Stuck (n : Nat) (S : QS) (G : Nat → Bool) : Prop := ∀ j, j ≠ 0 → G j = true → S.act j = true ∨ QS.exp { S with eng := G } n j ≠ 0
theorem QInv.off {n : Nat} {S : QS} {dep : Nat → Nat} (h : QInv n S dep) {i : Nat} (h0 : i ≠ 0) (ha : S.act i = false) (he : S.exp n i = 0) : QInv n (S.off i) dep := by
  have key : ∀ j, S.eng j = true → j ≠ i → (S.off i).eng j = true := fun j hj hne => by
    show up1 S.eng i false j = true
    rw [up1_other _ _ hne]; exact hj
  have back : ∀ j, (S.off i).eng j = true → S.eng j = true := fun j hj => by
    by_cases e : j = i
    · have : up1 S.eng i false j = true := hj
      rw [e, up1_same] at this; cases this
    · have : up1 S.eng i false j = true := hj
      rwa [up1_other _ _ e] at this
  refine ⟨key 0 h.e0 (fun e => h0 e.symm), fun j hj => key j (h.actE j hj) (fun e => by
    have hj' : S.act j = true := hj
    rw [e, ha] at hj'; cases hj'), fun a b hab => ?_, fun j hj => h.engL j (back j hj), fun j hj0 hj => ?_, h.parL⟩
  · obtain ⟨h1, h2, h3⟩ := h.trE a b hab
    refine ⟨h1, h2, key a h3 fun e => ?_⟩
    subst e
    exact QS.tr_lt (S := S) h2 hab he
  · obtain ⟨h1, h2⟩ := h.parE j hj0 (back j hj)
    refine ⟨key _ h1 fun e => ?_, h2⟩
    exact QS.kid_lt (h.engL j (back j hj)) ((S.kid_iff i j).2 ⟨hj0, back j hj, e⟩) he

/-- What a release comes to. -/
structure RelTo (n : Nat) (dep : Nat → Nat) (S T : QS) : Prop where
  inv : QInv n T dep
  act : T.act = S.act
  par : T.par = S.par
  tr : T.tr = S.tr
  sub : ∀ j, T.eng j = true → S.eng j = true
  stuck : Stuck n T T.eng
  most : ∀ G : Nat → Bool, (∀ j, G j = true → S.eng j = true) → Stuck n S G → ∀ j, G j = true → T.eng j = true
theorem exp_sub {n : Nat} {S : QS} {G : Nat → Bool} (h : ∀ j, G j = true → S.eng j = true) {i : Nat} (he : S.exp n i = 0) : QS.exp { S with eng := G } n i = 0 := by
  have h1 : QS.exp { S with eng := G } n i ≤ S.exp n i := QS.exp_mono n i fun j _ => ⟨Nat.le_refl _, fun hk => by
    rw [QS.kid_iff] at hk ⊢
    exact ⟨hk.1, h j hk.2.1, hk.2.2⟩⟩
  have h2 := QS.exp_nonneg { S with eng := G } n i
  omega
theorem rel_to {n : Nat} {dep : Nat → Nat} : ∀ (f : Nat) (S : QS) (i : Nat), QInv n S dep → (∀ j, j ≠ i → j ≠ 0 → S.eng j = true → S.act j = true ∨ S.exp n j ≠ 0) → S.eng i = true → cntB n S.eng ≤ f → RelTo n dep S (rel n f S i)
  | 0, S, i, hI, _, hi, hf => by
    have := cntB_pos (hI.engL i hi) hi
    omega
  | f + 1, S, i, hI, hS, hi, hf => by
    unfold rel
    by_cases h : i = 0 ∨ S.act i = true ∨ S.exp n i ≠ 0
    · rw [if_pos h]
      refine ⟨hI, rfl, rfl, rfl, fun _ h => h, fun j hj0 hj => ?_, fun G hG _ j hj => hG j hj⟩
      by_cases e : j = i
      · subst e
        rcases h with h | h | h
        · exact absurd h hj0
        · exact .inl h
        · exact .inr h
      · exact hS j e hj0 hj
    · rw [if_neg h]
      have h0 : i ≠ 0 := fun e => h (.inl e)
      have ha : S.act i = false := by
        cases hh : S.act i with
        | false => rfl
        | true => exact absurd (.inr (.inl hh)) h
      have he : S.exp n i = 0 := by
        by_cases hh : S.exp n i = 0
        · exact hh
        · exact absurd (.inr (.inr hh)) h
      have hin := hI.engL i hi
      have hne : S.par i ≠ i := fun e => by have := (hI.parE i h0 hi).2; rw [e] at this; omega
      have hI2 := hI.off h0 ha he
      have hsub : ∀ j, (S.off i).eng j = true → S.eng j = true := fun j hj => by
        by_cases e : j = i
        · rw [e]; exact hi
        · have : up1 S.eng i false j = true := hj
          rwa [up1_other _ _ e] at this
      have ih := rel_to f (S.off i) (S.par i) hI2 (fun j hj hj0 hje => by
        have e : j ≠ i := fun e => by
          have : up1 S.eng i false j = true := hje
          rw [e, up1_same] at this; cases this
        rw [QS.exp_off hin h0 hi, if_neg hj]
        exact hS j e hj0 (hsub j hje)) (by
        show up1 S.eng i false (S.par i) = true
        rw [up1_other _ _ hne]
        exact (hI.parE i h0 hi).1) (by
        have := cntB_off hin hi
        show cntB n (up1 S.eng i false) ≤ f
        omega)
      refine ⟨ih.inv, ih.act, ih.par, ih.tr, fun j hj => hsub j (ih.sub j hj), ih.stuck, fun G hG hSt j hj => ih.most G (fun a hGa => ?_) hSt j hj⟩
      show up1 S.eng i false a = true
      by_cases e : a = i
      · subst e
        rcases hSt a h0 hGa with h1 | h1
        · rw [ha] at h1; cases h1
        · exact absurd (exp_sub hG he) h1
      · rw [up1_other _ _ e]; exact hG a hGa

/-- Nothing but who is engaged turns in what is settled: it is told by being the most. -/
theorem RelTo.same {n : Nat} {dep : Nat → Nat} {S T : QS} (h : RelTo n dep S T) {G : Nat → Bool} (h1 : ∀ j, G j = true → S.eng j = true) (h2 : Stuck n S G) (h3 : ∀ j, T.eng j = true → G j = true) : G = T.eng := by
  funext j
  rw [Bool.eq_iff_iff]
  exact ⟨h.most G h1 h2 j, h3 j⟩

/-- What holds behind each move. -/
def QOk (n : Nat) (S : QS) : Prop := ∃ dep, QInv n S dep ∧ Stuck n S S.eng
theorem QOk.begin {n : Nat} (hn : 0 < n) : QOk n QS.begin := by
  have h0 : ∀ j, QS.begin.eng j = true → j = 0 := fun j h => by simpa [QS.begin] using h
  refine ⟨fun _ => 0, ⟨by simp [QS.begin], fun _ h => h, fun _ _ h => absurd rfl h, fun j h => by rw [h0 j h]; exact hn, fun j hj h => absurd (h0 j h) hj, fun _ => hn⟩, fun j hj h => absurd (h0 j h) hj⟩


theorem QInv.rest {n : Nat} {S : QS} {dep : Nat → Nat} (h : QInv n S dep) (i : Nat) : QInv n (S.rest i) dep := by
  refine ⟨h.e0, fun j hj => h.actE j ?_, h.trE, h.engL, h.parE, h.parL⟩
  have hj' : up1 S.act i false j = true := hj
  by_cases e : j = i
  · rw [e, up1_same] at hj'; cases hj'
  · rwa [up1_other _ _ e] at hj'
theorem QInv.got {n : Nat} {S : QS} {dep : Nat → Nat} (h : QInv n S dep) {i j : Nat} (hj : S.eng j = true) : QInv n (S.got i j) dep := by
  refine ⟨h.e0, fun x hx => ?_, fun a b hab => h.trE a b fun e => hab ?_, h.engL, h.parE, h.parL⟩
  · by_cases e : x = j
    · rw [e]; exact hj
    · have hx' : up1 S.act j true x = true := hx
      rw [up1_other _ _ e] at hx'
      exact h.actE x hx'
  · show up2 S.tr i j (S.tr i j - 1) a b = 0
    by_cases e2 : a = i ∧ b = j
    · rw [e2.1, e2.2, up2_same, ← e2.1, ← e2.2, e]
    · rw [up2_other _ _ e2]; exact e
theorem got_eq {S : QS} {i j : Nat} : (S.got i j).act j = true := up1_same _ _ _
theorem QOk.bind {n : Nat} {S : QS} (h : QOk n S) {i j : Nat} (ht : S.tr i j ≠ 0) (hj : S.eng j = false) : QOk n ((S.got i j).bind i j) := by
  obtain ⟨dep, hI, hS⟩ := h
  obtain ⟨hi, hjn, hie⟩ := hI.trE i j ht
  have h0 : j ≠ 0 := fun e => by rw [e, hI.e0] at hj; cases hj
  have hij : i ≠ j := fun e => by rw [e, hj] at hie; cases hie
  have hpj : ∀ x, x ≠ 0 → S.eng x = true → S.par x ≠ j := fun x h1 h2 e => by
    have := (hI.parE x h1 h2).1
    rw [e, hj] at this; cases this
  have eE : ∀ x, ((S.got i j).bind i j).eng x = up1 S.eng j true x := fun _ => rfl
  have eA : ∀ x, ((S.got i j).bind i j).act x = up1 S.act j true x := fun _ => rfl
  have eP : ∀ x, ((S.got i j).bind i j).par x = up1 S.par j i x := fun _ => rfl
  have eT : ∀ x y, ((S.got i j).bind i j).tr x y = up2 S.tr i j (S.tr i j - 1) x y := fun _ _ => rfl
  refine ⟨up1 dep j (dep i + 1), ⟨?_, fun x hx => ?_, fun a b hab => ?_, fun x hx => ?_, fun x hx0 hx => ?_, fun x => ?_⟩, fun x hx0 hx => ?_⟩
  · rw [eE, up1_other _ _ (fun e => h0 e.symm)]; exact hI.e0
  · rw [eE]
    by_cases e : x = j
    · rw [e, up1_same]
    · rw [eA, up1_other _ _ e] at hx
      rw [up1_other _ _ e]; exact hI.actE x hx
  · rw [eT] at hab
    have hab' : S.tr a b ≠ 0 := fun e => hab (by
      by_cases e2 : a = i ∧ b = j
      · rw [e2.1, e2.2, up2_same, ← e2.1, ← e2.2, e]
      · rw [up2_other _ _ e2]; exact e)
    obtain ⟨h1, h2, h3⟩ := hI.trE a b hab'
    refine ⟨h1, h2, ?_⟩
    rw [eE]
    by_cases e : a = j
    · rw [e, up1_same]
    · rw [up1_other _ _ e]; exact h3
  · rw [eE] at hx
    by_cases e : x = j
    · rw [e]; exact hjn
    · rw [up1_other _ _ e] at hx; exact hI.engL x hx
  · rw [eE] at hx
    rw [eE, eP]
    by_cases e : x = j
    · subst e
      rw [up1_same, up1_other _ _ hij, up1_same, up1_other _ _ hij]
      exact ⟨hie, by omega⟩
    · rw [up1_other _ _ e] at hx
      have h1 := hI.parE x hx0 hx
      have h2 := hpj x hx0 hx
      rw [up1_other _ _ e, up1_other _ _ h2, up1_other _ _ h2, up1_other _ _ e]
      exact h1
  · rw [eP]
    by_cases e : x = j
    · rw [e, up1_same]; exact hi
    · rw [up1_other _ _ e]; exact hI.parL x
  · show ((S.got i j).bind i j).act x = true ∨ ((S.got i j).bind i j).exp n x ≠ 0
    rw [eA]
    by_cases e : x = j
    · rw [e, up1_same]; exact .inl rfl
    · rw [eE, up1_other _ _ e] at hx
      rw [up1_other _ _ e]
      rcases hS x hx0 hx with h1 | h1
      · exact .inl h1
      · right
        have e1 := QS.exp_got (S := S) hjn ht x
        have e2 := QS.exp_bind (S := S.got i j) (i := i) hjn h0 hj x
        have h1' : S.exp n x ≠ 0 := h1
        rw [e2, e1]
        by_cases ex : x = i
        · rw [if_pos ex, if_pos ex]; omega
        · rw [if_neg ex, if_neg ex]; exact h1'
theorem rest_rel {n : Nat} {S : QS} (h : QOk n S) {i : Nat} (hi : S.act i = true) : ∃ dep, RelTo n dep (S.rest i) (rel n (n + 1) (S.rest i) i) := by
  obtain ⟨dep, hI, hS⟩ := h
  refine ⟨dep, rel_to (n + 1) _ i (hI.rest i) (fun j hj hj0 hje => ?_) (hI.actE i hi) (by have := cntB_le n (S.rest i).eng; omega)⟩
  rcases hS j hj0 hje with h1 | h1
  · left
    show up1 S.act i false j = true
    rw [up1_other _ _ hj]; exact h1
  · exact .inr h1
theorem got_rel {n : Nat} {S : QS} (h : QOk n S) {i j : Nat} (ht : S.tr i j ≠ 0) (hj : S.eng j = true) : ∃ dep, RelTo n dep (S.got i j) (rel n (n + 1) (S.got i j) i) := by
  obtain ⟨dep, hI, hS⟩ := h
  obtain ⟨hi, hjn, hie⟩ := hI.trE i j ht
  refine ⟨dep, rel_to (n + 1) _ i (hI.got hj) (fun x hx hx0 hxe => ?_) hie (by have := cntB_le n (S.got i j).eng; omega)⟩
  rw [QS.exp_got hjn ht, if_neg hx]
  rcases hS x hx0 hxe with h1 | h1
  · left
    show up1 S.act j true x = true
    by_cases e : x = j
    · rw [e, up1_same]
    · rw [up1_other _ _ e]; exact h1
  · exact .inr h1
theorem RelTo.ok {n : Nat} {dep : Nat → Nat} {S T : QS} (h : RelTo n dep S T) : QOk n T := ⟨dep, h.inv, h.stuck⟩
theorem QOk.send {n : Nat} {S : QS} (h : QOk n S) {i j : Nat} (hi : i < n) (hj : j < n) (ha : S.act i = true) : QOk n (S.send i j) := by
  obtain ⟨dep, hI, hS⟩ := h
  refine ⟨dep, ⟨hI.e0, hI.actE, fun a b hab => ?_, hI.engL, hI.parE, hI.parL⟩, fun x hx0 hx => ?_⟩
  · have hab' : up2 S.tr i j (S.tr i j + 1) a b ≠ 0 := hab
    by_cases e : a = i ∧ b = j
    · rw [e.1, e.2]; exact ⟨hi, hj, hI.actE i ha⟩
    · rw [up2_other _ _ e] at hab'; exact hI.trE a b hab'
  · rcases hS x hx0 hx with h1 | h1
    · exact .inl h1
    · right
      show (S.send i j).exp n x ≠ 0
      have h1' : S.exp n x ≠ 0 := h1
      have := QS.exp_nonneg S n x
      rw [QS.exp_send hj]
      split <;> omega
theorem QOk.take {n : Nat} {S : QS} (h : QOk n S) {i j : Nat} (ht : S.tr i j ≠ 0) : QOk n (S.take n i j) := by
  unfold QS.take
  by_cases e : S.eng j = true
  · rw [if_pos e]
    obtain ⟨d, hd⟩ := got_rel h ht e
    exact hd.ok
  · rw [if_neg e]
    exact h.bind ht (by simpa using e)
theorem QOk.step {n : Nat} {S : QS} (h : QOk n S) (m : Mv) : QOk n (stepQ n S m).1 := by
  unfold stepQ
  split
  · exact h
  split
  · exact h
  split
  · split
    · next ha =>
      obtain ⟨d, hd⟩ := rest_rel h ha
      exact hd.ok
    · exact h
  split
  · exact h
  split
  · split
    · next ha => exact h.send (by omega) (by omega) ha
    · exact h
  split
  · exact h
  · next ht => exact h.take ht
theorem QOk.at_ {n : Nat} (hn : 0 < n) (l : List Mv) (k : Nat) : QOk n (qAt n l k) := by
  induction k with
  | zero => exact QOk.begin hn
  | succ k ih => exact ih.step _

theorem codeQ_le (n : Nat) (S : QS) (m : Mv) : 0 ≤ (stepQ n S m).2 ∧ (stepQ n S m).2 ≤ 7 := by
  unfold stepQ
  repeat' split
  all_goals simp

/-! Dijkstra and Scholten: it is told just if all is done. -/
theorem QOk.safe {n : Nat} {S : QS} (h : QOk n S) : (S.act 0 = false ∧ S.exp n 0 = 0) ↔ ((∀ i, i < n → S.act i = false) ∧ ∀ i j, S.tr i j = 0) := by
  obtain ⟨dep, hI, hS⟩ := h
  have h0n : 0 < n := hI.engL 0 hI.e0
  constructor
  · rintro ⟨h1, h2⟩
    have none : ∀ d j, dep j = d → j ≠ 0 → S.eng j = true → False := fun d => by
      induction d using Nat.strongRecOn with
      | ind d ih =>
        intro j hd hj0 hj
        obtain ⟨h3, h4⟩ := hI.parE j hj0 hj
        by_cases e : S.par j = 0
        · exact QS.kid_lt (hI.engL j hj) ((S.kid_iff 0 j).2 ⟨hj0, hj, e⟩) h2
        · exact ih (dep (S.par j)) (by omega) (S.par j) rfl e h3
    refine ⟨fun i _ => ?_, fun i j => ?_⟩
    · cases hh : S.act i with
      | false => rfl
      | true =>
        by_cases e : i = 0
        · rw [e, h1] at hh; cases hh
        · exact (none _ i rfl e (hI.actE i hh)).elim
    · by_cases hh : S.tr i j = 0
      · exact hh
      · obtain ⟨h3, h4, h5⟩ := hI.trE i j hh
        by_cases e : i = 0
        · subst e
          exact absurd h2 (QS.tr_lt h4 hh)
        · exact (none _ i rfl e h5).elim
  · rintro ⟨h1, h2⟩
    obtain ⟨N, hN⟩ : ∃ N, ∀ j, j < n → dep j ≤ N := by
      have : ∀ m, ∃ N, ∀ j, j < m → dep j ≤ N := fun m => by
        induction m with
        | zero => exact ⟨0, fun j hj => absurd hj (by omega)⟩
        | succ m ih =>
          obtain ⟨N, hN⟩ := ih
          refine ⟨max N (dep m), fun j hj => ?_⟩
          by_cases e : j = m
          · rw [e]; exact Nat.le_max_right _ _
          · exact Nat.le_trans (hN j (by omega)) (Nat.le_max_left _ _)
      exact this n
    have none : ∀ d j, N - dep j = d → j ≠ 0 → S.eng j = true → False := fun d => by
      induction d using Nat.strongRecOn with
      | ind d ih =>
        intro j hd hj0 hj
        rcases hS j hj0 hj with h3 | h3
        · rw [h1 j (hI.engL j hj)] at h3; cases h3
        · have hx : ∃ c, c < n ∧ S.kid j c = true := by
            apply Classical.byContradiction
            intro hno
            refine h3 ((S.exp_zero n j).2 fun c hc => ⟨h2 j c, ?_⟩)
            cases hh : S.kid j c with
            | false => rfl
            | true => exact absurd ⟨c, hc, hh⟩ hno
          obtain ⟨c, hc, hk⟩ := hx
          obtain ⟨k1, k2, k3⟩ := (S.kid_iff j c).1 hk
          have h4 := (hI.parE c k1 k2).2
          rw [k3] at h4
          have := hN c hc
          exact ih (N - dep c) (by omega) c rfl k1 k2
    refine ⟨h1 0 h0n, (S.exp_zero n 0).2 fun j _ => ⟨h2 0 j, ?_⟩⟩
    cases hh : S.kid 0 j with
    | false => rfl
    | true =>
      obtain ⟨k1, k2, _⟩ := (S.kid_iff 0 j).1 hh
      exact (none _ j rfl k1 k2).elim

/-- Where all is done nothing turns. -/
theorem step_done {n : Nat} {S : QS} (h1 : ∀ i, i < n → S.act i = false) (h2 : ∀ i j, S.tr i j = 0) (m : Mv) : (stepQ n S m).1 = S := by
  unfold stepQ
  split
  · rfl
  split
  · rfl
  next hf =>
  have hf' : 0 ≤ m.f ∧ m.f < n := by omega
  have ha := h1 m.f.toNat (by omega)
  split
  · rw [if_neg (by rw [ha]; decide)]
  split
  · rfl
  split
  · rw [if_neg (by rw [ha]; decide)]
  rw [if_pos (h2 _ _)]
theorem stays {n : Nat} (l : List Mv) {i k : Nat} (hik : i ≤ k) (h1 : ∀ a, a < n → (qAt n l i).act a = false) (h2 : ∀ a b, (qAt n l i).tr a b = 0) : qAt n l k = qAt n l i := by
  induction k with
  | zero =>
    have : i = 0 := by omega
    rw [this]
  | succ k ih =>
    by_cases e : i = k + 1
    · rw [e]
    · have := ih (by omega)
      show (stepQ n (qAt n l k) (mv l k)).1 = _
      rw [this, step_done h1 h2]
theorem qAt_take (n : Nat) (l : List Mv) (i : Nat) : ∀ k, k ≤ i → qAt n (l.take i) k = qAt n l k := fun k hk => by
  induction k with
  | zero => rfl
  | succ k ih =>
    show (stepQ n (qAt n (l.take i) k) (mv (l.take i) k)).1 = (stepQ n (qAt n l k) (mv l k)).1
    rw [ih (by omega)]
    have : mv (l.take i) k = mv l k := by unfold mv; rw [List.getElem?_take_of_lt (by omega)]
    rw [this]
theorem codeQ_take (n : Nat) (l : List Mv) (i k : Nat) (hk : k < i) : codeQ n (l.take i) k = codeQ n l k := by
  unfold codeQ
  rw [qAt_take n l i k (by omega)]
  have : mv (l.take i) k = mv l k := by unfold mv; rw [List.getElem?_take_of_lt (by omega)]
  rw [this]

/-! How many there are. -/
theorem rel_tr (n : Nat) : ∀ (f : Nat) (S : QS) (i : Nat), (rel n f S i).tr = S.tr
  | 0, _, _ => rfl
  | f + 1, S, i => by
    unfold rel
    split
    · rfl
    · rw [rel_tr n f]; rfl
theorem stepQ_tr (n : Nat) (S : QS) (m : Mv) (a b : Nat) : (stepQ n S m).1.tr a b ≤ S.tr a b + 1 := by
  have hg : ∀ i j, (S.got i j).tr a b ≤ S.tr a b := fun i j => by
    show up2 S.tr i j (S.tr i j - 1) a b ≤ _
    by_cases e : a = i ∧ b = j
    · rw [e.1, e.2, up2_same]; omega
    · rw [up2_other _ _ e]; exact Nat.le_refl _
  unfold stepQ
  split
  · exact Nat.le_succ _
  split
  · exact Nat.le_succ _
  split
  · split
    · rw [rel_tr]; exact Nat.le_succ _
    · exact Nat.le_succ _
  split
  · exact Nat.le_succ _
  split
  · split
    · show up2 S.tr _ _ _ a b ≤ _
      by_cases e : a = m.f.toNat ∧ b = m.t.toNat
      · rw [e.1, e.2, up2_same]; exact Nat.le_refl _
      · rw [up2_other _ _ e]; exact Nat.le_succ _
    · exact Nat.le_succ _
  split
  · exact Nat.le_succ _
  · show (QS.take S n _ _).tr a b ≤ _
    unfold QS.take
    split
    · rw [rel_tr]; exact Nat.le_succ_of_le (hg _ _)
    · exact Nat.le_succ_of_le (hg _ _)
theorem qAt_tr (n : Nat) (l : List Mv) (k a b : Nat) : (qAt n l k).tr a b ≤ k := by
  induction k with
  | zero => exact Nat.le_refl _
  | succ k ih => exact Nat.le_trans (stepQ_tr n _ _ a b) (by omega)

#print axioms QOk.safe
#print axioms stays
end Go.Proofs.Ytichcahlokjblaa
