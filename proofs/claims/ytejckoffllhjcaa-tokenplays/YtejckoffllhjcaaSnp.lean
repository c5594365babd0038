/-
  Scripts of amounts and markers: the states, the steps, and what they keep.
-/
import Derived.Test.YtejckoffllhjcaaWords
namespace Go.Proofs.Ytejckoffllhjcaa

/-- A move: kind, from, to, value. -/
structure Mv where
  k : Int
  f : Int
  t : Int
  v : Int
def mv0 : Mv := ⟨0, 0, 0, 0⟩
def mv (l : List Mv) (i : Nat) : Mv := (l[i]?).getD mv0
theorem mv_get (l : List Mv) {i : Nat} (h : i < l.length) : l[i] = mv l i := by simp [mv, h]

def up1 {α : Type} (f : Nat → α) (i : Nat) (v : α) : Nat → α := fun x => if x = i then v else f x
def up2 {α : Type} (f : Nat → Nat → α) (i j : Nat) (v : α) : Nat → Nat → α := fun x y => if x = i ∧ y = j then v else f x y
theorem up1_same {α : Type} (f : Nat → α) (i : Nat) (v : α) : up1 f i v i = v := by simp [up1]
theorem up1_other {α : Type} (f : Nat → α) {i x : Nat} (v : α) (h : x ≠ i) : up1 f i v x = f x := by simp [up1, h]
theorem up2_same {α : Type} (f : Nat → Nat → α) (i j : Nat) (v : α) : up2 f i j v i j = v := by simp [up2]
theorem up2_other {α : Type} (f : Nat → Nat → α) {i j x y : Nat} (v : α) (h : ¬ (x = i ∧ y = j)) : up2 f i j v x y = f x y := by simp only [up2, if_neg h]

/-- What each process has, whether it has recorded, what it has kept; what is on each channel, whether it is closed, what is recorded of it. -/
structure St where
  hv : Nat → Int
  rc : Nat → Bool
  kp : Nat → Int
  q : Nat → Nat → List Int
  cl : Nat → Nat → Bool
  wy : Nat → Nat → Int
theorem St.eq {S T : St} (h1 : S.hv = T.hv) (h2 : S.rc = T.rc) (h3 : S.kp = T.kp) (h4 : S.q = T.q) (h5 : S.cl = T.cl) (h6 : S.wy = T.wy) : S = T := by
  cases S; cases T; simp_all
def St.begin : St := ⟨fun _ => 100, fun _ => false, fun _ => 0, fun _ _ => [], fun _ _ => false, fun _ _ => 0⟩
def St.put (S : St) (i j : Nat) (x : Int) : St := { S with q := up2 S.q i j (S.q i j ++ [x]) }
def St.marks (S : St) (i m : Nat) : St := { S with q := fun x y => if x = i ∧ y ≠ i ∧ y < m then S.q x y ++ [0] else S.q x y }
def St.rec0 (S : St) (i : Nat) : St := { S with rc := up1 S.rc i true, kp := up1 S.kp i (S.hv i) }
def St.record (n : Nat) (S : St) (i : Nat) : St := (S.rec0 i).marks i n
def St.pay (S : St) (i : Nat) (x : Int) : St := { S with hv := up1 S.hv i (S.hv i - x) }
def St.send (S : St) (i j : Nat) (x : Int) : St := (S.pay i x).put i j x
def St.pop (S : St) (i j : Nat) : St := { S with q := up2 S.q i j (S.q i j).tail }
def St.close (S : St) (i j : Nat) : St := { S with cl := up2 S.cl i j true }
def St.gain (S : St) (j : Nat) (x : Int) : St := { S with hv := up1 S.hv j (S.hv j + x) }
def St.note (S : St) (i j : Nat) (x : Int) : St := { S with wy := up2 S.wy i j (S.wy i j + x) }
def St.recIf (n : Nat) (S : St) (j : Nat) : St := if S.rc j = true then S else S.record n j
def St.got (S : St) (i j : Nat) (x : Int) : St := if S.rc j = true ∧ S.cl i j = false then (S.gain j x).note i j x else S.gain j x
def St.take (n : Nat) (S : St) (i j : Nat) : St :=
  if (S.q i j).headD 0 = 0 then ((S.pop i j).recIf n j).close i j else (S.pop i j).got i j ((S.q i j).headD 0)
theorem St.marks_zero (S : St) (i : Nat) : S.marks i 0 = S := St.eq rfl rfl rfl (by funext x y; simp [St.marks]) rfl rfl
theorem St.marks_skip (S : St) (i : Nat) : S.marks i (i + 1) = S.marks i i := St.eq rfl rfl rfl (by
  funext x y
  simp only [St.marks]
  have : (x = i ∧ y ≠ i ∧ y < i + 1) ↔ (x = i ∧ y ≠ i ∧ y < i) := by omega
  simp only [this]) rfl rfl
theorem St.marks_put (S : St) {i m : Nat} (h : m ≠ i) : (S.marks i m).put i m 0 = S.marks i (m + 1) := St.eq rfl rfl rfl (by
  funext x y
  simp only [St.marks, St.put, up2]
  by_cases h1 : x = i ∧ y = m
  · obtain ⟨rfl, rfl⟩ := h1
    rw [if_pos ⟨rfl, rfl⟩, if_neg (by omega), if_pos ⟨rfl, h, by omega⟩]
  · rw [if_neg h1]
    by_cases h2 : x = i ∧ y ≠ i ∧ y < m
    · rw [if_pos h2, if_pos ⟨h2.1, h2.2.1, by omega⟩]
    · rw [if_neg h2, if_neg (by omega)]) rfl rfl

def stepS (n : Nat) (S : St) (m : Mv) : St × Int :=
  if m.k < 1 ∨ 3 < m.k then (S, 6)
  else if m.k = 3 then
    if ¬ (0 ≤ m.f ∧ m.f < n) then (S, 2)
    else if S.rc m.f.toNat = true then (S, 7) else (S.record n m.f.toNat, 0)
  else if ¬ (0 ≤ m.f ∧ m.f < n) ∨ ¬ (0 ≤ m.t ∧ m.t < n) ∨ m.f = m.t then (S, 2)
  else if m.k = 1 then
    if m.v < 1 ∨ S.hv m.f.toNat < m.v then (S, 4) else (S.send m.f.toNat m.t.toNat m.v, 0)
  else if S.q m.f.toNat m.t.toNat = [] then (S, 5)
  else (S.take n m.f.toNat m.t.toNat, 0)
def stAt (n : Nat) (l : List Mv) : Nat → St
  | 0 => St.begin
  | k + 1 => (stepS n (stAt n l k) (mv l k)).1
def codeAt (n : Nat) (l : List Mv) (k : Nat) : Int := (stepS n (stAt n l k) (mv l k)).2
theorem code_le (n : Nat) (S : St) (m : Mv) : 0 ≤ (stepS n S m).2 ∧ (stepS n S m).2 ≤ 7 := by
  unfold stepS
  repeat' split
  all_goals simp
def DoneS (n : Nat) (S : St) : Prop := (∀ i, i < n → S.rc i = true) ∧ ∀ i j, i < n → j < n → i ≠ j → S.cl i j = true

/-! Sums. -/
def sumN : Nat → (Nat → Int) → Int
  | 0, _ => 0
  | n + 1, f => sumN n f + f n
theorem sumN_congr {n : Nat} {f g : Nat → Int} (h : ∀ i, i < n → g i = f i) : sumN n g = sumN n f := by
  induction n with
  | zero => rfl
  | succ n ih => rw [sumN, sumN, ih (fun i hi => h i (by omega)), h n (by omega)]
theorem sumN_at {n : Nat} {f g : Nat → Int} {i : Nat} (hi : i < n) (h : ∀ x, x ≠ i → g x = f x) : sumN n g = sumN n f - f i + g i := by
  induction n with
  | zero => omega
  | succ n ih =>
    by_cases e : i = n
    · subst e
      rw [sumN, sumN, sumN_congr (fun x hx => h x (by omega))]
      omega
    · rw [sumN, sumN, ih (by omega), h n (by omega)]
      omega
theorem sumN_nonneg {n : Nat} {f : Nat → Int} (h : ∀ i, i < n → 0 ≤ f i) : 0 ≤ sumN n f := by
  induction n with
  | zero => exact Int.le_refl _
  | succ n ih =>
    have := ih (fun i hi => h i (by omega))
    have := h n (by omega)
    rw [sumN]; omega
theorem le_sumN {n : Nat} {f : Nat → Int} (h : ∀ i, i < n → 0 ≤ f i) {i : Nat} (hi : i < n) : f i ≤ sumN n f := by
  induction n with
  | zero => omega
  | succ n ih =>
    rw [sumN]
    by_cases e : i = n
    · subst e
      have := sumN_nonneg (n := i) (f := f) (fun x hx => h x (by omega))
      omega
    · have := ih (fun x hx => h x (by omega)) (by omega)
      have := h n (by omega)
      omega
theorem sumN_const (n : Nat) (c : Int) : sumN n (fun _ => c) = c * n := by
  induction n with
  | zero => simp [sumN]
  | succ n ih => rw [sumN, ih]; simp [Int.mul_add]
theorem sumN_mono {n m : Nat} {f : Nat → Int} (h : ∀ i, 0 ≤ f i) (hm : m ≤ n) : sumN m f ≤ sumN n f := by
  induction n with
  | zero => have : m = 0 := by omega
            subst this; exact Int.le_refl _
  | succ n ih =>
    by_cases e : m = n + 1
    · subst e; exact Int.le_refl _
    · have := ih (by omega)
      have := h n
      rw [sumN]; omega
theorem sumN_add (n : Nat) (f g : Nat → Int) : sumN n (fun i => f i + g i) = sumN n f + sumN n g := by
  induction n with
  | zero => rfl
  | succ n ih => rw [sumN, sumN, sumN, ih]; omega
def sum2 (n : Nat) (f : Nat → Nat → Int) : Int := sumN n fun i => sumN n (f i)
theorem sum2_congr {n : Nat} {f g : Nat → Nat → Int} (h : ∀ i j, i < n → j < n → g i j = f i j) : sum2 n g = sum2 n f := sumN_congr fun i hi => sumN_congr fun j hj => h i j hi hj
theorem sum2_at {n : Nat} {f g : Nat → Nat → Int} {i j : Nat} (hi : i < n) (hj : j < n) (h : ∀ x y, ¬ (x = i ∧ y = j) → g x y = f x y) : sum2 n g = sum2 n f - f i j + g i j := by
  unfold sum2
  rw [sumN_at hi (f := fun i => sumN n (f i)) (g := fun i => sumN n (g i)) (fun x hx => sumN_congr fun y _ => h x y (fun e => hx e.1)), sumN_at hj (f := f i) (g := g i) (fun y hy => h i y (fun e => hy e.2))]
  omega
theorem sum2_nonneg {n : Nat} {f : Nat → Nat → Int} (h : ∀ i j, 0 ≤ f i j) : 0 ≤ sum2 n f := sumN_nonneg fun i _ => sumN_nonneg fun j _ => h i j
theorem le_sum2 {n : Nat} {f : Nat → Nat → Int} (h : ∀ i j, 0 ≤ f i j) {i j : Nat} (hi : i < n) (hj : j < n) : f i j ≤ sum2 n f :=
  Int.le_trans (le_sumN (fun y _ => h i y) hj) (le_sumN (f := fun i => sumN n (f i)) (fun x _ => sumN_nonneg fun y _ => h x y) hi)
def sumL : List Int → Int
  | [] => 0
  | x :: r => x + sumL r
theorem sumL_append (a b : List Int) : sumL (a ++ b) = sumL a + sumL b := by
  induction a with
  | nil => simp [sumL]
  | cons x r ih => rw [List.cons_append, sumL, sumL, ih]; omega
theorem sumL_nonneg {l : List Int} (h : ∀ x ∈ l, 0 ≤ x) : 0 ≤ sumL l := by
  induction l with
  | nil => exact Int.le_refl _
  | cons x r ih =>
    have := ih (fun y hy => h y (List.mem_cons_of_mem _ hy))
    have := h x List.mem_cons_self
    rw [sumL]; omega
/-- What lies ahead of the marker. -/
def ah : List Int → List Int
  | [] => []
  | x :: r => if x = 0 then [] else x :: ah r
theorem ah_no {l : List Int} (h : (0 : Int) ∉ l) (r : List Int) : ah (l ++ r) = l ++ ah r := by
  induction l with
  | nil => rfl
  | cons x l ih =>
    have h1 : x ≠ 0 := fun e => h (by simp [e])
    rw [List.cons_append, ah, if_neg h1, ih (fun e => h (List.mem_cons_of_mem _ e)), List.cons_append]
theorem ah_yes {l : List Int} (h : (0 : Int) ∈ l) (r : List Int) : ah (l ++ r) = ah l := by
  induction l with
  | nil => cases h
  | cons x l ih =>
    rw [List.cons_append, ah, ah]
    by_cases e : x = 0
    · rw [if_pos e, if_pos e]
    · rw [if_neg e, if_neg e, ih (by rcases List.mem_cons.1 h with h1 | h1; exact absurd h1.symm e; exact h1)]
theorem ah_self {l : List Int} (h : (0 : Int) ∉ l) : ah l = l := by
  have := ah_no h []
  simpa [ah] using this
theorem ah_mark {l : List Int} (h : (0 : Int) ∉ l) : ah (l ++ [0]) = ah l := by rw [ah_no h, ah_self h]; simp [ah]
theorem ah_sub {l : List Int} {x : Int} (h : x ∈ ah l) : x ∈ l := by
  induction l with
  | nil => exact h
  | cons y r ih =>
    rw [ah] at h
    split at h
    · cases h
    · rcases List.mem_cons.1 h with h1 | h1
      · rw [h1]; exact List.mem_cons_self
      · exact List.mem_cons_of_mem _ (ih h1)
theorem ah_le (l : List Int) : (ah l).length ≤ l.length := by
  induction l with
  | nil => exact Nat.le_refl _
  | cons x r ih => rw [ah]; split <;> simp_all

/-! What is kept. -/
def preS (S : St) (i : Nat) : Int := if S.rc i = true then S.kp i else S.hv i
def chanS (S : St) (i j : Nat) : Int := S.wy i j + (if S.cl i j = true then 0 else sumL (ah (S.q i j)))
structure SInv (n : Nat) (S : St) : Prop where
  hv0 : ∀ i, 0 ≤ S.hv i
  kp0 : ∀ i, 0 ≤ S.kp i
  q0 : ∀ i j, ∀ x ∈ S.q i j, 0 ≤ x
  wy0 : ∀ i j, 0 ≤ S.wy i j
  tot : sumN n S.hv + sum2 n (fun i j => sumL (S.q i j)) = 100 * n
  snap : sumN n (preS S) + sum2 n (chanS S) = 100 * n
  mrk : ∀ i j, i < n → j < n → i ≠ j → (S.rc i = true ↔ (0 : Int) ∈ S.q i j ∨ S.cl i j = true)
  clr : ∀ i j, S.cl i j = true → S.rc j = true
  nrc : ∀ i, S.rc i = false → S.kp i = 0
  qd : ∀ i, S.q i i = []
  wd : ∀ i, S.wy i i = 0
theorem SInv.begin (n : Nat) : SInv n St.begin :=
  ⟨fun _ => by simp [St.begin], fun _ => by simp [St.begin], fun _ _ x h => by simp [St.begin] at h, fun _ _ => by simp [St.begin],
   by
    have h1 : sum2 n (fun i j => sumL (St.begin.q i j)) = 0 := by
      unfold sum2
      simp [St.begin, sumL, sumN_const]
    rw [h1]; simp [St.begin, sumN_const],
   by
    have h1 : sum2 n (chanS St.begin) = 0 := by
      unfold sum2 chanS
      simp [St.begin, sumL, ah, sumN_const]
    have h2 : sumN n (preS St.begin) = 100 * n := by
      unfold preS
      simp [St.begin, sumN_const]
    rw [h1, h2]; omega,
   fun i j _ _ _ => by simp [St.begin], fun i j h => by simp [St.begin] at h, fun i _ => rfl, fun i => rfl, fun i => rfl⟩
theorem pre_nonneg {n : Nat} {S : St} (h : SInv n S) (i : Nat) : 0 ≤ preS S i := by
  unfold preS
  split
  · exact h.kp0 i
  · exact h.hv0 i
theorem chan_nonneg {n : Nat} {S : St} (h : SInv n S) (i j : Nat) : 0 ≤ chanS S i j := by
  unfold chanS
  have := h.wy0 i j
  split
  · omega
  · have := sumL_nonneg (l := ah (S.q i j)) fun x hx => h.q0 i j x (ah_sub hx)
    omega

theorem SInv.send {n : Nat} {S : St} (h : SInv n S) {i j : Nat} {x : Int} (hi : i < n) (hj : j < n) (hne : i ≠ j) (h1 : 1 ≤ x) (h2 : x ≤ S.hv i) : SInv n (S.send i j x) := by
  have eq : ∀ a b, ¬ (a = i ∧ b = j) → (S.send i j x).q a b = S.q a b := fun a b hab => up2_other _ _ hab
  have es : (S.send i j x).q i j = S.q i j ++ [x] := up2_same _ _ _ _
  have eh : ∀ a, a ≠ i → (S.send i j x).hv a = S.hv a := fun a ha => up1_other _ _ ha
  have ehs : (S.send i j x).hv i = S.hv i - x := up1_same _ _ _
  refine ⟨fun a => ?_, h.kp0, fun a b y hy => ?_, h.wy0, ?_, ?_, fun a b ha hb hab => ?_, h.clr, h.nrc, fun a => ?_, h.wd⟩
  · by_cases e : a = i
    · subst e; rw [ehs]; omega
    · rw [eh a e]; exact h.hv0 a
  · by_cases e : a = i ∧ b = j
    · obtain ⟨rfl, rfl⟩ := e
      rw [es] at hy
      rcases List.mem_append.1 hy with h3 | h3
      · exact h.q0 _ _ y h3
      · rw [List.mem_singleton.1 h3]; omega
    · rw [eq a b e] at hy; exact h.q0 a b y hy
  · have t := h.tot
    rw [sumN_at hi (f := S.hv) (fun a ha => eh a ha), sum2_at hi hj (f := fun a b => sumL (S.q a b)) (fun a b hab => by rw [eq a b hab]), ehs, es, sumL_append]
    simp only [sumL]
    omega
  · have t := h.snap
    have hmk := h.mrk i j hi hj hne
    by_cases hr : S.rc i = true
    · rw [sumN_congr (f := preS S) (fun a _ => by
        unfold preS
        by_cases e : a = i
        · subst e
          have : (S.send a j x).rc a = true := hr
          rw [if_pos this, if_pos hr]; rfl
        · rw [eh a e]; rfl), sum2_congr (f := chanS S) (fun a b _ _ => by
        unfold chanS
        by_cases e : a = i ∧ b = j
        · obtain ⟨rfl, rfl⟩ := e
          rw [es]
          show S.wy a b + (if S.cl a b = true then 0 else _) = _
          split
          · rfl
          · next hcl => rw [ah_yes ((hmk.1 hr).resolve_right hcl)]
        · rw [eq a b e]; rfl)]
      exact t
    · have hno : (0 : Int) ∉ S.q i j := fun e => hr (hmk.2 (.inl e))
      have hcl : ¬ S.cl i j = true := fun e => hr (hmk.2 (.inr e))
      have e1 : preS (S.send i j x) i = preS S i - x := by
        unfold preS
        rw [if_neg hr, if_neg (show ¬ (S.send i j x).rc i = true from hr), ehs]
      have e2 : chanS (S.send i j x) i j = chanS S i j + x := by
        unfold chanS
        rw [if_neg hcl, if_neg (show ¬ (S.send i j x).cl i j = true from hcl), es, ah_no hno, sumL_append, ah_self hno]
        have : ah [x] = [x] := by simp [ah]; omega
        rw [this]
        simp only [sumL]
        show S.wy i j + _ = _
        omega
      rw [sumN_at hi (f := preS S) (fun a ha => by unfold preS; rw [eh a ha]; rfl), sum2_at hi hj (f := chanS S) (fun a b hab => by unfold chanS; rw [eq a b hab]; rfl), e1, e2]
      omega
  · show S.rc a = true ↔ _ ∨ S.cl a b = true
    rw [h.mrk a b ha hb hab]
    by_cases e : a = i ∧ b = j
    · obtain ⟨rfl, rfl⟩ := e
      rw [es]
      simp
      have : ¬ (0 : Int) = x := by omega
      simp [this]
    · rw [eq a b e]
  · rw [eq a a (fun e => hne (e.1.symm.trans e.2))]; exact h.qd a

theorem SInv.record {n : Nat} {S : St} (h : SInv n S) {i : Nat} (hi : i < n) (hr : S.rc i = false) : SInv n (S.record n i) := by
  have hrn : ¬ S.rc i = true := by simp [hr]
  have hno : ∀ j, j < n → i ≠ j → (0 : Int) ∉ S.q i j ∧ ¬ S.cl i j = true := fun j hj hne =>
    ⟨fun e => hrn ((h.mrk i j hi hj hne).2 (.inl e)), fun e => hrn ((h.mrk i j hi hj hne).2 (.inr e))⟩
  have eq : ∀ a b, ¬ (a = i ∧ b ≠ i ∧ b < n) → (S.record n i).q a b = S.q a b := fun a b hab => by
    show (if a = i ∧ b ≠ i ∧ b < n then _ else _) = _
    rw [if_neg hab]; rfl
  have es : ∀ a b, (a = i ∧ b ≠ i ∧ b < n) → (S.record n i).q a b = S.q a b ++ [0] := fun a b hab => by
    show (if a = i ∧ b ≠ i ∧ b < n then _ else _) = _
    rw [if_pos hab]; rfl
  have er : ∀ a, a ≠ i → (S.record n i).rc a = S.rc a := fun a ha => up1_other _ _ ha
  have ers : (S.record n i).rc i = true := up1_same _ _ _
  have ek : ∀ a, a ≠ i → (S.record n i).kp a = S.kp a := fun a ha => up1_other _ _ ha
  have eks : (S.record n i).kp i = S.hv i := up1_same _ _ _
  refine ⟨h.hv0, fun a => ?_, fun a b y hy => ?_, h.wy0, ?_, ?_, fun a b ha hb hab => ?_, fun a b hab => ?_, fun a ha => ?_, fun a => ?_, h.wd⟩
  · by_cases e : a = i
    · subst e; rw [eks]; exact h.hv0 a
    · rw [ek a e]; exact h.kp0 a
  · by_cases e : a = i ∧ b ≠ i ∧ b < n
    · rw [es a b e] at hy
      rcases List.mem_append.1 hy with h3 | h3
      · exact h.q0 _ _ y h3
      · rw [List.mem_singleton.1 h3]; omega
    · rw [eq a b e] at hy; exact h.q0 a b y hy
  · rw [sum2_congr (f := fun a b => sumL (S.q a b)) (fun a b _ _ => by
      by_cases e : a = i ∧ b ≠ i ∧ b < n
      · rw [es a b e, sumL_append]; simp [sumL]
      · rw [eq a b e])]
    exact h.tot
  · rw [sumN_congr (f := preS S) (fun a _ => by
      unfold preS
      by_cases e : a = i
      · subst e; rw [if_pos ers, if_neg hrn, eks]
      · rw [er a e, ek a e]; rfl), sum2_congr (f := chanS S) (fun a b _ hb => by
      unfold chanS
      show S.wy a b + (if S.cl a b = true then 0 else _) = _
      by_cases e : a = i ∧ b ≠ i ∧ b < n
      · obtain ⟨rfl, e2, e3⟩ := e
        rw [es a b ⟨rfl, e2, e3⟩, ah_mark (hno b hb (fun e => e2 e.symm)).1]
      · rw [eq a b e])]
    exact h.snap
  · show (S.record n i).rc a = true ↔ _ ∨ S.cl a b = true
    by_cases e : a = i
    · subst e
      rw [ers, es a b ⟨rfl, fun e => hab e.symm, hb⟩]
      simp
    · rw [er a e, eq a b (fun x => e x.1)]
      exact h.mrk a b ha hb hab
  · have := h.clr a b hab
    by_cases e : b = i
    · subst e; exact ers
    · rw [er b e]; exact this
  · by_cases e : a = i
    · subst e; rw [ers] at ha; cases ha
    · rw [er a e] at ha; rw [ek a e]; exact h.nrc a ha
  · rw [eq a a (fun e => e.2.1 e.1)]; exact h.qd a

/-- A marker is taken by one that has recorded. -/
theorem SInv.shut {n : Nat} {S : St} (h : SInv n S) {i j : Nat} (hi : i < n) (hj : j < n) (hne : i ≠ j) (hq : S.q i j ≠ []) (hx : (S.q i j).headD 0 = 0) (hr : S.rc j = true) : SInv n ((S.pop i j).close i j) := by
  obtain ⟨r, hqr⟩ : ∃ r, S.q i j = 0 :: r := by
    cases hc : S.q i j with
    | nil => exact absurd hc hq
    | cons a r => rw [hc] at hx; simp at hx; exact ⟨r, by rw [hx]⟩
  have eq : ∀ a b, ¬ (a = i ∧ b = j) → ((S.pop i j).close i j).q a b = S.q a b := fun a b hab => up2_other _ _ hab
  have es : ((S.pop i j).close i j).q i j = r := (up2_same _ _ _ _).trans (by rw [hqr]; rfl)
  have ec : ∀ a b, ¬ (a = i ∧ b = j) → ((S.pop i j).close i j).cl a b = S.cl a b := fun a b hab => up2_other _ _ hab
  have ecs : ((S.pop i j).close i j).cl i j = true := up2_same _ _ _ _
  have hri : S.rc i = true := (h.mrk i j hi hj hne).2 (.inl (by rw [hqr]; simp))
  refine ⟨h.hv0, h.kp0, fun a b y hy => ?_, h.wy0, ?_, ?_, fun a b ha hb hab => ?_, fun a b hab => ?_, h.nrc, fun a => ?_, h.wd⟩
  · by_cases e : a = i ∧ b = j
    · obtain ⟨rfl, rfl⟩ := e
      rw [es] at hy
      exact h.q0 a b y (by rw [hqr]; exact List.mem_cons_of_mem _ hy)
    · rw [eq a b e] at hy; exact h.q0 a b y hy
  · rw [sum2_congr (f := fun a b => sumL (S.q a b)) (fun a b _ _ => by
      by_cases e : a = i ∧ b = j
      · obtain ⟨rfl, rfl⟩ := e
        rw [es, hqr, sumL]; omega
      · rw [eq a b e])]
    exact h.tot
  · rw [sum2_congr (f := chanS S) (fun a b _ _ => by
      unfold chanS
      by_cases e : a = i ∧ b = j
      · obtain ⟨rfl, rfl⟩ := e
        rw [if_pos ecs, hqr]
        show S.wy a b + 0 = S.wy a b + _
        simp [ah, sumL]
      · rw [eq a b e, ec a b e]; rfl)]
    exact h.snap
  · show S.rc a = true ↔ _
    by_cases e : a = i ∧ b = j
    · obtain ⟨rfl, rfl⟩ := e
      simp [hri, ecs]
    · rw [eq a b e, ec a b e]; exact h.mrk a b ha hb hab
  · show S.rc b = true
    by_cases e : a = i ∧ b = j
    · rw [e.2]; exact hr
    · rw [ec a b e] at hab; exact h.clr a b hab
  · rw [eq a a (fun e => hne (e.1.symm.trans e.2))]; exact h.qd a

theorem St.pop_record (n : Nat) (S : St) {i j : Nat} (hne : i ≠ j) : (S.pop i j).record n j = (S.record n j).pop i j := St.eq rfl rfl rfl (by
  funext a b
  simp only [St.pop, St.record, St.marks, St.rec0, up2]
  by_cases e : a = i ∧ b = j
  · obtain ⟨rfl, rfl⟩ := e
    simp [hne]
  · simp only [if_neg e]) rfl rfl

/-- An amount is taken. -/
theorem SInv.got {n : Nat} {S : St} (h : SInv n S) {i j : Nat} (hi : i < n) (hj : j < n) (hne : i ≠ j) (hx : (S.q i j).headD 0 ≠ 0) : SInv n ((S.pop i j).got i j ((S.q i j).headD 0)) := by
  obtain ⟨x, r, hqr⟩ : ∃ x r, S.q i j = x :: r := by
    cases hc : S.q i j with
    | nil => rw [hc] at hx; exact absurd rfl hx
    | cons a r => exact ⟨a, r, rfl⟩
  have hhd : (S.q i j).headD 0 = x := by rw [hqr]; rfl
  rw [hhd] at hx ⊢
  have hx0 : 0 ≤ x := h.q0 i j x (by rw [hqr]; simp)
  generalize hT : (S.pop i j).got i j x = T
  have eq : ∀ a b, ¬ (a = i ∧ b = j) → T.q a b = S.q a b := fun a b hab => by
    rw [← hT]; unfold St.got; split <;> exact up2_other _ _ hab
  have es : T.q i j = r := by
    have e0 : (S.pop i j).q i j = r := (up2_same _ _ _ _).trans (by rw [hqr]; rfl)
    rw [← hT]; unfold St.got; split <;> exact e0
  have eh : ∀ a, a ≠ j → T.hv a = S.hv a := fun a ha => by
    rw [← hT]; unfold St.got; split <;> exact up1_other _ _ ha
  have ehs : T.hv j = S.hv j + x := by
    rw [← hT]; unfold St.got; split <;> exact up1_same _ _ _
  have er : T.rc = S.rc := by rw [← hT]; unfold St.got; split <;> rfl
  have ek : T.kp = S.kp := by rw [← hT]; unfold St.got; split <;> rfl
  have ec : T.cl = S.cl := by rw [← hT]; unfold St.got; split <;> rfl
  have ew : ∀ a b, ¬ (a = i ∧ b = j) → T.wy a b = S.wy a b := fun a b hab => by
    rw [← hT]; unfold St.got; split
    · exact up2_other _ _ hab
    · rfl
  have ews : T.wy i j = if S.rc j = true ∧ S.cl i j = false then S.wy i j + x else S.wy i j := by
    rw [← hT]; unfold St.got
    by_cases hc : S.rc j = true ∧ S.cl i j = false
    · rw [if_pos hc, if_pos (show (S.pop i j).rc j = true ∧ (S.pop i j).cl i j = false from hc)]
      exact up2_same _ _ _ _
    · rw [if_neg hc, if_neg (show ¬ ((S.pop i j).rc j = true ∧ (S.pop i j).cl i j = false) from hc)]
      rfl
  refine ⟨fun a => ?_, by rw [ek]; exact h.kp0, fun a b y hy => ?_, fun a b => ?_, ?_, ?_, fun a b ha hb hab => ?_, by rw [er, ec]; exact h.clr, by rw [er, ek]; exact h.nrc, fun a => ?_, fun a => ?_⟩
  · by_cases e : a = j
    · subst e; rw [ehs]; have := h.hv0 a; omega
    · rw [eh a e]; exact h.hv0 a
  · by_cases e : a = i ∧ b = j
    · obtain ⟨rfl, rfl⟩ := e
      rw [es] at hy
      exact h.q0 a b y (by rw [hqr]; exact List.mem_cons_of_mem _ hy)
    · rw [eq a b e] at hy; exact h.q0 a b y hy
  · by_cases e : a = i ∧ b = j
    · obtain ⟨rfl, rfl⟩ := e
      rw [ews]
      have := h.wy0 a b
      split <;> omega
    · rw [ew a b e]; exact h.wy0 a b
  · have t := h.tot
    rw [sumN_at hj (f := S.hv) (fun a ha => eh a ha), sum2_at hi hj (f := fun a b => sumL (S.q a b)) (fun a b hab => by rw [eq a b hab]), ehs, es, hqr, sumL]
    omega
  · have t := h.snap
    have e1 : preS T j = if S.rc j = true then preS S j else preS S j + x := by
      unfold preS
      rw [er, ek, ehs]
      split <;> rfl
    have e2 : chanS T i j = if S.rc j = true then chanS S i j else chanS S i j - x := by
      unfold chanS
      rw [ec, es, ews]
      by_cases hr : S.rc j = true
      · rw [if_pos hr]
        by_cases hc : S.cl i j = true
        · rw [if_pos hc, if_pos hc, if_neg (by simp [hc])]
        · rw [if_neg hc, if_neg hc, if_pos ⟨hr, by simpa using hc⟩, hqr, ah, if_neg hx, sumL]
          omega
      · have hc : ¬ S.cl i j = true := fun e => hr (h.clr i j e)
        rw [if_neg hc, if_neg hc, if_neg hr, if_neg (fun e => hr e.1), hqr, ah, if_neg hx, sumL]
        omega
    rw [sumN_at hj (f := preS S) (fun a ha => by unfold preS; rw [er, ek, eh a ha]), sum2_at hi hj (f := chanS S) (fun a b hab => by unfold chanS; rw [ec, eq a b hab, ew a b hab]), e1, e2]
    split <;> omega
  · rw [er, ec]
    by_cases e : a = i ∧ b = j
    · obtain ⟨rfl, rfl⟩ := e
      rw [es, h.mrk a b ha hb hab, hqr]
      simp
      constructor
      · rintro ((h1 | h1) | h1)
        · exact absurd h1.symm hx
        · exact .inl h1
        · exact .inr h1
      · rintro (h1 | h1)
        · exact .inl (.inr h1)
        · exact .inr h1
    · rw [eq a b e]; exact h.mrk a b ha hb hab
  · rw [eq a a (fun e => hne (e.1.symm.trans e.2))]; exact h.qd a
  · rw [ew a a (fun e => hne (e.1.symm.trans e.2))]; exact h.wd a

theorem SInv.take {n : Nat} {S : St} (h : SInv n S) {i j : Nat} (hi : i < n) (hj : j < n) (hne : i ≠ j) (hq : S.q i j ≠ []) : SInv n (S.take n i j) := by
  unfold St.take
  by_cases hx : (S.q i j).headD 0 = 0
  · rw [if_pos hx]
    unfold St.recIf
    by_cases hr : S.rc j = true
    · rw [if_pos (show (S.pop i j).rc j = true from hr)]
      exact h.shut hi hj hne hq hx hr
    · rw [if_neg (show ¬ (S.pop i j).rc j = true from hr), St.pop_record n S hne]
      have e : (S.record n j).q i j = S.q i j := by
        show (if i = j ∧ _ then _ else _) = _
        rw [if_neg (fun e => hne e.1)]; rfl
      exact (h.record hj (by simpa using hr)).shut hi hj hne (by rw [e]; exact hq) (by rw [e]; exact hx) (up1_same _ _ _)
  · rw [if_neg hx]
    exact h.got hi hj hne hx
theorem SInv.step {n : Nat} {S : St} (h : SInv n S) (m : Mv) : SInv n (stepS n S m).1 := by
  unfold stepS
  split
  · exact h
  split
  · split
    · exact h
    · next hb =>
      split
      · exact h
      · next hr => exact h.record (by omega) (by simpa using hr)
  split
  · exact h
  · next hb =>
    split
    · split
      · exact h
      · exact h.send (by omega) (by omega) (by omega) (by omega) (by omega)
    · split
      · exact h
      · next hq => exact h.take (by omega) (by omega) (by omega) hq
theorem SInv.at_ (n : Nat) (l : List Mv) (k : Nat) : SInv n (stAt n l k) := by
  induction k with
  | zero => exact SInv.begin n
  | succ k ih => exact ih.step _

/-- How much there can be. -/
theorem SInv.hvLe {n : Nat} {S : St} (h : SInv n S) {i : Nat} (hi : i < n) : S.hv i ≤ 100 * n := by
  have h1 := le_sumN (n := n) (f := S.hv) (fun a _ => h.hv0 a) hi
  have h2 := sum2_nonneg (n := n) (f := fun a b => sumL (S.q a b)) fun a b => sumL_nonneg (h.q0 a b)
  have := h.tot
  omega
theorem SInv.gainLe {n : Nat} {S : St} (h : SInv n S) {i j : Nat} (hi : i < n) (hj : j < n) {x : Int} {r : List Int} (hq : S.q i j = x :: r) : S.hv j + x ≤ 100 * n := by
  have h1 := le_sumN (n := n) (f := S.hv) (fun a _ => h.hv0 a) hj
  have h2 := le_sum2 (n := n) (f := fun a b => sumL (S.q a b)) (fun a b => sumL_nonneg (h.q0 a b)) hi hj
  have h3 := sumL_nonneg (l := r) fun y hy => h.q0 i j y (by rw [hq]; exact List.mem_cons_of_mem _ hy)
  have := h.tot
  simp only [hq, sumL] at h2
  omega
theorem SInv.noteLe {n : Nat} {S : St} (h : SInv n S) {i j : Nat} (hi : i < n) (hj : j < n) {x : Int} {r : List Int} (hq : S.q i j = x :: r) (hx : x ≠ 0) (hc : S.cl i j = false) : S.wy i j + x ≤ 100 * n := by
  have h1 := sumN_nonneg (n := n) (f := preS S) (fun a _ => pre_nonneg h a)
  have h2 := le_sum2 (n := n) (f := chanS S) (fun a b => chan_nonneg h a b) hi hj
  have h3 := sumL_nonneg (l := ah r) fun y hy => h.q0 i j y (by rw [hq]; exact List.mem_cons_of_mem _ (ah_sub hy))
  have := h.snap
  have h4 : chanS S i j = S.wy i j + (x + sumL (ah r)) := by
    unfold chanS
    rw [hq, ah, if_neg hx, sumL, if_neg (by simp [hc])]
  omega
theorem SInv.keptLe {n : Nat} {S : St} (h : SInv n S) : sumN n (fun i => S.kp i + sumN n (S.wy i)) ≤ 100 * n := by
  have t := h.snap
  have h1 : ∀ m, m ≤ n → sumN m S.kp ≤ sumN m (preS S) := fun m _ => by
    induction m with
    | zero => exact Int.le_refl _
    | succ m ih =>
      have hm := ih (by omega)
      rw [sumN, sumN]
      have : S.kp m ≤ preS S m := by
        unfold preS
        split
        · exact Int.le_refl _
        · next hr => rw [h.nrc m (by simpa using hr)]; exact h.hv0 m
      omega
  have h2 : ∀ a, sumN n (S.wy a) ≤ sumN n (chanS S a) := fun a => by
    have : ∀ m, sumN m (S.wy a) ≤ sumN m (chanS S a) := fun m => by
      induction m with
      | zero => exact Int.le_refl _
      | succ m ih =>
        rw [sumN, sumN]
        have : S.wy a m ≤ chanS S a m := by
          unfold chanS
          split
          · omega
          · have := sumL_nonneg (l := ah (S.q a m)) fun x hx => h.q0 a m x (ah_sub hx)
            omega
        omega
    exact this n
  have h3 : ∀ m, sumN m (fun a => sumN n (S.wy a)) ≤ sumN m (fun a => sumN n (chanS S a)) := fun m => by
    induction m with
    | zero => exact Int.le_refl _
    | succ m ih => rw [sumN, sumN]; have := h2 m; omega
  rw [sumN_add]
  have := h1 n (Nat.le_refl _)
  have := h3 n
  unfold sum2 at t
  omega
theorem SInv.keptAll {n : Nat} {S : St} (h : SInv n S) (hd : DoneS n S) : sumN n (fun i => S.kp i + sumN n (S.wy i)) = 100 * n := by
  have t := h.snap
  rw [sumN_add, ← t]
  unfold sum2
  rw [sumN_congr (f := S.kp) (g := preS S) (fun i hi => by unfold preS; rw [if_pos (hd.1 i hi)])]
  congr 1
  refine (sumN_congr fun i hi => sumN_congr fun j hj => ?_).symm
  unfold chanS
  by_cases e : i = j
  · subst e; rw [h.qd]; simp [ah, sumL]
  · rw [if_pos (hd.2 i j hi hj e)]; omega

#print axioms SInv.keptAll
end Go.Proofs.Ytejckoffllhjcaa
