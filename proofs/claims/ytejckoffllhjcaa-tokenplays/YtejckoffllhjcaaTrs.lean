/-
  Mutual exclusion by permission (Ricart and Agrawala), as the document says it: the states, the steps, what they keep. Plain.
-/
import Derived.Test.YtejckoffllhjcaaSnp
namespace Go.Proofs.Ytejckoffllhjcaa

/-- The clocks; who is requesting; who is in the critical section; the numbers of requests; how many replies are missing; who owes whom a reply; what is on each channel (0 is a reply). -/
structure TS where
  clk : Nat → Int
  req : Nat → Bool
  ins : Nat → Bool
  num : Nat → Int
  mis : Nat → Int
  owe : Nat → Nat → Bool
  q : Nat → Nat → List Int
theorem TS.eq {S T : TS} (h1 : S.clk = T.clk) (h2 : S.req = T.req) (h3 : S.ins = T.ins) (h4 : S.num = T.num) (h5 : S.mis = T.mis) (h6 : S.owe = T.owe) (h7 : S.q = T.q) : S = T := by
  cases S; cases T; simp_all
def TS.begin : TS := ⟨fun _ => 0, fun _ => false, fun _ => false, fun _ => 0, fun _ => 0, fun _ _ => false, fun _ _ => []⟩
def TS.put (S : TS) (i j : Nat) (x : Int) : TS := { S with q := up2 S.q i j (S.q i j ++ [x]) }
def TS.pop (S : TS) (i j : Nat) : TS := { S with q := up2 S.q i j (S.q i j).tail }
def TS.asks (S : TS) (i : Nat) (x : Int) (m : Nat) : TS := { S with q := fun a b => if a = i ∧ b ≠ i ∧ b < m then S.q a b ++ [x] else S.q a b }
def TS.gives (S : TS) (i m : Nat) : TS := { S with owe := fun a b => if a = i ∧ b < m then false else S.owe a b, q := fun a b => if a = i ∧ b < m ∧ S.owe i b = true then S.q a b ++ [0] else S.q a b }
def TS.enter (S : TS) (i : Nat) : TS := if S.mis i = 0 then { S with req := up1 S.req i false, ins := up1 S.ins i true } else S
def TS.want (n : Nat) (S : TS) (i : Nat) : TS := { S with clk := up1 S.clk i (S.clk i + 1), num := up1 S.num i (S.clk i + 1), req := up1 S.req i true, mis := up1 S.mis i ((n : Int) - 1) }
def TS.request (n : Nat) (S : TS) (i : Nat) : TS := ((S.want n i).asks i (S.clk i + 1) n).enter i
def TS.off (S : TS) (i : Nat) : TS := { S with ins := up1 S.ins i false }
def TS.leave (n : Nat) (S : TS) (i : Nat) : TS := (S.off i).gives i n
def TS.less (S : TS) (i : Nat) : TS := { S with mis := up1 S.mis i (S.mis i - 1) }
def TS.hear (S : TS) (i : Nat) (x : Int) : TS := { S with clk := up1 S.clk i (max (S.clk i) x) }
def TS.later (S : TS) (i j : Nat) (x : Int) : Bool := S.ins i || (S.req i && (decide (S.num i < x) || (decide (S.num i = x) && decide (i < j))))
def TS.defer (S : TS) (i j : Nat) : TS := { S with owe := up2 S.owe i j true }
def TS.answer (S : TS) (i j : Nat) (x : Int) : TS := if S.later i j x = true then (S.hear i x).defer i j else (S.hear i x).put i j 0
def TS.come (S : TS) (i j : Nat) : TS := if (S.q i j).headD 0 = 0 then ((S.pop i j).less j).enter j else (S.pop i j).answer j i ((S.q i j).headD 0)

theorem TS.asks_zero (S : TS) (i : Nat) (x : Int) : S.asks i x 0 = S := TS.eq rfl rfl rfl rfl rfl rfl (by funext a b; simp [TS.asks])
theorem TS.asks_skip (S : TS) (i : Nat) (x : Int) : S.asks i x (i + 1) = S.asks i x i := TS.eq rfl rfl rfl rfl rfl rfl (by
  funext a b
  simp only [TS.asks]
  have : (a = i ∧ b ≠ i ∧ b < i + 1) ↔ (a = i ∧ b ≠ i ∧ b < i) := by omega
  simp only [this])
theorem TS.asks_put (S : TS) {i m : Nat} (x : Int) (h : m ≠ i) : (S.asks i x m).put i m x = S.asks i x (m + 1) := TS.eq rfl rfl rfl rfl rfl rfl (by
  funext a b
  simp only [TS.asks, TS.put, up2]
  by_cases h1 : a = i ∧ b = m
  · obtain ⟨rfl, rfl⟩ := h1
    rw [if_pos ⟨rfl, rfl⟩, if_neg (by omega), if_pos ⟨rfl, h, by omega⟩]
  · rw [if_neg h1]
    have : (a = i ∧ b ≠ i ∧ b < m + 1) ↔ (a = i ∧ b ≠ i ∧ b < m) := by omega
    simp only [this])
theorem TS.gives_zero (S : TS) (i : Nat) : S.gives i 0 = S := TS.eq rfl rfl rfl rfl rfl (by funext a b; simp [TS.gives]) (by funext a b; simp [TS.gives])
theorem TS.gives_no (S : TS) {i m : Nat} (h : S.owe i m = false) : S.gives i (m + 1) = S.gives i m := TS.eq rfl rfl rfl rfl rfl (by
  funext a b
  simp only [TS.gives]
  by_cases e : a = i ∧ b = m
  · rw [e.1, e.2, if_pos ⟨rfl, by omega⟩, if_neg (by omega), h]
  · have : (a = i ∧ b < m + 1) ↔ (a = i ∧ b < m) := by omega
    simp only [this]) (by
  funext a b
  simp only [TS.gives]
  by_cases e : b = m
  · rw [e, if_neg (fun h2 => by rw [h] at h2; cases h2.2.2), if_neg (by omega)]
  · have : (a = i ∧ b < m + 1 ∧ S.owe i b = true) ↔ (a = i ∧ b < m ∧ S.owe i b = true) := by
      constructor
      · intro h; exact ⟨h.1, by omega, h.2.2⟩
      · intro h; exact ⟨h.1, by omega, h.2.2⟩
    simp only [this])
theorem TS.gives_yes (S : TS) {i m : Nat} (h : S.owe i m = true) : (({ S.gives i m with owe := up2 (S.gives i m).owe i m false } : TS).put i m 0) = S.gives i (m + 1) := TS.eq rfl rfl rfl rfl rfl (by
  funext a b
  simp only [TS.gives, TS.put, up2]
  by_cases e : a = i ∧ b = m
  · rw [if_pos e, if_pos ⟨e.1, by omega⟩]
  · rw [if_neg e]
    have : (a = i ∧ b < m + 1) ↔ (a = i ∧ b < m) := by omega
    simp only [this]) (by
  funext a b
  simp only [TS.gives, TS.put, up2]
  by_cases e : a = i ∧ b = m
  · obtain ⟨rfl, rfl⟩ := e
    rw [if_pos ⟨rfl, rfl⟩, if_neg (by omega), if_pos ⟨rfl, by omega, h⟩]
  · rw [if_neg e]
    have : (a = i ∧ b < m + 1 ∧ S.owe i b = true) ↔ (a = i ∧ b < m ∧ S.owe i b = true) := by
      constructor
      · intro h; exact ⟨h.1, by omega, h.2.2⟩
      · intro h; exact ⟨h.1, by omega, h.2.2⟩
    simp only [this])

/-- A step: the state behind it, and the code. -/
def stepT (n : Nat) (S : TS) (m : Mv) : TS × Int :=
  if m.k < 1 ∨ 3 < m.k then (S, 6)
  else if ¬ (0 ≤ m.f ∧ m.f < n) then (S, 2)
  else if m.k = 1 then (if S.req m.f.toNat = true ∨ S.ins m.f.toNat = true then (S, 7) else (S.request n m.f.toNat, 0))
  else if m.k = 3 then (if S.ins m.f.toNat = true then (S.leave n m.f.toNat, 0) else (S, 7))
  else if ¬ (0 ≤ m.t ∧ m.t < n) ∨ m.f = m.t then (S, 2)
  else if S.q m.f.toNat m.t.toNat = [] then (S, 5)
  else (S.come m.f.toNat m.t.toNat, 0)
def tAt (n : Nat) (l : List Mv) : Nat → TS
  | 0 => TS.begin
  | k + 1 => (stepT n (tAt n l k) (mv l k)).1
def codeT (n : Nat) (l : List Mv) (k : Nat) : Int := (stepT n (tAt n l k) (mv l k)).2
theorem codeT_le (n : Nat) (S : TS) (m : Mv) : 0 ≤ (stepT n S m).2 ∧ (stepT n S m).2 ≤ 7 := by
  unfold stepT
  repeat' split
  all_goals exact ⟨by simp, by simp⟩

/-! Counting requests and replies on a channel. -/
def nA : List Int → Int
  | [] => 0
  | x :: r => (if x = 0 then 0 else 1) + nA r
def nZ : List Int → Int
  | [] => 0
  | x :: r => (if x = 0 then 1 else 0) + nZ r
theorem nA_append (l r : List Int) : nA (l ++ r) = nA l + nA r := by
  induction l with
  | nil => simp [nA]
  | cons x l ih => simp only [List.cons_append, nA, ih]; omega
theorem nZ_append (l r : List Int) : nZ (l ++ r) = nZ l + nZ r := by
  induction l with
  | nil => simp [nZ]
  | cons x l ih => simp only [List.cons_append, nZ, ih]; omega
theorem nA_nonneg (l : List Int) : 0 ≤ nA l := by
  induction l with
  | nil => exact Int.le_refl _
  | cons x l ih => simp only [nA]; split <;> omega
theorem nZ_nonneg (l : List Int) : 0 ≤ nZ l := by
  induction l with
  | nil => exact Int.le_refl _
  | cons x l ih => simp only [nZ]; split <;> omega
theorem nAZ (l : List Int) : nA l + nZ l = l.length := by
  induction l with
  | nil => rfl
  | cons x l ih => simp only [nA, nZ, List.length_cons]; split <;> omega
theorem nA_zero {l : List Int} (h : nA l = 0) : ∀ x ∈ l, x = 0 := by
  induction l with
  | nil => intro x hx; cases hx
  | cons y l ih =>
    simp only [nA] at h
    have := nA_nonneg l
    intro x hx
    rcases List.mem_cons.1 hx with e | e
    · rw [e]
      by_cases hy : y = 0
      · exact hy
      · rw [if_neg hy] at h; omega
    · refine ih ?_ x e
      split at h <;> omega
theorem nA_mem {l : List Int} {x : Int} (h : x ∈ l) (h0 : x ≠ 0) : nA l ≠ 0 := fun e => h0 (nA_zero e x h)
theorem nZ_mem {l : List Int} (h : (0 : Int) ∈ l) : nZ l ≠ 0 := by
  induction l with
  | nil => cases h
  | cons y l ih =>
    simp only [nZ]
    have := nZ_nonneg l
    rcases List.mem_cons.1 h with e | e
    · rw [if_pos e.symm]; omega
    · have := ih e
      split <;> omega
def b01 (b : Bool) : Int := if b = true then 1 else 0
theorem b01_ge (b : Bool) : 0 ≤ b01 b := by cases b <;> decide
theorem b01_le (b : Bool) : b01 b ≤ 1 := by cases b <;> decide
theorem b01_zero {b : Bool} : b01 b = 0 ↔ b = false := by cases b <;> decide

/-- What is owed to i by j: its request under way, or deferred, or the reply under way. -/
def TS.own (S : TS) (i j : Nat) : Int := nA (S.q i j) + b01 (S.owe j i) + nZ (S.q j i)
theorem TS.own_ge (S : TS) (i j : Nat) : 0 ≤ S.own i j := by
  have := nA_nonneg (S.q i j); have := b01_ge (S.owe j i); have := nZ_nonneg (S.q j i)
  unfold TS.own; omega
theorem TS.own_zero {S : TS} {i j : Nat} (h : S.own i j = 0) : nA (S.q i j) = 0 ∧ S.owe j i = false ∧ nZ (S.q j i) = 0 := by
  have := nA_nonneg (S.q i j); have := b01_ge (S.owe j i); have := nZ_nonneg (S.q j i)
  unfold TS.own at h
  exact ⟨by omega, b01_zero.1 (by omega), by omega⟩
def TS.act (S : TS) (i : Nat) : Prop := S.req i = true ∨ S.ins i = true
def TS.bef (S : TS) (i j : Nat) : Prop := S.num i < S.num j ∨ (S.num i = S.num j ∧ i < j)
theorem TS.bef_asymm {S : TS} {i j : Nat} (h : S.bef i j) (h' : S.bef j i) : False := by
  unfold TS.bef at h h'
  omega

/-- What holds always, but for one who may be about to enter. -/
structure TInvX (n : Nat) (S : TS) (e : Nat) : Prop where
  own1 : ∀ i j, S.own i j ≤ 1
  ownR : ∀ i j, S.own i j ≠ 0 → S.req i = true
  misE : ∀ i, S.mis i = sumN n (S.own i)
  one : ∀ i, S.req i = true → S.ins i = false
  misR : ∀ i, i ≠ e → S.req i = true → S.mis i ≠ 0
  valQ : ∀ i j x, x ∈ S.q i j → x = 0 ∨ x = S.num i
  clk0 : ∀ i, 0 ≤ S.clk i
  num1 : ∀ i, S.num i ≤ S.clk i
  num0 : ∀ i, S.act i → 0 < S.num i
  heard : ∀ i j, i ≠ j → j < n → S.act i → nA (S.q i j) = 0 → S.num i ≤ S.clk j
  prec : ∀ i j, i ≠ j → S.act i → S.act j → nA (S.q i j) = 0 → S.owe j i = false → S.bef i j
  oweA : ∀ i j, S.owe j i = true → S.act j
  oweP : ∀ i j, S.owe j i = true → S.req j = true → S.bef j i
  lowQ : ∀ i j, S.q i j ≠ [] → i < n ∧ j < n ∧ i ≠ j
  lowO : ∀ i j, S.owe i j = true → i < n ∧ j < n ∧ i ≠ j
  lowA : ∀ i, S.act i → i < n
def TInv (n : Nat) (S : TS) : Prop := TInvX n S n
section
variable {n e : Nat} {S : TS}
theorem TInv.x (h : TInv n S) (e : Nat) : TInvX n S e := { (h : TInvX n S n) with misR := fun i _ hr => h.misR i (fun e => by have := h.lowA i (.inl hr); omega) hr }
theorem TInv.begin (n : Nat) : TInv n TS.begin where
  own1 i j := by simp [TS.own, TS.begin, nA, nZ, b01]
  ownR i j h := by simp [TS.own, TS.begin, nA, nZ, b01] at h
  misE i := by
    rw [sumN_congr (f := fun _ => 0) (fun j _ => by simp [TS.own, TS.begin, nA, nZ, b01]), sumN_const]
    simp [TS.begin]
  one i h := rfl
  misR i _ h := by cases h
  valQ i j x h := by cases h
  clk0 i := Int.le_refl _
  num1 i := Int.le_refl _
  num0 i h := by rcases h with h | h <;> cases h
  heard i j _ _ h := by rcases h with h | h <;> cases h
  prec i j _ h := by rcases h with h | h <;> cases h
  oweA i j h := by cases h
  oweP i j h := by cases h
  lowQ i j h := absurd rfl h
  lowO i j h := by cases h
  lowA i h := by rcases h with h | h <;> cases h
theorem TInvX.mis_le (h : TInvX n S e) (i : Nat) : 0 ≤ S.mis i ∧ S.mis i ≤ n := by
  rw [h.misE]
  refine ⟨sumN_nonneg fun j _ => S.own_ge i j, ?_⟩
  have h1 : ∀ m, sumN m (S.own i) ≤ m := fun m => by
    induction m with
    | zero => exact Int.le_refl _
    | succ m ih => rw [sumN]; have := h.own1 i m; omega
  exact h1 n
theorem TInvX.len_le (h : TInvX n S e) (i j : Nat) : (S.q i j).length ≤ 2 := by
  have h1 := nAZ (S.q i j)
  have h2 := h.own1 i j
  have h3 := h.own1 j i
  have := nA_nonneg (S.q i j); have := b01_ge (S.owe j i); have := nZ_nonneg (S.q j i)
  have := nA_nonneg (S.q j i); have := b01_ge (S.owe i j); have := nZ_nonneg (S.q i j)
  unfold TS.own at h2 h3
  omega
/-- It enters if nothing is missing. -/
theorem TInvX.enter (h : TInvX n S e) (hr : S.req e = true) : TInv n (S.enter e) := by
  unfold TS.enter
  by_cases h0 : S.mis e = 0
  · rw [if_pos h0]
    have hz : ∀ j, j < n → S.own e j = 0 := fun j hj => by
      have h1 := h.misE e
      rw [h0] at h1
      have := le_sumN (f := S.own e) (fun j _ => S.own_ge e j) hj
      have := S.own_ge e j
      omega
    have hz2 : ∀ j, S.own e j = 0 := fun j => by
      by_cases hj : j < n
      · exact hz j hj
      · have h1 : S.q e j = [] := by
          by_cases e1 : S.q e j = []
          · exact e1
          · exact absurd (h.lowQ _ _ e1).2.1 hj
        have h2 : S.q j e = [] := by
          by_cases e1 : S.q j e = []
          · exact e1
          · exact absurd (h.lowQ _ _ e1).1 hj
        have h3 : S.owe j e = false := by
          cases e1 : S.owe j e with
          | false => rfl
          | true => exact absurd (h.lowO _ _ e1).1 hj
        simp [TS.own, h1, h2, h3, nA, nZ, b01]
    have hact : ∀ i, TS.act { S with req := up1 S.req e false, ins := up1 S.ins e true } i → S.act i := fun i hi => by
      by_cases e1 : i = e
      · rw [e1]; exact .inl hr
      · rcases hi with hi | hi
        · left
          have : up1 S.req e false i = true := hi
          rwa [up1_other _ _ e1] at this
        · right
          have : up1 S.ins e true i = true := hi
          rwa [up1_other _ _ e1] at this
    have hact2 : ∀ i, S.act i → TS.act { S with req := up1 S.req e false, ins := up1 S.ins e true } i := fun i hi => by
      by_cases e1 : i = e
      · right
        show up1 S.ins e true i = true
        rw [e1, up1_same]
      · rcases hi with hi | hi
        · left; show up1 S.req e false i = true; rw [up1_other _ _ e1]; exact hi
        · right; show up1 S.ins e true i = true; rw [up1_other _ _ e1]; exact hi
    have hreq : ∀ i, up1 S.req e false i = true → i ≠ e ∧ S.req i = true := fun i hi => by
      by_cases e1 : i = e
      · rw [e1, up1_same] at hi; cases hi
      · rw [up1_other _ _ e1] at hi; exact ⟨e1, hi⟩
    exact {
      own1 := h.own1
      ownR := fun i j ho => by
        have h1 := h.ownR i j ho
        by_cases e1 : i = e
        · rw [e1] at ho; exact absurd (hz2 j) ho
        · show up1 S.req e false i = true
          rw [up1_other _ _ e1]; exact h1
      misE := h.misE
      one := fun i hi => by
        obtain ⟨e1, h1⟩ := hreq i hi
        show up1 S.ins e true i = false
        rw [up1_other _ _ e1]; exact h.one i h1
      misR := fun i _ hi => by
        obtain ⟨e1, h1⟩ := hreq i hi
        exact h.misR i e1 h1
      valQ := h.valQ
      clk0 := h.clk0
      num1 := h.num1
      num0 := fun i hi => h.num0 i (hact i hi)
      heard := fun i j hne hj hi => h.heard i j hne hj (hact i hi)
      prec := fun i j hne hi hj => h.prec i j hne (hact i hi) (hact j hj)
      oweA := fun i j ho => hact2 j (h.oweA i j ho)
      oweP := fun i j ho hj => h.oweP i j ho (hreq j hj).2
      lowQ := h.lowQ
      lowO := h.lowO
      lowA := fun i hi => h.lowA i (hact i hi) }
  · rw [if_neg h0]
    have hm : ∀ i, i ≠ n → S.req i = true → S.mis i ≠ 0 := fun i _ hi => by
      by_cases e1 : i = e
      · rw [e1]; exact h0
      · exact h.misR i e1 hi
    exact { h with misR := hm }
/-- A request is sent to all others. -/
theorem TInv.ask (h : TInv n S) {i : Nat} (hi : i < n) (hr : S.req i = false) (hs : S.ins i = false) : TInvX n ((S.want n i).asks i (S.clk i + 1) n) i := by
  have hx : S.clk i + 1 ≠ 0 := by have := h.clk0 i; omega
  have hoz : ∀ j, S.own i j = 0 := fun j => by
    by_cases e : S.own i j = 0
    · exact e
    · have := h.ownR i j e
      rw [hr] at this; cases this
  have hna : ¬ S.act i := fun ha => by
    rcases ha with ha | ha
    · rw [hr] at ha; cases ha
    · rw [hs] at ha; cases ha
  have hq : ∀ a b, (((S.want n i).asks i (S.clk i + 1) n).q a b) = if a = i ∧ b ≠ i ∧ b < n then S.q a b ++ [S.clk i + 1] else S.q a b := fun _ _ => rfl
  have hA : ∀ a b, nA (((S.want n i).asks i (S.clk i + 1) n).q a b) = nA (S.q a b) + if a = i ∧ b ≠ i ∧ b < n then 1 else 0 := fun a b => by
    rw [hq]
    split
    · rw [nA_append]; simp [nA, hx]
    · omega
  have hZ : ∀ a b, nZ (((S.want n i).asks i (S.clk i + 1) n).q a b) = nZ (S.q a b) := fun a b => by
    rw [hq]
    split
    · rw [nZ_append]; simp [nZ, hx]
    · rfl
  have hown : ∀ a b, ((S.want n i).asks i (S.clk i + 1) n).own a b = S.own a b + if a = i ∧ b ≠ i ∧ b < n then 1 else 0 := fun a b => by
    unfold TS.own
    rw [hA, hZ]
    show nA (S.q a b) + _ + b01 (S.owe b a) + _ = _
    omega
  have hreq : ∀ a, a ≠ i → ((S.want n i).asks i (S.clk i + 1) n).req a = S.req a := fun a ha => up1_other _ _ ha
  have hri : ((S.want n i).asks i (S.clk i + 1) n).req i = true := up1_same _ _ _
  have hact : ∀ a, a ≠ i → (((S.want n i).asks i (S.clk i + 1) n).act a ↔ S.act a) := fun a ha => by
    unfold TS.act
    rw [hreq a ha]
    exact Iff.rfl
  have hnum : ∀ a, a ≠ i → ((S.want n i).asks i (S.clk i + 1) n).num a = S.num a := fun a ha => up1_other _ _ ha
  have hni : ((S.want n i).asks i (S.clk i + 1) n).num i = S.clk i + 1 := up1_same _ _ _
  have hclk : ∀ a, a ≠ i → ((S.want n i).asks i (S.clk i + 1) n).clk a = S.clk a := fun a ha => up1_other _ _ ha
  have hci : ((S.want n i).asks i (S.clk i + 1) n).clk i = S.clk i + 1 := up1_same _ _ _
  exact {
    own1 := fun a b => by
      rw [hown]
      by_cases e : a = i
      · subst e; rw [hoz b]; split <;> omega
      · rw [if_neg (fun h => e h.1)]; have := h.own1 a b; omega
    ownR := fun a b ho => by
      by_cases e : a = i
      · rw [e]; exact hri
      · rw [hown, if_neg (fun h => e h.1)] at ho
        rw [hreq a e]
        exact h.ownR a b (by omega)
    misE := fun a => by
      by_cases e : a = i
      · subst e
        rw [show ((S.want n a).asks a (S.clk a + 1) n).mis a = (n : Int) - 1 from up1_same _ _ _]
        rw [sumN_congr (f := fun b => if b = a then 0 else 1) (fun b hb => by
          rw [hown, hoz b]
          by_cases e2 : b = a
          · rw [if_pos e2, if_neg (fun h => h.2.1 e2)]; rfl
          · rw [if_neg e2, if_pos ⟨rfl, e2, hb⟩]; rfl)]
        rw [sumN_at hi (f := fun _ => 1) (g := fun b => if b = a then 0 else 1) (fun x hx => if_neg hx), sumN_const, if_pos rfl]
        omega
      · rw [show ((S.want n i).asks i (S.clk i + 1) n).mis a = S.mis a from up1_other _ _ e, h.misE]
        exact (sumN_congr fun b _ => by rw [hown, if_neg (fun h => e h.1)]; omega).symm
    one := fun a ha => by
      by_cases e : a = i
      · rw [e]; exact hs
      · rw [hreq a e] at ha; exact h.one a ha
    misR := fun a hne ha => by
      rw [hreq a hne] at ha
      rw [show ((S.want n i).asks i (S.clk i + 1) n).mis a = S.mis a from up1_other _ _ hne]
      exact h.misR a (fun e2 => by have := h.lowA a (.inl ha); omega) ha
    valQ := fun a b x hx' => by
      rw [hq] at hx'
      by_cases e : a = i
      · subst e
        rw [hni]
        have hold : ∀ y, y ∈ S.q a b → y = 0 := fun y hy => nA_zero (TS.own_zero (hoz b)).1 y hy
        split at hx'
        · rcases List.mem_append.1 hx' with h1 | h1
          · exact .inl (hold x h1)
          · exact .inr (List.mem_singleton.1 h1)
        · exact .inl (hold x hx')
      · rw [if_neg (fun h => e h.1)] at hx'
        rw [hnum a e]
        exact h.valQ a b x hx'
    clk0 := fun a => by
      by_cases e : a = i
      · rw [e, hci]; have := h.clk0 i; omega
      · rw [hclk a e]; exact h.clk0 a
    num1 := fun a => by
      by_cases e : a = i
      · rw [e, hci, hni]; exact Int.le_refl _
      · rw [hclk a e, hnum a e]; exact h.num1 a
    num0 := fun a ha => by
      by_cases e : a = i
      · rw [e, hni]; have := h.clk0 i; omega
      · rw [hnum a e]; exact h.num0 a ((hact a e).1 ha)
    heard := fun a b hne hb ha hz => by
      rw [hA] at hz
      by_cases e : a = i
      · subst e
        rw [if_pos ⟨rfl, fun e => hne e.symm, hb⟩] at hz
        have := nA_nonneg (S.q a b)
        omega
      · rw [if_neg (fun h => e h.1)] at hz
        have h1 := h.heard a b hne hb ((hact a e).1 ha) (by omega)
        rw [hnum a e]
        by_cases e2 : b = i
        · rw [e2, hci]; rw [e2] at h1; omega
        · rw [hclk b e2]; exact h1
    prec := fun a b hne ha hb hz ho => by
      have hbn : b < n := by
        by_cases e2 : b = i
        · rw [e2]; exact hi
        · exact h.lowA b ((hact b e2).1 hb)
      rw [hA] at hz
      by_cases e : a = i
      · subst e
        rw [if_pos ⟨rfl, fun e => hne e.symm, hbn⟩] at hz
        have := nA_nonneg (S.q a b)
        omega
      · rw [if_neg (fun h => e h.1)] at hz
        have ha' := (hact a e).1 ha
        by_cases e2 : b = i
        · subst e2
          have h1 := h.heard a b hne hbn ha' (by omega)
          left
          rw [hnum a e, hni]; omega
        · have h1 := h.prec a b hne ha' ((hact b e2).1 hb) (by omega) ho
          unfold TS.bef at h1 ⊢
          rw [hnum a e, hnum b e2]
          exact h1
    oweA := fun a b ho => by
      have h1 := h.oweA a b ho
      by_cases e : b = i
      · rw [e]; exact .inl hri
      · exact (hact b e).2 h1
    oweP := fun a b ho hb => by
      have ho' : S.owe b a = true := ho
      have e : b ≠ i := fun e => hna (by rw [e] at ho'; exact h.oweA a i ho')
      have e2 : a ≠ i := fun e2 => by
        subst e2
        have h1 := (TS.own_zero (hoz b)).2.1
        rw [h1] at ho'; cases ho'
      have h1 := h.oweP a b ho' (by rw [hreq b e] at hb; exact hb)
      unfold TS.bef at h1 ⊢
      rw [hnum a e2, hnum b e]
      exact h1
    lowQ := fun a b hne => by
      rw [hq] at hne
      split at hne
      · next hh => exact ⟨by rw [hh.1]; exact hi, hh.2.2, by rw [hh.1]; exact fun e => hh.2.1 e.symm⟩
      · exact h.lowQ a b hne
    lowO := h.lowO
    lowA := fun a ha => by
      by_cases e : a = i
      · rw [e]; exact hi
      · exact h.lowA a ((hact a e).1 ha) }
theorem TInv.request (h : TInv n S) {i : Nat} (hi : i < n) (hr : S.req i = false) (hs : S.ins i = false) : TInv n (S.request n i) :=
  (h.ask hi hr hs).enter (up1_same _ _ _)
/-- It leaves, and replies to whom it owes a reply. -/
theorem TInv.leave (h : TInv n S) {i : Nat} (hs : S.ins i = true) : TInv n (S.leave n i) := by
  have hr : S.req i = false := by
    cases e : S.req i with
    | false => rfl
    | true => have := h.one i e; rw [hs] at this; cases this
  have hq : ∀ a b, (S.leave n i).q a b = if a = i ∧ b < n ∧ S.owe i b = true then S.q a b ++ [0] else S.q a b := fun _ _ => rfl
  have ho : ∀ a b, (S.leave n i).owe a b = if a = i ∧ b < n then false else S.owe a b := fun _ _ => rfl
  have hA : ∀ a b, nA ((S.leave n i).q a b) = nA (S.q a b) := fun a b => by
    rw [hq]
    split
    · rw [nA_append]; simp [nA]
    · rfl
  have hZ : ∀ a b, nZ ((S.leave n i).q a b) = nZ (S.q a b) + if a = i ∧ b < n ∧ S.owe i b = true then 1 else 0 := fun a b => by
    rw [hq]
    split
    · rw [nZ_append]; simp [nZ]
    · omega
  have hown : ∀ a b, (S.leave n i).own a b = S.own a b := fun a b => by
    unfold TS.own
    rw [hA, hZ, ho]
    by_cases e : b = i
    · subst e
      cases e2 : S.owe b a with
      | false => simp [b01]
      | true =>
        have := (h.lowO _ _ e2).2.1
        simp [b01, this]
        omega
    · rw [if_neg (fun h => e h.1), if_neg (fun h => e h.1)]; omega
  have hoT : ∀ a b, (S.leave n i).owe a b = true → a ≠ i ∧ S.owe a b = true := fun a b h1 => by
    rw [ho] at h1
    by_cases e : a = i
    · by_cases e2 : b < n
      · rw [if_pos ⟨e, e2⟩] at h1; cases h1
      · rw [if_neg (fun h => e2 h.2)] at h1
        exact absurd (h.lowO _ _ h1).2.1 e2
    · rw [if_neg (fun h => e h.1)] at h1; exact ⟨e, h1⟩
  have hact : ∀ a, (S.leave n i).act a → a ≠ i ∧ S.act a := fun a ha => by
    by_cases e : a = i
    · subst e
      rcases ha with ha | ha
      · have : S.req a = true := ha
        rw [hr] at this; cases this
      · have : up1 S.ins a false a = true := ha
        rw [up1_same] at this; cases this
    · rcases ha with ha | ha
      · exact ⟨e, .inl ha⟩
      · have : up1 S.ins i false a = true := ha
        rw [up1_other _ _ e] at this
        exact ⟨e, .inr this⟩
  have hact2 : ∀ a, a ≠ i → S.act a → (S.leave n i).act a := fun a e ha => by
    rcases ha with ha | ha
    · exact .inl ha
    · right
      show up1 S.ins i false a = true
      rw [up1_other _ _ e]; exact ha
  exact {
    own1 := fun a b => by rw [hown]; exact h.own1 a b
    ownR := fun a b hne => by rw [hown] at hne; exact h.ownR a b hne
    misE := fun a => (h.misE a).trans (sumN_congr fun b _ => hown a b).symm
    one := fun a ha => by
      have h1 := h.one a ha
      show up1 S.ins i false a = false
      by_cases e : a = i
      · rw [e, up1_same]
      · rw [up1_other _ _ e]; exact h1
    misR := h.misR
    valQ := fun a b x hx => by
      rw [hq] at hx
      split at hx
      · rcases List.mem_append.1 hx with h1 | h1
        · exact h.valQ a b x h1
        · exact .inl (List.mem_singleton.1 h1)
      · exact h.valQ a b x hx
    clk0 := h.clk0
    num1 := h.num1
    num0 := fun a ha => h.num0 a (hact a ha).2
    heard := fun a b hne hb ha hz => h.heard a b hne hb (hact a ha).2 (by rw [hA] at hz; exact hz)
    prec := fun a b hne ha hb hz hoo => by
      have hb' := hact b hb
      rw [ho, if_neg (fun h => hb'.1 h.1)] at hoo
      exact h.prec a b hne (hact a ha).2 hb'.2 (by rw [hA] at hz; exact hz) hoo
    oweA := fun a b h1 => by
      obtain ⟨e, h2⟩ := hoT b a h1
      exact hact2 b e (h.oweA a b h2)
    oweP := fun a b h1 hb => h.oweP a b (hoT b a h1).2 hb
    lowQ := fun a b hne => by
      rw [hq] at hne
      split at hne
      · next hh => have := h.lowO _ _ hh.2.2; rw [hh.1]; exact this
      · exact h.lowQ a b hne
    lowO := fun a b h1 => h.lowO a b (hoT a b h1).2
    lowA := fun a ha => h.lowA a (hact a ha).2 }
/-- A reply is received. -/
theorem TInv.reply (h : TInv n S) {i j : Nat} {r : List Int} (hq0 : S.q i j = 0 :: r) : TInvX n ((S.pop i j).less j) j ∧ S.req j = true := by
  obtain ⟨hi, hj, hne⟩ := h.lowQ i j (by rw [hq0]; simp)
  have hoj : S.own j i ≠ 0 := by
    have := nA_nonneg (S.q j i); have := b01_ge (S.owe i j); have := nZ_nonneg r
    unfold TS.own
    rw [hq0]
    simp only [nZ, if_pos]
    omega
  have hr := h.ownR j i hoj
  refine ⟨?_, hr⟩
  have hq : ∀ a b, ((S.pop i j).less j).q a b = if a = i ∧ b = j then r else S.q a b := fun a b => by
    show up2 S.q i j (S.q i j).tail a b = _
    by_cases e : a = i ∧ b = j
    · rw [e.1, e.2, up2_same, hq0, if_pos ⟨rfl, rfl⟩]; rfl
    · rw [up2_other _ _ e, if_neg e]
  have hA : ∀ a b, nA (((S.pop i j).less j).q a b) = nA (S.q a b) := fun a b => by
    rw [hq]
    split
    · next e => rw [e.1, e.2, hq0]; simp [nA]
    · rfl
  have hZ : ∀ a b, nZ (((S.pop i j).less j).q a b) = nZ (S.q a b) - if a = i ∧ b = j then 1 else 0 := fun a b => by
    rw [hq]
    split
    · next e => rw [e.1, e.2, hq0]; simp only [nZ, if_pos]; omega
    · omega
  have hown : ∀ a b, ((S.pop i j).less j).own a b = S.own a b - if b = i ∧ a = j then 1 else 0 := fun a b => by
    unfold TS.own
    rw [hA, hZ]
    show nA (S.q a b) + b01 (S.owe b a) + _ = _
    omega
  exact {
    own1 := fun a b => by rw [hown]; have := h.own1 a b; split <;> omega
    ownR := fun a b ho => by
      rw [hown] at ho
      by_cases e : b = i ∧ a = j
      · rw [e.2]; exact hr
      · rw [if_neg e] at ho; exact h.ownR a b (by omega)
    misE := fun a => by
      show up1 S.mis j (S.mis j - 1) a = _
      by_cases e : a = j
      · subst e
        rw [up1_same, h.misE, sumN_at hi (f := S.own a) (g := ((S.pop i a).less a).own a) (fun b hb => by rw [hown, if_neg (fun h => hb h.1)]; omega), hown, if_pos ⟨rfl, rfl⟩]
        omega
      · rw [up1_other _ _ e, h.misE]
        exact (sumN_congr fun b _ => by rw [hown, if_neg (fun h => e h.2)]; omega).symm
    one := h.one
    misR := fun a hna ha => by
      show up1 S.mis j (S.mis j - 1) a ≠ 0
      rw [up1_other _ _ hna]
      exact h.misR a (fun e => by have := h.lowA a (.inl ha); omega) ha
    valQ := fun a b x hx => by
      rw [hq] at hx
      split at hx
      · next e => rw [e.1, ]; exact h.valQ i j x (by rw [hq0]; exact List.mem_cons_of_mem _ hx)
      · exact h.valQ a b x hx
    clk0 := h.clk0
    num1 := h.num1
    num0 := h.num0
    heard := fun a b hab hb ha hz => h.heard a b hab hb ha (by rw [hA] at hz; exact hz)
    prec := fun a b hab ha hb hz ho => h.prec a b hab ha hb (by rw [hA] at hz; exact hz) ho
    oweA := h.oweA
    oweP := h.oweP
    lowQ := fun a b hab => by
      rw [hq] at hab
      split at hab
      · next e => rw [e.1, e.2]; exact ⟨hi, hj, hne⟩
      · exact h.lowQ a b hab
    lowO := h.lowO
    lowA := h.lowA }
/-- A request is received. -/
theorem TInv.asked (h : TInv n S) {i j : Nat} {x : Int} {r : List Int} (hq0 : S.q i j = x :: r) (hx : x ≠ 0) : TInv n ((S.pop i j).answer j i x) ∧ x = S.num i ∧ S.req i = true := by
  obtain ⟨hi, hj, hne⟩ := h.lowQ i j (by rw [hq0]; simp)
  have hxv : x = S.num i := by
    rcases h.valQ i j x (by rw [hq0]; simp) with e | e
    · exact absurd e hx
    · exact e
  have hAij : nA (S.q i j) = 1 + nA r := by rw [hq0]; simp [nA, hx]
  have hZij : nZ (S.q i j) = nZ r := by rw [hq0]; simp [nZ, hx]
  have hown1 := h.own1 i j
  have hAr := nA_nonneg r
  have hZ0 := nZ_nonneg (S.q j i)
  have hB0 := b01_ge (S.owe j i)
  have hoij : S.own i j = 1 ∧ nA r = 0 ∧ S.owe j i = false ∧ nZ (S.q j i) = 0 := by
    have e : S.own i j = 1 + nA r + b01 (S.owe j i) + nZ (S.q j i) := by unfold TS.own; rw [hAij]
    exact ⟨by omega, by omega, b01_zero.1 (by omega), by omega⟩
  have hr := h.ownR i j (by omega)
  refine ⟨?_, hxv, hr⟩
  have hai : S.act i := .inl hr
  have hlat : (S.pop i j).later j i x = S.later j i x := rfl
  have hclkge : ∀ a, S.clk a ≤ up1 S.clk j (max (S.clk j) x) a := fun a => by
    by_cases e : a = j
    · rw [e, up1_same]; omega
    · rw [up1_other _ _ e]; exact Int.le_refl _
  have hheard : ∀ a b, a ≠ b → b < n → S.act a → nA (S.q a b) = 0 ∨ (a = i ∧ b = j) → S.num a ≤ up1 S.clk j (max (S.clk j) x) b := fun a b hab hb ha hc => by
    rcases hc with hc | ⟨e1, e2⟩
    · have := h.heard a b hab hb ha hc
      have := hclkge b
      omega
    · rw [e1, e2, up1_same, ← hxv]; omega
  have hz' : ∀ a b, ¬ (a = i ∧ b = j) → up2 S.q i j r a b = S.q a b := fun a b e => up2_other _ _ e
  unfold TS.answer
  rw [hlat]
  by_cases hl : S.later j i x = true
  · rw [if_pos hl]
    have hq : ∀ a b, (((S.pop i j).hear j x).defer j i).q a b = if a = i ∧ b = j then r else S.q a b := fun a b => by
      show up2 S.q i j (S.q i j).tail a b = _
      by_cases e : a = i ∧ b = j
      · rw [e.1, e.2, up2_same, hq0, if_pos ⟨rfl, rfl⟩]; rfl
      · rw [up2_other _ _ e, if_neg e]
    have ho : ∀ a b, (((S.pop i j).hear j x).defer j i).owe a b = if a = j ∧ b = i then true else S.owe a b := fun a b => rfl
    have hA : ∀ a b, nA ((((S.pop i j).hear j x).defer j i).q a b) = nA (S.q a b) - if a = i ∧ b = j then 1 else 0 := fun a b => by
      rw [hq]
      split
      · next e => rw [e.1, e.2, hAij]; omega
      · omega
    have hZ : ∀ a b, nZ ((((S.pop i j).hear j x).defer j i).q a b) = nZ (S.q a b) := fun a b => by
      rw [hq]
      split
      · next e => rw [e.1, e.2, hZij]
      · rfl
    have hown : ∀ a b, (((S.pop i j).hear j x).defer j i).own a b = S.own a b := fun a b => by
      unfold TS.own
      rw [hA, hZ, ho]
      by_cases e : a = i ∧ b = j
      · obtain ⟨rfl, rfl⟩ := e
        rw [if_pos ⟨rfl, rfl⟩, if_pos ⟨rfl, rfl⟩, hoij.2.2.1]
        simp [b01]
      · rw [if_neg e, if_neg (fun h => e ⟨h.2, h.1⟩)]; omega
    have hjact : S.act j := by
      unfold TS.later at hl
      simp only [Bool.or_eq_true, Bool.and_eq_true] at hl
      rcases hl with hl | hl
      · exact .inr hl
      · exact .inl hl.1
    exact {
      own1 := fun a b => by rw [hown]; exact h.own1 a b
      ownR := fun a b hne => by rw [hown] at hne; exact h.ownR a b hne
      misE := fun a => (h.misE a).trans (sumN_congr fun b _ => hown a b).symm
      one := h.one
      misR := h.misR
      valQ := fun a b y hy => by
        rw [hq] at hy
        split at hy
        · next e => rw [e.1]; exact h.valQ i j y (by rw [hq0]; exact List.mem_cons_of_mem _ hy)
        · exact h.valQ a b y hy
      clk0 := fun a => Int.le_trans (h.clk0 a) (hclkge a)
      num1 := fun a => Int.le_trans (h.num1 a) (hclkge a)
      num0 := h.num0
      heard := fun a b hab hb ha hz => hheard a b hab hb ha (by
        rw [hA] at hz
        by_cases e : a = i ∧ b = j
        · exact .inr e
        · rw [if_neg e] at hz; exact .inl (by omega))
      prec := fun a b hab ha hb hz hoo => by
        rw [ho] at hoo
        rw [hA] at hz
        by_cases e : a = i ∧ b = j
        · rw [if_pos ⟨e.2, e.1⟩] at hoo; cases hoo
        · rw [if_neg (fun h => e ⟨h.2, h.1⟩)] at hoo
          rw [if_neg e] at hz
          exact h.prec a b hab ha hb (by omega) hoo
      oweA := fun a b h1 => by
        rw [ho] at h1
        by_cases e : b = j ∧ a = i
        · rw [e.1]; exact hjact
        · rw [if_neg e] at h1; exact h.oweA a b h1
      oweP := fun a b h1 hb => by
        rw [ho] at h1
        by_cases e : b = j ∧ a = i
        · obtain ⟨rfl, rfl⟩ := e
          have hb' : S.req b = true := hb
          have hs := h.one b hb'
          unfold TS.later at hl
          rw [hs, hb'] at hl
          simp only [Bool.false_or, Bool.true_and, Bool.or_eq_true, Bool.and_eq_true, decide_eq_true_iff] at hl
          show S.num b < S.num a ∨ (S.num b = S.num a ∧ b < a)
          omega
        · rw [if_neg e] at h1; exact h.oweP a b h1 hb
      lowQ := fun a b hab => by
        rw [hq] at hab
        split at hab
        · next e => rw [e.1, e.2]; exact ⟨hi, hj, hne⟩
        · exact h.lowQ a b hab
      lowO := fun a b h1 => by
        rw [ho] at h1
        by_cases e : a = j ∧ b = i
        · rw [e.1, e.2]; exact ⟨hj, hi, fun e => hne e.symm⟩
        · rw [if_neg e] at h1; exact h.lowO a b h1
      lowA := h.lowA }
  · rw [if_neg hl]
    have hji : ¬ (j = i ∧ i = j) := fun e => hne e.2
    have hq : ∀ a b, (((S.pop i j).hear j x).put j i 0).q a b = if a = i ∧ b = j then r else if a = j ∧ b = i then S.q j i ++ [0] else S.q a b := fun a b => by
      show up2 (up2 S.q i j (S.q i j).tail) j i (up2 S.q i j (S.q i j).tail j i ++ [0]) a b = _
      by_cases e : a = j ∧ b = i
      · rw [if_neg (fun e2 => hne (e2.1.symm.trans e.1)), if_pos e, e.1, e.2, up2_same, up2_other _ _ (fun e2 => hne e2.1.symm)]
      · rw [up2_other _ _ e, if_neg e]
        by_cases e2 : a = i ∧ b = j
        · rw [if_pos e2, e2.1, e2.2, up2_same, hq0]; rfl
        · rw [if_neg e2, up2_other _ _ e2]
    have hA : ∀ a b, nA ((((S.pop i j).hear j x).put j i 0).q a b) = nA (S.q a b) - if a = i ∧ b = j then 1 else 0 := fun a b => by
      rw [hq]
      by_cases e : a = i ∧ b = j
      · rw [if_pos e, if_pos e, e.1, e.2, hAij]; omega
      · rw [if_neg e, if_neg e]
        by_cases e2 : a = j ∧ b = i
        · rw [if_pos e2, e2.1, e2.2, nA_append]; simp [nA]
        · rw [if_neg e2]; omega
    have hZ : ∀ a b, nZ ((((S.pop i j).hear j x).put j i 0).q a b) = nZ (S.q a b) + if a = j ∧ b = i then 1 else 0 := fun a b => by
      rw [hq]
      by_cases e : a = i ∧ b = j
      · rw [if_pos e, if_neg (fun e2 => hne (e.1.symm.trans e2.1)), e.1, e.2, hZij]; omega
      · rw [if_neg e]
        by_cases e2 : a = j ∧ b = i
        · rw [if_pos e2, if_pos e2, e2.1, e2.2, nZ_append]; simp [nZ]
        · rw [if_neg e2, if_neg e2]; omega
    have hown : ∀ a b, (((S.pop i j).hear j x).put j i 0).own a b = S.own a b := fun a b => by
      unfold TS.own
      rw [hA, hZ]
      show nA (S.q a b) - _ + b01 (S.owe b a) + _ = _
      by_cases e : a = i ∧ b = j
      · rw [if_pos e, if_pos ⟨e.2, e.1⟩]; omega
      · rw [if_neg e, if_neg (fun h => e ⟨h.2, h.1⟩)]; omega
    exact {
      own1 := fun a b => by rw [hown]; exact h.own1 a b
      ownR := fun a b hne => by rw [hown] at hne; exact h.ownR a b hne
      misE := fun a => (h.misE a).trans (sumN_congr fun b _ => hown a b).symm
      one := h.one
      misR := h.misR
      valQ := fun a b y hy => by
        rw [hq] at hy
        by_cases e : a = i ∧ b = j
        · rw [if_pos e] at hy
          rw [e.1]; exact h.valQ i j y (by rw [hq0]; exact List.mem_cons_of_mem _ hy)
        · rw [if_neg e] at hy
          by_cases e2 : a = j ∧ b = i
          · rw [if_pos e2] at hy
            rcases List.mem_append.1 hy with h1 | h1
            · rw [e2.1]; exact h.valQ j i y h1
            · exact .inl (List.mem_singleton.1 h1)
          · rw [if_neg e2] at hy; exact h.valQ a b y hy
      clk0 := fun a => Int.le_trans (h.clk0 a) (hclkge a)
      num1 := fun a => Int.le_trans (h.num1 a) (hclkge a)
      num0 := h.num0
      heard := fun a b hab hb ha hz => hheard a b hab hb ha (by
        rw [hA] at hz
        by_cases e : a = i ∧ b = j
        · exact .inr e
        · rw [if_neg e] at hz; exact .inl (by omega))
      prec := fun a b hab ha hb hz hoo => by
        rw [hA] at hz
        by_cases e : a = i ∧ b = j
        · obtain ⟨rfl, rfl⟩ := e
          have hb' : S.act b := hb
          unfold TS.later at hl
          rcases hb' with hb' | hb'
          · rw [hb'] at hl
            simp only [Bool.true_and, Bool.or_eq_true, Bool.and_eq_true, decide_eq_true_iff, not_or, not_and] at hl
            have h2 := hl.2.1
            have h3 := hl.2.2
            show S.num a < S.num b ∨ (S.num a = S.num b ∧ a < b)
            rw [hxv] at h2 h3
            omega
          · rw [hb'] at hl
            exact absurd (by simp) hl
        · rw [if_neg e] at hz
          exact h.prec a b hab ha hb (by omega) hoo
      oweA := h.oweA
      oweP := h.oweP
      lowQ := fun a b hab => by
        rw [hq] at hab
        by_cases e : a = i ∧ b = j
        · rw [e.1, e.2]; exact ⟨hi, hj, hne⟩
        · rw [if_neg e] at hab
          by_cases e2 : a = j ∧ b = i
          · rw [e2.1, e2.2]; exact ⟨hj, hi, fun e => hne e.symm⟩
          · rw [if_neg e2] at hab; exact h.lowQ a b hab
      lowO := h.lowO
      lowA := h.lowA }
theorem TInv.come (h : TInv n S) {i j : Nat} (hq : S.q i j ≠ []) : TInv n (S.come i j) := by
  unfold TS.come
  cases e : S.q i j with
  | nil => exact absurd e hq
  | cons x r =>
    show TInv n (if x = 0 then _ else _)
    by_cases hx : x = 0
    · rw [if_pos hx]
      subst hx
      obtain ⟨h1, h2⟩ := h.reply e
      exact h1.enter h2
    · rw [if_neg hx]
      exact (h.asked e hx).1
theorem TInv.step (h : TInv n S) (m : Mv) : TInv n (stepT n S m).1 := by
  unfold stepT
  split
  · exact h
  split
  · exact h
  next h1 =>
  split
  · split
    · exact h
    · next h2 => exact h.request (by omega) (by simpa using fun e => h2 (.inl e)) (by simpa using fun e => h2 (.inr e))
  split
  · split
    · next h2 => exact h.leave h2
    · exact h
  split
  · exact h
  split
  · exact h
  · next h2 => exact h.come h2
theorem TInv.at_ (n : Nat) (l : List Mv) (k : Nat) : TInv n (tAt n l k) := by
  induction k with
  | zero => exact TInv.begin n
  | succ k ih => exact ih.step _
end

#print axioms TInv.at_
end Go.Proofs.Ytejckoffllhjcaa
