/-
  Words for memory: the processes and channels of package snap.
-/
import Derived.Test.YtebighmddimnkaaSnp
import Derived.Test.YtebighmddimnkaaQue
import Derived.Test.YtebighmddimnkaaMapP
namespace Go.Proofs.Ytebighmddimnkaa
open Go.RowKit Go.Maps

theorem Row.ne {w : World} {a b : Nat} {t t' : TypeId} {xs ys : List Value} (h : Row w a t xs) (h' : Row w b t' ys) (hne : t ≠ t') : a ≠ b := by
  intro e
  subst e
  unfold Row at h h'
  rw [h] at h'
  injection h' with h'
  injection h' with _ h'
  exact hne h'

/-- Block P holds what the processes have. -/
def Prc (w : World) (P n : Nat) (S : St) : Prop :=
  ∃ xs, Row w P 61 xs ∧ xs.length = n * 3 ∧ ∀ i, i < n → xs[i * 3]? = some (.int .i64 (S.hv i)) ∧ xs[i * 3 + 1]? = some (.bool (S.rc i)) ∧ xs[i * 3 + 2]? = some (.int .i64 (S.kp i))
section
variable {w w' : World} {P n : Nat} {S T : St}
theorem Prc.lt (h : Prc w P n S) : P < w.heap.size := by obtain ⟨_, h, _⟩ := h; exact h.lt
theorem Prc.block (h : Prc w P n S) (hb : w'.heap[P]? = w.heap[P]?) : Prc w' P n S := by obtain ⟨xs, h1, h2⟩ := h; exact ⟨xs, h1.block hb, h2⟩
theorem Prc.frozen (h : Prc w P n S) (i : Nat) : w.frozen? ⟨P, i, none⟩ = false := by obtain ⟨_, h1, _⟩ := h; exact h1.frozen i
theorem Prc.cells (h : Prc w P n S) {i : Nat} (hi : i < n) : w.cell? ⟨P, i * 3, none⟩ = some (.int .i64 (S.hv i)) ∧ w.cell? ⟨P, i * 3 + 1, none⟩ = some (.bool (S.rc i)) ∧ w.cell? ⟨P, i * 3 + 2, none⟩ = some (.int .i64 (S.kp i)) := by
  obtain ⟨xs, h1, h2, h3⟩ := h
  obtain ⟨a, b, c⟩ := h3 i hi
  have key : ∀ k v, xs[k]? = some v → w.cell? ⟨P, k, none⟩ = some v := fun k v hk => by
    rw [cell_of_row w P k xs.toArray 61 (0, 0) h1]
    simpa using hk
  exact ⟨key _ _ a, key _ _ b, key _ _ c⟩
theorem Prc.congr (h : Prc w P n S) (e1 : ∀ i, i < n → T.hv i = S.hv i) (e2 : ∀ i, i < n → T.rc i = S.rc i) (e3 : ∀ i, i < n → T.kp i = S.kp i) : Prc w P n T := by
  obtain ⟨xs, h1, h2, h3⟩ := h
  exact ⟨xs, h1, h2, fun i hi => by rw [e1 i hi, e2 i hi, e3 i hi]; exact h3 i hi⟩
theorem Prc.set (h : Prc w P n S) (k : Nat) (v : Value) (hk : k < n * 3)
    (hT : ∀ i, i < n → (if k = i * 3 then v else .int .i64 (S.hv i)) = .int .i64 (T.hv i) ∧ (if k = i * 3 + 1 then v else .bool (S.rc i)) = .bool (T.rc i) ∧ (if k = i * 3 + 2 then v else .int .i64 (S.kp i)) = .int .i64 (T.kp i)) : Prc (w.setCell ⟨P, k, none⟩ v) P n T := by
  obtain ⟨xs, h1, h2, h3⟩ := h
  refine ⟨_, h1.set k v, by rw [List.length_set]; exact h2, fun i hi => ?_⟩
  obtain ⟨a, b, c⟩ := h3 i hi
  obtain ⟨ta, tb, tc⟩ := hT i hi
  have key : ∀ m u u', xs[m]? = some u → (if k = m then v else u) = u' → (xs.set k v)[m]? = some u' := fun m u u' hm he => by
    by_cases e : k = m
    · subst e
      rw [if_pos rfl] at he
      rw [List.getElem?_set_self (by omega), he]
    · rw [if_neg e] at he
      rw [List.getElem?_set_ne e, hm, he]
  exact ⟨key _ _ _ a ta, key _ _ _ b tb, key _ _ _ c tc⟩
end

/-- Is (i, j) a channel? -/
def Chl (n i j : Nat) : Prop := i < n ∧ j < n ∧ i ≠ j
def chF (n : Nat) (ch : Nat → Nat → Nat) : Nat → Nat → Option Value := fun i j => if i < n ∧ j < n ∧ i ≠ j then some (.pointer (some ⟨ch i j, 0, none⟩)) else none
theorem chF_yes {n i j : Nat} (ch : Nat → Nat → Nat) (h : Chl n i j) : chF n ch i j = some (.pointer (some ⟨ch i j, 0, none⟩)) := if_pos h
theorem chF_inv {n i j : Nat} {ch : Nat → Nat → Nat} {v : Value} (h : chF n ch i j = some v) : Chl n i j ∧ v = .pointer (some ⟨ch i j, 0, none⟩) := by
  unfold chF at h
  split at h
  · next hc => injection h with h; exact ⟨hc, h.symm⟩
  · cases h

structure SysAt (w : World) (B s n P M : Nat) (ch : Nat → Nat → Nat) (vs : Nat → Nat → Value) (S : St) : Prop where
  sys : Row w s 59 [.slice (some ⟨P, 0, none⟩) n n, .map (some M)]
  prs : Prc w P n S
  map : MapP w M 100 (chF n ch)
  chn : ∀ i j, Chl n i j → Row w (ch i j) 64 [vs i j, .bool (S.cl i j), .int .i64 (S.wy i j)]
  que : ∀ i j, Chl n i j → Que w B (vs i j) (S.q i j)
  inj : ∀ i j a b, Chl n i j → Chl n a b → ¬ (i = a ∧ j = b) → ch i j ≠ ch a b
  apart : ∀ i j a b, Chl n i j → Chl n a b → ¬ (i = a ∧ j = b) → (vs i j).ownBlock = none ∨ (vs i j).ownBlock ≠ (vs a b).ownBlock
  lowS : B ≤ s
  lowP : B ≤ P
  lowM : B ≤ M
  lowC : ∀ i j, Chl n i j → B ≤ ch i j
def Sys (w : World) (B s n P M : Nat) (ch : Nat → Nat → Nat) (S : St) : Prop := ∃ vs, SysAt w B s n P M ch vs S
section
variable {w w' : World} {B s n P M : Nat} {ch : Nat → Nat → Nat} {vs : Nat → Nat → Value} {S T : St}
theorem SysAt.cells (h : SysAt w B s n P M ch vs S) : w.cell? ⟨s, 0, none⟩ = some (.slice (some ⟨P, 0, none⟩) n n) ∧ w.cell? ⟨s, 1, none⟩ = some (.map (some M)) := ⟨h.sys.cell (by simp), h.sys.cell (i := 1) (by simp)⟩
theorem SysAt.chan (h : SysAt w B s n P M ch vs S) {i j : Nat} (hc : Chl n i j) : w.cell? ⟨ch i j, 0, none⟩ = some (vs i j) ∧ w.cell? ⟨ch i j, 1, none⟩ = some (.bool (S.cl i j)) ∧ w.cell? ⟨ch i j, 2, none⟩ = some (.int .i64 (S.wy i j)) :=
  ⟨(h.chn i j hc).cell (by simp), (h.chn i j hc).cell (i := 1) (by simp), (h.chn i j hc).cell (i := 2) (by simp)⟩
theorem SysAt.sz (h : SysAt w B s n P M ch vs S) : B ≤ w.heap.size := Nat.le_of_lt (Nat.lt_of_le_of_lt h.lowP h.prs.lt)
/-- All blocks of it are as they were. -/
theorem SysAt.blocks (h : SysAt w B s n P M ch vs S) (hb : ∀ g, B ≤ g → g < w.heap.size → w'.heap[g]? = w.heap[g]?) : SysAt w' B s n P M ch vs S :=
  ⟨h.sys.block (hb s h.lowS h.sys.lt), h.prs.block (hb P h.lowP h.prs.lt), h.map.block (hb M h.lowM h.map.lt), fun i j hc => (h.chn i j hc).block (hb _ (h.lowC i j hc) (h.chn i j hc).lt),
   fun i j hc => (h.que i j hc).block fun g e => hb g ((h.que i j hc).lt e).1 ((h.que i j hc).lt e).2, h.inj, h.apart, h.lowS, h.lowP, h.lowM, h.lowC⟩
theorem SysAt.alloc (h : SysAt w B s n P M ch vs S) (o : Obj) : SysAt (w.alloc o) B s n P M ch vs S := h.blocks fun g _ hg => Below.heap_alloc w o g hg
theorem SysAt.below (h : SysAt w B s n P M ch vs S) (hb : Below w.heap.size w w') : SysAt w' B s n P M ch vs S := h.blocks fun g _ hg => hb.block g hg
theorem Sys.alloc (h : Sys w B s n P M ch S) (o : Obj) : Sys (w.alloc o) B s n P M ch S := by obtain ⟨vs, h⟩ := h; exact ⟨vs, h.alloc o⟩
theorem Sys.below (h : Sys w B s n P M ch S) (hb : Below w.heap.size w w') : Sys w' B s n P M ch S := by obtain ⟨vs, h⟩ := h; exact ⟨vs, h.below hb⟩
/-- A store into block P. -/
theorem SysAt.setP (h : SysAt w B s n P M ch vs S) (k : Nat) (v : Value) (hp : Prc (w.setCell ⟨P, k, none⟩ v) P n T) (hq : T.q = S.q) (hcl : T.cl = S.cl) (hwy : T.wy = S.wy) : SysAt (w.setCell ⟨P, k, none⟩ v) B s n P M ch vs T := by
  obtain ⟨xs, hP, _⟩ := h.prs
  have hsP : s ≠ P := h.sys.ne hP (by decide)
  have hMP : M ≠ P := h.map.ne_row hP
  have hcP : ∀ i j, Chl n i j → ch i j ≠ P := fun i j hc => (h.chn i j hc).ne hP (by decide)
  exact ⟨h.sys.far hsP v, hp, h.map.far hMP v, fun i j hc => by rw [hcl, hwy]; exact (h.chn i j hc).far (hcP i j hc) v, fun i j hc => by rw [hq]; exact (h.que i j hc).far ((h.que i j hc).ne_row hP (by decide)) v,
    h.inj, h.apart, h.lowS, h.lowP, h.lowM, h.lowC⟩
theorem SysAt.setHv (h : SysAt w B s n P M ch vs S) {i : Nat} (hi : i < n) (x : Int) : SysAt (w.setCell ⟨P, i * 3, none⟩ (.int .i64 x)) B s n P M ch vs { S with hv := up1 S.hv i x } := by
  refine h.setP _ _ (h.prs.set _ _ (by omega) fun a ha => ?_) rfl rfl rfl
  refine ⟨?_, ?_, ?_⟩
  · by_cases e : a = i
    · subst e; rw [if_pos rfl]; simp [up1]
    · rw [if_neg (by omega)]; simp [up1, e]
  · rw [if_neg (by omega)]
  · rw [if_neg (by omega)]
theorem SysAt.setRc (h : SysAt w B s n P M ch vs S) {i : Nat} (hi : i < n) (x : Bool) : SysAt (w.setCell ⟨P, i * 3 + 1, none⟩ (.bool x)) B s n P M ch vs { S with rc := up1 S.rc i x } := by
  refine h.setP _ _ (h.prs.set _ _ (by omega) fun a ha => ?_) rfl rfl rfl
  refine ⟨?_, ?_, ?_⟩
  · rw [if_neg (by omega)]
  · by_cases e : a = i
    · subst e; rw [if_pos rfl]; simp [up1]
    · rw [if_neg (by omega)]; simp [up1, e]
  · rw [if_neg (by omega)]
theorem SysAt.setKp (h : SysAt w B s n P M ch vs S) {i : Nat} (hi : i < n) (x : Int) : SysAt (w.setCell ⟨P, i * 3 + 2, none⟩ (.int .i64 x)) B s n P M ch vs { S with kp := up1 S.kp i x } := by
  refine h.setP _ _ (h.prs.set _ _ (by omega) fun a ha => ?_) rfl rfl rfl
  refine ⟨?_, ?_, ?_⟩
  · rw [if_neg (by omega)]
  · rw [if_neg (by omega)]
  · by_cases e : a = i
    · subst e; rw [if_pos rfl]; simp [up1]
    · rw [if_neg (by omega)]; simp [up1, e]
/-- A store into a channel's block. -/
theorem SysAt.setC (h : SysAt w B s n P M ch vs S) {i j : Nat} (hc : Chl n i j) (k : Nat) (v : Value) (vs' : Nat → Nat → Value) (hprs : T.hv = S.hv ∧ T.rc = S.rc ∧ T.kp = S.kp)
    (hrow : [vs i j, .bool (S.cl i j), .int .i64 (S.wy i j)].set k v = [vs' i j, .bool (T.cl i j), .int .i64 (T.wy i j)])
    (hoth : ∀ a b, ¬ (a = i ∧ b = j) → vs' a b = vs a b ∧ T.cl a b = S.cl a b ∧ T.wy a b = S.wy a b ∧ T.q a b = S.q a b)
    (hque : Que w B (vs' i j) (T.q i j)) (hblk : (vs' i j).ownBlock = (vs i j).ownBlock) : SysAt (w.setCell ⟨ch i j, k, none⟩ v) B s n P M ch vs' T := by
  have hrw := h.chn i j hc
  obtain ⟨xs, hP, _⟩ := h.prs
  have hsC : s ≠ ch i j := h.sys.ne hrw (by decide)
  have hPC : P ≠ ch i j := hP.ne hrw (by decide)
  have hMC : M ≠ ch i j := h.map.ne_row hrw
  refine ⟨h.sys.far hsC v, (h.prs.block (Below.heap_setCell w ⟨ch i j, k, none⟩ v P hPC)).congr (fun a _ => by rw [hprs.1]) (fun a _ => by rw [hprs.2.1]) (fun a _ => by rw [hprs.2.2]), h.map.far hMC v, fun a b hab => ?_, fun a b hab => ?_, h.inj, fun a b a' b' hab hab' hne => ?_, h.lowS, h.lowP, h.lowM, h.lowC⟩
  · by_cases e : a = i ∧ b = j
    · obtain ⟨rfl, rfl⟩ := e
      have := hrw.set k v
      rw [hrow] at this
      exact this
    · obtain ⟨e1, e2, e3, _⟩ := hoth a b e
      rw [e1, e2, e3]
      exact (h.chn a b hab).far (h.inj a b i j hab hc e) v
  · by_cases e : a = i ∧ b = j
    · obtain ⟨rfl, rfl⟩ := e
      exact hque.far (by rw [hblk]; exact (h.que a b hc).ne_row hrw (by decide)) v
    · obtain ⟨e1, _, _, e4⟩ := hoth a b e
      rw [e1, e4]
      exact (h.que a b hab).far ((h.que a b hab).ne_row hrw (by decide)) v
  · have ha : (vs' a b).ownBlock = (vs a b).ownBlock := by
      by_cases e : a = i ∧ b = j
      · rw [e.1, e.2]; exact hblk
      · rw [(hoth a b e).1]
    have hb : (vs' a' b').ownBlock = (vs a' b').ownBlock := by
      by_cases e : a' = i ∧ b' = j
      · rw [e.1, e.2]; exact hblk
      · rw [(hoth a' b' e).1]
    rw [ha, hb]
    exact h.apart a b a' b' hab hab' hne
theorem SysAt.close (h : SysAt w B s n P M ch vs S) {i j : Nat} (hc : Chl n i j) : SysAt (w.setCell ⟨ch i j, 1, none⟩ (.bool true)) B s n P M ch vs (S.close i j) :=
  h.setC hc 1 _ vs ⟨rfl, rfl, rfl⟩ (by simp [St.close, up2]) (fun a b e => ⟨rfl, up2_other _ _ e, rfl, rfl⟩) (h.que i j hc) rfl
theorem SysAt.note (h : SysAt w B s n P M ch vs S) {i j : Nat} (hc : Chl n i j) (x : Int) : SysAt (w.setCell ⟨ch i j, 2, none⟩ (.int .i64 (S.wy i j + x))) B s n P M ch vs (S.note i j x) :=
  h.setC hc 2 _ vs ⟨rfl, rfl, rfl⟩ (by simp [St.note, up2]) (fun a b e => ⟨rfl, rfl, up2_other _ _ e, rfl⟩) (h.que i j hc) rfl
theorem SysAt.pop (h : SysAt w B s n P M ch vs S) {i j : Nat} (hc : Chl n i j) {A : Option Addr} {m cap : Nat} (hv : vs i j = .slice A m cap) (hq : S.q i j ≠ []) :
    SysAt (w.setCell ⟨ch i j, 0, none⟩ (.slice (if cap = 1 then A else A.map (·.add 1)) (S.q i j).tail.length (cap - 1))) B s n P M ch (up2 vs i j (.slice (if cap = 1 then A else A.map (·.add 1)) (S.q i j).tail.length (cap - 1))) (S.pop i j) := by
  obtain ⟨x, r, hqr⟩ : ∃ x r, S.q i j = x :: r := by
    cases hc : S.q i j with
    | nil => exact absurd hc hq
    | cons a r => exact ⟨a, r, rfl⟩
  have hQ := h.que i j hc
  rw [hv, hqr] at hQ
  refine h.setC hc 0 _ _ ⟨rfl, rfl, rfl⟩ (by simp [St.pop, up2]) (fun a b e => ⟨up2_other _ _ e, rfl, rfl, up2_other _ _ e⟩) ?_ ?_
  · rw [up2_same]
    have e2 : (S.pop i j).q i j = r := (up2_same _ _ _ _).trans (by rw [hqr]; rfl)
    rw [e2, hqr]
    exact hQ.tail
  · rw [up2_same, hv]
    exact Que.tailBlock
/-- 'c.messages = append(c.messages, x)'. -/
theorem SysAt.put (h : SysAt w B s n P M ch vs S) {i j : Nat} (hc : Chl n i j) {x : Int} {v' : Value} (hQ : Que w' B v' (S.q i j ++ [x])) (hg : w.grownBy w' (vs i j).ownBlock) (hat : v'.ownBlock = (vs i j).ownBlock ∨ ∃ g, v'.ownBlock = some g ∧ w.heap.size ≤ g) :
    SysAt (w'.setCell ⟨ch i j, 0, none⟩ v') B s n P M ch (up2 vs i j v') (S.put i j x) := by
  have hrw := h.chn i j hc
  obtain ⟨xs, hP, hP2⟩ := h.prs
  have hQ0 := h.que i j hc
  obtain ⟨es, cc, hM⟩ := h.map.obj
  have hsC : s ≠ ch i j := h.sys.ne hrw (by decide)
  have hPC : P ≠ ch i j := hP.ne hrw (by decide)
  have hMC : M ≠ ch i j := h.map.ne_row hrw
  have hP' : Row w' P 61 xs := hP.grown hg (fun e => hQ0.ne_row hP (by decide) e.symm)
  have hnew : ∀ a b, Chl n a b → ¬ (a = i ∧ b = j) → (vs a b).ownBlock = none ∨ (vs a b).ownBlock ≠ v'.ownBlock := fun a b hab e => by
    rcases hat with h1 | ⟨g, h1, h2⟩
    · rw [h1]; exact h.apart a b i j hab hc e
    · cases hb : (vs a b).ownBlock with
      | none => exact .inl rfl
      | some g' =>
        right
        rw [h1]
        intro e2
        injection e2 with e2
        have := ((h.que a b hab).lt hb).2
        omega
  have hchn : ∀ a b, Chl n a b → Row w' (ch a b) 64 [vs a b, .bool (S.cl a b), .int .i64 (S.wy a b)] := fun a b hab => (h.chn a b hab).grown hg (fun e => hQ0.ne_row (h.chn a b hab) (by decide) e.symm)
  refine ⟨(h.sys.grown hg (fun e => hQ0.ne_row h.sys (by decide) e.symm)).far hsC v', Prc.block ⟨xs, hP', hP2⟩ (Below.heap_setCell w' ⟨ch i j, 0, none⟩ v' P hPC), (h.map.kept hg (fun e => hQ0.ne_map hM e.symm)).far hMC v', fun a b hab => ?_, fun a b hab => ?_, h.inj, fun a b a' b' hab hab' hne => ?_, h.lowS, h.lowP, h.lowM, h.lowC⟩
  · by_cases e : a = i ∧ b = j
    · obtain ⟨rfl, rfl⟩ := e
      have := (hchn a b hc).set 0 v'
      rw [up2_same]
      exact this
    · rw [up2_other _ _ e]
      exact (hchn a b hab).far (h.inj a b i j hab hc e) v'
  · by_cases e : a = i ∧ b = j
    · obtain ⟨rfl, rfl⟩ := e
      have e2 : (S.put a b x).q a b = S.q a b ++ [x] := up2_same _ _ _ _
      rw [up2_same, e2]
      exact hQ.far (hQ.ne_row (hchn a b hc) (by decide)) v'
    · have e2 : (S.put i j x).q a b = S.q a b := up2_other _ _ e
      rw [up2_other _ _ e, e2]
      have h1 := (h.que a b hab).kept hg (h.apart a b i j hab hc e)
      exact h1.far (h1.ne_row (hchn i j hc) (by decide)) v'
  · by_cases e : a = i ∧ b = j
    · obtain ⟨rfl, rfl⟩ := e
      have e2 : ¬ (a' = a ∧ b' = b) := fun e3 => hne ⟨e3.1.symm, e3.2.symm⟩
      rw [up2_same, up2_other _ _ e2]
      cases hb : v'.ownBlock with
      | none => exact .inl rfl
      | some g =>
        right
        intro e3
        rcases hnew a' b' hab' e2 with h1 | h1
        · rw [h1] at e3; cases e3
        · exact h1 (e3.symm.trans hb.symm)
    · rw [up2_other _ _ e]
      by_cases e2 : a' = i ∧ b' = j
      · obtain ⟨rfl, rfl⟩ := e2
        rw [up2_same]
        exact hnew a b hab e
      · rw [up2_other _ _ e2]
        exact h.apart a b a' b' hab hab' hne
end

/-- Nothing below B has turned, and no row of codes. -/
structure Bl (B : Nat) (w w' : World) : Prop where
  low : Below B w w'
  err : ∀ g xs, Row w g 28 xs → Row w' g 28 xs
section
variable {B : Nat} {w w' w2 : World}
theorem Bl.refl (B : Nat) (w : World) : Bl B w w := ⟨Below.refl B w, fun _ _ h => h⟩
theorem Bl.trans (h : Bl B w w') (k : Bl B w' w2) : Bl B w w2 := ⟨h.low.trans k.low, fun g xs hg => k.err g xs (h.err g xs hg)⟩
theorem Bl.setRow (h : Bl B w w') {p : Addr} {t : TypeId} {ys : List Value} (hr : Row w' p.block t ys) (ht : 28 ≠ t) (hp : B ≤ p.block) (u : Value) : Bl B w (w'.setCell p u) :=
  ⟨h.low.setCell hp u, fun g xs hg => (h.err g xs hg).far ((h.err g xs hg).ne hr ht) u⟩
theorem Bl.alloc (h : Bl B w w') (hs : B ≤ w'.heap.size) (o : Obj) : Bl B w (w'.alloc o) := ⟨h.low.alloc hs o, fun g xs hg => (h.err g xs hg).alloc o⟩
theorem Bl.grownQ (h : Bl B w w') {v : Value} {xs : List Int} (hg : w'.grownBy w2 v.ownBlock) (hQ : Que w' B v xs) (hs : B ≤ w'.heap.size) : Bl B w w2 :=
  ⟨h.low.grown hg hs (fun b hb => (hQ.lt hb).1), fun g ys hr => (h.err g ys hr).grown hg (fun e => hQ.ne_row (h.err g ys hr) (by decide) e.symm)⟩
end

#print axioms SysAt.put
end Go.Proofs.Ytebighmddimnkaa
