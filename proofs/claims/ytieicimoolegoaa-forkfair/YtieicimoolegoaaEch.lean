/-
  The echo algorithm, as the document says it: links, neighbors, what a receipt does, what holds behind any order of receipts. Plain.
-/
import Derived.Lib.Hide
namespace Go.Proofs.Ytieicimoolegoaa

/-! Lists without doubles. -/
theorem sub_len {α : Type} [DecidableEq α] : ∀ (a b : List α), a.Nodup → (∀ x ∈ a, x ∈ b) → a.length ≤ b.length
  | [], _, _, _ => Nat.zero_le _
  | x :: a, b, h, hs => by
    have hx : x ∈ b := hs x (by simp)
    have h2 := sub_len a (b.erase x) (List.nodup_cons.1 h).2 (fun y hy => by
      have hne : y ≠ x := fun e => (List.nodup_cons.1 h).1 (e ▸ hy)
      exact (List.mem_erase_of_ne hne).2 (hs y (by simp [hy])))
    have h3 := List.length_erase_of_mem hx
    have h4 : 0 < b.length := List.length_pos_of_mem hx
    simp only [List.length_cons]
    omega
theorem sub_all {α : Type} [DecidableEq α] {a b : List α} (h : a.Nodup) (hs : ∀ x ∈ a, x ∈ b) (hl : b.length ≤ a.length) {y : α} (hy : y ∈ b) : y ∈ a := by
  by_cases e : y ∈ a
  · exact e
  · have := sub_len (y :: a) b (List.nodup_cons.2 ⟨e, h⟩) (fun x hx => by
      rcases List.mem_cons.1 hx with rfl | hx
      · exact hy
      · exact hs x hx)
    simp only [List.length_cons] at this
    omega

structure Lk where
  a : Int
  b : Int
/-- All ends are processes, and the two ends of a link are not the same. -/
def LkOk (n : Nat) (l : List Lk) : Prop := ∀ x ∈ l, 0 ≤ x.a ∧ x.a < n ∧ 0 ≤ x.b ∧ x.b < n ∧ x.a ≠ x.b
def SameL (x y : Lk) : Prop := (x.a = y.a ∧ x.b = y.b) ∨ (x.a = y.b ∧ x.b = y.a)
instance (x y : Lk) : Decidable (SameL x y) := by unfold SameL; exact inferInstance
/-- No two links join the same processes. -/
def Once (l : List Lk) : Prop := l.Pairwise fun x y => ¬ SameL y x
/-- Joins the link i and j? -/
def joins (x : Lk) (i j : Nat) : Bool := decide (x.a = i) && decide (x.b = j) || decide (x.b = i) && decide (x.a = j)
def adj (l : List Lk) (i j : Nat) : Bool := l.any fun x => joins x i j
theorem joins_iff (x : Lk) (i j : Nat) : joins x i j = true ↔ (x.a = i ∧ x.b = j) ∨ (x.b = i ∧ x.a = j) := by simp [joins]
theorem adj_iff (l : List Lk) (i j : Nat) : adj l i j = true ↔ ∃ x ∈ l, (x.a = i ∧ x.b = j) ∨ (x.b = i ∧ x.a = j) := by
  unfold adj
  rw [List.any_eq_true]
  constructor
  · rintro ⟨x, h, e⟩; exact ⟨x, h, (joins_iff _ _ _).1 e⟩
  · rintro ⟨x, h, e⟩; exact ⟨x, h, (joins_iff _ _ _).2 e⟩
theorem adj_comm (l : List Lk) (i j : Nat) : adj l i j = adj l j i := by
  rw [Bool.eq_iff_iff, adj_iff, adj_iff]
  constructor <;> rintro ⟨x, h, e⟩ <;> exact ⟨x, h, by omega⟩
/-- The neighbors of a process, in rising order. -/
def nbs (l : List Lk) (n i : Nat) : List Nat := (List.range n).filter fun j => adj l i j
theorem nbs_mem {l : List Lk} {n i j : Nat} : j ∈ nbs l n i ↔ j < n ∧ adj l i j = true := by simp [nbs]
theorem nbs_nodup (l : List Lk) (n i : Nat) : (nbs l n i).Nodup := List.Nodup.sublist List.filter_sublist List.nodup_range
theorem nbs_len (l : List Lk) (n i : Nat) : (nbs l n i).length ≤ n := by
  have := List.length_filter_le (fun j => adj l i j) (List.range n)
  simpa [nbs] using this
theorem nbs_lt {l : List Lk} {n : Nat} (h : LkOk n l) {i j : Nat} (hj : j ∈ nbs l n i) : i < n ∧ j < n ∧ i ≠ j := by
  obtain ⟨h1, h2⟩ := nbs_mem.1 hj
  obtain ⟨x, hx, e⟩ := (adj_iff l i j).1 h2
  have := h x hx
  omega
theorem nbs_comm {l : List Lk} {n : Nat} (h : LkOk n l) {i j : Nat} (hj : j ∈ nbs l n i) : i ∈ nbs l n j :=
  nbs_mem.2 ⟨(nbs_lt h hj).1, by rw [adj_comm]; exact (nbs_mem.1 hj).2⟩

/-- What has come to each, its parent, the messages in transit, how many were sent. -/
structure ES where
  took : Nat → Nat
  par : Nat → Int
  way : List (Nat × Nat)
  sent : Nat
def upN (f : Nat → Nat) (i v : Nat) : Nat → Nat := fun x => if x = i then v else f x
def upZ (f : Nat → Int) (i : Nat) (v : Int) : Nat → Int := fun x => if x = i then v else f x
theorem upN_same (f : Nat → Nat) (i v : Nat) : upN f i v i = v := by simp [upN]
theorem upN_other (f : Nat → Nat) {i x : Nat} (v : Nat) (h : x ≠ i) : upN f i v x = f x := by simp [upN, h]
theorem upZ_same (f : Nat → Int) (i : Nat) (v : Int) : upZ f i v i = v := by simp [upZ]
theorem upZ_other (f : Nat → Int) {i x : Nat} (v : Int) (h : x ≠ i) : upZ f i v x = f x := by simp [upZ, h]
/-- A message is sent. -/
def ES.send (S : ES) (i j : Nat) : ES := ⟨S.took, S.par, S.way ++ [(i, j)], S.sent + 1⟩
/-- One to each of the list but the parent. -/
def ES.spread (S : ES) (i : Nat) (q : List Nat) : ES := ⟨S.took, S.par, S.way ++ (q.filter fun (j : Nat) => !decide (S.par i = (j : Int))).map (fun j => (i, j)), S.sent + (q.filter fun (j : Nat) => !decide (S.par i = (j : Int))).length⟩
def ES.zero : ES := ⟨fun _ => 0, fun _ => -1, [], 0⟩
/-- It is sent to the parent when a message has come on each link. -/
def ES.back (S : ES) (m t : Nat) : ES := if S.took t = m then S.send t (S.par t).toNat else S
def ES.take (S : ES) (nb : Nat → List Nat) (s f t : Nat) : ES :=
  if t = s then ⟨upN S.took t (S.took t + 1), S.par, S.way, S.sent⟩
  else if S.took t = 0 then (ES.spread ⟨upN S.took t 1, upZ S.par t f, S.way, S.sent⟩ t (nb t)).back (nb t).length t
  else (ES.mk (upN S.took t (S.took t + 1)) S.par S.way S.sent).back (nb t).length t
def ES.recv (S : ES) (nb : Nat → List Nat) (s k : Nat) : ES := ES.take ⟨S.took, S.par, S.way.take k ++ S.way.drop (k + 1), S.sent⟩ nb s (S.way.getD k (0, 0)).1 (S.way.getD k (0, 0)).2
def inWay (S : ES) (k : Int) : Bool := decide (0 ≤ k) && decide (k < S.way.length)
def ES.step (S : ES) (nb : Nat → List Nat) (s : Nat) (k : Int) : ES := if inWay S k = true then S.recv nb s k.toNat else S
def ES.code (S : ES) (k : Int) : Int := if inWay S k = true then 0 else 4
/-- Behind the first m receipts. -/
def esAt (nb : Nat → List Nat) (s : Nat) (o : List Int) : Nat → ES
  | 0 => ES.zero.spread s (nb s)
  | m + 1 => (esAt nb s o m).step nb s (o.getD m 0)
def codeE (nb : Nat → List Nat) (s : Nat) (o : List Int) (m : Nat) : Int := (esAt nb s o m).code (o.getD m 0)

/-! What holds always. -/
def Sent (nb : Nat → List Nat) (s : Nat) (S : ES) (i j : Nat) : Prop := j ∈ nb i ∧ (i = s ∨ (0 < S.took i ∧ (S.par i ≠ (j : Int) ∨ S.took i = (nb i).length)))
structure Nbs (n : Nat) (nb : Nat → List Nat) : Prop where
  once : ∀ i, (nb i).Nodup
  lt : ∀ i j, j ∈ nb i → i < n ∧ j < n ∧ i ≠ j
  comm : ∀ i j, j ∈ nb i → i ∈ nb j
theorem nbs_ok {l : List Lk} {n : Nat} (h : LkOk n l) : Nbs n (nbs l n) := ⟨fun i => nbs_nodup l n i, fun _ _ hj => nbs_lt h hj, fun _ _ hj => nbs_comm h hj⟩

structure EInv (n : Nat) (nb : Nat → List Nat) (s : Nat) (S : ES) (got : List (Nat × Nat)) (dep : Nat → Nat) (hs : List Nat) : Prop where
  once : (S.way ++ got).Nodup
  sent : S.sent = S.way.length + got.length
  took : ∀ j, S.took j = (got.filter fun m => decide (m.2 = j)).length
  mem : ∀ i j, (i, j) ∈ S.way ++ got ↔ Sent nb s S i j
  par0 : ∀ i, (i = s ∨ S.took i = 0) → S.par i = -1
  par1 : ∀ i, i ≠ s → 0 < S.took i → ∃ p : Nat, S.par i = (p : Int) ∧ p ∈ nb i ∧ (p = s ∨ 0 < S.took p) ∧ dep i = dep p + 1
  dep0 : dep s = 0
  depL : ∀ i, i ≠ s → 0 < S.took i → dep i ≤ hs.length
  hsO : hs.Nodup
  hsM : ∀ i, i ∈ hs ↔ i ≠ s ∧ 0 < S.took i
  lts : s < n

section
variable {n : Nat} {nb : Nat → List Nat} {s : Nat} {S : ES} {got : List (Nat × Nat)} {dep : Nat → Nat} {hs : List Nat}
theorem EInv.heard_lt (h : EInv n nb s S got dep hs) (N : Nbs n nb) {i : Nat} (hi : 0 < S.took i) : i < n := by
  by_cases e : i = s
  · rw [e]; exact h.lts
  · obtain ⟨p, _, h2, _⟩ := h.par1 i e hi
    exact (N.lt i p h2).1
theorem EInv.hsLen (h : EInv n nb s S got dep hs) (N : Nbs n nb) : hs.length + 1 ≤ n := by
  have := sub_len (s :: hs) (List.range n) (List.nodup_cons.2 ⟨fun e => ((h.hsM s).1 e).1 rfl, h.hsO⟩) (fun x hx => by
    rcases List.mem_cons.1 hx with rfl | hx
    · simpa using h.lts
    · simpa using h.heard_lt N ((h.hsM x).1 hx).2)
  simpa using this
/-- Who has sent something to j that has come. -/
def cameFrom (got : List (Nat × Nat)) (j : Nat) : List Nat := (got.filter fun m => decide (m.2 = j)).map (·.1)
theorem cameFrom_mem {got : List (Nat × Nat)} {i j : Nat} : i ∈ cameFrom got j ↔ (i, j) ∈ got := by
  unfold cameFrom
  rw [List.mem_map]
  constructor
  · rintro ⟨⟨a, b⟩, h1, rfl⟩
    rw [List.mem_filter] at h1
    have : b = j := by simpa using h1.2
    subst this; exact h1.1
  · intro h
    exact ⟨(i, j), List.mem_filter.2 ⟨h, by simp⟩, rfl⟩
theorem cameFrom_nodup {got : List (Nat × Nat)} (h : got.Nodup) (j : Nat) : (cameFrom got j).Nodup := by
  unfold cameFrom List.Nodup
  rw [List.pairwise_map]
  have h1 : (got.filter fun m => decide (m.2 = j)).Nodup := List.Nodup.sublist List.filter_sublist h
  rw [List.pairwise_iff_getElem]
  intro x y hx hy hxy e
  have e1 : ((got.filter fun m => decide (m.2 = j))[x]).2 = j := by simpa using (List.mem_filter.1 (List.getElem_mem hx)).2
  have e2 : ((got.filter fun m => decide (m.2 = j))[y]).2 = j := by simpa using (List.mem_filter.1 (List.getElem_mem hy)).2
  exact List.pairwise_iff_getElem.1 h1 x y hx hy hxy (Prod.ext e (e1.trans e2.symm))
theorem EInv.gotN (h : EInv n nb s S got dep hs) : got.Nodup := (List.nodup_append.1 h.once).2.1
theorem EInv.gotS (h : EInv n nb s S got dep hs) (N : Nbs n nb) {i j : Nat} (hg : (i, j) ∈ got) : i ∈ nb j := N.comm i j ((h.mem i j).1 (List.mem_append.2 (.inr hg))).1
theorem EInv.took_le (h : EInv n nb s S got dep hs) (N : Nbs n nb) (j : Nat) : S.took j ≤ (nb j).length := by
  have := sub_len (cameFrom got j) (nb j) (cameFrom_nodup h.gotN j) (fun i hi => h.gotS N (cameFrom_mem.1 hi))
  rw [h.took j]
  simpa [cameFrom] using this
theorem EInv.full (h : EInv n nb s S got dep hs) (N : Nbs n nb) {j : Nat} (hj : S.took j = (nb j).length) {i : Nat} (hi : i ∈ nb j) : (i, j) ∈ got := by
  rw [h.took j] at hj
  exact cameFrom_mem.1 (sub_all (cameFrom_nodup h.gotN j) (fun i hi => h.gotS N (cameFrom_mem.1 hi)) (by simp [cameFrom]; omega) hi)
theorem EInv.all (h : EInv n nb s S got dep hs) (N : Nbs n nb) {j : Nat} (ha : ∀ i, i ∈ nb j → (i, j) ∈ got) : S.took j = (nb j).length := by
  have h1 := h.took_le N j
  have h2 := sub_len (nb j) (cameFrom got j) (N.once j) (fun i hi => cameFrom_mem.2 (ha i hi))
  have h3 := h.took j
  simp [cameFrom] at h2
  omega

theorem spread_mem (S : ES) (i : Nat) (q : List Nat) (a b : Nat) : (a, b) ∈ (q.filter fun (j : Nat) => !decide (S.par i = (j : Int))).map (fun j => (i, j)) ↔ a = i ∧ b ∈ q ∧ S.par i ≠ (b : Int) := by
  rw [List.mem_map]
  constructor
  · rintro ⟨j, h1, h2⟩
    injection h2 with e1 e2
    subst e1 e2
    have := List.mem_filter.1 h1
    exact ⟨rfl, this.1, by simpa using this.2⟩
  · rintro ⟨rfl, h1, h2⟩
    exact ⟨b, List.mem_filter.2 ⟨h1, by simpa using h2⟩, rfl⟩
theorem spread_nodup (S : ES) (i : Nat) {q : List Nat} (h : q.Nodup) : ((q.filter fun (j : Nat) => !decide (S.par i = (j : Int))).map (fun j => (i, j))).Nodup := by
  unfold List.Nodup
  rw [List.pairwise_map]
  rw [List.pairwise_iff_getElem]
  intro a b ha hb hab e
  injection e with _ e
  exact List.pairwise_iff_getElem.1 (List.Nodup.sublist List.filter_sublist h) a b ha hb hab e

theorem EInv.begin (N : Nbs n nb) (hs : s < n) : EInv n nb s (ES.zero.spread s (nb s)) [] (fun _ => 0) [] := by
  have hp : ∀ i, (ES.zero.spread s (nb s)).par i = -1 := fun _ => rfl
  have ht : ∀ i, (ES.zero.spread s (nb s)).took i = 0 := fun _ => rfl
  have hw : (ES.zero.spread s (nb s)).way = ((nb s).filter fun (j : Nat) => !decide (ES.zero.par s = (j : Int))).map (fun j => (s, j)) := by simp [ES.spread, ES.zero]
  refine ⟨?_, ?_, fun j => rfl, fun i j => ?_, fun i _ => rfl, fun i _ h => absurd h (by rw [ht]; omega), rfl, fun i _ h => absurd h (by rw [ht]; omega), List.nodup_nil, fun i => ⟨fun h => (by cases h), fun h => (by have := h.2; rw [ht] at this; omega)⟩, hs⟩
  · rw [List.append_nil, hw]; exact spread_nodup ES.zero s (N.once s)
  · simp [ES.spread, ES.zero]
  · rw [List.append_nil, hw, spread_mem]
    unfold Sent
    constructor
    · rintro ⟨rfl, h1, _⟩; exact ⟨h1, .inl rfl⟩
    · rintro ⟨h1, rfl | h⟩
      · exact ⟨rfl, h1, by show (-1 : Int) ≠ _; omega⟩
      · rw [ht] at h; omega

/-- One message is received. -/
theorem EInv.get (h : EInv n nb s S got dep hs) (N : Nbs n nb) {k : Nat} (hk : k < S.way.length) : ∃ got' dep' hs', EInv n nb s (S.recv nb s k) got' dep' hs' ∧ got'.length = got.length + 1 := by
  obtain ⟨f, t, hft⟩ : ∃ f t, S.way[k] = (f, t) := ⟨_, _, rfl⟩
  have hgd : S.way.getD k (0, 0) = (f, t) := by simp [hk, hft]
  have hrec : S.recv nb s k = ES.take ⟨S.took, S.par, S.way.take k ++ S.way.drop (k + 1), S.sent⟩ nb s f t := by unfold ES.recv; rw [hgd]
  have hW : S.way = S.way.take k ++ (f, t) :: S.way.drop (k + 1) := by
    rw [← hft, List.getElem_cons_drop]; exact (List.take_append_drop k S.way).symm
  generalize hX : S.way.take k = X at *
  generalize hY : S.way.drop (k + 1) = Y at *
  have hmem0 : ∀ m, m ∈ (X ++ Y) ++ (got ++ [(f, t)]) ↔ m ∈ S.way ++ got := fun m => by
    rw [hW]; simp only [List.mem_append, List.mem_cons, List.not_mem_nil, or_false]
    constructor
    · rintro ((h | h) | (h | h)) <;> simp [h]
    · rintro ((h | (h | h)) | h) <;> simp [h]
  have hnd0 : ((X ++ Y) ++ (got ++ [(f, t)])).Nodup := by
    have h1 := h.once
    rw [hW] at h1
    have hp : ((X ++ Y) ++ (got ++ [(f, t)])).Perm ((X ++ (f, t) :: Y) ++ got) := by
      have e1 : ((X ++ Y) ++ (got ++ [(f, t)])).Perm ((f, t) :: ((X ++ Y) ++ got)) := by
        rw [← List.append_assoc]; exact List.perm_append_singleton _ _
      have e2 : ((X ++ (f, t) :: Y) ++ got).Perm ((f, t) :: ((X ++ Y) ++ got)) := by
        rw [List.append_assoc, List.append_assoc]; exact List.perm_middle
      exact e1.trans e2.symm
    exact hp.nodup_iff.2 h1
  have hlen0 : S.way.length = (X ++ Y).length + 1 := by rw [hW]; simp; omega
  have hsentft : Sent nb s S f t := (h.mem f t).1 (by rw [hW]; simp)
  have htf : f ∈ nb t := N.comm f t hsentft.1
  have hlts := N.lt f t hsentft.1
  have htk0 : ∀ j, ((got ++ [(f, t)]).filter fun m => decide (m.2 = j)).length = if j = t then S.took t + 1 else S.took j := fun j => by
    rw [List.filter_append, List.length_append, ← h.took j]
    by_cases e : j = t
    · subst e; rw [if_pos rfl]; simp
    · rw [if_neg e]
      have : ¬ (t = j) := fun e' => e e'.symm
      simp [this]
  -- who had heard before
  have hfh : f = s ∨ 0 < S.took f := by
    rcases hsentft.2 with e | e
    · exact .inl e
    · exact .inr e.1
  have htle : S.took t + 1 ≤ (nb t).length := by
    have hn : (got ++ [(f, t)]).Nodup := (List.nodup_append.1 hnd0).2.1
    have := sub_len (cameFrom (got ++ [(f, t)]) t) (nb t) (cameFrom_nodup hn t) (fun i hi => by
      have := cameFrom_mem.1 hi
      rcases List.mem_append.1 this with h1 | h1
      · exact h.gotS N h1
      · have e : (i, t) = (f, t) := by simpa using h1
        injection e with e _
        rw [e]; exact htf)
    have h2 := htk0 t
    rw [if_pos rfl] at h2
    simp [cameFrom] at this
    simp at h2
    omega
  by_cases hts : t = s
  · refine ⟨got ++ [(f, t)], dep, hs, ?_, by simp⟩
    have e : S.recv nb s k = ⟨upN S.took t (S.took t + 1), S.par, X ++ Y, S.sent⟩ := by rw [hrec, ES.take, if_pos hts]
    rw [e]
    have htk : ∀ i, i ≠ s → upN S.took t (S.took t + 1) i = S.took i := fun i hi => upN_other _ _ (by rw [hts]; exact hi)
    refine ⟨hnd0, ?_, fun j => ?_, fun i j => ?_, fun i hi => ?_, fun i hi hp => ?_, h.dep0, fun i hi hp => ?_, h.hsO, fun i => ?_, h.lts⟩
    · have := h.sent; simp only [List.length_append, List.length_singleton] at *; omega
    · rw [htk0 j]; unfold upN; rfl
    · rw [hmem0, h.mem i j]
      unfold Sent
      by_cases ei : i = s
      · simp [ei]
      · simp only [htk i ei]
    · rcases hi with rfl | hi
      · exact h.par0 _ (.inl rfl)
      · by_cases ei : i = s
        · exact h.par0 _ (.inl ei)
        · simp only [htk i ei] at hi; exact h.par0 i (.inr hi)
    · simp only [htk i hi] at hp
      obtain ⟨p, h1, h2, h3, h4⟩ := h.par1 i hi hp
      refine ⟨p, h1, h2, ?_, h4⟩
      by_cases ep : p = s
      · exact .inl ep
      · right; simp only [htk p ep]; exact h3.resolve_left ep
    · simp only [htk i hi] at hp; exact h.depL i hi hp
    · rw [h.hsM i]
      constructor
      · rintro ⟨a, b⟩; exact ⟨a, by simp only [htk i a]; exact b⟩
      · rintro ⟨a, b⟩; simp only [htk i a] at b; exact ⟨a, b⟩
  · -- the receiver is not the start: what it sends
    obtain ⟨T, add, hTw, hTs, hTt, hTp, haddN, haddM, hnew, hparT, hS'⟩ : ∃ (T : ES) (add : List (Nat × Nat)), S.recv nb s k = T ∧ T.sent = S.sent + add.length ∧ T.took = upN S.took t (S.took t + 1) ∧ T.way = X ++ Y ++ add ∧ add.Nodup ∧ (∀ i j, (i, j) ∈ add → i = t ∧ ¬ Sent nb s S t j) ∧ (∀ j, (t, j) ∈ add ∨ Sent nb s S t j ↔ Sent nb s T t j) ∧ (∀ i, i ≠ t → T.par i = S.par i) ∧ (T.par t = if S.took t = 0 then (f : Int) else S.par t) := by
      by_cases h0 : S.took t = 0
      · have hold : ∀ j, ¬ Sent nb s S t j := fun j hj => by
          rcases hj.2 with e | e
          · exact hts e
          · omega
        generalize hU : (ES.mk (upN S.took t 1) (upZ S.par t f) (X ++ Y) S.sent) = U at *
        have hUp : U.par t = (f : Int) := by rw [← hU]; exact upZ_same _ _ _
        have hUt : U.took t = 1 := by rw [← hU]; exact upN_same _ _ _
        generalize hA : ((nb t).filter fun (j : Nat) => !decide (U.par t = (j : Int))).map (fun j => (t, j)) = A at *
        have hAm : ∀ a b, (a, b) ∈ A ↔ a = t ∧ b ∈ nb t ∧ U.par t ≠ (b : Int) := fun a b => by rw [← hA]; exact spread_mem U t (nb t) a b
        have hAn : A.Nodup := by rw [← hA]; exact spread_nodup U t (N.once t)
        have hAl : A.length = ((nb t).filter fun (j : Nat) => !decide (U.par t = (j : Int))).length := by rw [← hA]; simp
        have hr : S.recv nb s k = (ES.mk U.took U.par (X ++ Y ++ A) (S.sent + A.length)).back (nb t).length t := by
          rw [hrec, ES.take, if_neg hts, if_pos (show S.took t = 0 from h0)]
          show (ES.spread ⟨upN S.took t 1, upZ S.par t f, X ++ Y, S.sent⟩ t (nb t)).back (nb t).length t = _
          rw [hU, ES.spread, hA, ← hAl, ← hU]
        by_cases hb : (nb t).length = 1
        · have hb' : (ES.mk U.took U.par (X ++ Y ++ A) (S.sent + A.length)).took t = (nb t).length := by show U.took t = _; rw [hUt, hb]
          refine ⟨_, A ++ [(t, f)], hr, ?_, ?_, ?_, ?_, ?_, ?_, ?_, ?_⟩
          · rw [ES.back, if_pos hb']; simp [ES.send]; omega
          · rw [ES.back, if_pos hb']; show U.took = _; rw [← hU, h0]
          · rw [ES.back, if_pos hb']; show X ++ Y ++ A ++ [(t, (U.par t).toNat)] = _; rw [hUp]; simp
          · rw [List.nodup_append]
            refine ⟨hAn, by simp, ?_⟩
            rintro ⟨a, b⟩ ha x hx e
            have hx' : x = (t, f) := by simpa using hx
            rw [hx'] at e; injection e with e1 e2
            have := (hAm a b).1 ha
            rw [hUp, e2] at this; exact this.2.2 rfl
          · intro i j hij
            refine ⟨?_, hold j⟩
            rcases List.mem_append.1 hij with h1 | h1
            · exact ((hAm i j).1 h1).1
            · have e : (i, j) = (t, f) := by simpa using h1
              injection e
          · intro j
            have hT : Sent nb s ((ES.mk U.took U.par (X ++ Y ++ A) (S.sent + A.length)).back (nb t).length t) t j ↔ j ∈ nb t := by
              rw [ES.back, if_pos hb']
              exact ⟨fun a => a.1, fun a => ⟨a, .inr ⟨by show 0 < U.took t; omega, .inr hb'⟩⟩⟩
            rw [hT]
            constructor
            · rintro (h1 | h1)
              · rcases List.mem_append.1 h1 with h2 | h2
                · exact ((hAm t j).1 h2).2.1
                · have e : (t, j) = (t, f) := by simpa using h2
                  injection e with _ e
                  rw [e]; exact htf
              · exact absurd h1 (hold j)
            · intro hj
              left
              by_cases e : j = f
              · rw [e]; simp
              · exact List.mem_append.2 (.inl ((hAm t j).2 ⟨rfl, hj, by rw [hUp]; omega⟩))
          · intro i hi; rw [ES.back, if_pos hb']; show U.par i = _; rw [← hU]; exact upZ_other _ _ hi
          · rw [ES.back, if_pos hb', if_pos h0]; exact hUp
        · have hb' : ¬ (ES.mk U.took U.par (X ++ Y ++ A) (S.sent + A.length)).took t = (nb t).length := by show ¬ U.took t = _; rw [hUt]; omega
          refine ⟨_, A, hr, ?_, ?_, ?_, hAn, ?_, ?_, ?_, ?_⟩
          · rw [ES.back, if_neg hb']
          · rw [ES.back, if_neg hb']; show U.took = _; rw [← hU, h0]
          · rw [ES.back, if_neg hb']
          · intro i j hij; exact ⟨((hAm i j).1 hij).1, hold j⟩
          · intro j
            have hT : Sent nb s ((ES.mk U.took U.par (X ++ Y ++ A) (S.sent + A.length)).back (nb t).length t) t j ↔ j ∈ nb t ∧ U.par t ≠ (j : Int) := by
              rw [ES.back, if_neg hb']
              constructor
              · rintro ⟨a, b | ⟨_, b | b⟩⟩
                · exact absurd b hts
                · exact ⟨a, b⟩
                · exact absurd b hb'
              · rintro ⟨a, b⟩; exact ⟨a, .inr ⟨by show 0 < U.took t; omega, .inl b⟩⟩
            rw [hT]
            constructor
            · rintro (h1 | h1)
              · exact ((hAm t j).1 h1).2
              · exact absurd h1 (hold j)
            · intro hj; exact .inl ((hAm t j).2 ⟨rfl, hj⟩)
          · intro i hi; rw [ES.back, if_neg hb']; show U.par i = _; rw [← hU]; exact upZ_other _ _ hi
          · rw [ES.back, if_neg hb', if_pos h0]; exact hUp
      · obtain ⟨p, hp1, hp2, _⟩ := h.par1 t hts (by omega)
        have hr : S.recv nb s k = (ES.mk (upN S.took t (S.took t + 1)) S.par (X ++ Y) S.sent).back (nb t).length t := by
          rw [hrec, ES.take, if_neg hts, if_neg (show ¬ S.took t = 0 from h0)]
        have hold : ∀ j, Sent nb s S t j ↔ j ∈ nb t ∧ S.par t ≠ (j : Int) := fun j => by
          constructor
          · rintro ⟨a, b | ⟨_, b | b⟩⟩
            · exact absurd b hts
            · exact ⟨a, b⟩
            · omega
          · rintro ⟨a, b⟩; exact ⟨a, .inr ⟨by omega, .inl b⟩⟩
        by_cases hb : S.took t + 1 = (nb t).length
        · have hb' : (ES.mk (upN S.took t (S.took t + 1)) S.par (X ++ Y) S.sent).took t = (nb t).length := by show upN _ _ _ t = _; rw [upN_same]; exact hb
          refine ⟨_, [(t, p)], hr, ?_, ?_, ?_, by simp, ?_, ?_, ?_, ?_⟩
          · rw [ES.back, if_pos hb']; simp [ES.send]
          · rw [ES.back, if_pos hb']; rfl
          · rw [ES.back, if_pos hb']; show X ++ Y ++ [(t, (S.par t).toNat)] = _; rw [hp1]; rfl
          · intro i j hij
            have e : (i, j) = (t, p) := by simpa using hij
            injection e with e1 e2
            refine ⟨e1, fun hj => ?_⟩
            exact ((hold j).1 hj).2 (by rw [hp1, e2])
          · intro j
            have hT : Sent nb s ((ES.mk (upN S.took t (S.took t + 1)) S.par (X ++ Y) S.sent).back (nb t).length t) t j ↔ j ∈ nb t := by
              rw [ES.back, if_pos hb']
              exact ⟨fun a => a.1, fun a => ⟨a, .inr ⟨by show 0 < upN S.took t (S.took t + 1) t; rw [upN_same]; omega, .inr hb'⟩⟩⟩
            rw [hT, hold j]
            constructor
            · rintro (h1 | h1)
              · have e : (t, j) = (t, p) := by simpa using h1
                injection e with _ e
                rw [e]; exact hp2
              · exact h1.1
            · intro hj
              by_cases e : j = p
              · left; rw [e]; simp
              · right; exact ⟨hj, by rw [hp1]; omega⟩
          · intro i _; rw [ES.back, if_pos hb']; rfl
          · rw [ES.back, if_pos hb', if_neg h0]; rfl
        · have hb' : ¬ (ES.mk (upN S.took t (S.took t + 1)) S.par (X ++ Y) S.sent).took t = (nb t).length := by show ¬ upN _ _ _ t = _; rw [upN_same]; exact hb
          refine ⟨_, [], hr, ?_, ?_, ?_, by simp, ?_, ?_, ?_, ?_⟩
          · rw [ES.back, if_neg hb']; rfl
          · rw [ES.back, if_neg hb']
          · rw [ES.back, if_neg hb']; simp
          · intro i j hij; cases hij
          · intro j
            have hT : Sent nb s ((ES.mk (upN S.took t (S.took t + 1)) S.par (X ++ Y) S.sent).back (nb t).length t) t j ↔ j ∈ nb t ∧ S.par t ≠ (j : Int) := by
              rw [ES.back, if_neg hb']
              constructor
              · rintro ⟨a, b | ⟨_, b | b⟩⟩
                · exact absurd b hts
                · exact ⟨a, b⟩
                · exact absurd b hb'
              · rintro ⟨a, b⟩; exact ⟨a, .inr ⟨by show 0 < upN S.took t (S.took t + 1) t; rw [upN_same]; omega, .inl b⟩⟩
            rw [hT, hold j]
            simp
          · intro i _; rw [ES.back, if_neg hb']
          · rw [ES.back, if_neg hb', if_neg h0]
    rw [hTw]
    have htkT : ∀ i, i ≠ t → T.took i = S.took i := fun i hi => by rw [hTt]; exact upN_other _ _ hi
    have htkt : T.took t = S.took t + 1 := by rw [hTt]; exact upN_same _ _ _
    have hheard : ∀ i, 0 < S.took i → 0 < T.took i := fun i hi => by
      by_cases e : i = t
      · rw [e, htkt]; omega
      · rw [htkT i e]; exact hi
    have hSent' : ∀ i j, i ≠ t → (Sent nb s T i j ↔ Sent nb s S i j) := fun i j hi => by
      unfold Sent; rw [htkT i hi, hparT i hi]
    have hmem' : ∀ i j, (i, j) ∈ T.way ++ (got ++ [(f, t)]) ↔ (i, j) ∈ add ∨ (i, j) ∈ S.way ++ got := fun i j => by
      rw [hTp, ← hmem0 (i, j)]
      simp only [List.mem_append]
      constructor
      · rintro ((h1 | h1) | h1)
        · exact .inr (.inl h1)
        · exact .inl h1
        · exact .inr (.inr h1)
      · rintro (h1 | (h1 | h1))
        · exact .inl (.inr h1)
        · exact .inl (.inl h1)
        · exact .inr h1
    have hndT : (T.way ++ (got ++ [(f, t)])).Nodup := by
      rw [hTp, List.append_assoc]
      have h1 : (add ++ ((X ++ Y) ++ (got ++ [(f, t)]))).Nodup := by
        rw [List.nodup_append]
        refine ⟨haddN, hnd0, ?_⟩
        rintro ⟨a, b⟩ ha x hx e
        have h2 := haddM a b ha
        rw [← e, hmem0] at hx
        have h3 := (h.mem a b).1 hx
        rw [h2.1] at h3
        exact h2.2 h3
      have hp : ((X ++ Y) ++ (add ++ (got ++ [(f, t)]))).Perm (add ++ ((X ++ Y) ++ (got ++ [(f, t)]))) := by
        exact List.perm_append_comm_assoc _ _ _
      exact hp.nodup_iff.2 h1
    have hlenT : T.sent = T.way.length + (got ++ [(f, t)]).length := by
      have := h.sent
      rw [hTs, hTp]; simp only [List.length_append, List.length_singleton] at *; omega
    have htkG : ∀ j, T.took j = ((got ++ [(f, t)]).filter fun m => decide (m.2 = j)).length := fun j => by rw [htk0 j, hTt]; rfl
    have hmemT : ∀ i j, (i, j) ∈ T.way ++ (got ++ [(f, t)]) ↔ Sent nb s T i j := fun i j => by
      rw [hmem', h.mem i j]
      by_cases e : i = t
      · subst e; exact hnew j
      · rw [hSent' i j e]
        exact ⟨fun h1 => h1.resolve_left (fun h2 => e (haddM i j h2).1), .inr⟩
    by_cases h0 : S.took t = 0
    · have hthS : t ∉ hs := fun e => by have := ((h.hsM t).1 e).2; omega
      rw [if_pos h0] at hS'
      have hft' : f ≠ t := hlts.2.2
      have hdf : dep f ≤ hs.length := by
        rcases hfh with e | e
        · rw [e, h.dep0]; exact Nat.zero_le _
        · by_cases e2 : f = s
          · rw [e2, h.dep0]; exact Nat.zero_le _
          · exact h.depL f e2 e
      refine ⟨got ++ [(f, t)], upN dep t (dep f + 1), hs ++ [t], ⟨hndT, hlenT, htkG, hmemT, ?_, ?_, ?_, ?_, ?_, ?_, h.lts⟩, by simp⟩
      · intro i hi
        have hit : i ≠ t := fun e => by
          rcases hi with e1 | e1
          · exact hts (e ▸ e1)
          · rw [e, htkt] at e1; omega
        rw [hparT i hit]
        rcases hi with e1 | e1
        · exact h.par0 i (.inl e1)
        · rw [htkT i hit] at e1; exact h.par0 i (.inr e1)
      · intro i hi hp
        by_cases e : i = t
        · subst e
          refine ⟨f, hS', htf, ?_, ?_⟩
          · rcases hfh with e1 | e1
            · exact .inl e1
            · exact .inr (hheard f e1)
          · rw [upN_same, upN_other _ _ hft']
        · rw [htkT i e] at hp
          obtain ⟨p, h1, h2, h3, h4⟩ := h.par1 i hi hp
          have hpt : p ≠ t := fun ep => by
            rcases h3 with e3 | e3
            · exact hts (ep ▸ e3)
            · rw [ep] at e3; omega
          refine ⟨p, by rw [hparT i e]; exact h1, h2, ?_, ?_⟩
          · rcases h3 with e3 | e3
            · exact .inl e3
            · exact .inr (hheard p e3)
          · rw [upN_other _ _ e, upN_other _ _ hpt]; exact h4
      · rw [upN_other _ _ (fun e => hts e.symm)]; exact h.dep0
      · intro i hi hp
        simp only [List.length_append, List.length_singleton]
        by_cases e : i = t
        · rw [e, upN_same]; omega
        · rw [upN_other _ _ e]; rw [htkT i e] at hp; have := h.depL i hi hp; omega
      · rw [List.nodup_append]
        refine ⟨h.hsO, by simp, ?_⟩
        intro a ha b hb e
        have hb' : b = t := by simpa using hb
        rw [e, hb'] at ha
        exact hthS ha
      · intro i
        rw [List.mem_append, h.hsM i]
        by_cases e : i = t
        · subst e; rw [htkt]; simp [hts]
        · rw [htkT i e]; simp [e]
    · rw [if_neg h0] at hS'
      refine ⟨got ++ [(f, t)], dep, hs, ⟨hndT, hlenT, htkG, hmemT, ?_, ?_, h.dep0, ?_, h.hsO, ?_, h.lts⟩, by simp⟩
      · intro i hi
        have hit : i ≠ t := fun e => by
          rcases hi with e1 | e1
          · exact hts (e ▸ e1)
          · rw [e, htkt] at e1; omega
        rw [hparT i hit]
        rcases hi with e1 | e1
        · exact h.par0 i (.inl e1)
        · rw [htkT i hit] at e1; exact h.par0 i (.inr e1)
      · intro i hi hp
        have hpi : T.par i = S.par i := by
          by_cases e : i = t
          · rw [e]; exact hS'
          · exact hparT i e
        have hp' : 0 < S.took i := by
          by_cases e : i = t
          · rw [e]; omega
          · rw [htkT i e] at hp; exact hp
        obtain ⟨p, h1, h2, h3, h4⟩ := h.par1 i hi hp'
        refine ⟨p, hpi.trans h1, h2, ?_, h4⟩
        rcases h3 with e3 | e3
        · exact .inl e3
        · exact .inr (hheard p e3)
      · intro i hi hp
        refine h.depL i hi ?_
        by_cases e : i = t
        · rw [e]; omega
        · rw [htkT i e] at hp; exact hp
      · intro i
        rw [h.hsM i]
        by_cases e : i = t
        · subst e; rw [htkt]; constructor <;> (rintro ⟨a, b⟩; exact ⟨a, by omega⟩)
        · rw [htkT i e]

theorem EInv.step (h : EInv n nb s S got dep hs) (N : Nbs n nb) (k : Int) : ∃ got' dep' hs', EInv n nb s (S.step nb s k) got' dep' hs' ∧ (inWay S k = true → got'.length = got.length + 1) := by
  unfold ES.step
  by_cases e : inWay S k = true
  · rw [if_pos e]
    have hk : k.toNat < S.way.length := by unfold inWay at e; simp at e; omega
    obtain ⟨g, d, q, h1, h2⟩ := h.get N hk
    exact ⟨g, d, q, h1, fun _ => h2⟩
  · rw [if_neg e]; exact ⟨got, dep, hs, h, fun h => absurd h e⟩
theorem esAt_inv (N : Nbs n nb) (hs : s < n) (o : List Int) (m : Nat) : ∃ got dep hs, EInv n nb s (esAt nb s o m) got dep hs := by
  induction m with
  | zero => exact ⟨[], _, [], EInv.begin N hs⟩
  | succ m ih =>
    obtain ⟨got, dep, hs, h⟩ := ih
    obtain ⟨g, d, q, h1, _⟩ := h.step N (o.getD m 0)
    exact ⟨g, d, q, h1⟩

/-- When a message has come to the start on each link, then to each that has heard. -/
theorem EInv.done_all (h : EInv n nb s S got dep hs) (N : Nbs n nb) (hd : S.took s = (nb s).length) : ∀ (d i : Nat), dep i ≤ d → (i = s ∨ 0 < S.took i) → S.took i = (nb i).length := by
  intro d
  induction d with
  | zero =>
    intro i hi hh
    by_cases e : i = s
    · rw [e]; exact hd
    · obtain ⟨p, _, _, _, h4⟩ := h.par1 i e (hh.resolve_left e); omega
  | succ d ih =>
    intro i hi hh
    by_cases e : i = s
    · rw [e]; exact hd
    · obtain ⟨p, h1, h2, h3, h4⟩ := h.par1 i e (hh.resolve_left e)
      have hp := ih p (by omega) h3
      have hg := h.full N hp (N.comm i p h2)
      have hS := (h.mem i p).1 (List.mem_append.2 (.inr hg))
      rcases hS.2 with e1 | ⟨_, e1 | e1⟩
      · exact absurd e1 e
      · exact absurd h1 e1
      · exact e1
/-- Then nobody else is joined with those that have heard. -/
theorem EInv.done_closed (h : EInv n nb s S got dep hs) (N : Nbs n nb) (hd : S.took s = (nb s).length) {i j : Nat} (hi : i = s ∨ 0 < S.took i) (hj : j ∈ nb i) : (j = s ∨ 0 < S.took j) ∧ (i, j) ∈ S.way ++ got := by
  have hc := h.done_all N hd (dep i) i (Nat.le_refl _) hi
  have hg := h.full N hc hj
  refine ⟨?_, (h.mem i j).2 ⟨hj, ?_⟩⟩
  · rcases ((h.mem j i).1 (List.mem_append.2 (.inr hg))).2 with e | e
    · exact .inl e
    · exact .inr e.1
  · rcases hi with e | e
    · exact .inl e
    · exact .inr ⟨e, .inr hc⟩
/-- When nothing is in transit it is done. -/
theorem EInv.quiet (h : EInv n nb s S got dep hs) (N : Nbs n nb) (hw : S.way = []) : S.took s = (nb s).length := by
  have hgot : ∀ i j, Sent nb s S i j → (i, j) ∈ got := fun i j hS => by
    have := (h.mem i j).2 hS
    rw [hw] at this
    simpa using this
  have htk : ∀ i j, (i, j) ∈ got → 0 < S.took j := fun i j hg => by
    rw [h.took j]
    exact List.length_pos_of_mem (List.mem_filter.2 ⟨hg, by simp⟩)
  have hdep : ∀ j, (j = s ∨ 0 < S.took j) → dep j < n := fun j hj => by
    by_cases e : j = s
    · rw [e, h.dep0]; have := h.lts; omega
    · have := h.depL j e (hj.resolve_left e); have := h.hsLen N; omega
  have key : ∀ (d j : Nat), n ≤ dep j + d → (j = s ∨ 0 < S.took j) → S.took j = (nb j).length := by
    intro d
    induction d with
    | zero => intro j h1 h2; have := hdep j h2; omega
    | succ d ih =>
      intro j h1 h2
      refine h.all N fun i hi => hgot i j ⟨N.comm j i hi, ?_⟩
      by_cases es : i = s
      · exact .inl es
      · right
        have hti : 0 < S.took i := by
          by_cases ep : j ≠ s ∧ S.par j = (i : Int)
          · obtain ⟨p, e1, _, e3, _⟩ := h.par1 j ep.1 (h2.resolve_left ep.1)
            have : p = i := by have := ep.2; omega
            rw [this] at e3
            exact e3.resolve_left es
          · refine htk j i (hgot j i ⟨hi, ?_⟩)
            by_cases ej : j = s
            · exact .inl ej
            · exact .inr ⟨h2.resolve_left ej, .inl fun e => ep ⟨ej, e⟩⟩
        refine ⟨hti, ?_⟩
        by_cases ep : S.par i = (j : Int)
        · right
          obtain ⟨p, e1, _, _, e4⟩ := h.par1 i es hti
          have : p = j := by omega
          rw [this] at e4
          exact ih i (by omega) (.inr hti)
        · exact .inl ep
  exact key n s (by omega) (.inl rfl)
end
#print axioms EInv.quiet
#print axioms EInv.get
end Go.Proofs.Ytieicimoolegoaa
