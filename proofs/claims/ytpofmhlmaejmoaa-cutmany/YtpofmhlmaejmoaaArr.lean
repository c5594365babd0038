/-
  Words for memory: cuts as arrays of six numbers, and slices of them that the call has made.
-/
import Derived.Test.YtpofmhlmaejmoaaMapA
import Derived.Test.YtpofmhlmaejmoaaMny
import Derived.Test.YtpofmhlmaejmoaaLV
import Derived.Test.YtpofmhlmaejmoaaVPure
import Derived.Laws.OwnMore
namespace Go.Proofs.Ytpofmhlmaejmoaa
open Go.RowKit Go.Maps

def cells6 (F : Nat → Nat) : List Value := [.int .i64 (F 0 : Int), .int .i64 (F 1 : Int), .int .i64 (F 2 : Int), .int .i64 (F 3 : Int), .int .i64 (F 4 : Int), .int .i64 (F 5 : Int)]
def ints6 (F : Nat → Nat) : List Int := [(F 0 : Int), (F 1 : Int), (F 2 : Int), (F 3 : Int), (F 4 : Int), (F 5 : Int)]
theorem lt6 {j : Nat} (h : j < 6) : j = 0 ∨ j = 1 ∨ j = 2 ∨ j = 3 ∨ j = 4 ∨ j = 5 := by omega
theorem cells6_at (F : Nat → Nat) {j : Nat} (h : j < 6) : (cells6 F)[j]? = some (.int .i64 (F j : Int)) := by
  rcases lt6 h with rfl | rfl | rfl | rfl | rfl | rfl <;> rfl
theorem ints6_at (F : Nat → Nat) {j : Nat} (h : j < 6) : vat (ints6 F) j = (F j : Int) := by
  rcases lt6 h with rfl | rfl | rfl | rfl | rfl | rfl <;> rfl
theorem cells6_set (F : Nat → Nat) {q : Nat} (h : q < 6) : (cells6 F).set q (.int .i64 ((F q : Int) + 1)) = cells6 (bump F q) := by
  apply List.ext_getElem?
  intro j
  rcases Nat.lt_or_ge j 6 with hj | hj
  · rw [cells6_at _ hj]
    by_cases e : q = j
    · subst e
      rw [List.getElem?_set_self (by exact h), bump_same]
      rfl
    · rw [List.getElem?_set_ne e, cells6_at _ hj, bump_other F (fun h => e h.symm)]
  · rw [List.getElem?_eq_none (by rw [List.length_set]; exact hj), List.getElem?_eq_none hj]

/-- Block g is the array F. -/
def Row6 (w : World) (g : Nat) (F : Nat → Nat) : Prop := Row w g 60 (cells6 F)
structure At6 (w : World) (g off : Nat) (F : Nat → Nat) : Prop where
  c0 : w.cell? ⟨g, off, none⟩ = some (.int .i64 (F 0 : Int))
  c1 : w.cell? ⟨g, off + 1, none⟩ = some (.int .i64 (F 1 : Int))
  c2 : w.cell? ⟨g, off + 2, none⟩ = some (.int .i64 (F 2 : Int))
  c3 : w.cell? ⟨g, off + 3, none⟩ = some (.int .i64 (F 3 : Int))
  c4 : w.cell? ⟨g, off + 4, none⟩ = some (.int .i64 (F 4 : Int))
  c5 : w.cell? ⟨g, off + 5, none⟩ = some (.int .i64 (F 5 : Int))
section
variable {w w' : World} {g : Nat} {F : Nat → Nat}
theorem Row6.at_ (h : Row6 w g F) {j : Nat} (hj : j < 6) : w.cell? ⟨g, j, none⟩ = some (.int .i64 (F j : Int)) := by
  have hl : j < (cells6 F).length := hj
  have h1 := Row.cell h hl
  have h2 := cells6_at F hj
  rw [List.getElem?_eq_getElem hl] at h2
  rw [h1, h2]
theorem Row6.all (h : Row6 w g F) : At6 w g 0 F := ⟨h.at_ (by omega), h.at_ (by omega), h.at_ (by omega), h.at_ (by omega), h.at_ (by omega), h.at_ (by omega)⟩
theorem Row6.made (w : World) (F : Nat → Nat) : Row6 (w.alloc (.cells #[.int .i64 (F 0 : Int), .int .i64 (F 1 : Int), .int .i64 (F 2 : Int), .int .i64 (F 3 : Int), .int .i64 (F 4 : Int), .int .i64 (F 5 : Int)] 60)) w.heap.size F := Row.made w _ (cells6 F)
theorem Row6.bump (h : Row6 w g F) {q : Nat} (hq : q < 6) : Row6 (w.setCell ⟨g, q, none⟩ (.int .i64 ((F q : Int) + 1))) g (bump F q) := by
  have h1 := Row.set h q (.int .i64 ((F q : Int) + 1))
  rw [cells6_set F hq] at h1
  exact h1
theorem Row6.nums (h : Row6 w g F) {B : Nat} (hg : g < B) : Nums w B (some ⟨g, 0, none⟩) (ints6 F) := fun _ => ⟨g, 0, rfl, hg, fun i hi => by
  rw [Nat.zero_add, h.at_ (by exact hi), ← vat_get (ints6 F) hi, ints6_at F (by exact hi)]⟩
end

def flat6 (fs : List (Nat → Nat)) : List Value := fs.flatMap cells6
theorem flat6_len (fs : List (Nat → Nat)) : (flat6 fs).length = fs.length * 6 := by
  unfold flat6
  induction fs with
  | nil => rfl
  | cons f r ih => rw [List.flatMap_cons, List.length_append, ih, List.length_cons]; show 6 + _ = _; omega
theorem flat6_append (fs : List (Nat → Nat)) (F : Nat → Nat) : flat6 (fs ++ [F]) = flat6 fs ++ cells6 F := by
  unfold flat6
  rw [List.flatMap_append]
  simp
theorem flat6_at (fs : List (Nat → Nat)) {i j : Nat} (hi : i < fs.length) (hj : j < 6) : (flat6 fs)[i * 6 + j]? = some (.int .i64 (fs[i] j : Int)) := by
  induction fs generalizing i with
  | nil => simp at hi
  | cons f r ih =>
    have e : flat6 (f :: r) = cells6 f ++ flat6 r := by unfold flat6; rw [List.flatMap_cons]
    rw [e]
    cases i with
    | zero =>
      rw [List.getElem?_append_left (by show 0 * 6 + j < 6; omega)]
      rw [Nat.zero_mul, Nat.zero_add, cells6_at f hj]
      rfl
    | succ i =>
      rw [List.getElem?_append_right (by show 6 ≤ _; omega)]
      have : (i + 1) * 6 + j - (cells6 f).length = i * 6 + j := by show (i + 1) * 6 + j - 6 = _; omega
      rw [this, ih (by simpa using hi)]
      rfl

/-- A slice of cuts that the call has made. -/
def OwnCuts (w : World) (B : Nat) (v : Value) (fs : List (Nat → Nat)) : Prop := w.ownsRow B 60 6 v fs.length (flat6 fs)
section
variable {w w' : World} {B : Nat} {v : Value} {fs : List (Nat → Nat)} {F : Nat → Nat}
theorem OwnCuts.push {g cap : Nat} (h : w.ownsRow B 60 6 (.slice (some ⟨g, 0, none⟩) (fs.length + 1) cap) (fs.length + 1) (flat6 fs ++ cells6 F)) : OwnCuts w B (.slice (some ⟨g, 0, none⟩) (fs.length + 1) cap) (fs ++ [F]) := by
  unfold OwnCuts
  rw [flat6_append, List.length_append]
  exact h
theorem OwnCuts.below (h : OwnCuts w B v fs) {b : Nat} (hb : Below b w w') (hw : w.heap.size ≤ b) : OwnCuts w' B v fs := by
  have hlt := World.ownsRow.lt h
  refine ⟨h.1, ?_⟩
  rcases h.2 with h7 | ⟨g, cap, cur, hv, hb', hg, rest⟩
  · exact .inl h7
  · refine .inr ⟨g, cap, cur, hv, hb', ?_, rest⟩
    rw [hb.block g (by have := (hlt g (by rw [hv]; rfl)).2; omega)]
    exact hg
theorem OwnCuts.alloc (h : OwnCuts w B v fs) (o : Obj) : OwnCuts (w.alloc o) B v fs := World.ownsRow.alloc h o
theorem OwnCuts.far (h : OwnCuts w B v fs) {p : Addr} (hp : v.ownBlock ≠ some p.block) (u : Value) : OwnCuts (w.setCell p u) B v fs := by
  refine ⟨h.1, ?_⟩
  rcases h.2 with h7 | ⟨g, cap, cur, hv, hb', hg, rest⟩
  · exact .inl h7
  · refine .inr ⟨g, cap, cur, hv, hb', ?_, rest⟩
    rw [Below.heap_setCell w p u g (fun e => hp (by rw [hv]; simp [Value.ownBlock, e]))]
    exact hg
theorem OwnCuts.heap (h : OwnCuts w B v fs) (e : w'.heap = w.heap) : OwnCuts w' B v fs := by
  refine ⟨h.1, ?_⟩
  rcases h.2 with h7 | ⟨g, cap, cur, hv, hb', hg, rest⟩
  · exact .inl h7
  · exact .inr ⟨g, cap, cur, hv, hb', by rw [e]; exact hg, rest⟩
/-- What it looks like. -/
theorem OwnCuts.shape (h : OwnCuts w B v fs) : ∃ A cap, v = .slice A fs.length cap ∧ fs.length ≤ cap ∧ cap ≤ maxLen ∧ ∀ i, (hi : i < fs.length) → ∃ g, A = some ⟨g, 0, none⟩ ∧ B ≤ g ∧ g < w.heap.size ∧ At6 w g (i * 6) fs[i] := by
  have hlt := World.ownsRow.lt h
  have hc := @World.ownsRow.cellAt
  rcases h.2 with ⟨h7, h8⟩ | ⟨g, cap, cur, hv, hb', hg', hc1, hc2, hc3, hc4⟩
  · exact ⟨none, 0, by rw [h7, h8], by omega, by unfold maxLen; omega, fun q hq => by omega⟩
  · refine ⟨_, cap, hv, hc1, hc2, fun i hi => ⟨g, rfl, hb', (hlt g (by rw [hv]; rfl)).2, ?_⟩⟩
    have key : ∀ j, j < 6 → w.cell? ⟨g, i * 6 + j, none⟩ = some (.int .i64 (fs[i] j : Int)) := fun j hj => by
      rw [cell_of_row w g (i * 6 + j) cur 60 (0, 0) hg', ← flat6_at fs hi hj, ← hc4, List.getElem?_take, if_pos (by omega)]
      simp
    exact ⟨key 0 (by omega), key 1 (by omega), key 2 (by omega), key 3 (by omega), key 4 (by omega), key 5 (by omega)⟩
/-- 's = s[:len(s)-1]'. -/
theorem OwnCuts.pop {A : Option Addr} {cap : Nat} (h : OwnCuts w B (.slice A (fs.length + 1) cap) (fs ++ [F])) : OwnCuts w B (.slice A fs.length cap) fs := by
  refine ⟨flat6_len fs, ?_⟩
  rcases h.2 with ⟨h7, h8⟩ | ⟨g, cap', cur, hv, hb', hg', hc1, hc2, hc3, hc4⟩
  · simp at h8
  · injection hv with e1 e2 e3
    subst e1 e3
    refine .inr ⟨g, cap, cur, rfl, hb', hg', by simp at hc1; omega, hc2, hc3, ?_⟩
    have h9 : (cur.toList.take ((fs ++ [F]).length * 6)).take (fs.length * 6) = (flat6 (fs ++ [F])).take (fs.length * 6) := by rw [hc4]
    rw [List.take_take, Nat.min_eq_left (by simp; omega)] at h9
    rw [h9, flat6_append, List.take_append_of_le_length (by rw [flat6_len]; exact Nat.le_refl _), List.take_of_length_le (by rw [flat6_len]; exact Nat.le_refl _)]
end
theorem news6 {w : World} {g : Nat} (F : Nat → Nat) (h : g = w.heap.size) : ∀ j u, (cells6 F)[j]? = some u → (w.alloc (.cells #[.int .i64 (F 0 : Int), .int .i64 (F 1 : Int), .int .i64 (F 2 : Int), .int .i64 (F 3 : Int), .int .i64 (F 4 : Int), .int .i64 (F 5 : Int)] 60)).cell? ((⟨g, 0, none⟩ : Addr).add j) = some u := by
  subst h
  exact World.news_of_block (cs := #[.int .i64 (F 0 : Int), .int .i64 (F 1 : Int), .int .i64 (F 2 : Int), .int .i64 (F 3 : Int), .int .i64 (F 4 : Int), .int .i64 (F 5 : Int)]) (fr := (0, 0)) (heap_alloc_new w _)

/-- A slice of cuts that is read; it lies in a block from lo to hi. -/
def CutsAt (w : World) (lo hi : Nat) (A : Option Addr) (fs : List (Nat → Nat)) : Prop := ∀ i, (h : i < fs.length) → ∃ g, A = some ⟨g, 0, none⟩ ∧ lo ≤ g ∧ g < hi ∧ At6 w g (i * 6) fs[i]
theorem At6.cells {w w' : World} {g off : Nat} {F : Nat → Nat} (h : At6 w g off F) (hc : ∀ j, w'.cell? ⟨g, j, none⟩ = w.cell? ⟨g, j, none⟩) : At6 w' g off F :=
  ⟨by rw [hc]; exact h.c0, by rw [hc]; exact h.c1, by rw [hc]; exact h.c2, by rw [hc]; exact h.c3, by rw [hc]; exact h.c4, by rw [hc]; exact h.c5⟩
theorem At6.below {w w' : World} {g off : Nat} {F : Nat → Nat} (h : At6 w g off F) {b : Nat} (hb : Below b w w') (hg : g < b) : At6 w' g off F := h.cells fun _ => hb.cell hg
theorem CutsAt.below {w w' : World} {lo hi : Nat} {A : Option Addr} {fs : List (Nat → Nat)} (h : CutsAt w lo hi A fs) {b : Nat} (hb : Below b w w') (hB : hi ≤ b) : CutsAt w' lo hi A fs := fun i hi => by
  obtain ⟨g, h1, h0, h2, h3⟩ := h i hi
  exact ⟨g, h1, h0, h2, h3.below hb (by omega)⟩
theorem CutsAt.grown {w w' : World} {lo hi : Nat} {A : Option Addr} {fs : List (Nat → Nat)} (h : CutsAt w lo hi A fs) {row : Option Nat} (hg : w.grownBy w' row) (hs : hi ≤ w.heap.size) (hne : ∀ g, lo ≤ g → g < hi → some g ≠ row) : CutsAt w' lo hi A fs := fun i hi => by
  obtain ⟨g, h1, h0, h2, h3⟩ := h i hi
  refine ⟨g, h1, h0, h2, ?_⟩
  have hb := hg.block g (by omega) (hne g h0 h2)
  exact ⟨hg.cell h3.c0 (hne g h0 h2), hg.cell h3.c1 (hne g h0 h2), hg.cell h3.c2 (hne g h0 h2), hg.cell h3.c3 (hne g h0 h2), hg.cell h3.c4 (hne g h0 h2), hg.cell h3.c5 (hne g h0 h2)⟩
theorem CutsAt.alloc {w : World} {lo hi : Nat} {A : Option Addr} {fs : List (Nat → Nat)} (h : CutsAt w lo hi A fs) (hs : hi ≤ w.heap.size) (o : Obj) : CutsAt (w.alloc o) lo hi A fs := h.grown (World.grownBy_alloc w o none) hs (fun _ _ _ => by simp)

theorem info60 : (Try.prog.info? 60).map (fun i => (i.zero, i.size, i.bytes)) = some (some (arr6 fun _ => 0), 6, 48) := by kernel_rfl

open Classical in
/-- The cuts that are one event of the first k processes more. -/
noncomputable def exts (l : List Ev) (c : Nat) (F : Nat → Nat) : Nat → List (Nat → Nat)
  | 0 => []
  | k + 1 => if CutF l c (bump F k) then exts l c F k ++ [bump F k] else exts l c F k
theorem exts_yes {l : List Ev} {c : Nat} {F : Nat → Nat} {k : Nat} (h : CutF l c (bump F k)) : exts l c F (k + 1) = exts l c F k ++ [bump F k] := by rw [exts, if_pos h]
theorem exts_no {l : List Ev} {c : Nat} {F : Nat → Nat} {k : Nat} (h : ¬ CutF l c (bump F k)) : exts l c F (k + 1) = exts l c F k := by rw [exts, if_neg h]
theorem exts_len (l : List Ev) (c : Nat) (F : Nat → Nat) (k : Nat) : (exts l c F k).length ≤ k := by
  induction k with
  | zero => exact Nat.le_refl _
  | succ k ih =>
    unfold exts
    split
    · simp; omega
    · omega
theorem exts_mem (l : List Ev) (c : Nat) (F G : Nat → Nat) (k : Nat) : G ∈ exts l c F k ↔ ∃ q, q < k ∧ CutF l c (bump F q) ∧ G = bump F q := by
  induction k with
  | zero => simp [exts]
  | succ k ih =>
    by_cases hk : CutF l c (bump F k)
    · rw [exts_yes hk, List.mem_append, ih]
      constructor
      · rintro (⟨q, h1, h2, h3⟩ | h)
        · exact ⟨q, by omega, h2, h3⟩
        · exact ⟨k, by omega, hk, by simpa using h⟩
      · rintro ⟨q, h1, h2, h3⟩
        by_cases e : q = k
        · right; simp [h3, e]
        · exact .inl ⟨q, by omega, h2, h3⟩
    · rw [exts_no hk, ih]
      constructor
      · rintro ⟨q, h1, h2, h3⟩; exact ⟨q, by omega, h2, h3⟩
      · rintro ⟨q, h1, h2, h3⟩
        by_cases e : q = k
        · rw [e] at h2; exact absurd h2 hk
        · exact ⟨q, by omega, h2, h3⟩

/-- What the work list keeps to, between two rounds. -/
structure ManInv (l : List Ev) (c : Nat) (ks ps : List (Nat → Nat)) : Prop where
  once : ks.Nodup
  cuts : ∀ F ∈ ks, CutF l c F
  zero : (fun _ => 0) ∈ ks
  sub : ∀ F ∈ ps, F ∈ ks
  closed : ∀ F ∈ ks, F ∉ ps → ∀ q, q < c → CutF l c (bump F q) → bump F q ∈ ks
/-- And inside one, which has taken F, up to its j-th extension. -/
structure ManIn (l : List Ev) (c : Nat) (F : Nat → Nat) (j : Nat) (ks ps : List (Nat → Nat)) : Prop where
  once : ks.Nodup
  cuts : ∀ F ∈ ks, CutF l c F
  zero : (fun _ => 0) ∈ ks
  sub : ∀ F ∈ ps, F ∈ ks
  closed : ∀ G ∈ ks, G ∉ ps → G = F ∨ ∀ q, q < c → CutF l c (bump G q) → bump G q ∈ ks
  done : ∀ i, (h : i < (exts l c F c).length) → i < j → (exts l c F c)[i] ∈ ks
theorem ManInv.start (l : List Ev) (c : Nat) : ManInv l c [fun _ => 0] [fun _ => 0] :=
  ⟨by simp, fun F h => by rw [List.mem_singleton.1 h]; exact CutF.zero l c, by simp, fun _ h => h, fun _ h hn => absurd h hn⟩
theorem ManInv.take {l : List Ev} {c : Nat} {ks ps : List (Nat → Nat)} {F : Nat → Nat} (h : ManInv l c ks (ps ++ [F])) : ManIn l c F 0 ks ps :=
  ⟨h.once, h.cuts, h.zero, fun G hG => h.sub G (by simp [hG]), fun G hG hn => by
    by_cases e : G = F
    · exact .inl e
    · exact .inr (h.closed G hG (by simp [hn, e])), fun i _ hi => by omega⟩
theorem ManIn.old {l : List Ev} {c j : Nat} {ks ps : List (Nat → Nat)} {F : Nat → Nat} (h : ManIn l c F j ks ps) (hj : j < (exts l c F c).length) (hk : (exts l c F c)[j] ∈ ks) : ManIn l c F (j + 1) ks ps :=
  ⟨h.once, h.cuts, h.zero, h.sub, h.closed, fun i hi hij => by
    by_cases e : i = j
    · subst e; exact hk
    · exact h.done i hi (by omega)⟩
theorem ManIn.new {l : List Ev} {c j : Nat} {ks ps : List (Nat → Nat)} {F : Nat → Nat} (h : ManIn l c F j ks ps) (hj : j < (exts l c F c).length) (hk : (exts l c F c)[j] ∉ ks) : ManIn l c F (j + 1) ((exts l c F c)[j] :: ks) (ps ++ [(exts l c F c)[j]]) := by
  have hcut : CutF l c (exts l c F c)[j] := by
    obtain ⟨q, _, h2, h3⟩ := (exts_mem l c F _ c).1 (List.getElem_mem hj)
    rw [h3]; exact h2
  refine ⟨List.nodup_cons.2 ⟨hk, h.once⟩, fun G hG => ?_, List.mem_cons_of_mem _ h.zero, fun G hG => ?_, fun G hG hn => ?_, fun i hi hij => ?_⟩
  · rcases List.mem_cons.1 hG with e | e
    · rw [e]; exact hcut
    · exact h.cuts G e
  · rcases List.mem_append.1 hG with e | e
    · exact List.mem_cons_of_mem _ (h.sub G e)
    · rw [List.mem_singleton.1 e]; exact List.mem_cons_self
  · have hn1 : G ∉ ps := fun e => hn (List.mem_append.2 (.inl e))
    have hn2 : G ≠ (exts l c F c)[j] := fun e => hn (by rw [e]; simp)
    rcases List.mem_cons.1 hG with e | e
    · exact absurd e hn2
    · rcases h.closed G e hn1 with h1 | h1
      · exact .inl h1
      · exact .inr fun q hq hc => List.mem_cons_of_mem _ (h1 q hq hc)
  · by_cases e : i = j
    · subst e; exact List.mem_cons_self
    · exact List.mem_cons_of_mem _ (h.done i hi (by omega))
theorem ManIn.stop {l : List Ev} {c : Nat} {ks ps : List (Nat → Nat)} {F : Nat → Nat} (h : ManIn l c F (exts l c F c).length ks ps) : ManInv l c ks ps :=
  ⟨h.once, h.cuts, h.zero, h.sub, fun G hG hn q hq hc => by
    rcases h.closed G hG hn with h1 | h1
    · subst h1
      obtain ⟨i, hi, he⟩ := List.getElem_of_mem ((exts_mem l c G (bump G q) c).2 ⟨q, hq, hc, rfl⟩)
      rw [← he]
      exact h.done i hi hi
    · exact h1 q hq hc⟩
theorem ManInv.len {l : List Ev} {c : Nat} {ks ps : List (Nat → Nat)} (h : ManInv l c ks ps) : ks.length ≤ (cutsL l c).length := fun_sub h.once fun x hx => (cutsL_mem l c x).2 (h.cuts x hx)
theorem ManIn.len {l : List Ev} {c j : Nat} {F : Nat → Nat} {ks ps : List (Nat → Nat)} (h : ManIn l c F j ks ps) : ks.length ≤ (cutsL l c).length := fun_sub h.once fun x hx => (cutsL_mem l c x).2 (h.cuts x hx)
theorem ManInv.all {l : List Ev} {c : Nat} (g : Good (c : Int) l) {ks : List (Nat → Nat)} (h : ManInv l c ks []) : ks.length = (cutsL l c).length :=
  Nat.le_antisymm h.len (fun_sub (cutsL_nodup l c) fun x hx => all_cuts g h.zero (fun F hF q hq hc => h.closed F hF (by simp) q hq hc) _ x rfl ((cutsL_mem l c x).1 hx))
theorem CutF.six {l : List Ev} {c : Nat} {F : Nat → Nat} (h : CutF l c F) (h30 : l.length ≤ 30) (hc : c ≤ 6) : Six F :=
  ⟨fun i => by
    rcases Nat.lt_or_ge i c with h1 | h1
    · have := h.le i h1
      have := own_le l (i : Int) l.length
      unfold tot at *
      omega
    · rw [h.off i h1]; omega, fun i hi => h.off i (by omega)⟩

theorem MapS.same {w : World} {B : Nat} {ks ks' : List (Nat → Nat)} (h : MapS w B ks) (h' : MapS w B ks') : ks.length = ks'.length := by
  obtain ⟨D, ⟨es, c, h1, _, _, e1⟩, h2, _⟩ := h
  obtain ⟨D', ⟨es', c', h1', _, _, e1'⟩, h2', _⟩ := h'
  rw [h1] at h1'
  injection h1' with h3
  injection h3 with h4
  subst h4
  rw [← h2, ← h2', e1, e1']
open Classical in
noncomputable def mapN (w : World) (B : Nat) : Nat := if h : ∃ ks, MapS w B ks then (Classical.choose h).length else 0
theorem mapN_eq {w : World} {B : Nat} {ks : List (Nat → Nat)} (h : MapS w B ks) : mapN w B = ks.length := by
  have he : ∃ ks, MapS w B ks := ⟨ks, h⟩
  unfold mapN
  rw [dif_pos he]
  exact (Classical.choose_spec he).same h
def lenV : Value → Nat
  | .slice _ n _ => n
  | _ => 0

#print axioms OwnCuts.pop
end Go.Proofs.Ytpofmhlmaejmoaa
