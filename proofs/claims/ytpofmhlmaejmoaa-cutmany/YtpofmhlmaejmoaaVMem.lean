/-
  Words for memory: the vectors of the first events, the latest one of each process, those that messages carry: as vector.Vectors lays them.
-/
import Derived.Test.YtpofmhlmaejmoaaIntW
import Derived.Test.YtpofmhlmaejmoaaVRs
import Derived.Test.YtpofmhlmaejmoaaVec
namespace Go.Proofs.Ytpofmhlmaejmoaa
open Go.RowKit Go.Maps

/-- The slice of an event's vector, or nil. -/
def slotV (c : Nat) (gs : Nat → Nat) : Option Nat → Value
  | none => .slice none 0 0
  | some i => .slice (some ⟨gs i, 0, none⟩) c c
def hput (gs : Nat → Nat) (k g : Nat) : Nat → Nat := fun i => if i = k then g else gs i
theorem slotV_hput {c : Nat} {gs : Nat → Nat} {k g : Nat} {o : Option Nat} (h : ∀ i, o = some i → i < k) : slotV c (hput gs k g) o = slotV c gs o := by
  cases o with
  | none => rfl
  | some i =>
    have := h i rfl
    have e : ¬ i = k := by omega
    simp [slotV, hput, e]
def latRow (l : List Ev) (c : Nat) (gs : Nat → Nat) (k : Nat) : List Value := (List.range c).map fun (q : Nat) => slotV c gs (latest l k (q : Int))
theorem latRow_len (l : List Ev) (c : Nat) (gs : Nat → Nat) (k : Nat) : (latRow l c gs k).length = c := by simp [latRow]
theorem latest_lt {l : List Ev} {k : Nat} {p : Int} {i : Nat} (h : latest l k p = some i) : i < k := (lastOf_some h).1
theorem sends_lt {l : List Ev} {k : Nat} {m : Int} {i : Nat} (h : sends l k m = some i) : i < k := (lastOf_some h).1
theorem latRow_zero (l : List Ev) (c : Nat) (gs : Nat → Nat) : List.replicate c (Value.slice none 0 0) = latRow l c gs 0 := by
  apply List.ext_getElem
  · simp [latRow]
  · intro b h1 h2; simp [latRow, latest, lastOf, slotV]
theorem latRow_set {l : List Ev} {c : Nat} {gs : Nat → Nat} {k p : Nat} (g : Nat) (hp : (ev l k).p = (p : Int)) : (latRow l c gs k).set p (.slice (some ⟨g, 0, none⟩) c c) = latRow l c (hput gs k g) (k + 1) := by
  apply List.ext_getElem
  · simp [latRow]
  · intro b h1 h2
    rw [List.getElem_set]
    have hb : (latRow l c (hput gs k g) (k + 1))[b] = slotV c (hput gs k g) (latest l (k + 1) (b : Int)) := by simp [latRow]
    rw [hb, latest_succ]
    by_cases e : p = b
    · subst e
      rw [if_pos rfl, if_pos hp.symm]
      simp [slotV, hput]
    · rw [if_neg e, if_neg (by rw [hp]; omega), slotV_hput fun i hi => latest_lt hi]
      simp [latRow]

/-- The numbers of an event's vector. -/
def vlist (l : List Ev) (c i : Nat) : List Int := (List.range c).map fun (p : Nat) => ((vec l i (p : Int) : Nat) : Int)
theorem vlist_len (l : List Ev) (c i : Nat) : (vlist l c i).length = c := by simp [vlist]
theorem vlist_at (l : List Ev) {c : Nat} (i : Nat) {p : Nat} (h : p < c) : vat (vlist l c i) p = ((vec l i (p : Int) : Nat) : Int) := by
  rw [vat_get _ (by rw [vlist_len]; exact h)]
  simp [vlist]

structure VMem (l : List Ev) (c T L M : Nat) (gs : Nat → Nat) (k : Nat) (w : World) : Prop where
  top : ∃ xs, Row w T 23 xs ∧ xs.length = l.length ∧ ∀ i, i < k → xs[i]? = some (slotV c gs (some i))
  lat : Row w L 23 (latRow l c gs k)
  row : ∀ i, i < k → IntRow w (gs i) c (fun p => ((vec l i (p : Int) : Nat) : Int))
  hi : ∀ i, i < k → M < gs i
  ord : T < L ∧ L < M

section
variable {l : List Ev} {c T L M : Nat} {gs : Nat → Nat} {k : Nat} {w w' : World}
theorem VMem.topLt (h : VMem l c T L M gs k w) : T < w.heap.size := by obtain ⟨_, h1, _⟩ := h.top; exact h1.lt
theorem VMem.gsLt (h : VMem l c T L M gs k w) {i : Nat} (hi : i < k) : gs i < w.heap.size := Row.lt (h.row i hi)
theorem VMem.keep (h : VMem l c T L M gs k w) (hb : Below w.heap.size w w') : VMem l c T L M gs k w' := by
  obtain ⟨⟨xs, h1, h2⟩, h3, h4, h5, h6⟩ := h
  exact ⟨⟨xs, h1.below hb h1.lt, h2⟩, h3.below hb h3.lt, fun i hi => Row.below (h4 i hi) hb (Row.lt (h4 i hi)), h5, h6⟩
theorem VMem.keepG (h : VMem l c T L M gs k w) {b : Nat} (hb : Below b w w') (hM : M < b) (hg : ∀ i, i < k → gs i < b) : VMem l c T L M gs k w' := by
  obtain ⟨⟨xs, h1, h2⟩, h3, h4, h5, h6⟩ := h
  exact ⟨⟨xs, h1.below hb (by omega), h2⟩, h3.below hb (by omega), fun i hi => Row.below (h4 i hi) hb (hg i hi), h5, h6⟩
theorem VMem.mapped (h : VMem l c T L M gs k w) (hg : w.grownBy w' (some M)) : VMem l c T L M gs k w' := by
  obtain ⟨⟨xs, h1, h2⟩, h3, h4, h5, h6⟩ := h
  exact ⟨⟨xs, h1.grown hg (by simp; omega), h2⟩, h3.grown hg (by simp; omega), fun i hi => Row.grown (h4 i hi) hg (by have := h5 i hi; simp; omega), h5, h6⟩
theorem VMem.far (h : VMem l c T L M gs k w) {g : Nat} (hg : M < g) (hgs : ∀ i, i < k → gs i ≠ g) (j : Nat) (u : Value) : VMem l c T L M gs k (w.setCell ⟨g, j, none⟩ u) := by
  obtain ⟨⟨xs, h1, h2⟩, h3, h4, h5, h6⟩ := h
  exact ⟨⟨xs, h1.far (p := ⟨g, j, none⟩) (by show T ≠ g; omega) u, h2⟩, h3.far (p := ⟨g, j, none⟩) (by show L ≠ g; omega) u, fun i hi => Row.far (h4 i hi) (p := ⟨g, j, none⟩) (hgs i hi) u, h5, h6⟩
theorem VMem.latCell (h : VMem l c T L M gs k w) {q : Nat} (hq : q < c) : w.cell? ⟨L, q, none⟩ = some (slotV c gs (latest l k (q : Int))) := by
  rw [h.lat.cell (i := q) (by rw [latRow_len]; exact hq)]
  simp [latRow]
theorem VMem.latFrozen (h : VMem l c T L M gs k w) (q : Nat) : w.frozen? ⟨L, q, none⟩ = false := h.lat.frozen q
theorem VMem.topCell (h : VMem l c T L M gs k w) {i : Nat} (hi : i < l.length) : ∃ v, w.cell? ⟨T, i, none⟩ = some v := by
  obtain ⟨xs, h1, h2, _⟩ := h.top
  exact ⟨_, h1.cell (i := i) (by omega)⟩
theorem VMem.topFrozen (h : VMem l c T L M gs k w) (i : Nat) : w.frozen? ⟨T, i, none⟩ = false := by obtain ⟨_, h1, _⟩ := h.top; exact h1.frozen i

/-- What the slice of an event that may be lacking reads as, and what it raises. -/
theorem VMem.slot (h : VMem l c T L M gs k w) {o : Option Nat} (ho : ∀ i, o = some i → i < k) : ∃ A cap, ∃ a : List Int, slotV c gs o = .slice A a.length cap ∧ Nums w w.heap.size A a ∧ a.length ≤ c ∧ ∀ f : Nat → Nat, ∀ q, q < c → raised (fun q => (f q : Int)) a a.length q = ((max (f q) (vecO l o (q : Int)) : Nat) : Int) := by
  cases o with
  | none =>
    refine ⟨none, 0, [], rfl, fun h => absurd h (by simp), Nat.zero_le _, fun f q _ => ?_⟩
    simp [raised, vecO]
  | some i =>
    have hi := ho i rfl
    have hR := h.row i hi
    refine ⟨some ⟨gs i, 0, none⟩, c, vlist l c i, by rw [vlist_len]; rfl, hR.numsAt (Row.lt hR) (vlist_len l c i) (fun j hj => ?_), by rw [vlist_len]; exact Nat.le_refl _, fun f q hq => ?_⟩
    · simp [vlist]
    · unfold raised
      rw [vlist_len, if_pos hq, vlist_at l i hq]
      simp only [vecO]
      omega

/-- The vector of event k is laid into the result, and as its process's latest. -/
theorem VMem.push (h : VMem l c T L M gs k w) {g p : Nat} (hk : k < l.length) (hp : (ev l k).p = (p : Int)) (hg : M < g) (hgs : ∀ i, i < k → gs i ≠ g) (hR : IntRow w g c (fun q => ((vec l k (q : Int) : Nat) : Int))) :
    VMem l c T L M (hput gs k g) (k + 1) ((w.setCell ⟨T, k, none⟩ (.slice (some ⟨g, 0, none⟩) c c)).setCell ⟨L, p, none⟩ (.slice (some ⟨g, 0, none⟩) c c)) := by
  obtain ⟨⟨xs, h1, h2, h3⟩, h4, h5, h6, h7⟩ := h
  refine ⟨⟨_, (h1.set k _).far (p := ⟨L, p, none⟩) (by show T ≠ L; omega) _, by rw [List.length_set]; exact h2, fun i hi => ?_⟩, ?_, fun i hi => ?_, fun i hi => ?_, h7⟩
  · by_cases e : i = k
    · subst e
      rw [List.getElem?_set_self (by omega)]
      simp [slotV, hput]
    · rw [List.getElem?_set_ne (fun h => e h.symm), h3 i (by omega)]
      simp [slotV, hput, e]
  · have := (h4.far (p := ⟨T, k, none⟩) (by show L ≠ T; omega) (.slice (some ⟨g, 0, none⟩) c c)).set p (.slice (some ⟨g, 0, none⟩) c c)
    rw [latRow_set g hp] at this
    exact this
  · by_cases e : i = k
    · subst e
      have e1 : hput gs i g i = g := by simp [hput]
      rw [e1]
      exact Row.far (Row.far hR (p := ⟨T, i, none⟩) (by show g ≠ T; omega) _) (p := ⟨L, p, none⟩) (by show g ≠ L; omega) _
    · have e1 : hput gs k g i = gs i := by simp [hput, e]
      have := h6 i (by omega)
      rw [e1]
      exact Row.far (Row.far (h5 i (by omega)) (p := ⟨T, k, none⟩) (by show gs i ≠ T; omega) _) (p := ⟨L, p, none⟩) (by show gs i ≠ L; omega) _
  · unfold hput
    split
    · exact hg
    · exact h6 i (by omega)

/-- What messages carry, behind event k. -/
theorem carry_other {m : Int} (h : (ev l k).k ≠ 2) (g : Nat) : slotV c gs (sends l k m) = slotV c (hput gs k g) (sends l (k + 1) m) := by
  rw [sends_succ, if_neg (fun hh => h hh.1), slotV_hput fun i hi => sends_lt hi]
theorem carry_send {mm : Int} (h : (ev l k).k = 2) (hm : (ev l k).m = mm) (g : Nat) (m : Int) : putV (fun m => slotV c gs (sends l k m)) mm (.slice (some ⟨g, 0, none⟩) c c) m = slotV c (hput gs k g) (sends l (k + 1) m) := by
  rw [sends_succ]
  unfold putV
  by_cases e : m = mm
  · rw [if_pos e, if_pos ⟨h, by rw [hm]; exact e⟩]
    simp [slotV, hput]
  · rw [if_neg e, if_neg (fun hh => e (by rw [← hm]; exact hh.2)), slotV_hput fun i hi => sends_lt hi]
end

/-- The vectors of all events, for whoever reads them. -/
structure VOut (l : List Ev) (c T : Nat) (gs : Nat → Nat) (w : World) : Prop where
  lt : T < w.heap.size
  slot : ∀ i, i < l.length → w.cell? ⟨T, i, none⟩ = some (.slice (some ⟨gs i, 0, none⟩) c c)
  nums : ∀ i, i < l.length → Nums w w.heap.size (some ⟨gs i, 0, none⟩) (vlist l c i)
theorem VOut.below {l : List Ev} {c T : Nat} {gs : Nat → Nat} {w w' : World} (h : VOut l c T gs w) (hb : Below w.heap.size w w') : VOut l c T gs w' :=
  ⟨by have := h.lt; have := hb.size; omega, fun i hi => by rw [hb.cell h.lt]; exact h.slot i hi, fun i hi => ((h.nums i hi).below hb).more hb.size⟩
theorem VMem.out {l : List Ev} {c T L M : Nat} {gs : Nat → Nat} {w : World} (h : VMem l c T L M gs l.length w) : VOut l c T gs w := by
  refine ⟨h.topLt, fun i hi => ?_, fun i hi => ?_⟩
  · obtain ⟨xs, h1, h2, h3⟩ := h.top
    have h4 := h3 i hi
    rw [List.getElem?_eq_getElem (by omega)] at h4
    rw [h1.cell (by omega)]
    exact h4
  · have hR := h.row i hi
    exact hR.numsAt (Row.lt hR) (vlist_len l c i) (fun j hj => by simp [vlist])

#print axioms VMem.out
end Go.Proofs.Ytpofmhlmaejmoaa
