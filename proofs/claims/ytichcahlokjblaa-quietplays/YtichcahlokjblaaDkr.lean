/-
  Words for memory: what beaconryref.Quiet holds; the contracts of its closures that count.
-/
import Derived.Test.YtichcahlokjblaaDkd
import Derived.Test.YtichcahlokjblaaCoq
import Derived.Test.YtichcahlokjblaaLV
import Derived.Laws.OwnMore
namespace Go.Proofs.Ytichcahlokjblaa
open Go.RowKit Go.Maps
set_option linter.unusedVariables false

theorem ownsD_blk {w w' : World} {B : Nat} {e : TypeId} {size n : Nat} {v : Value} {xs : List Value} (h : w.ownsRow B e size v n xs) (hb : ∀ g, v.ownBlock = some g → w'.heap[g]? = w.heap[g]?) : w'.ownsRow B e size v n xs := by
  refine ⟨h.1, ?_⟩
  rcases h.2 with h7 | ⟨g, cap, cur, hv, hb', hg, rest⟩
  · exact .inl h7
  · exact .inr ⟨g, cap, cur, hv, hb', (hb g (by rw [hv]; rfl)).trans hg, rest⟩
theorem ownsD_ne {w : World} {B B' : Nat} {e e' : TypeId} {size size' n n' : Nat} {v v' : Value} {xs ys : List Value} (h : w.ownsRow B e size v n xs) (h' : w.ownsRow B' e' size' v' n' ys) (hne : e ≠ e') {g : Nat} (hg : v.ownBlock = some g) : v'.ownBlock ≠ some g := by
  intro hg'
  rcases h.2 with ⟨rfl, _⟩ | ⟨a, cap, cur, rfl, _, ha, _⟩
  · cases hg
  · rcases h'.2 with ⟨rfl, _⟩ | ⟨c, cap', cur', rfl, _, hc, _⟩
    · cases hg'
    · have e1 : a = g := by simpa [Value.ownBlock] using hg
      have e2 : c = g := by simpa [Value.ownBlock] using hg'
      subst e1
      subst e2
      rw [ha] at hc
      injection hc with hc
      injection hc with _ ht
      exact hne ht
theorem rowD_ne {w : World} {a b : Nat} {t t' : TypeId} {xs ys : List Value} (h : Row w a t xs) (h' : Row w b t' ys) (hne : t ≠ t') : a ≠ b := by
  intro e
  subst e
  unfold Row at h h'
  rw [h] at h'
  injection h' with h'
  injection h' with _ h'
  exact hne h'

/-! A row of bools. -/
def boolR (f : Nat → Bool) (n : Nat) : List Value := (List.range n).map fun j => Value.bool (f j)
theorem boolR_len (f : Nat → Bool) (n : Nat) : (boolR f n).length = n := by simp [boolR]
theorem boolR_get (f : Nat → Bool) {n j : Nat} (h : j < n) : (boolR f n)[j]'(by rw [boolR_len]; exact h) = .bool (f j) := by simp [boolR]
theorem boolR_set (f : Nat → Bool) (n j : Nat) (v : Bool) : (boolR f n).set j (.bool v) = boolR (up1 f j v) n := by
  apply List.ext_getElem
  · simp [boolR]
  · intro b h1 h2
    rw [List.getElem_set]
    by_cases e : j = b
    · subst e; simp [boolR, up1]
    · rw [if_neg e]
      have : ¬ b = j := fun h => e h.symm
      simp [boolR, up1, this]
theorem boolR_zero (n : Nat) : List.replicate n (Value.bool false) = boolR (fun _ => false) n := by
  apply List.ext_getElem
  · simp [boolR]
  · intro b h1 h2; simp [boolR]
abbrev BRowD (w : World) (g n : Nat) (f : Nat → Bool) : Prop := Row w g 4 (boolR f n)
theorem BRowD.at_ {w : World} {g n : Nat} {f : Nat → Bool} (h : BRowD w g n f) {j : Nat} (hj : j < n) : w.cell? ⟨g, j, none⟩ = some (.bool (f j)) := by
  rw [Row.cell h (by rw [boolR_len]; exact hj), boolR_get f hj]
theorem BRowD.put {w : World} {g n : Nat} {f : Nat → Bool} (h : BRowD w g n f) (j : Nat) (v : Bool) : BRowD (w.setCell ⟨g, j, none⟩ (.bool v)) g n (up1 f j v) := by
  have := Row.set h j (.bool v)
  rw [boolR_set] at this
  exact this
theorem BRowD.congr {w : World} {g n : Nat} {f f' : Nat → Bool} (h : BRowD w g n f) (e : ∀ j, j < n → f j = f' j) : BRowD w g n f' := by
  have : boolR f n = boolR f' n := List.map_congr_left fun j hj => by rw [e j (List.mem_range.1 hj)]
  unfold BRowD at *
  rw [← this]; exact h

/-! Messages. -/
theorem infoMl : (Try.prog.info? 47).map (fun i => (i.zero, i.size, i.bytes)) = some (some (.agg #[.int .i64 0, .int .i64 0, .int .i64 0]), 3, 24) := by kernel_rfl
def cellsD (m : Ml) : List Value := [.int .i64 (m.f : Int), .int .i64 (m.t : Int), .int .i64 (m.s : Int)]
def flatD (l : List Ml) : List Value := l.flatMap cellsD
theorem flatD_len (l : List Ml) : (flatD l).length = l.length * 3 := by
  unfold flatD
  induction l with
  | nil => rfl
  | cons f r ih => rw [List.flatMap_cons, List.length_append, ih, List.length_cons]; show 3 + _ = _; omega
theorem flatD_snoc (l : List Ml) (m : Ml) : flatD (l ++ [m]) = flatD l ++ cellsD m := by
  unfold flatD
  rw [List.flatMap_append]
  simp
theorem flatD_at (l : List Ml) {i j : Nat} (hi : i < l.length) (hj : j < 3) : (flatD l)[i * 3 + j]? = (cellsD (ml l i))[j]? := by
  induction l generalizing i with
  | nil => simp at hi
  | cons f r ih =>
    have e : flatD (f :: r) = cellsD f ++ flatD r := by unfold flatD; rw [List.flatMap_cons]
    rw [e]
    cases i with
    | zero =>
      rw [List.getElem?_append_left (by show 0 * 3 + j < 3; omega), Nat.zero_mul, Nat.zero_add]
      rfl
    | succ i =>
      rw [List.getElem?_append_right (by show 3 ≤ _; omega)]
      have : (i + 1) * 3 + j - (cellsD f).length = i * 3 + j := by show (i + 1) * 3 + j - 3 = _; omega
      rw [this, ih (by simpa using hi)]
      rfl
theorem flatD_set (l : List Ml) {k : Nat} (hk : k < l.length) (x : Nat) : (flatD l).set (k * 3 + 2) (.int .i64 (x : Int)) = flatD (setS l k x) := by
  apply List.ext_getElem?
  intro q
  by_cases hq : q < l.length * 3
  · have hd : q = q / 3 * 3 + q % 3 := by omega
    have h1 : q / 3 < l.length := by omega
    have h2 : q % 3 < 3 := by omega
    generalize q / 3 = i at *
    generalize q % 3 = j at *
    subst hd
    rw [flatD_at (setS l k x) (by rw [setS_len]; exact h1) h2]
    by_cases e : k * 3 + 2 = i * 3 + j
    · have e1 : k = i := by omega
      have e2 : j = 2 := by omega
      subst e1
      subst e2
      rw [List.getElem?_set_self (by rw [flatD_len]; omega), setS_same hk]
      rfl
    · rw [List.getElem?_set_ne e, flatD_at l h1 h2]
      by_cases e1 : i = k
      · subst e1
        rw [setS_same hk]
        have : j = 0 ∨ j = 1 := by omega
        rcases this with rfl | rfl <;> rfl
      · rw [setS_other _ e1]
  · rw [List.getElem?_eq_none (by rw [List.length_set, flatD_len]; omega), List.getElem?_eq_none (by rw [flatD_len, setS_len]; omega)]
/-- A slice of messages that the call has made. -/
def OwnD (w : World) (B : Nat) (v : Value) (l : List Ml) : Prop := w.ownsRow B 47 3 v l.length (flatD l)
/-- Messages that are read. -/
def MlsAt (w : World) (A : Option Addr) (l : List Ml) : Prop := ∀ i, i < l.length → ∃ g, A = some ⟨g, 0, none⟩ ∧ g < w.heap.size ∧ w.cell? ⟨g, i * 3, none⟩ = some (.int .i64 ((ml l i).f : Int)) ∧ w.cell? ⟨g, i * 3 + 1, none⟩ = some (.int .i64 ((ml l i).t : Int)) ∧ w.cell? ⟨g, i * 3 + 2, none⟩ = some (.int .i64 ((ml l i).s : Int)) ∧ w.frozen? ⟨g, i * 3 + 2, none⟩ = false
section
variable {w w' : World} {B : Nat} {v : Value} {l : List Ml} {m : Ml}
theorem OwnD.push {g cap : Nat} (h : w.ownsRow B 47 3 (.slice (some ⟨g, 0, none⟩) (l.length + 1) cap) (l.length + 1) (flatD l ++ cellsD m)) : OwnD w B (.slice (some ⟨g, 0, none⟩) (l.length + 1) cap) (l ++ [m]) := by
  unfold OwnD
  rw [flatD_snoc, List.length_append]
  exact h
theorem OwnD.shape (h : OwnD w B v l) : ∃ A cap, v = .slice A l.length cap ∧ l.length ≤ cap ∧ cap ≤ maxLen ∧ MlsAt w A l := by
  have hlt := World.ownsRow.lt h
  rcases h.2 with ⟨h7, h8⟩ | ⟨g, cap, cur, hv, hb', hg', hc1, hc2, hc3, hc4⟩
  · exact ⟨none, 0, by rw [h7, h8], by omega, by unfold maxLen; omega, fun i hi => by omega⟩
  · refine ⟨_, cap, hv, hc1, hc2, fun i hi => ⟨g, rfl, (hlt g (by rw [hv]; rfl)).2, ?_⟩⟩
    have key : ∀ j, j < 3 → w.cell? ⟨g, i * 3 + j, none⟩ = (cellsD (ml l i))[j]? := fun j hj => by
      rw [cell_of_row w g (i * 3 + j) cur 47 (0, 0) hg', ← flatD_at l hi hj, ← hc4, List.getElem?_take, if_pos (by omega)]
      simp
    exact ⟨key 0 (by omega), key 1 (by omega), key 2 (by omega), frozen_of_row w g (i * 3 + 2) cur 47 hg'⟩
theorem MlsAt.below {A : Option Addr} (h : MlsAt w A l) (hb : Below w.heap.size w w') : MlsAt w' A l := fun i hi => by
  obtain ⟨g, h1, h2, h3, h4, h5, h6⟩ := h i hi
  exact ⟨g, h1, Nat.lt_of_lt_of_le h2 hb.size, (hb.cell h2).trans h3, (hb.cell h2).trans h4, (hb.cell h2).trans h5, (World.frozen?_of_block (hb.block g h2)).trans h6⟩
theorem OwnD.store {g cap k : Nat} (h : OwnD w B (.slice (some ⟨g, 0, none⟩) l.length cap) l) (hk : k < l.length) (x : Nat) : OwnD (w.setCell ⟨g, k * 3 + 2, none⟩ (.int .i64 (x : Int))) B (.slice (some ⟨g, 0, none⟩) l.length cap) (setS l k x) := by
  have := World.ownsRow.stored h (k * 3 + 2) (.int .i64 (x : Int))
  rw [flatD_set l hk] at this
  unfold OwnD
  rw [setS_len]
  exact this.1
end
theorem newsD {w : World} {g : Nat} (m : Ml) (h : g = w.heap.size) : ∀ j u, (cellsD m)[j]? = some u → (w.alloc (.cells #[.int .i64 (m.f : Int), .int .i64 (m.t : Int), .int .i64 (m.s : Int)] 47)).cell? ((⟨g, 0, none⟩ : Addr).add j) = some u := by
  subst h
  exact World.news_of_block (cs := #[.int .i64 (m.f : Int), .int .i64 (m.t : Int), .int .i64 (m.s : Int)]) (fr := (0, 0)) (heap_alloc_new w _)

def CntRel (w wr : World) : Prop := Below w.heap.size w wr
set_option maxHeartbeats 1600000 in
theorem owed_any (w : World) (ba : Nat) (A : Option Addr) (cap : Nat) (L : List Ml) (i : Nat) (hba : ba < w.heap.size) (c0 : w.cell? ⟨ba, 0, none⟩ = some (.slice A L.length cap)) (hL : MlsAt w A L) (hl : L.length ≤ 1000) :
    Calls Try.prog 16 #[.int .i64 (i : Int), .pointer (some ⟨ba, 0, none⟩)] w fun e w' => e = .returned (.int .i64 (owed L i : Int)) ∧ Below w.heap.size w w' := by
  have hLH := Lib.hid hL
  have hend := Lib.hid (owed_all L i)
  have hst := Lib.hid (fun k (hk : k < L.length) => owed_take L i hk)
  have h0 : Hid (owed (L.take 0) i = 0) := rfl
  clear hL
  go_enter Try.func16, Try.ntmps16
  go_wp2_with fail
  go_loopw [9, 4] (fun t v wr => ∃ k : Nat, k ≤ L.length ∧ t = .int .i64 k ∧ v = .int .i64 (owed (L.take k) i : Int) ∧ CntRel w wr) (fun t _ _ => L.length - (intOf t).toNat)
  case atStart => exact ⟨0, Nat.zero_le _, rfl, by rw [h0.out]; rfl, Below.refl _ _⟩
  case round =>
    obtain ⟨k, hk, rfl, rfl, hB⟩ := hrel
    unfold CntRel at hB
    by_cases hlt : k < L.length
    · have hkI : (k : Int) < (L.length : Int) := by omega
      obtain ⟨g, rfl, hg, x0, x1, x2, _⟩ := hLH.out.below hB k hlt
      have hnx := Lib.hid (hst.out k hlt)
      have hle : owed (L.take k) i ≤ 1000 := by have := owed_le (L.take k) i; simp at this; omega
      generalize ml L k = m at *
      obtain ⟨f, t, s⟩ := m
      simp only at x0 x1 x2
      have hBa := Lib.hid (hB.alloc hB.size (.cells #[.int .i64 (f : Int), .int .i64 (t : Int), .int .i64 (s : Int)] 47))
      clear hB
      by_cases e1 : f = i
      · have v1 : ((f : Int) == (i : Int)) = true := by simp [e1]
        by_cases e2 : s < 2
        · have v2 : decide ((s : Int) < 2) = true := decide_eq_true (by omega)
          have hn2 : Hid (((owed (L.take k) i : Nat) : Int) + 1 = ((owed (L.take (k + 1)) i : Nat) : Int)) := by unfold Hid; rw [hnx.out, if_pos (by simp [owedB, e1, e2])]; omega
          clear hnx e1
          generalize owed (L.take k) i = V at *
          go_wp2_with fail
          go_roundw
          case rel => exact ⟨k + 1, by omega, by go_num, by rw [hn2.out], hBa.out⟩
          case measure => simp [intOf]; omega
        · have v2 : decide ((s : Int) < 2) = false := decide_eq_false (by omega)
          have hn2 : Hid (((owed (L.take k) i : Nat) : Int) = ((owed (L.take (k + 1)) i : Nat) : Int)) := by unfold Hid; rw [hnx.out, if_neg (by simp [owedB, e2])]; omega
          clear hnx e1
          generalize owed (L.take k) i = V at *
          go_wp2_with fail
          go_roundw
          case rel => exact ⟨k + 1, by omega, by go_num, by rw [hn2.out], hBa.out⟩
          case measure => simp [intOf]; omega
      · have v1 : ((f : Int) == (i : Int)) = false := by simp; omega
        have hn2 : Hid (((owed (L.take k) i : Nat) : Int) = ((owed (L.take (k + 1)) i : Nat) : Int)) := by unfold Hid; rw [hnx.out, if_neg (by simp [owedB, e1])]; omega
        clear hnx e1
        generalize owed (L.take k) i = V at *
        go_wp2_with fail
        go_roundw
        case rel => exact ⟨k + 1, by omega, by go_num, by rw [hn2.out], hBa.out⟩
        case measure => simp [intOf]; omega
    · have hkl : k = L.length := by omega
      subst hkl
      rw [hend.out]
      go_wp2_with fail
      go_ret
      exact ⟨rfl, hB⟩

set_option maxHeartbeats 1600000 in
theorem bound_any (w : World) (ba : Nat) (A : Option Addr) (cap : Nat) (L : List Ml) (i : Nat) (r : Int) (hr : IsBnd L i r) (hba : ba < w.heap.size) (c0 : w.cell? ⟨ba, 0, none⟩ = some (.slice A L.length cap)) (hL : MlsAt w A L) (hl : L.length ≤ 1000) :
    Calls Try.prog 17 #[.int .i64 (i : Int), .pointer (some ⟨ba, 0, none⟩)] w fun e w' => e = .returned (.int .i64 r) ∧ Below w.heap.size w w' := by
  have hLH := Lib.hid hL
  have hrH := Lib.hid hr
  clear hL hr
  go_enter Try.func17, Try.ntmps17
  go_wp2_with fail
  go_loopw [8] (fun t wr => ∃ k : Nat, k ≤ L.length ∧ t = .int .i64 k ∧ (∀ j, j < k → engB i (ml L j) = false) ∧ CntRel w wr) (fun t _ => L.length - (intOf t).toNat)
  case atStart => exact ⟨0, Nat.zero_le _, rfl, fun j h => absurd h (by omega), Below.refl _ _⟩
  case round =>
    obtain ⟨k, hk, rfl, hno, hB⟩ := hrel
    unfold CntRel at hB
    have hnoH := Lib.hid hno
    clear hno
    by_cases hlt : k < L.length
    · have hkI : (k : Int) < (L.length : Int) := by omega
      obtain ⟨g, rfl, hg, x0, x1, x2, _⟩ := hLH.out.below hB k hlt
      have hnx : Hid (engB i (ml L k) = false → ∀ j, j < k + 1 → engB i (ml L j) = false) := fun h j hj => by
        by_cases e : j = k
        · rw [e]; exact h
        · exact hnoH.out j (by omega)
      have hyes : Hid (engB i (ml L k) = true → r = (k : Int)) := fun h => by
        rcases hrH.out with ⟨c, h1, h2, h3, h4⟩ | ⟨_, h1⟩
        · by_cases e : c < k
          · rw [hnoH.out c e] at h3; cases h3
          · by_cases e2 : k < c
            · rw [h4 k e2] at h; cases h
            · rw [h1]; omega
        · rw [h1 k hlt] at h; cases h
      clear hnoH
      have heq := Lib.hid (engB_iff i (ml L k))
      have hef : Hid (¬ ((ml L k).t = i ∧ (ml L k).s = 1) → engB i (ml L k) = false) := fun h => by
        cases hh : engB i (ml L k) with
        | false => rfl
        | true => exact absurd ((engB_iff _ _).1 hh) h
      generalize ml L k = m at *
      obtain ⟨f, t, s⟩ := m
      simp only at x0 x1 x2 heq hef
      have hBa := Lib.hid (hB.alloc hB.size (.cells #[.int .i64 (f : Int), .int .i64 (t : Int), .int .i64 (s : Int)] 47))
      clear hB
      by_cases e1 : t = i
      · have v1 : ((t : Int) == (i : Int)) = true := by simp [e1]
        by_cases e2 : s = 1
        · have v2 : ((s : Int) == 1) = true := by simp [e2]
          have hrk := Lib.hid (hyes.out (heq.out.2 ⟨e1, e2⟩))
          clear hyes heq hef hnx e1 e2
          go_wp2_with fail
          go_ret
          exact ⟨by rw [hrk.out]; rfl, hBa.out⟩
        · have v2 : ((s : Int) == 1) = false := by simp; omega
          have hn2 := Lib.hid (hnx.out (hef.out fun h => e2 h.2))
          clear hyes heq hef hnx e1
          go_wp2_with fail
          go_roundw
          case rel => exact ⟨k + 1, by omega, by go_num, hn2.out, hBa.out⟩
          case measure => simp [intOf]; omega
      · have v1 : ((t : Int) == (i : Int)) = false := by simp; omega
        have hn2 := Lib.hid (hnx.out (hef.out fun h => e1 h.1))
        clear hyes heq hef hnx e1
        go_wp2_with fail
        go_roundw
        case rel => exact ⟨k + 1, by omega, by go_num, hn2.out, hBa.out⟩
        case measure => simp [intOf]; omega
    · have hkl : k = L.length := by omega
      have hrk : Hid (r = -1) := by
        rcases hrH.out with ⟨c, h1, h2, h3, h4⟩ | ⟨h1, _⟩
        · rw [hnoH.out c (by omega)] at h3; cases h3
        · exact h1
      subst hkl
      clear hnoH hrH
      go_wp2_with fail
      go_ret
      exact ⟨by rw [hrk.out]; rfl, hB⟩

#print axioms owed_any
#print axioms bound_any
end Go.Proofs.Ytichcahlokjblaa
