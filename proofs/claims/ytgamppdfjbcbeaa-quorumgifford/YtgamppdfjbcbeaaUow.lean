/-
  Words for memory: slices of words that the call makes and lengthens; slices.Clone and slices.DeleteFunc at them.
-/
import Derived.Test.YtgamppdfjbcbeaaWcp
import Derived.Test.YtgamppdfjbcbeaaSce
import Derived.Test.YtgamppdfjbcbeaaUix
import Derived.Laws.OwnMore
import Derived.Deep.AppendSrc
import Derived.Lib.SliceRun
namespace Go.Proofs.Ytgamppdfjbcbeaa
open Go.RowKit Go.Maps
set_option linter.unusedVariables false

theorem wordVals_map (l : List Nat) : wordVals l = l.map fun x : Nat => Value.int .u32 (x : Int) := by
  apply List.ext_getElem
  · simp [wordVals]
  · intro i h1 h2
    have hi : i < l.length := by simpa [wordVals] using h1
    simp [wordVals, wat_get l hi]
theorem wordVals_append (l r : List Nat) : wordVals (l ++ r) = wordVals l ++ wordVals r := by rw [wordVals_map, wordVals_map, wordVals_map, List.map_append]
theorem wordVals_one (x : Nat) : wordVals [x] = [.int .u32 (x : Int)] := by rw [wordVals_map]; rfl
theorem wordVals_take (l : List Nat) (k : Nat) : (wordVals l).take k = wordVals (l.take k) := by rw [wordVals_map, wordVals_map, List.map_take]
theorem wordVals_cell (l : List Nat) : ∀ u ∈ wordVals l, u.oneCell' = true := by
  intro u hu
  obtain ⟨x, _, rfl⟩ := List.mem_map.1 hu
  rfl
/-- A slice of words that the call has made, and lengthens. -/
def OwnW (w : World) (B : Nat) (v : Value) (l : List Nat) : Prop := w.ownsRow B 27 1 v l.length (wordVals l)
theorem OwnW.nil (w : World) (B : Nat) : OwnW w B (.slice none 0 0) [] := ⟨rfl, .inl ⟨rfl, rfl⟩⟩
theorem OwnW.of {w : World} {B g cap : Nat} {cur : List Value} {l : List Nat} (hR : Row w g 27 cur) (hB : B ≤ g) (h1 : l.length ≤ cap) (h2 : cap ≤ maxLen) (h3 : cur.length = cap) (h4 : cur.take l.length = wordVals l) : OwnW w B (.slice (some ⟨g, 0, none⟩) l.length cap) l :=
  ⟨by rw [wordVals_len, Nat.mul_one], .inr ⟨g, cap, cur.toArray, rfl, hB, hR, h1, h2, by rw [Nat.mul_one]; simpa using h3, by rw [Nat.mul_one]; simpa using h4⟩⟩
theorem OwnW.form {w : World} {B : Nat} {v : Value} {l : List Nat} (h : OwnW w B v l) : (v = .slice none 0 0 ∧ l = []) ∨ ∃ g cap cur, v = .slice (some ⟨g, 0, none⟩) l.length cap ∧ B ≤ g ∧ Row w g 27 cur ∧ l.length ≤ cap ∧ cap ≤ maxLen ∧ cur.length = cap ∧ cur.take l.length = wordVals l := by
  rcases h.2 with ⟨h7, h8⟩ | ⟨g, cap, cur, hv, hb', hg', hc1, hc2, hc3, hc4⟩
  · exact .inl ⟨h7, List.length_eq_zero_iff.1 h8⟩
  · refine .inr ⟨g, cap, cur.toList, hv, hb', by unfold Row; rw [hg'], hc1, hc2, by rw [Nat.mul_one] at hc3; simpa using hc3, ?_⟩
    rw [Nat.mul_one] at hc4
    exact hc4
theorem row_words {w : World} {g : Nat} {cur : List Value} {l : List Nat} (hR : Row w g 27 cur) (ht : cur.take l.length = wordVals l) {i : Nat} (hi : i < l.length) : cur[i]? = some (.int .u32 (wat l i : Int)) := by
  have e := wordVals_get l hi
  rw [← ht, List.getElem?_take, if_pos hi] at e
  exact e
theorem row_get {w : World} {g : Nat} {cur : List Value} {v : Value} (hR : Row w g 27 cur) {i : Nat} (h : cur[i]? = some v) : w.cell? ⟨g, i, none⟩ = some v := by
  rw [List.getElem?_eq_some_iff] at h
  obtain ⟨hl, e⟩ := h
  rw [Row.cell hR hl, e]
theorem OwnW.words {w : World} {B : Nat} {v : Value} {l : List Nat} (h : OwnW w B v l) : ∃ A cap, v = .slice A l.length cap ∧ l.length ≤ cap ∧ cap ≤ maxLen ∧ Wds w w.heap.size A l := by
  rcases h.form with ⟨rfl, rfl⟩ | ⟨g, cap, cur, rfl, hB, hR, h1, h2, h3, h4⟩
  · exact ⟨none, 0, rfl, Nat.le_refl _, Nat.zero_le _, fun h => absurd h (by simp)⟩
  · exact ⟨_, cap, rfl, h1, h2, fun _ => ⟨g, 0, rfl, hR.lt, fun i hi => by rw [Nat.zero_add]; exact row_get hR (row_words hR h4 hi)⟩⟩
theorem OwnW.below {w w' : World} {B : Nat} {v : Value} {l : List Nat} (h : OwnW w B v l) (hb : Below w.heap.size w w') : OwnW w' B v l := by
  rcases h.form with ⟨rfl, rfl⟩ | ⟨g, cap, cur, rfl, hB, hR, h1, h2, h3, h4⟩
  · exact OwnW.nil _ _
  · exact OwnW.of (hR.block (hb.block g hR.lt)) hB h1 h2 h3 h4
theorem OwnW.less {w : World} {B B' : Nat} {v : Value} {l : List Nat} (h : OwnW w B v l) (hB' : B' ≤ B) : OwnW w B' v l := by
  rcases h.form with ⟨rfl, rfl⟩ | ⟨g, cap, cur, rfl, hB, hR, h1, h2, h3, h4⟩
  · exact OwnW.nil _ _
  · exact OwnW.of hR (by omega) h1 h2 h3 h4
theorem OwnW.alloc {w : World} {B : Nat} {v : Value} {l : List Nat} (h : OwnW w B v l) (o : Obj) : OwnW (w.alloc o) B v l := by
  rcases h.form with ⟨rfl, rfl⟩ | ⟨g, cap, cur, rfl, hB, hR, h1, h2, h3, h4⟩
  · exact OwnW.nil _ _
  · exact OwnW.of (hR.alloc o) hB h1 h2 h3 h4
theorem OwnW.push {w : World} {B g cap : Nat} {l : List Nat} {x : Nat} (h : w.ownsRow B 27 1 (.slice (some ⟨g, 0, none⟩) (l.length + 1) cap) (l.length + 1) (wordVals l ++ [.int .u32 (x : Int)])) : OwnW w B (.slice (some ⟨g, 0, none⟩) (l.length + 1) cap) (l ++ [x]) := by
  unfold OwnW
  rw [wordVals_append, wordVals_one, List.length_append]
  exact h
theorem newsW {w : World} {g : Nat} (x : Nat) (h : g = w.heap.size) : ∀ j u, [Value.int .u32 (x : Int)][j]? = some u → (w.alloc (.cells #[.int .u32 (x : Int)] 27)).cell? ((⟨g, 0, none⟩ : Addr).add j) = some u := by
  subst h
  exact World.news_of_block (cs := #[.int .u32 (x : Int)]) (fr := (0, 0)) (heap_alloc_new w _)
theorem Wds.news {w : World} {B : Nat} {ad : Addr} {l : List Nat} (h : Wds w B (some ad) l) : ∀ j u, (wordVals l)[j]? = some u → w.cell? (ad.add j) = some u := by
  intro j u hj
  have hj2 : j < l.length := by
    rcases Nat.lt_or_ge j l.length with h1 | h1
    · exact h1
    · rw [List.getElem?_eq_none (by rw [wordVals_len]; exact h1)] at hj
      cases hj
  obtain ⟨b, off, e, hb, hc⟩ := h (by omega)
  injection e with e
  subst e
  have hadd : (⟨b, off, none⟩ : Addr).add j = ⟨b, off + j, none⟩ := by unfold Addr.add; split <;> simp_all
  rw [hadd, hc j hj2, ← hj, wordVals_get l hj2]

/-- 'append([]uint32{}, l...)'. -/
theorem wpList_copyO {w : World} {ops : Array Oper} {rest : List Oper} {o : Oper} {a : Act} {Q : Exit → Act → World → Prop} (hgd : o.guard = none) (s x : Operand)
    (ho : o.op = .call { callee := .builtin .append, args := #[s, x], argTypes := #[22, 22] }) (j0 : TypeInfo) (hJi : Try.prog.info? 27 = some j0) (hJz : j0.zero = some (.int .u32 0)) (hJs : j0.size = 1) (hJb : j0.bytes = 4)
    (B g0 : Nat) (hs : a.eval s = .slice (some ⟨g0, 0, none⟩) 0 0) (hown : w.ownsRow B 27 1 (.slice (some ⟨g0, 0, none⟩) 0 0) 0 []) (ad : Addr) (cap : Nat) (l : List Nat) (hx : a.eval x = .slice (some ad) l.length cap) (hN : Wds w w.heap.size (some ad) l) (hlen : l.length ≤ 1000) (hbase : B ≤ w.heap.size)
    (h : ∀ v' w', OwnW w' B v' l → w.grownBy w' (some g0) → wpList Try.prog ops Q rest (a.put o.dst v') w') : wpList Try.prog ops Q (o :: rest) a w := by
  refine wpList_append_own_at w hgd s x 22 ho B 27 j0 _ 1 4 Try.underlying22 hJi hJz hJs hJb rfl (by decide) _ 0 [] hs hown ad l.length cap (wordVals l) hx (by rw [wordVals_len, Nat.mul_one]) hN.news (wordVals_cell l) (by unfold maxLen; omega) (by omega) hbase ?_
  intro v' w' h1 h2 _ _
  rw [Nat.zero_add, List.nil_append] at h1
  exact h v' w' h1 h2

def CloneRes (w : World) (l : List Nat) (e : Ending) (w' : World) : Prop := ∃ v, e = .returned v ∧ OwnW w' w.heap.size v l ∧ Below w.heap.size w w'
set_option maxHeartbeats 1600000 in
theorem clone_any (A : Option Addr) (cap : Nat) (l : List Nat) (w : World) (hE : Wds w w.heap.size A l) (hl : l.length ≤ 1000) :
    Calls Try.prog 31 #[.slice A l.length cap] w (CloneRes w l) := by
  have qT : ∀ (w : World) (a : Option Addr) (n c n' c' : Nat), (binOp .eql 22 (.slice a n c) (.slice none n' c')).run Try.prog w = .ok (.bool a.isNone) w := fun w a n c n' c' => Lib.run_eql_slice_nil w _ _ a n c n' c' Try.underlying22
  cases A with
  | none =>
    have h0 : l = [] := by
      cases l with
      | nil => rfl
      | cons m r =>
        obtain ⟨b, off, e, _⟩ := hE (by simp)
        cases e
    subst h0
    clear hE
    go_enter Try.func31, Try.ntmps31
    go_wp2_with fail
    go_ret
    exact ⟨_, rfl, OwnW.nil _ _, Below.refl _ _⟩
  | some ad =>
    obtain ⟨j0, hi0, hz0, hz1, hz2⟩ := partsU32
    have hJi := Lib.hid hi0; have hJz := Lib.hid hz0; have hJs := Lib.hid hz1; have hJb := Lib.hid hz2
    clear hi0 hz0 hz1 hz2
    have hW5 : (w.alloc (.cells #[] 27)).ownsRow w.heap.size 27 1 (.slice (some ⟨w.heap.size, 0, none⟩) 0 0) 0 [] := World.ownsRow_lit w #[] 0 (Nat.le_refl _) (by unfold maxLen; omega) (by simp)
    have hB5 := (Below.refl w.heap.size w).alloc (Nat.le_refl _) (.cells #[] 27)
    have hN5 := (hE.below hB5).more hB5.size
    have hsz5 : w.heap.size ≤ (w.alloc (.cells #[] 27)).heap.size := by simp
    clear hE
    go_enter Try.func31, Try.ntmps31
    go_wp2_with (first
      | (at_builtin; refine wpList_copyO rfl (.tmp 5) (.tmp 6) rfl j0 hJi.out hJz.out hJs.out hJb.out w.heap.size w.heap.size rfl hW5 ad cap l rfl hN5 hl hsz5 ?_; intro v6 w6 hO6 hG6
         have hB6 := hB5.grown hG6 hB5.size (by simp)
         have hM6 := Lib.hid hO6
         clear hO6 hG6 hN5 hW5))
    go_ret
    exact ⟨_, rfl, hM6.out, hB6⟩

theorem take_snoc (l : List Nat) {j : Nat} (h : j < l.length) : l.take (j + 1) = l.take j ++ [wat l j] := by
  rw [List.take_add_one, List.getElem?_eq_getElem h, wat_get l h]
  rfl
theorem filt_keep (q : Nat → Bool) (l : List Nat) {j : Nat} (h : j < l.length) (hq : q (wat l j) = true) : (l.take (j + 1)).filter q = (l.take j).filter q ++ [wat l j] := by
  rw [take_snoc l h, List.filter_append]
  simp [hq]
theorem filt_drop (q : Nat → Bool) (l : List Nat) {j : Nat} (h : j < l.length) (hq : q (wat l j) = false) : (l.take (j + 1)).filter q = (l.take j).filter q := by
  rw [take_snoc l h, List.filter_append]
  simp [hq]
theorem filt_all (q : Nat → Bool) (l : List Nat) {k : Nat} (hk : k ≤ l.length) (h : ∀ a, a < k → q (wat l a) = true) : (l.take k).filter q = l.take k := by
  rw [List.filter_eq_self]
  intro x hx
  obtain ⟨i, hi, e⟩ := mem_wat.1 hx
  have hik : i < k := by rw [List.length_take] at hi; omega
  rw [wat_get _ hi, List.getElem_take] at e
  rw [← e, ← wat_get l (by omega)]
  exact h i hik
theorem set_take (cur : List Value) (i : Nat) (v : Value) (h : i < cur.length) : (cur.set i v).take (i + 1) = cur.take i ++ [v] := by
  rw [List.set_eq_take_append_cons_drop, if_pos h]
  have : cur.take i ++ v :: cur.drop (i + 1) = (cur.take i ++ [v]) ++ cur.drop (i + 1) := by simp
  rw [this, List.take_left' (by rw [List.length_append, List.length_take]; simp; omega)]
/-- How far slices.DeleteFunc has come. -/
def DelInv (q : Nat → Bool) (g cap : Nat) (l : List Nat) (w wr : World) (i j : Nat) : Prop :=
  ∃ cur : List Value, Row wr g 27 cur ∧ cur.length = cap ∧ i = ((l.take j).filter q).length ∧ cur.take i = wordVals ((l.take j).filter q) ∧ (∀ t, j ≤ t → t < l.length → cur[t]? = some (.int .u32 (wat l t : Int))) ∧ w.grownBy wr (some g)
section
variable {q : Nat → Bool} {g cap : Nat} {l : List Nat} {w wr : World} {i j : Nat}
theorem DelInv.skip (h : DelInv q g cap l w wr i j) (hj : j < l.length) (hq : q (wat l j) = false) : DelInv q g cap l w wr i (j + 1) := by
  obtain ⟨cur, h1, h2, h3, h4, h5, h6⟩ := h
  exact ⟨cur, h1, h2, by rw [filt_drop q l hj hq]; exact h3, by rw [filt_drop q l hj hq]; exact h4, fun t h h' => h5 t (by omega) h', h6⟩
theorem DelInv.keep (h : DelInv q g cap l w wr i j) (hj : j < l.length) (hij : i < j) (hc : l.length ≤ cap) (hq : q (wat l j) = true) : DelInv q g cap l w (wr.setCell ⟨g, i, none⟩ (.int .u32 (wat l j : Int))) (i + 1) (j + 1) := by
  obtain ⟨cur, h1, h2, h3, h4, h5, h6⟩ := h
  refine ⟨cur.set i (.int .u32 (wat l j : Int)), h1.set i _, by rw [List.length_set]; exact h2, by rw [filt_keep q l hj hq, List.length_append, ← h3]; rfl, ?_, fun t h h' => ?_, ?_⟩
  · rw [set_take cur i _ (by omega), filt_keep q l hj hq, wordVals_append, wordVals_one, h4]
  · rw [List.getElem?_set_ne (by omega)]
    exact h5 t (by omega) h'
  · exact sc_grown_trans h6 (sc_setCells_grown g [.int .u32 (wat l j : Int)] i wr)
theorem DelInv.at_ (h : DelInv q g cap l w wr i j) (hj : j < l.length) (hij : i < j) (hc : l.length ≤ cap) : (wr.cell? ⟨g, j, none⟩ = some (.int .u32 (wat l j : Int))) ∧ (∃ old, wr.cell? ⟨g, i, none⟩ = some old) ∧ wr.frozen? ⟨g, i, none⟩ = false := by
  obtain ⟨cur, h1, h2, h3, h4, h5, h6⟩ := h
  exact ⟨row_get h1 (h5 j (Nat.le_refl _) hj), ⟨_, h1.cell (by omega)⟩, h1.frozen i⟩
end

def DelRes (w : World) (B : Nat) (v : Value) (l : List Nat) (e : Ending) (w' : World) : Prop := ∃ v', e = .returned v' ∧ OwnW w' B v' l ∧ w.grownBy w' v.ownBlock
set_option maxHeartbeats 3200000 in
theorem delete_any (b B s : Nat) (v : Value) (l : List Nat) (w : World) (hs : s < 4294967296) (h : OwnW w B v l) (hF : WFits l) (hl : l.length ≤ 1000) (hRow : Row w b 27 [.int .u32 (s : Int)]) (hne : v.ownBlock ≠ some b) :
    Calls Try.prog 44 #[v, fnD b] w (DelRes w B v (l.filter fun x => !incB x s)) := by
  rcases h.form with ⟨rfl, rfl⟩ | ⟨g, cap, cur, rfl, hB, hR, h1, h2, h3, h4⟩
  · have hi := Lib.hid (indexD_any b 0 w none [] (fun x => incB x s) (fun x hx => addCl_any s b x w hs hx hRow) (fun h => absurd h (by simp)) hF (by simp))
    unfold fnD at hi ⊢
    clear h hRow hne
    go_enter Try.func44, Try.ntmps44
    go_wp2_with fail
    refine hi.out.mono ?_
    rintro e w1 ⟨r, rfl, hr, rfl⟩
    have hr1 : r = -1 := by
      rcases hr with ⟨h, _⟩ | ⟨k, _, h, _⟩
      · exact h
      · simp at h
    clear hr
    subst hr1
    go_wp2_with fail
    go_ret
    exact ⟨_, rfl, OwnW.nil _ _, rfl, rfl, rfl, Nat.le_refl _, fun _ _ _ => rfl⟩
  · have hgb : g ≠ b := fun e => hne (by rw [e]; rfl)
    have hwd : Wds w w.heap.size (some ⟨g, 0, none⟩) l := fun _ => ⟨g, 0, rfl, hR.lt, fun i hi => by rw [Nat.zero_add]; exact row_get hR (row_words hR h4 hi)⟩
    have hi := Lib.hid (indexD_any b cap w (some ⟨g, 0, none⟩) l (fun x => incB x s) (fun x hx => addCl_any s b x w hs hx hRow) hwd hF hl)
    have hcl : Hid (∀ wr, w.grownBy wr (some g) → ∀ x : Nat, x < 4294967296 → Calls Try.prog 45 #[.int .u32 (x : Int), .pointer (some ⟨b, 0, none⟩)] wr fun e w' => e = .returned (.bool (incB x s)) ∧ wr = w') := fun wr hG x hx => addCl_any s b x wr hs hx (hRow.grown hG (fun e => hgb (by injection e with e; exact e.symm)))
    unfold fnD at hi ⊢
    have hwH := Lib.hid h
    have hstart : Hid (∀ k : Nat, k < l.length → incB (wat l k) s = true → (∀ a, a < k → incB (wat l a) s = false) → DelInv (fun x => !incB x s) g cap l w w k (k + 1)) := fun k hk hks hka => by
      have e1 : (l.take (k + 1)).filter (fun x => !incB x s) = l.take k := by
        rw [filt_drop _ l hk (by simp [hks])]
        exact filt_all _ l (by omega) fun a ha => by simp [hka a ha]
      refine ⟨cur, hR, h3, by rw [e1, List.length_take]; omega, ?_, fun t ht ht' => row_words hR h4 ht', rfl, rfl, rfl, Nat.le_refl _, fun _ _ _ => rfl⟩
      rw [e1, ← wordVals_take, ← h4, List.take_take, Nat.min_eq_left (by omega)]
    have hwhole : Hid ((∀ a, a < l.length → incB (wat l a) s = false) → l.filter (fun x => !incB x s) = l) := fun h => by
      have := filt_all (fun x => !incB x s) l (Nat.le_refl _) fun a ha => by simp [h a ha]
      rwa [List.take_length] at this
    have hBH := Lib.hid hB
    have h2H := Lib.hid h2
    have hcI : (l.length : Int) ≤ (cap : Int) := by omega
    have hcapI : (cap : Int) ≤ 9223372036854775807 := by unfold maxLen at h2; omega
    clear h hRow hne hwd hR h3 h4 hB h2
    go_enter Try.func44, Try.ntmps44
    go_wp2_with fail
    refine hi.out.mono ?_
    rintro e w1 ⟨r, rfl, hr, rfl⟩
    have hrH := Lib.hid hr
    clear hr hi
    rcases hrH.out with ⟨hr1, hall⟩ | ⟨k0, hr1, hk0, hks, hka⟩
    · have hallH := Lib.hid hall
      clear hrH hall
      subst hr1
      go_wp2_with fail
      go_ret
      exact ⟨_, rfl, by rw [hwhole.out hallH.out]; exact hwH.out, rfl, rfl, rfl, Nat.le_refl _, fun _ _ _ => rfl⟩
    · have hst := Lib.hid (hstart.out k0 hk0 hks hka)
      clear hrH hks hka hstart hwhole
      subst hr1
      have hk0I : (k0 : Int) < (l.length : Int) := by omega
      have hn1 : ((k0 : Int) == -1) = false := beq_eq_false_iff_ne.2 (by omega)
      go_wp2_with fail
      go_loopw [5, 6] (fun t u wr => ∃ i j : Nat, i < j ∧ j ≤ l.length ∧ t = .int .i64 i ∧ u = .int .i64 j ∧ DelInv (fun x => !incB x s) g cap l w wr i j) (fun t u _ => l.length - (intOf u).toNat)
      case atStart => exact ⟨k0, k0 + 1, by omega, by omega, rfl, by go_num, hst.out⟩
      case round =>
        obtain ⟨i, j, hij, hj, rfl, rfl, hI⟩ := hrel
        rename World => wr
        have hIH := Lib.hid hI
        by_cases hlt : j < l.length
        · obtain ⟨cj, ⟨old, ci⟩, fi⟩ := hI.at_ hlt hij h1
          have hjI : (j : Int) < (l.length : Int) := by omega
          have hijI : (i : Int) < (j : Int) := by omega
          have hG : w.grownBy wr (some g) := by obtain ⟨_, _, _, _, _, _, h⟩ := hI; exact h
          have hcc := Lib.hid (hcl.out wr hG (wat l j) (hF j))
          have hk1 : Hid (incB (wat l j) s = false → DelInv (fun x => !incB x s) g cap l w (wr.setCell ⟨g, i, none⟩ (.int .u32 (wat l j : Int))) (i + 1) (j + 1)) := fun e => hIH.out.keep hlt hij h1 (by simp [e])
          have hk2 : Hid (incB (wat l j) s = true → DelInv (fun x => !incB x s) g cap l w wr i (j + 1)) := fun e => hIH.out.skip hlt (by simp [e])
          clear hI hG hcl hIH
          generalize hR0 : incB (wat l j) s = R at hcc hk1 hk2
          clear hR0
          obtain ⟨x, hxx⟩ : ∃ x, Hid (wat l j = x) := ⟨_, (rfl : wat l j = wat l j)⟩
          rw [hxx.out] at cj hcc hk1
          cases R with
          | true =>
            have hn := Lib.hid (hk2.out rfl)
            clear hk1 hk2
            go_wp2_with fail
            refine hcc.out.mono ?_
            rintro e w3 ⟨rfl, rfl⟩
            go_wp2_with fail
            go_roundw
            case rel => exact ⟨i, j + 1, by omega, by omega, rfl, by go_num, hn.out⟩
            case measure => simp [intOf]; omega
          | false =>
            have hn := Lib.hid (hk1.out rfl)
            clear hk1 hk2
            go_wp2_with fail
            refine hcc.out.mono ?_
            rintro e w3 ⟨rfl, rfl⟩
            go_wp2_with fail
            go_roundw
            case rel => exact ⟨i + 1, j + 1, by omega, by omega, by go_num, by go_num, hn.out⟩
            case measure => simp [intOf]; omega
        · have hjl : j = l.length := by omega
          subst hjl
          obtain ⟨cur, hR, h3, hi3, h4, h5, h6⟩ := hI
          rw [List.take_length] at hi3 h4
          have hcz : ∀ ty, (Builtin.clear_ #[22] ty #[.slice (some ⟨g, i, none⟩) (l.length - i) (cap - i)]).run Try.prog wr = .ok (.tuple #[]) (wr.setCells g i (List.replicate (l.length - i) (.int .u32 0))) := fun ty =>
            Lib.run_clear_slice wr _ _ ty (.int .u32 0) Try.underlying22 Try.zeroValue27 rfl rfl g i _ _ (by omega) (fun t ht => by rw [hR.cell (i := i + t) (by omega)]; rfl) (fun t ht => hR.frozen _)
          have hblk := sc_setCells_block g 27 (List.replicate (l.length - i) (.int .u32 0)) i wr cur.toArray hR (by simp; omega)
          simp only [] at hblk
          have hln := sc_splice_len cur (List.replicate (l.length - i) (.int .u32 0)) i (by simp; omega)
          have htk := sc_splice_ahead cur (List.replicate (l.length - i) (.int .u32 0)) i i (by simp; omega) (Nat.le_refl _)
          have hfin : Hid (OwnW (wr.setCells g i (List.replicate (l.length - i) (.int .u32 0))) B (.slice (some ⟨g, 0, none⟩) i cap) (l.filter fun x => !incB x s) ∧ w.grownBy (wr.setCells g i (List.replicate (l.length - i) (.int .u32 0))) (some g)) := by
            refine ⟨?_, sc_grown_trans h6 (sc_setCells_grown g _ _ _)⟩
            rw [hi3]
            refine OwnW.of (cur := cur.take i ++ List.replicate (l.length - i) (.int .u32 0) ++ cur.drop (i + (List.replicate (l.length - i) (Value.int .u32 0)).length)) ?_ hBH.out (by omega) h2H.out (by omega) (by rw [← hi3, htk, h4])
            rw [← hi3]
            exact hblk
          have hijI : (i : Int) < (l.length : Int) := by omega
          have hicI : (i : Int) < (cap : Int) := by omega
          clear hblk hln htk hR h3 hi3 h4 h5 h6 hIH hcl
          go_wp2_with fail
          go_ret
          exact ⟨_, rfl, hfin.out.1, hfin.out.2⟩
#print axioms clone_any
#print axioms delete_any
end Go.Proofs.Ytgamppdfjbcbeaa
