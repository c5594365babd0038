/-
  The contracts of quorum.includesOne, isCoterie, check, checkCoterie, Meet, Wins.
-/
import Derived.Test.YtgamppdfjbcbeaaUix
namespace Go.Proofs.Ytgamppdfjbcbeaa
open Go.RowKit Go.Maps
set_option linter.unusedVariables false

theorem Wds.take {w : World} {B : Nat} {A : Option Addr} {l : List Nat} (h : Wds w B A l) {k : Nat} (hk : k ≤ l.length) : Wds w B A (l.take k) := by
  intro h0
  have hlen : (l.take k).length = k := by rw [List.length_take]; omega
  obtain ⟨b, off, e, hb, hc⟩ := h (by omega)
  refine ⟨b, off, e, hb, fun i hi => ?_⟩
  rw [hlen] at hi
  have : wat (l.take k) i = wat l i := by
    rw [wat_get _ (by omega), wat_get _ (by omega), List.getElem_take]
  rw [this]
  exact hc i (by omega)
theorem wat_take {l : List Nat} {k i : Nat} (hi : i < k) (hk : k ≤ l.length) : wat (l.take k) i = wat l i := by
  rw [wat_get _ (by rw [List.length_take]; omega), wat_get _ (by omega), List.getElem_take]
theorem WFits.take {l : List Nat} (h : WFits l) (k : Nat) : WFits (l.take k) := by
  intro i
  rcases Nat.lt_or_ge i (l.take k).length with hi | hi
  · rw [wat_get _ hi, List.getElem_take]
    have := h i
    rw [wat_get l (by rw [List.length_take] at hi; omega)] at this
    exact this
  · rw [wat_out _ hi]; decide

set_option maxHeartbeats 800000 in
theorem includesOne_any (s cap : Nat) (A : Option Addr) (l : List Nat) (w : World) (hs : s < 4294967296) (hq : Wds w w.heap.size A l) (hF : WFits l) (hl : l.length ≤ 1000) :
    Calls Try.prog 28 #[.int .u32 (s : Int), .slice A l.length cap] w fun e w' => e = .returned (.bool (winB l s)) ∧ Below w.heap.size w w' := by
  have hB1 := (Below.refl w.heap.size w).alloc (Nat.le_refl _) (.cells #[.int .u32 (s : Int)] 27)
  have hsz : (w.alloc (.cells #[.int .u32 (s : Int)] 27)).heap.size = w.heap.size + 1 := by simp
  have hRow : Row (w.alloc (.cells #[.int .u32 (s : Int)] 27)) w.heap.size 27 [.int .u32 (s : Int)] := Row.made w _ [_]
  have hc := Lib.hid (containsI_any w.heap.size cap _ A l (incB s) (fun x hx => incCl_any s w.heap.size x _ hs hx hRow) ((hq.below hB1).more (by omega)) hF hl (winB l s) (winB_at l s))
  generalize winB l s = C at *
  unfold fnI at hc
  clear hq hRow hsz
  go_enter Try.func28, Try.ntmps28
  go_wp2_with fail
  refine hc.out.mono ?_
  rintro e w1 ⟨rfl, rfl⟩
  go_wp2_with fail
  go_ret
  exact ⟨rfl, hB1⟩

def CtRel (w : World) (wr : World) : Prop := Below w.heap.size w wr
set_option maxHeartbeats 1600000 in
theorem isCoterie_any (cap : Nat) (A : Option Addr) (l : List Nat) (w : World) (hq : Wds w w.heap.size A l) (hF : WFits l) (hl : l.length ≤ 1000) (hcap : l.length ≤ cap) (C : Bool) (hC : C = true ↔ Cot l) :
    Calls Try.prog 26 #[.slice A l.length cap] w fun e w' => e = .returned (.bool C) ∧ Below w.heap.size w w' := by
  have hqH := Lib.hid hq
  have hyes : Hid ((∀ a, a < l.length → ∀ j, j < a → clash (wat l a) (wat l j) = false) → C = true) := fun h => hC.2 (cot_half fun i j hi hj => h i hi j hj)
  have hno : Hid (∀ k j, k < l.length → j < k → clash (wat l k) (wat l j) = true → C = false) := fun k j hk hj e => by
    rw [← Bool.not_eq_true, hC]
    intro h
    have := h k j hk (by omega) (by omega)
    rw [e] at this
    cases this
  clear hC hq
  go_enter Try.func26, Try.ntmps26
  go_wp2_with fail
  go_loopw [8] (fun t wr => ∃ k : Nat, k ≤ l.length ∧ t = .int .i64 k ∧ CtRel w wr ∧ Hid (∀ a, a < k → ∀ j, j < a → clash (wat l a) (wat l j) = false)) (fun t _ => l.length - (intOf t).toNat)
  case atStart => exact ⟨0, Nat.zero_le _, rfl, Below.refl _ _, fun a h => absurd h (Nat.not_lt_zero _)⟩
  case round =>
    obtain ⟨k, hk, rfl, hB, hr⟩ := hrel
    unfold CtRel at hB
    by_cases hlt : k < l.length
    · have hqr := hqH.out.below hB
      have hB1 := hB.alloc hB.size (.cells #[.int .u32 (wat l k : Int)] 27)
      have hRow : Row (wr.alloc (.cells #[.int .u32 (wat l k : Int)] 27)) wr.heap.size 27 [.int .u32 (wat l k : Int)] := Row.made wr _ [_]
      have hlen : (l.take k).length = k := by rw [List.length_take]; omega
      have hcl := fun C h => containsM_any wr.heap.size cap _ A (l.take k) (clash (wat l k)) (fun x hx => cotCl_any (wat l k) wr.heap.size x _ (hF k) hx hRow) ((((hqH.out.below hB1).more hB1.size)).take hk) (hF.take k) (by omega) C h
      rw [hlen] at hcl
      have hclH := Lib.hid hcl
      obtain ⟨b2, off, rfl, hb, hc⟩ := hqr (by omega)
      have c0 := hc k hlt
      have hBH := Lib.hid hB1
      clear hc hcl hqr hB hRow hlen hB1
      have hkI : (k : Int) < (l.length : Int) := by omega
      have hkc : (k : Int) ≤ (cap : Int) := by omega
      by_cases hx : ∃ j, j < k ∧ clash (wat l k) (wat l j) = true
      · have hcc := Lib.hid (hclH.out true ⟨fun _ => by
          obtain ⟨j, hj, e⟩ := hx
          exact ⟨j, hj, by rw [wat_take hj hk]; exact e⟩, fun _ => rfl⟩)
        obtain ⟨j, hj, e⟩ := hx
        have hC0 := Lib.hid (hno.out k j hlt hj e)
        clear hclH hj e
        unfold fnM at hcc
        generalize wat l k = x at c0 hcc hBH ⊢
        obtain rfl := hC0.out
        go_wp2_with fail
        refine hcc.out.mono ?_
        rintro e w1 ⟨rfl, rfl⟩
        go_wp2_with fail
        go_ret
        exact ⟨rfl, hBH.out⟩
      · have hcc := Lib.hid (hclH.out false ⟨(nomatch ·), fun h => absurd h (by
          rintro ⟨j, hj, e⟩
          exact hx ⟨j, hj, by rw [← wat_take hj hk]; exact e⟩)⟩)
        have hn3 : Hid (∀ a, a < k + 1 → ∀ j, j < a → clash (wat l a) (wat l j) = false) := fun a ha j hj => by
          by_cases e : a = k
          · subst e
            cases hcl : clash (wat l a) (wat l j) with
            | false => rfl
            | true => exact absurd ⟨j, hj, hcl⟩ hx
          · exact hr.out a (by omega) j hj
        clear hclH hx
        unfold fnM at hcc
        generalize wat l k = x at c0 hcc hBH ⊢
        go_wp2_with fail
        refine hcc.out.mono ?_
        rintro e w1 ⟨rfl, rfl⟩
        go_wp2_with fail
        go_roundw
        case rel => exact ⟨k + 1, by omega, by go_num, hBH.out, hn3⟩
        case measure => simp [intOf]; omega
    · have hjl : k = l.length := by omega
      subst hjl
      have hC0 := Lib.hid (hyes.out hr.out)
      obtain rfl := hC0.out
      go_wp2_with fail
      go_ret
      exact ⟨rfl, hB⟩

set_option maxHeartbeats 800000 in
theorem check_any (cap : Nat) (n : Int) (A : Option Addr) (l : List Nat) (w : World) (hq : Wds w w.heap.size A l) (hF : WFits l) (hl : l.length ≤ maxLen) :
    Calls Try.prog 25 #[.int .i64 n, .slice A l.length cap] w fun e w' => e = .returned (.int .i64 (setsCode n l)) ∧ Below w.heap.size w w' := by
  have hB1 := (Below.refl w.heap.size w).alloc (Nat.le_refl _) (.cells #[.int .i64 n] 3)
  by_cases h1 : n < 1
  · have hx := Lib.hid (setsCode_large (l := l) (.inl h1))
    generalize setsCode n l = x at *
    obtain rfl := hx.out
    clear hq
    go_enter Try.func25, Try.ntmps25
    go_wp2_with fail
    go_ret
    exact ⟨rfl, hB1⟩
  · by_cases h2 : 6 < n
    · have hx := Lib.hid (setsCode_large (l := l) (.inr (.inl h2)))
      generalize setsCode n l = x at *
      obtain rfl := hx.out
      clear hq
      go_enter Try.func25, Try.ntmps25
      go_wp2_with fail
      go_ret
      exact ⟨rfl, hB1⟩
    · by_cases h3 : 20 < l.length
      · have hx := Lib.hid (setsCode_large (n := n) (.inr (.inr h3)))
        have h3I : (20 : Int) < (l.length : Int) := by omega
        generalize setsCode n l = x at *
        obtain rfl := hx.out
        clear hq
        go_enter Try.func25, Try.ntmps25
        go_wp2_with fail
        go_ret
        exact ⟨rfl, hB1⟩
      · have h3I : ¬ (20 : Int) < (l.length : Int) := by omega
        have hno : ¬ (n < 1 ∨ 6 < n ∨ 20 < l.length) := by omega
        obtain ⟨N, hN⟩ : ∃ N : Nat, n = (N : Int) := ⟨n.toNat, by omega⟩
        have hNt : n.toNat = N := by omega
        subst hN
        have hsz : (w.alloc (.cells #[.int .i64 (N : Int)] 3)).heap.size = w.heap.size + 1 := by simp
        have hRow : Row (w.alloc (.cells #[.int .i64 (N : Int)] 3)) w.heap.size 3 [.int .i64 (N : Int)] := Row.made w _ [_]
        have hcl := fun C h => containsK_any w.heap.size cap _ A l (badW N) (fun x hx => checkCl_any N w.heap.size x _ (by omega) hx hRow) ((hq.below hB1).more (by omega)) hF (by omega) C h
        by_cases hf : badIn N l
        · have hx := Lib.hid (setsCode_range hno (by rw [hNt]; exact hf))
          have hc := Lib.hid (hcl true ⟨fun _ => hf, fun _ => rfl⟩)
          generalize setsCode (N : Int) l = x at *
          obtain rfl := hx.out
          unfold fnK at hc
          clear hq hRow hf hsz hcl hNt hno
          go_enter Try.func25, Try.ntmps25
          go_wp2_with fail
          refine hc.out.mono ?_
          rintro e w1 ⟨rfl, rfl⟩
          go_wp2_with fail
          go_ret
          exact ⟨rfl, hB1⟩
        · have hx := Lib.hid (setsCode_ok hno (by rw [hNt]; exact hf))
          have hc := Lib.hid (hcl false ⟨(nomatch ·), fun h => absurd h hf⟩)
          generalize setsCode (N : Int) l = x at *
          obtain rfl := hx.out
          unfold fnK at hc
          clear hq hRow hf hsz hcl hNt hno
          go_enter Try.func25, Try.ntmps25
          go_wp2_with fail
          refine hc.out.mono ?_
          rintro e w1 ⟨rfl, rfl⟩
          go_wp2_with fail
          go_ret
          exact ⟨rfl, hB1⟩

set_option maxHeartbeats 800000 in
theorem checkCoterie_any (cap : Nat) (n : Int) (A : Option Addr) (l : List Nat) (w : World) (hq : Wds w w.heap.size A l) (hF : WFits l) (hl : l.length ≤ maxLen) (hcap : l.length ≤ cap) :
    Calls Try.prog 29 #[.int .i64 n, .slice A l.length cap] w fun e w' => e = .returned (.int .i64 (cotCode n l)) ∧ Below w.heap.size w w' := by
  have hc := Lib.hid (check_any cap n A l w hq hF hl)
  by_cases h0 : setsCode n l = 0
  · have hlen := (setsCode_zero h0).2.1
    have hct : Hid (∀ w1, Below w.heap.size w w1 → ∀ C : Bool, (C = true ↔ Cot l) → Calls Try.prog 26 #[.slice A l.length cap] w1 fun e w' => e = .returned (.bool C) ∧ Below w1.heap.size w1 w') := fun w1 hB C hC => isCoterie_any cap A l w1 ((hq.below hB).more hB.size) hF (by omega) hcap C hC
    rw [h0] at hc
    by_cases h1 : Cot l
    · have hx := Lib.hid (cotCode_ok h0 h1)
      have ht : Hid (∀ w1, Below w.heap.size w w1 → Calls Try.prog 26 #[.slice A l.length cap] w1 fun e w' => e = .returned (.bool true) ∧ Below w1.heap.size w1 w') := fun w1 hB => hct.out w1 hB true ⟨fun _ => h1, fun _ => rfl⟩
      generalize cotCode n l = x at *
      obtain rfl := hx.out
      clear hq hct h1 h0 hlen
      go_enter Try.func29, Try.ntmps29
      go_wp2_with fail
      refine hc.out.mono ?_
      rintro e w1 ⟨rfl, hB1⟩
      have ht' := Lib.hid (ht.out w1 hB1)
      clear ht hc
      go_wp2_with fail
      refine ht'.out.mono ?_
      rintro e w2 ⟨rfl, hB2⟩
      go_wp2_with fail
      go_ret
      exact ⟨rfl, hB1.trans (hB2.mono hB1.size)⟩
    · have hx := Lib.hid (cotCode_form h0 h1)
      have ht : Hid (∀ w1, Below w.heap.size w w1 → Calls Try.prog 26 #[.slice A l.length cap] w1 fun e w' => e = .returned (.bool false) ∧ Below w1.heap.size w1 w') := fun w1 hB => hct.out w1 hB false ⟨(nomatch ·), fun h => absurd h h1⟩
      generalize cotCode n l = x at *
      obtain rfl := hx.out
      clear hq hct h1 h0 hlen
      go_enter Try.func29, Try.ntmps29
      go_wp2_with fail
      refine hc.out.mono ?_
      rintro e w1 ⟨rfl, hB1⟩
      have ht' := Lib.hid (ht.out w1 hB1)
      clear ht hc
      go_wp2_with fail
      refine ht'.out.mono ?_
      rintro e w2 ⟨rfl, hB2⟩
      go_wp2_with fail
      go_ret
      exact ⟨rfl, hB1.trans (hB2.mono hB1.size)⟩
  · rw [cotCode_sets h0]
    generalize setsCode n l = x at *
    have hx0 : (x != 0) = true := by simpa using h0
    clear hq
    go_enter Try.func29, Try.ntmps29
    go_wp2_with fail
    refine hc.out.mono ?_
    rintro e w1 ⟨rfl, hB1⟩
    go_wp2_with fail
    go_ret
    exact ⟨rfl, hB1⟩
#print axioms includesOne_any
#print axioms isCoterie_any
#print axioms check_any
#print axioms checkCoterie_any
end Go.Proofs.Ytgamppdfjbcbeaa
