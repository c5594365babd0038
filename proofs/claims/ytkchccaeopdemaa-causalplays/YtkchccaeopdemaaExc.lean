/-
  The contract of (*group).execute of package causal.
-/
import Derived.Test.YtkchccaeopdemaaCom
namespace Go.Proofs.Ytkchccaeopdemaa
open Go.RowKit Go.Maps Go.Deep

set_option maxHeartbeats 800000 in
theorem isproc_any (w : World) (b1 gb P n : Nat) (x : Int) (h1 : w.cell? ⟨b1, 0, none⟩ = some (.pointer (some ⟨gb, 0, none⟩))) (h2 : w.cell? ⟨gb, 0, none⟩ = some (.slice (some ⟨P, 0, none⟩) n n)) (C : Bool) (hC : C = true ↔ 0 ≤ x ∧ x < (n : Int)) :
    Calls Try.prog 20 #[.int .i64 x, .pointer (some ⟨b1, 0, none⟩)] w fun e w' => e = .returned (.bool C) ∧ w' = w := by
  have hCH := Lib.hid hC
  clear hC
  by_cases h0 : x < 0
  · have hc : Hid (C = false) := by unfold Hid; rw [← Bool.not_eq_true, hCH.out]; omega
    go_enter Try.func20, Try.ntmps20
    go_wp2_with fail
    go_ret
    exact ⟨by rw [hc.out]; rfl, rfl⟩
  · by_cases h3 : x < (n : Int)
    · have hc : Hid (C = true) := by unfold Hid; rw [hCH.out]; omega
      go_enter Try.func20, Try.ntmps20
      go_wp2_with fail
      go_ret
      exact ⟨by rw [hc.out]; rfl, rfl⟩
    · have hc : Hid (C = false) := by unfold Hid; rw [← Bool.not_eq_true, hCH.out]; omega
      go_enter Try.func20, Try.ntmps20
      go_wp2_with fail
      go_ret
      exact ⟨by rw [hc.out]; rfl, rfl⟩

theorem stepC_kind {n : Nat} {S : CS} {m : Mv} (h1 : m.k ≠ 1) (h2 : m.k ≠ 2) : stepC n S m = (S, 6) := by unfold stepC; rw [if_neg h1, if_neg h2]
theorem stepC_arg1 {n : Nat} {S : CS} {m : Mv} (h1 : m.k = 1) (h2 : ¬ (0 ≤ m.f ∧ m.f < (n : Int))) : stepC n S m = (S, 2) := by unfold stepC; rw [if_pos h1, if_neg h2]
theorem stepC_tell {n : Nat} {S : CS} {m : Mv} (h1 : m.k = 1) {i : Nat} (hi : i < n) (h2 : m.f = (i : Int)) : stepC n S m = (S.tell i, 0) := by
  unfold stepC
  rw [if_pos h1, if_pos (by omega), h2]; rfl
theorem stepC_arg2 {n : Nat} {S : CS} {m : Mv} (h1 : m.k = 2) (h2 : ¬ (0 ≤ m.t ∧ m.t < (n : Int))) : stepC n S m = (S, 2) := by unfold stepC; rw [if_neg (by omega), if_pos h1, if_neg h2]
theorem stepC_range {n : Nat} {S : CS} {m : Mv} (h1 : m.k = 2) (h2 : 0 ≤ m.t ∧ m.t < (n : Int)) (h3 : m.v < 0 ∨ (S.m : Int) ≤ m.v) : stepC n S m = (S, 4) := by unfold stepC; rw [if_neg (by omega), if_pos h1, if_pos h2, if_pos h3]
theorem stepC_hold {n : Nat} {S : CS} {m : Mv} (h1 : m.k = 2) {i v : Nat} (hi : i < n) (h2 : m.t = (i : Int)) (hv : v < S.m) (h3 : m.v = (v : Int)) (h4 : v ∈ S.wt i ∨ v ∈ S.td i) : stepC n S m = (S, 7) := by
  unfold stepC
  rw [if_neg (by omega), if_pos h1, if_pos (by omega), if_neg (by omega), h2, h3, if_pos (by simpa using h4)]
theorem stepC_come {n : Nat} {S : CS} {m : Mv} (h1 : m.k = 2) {i v : Nat} (hi : i < n) (h2 : m.t = (i : Int)) (hv : v < S.m) (h3 : m.v = (v : Int)) (h4 : ¬ (v ∈ S.wt i ∨ v ∈ S.td i)) : stepC n S m = (S.come v i, 0) := by
  unfold stepC
  rw [if_neg (by omega), if_pos h1, if_pos (by omega), if_neg (by omega), h2, h3, if_neg (by simpa using h4)]
  rfl

/-- come, whatever there is. -/
theorem come_any (w : World) (B gb n P : Nat) (S : CS) (hS : Grp w B gb n P S) (hI : CI0 n S) (i : Nat) (hi : i < n) (hn : n ≤ 6) (hl : ∀ j, (S.ls j).length ≤ 300) (hm : S.m ≤ 1000) (m : Mv) (h1 : m.k = 2) (h2 : m.t = (i : Int)) :
    Calls Try.prog 22 #[.pointer (some ⟨gb, 0, none⟩), .int .i64 m.v, .int .i64 (i : Int)] w (ComRes B gb n P w (stepC n S m).1 (stepC n S m).2) := by
  by_cases hr : m.v < 0 ∨ (S.m : Int) ≤ m.v
  · rw [stepC_range h1 (by omega) hr]
    exact come_range w B gb n P S hS i m.v hr
  · obtain ⟨v, hv⟩ := Int.eq_ofNat_of_zero_le (a := m.v) (by omega)
    have hvm : v < S.m := by omega
    by_cases hh : v ∈ S.wt i ∨ v ∈ S.td i
    · rw [stepC_hold h1 hi h2 hvm hv hh, hv]
      exact come_held w B gb n P S hS hI i v hi hvm hl hh
    · rw [stepC_come h1 hi h2 hvm hv hh, hv]
      exact come_new w B gb n P S hS hI i v hi hn hvm hl hm (fun h => hh (.inl h)) (fun h => hh (.inr h))

set_option maxHeartbeats 4000000 in
theorem execute_any (w : World) (B gb n P : Nat) (S : CS) (hS : Grp w B gb n P S) (m : Mv) (hf : MvFits m) (hI : CI0 n S) (hn : n ≤ 6) (hl : ∀ j, (S.ls j).length ≤ 300) (hm : S.m ≤ 1000) :
    Calls Try.prog 18 #[.pointer (some ⟨gb, 0, none⟩), mvVal m] w (ComRes B gb n P w (stepC n S m).1 (stepC n S m).2) := by
  have hsz := hS.sz
  have hS1 := (hS.alloc (.cells #[.pointer (some ⟨gb, 0, none⟩)] 46)).alloc (.cells #[.int .i64 m.k, .int .i64 m.f, .int .i64 m.t, .int .i64 m.v] 39)
  have hB1 := ((Bl.refl B w).alloc hsz (.cells #[.pointer (some ⟨gb, 0, none⟩)] 46)).alloc (by simp; omega) (.cells #[.int .i64 m.k, .int .i64 m.f, .int .i64 m.t, .int .i64 m.v] 39)
  have hR1 : Row ((w.alloc (.cells #[.pointer (some ⟨gb, 0, none⟩)] 46)).alloc (.cells #[.int .i64 m.k, .int .i64 m.f, .int .i64 m.t, .int .i64 m.v] 39)) w.heap.size 46 [.pointer (some ⟨gb, 0, none⟩)] := (Row.made w 46 [.pointer (some ⟨gb, 0, none⟩)]).alloc _
  have hR2 : Row ((w.alloc (.cells #[.pointer (some ⟨gb, 0, none⟩)] 46)).alloc (.cells #[.int .i64 m.k, .int .i64 m.f, .int .i64 m.t, .int .i64 m.v] 39)) (w.heap.size + 1) 39 [.int .i64 m.k, .int .i64 m.f, .int .i64 m.t, .int .i64 m.v] := by
    have := Row.made (w.alloc (.cells #[.pointer (some ⟨gb, 0, none⟩)] 46)) 39 [.int .i64 m.k, .int .i64 m.f, .int .i64 m.t, .int .i64 m.v]
    rw [show (w.alloc (.cells #[.pointer (some ⟨gb, 0, none⟩)] 46)).heap.size = w.heap.size + 1 by simp] at this
    exact this
  have x1 := hR1.cell (i := 0) (by simp)
  have y0 := hR2.cell (i := 0) (by simp)
  have y1 := hR2.cell (i := 1) (by simp)
  have y2 := hR2.cell (i := 2) (by simp)
  have y3 := hR2.cell (i := 3) (by simp)
  simp only [List.getElem_cons_zero, List.getElem_cons_succ] at x1 y0 y1 y2 y3
  have hstay : (stepC n S m).1 = S → ∀ w', Grp w' B gb n P S → Grp w' B gb n P (stepC n S m).1 := fun e w' h => by rw [e]; exact h
  have hc0 : ((w.alloc (.cells #[.pointer (some ⟨gb, 0, none⟩)] 46)).alloc (.cells #[.int .i64 m.k, .int .i64 m.f, .int .i64 m.t, .int .i64 m.v] 39)).cell? ⟨gb, 0, none⟩ = some (.slice (some ⟨P, 0, none⟩) n n) := by
    obtain ⟨vs, vm, hA⟩ := hS1
    exact hA.cells.1
  have hip : Hid (∀ x C, (C = true ↔ 0 ≤ x ∧ x < (n : Int)) → Calls Try.prog 20 #[.int .i64 x, .pointer (some ⟨w.heap.size, 0, none⟩)] ((w.alloc (.cells #[.pointer (some ⟨gb, 0, none⟩)] 46)).alloc (.cells #[.int .i64 m.k, .int .i64 m.f, .int .i64 m.t, .int .i64 m.v] 39)) fun e w' => e = .returned (.bool C) ∧ w' = ((w.alloc (.cells #[.pointer (some ⟨gb, 0, none⟩)] 46)).alloc (.cells #[.int .i64 m.k, .int .i64 m.f, .int .i64 m.t, .int .i64 m.v] 39))) :=
    fun x C h => isproc_any _ w.heap.size gb P n x x1 hc0 C h
  have hte : Hid (∀ i : Nat, i < n → Calls Try.prog 21 #[.pointer (some ⟨gb, 0, none⟩), .int .i64 (i : Int)] ((w.alloc (.cells #[.pointer (some ⟨gb, 0, none⟩)] 46)).alloc (.cells #[.int .i64 m.k, .int .i64 m.f, .int .i64 m.t, .int .i64 m.v] 39)) fun e w' => e = .returned (.tuple #[]) ∧ Grp w' B gb n P (S.tell i) ∧ Bl B ((w.alloc (.cells #[.pointer (some ⟨gb, 0, none⟩)] 46)).alloc (.cells #[.int .i64 m.k, .int .i64 m.f, .int .i64 m.t, .int .i64 m.v] 39)) w') :=
    fun i hi => tell_any _ B gb n P S hS1 i hi (by have := hl (2 * i); unfold CS.td; omega) hm
  have hco : Hid (∀ i : Nat, i < n → m.k = 2 → m.t = (i : Int) → Calls Try.prog 22 #[.pointer (some ⟨gb, 0, none⟩), .int .i64 m.v, .int .i64 (i : Int)] ((w.alloc (.cells #[.pointer (some ⟨gb, 0, none⟩)] 46)).alloc (.cells #[.int .i64 m.k, .int .i64 m.f, .int .i64 m.t, .int .i64 m.v] 39)) (ComRes B gb n P ((w.alloc (.cells #[.pointer (some ⟨gb, 0, none⟩)] 46)).alloc (.cells #[.int .i64 m.k, .int .i64 m.f, .int .i64 m.t, .int .i64 m.v] 39)) (stepC n S m).1 (stepC n S m).2)) :=
    fun i hi hk ht => come_any _ B gb n P S hS1 hI i hi hn hl hm m hk ht
  have s1 := Lib.hid (stepC_kind (n := n) (S := S) (m := m))
  have s2 := Lib.hid (stepC_arg1 (n := n) (S := S) (m := m))
  have s3 := Lib.hid (stepC_arg2 (n := n) (S := S) (m := m))
  have s4 : Hid (m.k = 1 → ∀ i : Nat, i < n → m.f = (i : Int) → stepC n S m = (S.tell i, 0)) := fun h1 i hi h2 => stepC_tell h1 hi h2
  have hS1H := Lib.hid hS1
  have hB1H := Lib.hid hB1
  generalize stepC n S m = R at *
  obtain ⟨k, f, t, v⟩ := m
  simp only at *
  obtain ⟨⟨k1, k2⟩, ⟨f1, f2⟩, ⟨t1, t2⟩, ⟨v1, v2⟩⟩ := hf
  simp only at k1 k2 f1 f2 t1 t2 v1 v2
  clear hS hS1 hB1 hR1 hR2 hI hl hstay
  unfold mvVal
  simp only
  go_enter Try.func18, Try.ntmps18
  by_cases hk1 : k = 1
  · have e1 : (k == 1) = true := by simp [hk1]
    by_cases hff : 0 ≤ f ∧ f < (n : Int)
    · obtain ⟨i, hfi⟩ := Int.eq_ofNat_of_zero_le hff.1
      have hin : i < n := by omega
      have hR := Lib.hid (s4.out hk1 i hin hfi)
      have hp := Lib.hid (hip.out f true (by simp; omega))
      have ht := Lib.hid (hte.out i hin)
      have hfH := Lib.hid hfi
      subst hfi
      clear hip hte hco s1 s2 s3 s4 hk1 hff hfH
      go_wp2_with fail
      refine hp.out.mono ?_
      rintro e w2 ⟨rfl, rfl⟩
      go_wp2_with fail
      refine ht.out.mono ?_
      rintro e w3 ⟨rfl, hG3, hB3⟩
      go_wp2_with fail
      go_ret
      rw [hR.out]
      exact ⟨rfl, hG3, hB1H.out.trans hB3⟩
    · have hR := Lib.hid (s2.out hk1 hff)
      have hp := Lib.hid (hip.out f false (by simp; omega))
      clear hip hte hco s1 s2 s3 s4 hk1 hff
      go_wp2_with fail
      refine hp.out.mono ?_
      rintro e w2 ⟨rfl, rfl⟩
      go_wp2_with fail
      go_ret
      rw [hR.out]
      exact ⟨rfl, hS1H.out, hB1H.out⟩
  · have e1 : (k == 1) = false := by simp [hk1]
    by_cases hk2 : k = 2
    · have e2 : (k == 2) = true := by simp [hk2]
      by_cases htt : 0 ≤ t ∧ t < (n : Int)
      · obtain ⟨i, hti⟩ := Int.eq_ofNat_of_zero_le htt.1
        have hin : i < n := by omega
        have hp := Lib.hid (hip.out t true (by simp; omega))
        have hc := Lib.hid (hco.out i hin hk2 hti)
        subst hti
        clear hip hte hco s1 s2 s3 s4 hk1 hk2 htt
        go_wp2_with fail
        refine hp.out.mono ?_
        rintro e w2 ⟨rfl, rfl⟩
        go_wp2_with fail
        refine hc.out.mono ?_
        rintro e w3 ⟨rfl, hG3, hB3⟩
        go_wp2_with fail
        go_ret
        exact ⟨rfl, hG3, hB1H.out.trans hB3⟩
      · have hR := Lib.hid (s3.out hk2 htt)
        have hp := Lib.hid (hip.out t false (by simp; omega))
        clear hip hte hco s1 s2 s3 s4 hk1 hk2 htt
        go_wp2_with fail
        refine hp.out.mono ?_
        rintro e w2 ⟨rfl, rfl⟩
        go_wp2_with fail
        go_ret
        rw [hR.out]
        exact ⟨rfl, hS1H.out, hB1H.out⟩
    · have e2 : (k == 2) = false := by simp [hk2]
      have hR := Lib.hid (s1.out hk1 hk2)
      clear hip hte hco s1 s2 s3 s4 hk1 hk2
      go_wp2_with fail
      go_ret
      rw [hR.out]
      exact ⟨rfl, hS1H.out, hB1H.out⟩

#print axioms execute_any
end Go.Proofs.Ytkchccaeopdemaa
