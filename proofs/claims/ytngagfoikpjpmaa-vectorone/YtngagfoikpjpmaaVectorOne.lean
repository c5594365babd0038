/-
  The walk of the law VectorOne: of two events of different processes one number decides.
-/
import Derived.Test.YtngagfoikpjpmaaVVs
import Derived.Test.YtngagfoikpjpmaaIns
import Derived.Test.YtngagfoikpjpmaaRan
import Derived.Test.YtngagfoikpjpmaaAhd
import Derived.BigQuiet
import Derived.Deep.QuietTactic
import Derived.Deep.RegionHeld3
import Derived.Test.YtngagfoikpjpmaaSkip
namespace Go.Proofs.Ytngagfoikpjpmaa
open Go.RowKit Go.Maps

theorem one_hb {c : Nat} {l : List Ev} (h0 : checkCode (c : Int) l = 0) {i j q : Nat} (hi : i < l.length) (hj : j < l.length) (hp : l[i].p = (q : Int)) (hne : ¬ l[i].p = l[j].p) : bitAt l i j = true ↔ vec l i (q : Int) ≤ vec l j (q : Int) := by
  have hs := (check_good.1 h0).2.sole
  have e : i ≠ j := fun e => by subst e; exact hne rfl
  have := knows_vec hs hi hj
  rw [ev_get l hi, hp] at this
  rw [← this]
  unfold knows
  simp [e]
theorem VOut.num {l : List Ev} {c T : Nat} {gs : Nat → Nat} {w : World} (h : VOut l c T gs w) {i p : Nat} (hi : i < l.length) (hp : p < c) : w.cell? ⟨gs i, p, none⟩ = some (.int .i64 ((vec l i (p : Int) : Nat) : Int)) := by
  obtain ⟨b, off, e, _, hc⟩ := h.nums i hi (by rw [vlist_len]; omega)
  have := hc p (by rw [vlist_len]; exact hp)
  have h2 : b = gs i ∧ off = 0 := by injection e with e; injection e with e1 e2; exact ⟨e1.symm, e2.symm⟩
  obtain ⟨rfl, rfl⟩ := h2
  rw [Nat.zero_add, ← vat_get _ (by rw [vlist_len]; exact hp), vlist_at l i hp] at this
  exact this

set_option maxHeartbeats 1000000 in
theorem vecone_no (w : World) (n : Int) (A : Option Addr) (cap : Nat) (l : List Ev) (hE : Evs w w.heap.size A l) (hF : Fits l) (hcap : l.length ≤ cap) (hl : l.length ≤ maxLen) (i j : Int) (h0 : ¬ checkCode n l = 0) :
    Calls Try.prog 7 #[.int .i64 n, .slice A l.length cap, .int .i64 i, .int .i64 j] w fun e w' => e = .returned (.bool true) ∧ Below w.heap.size w w' := by
  have hr : (checkCode n l == 0) = false := by simp [h0]
  have hr' : (checkCode n l != 0) = true := by simp [h0]
  have h0H := Lib.hid h0
  clear h0
  go_enter Try.func7, Try.ntmps7
  go_wp2_with fail
  refine (vectors_no A cap l n _ hE hF hl h0H.out).mono ?_
  rintro e w1 ⟨rfl, hB1⟩
  go_wp2_with fail
  refine (ran_any A cap l n _ ((hE.below hB1).more hB1.size) hcap hl).mono ?_
  rintro e w3 ⟨rfl, hB3'⟩
  have hB3 := hB1.trans (hB3'.mono hB1.size)
  go_wp2_with fail
  go_ret
  exact ⟨rfl, hB3⟩

set_option maxHeartbeats 4000000 in
set_option maxRecDepth 100000 in
theorem vecone_out (w : World) (c : Nat) (A : Option Addr) (cap : Nat) (l : List Ev) (hE : Evs w w.heap.size A l) (hF : Fits l) (hcap : l.length ≤ cap) (i j : Int) (h0 : checkCode (c : Int) l = 0) (hij : ¬ ((0 ≤ i ∧ i < l.length) ∧ (0 ≤ j ∧ j < l.length))) :
    Calls Try.prog 7 #[.int .i64 (c : Int), .slice A l.length cap, .int .i64 i, .int .i64 j] w fun e w' => e = .returned (.bool true) ∧ Below w.heap.size w w' := by
  have hr : (checkCode (c : Int) l == 0) = true := by simp [h0]
  have h30 := (check_small h0).2.2
  have hl : l.length ≤ maxLen := by unfold maxLen; omega
  have hin : Hid (inB l.length [i, j] = false) := by
    unfold Hid inB
    rw [← Bool.not_eq_true]
    simp only [List.all_cons, List.all_nil, Bool.and_true, Bool.and_eq_true, decide_eq_true_eq]
    exact hij
  have h0H := Lib.hid h0
  clear h0 hij
  go_enter Try.func7, Try.ntmps7
  go_wp2_with fail
  refine (vectors_ok A cap l c _ hE hF h0H.out).mono ?_
  rintro e w1 ⟨T, gs, rfl, hO1, hB1⟩
  clear hO1
  go_wp2_with fail
  refine (ran_any A cap l (c : Int) _ ((hE.below hB1).more hB1.size) hcap hl).mono ?_
  rintro e w3 ⟨rfl, hB3'⟩
  have hB3 := hB1.trans (hB3'.mono hB1.size)
  clear hB3' hB1
  have hcallH := Lib.hid (inside_any (some ⟨w3.heap.size, 0, none⟩) 2 [i, j] l.length (w3.alloc (.cells #[.int .i64 i, .int .i64 j] 3)).drew (nums2 w3 i j 3) (by simp) false hin)
  go_wp2_with fail
  refine wp_region_any (by kernel_rfl) ?_
  change wpAny _ _ _ _ _ _ _ (World.drew _)
  refine wpAny_take (i := 0) (v := .slice A l.length cap) rfl (by kernel_rfl) (by kernel_rfl) (by kernel_rfl) (fun _ _ _ h => h) (Or.inl ⟨by kernel_rfl, (by intro w; go_simp)⟩) ?_
  refine wpAny_take (i := 1) (v := .int .i64 l.length) rfl (by kernel_rfl) (by kernel_rfl) (by kernel_rfl) (fun _ _ _ h => h) (Or.inl ⟨by kernel_rfl, (by intro w; go_simp)⟩) ?_
  refine wpAny_take (i := 2) (v := .int .i64 i) rfl (by kernel_rfl) (by kernel_rfl) (by kernel_rfl) (fun _ _ _ h => h) (Or.inl ⟨by kernel_rfl, (by intro w; go_simp)⟩) ?_
  refine wpAny_take (i := 3) (v := .int .i64 j) rfl (by kernel_rfl) (by kernel_rfl) (by kernel_rfl) (fun _ _ _ h => h) (Or.inl ⟨by kernel_rfl, (by intro w; go_simp)⟩) ?_
  refine wpAny_ready (rs := [4]) (by kernel_rfl) (by simp) ?_
  refine AllReady.cons rfl (fun K hK => ?_) AllReady.nil
  go_simp
  refine hK _ _ ?_
  clear hK K
  refine wpAny_ready (rs := [5]) (by kernel_rfl) (by simp) ?_
  refine AllReady.cons rfl (fun K hK => ?_) AllReady.nil
  go_simp
  refine (hcallH.out).mono ?_
  rintro e w9 ⟨rfl, rfl⟩
  refine hK _ _ ?_
  clear hK K
  refine wpAny_ready (rs := [6]) (by kernel_rfl) (by simp) ?_
  refine AllReady.cons rfl (fun K hK => ?_) AllReady.nil
  go_simp
  refine hK _ _ ?_
  clear hK K
  refine wpAny_ready (rs := [7]) (by kernel_rfl) (by simp) ?_
  refine AllReady.cons rfl (fun K hK => ?_) AllReady.nil
  go_simp
  refine hK _ _ ?_
  clear hK K
  refine wpAny_take (i := 8) (v := undef) rfl (by kernel_rfl) (by kernel_rfl) (by kernel_rfl) (fun _ _ _ h => h) (Or.inr ⟨by kernel_rfl, rfl⟩) ?_
  refine wpAny_take (i := 9) (v := undef) rfl (by kernel_rfl) (by kernel_rfl) (by kernel_rfl) (fun _ _ _ h => h) (Or.inr ⟨by kernel_rfl, rfl⟩) ?_
  refine wpAny_take (i := 13) (v := undef) rfl (by kernel_rfl) (by kernel_rfl) (by kernel_rfl) (fun _ _ _ h => h) (Or.inr ⟨by kernel_rfl, rfl⟩) ?_
  refine wpAny_take (i := 14) (v := undef) rfl (by kernel_rfl) (by kernel_rfl) (by kernel_rfl) (fun _ _ _ h => h) (Or.inr ⟨by kernel_rfl, rfl⟩) ?_
  refine skip_any (us := [10, 11, 12, 15, 16, 17, 18]) (p := 19) (fun q hq => ?_) ?_ _ _ (by kernel_rfl)
  · have hq' : q ∈ [10, 11, 12, 15, 16, 17, 18] := by simpa using hq
    simp only [List.mem_cons, List.not_mem_nil, or_false] at hq'
    rcases hq' with rfl | rfl | rfl | rfl | rfl | rfl | rfl
    all_goals exact ⟨_, rfl, by kernel_rfl, by kernel_rfl⟩
  refine wpOp_step rfl (fun K hK => ?_)
  go_simp
  refine hK _ _ ?_
  clear hK K
  have hB9 : Below w.heap.size w (w3.alloc (.cells #[.int .i64 i, .int .i64 j] 3)).drew := (hB3.alloc hB3.size _).drew
  generalize (w3.alloc (.cells #[.int .i64 i, .int .i64 j] 3)).drew = w9 at *
  go_wp2_with fail
  go_ret
  exact ⟨rfl, hB9⟩

set_option maxHeartbeats 8000000 in
set_option maxRecDepth 100000 in
theorem vecone_in (w : World) (c : Nat) (A : Option Addr) (cap : Nat) (l : List Ev) (hE : Evs w w.heap.size A l) (hF : Fits l) (hcap : l.length ≤ cap) (i j : Nat) (h0 : checkCode (c : Int) l = 0) (hi : i < l.length) (hj : j < l.length) :
    Calls Try.prog 7 #[.int .i64 (c : Int), .slice A l.length cap, .int .i64 i, .int .i64 j] w fun e w' => e = .returned (.bool true) ∧ Below w.heap.size w w' := by
  have hr : (checkCode (c : Int) l == 0) = true := by simp [h0]
  obtain ⟨⟨hc1, hc6, h30⟩, hgd⟩ := check_good.1 h0
  have hl : l.length ≤ maxLen := by unfold maxLen; omega
  have hin : Hid (inB l.length [(i : Int), (j : Int)] = true) := by unfold Hid inB; simp; omega
  have hpr := hgd.proc i hi
  rw [ev_get l hi] at hpr
  obtain ⟨q, hq⟩ := Int.eq_ofNat_of_zero_le hpr.1
  have hqc : q < c := by omega
  have hone : Hid (¬ (q : Int) = l[j].p → (bitAt l i j = true ↔ vec l i (q : Int) ≤ vec l j (q : Int))) := fun hne => one_hb h0 hi hj hq (by rw [hq]; exact hne)
  have hqH := Lib.hid hq
  have h0H := Lib.hid h0
  clear h0 hgd hpr hq
  go_enter Try.func7, Try.ntmps7
  go_wp2_with fail
  refine (vectors_ok A cap l c _ hE hF h0H.out).mono ?_
  rintro e w1 ⟨T, gs, rfl, hO1, hB1⟩
  go_wp2_with fail
  refine (ran_any A cap l (c : Int) _ ((hE.below hB1).more hB1.size) hcap hl).mono ?_
  rintro e w3 ⟨rfl, hB3'⟩
  have hO3 := hO1.below hB3'
  have hB3 := hB1.trans (hB3'.mono hB1.size)
  clear hB3' hB1 hO1
  have hcallH := Lib.hid (inside_any (some ⟨w3.heap.size, 0, none⟩) 2 [(i : Int), (j : Int)] l.length (w3.alloc (.cells #[.int .i64 (i : Int), .int .i64 (j : Int)] 3)).drew (nums2 w3 (i : Int) (j : Int) 3) (by simp) true hin)
  have hiI : (i : Int) < (l.length : Int) := by omega
  have hjI : (j : Int) < (l.length : Int) := by omega
  have hqI : (q : Int) < (c : Int) := by omega
  obtain ⟨b, off, rfl, hb, hc⟩ := hE.below hB3 (by omega)
  have c0 := (hc i hi).1
  have c1 := (hc j hj).1
  rw [hqH.out] at c0
  clear hc
  obtain ⟨pj, hpj⟩ : ∃ pj, Hid (l[j].p = pj) := ⟨l[j].p, Lib.hid rfl⟩
  rw [hpj.out] at c1
  by_cases hsame : (q : Int) = pj
  · subst hsame
    clear hone
    go_wp2_with fail
    go_region_held3 (fun w' => w'.cell? ⟨b, off + i * 3, none⟩ = some (.int .i64 (q : Int)) ∧ w'.cell? ⟨b, off + j * 3, none⟩ = some (.int .i64 (q : Int))) (first | go_keep) (first | (go_at_call 20; refine (hcallH.out).mono ?_; rintro e w9 ⟨rfl, rfl⟩))
    have hB9 : Below w.heap.size w (w3.alloc (.cells #[.int .i64 (i : Int), .int .i64 (j : Int)] 3)).drew := (hB3.alloc hB3.size _).drew
    generalize (w3.alloc (.cells #[.int .i64 (i : Int), .int .i64 (j : Int)] 3)).drew = w9 at *
    go_wp2_with fail
    go_ret
    exact ⟨rfl, hB9⟩
  · have hb1 : ((q : Int) == pj) = false := by simp [hsame]
    have hdec := Lib.hid (hone.out (by rw [hpj.out]; exact hsame))
    clear hone hsame
    go_wp2_with fail
    go_region_held3 (fun w' => w'.cell? ⟨b, off + i * 3, none⟩ = some (.int .i64 (q : Int)) ∧ w'.cell? ⟨b, off + j * 3, none⟩ = some (.int .i64 pj)) (first | go_keep) (first | (go_at_call 20; refine (hcallH.out).mono ?_; rintro e w9 ⟨rfl, rfl⟩))
    have hB9 : Below w.heap.size w (w3.alloc (.cells #[.int .i64 (i : Int), .int .i64 (j : Int)] 3)).drew := (hB3.alloc hB3.size _).drew
    have hO9 := hO3.below ((Below.refl w3.heap.size w3).alloc (Nat.le_refl _) (.cells #[.int .i64 (i : Int), .int .i64 (j : Int)] 3)).drew
    generalize (w3.alloc (.cells #[.int .i64 (i : Int), .int .i64 (j : Int)] 3)).drew = w9 at *
    clear hB3 hO3 c0 c1 hcallH
    obtain ⟨b', off', he, _, hc⟩ := hE.below hB9 (by omega)
    have c0 := (hc i hi).1
    rw [hqH.out] at c0
    have he2 : b = b' ∧ off = off' := by injection he with he; injection he with e1 e2; exact ⟨e1, e2⟩
    obtain ⟨rfl, rfl⟩ := he2
    clear hc he
    have s1 := hO9.slot i hi
    have s2 := hO9.slot j hj
    go_wp2_with fail
    refine (ahead_ok (some ⟨b, off, none⟩) cap l (c : Int) i j _ ((hE.below hB9).more hB9.size) hF h0H.out hi hj).mono ?_
    rintro e w10 ⟨rfl, hB10'⟩
    have hO10 := hO9.below hB10'
    have hB10 := hB9.trans (hB10'.mono hB9.size)
    clear hB9 hO9 hB10' s1 s2 c0
    have s1 := hO10.slot i hi
    have s2 := hO10.slot j hj
    have x1 := hO10.num hi hqc
    have x2 := hO10.num hj hqc
    clear hO10
    generalize gs i = gi at *
    generalize gs j = gj at *
    generalize vec l i (q : Int) = vi at *
    generalize vec l j (q : Int) = vj at *
    generalize bitAt l i j = C at *
    cases C with
    | true =>
      have hle : vi ≤ vj := hdec.out.1 rfl
      have hd : decide (vi ≤ vj) = true := by simp [hle]
      go_wp2_with fail
      go_quiet (fail)
      go_wp2_with fail
      go_ret
      exact ⟨rfl, below_drewN hB10 _⟩
    | false =>
      have hle : ¬ vi ≤ vj := fun h => by have := hdec.out.2 h; cases this
      have hd : decide (vi ≤ vj) = false := by simp [hle]
      go_wp2_with fail
      go_quiet (fail)
      go_wp2_with fail
      go_ret
      exact ⟨rfl, below_drewN hB10 _⟩

theorem vectorOne_law (w : World) (n : Int) (_hn : I64 n) (A : Option Addr) (cap : Nat) (l : List Ev) (hE : Evs w w.heap.size A l) (hF : Fits l) (hcap : l.length ≤ cap) (hl : l.length ≤ maxLen) (_hs : l.length ≤ 17592186044416) (i : Int) (_hi : I64 i) (j : Int) (_hj : I64 j) :
    Calls Try.prog 7 #[.int .i64 n, .slice A l.length cap, .int .i64 i, .int .i64 j] w fun e w' => e = .returned (.bool true) ∧ Below w.heap.size w w' := by
  by_cases h0 : checkCode n l = 0
  · have hn := (check_small h0).1
    obtain ⟨c, rfl⟩ := Int.eq_ofNat_of_zero_le (show 0 ≤ n by omega)
    by_cases hij : (0 ≤ i ∧ i < l.length) ∧ (0 ≤ j ∧ j < l.length)
    · obtain ⟨x, rfl⟩ := Int.eq_ofNat_of_zero_le hij.1.1
      obtain ⟨y, rfl⟩ := Int.eq_ofNat_of_zero_le hij.2.1
      exact vecone_in w c A cap l hE hF hcap x y h0 (by omega) (by omega)
    · exact vecone_out w c A cap l hE hF hcap i j h0 hij
  · exact vecone_no w n A cap l hE hF hcap hl i j h0

#print axioms vectorOne_law
end Go.Proofs.Ytngagfoikpjpmaa
