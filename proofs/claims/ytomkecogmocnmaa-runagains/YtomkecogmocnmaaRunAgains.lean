/-
  The walk of the law RunAgains: run.Again and the document's answer are alike.
-/
import Derived.Test.YtomkecogmocnmaaTbl
import Derived.Test.YtomkecogmocnmaaRunSwap
namespace Go.Proofs.Ytomkecogmocnmaa
open Go.RowKit Go.Maps

set_option maxHeartbeats 400000 in
theorem refhas_any (A : Option Addr) (cap : Nat) (o : List Int) (x : Int) (w : World) (hE : Nums w w.heap.size A o) (hl : o.length ≤ 30) (C : Bool) (hC : Hid (C = true ↔ x ∈ o)) :
    Calls Try.prog 26 #[.slice A o.length cap, .int .i64 x] w fun e w' => e = .returned (.bool C) ∧ w = w' := by
  go_enter Try.func26, Try.ntmps26
  go_wp2
  go_loop [9] (fun i => ∃ k : Nat, k ≤ o.length ∧ i = .int .i64 k ∧ Hid (∀ j, (h : j < o.length) → j < k → o[j] ≠ x)) (fun i => o.length - (intOf i).toNat)
  case atStart => exact ⟨0, Nat.zero_le _, rfl, fun _ _ h => absurd h (Nat.not_lt_zero _)⟩
  case round =>
    obtain ⟨k, hk, rfl, hr⟩ := hrel
    by_cases hlt : k < o.length
    · obtain ⟨b, off, rfl, hb, hc⟩ := hE (by omega)
      have c0 := hc k hlt
      clear hc
      by_cases he : o[k] = x
      · have hf : Hid (C = true) := hC.out.2 (by rw [← he]; exact List.getElem_mem hlt)
        generalize o[k] = y at *
        have hb1 : (x == y) = true := by simp [he]
        clear he
        go_wp2
        go_ret
        exact ⟨by rw [hf.out]; rfl, rfl⟩
      · have hn : Hid (∀ j, (h : j < o.length) → j < k + 1 → o[j] ≠ x) := fun j h hj => by
          by_cases e : j = k
          · subst e; exact he
          · exact hr.out j h (by omega)
        generalize o[k] = y at *
        have hb1 : (x == y) = false := by simp; exact fun h => he h.symm
        clear he
        go_wp2
        go_round
        case rel => exact ⟨k + 1, by omega, by go_num, hn⟩
        case measure => simp [intOf]; omega
    · have hf : Hid (C = false) := by
        unfold Hid
        rw [← Bool.not_eq_true, hC.out]
        intro h
        obtain ⟨j, hj, e⟩ := List.getElem_of_mem h
        exact hr.out j hj (by omega) e
      go_wp2
      go_ret
      exact ⟨by rw [hf.out]; rfl, rfl⟩

set_option maxHeartbeats 400000 in
theorem once_loop (A : Option Addr) (cap : Nat) (o : List Int) (w : World) (hE : Nums w w.heap.size A o) (hl : o.length ≤ 30) (C : Bool) (hC : Hid (C = true ↔ ∀ i : Nat, i < o.length → (i : Int) ∈ o)) :
    Calls Try.prog 17 #[.int .i64 o.length, .slice A o.length cap] w fun e w' => e = .returned (.bool C) ∧ w = w' := by
  go_enter Try.func17, Try.ntmps17
  go_wp2
  go_loop [5] (fun i => ∃ k : Nat, k ≤ o.length ∧ i = .int .i64 k ∧ Hid (∀ j : Nat, j < k → (j : Int) ∈ o)) (fun i => o.length - (intOf i).toNat)
  case atStart => exact ⟨0, Nat.zero_le _, rfl, fun _ h => absurd h (Nat.not_lt_zero _)⟩
  case round =>
    obtain ⟨k, hk, rfl, hr⟩ := hrel
    by_cases hlt : k < o.length
    · by_cases he : (k : Int) ∈ o
      · have hn : Hid (∀ j : Nat, j < k + 1 → (j : Int) ∈ o) := fun j hj => by
          by_cases e : j = k
          · subst e; exact he
          · exact hr.out j (by omega)
        have heH := Lib.hid he
        clear he
        go_wp2_with fail
        refine (refhas_any A cap o k _ hE hl true (Lib.hid ⟨fun _ => heH.out, fun _ => rfl⟩)).mono ?_
        rintro e w1 ⟨rfl, rfl⟩
        go_wp2_with fail
        go_round
        case rel => exact ⟨k + 1, by omega, by go_num, hn⟩
        case measure => simp [intOf]; omega
      · have hf : Hid (C = false) := by
          unfold Hid
          rw [← Bool.not_eq_true, hC.out]
          exact fun h => he (h k hlt)
        have heH := Lib.hid he
        clear he
        go_wp2_with fail
        refine (refhas_any A cap o k _ hE hl false (Lib.hid ⟨fun h => (by cases h), fun h => absurd h heH.out⟩)).mono ?_
        rintro e w1 ⟨rfl, rfl⟩
        go_wp2_with fail
        go_ret
        exact ⟨by rw [hf.out]; rfl, rfl⟩
    · have hf : Hid (C = true) := hC.out.2 (fun i hi => hr.out i (by omega))
      go_wp2_with fail
      go_ret
      exact ⟨by rw [hf.out]; rfl, rfl⟩

theorem not_nodup {o : List Int} (h : ¬ o.Nodup) : ∃ x ∈ o, x ∈ o.erase x := by
  induction o with
  | nil => exact absurd List.nodup_nil h
  | cons a r ih =>
    by_cases hm : a ∈ r
    · exact ⟨a, List.mem_cons_self, by simpa using hm⟩
    · have hr : ¬ r.Nodup := fun hr => h (List.nodup_cons.2 ⟨hm, hr⟩)
      obtain ⟨x, h1, h2⟩ := ih hr
      refine ⟨x, List.mem_cons_of_mem _ h1, ?_⟩
      have hne : a ≠ x := fun e => hm (e ▸ h1)
      rw [List.erase_cons_tail (by simpa using hne)]
      exact List.mem_cons_of_mem _ h2

/-- Each once, said in the document's way. -/
theorem once_iff (o : List Int) (c : Nat) : permB o c = true ↔ o.length = c ∧ ∀ i : Nat, i < c → (i : Int) ∈ o := by
  constructor
  · intro h
    obtain ⟨o', rfl, hp⟩ := perm_of h
    refine ⟨by rw [List.length_map]; exact hp.len, fun i hi => ?_⟩
    rw [List.mem_map]
    exact ⟨i, hp.all hi, rfl⟩
  · rintro ⟨h1, h2⟩
    have hnd : ((List.range c).map Int.ofNat).Nodup := by
      rw [List.Nodup, List.pairwise_map]
      exact pairs_of List.nodup_range (fun a b hab e => hab (Int.ofNat.inj e))
    have key : ∀ x ∈ o, ¬ (∀ y ∈ (List.range c).map Int.ofNat, y ∈ o.erase x) := by
      intro x hx h
      have := nodup_sub _ _ hnd h
      rw [List.length_erase_of_mem hx, List.length_map, List.length_range] at this
      have := List.length_pos_of_mem hx
      omega
    have hmem : ∀ y ∈ (List.range c).map Int.ofNat, y ∈ o := by
      intro y hy
      rw [List.mem_map] at hy
      obtain ⟨i, hi, rfl⟩ := hy
      exact h2 i (List.mem_range.1 hi)
    rw [permB_iff]
    refine ⟨h1, fun x hx => ?_, ?_⟩
    · refine Classical.byContradiction fun hn => key x hx fun y hy => ?_
      have hne : y ≠ x := by
        intro e
        subst e
        rw [List.mem_map] at hy
        obtain ⟨i, hi, rfl⟩ := hy
        have := List.mem_range.1 hi
        exact hn ⟨by simp, by simp; omega⟩
      exact (List.mem_erase_of_ne hne).2 (hmem y hy)
    · refine Classical.byContradiction fun hn => ?_
      obtain ⟨x, hx, hx2⟩ := not_nodup hn
      refine key x hx fun y hy => ?_
      by_cases e : y = x
      · subst e; exact hx2
      · exact (List.mem_erase_of_ne e).2 (hmem y hy)

set_option maxHeartbeats 400000 in
theorem once_any (A : Option Addr) (cap : Nat) (o : List Int) (c : Nat) (w : World) (hE : Nums w w.heap.size A o) (hc : c ≤ 30) :
    Calls Try.prog 17 #[.int .i64 c, .slice A o.length cap] w fun e w' => e = .returned (.bool (permB o c)) ∧ w = w' := by
  by_cases h : o.length = c
  · subst h
    refine once_loop A cap o w hE hc _ ?_
    unfold Hid
    rw [once_iff]
    exact ⟨fun h => h.2, fun h => ⟨rfl, h⟩⟩
  · have e1 : permB o c = false := by unfold permB; rw [if_neg h]
    rw [e1]
    have hb : ((o.length : Int) != (c : Int)) = true := by simp; omega
    have hb' : (o.length != c) = true := by simp; omega
    clear e1 h
    go_enter Try.func17, Try.ntmps17
    go_wp2
    go_ret
    exact ⟨rfl, rfl⟩

def ExtTo (l : List Ev) (o : List Nat) (a : Nat) : Prop := ∀ x b, x < a → x < b → b < o.length → ¬ HB l (o.getD b 0) (o.getD x 0)
def ExtRow (l : List Ev) (o : List Nat) (a b : Nat) : Prop := ∀ y, a < y → y < b → ¬ HB l (o.getD y 0) (o.getD a 0)

set_option maxHeartbeats 1000000 in
theorem refagain_any (A A' : Option Addr) (cap cap' : Nat) (l : List Ev) (o : List Nat) (w : World) (hE : Evs w w.heap.size A l) (hO : Nums w w.heap.size A' (o.map Int.ofNat)) (h30 : l.length ≤ 30) (hp : Perm o l.length) (C : Bool) (hC : Hid (C = true ↔ Ext l o)) :
    Calls Try.prog 18 #[.slice A l.length cap, .slice A' o.length cap'] w fun e w' => e = .returned (.bool C) ∧ Below w.heap.size w w' := by
  have hol : Hid (o.length = l.length) := hp.len
  have hole : o.length ≤ l.length := by rw [hp.len]; exact Nat.le_refl _
  have hin : Hid (∀ i, (h : i < o.length) → o[i] < l.length) := fun i h => hp.lt _ (List.getElem_mem h)
  clear hp
  go_enter Try.func18, Try.ntmps18
  go_wp2_with fail
  refine (table_any A cap l _ hE h30).mono ?_
  rintro e w1 h
  obtain ⟨rfl, gs, f, hT, hf, hB1⟩ := h
  have hfH := Lib.hid hf
  have hO1 := (hO.below hB1).more hB1.size
  clear hf hO
  go_wp2_with fail
  go_loopw [6] (fun i wr => ∃ a : Nat, a ≤ o.length ∧ i = .int .i64 a ∧ ExtTo l o a ∧ Below w1.heap.size w1 wr) (fun i _ => o.length - (intOf i).toNat)
  case atStart => exact ⟨0, Nat.zero_le _, rfl, fun _ _ h => absurd h (Nat.not_lt_zero _), Below.refl _ _⟩
  case round =>
    rename World => w2
    obtain ⟨a, ha, rfl, hall, hB2⟩ := hrel
    have hallH := Lib.hid hall
    clear hall
    by_cases hlt : a < o.length
    · go_wp2_with fail
      go_loopw [7] (fun t wr => ∃ b : Nat, a < b ∧ b ≤ o.length ∧ t = .int .i64 b ∧ ExtRow l o a b ∧ Below w1.heap.size w1 wr) (fun t _ => o.length - (intOf t).toNat)
      case atStart => exact ⟨a + 1, by omega, by omega, by go_num, fun y h1 h2 => absurd h1 (by omega), hB2⟩
      case round =>
        obtain ⟨b, hab, hb, rfl, hrow, hB3⟩ := hrel
        have hrowH := Lib.hid hrow
        clear hrow
        by_cases hbl : b < o.length
        · obtain ⟨ob, off, rfl, hob, hc⟩ := hO1.below hB3 (by simp; omega)
          have d0 := hc a (by simp; exact hlt)
          have d1 := hc b (by simp; exact hbl)
          simp only [List.getElem_map] at d0 d1
          have hx := hin.out a hlt
          have hy := hin.out b hbl
          have hoa : Hid (o.getD a 0 = o[a]) := by unfold Hid; simp [hlt]
          have hobb : Hid (o.getD b 0 = o[b]) := by unfold Hid; simp [hbl]
          clear hc
          generalize o[a] = x at *
          generalize o[b] = y at *
          have hT3 := hT.below hB3
          have s1 := hT3.slot hy hy
          have x1 := hT3.cell hy hx
          have hfy : Hid (f y x = true ↔ HB l (o.getD b 0) (o.getD a 0)) := by unfold Hid; rw [hoa.out, hobb.out]; exact hfH.out y x hy hx
          have hxI : (x : Int) < (l.length : Int) := by omega
          have hyI : (y : Int) < (l.length : Int) := by omega
          have haI : (a : Int) < (o.length : Int) := by omega
          have hbI : (b : Int) < (o.length : Int) := by omega
          clear hT3
          generalize gs y = g at *
          generalize f y x = v at *
          cases v with
          | true =>
            have hff : Hid (C = false) := by
              unfold Hid
              rw [← Bool.not_eq_true, hC.out]
              exact fun h => h a b hab hbl (hfy.out.1 rfl)
            clear hfy
            go_wp2_with fail
            go_quiet (fail)
            go_wp2_with fail
            go_ret
            exact ⟨by rw [hff.out]; rfl, below_drewN (hB1.trans (hB3.mono hB1.size)) _⟩
          | false =>
            have hnext : ExtRow l o a (b + 1) := by
              intro z h1 h2
              by_cases e : z = b
              · subst e; exact fun h => absurd (hfy.out.2 h) (by simp)
              · exact hrowH.out z h1 (by omega)
            clear hfy
            go_wp2_with fail
            go_quiet (fail)
            go_wp2_with fail
            go_roundw
            case rel => exact ⟨b + 1, by omega, by omega, by go_num, hnext, below_drewN hB3 _⟩
            case measure => simp [intOf]; omega
        · have hbl' : b = o.length := by omega
          have hnext : ExtTo l o (a + 1) := by
            intro x z h1 h2 h3
            by_cases e : x = a
            · subst e; exact hrowH.out z h2 (by omega)
            · exact hallH.out x z (by omega) h2 h3
          go_wp2_with fail
          go_roundw
          case rel => exact ⟨a + 1, by omega, by go_num, hnext, hB3⟩
          case measure => simp [intOf]; omega
    · have hC0 : Hid (C = true) := hC.out.2 (fun x z h1 h2 => hallH.out x z (by omega) h1 h2)
      go_wp2_with fail
      go_ret
      exact ⟨by rw [hC0.out]; rfl, hB1.trans (hB2.mono hB1.size)⟩

set_option maxHeartbeats 1000000 in
theorem agains_no (w : World) (n : Int) (A A' : Option Addr) (cap cap' m : Nat) (l : List Ev) (hE : Evs w w.heap.size A l) (hF : Fits l) (hcap : l.length ≤ cap) (hl : l.length ≤ maxLen) (h0 : ¬ checkCode n l = 0) :
    Calls Try.prog 6 #[.int .i64 n, .slice A l.length cap, .slice A' m cap'] w fun e w' => e = .returned (.bool true) ∧ Below w.heap.size w w' := by
  have hr : (checkCode n l == 0) = false := by simp [h0]
  have hr' : (checkCode n l != 0) = true := by simp [h0]
  have h0H := Lib.hid h0
  clear h0
  go_enter Try.func6, Try.ntmps6
  go_wp2_with fail
  refine (again_no A A' cap cap' m l n _ hE hF hl h0H.out).mono ?_
  rintro e w1 ⟨rfl, hB1⟩
  go_wp2_with fail
  refine (refcheck_any A cap l n _ ((hE.below hB1).more hB1.size) hcap hl).mono ?_
  rintro e w2 ⟨rfl, hB2'⟩
  have hB2 := hB1.trans (hB2'.mono hB1.size)
  go_wp2_with fail
  go_ret
  exact ⟨rfl, hB2⟩

set_option maxHeartbeats 1000000 in
theorem agains_perm (w : World) (n : Int) (A A' : Option Addr) (cap cap' : Nat) (l : List Ev) (o : List Int) (hE : Evs w w.heap.size A l) (hF : Fits l) (hO : Nums w w.heap.size A' o) (hcap : l.length ≤ cap) (hl : l.length ≤ maxLen) (h0 : checkCode n l = 0) (hp : permB o l.length = false) :
    Calls Try.prog 6 #[.int .i64 n, .slice A l.length cap, .slice A' o.length cap'] w fun e w' => e = .returned (.bool true) ∧ Below w.heap.size w w' := by
  have hr : (checkCode n l == 0) = true := by simp [h0]
  have h30 := (check_small h0).2.2
  have h0H := Lib.hid h0
  clear h0
  go_enter Try.func6, Try.ntmps6
  go_wp2_with fail
  refine (again_perm A A' cap cap' l o n _ hE hF hO h0H.out hp).mono ?_
  rintro e w1 ⟨rfl, hB1⟩
  go_wp2_with fail
  refine (refcheck_any A cap l n _ ((hE.below hB1).more hB1.size) hcap hl).mono ?_
  rintro e w2 ⟨rfl, hB2'⟩
  have hB2 := hB1.trans (hB2'.mono hB1.size)
  go_wp2_with fail
  refine (once_any A' cap' o l.length _ ((hO.below hB2).more hB2.size) h30).mono ?_
  rintro e w3 ⟨rfl, rfl⟩
  go_wp2_with fail
  go_ret
  exact ⟨rfl, hB2⟩

set_option maxHeartbeats 1000000 in
theorem agains_ok (w : World) (n : Int) (A A' : Option Addr) (cap cap' : Nat) (l : List Ev) (o : List Nat) (hE : Evs w w.heap.size A l) (hF : Fits l) (hO : Nums w w.heap.size A' (o.map Int.ofNat)) (hcap : l.length ≤ cap) (hl : l.length ≤ maxLen) (h0 : checkCode n l = 0) (hp : Perm o l.length) :
    Calls Try.prog 6 #[.int .i64 n, .slice A l.length cap, .slice A' l.length cap'] w fun e w' => e = .returned (.bool true) ∧ Below w.heap.size w w' := by
  have hr : (checkCode n l == 0) = true := by simp [h0]
  have h30 := (check_small h0).2.2
  obtain ⟨C, hC⟩ : ∃ C : Bool, C = true ↔ Ext l o := by
    by_cases h : Ext l o
    · exact ⟨true, fun _ => h, fun _ => rfl⟩
    · exact ⟨false, fun h' => (by cases h'), fun h' => absurd h' h⟩
  have hCH := Lib.hid hC
  have hpt := of_perm hp
  have hon : ∀ w', Nums w' w'.heap.size A' (o.map Int.ofNat) → Calls Try.prog 17 #[.int .i64 l.length, .slice A' l.length cap'] w' fun e w'' => e = .returned (.bool true) ∧ w' = w'' := by
    intro w' h
    have := once_any A' cap' (o.map Int.ofNat) l.length w' h h30
    rw [hpt, List.length_map, hp.len] at this
    exact this
  have hra : ∀ w', Evs w' w'.heap.size A l → Nums w' w'.heap.size A' (o.map Int.ofNat) → Calls Try.prog 18 #[.slice A l.length cap, .slice A' l.length cap'] w' fun e w'' => e = .returned (.bool C) ∧ Below w'.heap.size w' w'' := by
    intro w' h1 h2
    have := refagain_any A A' cap cap' l o w' h1 h2 h30 hp C hCH
    rw [hp.len] at this
    exact this
  have honH := Lib.hid hon
  have hraH := Lib.hid hra
  have hpH := Lib.hid hp
  have h0H := Lib.hid h0
  clear h0 hC hon hra hp hpt
  go_enter Try.func6, Try.ntmps6
  go_wp2_with fail
  refine (again_ext A A' cap cap' l o n _ hE hF hO h0H.out hpH.out C hCH.out).mono ?_
  rintro e w1 ⟨rfl, hB1⟩
  go_wp2_with fail
  refine (refcheck_any A cap l n _ ((hE.below hB1).more hB1.size) hcap hl).mono ?_
  rintro e w2 ⟨rfl, hB2'⟩
  have hB2 := hB1.trans (hB2'.mono hB1.size)
  clear hB2' hB1
  have hO2 := (hO.below hB2).more hB2.size
  have hE2 := (hE.below hB2).more hB2.size
  go_wp2_with fail
  refine (honH.out w2 hO2).mono ?_
  rintro e w3 ⟨rfl, rfl⟩
  go_wp2_with fail
  refine (hraH.out w2 hE2 hO2).mono ?_
  rintro e w4 ⟨rfl, hB4'⟩
  have hB4 := hB2.trans (hB4'.mono hB2.size)
  clear hCH hraH
  cases C
  all_goals
    go_wp2_with fail
    go_ret
    exact ⟨rfl, hB4⟩

theorem runAgains_law (w : World) (n : Int) (_hn : I64 n) (A : Option Addr) (cap : Nat) (l : List Ev) (hE : Evs w w.heap.size A l) (hF : Fits l) (hcap : l.length ≤ cap) (hl : l.length ≤ maxLen) (_hs : l.length ≤ 17592186044416)
    (A' : Option Addr) (cap' : Nat) (o : List Int) (hO : Nums w w.heap.size A' o) (_hF' : NumFits o) (_hcap' : o.length ≤ cap') (_hl' : o.length ≤ maxLen) (_hs' : o.length ≤ 17592186044416) :
    Calls Try.prog 6 #[.int .i64 n, .slice A l.length cap, .slice A' o.length cap'] w fun e w' => e = .returned (.bool true) ∧ Below w.heap.size w w' := by
  by_cases h0 : checkCode n l = 0
  · by_cases hp : permB o l.length = true
    · obtain ⟨o', rfl, hp'⟩ := perm_of hp
      have := agains_ok w n A A' cap cap' l o' hE hF hO hcap hl h0 hp'
      rw [← hp'.len] at this
      rw [List.length_map, ← hp'.len]
      exact this
    · exact agains_perm w n A A' cap cap' l o hE hF hO hcap hl h0 (by rw [← Bool.not_eq_true]; exact hp)
  · exact agains_no w n A A' cap cap' o.length l hE hF hcap hl h0

#print axioms runAgains_law
end Go.Proofs.Ytomkecogmocnmaa
