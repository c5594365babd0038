/-
  The contracts of slices.Clone at links, fork.reverse, fork.count.
-/
import Derived.Test.YtieicimoolegoaaFwm
import Derived.Lib.SliceRun
namespace Go.Proofs.Ytieicimoolegoaa
open Go.RowKit Go.Maps
set_option linter.unusedVariables false

def CloneRes (w : World) (l : List Lk) (e : Ending) (w' : World) : Prop := ∃ v, e = .returned v ∧ MadeL w' w.heap.size v l ∧ Below w.heap.size w w'
set_option maxHeartbeats 1600000 in
theorem clone_any (A : Option Addr) (cap : Nat) (l : List Lk) (w : World) (hE : Lks w w.heap.size A l) (hl : l.length ≤ 1000) :
    Calls Try.prog 34 #[.slice A l.length cap] w (CloneRes w l) := by
  have qT : ∀ (w : World) (a : Option Addr) (n c n' c' : Nat), (binOp .eql 22 (.slice a n c) (.slice none n' c')).run Try.prog w = .ok (.bool a.isNone) w := fun w a n c n' c' => Lib.run_eql_slice_nil w _ _ a n c n' c' Try.underlying22
  cases A with
  | none =>
    have h0 : l = [] := by
      cases l with
      | nil => rfl
      | cons m r =>
        obtain ⟨b, off, e, _⟩ := hE (by simp)
        cases e
    subst h0
    clear hE
    go_enter Try.func34, Try.ntmps34
    go_wp2_with fail
    go_ret
    exact ⟨_, rfl, MadeL.nil _ _, Below.refl _ _⟩
  | some ad =>
    obtain ⟨j0, hi0, hz0, hz1, hz2⟩ := info_parts infoLk
    have hJi := Lib.hid hi0; have hJz := Lib.hid hz0; have hJs := Lib.hid hz1; have hJb := Lib.hid hz2
    clear hi0 hz0 hz1 hz2
    have hW5 : (w.alloc (.cells #[] 43)).ownsRow w.heap.size 43 2 (.slice (some ⟨w.heap.size, 0, none⟩) 0 0) 0 [] := World.ownsRow_lit w #[] 0 (Nat.le_refl _) (by unfold maxLen; omega) (by simp)
    have hB5 := (Below.refl w.heap.size w).alloc (Nat.le_refl _) (.cells #[] 43)
    have hN5 := (hE.below hB5).more hB5.size
    have hsz5 : w.heap.size ≤ (w.alloc (.cells #[] 43)).heap.size := by simp
    clear hE
    go_enter Try.func34, Try.ntmps34
    go_wp2_with (first
      | (at_builtin; refine wpList_copyK rfl (.tmp 5) (.tmp 6) rfl j0 hJi.out hJz.out hJs.out hJb.out w.heap.size w.heap.size rfl hW5 (some ad) cap l rfl hN5 hl hsz5 ?_; intro v6 w6 hO6 hG6
         have hB6 := hB5.grown hG6 hB5.size (by simp)
         have hM6 := Lib.hid hO6.made
         clear hO6 hG6 hN5 hW5))
    go_ret
    exact ⟨_, rfl, hM6.out, hB6⟩

/-- The first k of a list turned. -/
def mixF (s : Nat) (l : List Lk) (k j : Nat) : Lk := if j < k then trn s (lat l j) else lat l j
def RvRel (w wr : World) (g s : Nat) (l : List Lk) (k : Nat) : Prop := (∃ cur, Row wr g 43 cur ∧ BegF cur l.length (mixF s l k)) ∧ Below w.heap.size w wr
theorem mixF_done (s : Nat) (l : List Lk) : ∀ j, j < l.length → mixF s l l.length j = lat (revL s l) j := fun j hj => by
  unfold mixF
  rw [if_pos hj, revL_lat s l hj]
theorem mixF_other (s : Nat) (l : List Lk) (k : Nat) : ∀ j, j ≠ k → mixF s l (k + 1) j = mixF s l k j := fun j hj => by
  unfold mixF
  by_cases h : j < k
  · rw [if_pos h, if_pos (by omega)]
  · rw [if_neg h, if_neg (by omega)]
theorem mixF_at (s : Nat) (l : List Lk) (k : Nat) : mixF s l (k + 1) k = trn s (lat l k) := by
  unfold mixF
  rw [if_pos (by omega)]
theorem mixF_was (s : Nat) (l : List Lk) (k : Nat) : mixF s l k k = lat l k := by
  unfold mixF
  rw [if_neg (by omega)]
def RevRes (w : World) (s : Nat) (l : List Lk) (e : Ending) (w' : World) : Prop := ∃ v, e = .returned v ∧ MadeL w' w.heap.size v (revL s l) ∧ Below w.heap.size w w'
set_option maxHeartbeats 3200000 in
theorem reverse_any (A : Option Addr) (cap : Nat) (l : List Lk) (N s : Nat) (w : World) (hE : Lks w w.heap.size A l) (hN : N ≤ 6) (hok : LOk (N : Int) l) (hs : s < 2 ^ N) (hl : l.length ≤ 1000) :
    Calls Try.prog 33 #[.slice A l.length cap, .int .u32 (s : Int)] w (RevRes w s l) := by
  have h64 := Nat.pow_le_pow_right (n := 2) (by omega) hN
  have hcl := Lib.hid (clone_any A cap l w hE hl)
  have hEH := Lib.hid hE
  have hokH := Lib.hid (fun k (hk : k < l.length) => hok.at_ hk)
  clear hE hok
  by_cases h0 : l.length = 0
  · have hnil : l = [] := List.length_eq_zero_iff.1 h0
    subst hnil
    go_enter Try.func33, Try.ntmps33
    go_wp2_with fail
    refine hcl.out.mono ?_
    rintro e w1 ⟨v1, rfl, hM1, hB1⟩
    have hMH := Lib.hid hM1
    have hz : Hid (v1 = v1) := rfl
    clear hM1
    go_wp2_with fail
    go_loopw [12] (fun t wr => t = .int .i64 0 ∧ wr = w1) (fun t _ => 0)
    case atStart => exact ⟨rfl, rfl⟩
    case round =>
      obtain ⟨rfl, rfl⟩ := hrel
      go_wp2_with fail
      go_ret
      exact ⟨_, rfl, hMH.out, hB1⟩
  · go_enter Try.func33, Try.ntmps33
    go_wp2_with fail
    refine hcl.out.mono ?_
    rintro e w1 ⟨v1, rfl, hM1, hB1⟩
    obtain ⟨A1, cap1, rfl, hc1, hc2, hrow⟩ := hM1
    obtain ⟨g, cur, rfl, hBg, hR, hF⟩ := hrow (by omega)
    have hcapH := Lib.hid hc1
    have hcap2H := Lib.hid hc2
    have hst : RvRel w w1 g s l 0 := ⟨⟨cur, hR, hF.congr fun j _ => by unfold mixF; rw [if_neg (by omega)]⟩, hB1⟩
    have hstH := Lib.hid hst
    clear hR hF hrow hst hB1 hcl hc2
    go_wp2_with fail
    go_loopw [12] (fun t wr => ∃ k : Nat, k ≤ l.length ∧ t = .int .i64 k ∧ RvRel w wr g s l k) (fun t _ => l.length - (intOf t).toNat)
    case atStart => exact ⟨0, Nat.zero_le _, rfl, hstH.out⟩
    case round =>
      obtain ⟨k, hk, rfl, ⟨cur, hR, hF⟩, hB⟩ := hrel
      rename World => wr
      by_cases hlt : k < l.length
      · obtain ⟨b, off, rfl, hb, c3, c4⟩ := (hEH.out.below hB).at_ hlt
        obtain ⟨ha, hbb, h1, h2, h3⟩ := hokH.out k hlt
        rw [ha] at c3
        rw [hbb] at c4
        have hkI : (k : Int) < (l.length : Int) := by omega
        have hB1 := lk_alloc hB (la l k : Int) (lb l k : Int)
        have hR1 := Row.made wr 43 [.int .i64 (la l k : Int), .int .i64 (lb l k : Int)]
        have d0 := hR1.cell (i := 0) (by simp)
        have d1 := hR1.cell (i := 1) (by simp)
        simp only [List.getElem_cons_zero, List.getElem_cons_succ] at d0 d1
        have hRa := hR.alloc (.cells #[.int .i64 (la l k : Int), .int .i64 (lb l k : Int)] 43)
        have hcc := Lib.hid (fun w => has_any s (lb l k) w (by omega) (by omega))
        have hon : Hid (s.testBit (lb l k) = true → trn s (lat l k) = ⟨(lb l k : Int), (la l k : Int)⟩) := fun h => by
          unfold trn
          rw [if_pos (show s.testBit (lat l k).b.toNat = true from h)]
          unfold swp
          rw [ha, hbb]
        have hoff : Hid (s.testBit (lb l k) = false → trn s (lat l k) = lat l k) := fun h => by
          unfold trn
          rw [if_neg (by rw [show s.testBit (lat l k).b.toNat = false from h]; decide)]
        have hto := Lib.hid (turn_any (la l k : Int) (lb l k : Int))
        have hFH := Lib.hid hF
        have hBH := Lib.hid hB1
        have hcl2 := hF k hlt
        clear ha hbb hR1 hB hF hstH
        cases e : s.testBit (lb l k) with
        | true =>
          have hnx := Lib.hid (hon.out e)
          rw [e] at hcc
          clear hon hoff e
          generalize hy : lb l k = y at *
          generalize hx : la l k = x at *
          clear hx hy
          go_wp2_with fail
          refine (hcc.out _).mono ?_
          rintro e w1 ⟨rfl, rfl⟩
          go_wp2_with fail
          refine (hto.out _).mono ?_
          rintro e w2 ⟨rfl, hB2⟩
          have hR2 := hRa.below hB2 hRa.lt
          have hB3 := hBH.out.trans (hB2.mono hBH.out.size)
          have e0 := hFH.out.cells hR2 hlt
          have e1 := e0.2
          have e0 := e0.1
          have z0 := Row.frozen hR2 (k * 2)
          have z1 := Row.frozen hR2 (k * 2 + 1)
          have hR2H := Lib.hid hR2
          clear hB2 hR hRa hcl2 hR2
          go_wp2_with fail
          go_roundw
          case rel =>
            refine ⟨k + 1, by omega, by go_num, ⟨_, (hR2H.out.set (k * 2) _).set (k * 2 + 1) _, hFH.out.set hlt ⟨(y : Int), (x : Int)⟩ ?_ fun j _ hj => mixF_other s l k j hj⟩, (hB3.setCell hBg _).setCell hBg _⟩
            rw [mixF_at, hnx.out]
          case measure => simp [intOf]; omega
        | false =>
          have hnx := Lib.hid (hoff.out e)
          rw [e] at hcc
          clear hon hoff e
          generalize hy : lb l k = y at *
          generalize hx : la l k = x at *
          clear hx hy
          go_wp2_with fail
          refine (hcc.out _).mono ?_
          rintro e w1 ⟨rfl, rfl⟩
          go_wp2_with fail
          go_roundw
          case rel =>
            refine ⟨k + 1, by omega, by go_num, ⟨cur, hRa, hFH.out.congr fun j hj => ?_⟩, hBH.out⟩
            by_cases e : j = k
            · subst e; rw [mixF_was, mixF_at, hnx.out]
            · rw [mixF_other s l k j e]
          case measure => simp [intOf]; omega
      · have hkl : k = l.length := by omega
        subst hkl
        go_wp2_with fail
        go_ret
        refine ⟨_, rfl, ⟨_, cap1, by rw [revL_len]; rfl, by rw [revL_len]; exact hcapH.out, hcap2H.out, fun _ => ⟨g, cur, rfl, hBg, hR, ?_⟩⟩, hB⟩
        rw [revL_len]
        exact hF.congr (mixF_done s l)

def Kpt (T : Nat) (w w' : World) : Prop := Below T w w' ∧ ∀ g, g ≠ T → w'.heap[g]? = w.heap[g]?
theorem Kpt.refl (T : Nat) (w : World) : Kpt T w w := ⟨Below.refl _ _, fun _ _ => rfl⟩
theorem Kpt.set {T : Nat} {w w' : World} (h : Kpt T w w') (i : Nat) (v : Value) : Kpt T w (w'.setCell ⟨T, i, none⟩ v) := ⟨h.1.setCell (Nat.le_refl _) v, fun g hg => (Below.heap_setCell w' ⟨T, i, none⟩ v g hg).trans (h.2 g hg)⟩
/-- The first k counted. -/
def cntF (s : Nat) (f : Nat → Int) (k j : Nat) : Int := if j < k ∧ s.testBit j = true then f j + 1 else f j
def CtRel (T N s : Nat) (f : Nat → Int) (w : World) (k : Nat) (wr : World) : Prop := IntRow wr T N (cntF s f k) ∧ Kpt T w wr
set_option maxHeartbeats 1600000 in
theorem count_any (T N s : Nat) (f : Nat → Int) (w : World) (hN : N ≤ 6) (hs : s < 2 ^ N) (hR : IntRow w T N f) (hf : ∀ i, 0 ≤ f i ∧ f i ≤ 1000) :
    Calls Try.prog 35 #[.slice (some ⟨T, 0, none⟩) N N, .int .u32 (s : Int)] w fun e w' => e = .returned (.tuple #[]) ∧ IntRow w' T N (cntF s f N) ∧ Kpt T w w' := by
  have h64 := Nat.pow_le_pow_right (n := 2) (by omega) hN
  have hst : CtRel T N s f w 0 w := ⟨hR.congr fun j _ => by unfold cntF; rw [if_neg (by omega)], Kpt.refl _ _⟩
  have hstH := Lib.hid hst
  have hfH := Lib.hid hf
  clear hR hst hf
  go_enter Try.func35, Try.ntmps35
  go_wp2_with fail
  go_loopw [7] (fun t wr => ∃ k : Nat, k ≤ N ∧ t = .int .i64 k ∧ CtRel T N s f w k wr) (fun t _ => N - (intOf t).toNat)
  case atStart => exact ⟨0, Nat.zero_le _, rfl, hstH.out⟩
  case round =>
    obtain ⟨k, hk, rfl, hR, hK⟩ := hrel
    clear hstH
    by_cases hlt : k < N
    · have hkI : (k : Int) < (N : Int) := by omega
      have hcc := Lib.hid (fun w => has_any s k w (by omega) (by omega))
      have hfk : Hid (cntF s f k k = f k) := by unfold Hid cntF; rw [if_neg (by omega)]
      have hfk1 : Hid (s.testBit k = true → cntF s f (k + 1) k = f k + 1) := fun h => by unfold cntF; rw [if_pos ⟨by omega, h⟩]
      have hfk0 : Hid (s.testBit k = false → cntF s f (k + 1) k = f k) := fun h => by unfold cntF; rw [if_neg (by rw [h]; simp)]
      have hfo : Hid (∀ j, j ≠ k → cntF s f (k + 1) j = cntF s f k j) := fun j hj => by
        unfold cntF
        by_cases h : s.testBit j = true
        · by_cases h1 : j < k
          · rw [if_pos (show j < k + 1 ∧ _ from ⟨by omega, h⟩), if_pos (show j < k ∧ _ from ⟨h1, h⟩)]
          · rw [if_neg (show ¬ (j < k + 1 ∧ s.testBit j = true) from fun x => h1 (by omega)), if_neg (show ¬ (j < k ∧ s.testBit j = true) from fun x => h1 x.1)]
        · rw [if_neg (fun x => h x.2), if_neg (fun x => h x.2)]
      have d0 := hR.at_ hlt
      rw [hfk.out] at d0
      have z0 := Row.frozen hR k
      obtain ⟨hb1, hb2⟩ := hfH.out k
      have hRH := Lib.hid hR
      have hKH := Lib.hid hK
      clear hR hK
      cases e : s.testBit k with
      | true =>
        have hnx := Lib.hid (hfk1.out e)
        rw [e] at hcc
        clear hfk1 hfk0 e
        generalize hy : f k = y at *
        clear hy
        go_wp2_with fail
        refine (hcc.out _).mono ?_
        rintro e w1 ⟨rfl, rfl⟩
        go_wp2_with fail
        go_roundw
        case rel =>
          refine ⟨k + 1, by omega, by go_num, (hRH.out.put k _).congr fun j hj => ?_, hKH.out.set k _⟩
          unfold updI
          by_cases e : j = k
          · subst e; rw [if_pos rfl, hnx.out]
          · rw [if_neg e, hfo.out j e]
        case measure => simp [intOf]; omega
      | false =>
        have hnx := Lib.hid (hfk0.out e)
        rw [e] at hcc
        clear hfk1 hfk0 e
        generalize hy : f k = y at *
        clear hy
        go_wp2_with fail
        refine (hcc.out _).mono ?_
        rintro e w1 ⟨rfl, rfl⟩
        go_wp2_with fail
        go_roundw
        case rel =>
          refine ⟨k + 1, by omega, by go_num, hRH.out.congr fun j hj => ?_, hKH.out⟩
          by_cases e : j = k
          · subst e; rw [hnx.out, hfk.out]
          · rw [hfo.out j e]
        case measure => simp [intOf]; omega
    · have hkl : k = N := by omega
      subst hkl
      go_wp2_with fail
      go_end0
      exact ⟨rfl, hR, hK⟩
#print axioms clone_any
#print axioms count_any
end Go.Proofs.Ytieicimoolegoaa
