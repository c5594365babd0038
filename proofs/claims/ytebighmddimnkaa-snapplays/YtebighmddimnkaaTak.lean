/-
  The contract of (*system).take of package snap.
-/
import Derived.Test.YtebighmddimnkaaRec
namespace Go.Proofs.Ytebighmddimnkaa
open Go.RowKit Go.Maps

set_option maxHeartbeats 800000 in
theorem take_none (w : World) (B s n P M : Nat) (ch : Nat → Nat → Nat) (S : St) (hS : Sys w B s n P M ch S) (i j : Nat) (hc : Chl n i j) (hq : S.q i j = []) :
    Calls Try.prog 26 #[.pointer (some ⟨s, 0, none⟩), .int .i64 (i : Int), .int .i64 (j : Int)] w fun e w' => e = .returned (.int .i64 5) ∧ w' = w := by
  obtain ⟨vs, hA⟩ := hS
  obtain ⟨s0, s1⟩ := hA.cells
  obtain ⟨c0, _, _⟩ := hA.chan hc
  have hM := hA.map
  have hcf := Lib.hid (chF_yes ch hc)
  obtain ⟨A, cap, hv, _⟩ := (hA.que i j hc).shape
  rw [hv, hq] at c0
  simp only [List.length_nil] at c0
  clear hA hv hq
  generalize ch i j = cb at *
  go_enter Try.func26, Try.ntmps26
  go_wp2_with (first
    | (at_lookup; refine wpList_lookP rfl _ _ rfl M 100 (chF n ch) i j _ hcf.out rfl hM rfl ?_))
  go_ret
  exact ⟨rfl, rfl⟩

/-- What lies ahead when a message is taken off. -/
structure Tk (w w1 : World) (B s n P M : Nat) (ch : Nat → Nat → Nat) (S : St) (i j g off cap m : Nat) (x : Int) (v1 : Value) : Prop where
  s0 : w.cell? ⟨s, 0, none⟩ = some (.slice (some ⟨P, 0, none⟩) n n)
  s1 : w.cell? ⟨s, 1, none⟩ = some (.map (some M))
  map : MapP w M 100 (chF n ch)
  c0 : w.cell? ⟨ch i j, 0, none⟩ = some (.slice (some ⟨g, off, none⟩) (m + 1) cap)
  x0 : w.cell? ⟨g, off, none⟩ = some (.int .i64 x)
  f0 : w.frozen? ⟨ch i j, 0, none⟩ = false
  le : m + 1 ≤ cap
  lc : cap ≤ maxLen
  ml : m ≤ 1000
  w1e : w.setCell ⟨ch i j, 0, none⟩ v1 = w1
  v1e : v1 = .slice (if cap = 1 then some ⟨g, off, none⟩ else some ⟨g, off + 1, none⟩) m (cap - 1)
  sys : Sys w1 B s n P M ch (S.pop i j)
  blw : Bl B w w1
theorem tk_of {w : World} {B s n P M : Nat} {ch : Nat → Nat → Nat} {S : St} (hS : Sys w B s n P M ch S) {i j : Nat} (hc : Chl n i j) {x : Int} {r : List Int} (hq : S.q i j = x :: r) (hl : ∀ a b, (S.q a b).length ≤ 900) :
    ∃ g off cap v1 w1, Tk w w1 B s n P M ch S i j g off cap r.length x v1 := by
  obtain ⟨vs, hA⟩ := hS
  obtain ⟨s0, s1⟩ := hA.cells
  obtain ⟨c0, _, _⟩ := hA.chan hc
  obtain ⟨A, cap, hv, h1, h2, h3⟩ := (hA.que i j hc).shape
  obtain ⟨g, off, rfl, h4⟩ := h3 0 (by rw [hq]; simp)
  have hp := hA.pop hc hv (by rw [hq]; simp)
  have hll := hl i j
  have e : (S.q i j).tail.length = r.length := by rw [hq]; rfl
  rw [e] at hp
  refine ⟨g, off, cap, _, _, s0, s1, hA.map, by rw [c0, hv, hq]; rfl, by simpa [hq] using h4, (hA.chn i j hc).frozen 0, by rw [hq] at h1; exact h1, h2, by rw [hq] at hll; simp at hll; omega, rfl, ?_, ⟨_, hp⟩, (Bl.refl B w).setRow (p := ⟨ch i j, 0, none⟩) (hA.chn i j hc) (by decide) (hA.lowC i j hc) _⟩
  simp [Addr.add]

set_option maxHeartbeats 4000000 in
theorem take_mark (w : World) (B s n P M : Nat) (ch : Nat → Nat → Nat) (S : St) (hS : Sys w B s n P M ch S) (i j : Nat) (hc : Chl n i j) (r : List Int) (hq : S.q i j = 0 :: r) (hn : n ≤ 6) (hl : ∀ a b, (S.q a b).length ≤ 900) :
    Calls Try.prog 26 #[.pointer (some ⟨s, 0, none⟩), .int .i64 (i : Int), .int .i64 (j : Int)] w fun e w' => e = .returned (.int .i64 0) ∧ Sys w' B s n P M ch (((S.pop i j).recIf n j).close i j) ∧ Bl B w w' := by
  obtain ⟨g, off, cap, v1, w1, hT⟩ := tk_of hS hc hq hl
  obtain ⟨s0, s1, hM, c0, x0, f0, hle, hlc, hml, hw1, hv1, hS1, hB1⟩ := hT
  have hcf := Lib.hid (chF_yes ch hc)
  have hi := hc.1
  have hj := hc.2.1
  have hjI : (j : Int) < (n : Int) := by omega
  have hcH := Lib.hid hc
  have hl1 : Hid (∀ a b, ((S.pop i j).q a b).length ≤ 900) := fun a b => by
    have := hl a b
    simp only [St.pop, up2]
    split
    · have := hl i j
      rw [List.length_tail]; omega
    · exact this
  have hS1H := Lib.hid hS1
  obtain ⟨vs, hA1⟩ := hS1
  obtain ⟨t0, t1⟩ := hA1.cells
  obtain ⟨_, p1, _⟩ := hA1.prs.cells hj
  have hrc : (S.pop i j).rc j = S.rc j := rfl
  rw [hrc] at p1
  obtain ⟨k0, k1, k2⟩ := hA1.chan hc
  have hkf := (hA1.chn i j hc).frozen 1
  have hrw1 := hA1.chn i j hc
  have hA1c := Lib.hid hA1
  have hlow := hA1.lowC i j hc
  have hm1 : (1 : Int) ≤ ((r.length + 1 : Nat) : Int) := by omega
  have hnz : (((r.length + 1 : Nat) : Int) == 0) = false := by simp; omega
  clear hA1 hc hq hl
  generalize hbb : ch i j = cb at *
  have hbH := Lib.hid hbb
  clear hbb
  generalize r.length = m at *
  by_cases hr : S.rc j = true
  · rw [hr] at p1
    have hfin : Hid (Sys (w1.setCell ⟨cb, 1, none⟩ (.bool true)) B s n P M ch (((S.pop i j).recIf n j).close i j)) := by
      unfold Hid
      have e : (S.pop i j).recIf n j = S.pop i j := if_pos hr
      rw [e, ← hbH.out]
      exact ⟨vs, hA1c.out.close hcH.out⟩
    have hB2 : Bl B w (w1.setCell ⟨cb, 1, none⟩ (.bool true)) := hB1.setRow (p := ⟨cb, 1, none⟩) hrw1 (by decide) hlow _
    clear hr hA1c hrw1
    by_cases hcap : cap = 1
    · subst hcap
      rw [if_pos rfl] at hv1
      subst hv1
      have hm0 : m = 0 := by omega
      subst hm0
      simp only [Nat.sub_self, Nat.zero_add] at hw1 c0 hm1 hnz
      go_enter Try.func26, Try.ntmps26
      go_wp2_with (first
        | (at_lookup; refine wpList_lookP rfl _ _ rfl M 100 (chF n ch) i j _ hcf.out rfl hM rfl ?_))
      go_ret
      exact ⟨rfl, hfin.out, hB2⟩
    · rw [if_neg hcap] at hv1
      subst hv1
      go_enter Try.func26, Try.ntmps26
      go_wp2_with (first
        | (at_lookup; refine wpList_lookP rfl _ _ rfl M 100 (chF n ch) i j _ hcf.out rfl hM rfl ?_))
      go_ret
      exact ⟨rfl, hfin.out, hB2⟩
  · have hrf : S.rc j = false := by simpa using hr
    rw [hrf] at p1
    have hrn : Hid ((S.pop i j).recIf n j = (S.pop i j).record n j) := if_neg hr
    clear hr hrf hA1c hrw1
    by_cases hcap : cap = 1
    · subst hcap
      rw [if_pos rfl] at hv1
      subst hv1
      have hm0 : m = 0 := by omega
      subst hm0
      simp only [Nat.sub_self, Nat.zero_add] at hw1 c0 hm1 hnz
      go_enter Try.func26, Try.ntmps26
      go_wp2_with (first
        | (at_lookup; refine wpList_lookP rfl _ _ rfl M 100 (chF n ch) i j _ hcf.out rfl hM rfl ?_))
      refine (record_any w1 B s n P M ch (S.pop i j) hS1H.out j hj hn hl1.out).mono ?_
      rintro e w2 ⟨rfl, hS2, hB2⟩
      have hB3 := hB1.trans hB2
      obtain ⟨vs2, hA2⟩ := hS2
      obtain ⟨_, m1, _⟩ := hA2.chan hcH.out
      have mf := (hA2.chn i j hcH.out).frozen 1
      have hrw2 := hA2.chn i j hcH.out
      have hfin : Hid (Sys (w2.setCell ⟨ch i j, 1, none⟩ (.bool true)) B s n P M ch (((S.pop i j).recIf n j).close i j)) := by
        unfold Hid
        rw [hrn.out]
        exact ⟨vs2, hA2.close hcH.out⟩
      rw [hbH.out] at m1 mf hfin hrw2
      have hB4 : Bl B w (w2.setCell ⟨cb, 1, none⟩ (.bool true)) := hB3.setRow (p := ⟨cb, 1, none⟩) hrw2 (by decide) hlow _
      clear hrw2 hA2 hB2 hB3 hB1
      go_wp2_with fail
      go_ret
      exact ⟨rfl, hfin.out, hB4⟩
    · rw [if_neg hcap] at hv1
      subst hv1
      go_enter Try.func26, Try.ntmps26
      go_wp2_with (first
        | (at_lookup; refine wpList_lookP rfl _ _ rfl M 100 (chF n ch) i j _ hcf.out rfl hM rfl ?_))
      refine (record_any w1 B s n P M ch (S.pop i j) hS1H.out j hj hn hl1.out).mono ?_
      rintro e w2 ⟨rfl, hS2, hB2⟩
      have hB3 := hB1.trans hB2
      obtain ⟨vs2, hA2⟩ := hS2
      obtain ⟨_, m1, _⟩ := hA2.chan hcH.out
      have mf := (hA2.chn i j hcH.out).frozen 1
      have hrw2 := hA2.chn i j hcH.out
      have hfin : Hid (Sys (w2.setCell ⟨ch i j, 1, none⟩ (.bool true)) B s n P M ch (((S.pop i j).recIf n j).close i j)) := by
        unfold Hid
        rw [hrn.out]
        exact ⟨vs2, hA2.close hcH.out⟩
      rw [hbH.out] at m1 mf hfin hrw2
      have hB4 : Bl B w (w2.setCell ⟨cb, 1, none⟩ (.bool true)) := hB3.setRow (p := ⟨cb, 1, none⟩) hrw2 (by decide) hlow _
      clear hrw2 hA2 hB2 hB3 hB1
      go_wp2_with fail
      go_ret
      exact ⟨rfl, hfin.out, hB4⟩

set_option maxHeartbeats 4000000 in
theorem take_amount (w : World) (B s n P M : Nat) (ch : Nat → Nat → Nat) (S : St) (hS : Sys w B s n P M ch S) (i j : Nat) (hc : Chl n i j) (x : Int) (r : List Int) (hq : S.q i j = x :: r) (hx : x ≠ 0) (hl : ∀ a b, (S.q a b).length ≤ 900)
    (hh0 : 0 ≤ S.hv j + x) (hh1 : S.hv j + x ≤ 1000) (hy0 : S.cl i j = false → 0 ≤ S.wy i j + x ∧ S.wy i j + x ≤ 1000) :
    Calls Try.prog 26 #[.pointer (some ⟨s, 0, none⟩), .int .i64 (i : Int), .int .i64 (j : Int)] w fun e w' => e = .returned (.int .i64 0) ∧ Sys w' B s n P M ch ((S.pop i j).got i j x) ∧ Bl B w w' := by
  obtain ⟨g, off, cap, v1, w1, hT⟩ := tk_of hS hc hq hl
  obtain ⟨s0, s1, hM, c0, x0, f0, hle, hlc, hml, hw1, hv1, hS1, hB1⟩ := hT
  have hcf := Lib.hid (chF_yes ch hc)
  have hj := hc.2.1
  have hjI : (j : Int) < (n : Int) := by omega
  have hx1 : (x == 0) = false := by simpa using hx
  obtain ⟨vs, hA1⟩ := hS1
  obtain ⟨t0, t1⟩ := hA1.cells
  obtain ⟨p0, p1, _⟩ := hA1.prs.cells hj
  have pf := hA1.prs.frozen (j * 3)
  have ehv : (S.pop i j).hv j = S.hv j := rfl
  have erc : (S.pop i j).rc j = S.rc j := rfl
  have ecl : (S.pop i j).cl i j = S.cl i j := rfl
  have ewy : (S.pop i j).wy i j = S.wy i j := rfl
  have hA2 := hA1.setHv hj (S.hv j + x)
  obtain ⟨xs1, hP1, _⟩ := hA1.prs
  have hB2 : Bl B w (w1.setCell ⟨P, j * 3, none⟩ (.int .i64 (S.hv j + x))) := hB1.setRow (p := ⟨P, j * 3, none⟩) hP1 (by decide) hA1.lowP _
  obtain ⟨_, u1, _⟩ := hA2.prs.cells hj
  obtain ⟨k0, k1, k2⟩ := hA2.chan hc
  have kf := (hA2.chn i j hc).frozen 2
  have hA3 := hA2.note hc x
  have hlow := hA1.lowC i j hc
  have hB3 : Bl B w ((w1.setCell ⟨P, j * 3, none⟩ (.int .i64 (S.hv j + x))).setCell ⟨ch i j, 2, none⟩ (.int .i64 (S.wy i j + x))) := hB2.setRow (p := ⟨ch i j, 2, none⟩) (hA2.chn i j hc) (by decide) hlow _
  have hF2 : Hid (Sys (w1.setCell ⟨P, j * 3, none⟩ (.int .i64 (S.hv j + x))) B s n P M ch ((S.pop i j).gain j x)) := ⟨vs, hA2⟩
  have hF3 : Hid (Sys ((w1.setCell ⟨P, j * 3, none⟩ (.int .i64 (S.hv j + x))).setCell ⟨ch i j, 2, none⟩ (.int .i64 (S.wy i j + x))) B s n P M ch (((S.pop i j).gain j x).note i j x)) := ⟨vs, hA3⟩
  simp only at u1 k0 k1 k2
  rw [ehv] at p0
  rw [erc] at p1 u1
  rw [ecl] at k1
  rw [ewy] at k2
  have hgot1 : Hid (S.rc j = true → S.cl i j = false → (S.pop i j).got i j x = ((S.pop i j).gain j x).note i j x) := fun h1 h2 => if_pos ⟨h1, h2⟩
  have hgot2 : Hid (¬ (S.rc j = true ∧ S.cl i j = false) → (S.pop i j).got i j x = (S.pop i j).gain j x) := fun h1 => if_neg h1
  have hm1 : (1 : Int) ≤ ((r.length + 1 : Nat) : Int) := by omega
  have hnz : (((r.length + 1 : Nat) : Int) == 0) = false := by simp; omega
  clear hP1 hA1 hA2 hA3 hc hq hl ehv erc ecl ewy hx k0 p1
  generalize ch i j = cb at *
  generalize hgg : (S.pop i j).got i j x = T at *
  clear hgg
  generalize (S.pop i j).gain j x = T2 at *
  generalize T2.note i j x = T3 at *
  generalize r.length = m at *
  generalize S.hv j = hv at *
  generalize S.wy i j = wy at *
  generalize S.rc j = rc at *
  generalize S.cl i j = cl at *
  by_cases hcap : cap = 1
  · subst hcap
    rw [if_pos rfl] at hv1
    subst hv1
    have hm0 : m = 0 := by omega
    subst hm0
    simp only [Nat.sub_self, Nat.zero_add] at hw1 c0 hm1 hnz
    cases rc with
    | true =>
      cases cl with
      | false =>
        obtain ⟨hy1, hy2⟩ := hy0 rfl
        rw [hgot1.out rfl rfl]
        clear hgot1 hgot2 hy0 hF2 hB2
        go_enter Try.func26, Try.ntmps26
        go_wp2_with (first
          | (at_lookup; refine wpList_lookP rfl _ _ rfl M 100 (chF n ch) i j _ hcf.out rfl hM rfl ?_))
        go_ret
        exact ⟨rfl, hF3.out, hB3⟩
      | true =>
        rw [hgot2.out (by simp)]
        clear hgot1 hgot2 hy0 hF3 hB3
        go_enter Try.func26, Try.ntmps26
        go_wp2_with (first
          | (at_lookup; refine wpList_lookP rfl _ _ rfl M 100 (chF n ch) i j _ hcf.out rfl hM rfl ?_))
        go_ret
        exact ⟨rfl, hF2.out, hB2⟩
    | false =>
      rw [hgot2.out (by simp)]
      clear hgot1 hgot2 hy0 hF3 hB3
      go_enter Try.func26, Try.ntmps26
      go_wp2_with (first
        | (at_lookup; refine wpList_lookP rfl _ _ rfl M 100 (chF n ch) i j _ hcf.out rfl hM rfl ?_))
      go_ret
      exact ⟨rfl, hF2.out, hB2⟩
  · rw [if_neg hcap] at hv1
    subst hv1
    cases rc with
    | true =>
      cases cl with
      | false =>
        obtain ⟨hy1, hy2⟩ := hy0 rfl
        rw [hgot1.out rfl rfl]
        clear hgot1 hgot2 hy0 hF2 hB2
        go_enter Try.func26, Try.ntmps26
        go_wp2_with (first
          | (at_lookup; refine wpList_lookP rfl _ _ rfl M 100 (chF n ch) i j _ hcf.out rfl hM rfl ?_))
        go_ret
        exact ⟨rfl, hF3.out, hB3⟩
      | true =>
        rw [hgot2.out (by simp)]
        clear hgot1 hgot2 hy0 hF3 hB3
        go_enter Try.func26, Try.ntmps26
        go_wp2_with (first
          | (at_lookup; refine wpList_lookP rfl _ _ rfl M 100 (chF n ch) i j _ hcf.out rfl hM rfl ?_))
        go_ret
        exact ⟨rfl, hF2.out, hB2⟩
    | false =>
      rw [hgot2.out (by simp)]
      clear hgot1 hgot2 hy0 hF3 hB3
      go_enter Try.func26, Try.ntmps26
      go_wp2_with (first
        | (at_lookup; refine wpList_lookP rfl _ _ rfl M 100 (chF n ch) i j _ hcf.out rfl hM rfl ?_))
      go_ret
      exact ⟨rfl, hF2.out, hB2⟩

#print axioms take_none
#print axioms take_mark
#print axioms take_amount
end Go.Proofs.Ytebighmddimnkaa
