/-
  The contracts of (*group).ready of package causal, of deliver's closure, and of slices.IndexFunc at it.
-/
import Derived.Test.YtkchccaeopdemaaCMem
namespace Go.Proofs.Ytkchccaeopdemaa
open Go.RowKit Go.Maps

/-- What holds in the midst of delivery, too. -/
structure CI0 (n : Nat) (S : CS) : Prop where
  pi : ∀ i, PI S.m S.bh (S.td i) (S.wt i)
  sd : ∀ k, k < S.m → S.sd k < n
  ow : ∀ k, k < S.m → (S.td (S.sd k)).take (S.bh k).length = S.bh k ∧ (S.td (S.sd k))[(S.bh k).length]? = some k
theorem CInv.base {n : Nat} {S : CS} (h : CInv n S) : CI0 n S := ⟨h.pi, h.sd, h.ow⟩
theorem CI0.put {n : Nat} {S : CS} (h : CI0 n S) {i : Nat} {t q : List Nat} (ht : ∃ s, t = S.td i ++ s) (hp : PI S.m S.bh t q) : CI0 n (S.put i t q) := by
  refine ⟨fun j => ?_, h.sd, fun k hk => ?_⟩
  · show PI S.m S.bh ((S.put i t q).td j) ((S.put i t q).wt j)
    rw [CS.put_td, CS.put_wt]
    by_cases e : j = i
    · rw [if_pos e, if_pos e]; exact hp
    · rw [if_neg e, if_neg e]; exact h.pi j
  · obtain ⟨s, hs⟩ := ht
    show ((S.put i t q).td (S.sd k)).take (S.bh k).length = S.bh k ∧ ((S.put i t q).td (S.sd k))[(S.bh k).length]? = some k
    obtain ⟨h1, h2⟩ := h.ow k hk
    rw [CS.put_td]
    by_cases e : S.sd k = i
    · rw [if_pos e, hs, ← e]
      have hlt : (S.bh k).length < (S.td (S.sd k)).length := (List.getElem?_eq_some_iff.1 h2).1
      rw [List.take_append_of_le_length (by omega), List.getElem?_append_left hlt]
      exact ⟨h1, h2⟩
    · rw [if_neg e]; exact ⟨h1, h2⟩
theorem CS.put_self (S : CS) (i : Nat) : S.put i (S.td i) (S.wt i) = S := by
  unfold CS.put CS.td CS.wt
  have : up1 (up1 S.ls (2 * i) (S.ls (2 * i))) (2 * i + 1) (S.ls (2 * i + 1)) = S.ls := by
    funext x
    unfold up1
    split
    · next h => rw [h]
    · split
      · next h => rw [h]
      · rfl
  rw [this]
theorem CS.put_put (S : CS) (i : Nat) (t q t' q' : List Nat) : ({ ({ S.put i t q with ls := up1 (S.put i t q).ls (2 * i) t' } : CS) with ls := up1 (up1 (S.put i t q).ls (2 * i) t') (2 * i + 1) q' } : CS) = S.put i t' q' := by
  unfold CS.put
  have : up1 (up1 (up1 (up1 S.ls (2 * i) t) (2 * i + 1) q) (2 * i) t') (2 * i + 1) q' = up1 (up1 S.ls (2 * i) t') (2 * i + 1) q' := by
    funext x
    unfold up1
    split
    · rfl
    · split
      · rfl
      · rfl
  simp only [this]

theorem GrpAt.msgAt {w : World} {B gb n P : Nat} {vs : Nat → Value} {vm : Value} {S : CS} (h : GrpAt w B gb n P vs vm S) {k : Nat} (hk : k < S.m) :
    ∃ gm cap, vm = .slice (some ⟨gm, 0, none⟩) S.m cap ∧ S.m ≤ cap ∧ cap ≤ maxLen ∧ gm < w.heap.size ∧ w.cell? ⟨gm, k * 2, none⟩ = some (.int .i64 (S.sd k : Int)) ∧ w.cell? ⟨gm, k * 2 + 1, none⟩ = some (.int .i64 ((S.bh k).length : Int)) := by
  have hlt := h.msg.lt
  rcases h.msg.2 with ⟨_, h0⟩ | ⟨g, cap, cur, hv, hB, hg, h1, h2, h3, h4⟩
  · omega
  · have hl := flatG_len S.m S.sd S.bh
    obtain ⟨a0, a1⟩ := flatG_at S.m S.sd S.bh hk
    rw [← h4, List.getElem?_take_of_lt (by omega), Array.getElem?_toList] at a0
    rw [← h4, List.getElem?_take_of_lt (by omega), Array.getElem?_toList] at a1
    exact ⟨g, cap, hv, h1, h2, (hlt g (by rw [hv]; rfl)).2, (cell_of_row w g _ cur 59 (0, 0) hg).trans a0, (cell_of_row w g _ cur 59 (0, 0) hg).trans a1⟩
theorem GrpAt.nums {w : World} {B gb n P : Nat} {vs : Nat → Value} {vm : Value} {S : CS} (h : GrpAt w B gb n P vs vm S) {j : Nat} (hj : j < 2 * n) : ∃ A cap, vs j = .slice A (S.ls j).length cap ∧ (S.ls j).length ≤ cap ∧ cap ≤ maxLen ∧ Nums w w.heap.size A (zs (S.ls j)) := by
  have := (h.own hj).ints.nums
  rw [zs_len] at this
  exact this
theorem GrpAt.msgLen {w : World} {B gb n P : Nat} {vs : Nat → Value} {vm : Value} {S : CS} (h : GrpAt w B gb n P vs vm S) : ∃ A cap, vm = .slice A S.m cap ∧ S.m ≤ cap ∧ cap ≤ maxLen := by
  rcases h.msg.2 with ⟨h1, h0⟩ | ⟨g, cap, cur, hv, hB, hg, h1, h2, h3, h4⟩
  · exact ⟨none, 0, by rw [h1, h0], by omega, Nat.zero_le _⟩
  · exact ⟨_, cap, hv, h1, h2⟩

set_option maxHeartbeats 1600000 in
theorem ready_any (w : World) (B gb n P : Nat) (S : CS) (hS : Grp w B gb n P S) (hI : CI0 n S) (k i : Nat) (hk : k < S.m) (hi : i < n) (hl : ∀ j, (S.ls j).length ≤ 1000) (_hn : n ≤ 6) (_hm : S.m ≤ 1000) :
    Calls Try.prog 33 #[.pointer (some ⟨gb, 0, none⟩), .int .i64 (k : Int), .pointer (some ⟨P, i * 2, none⟩)] w fun e w' => e = .returned (.bool (rdy S.bh (S.td i) k)) ∧ Below w.heap.size w w' := by
  obtain ⟨vs, vm, hA⟩ := hS
  have hB1 := (Below.refl w.heap.size w).alloc (Nat.le_refl _) (.cells #[.int .i64 (S.sd k : Int), .int .i64 ((S.bh k).length : Int)] 59)
  obtain ⟨g0, g1⟩ := hA.cells
  obtain ⟨gm, capm, hvm, hm1, hm2, hgm, m0, m1⟩ := hA.msgAt hk
  have hs := hI.sd k hk
  obtain ⟨ow1, ow2⟩ := hI.ow k hk
  have hdl : (S.bh k).length < (S.td (S.sd k)).length := (List.getElem?_eq_some_iff.1 ow2).1
  obtain ⟨As, cs, hvs, hs1, hs2, hNs⟩ := hA.nums (j := 2 * S.sd k) (by omega)
  obtain ⟨Ai, ci, hvi, hi1, hi2, hNi⟩ := hA.nums (j := 2 * i) (by omega)
  obtain ⟨p0, _⟩ := hA.proc hs
  obtain ⟨q0, _⟩ := hA.proc hi
  have hd3 : (S.bh k).length ≤ cs := by unfold CS.td at hdl; omega
  have hd4 : (S.bh k).length ≤ 1000 := by have := hl (2 * S.sd k); unfold CS.td at hdl; omega
  have hl2 : (S.ls (2 * i)).length ≤ 1000 := hl _
  obtain ⟨bs, off, hAs, hbs, hcs⟩ := hNs (by rw [zs_len]; unfold CS.td at hdl; omega)
  have hcs' : Hid (∀ j, (hj : j < (S.bh k).length) → w.cell? ⟨bs, off + j, none⟩ = some (.int .i64 ((S.bh k)[j] : Int))) := fun j hj => by
    have hj2 : j < (zs (S.ls (2 * S.sd k))).length := by rw [zs_len]; unfold CS.td at hdl; omega
    rw [hcs j hj2]
    have : (S.bh k)[j] = (S.ls (2 * S.sd k))[j]'(by unfold CS.td at hdl; omega) := by
      have e : (S.bh k)[j]? = (S.td (S.sd k))[j]? := by
        rw [← ow1, List.getElem?_take_of_lt hj]
      rw [List.getElem?_eq_getElem hj, List.getElem?_eq_getElem (by unfold CS.td at *; omega)] at e
      injection e
    rw [this]
    simp [zs]
  have hrd : Hid (rdy S.bh (S.td i) k = true ↔ ∀ x ∈ S.bh k, x ∈ S.td i) := rdy_iff
  have hltP := hA.procLt
  have hltG := hA.grp.lt
  rw [hvs] at p0
  rw [hvi] at q0
  rw [hvm] at g1
  subst hAs
  clear ow1 ow2 hcs hNs hA hvs hvi hvm hI
  have hkI : (k : Int) < (S.m : Int) := by omega
  have hsI : (S.sd k : Int) < (n : Int) := by omega
  have hdI : ((S.bh k).length : Int) ≤ (cs : Int) := by omega
  have a0 := cell_allocV (.cells #[.int .i64 (S.sd k : Int), .int .i64 ((S.bh k).length : Int)] 59) g0 hltG
  have a1 := cell_allocV (.cells #[.int .i64 (S.sd k : Int), .int .i64 ((S.bh k).length : Int)] 59) p0 hltP
  have a2 := cell_allocV (.cells #[.int .i64 (S.sd k : Int), .int .i64 ((S.bh k).length : Int)] 59) q0 hltP
  have n0 : (w.alloc (.cells #[.int .i64 (S.sd k : Int), .int .i64 ((S.bh k).length : Int)] 59)).cell? ⟨w.heap.size, 0, none⟩ = some (.int .i64 (S.sd k : Int)) := by simp [World.cell?_alloc_new]
  have n1 : (w.alloc (.cells #[.int .i64 (S.sd k : Int), .int .i64 ((S.bh k).length : Int)] 59)).cell? ⟨w.heap.size, 1, none⟩ = some (.int .i64 ((S.bh k).length : Int)) := by simp [World.cell?_alloc_new]
  generalize hR : rdy S.bh (S.td i) k = R at *
  clear hR
  unfold CS.td at hrd
  generalize hbh : S.bh k = bh at *
  generalize S.sd k = sk at *
  generalize S.ls (2 * i) = ti at *
  generalize S.ls (2 * sk) = ts at *
  generalize S.m = mm at *
  clear hl hbh hs1 hdl
  have hNiH := Lib.hid hNi
  clear hNi
  go_enter Try.func33, Try.ntmps33
  go_wp2_with fail
  generalize hw1 : w.alloc (.cells #[.int .i64 (sk : Int), .int .i64 (bh.length : Int)] 59) = w1 at *
  clear hw1
  go_quiet (fail)
  have hB2 := below_drewN hB1 nq
  have b2 : (w1.drewN nq).cell? ⟨P, i * 2, none⟩ = some (.slice Ai ti.length ci) := a2
  clear hB1 a0 a1 a2 n0 n1 g0 g1 m0 m1 p0 q0
  generalize w1.drewN nq = w2 at *
  have hcs2 : Hid (∀ j, (hj : j < bh.length) → w2.cell? ⟨bs, off + j, none⟩ = some (.int .i64 (bh[j] : Int))) := fun j hj => (hB2.cell (p := ⟨bs, off + j, none⟩) hbs).trans (hcs'.out j hj)
  have hNi2 := Lib.hid ((hNiH.out.below hB2).more hB2.size)
  clear hcs' hNiH
  go_wp2_with fail
  go_loop [30] (fun t => ∃ j : Nat, j ≤ bh.length ∧ t = .int .i64 j ∧ Hid (∀ x ∈ bh.take j, x ∈ ti)) (fun t => bh.length - (intOf t).toNat)
  case atStart => exact ⟨0, Nat.zero_le _, rfl, fun x hx => by simp at hx⟩
  case round =>
    obtain ⟨j, hj, rfl, hr⟩ := hrel
    by_cases hlt : j < bh.length
    · have c0 := hcs2.out j hlt
      have hjI : (j : Int) < (bh.length : Int) := by omega
      have hgot : Hid (bh.take (j + 1) = bh.take j ++ [bh[j]]) := by unfold Hid; simp
      have hmem : Hid (bh[j] ∈ bh) := List.getElem_mem hlt
      generalize bh[j] = x at *
      by_cases hin : x ∈ ti
      · have hn2 : Hid (∀ y ∈ bh.take (j + 1), y ∈ ti) := fun y hy => by
          rw [hgot.out] at hy
          rcases List.mem_append.1 hy with h | h
          · exact hr.out y h
          · rw [List.mem_singleton.1 h]; exact hin
        have hcc := Lib.hid (contains_any Ai ci (zs ti) (x : Int) w2 hNi2.out (by rw [zs_len]; exact hl2) true (by rw [zs_mem]; simp [hin]))
        rw [zs_len] at hcc
        clear hin
        go_wp2_with fail
        refine hcc.out.mono ?_
        rintro e w3 ⟨rfl, rfl⟩
        go_wp2_with fail
        go_round
        case rel => exact ⟨j + 1, by omega, by go_num, hn2⟩
        case measure => simp [intOf]; omega
      · have hR : Hid (R = false) := by
          unfold Hid
          rw [← Bool.not_eq_true, hrd.out]
          exact fun h => hin (h x hmem.out)
        have hcc := Lib.hid (contains_any Ai ci (zs ti) (x : Int) w2 hNi2.out (by rw [zs_len]; exact hl2) false (by rw [zs_mem]; simp [hin]))
        rw [zs_len] at hcc
        clear hin
        go_wp2_with fail
        refine hcc.out.mono ?_
        rintro e w3 ⟨rfl, rfl⟩
        go_wp2_with fail
        go_ret
        exact ⟨by rw [hR.out]; rfl, hB2⟩
    · have hR : Hid (R = true) := by
        unfold Hid
        rw [hrd.out]
        intro x hx
        exact hr.out x (by rw [List.take_of_length_le (by omega)]; exact hx)
      have hjl : j = bh.length := by omega
      subst hjl
      go_wp2_with fail
      go_ret
      exact ⟨by rw [hR.out]; rfl, hB2⟩

/-- The closure's two boxes. -/
def Boxes (w : World) (b1 b2 gb : Nat) (p : Addr) : Prop := Row w b1 46 [.pointer (some ⟨gb, 0, none⟩)] ∧ Row w b2 57 [.pointer (some p)]
theorem Boxes.below {w w' : World} {b1 b2 gb : Nat} {p : Addr} (h : Boxes w b1 b2 gb p) (hb : Below w.heap.size w w') : Boxes w' b1 b2 gb p := ⟨h.1.below hb h.1.lt, h.2.below hb h.2.lt⟩
theorem Boxes.bl {B : Nat} {w w' : World} {b1 b2 gb : Nat} {p : Addr} (h : Boxes w b1 b2 gb p) (hb : Bl B w w') : Boxes w' b1 b2 gb p := ⟨hb.kept _ _ _ (by decide) (by decide) (by decide) (by decide) h.1, hb.kept _ _ _ (by decide) (by decide) (by decide) (by decide) h.2⟩

set_option maxHeartbeats 800000 in
theorem closure_any (w : World) (B gb n P b1 b2 : Nat) (S : CS) (hS : Grp w B gb n P S) (hI : CI0 n S) (k i : Nat) (hX : Boxes w b1 b2 gb ⟨P, i * 2, none⟩) (hk : k < S.m) (hi : i < n) (hl : ∀ j, (S.ls j).length ≤ 1000) (hn : n ≤ 6) (hm : S.m ≤ 1000) :
    Calls Try.prog 32 #[.int .i64 (k : Int), .pointer (some ⟨b1, 0, none⟩), .pointer (some ⟨b2, 0, none⟩)] w fun e w' => e = .returned (.bool (rdy S.bh (S.td i) k)) ∧ Below w.heap.size w w' := by
  have hc := Lib.hid (ready_any w B gb n P S hS hI k i hk hi hl hn hm)
  have x1 := hX.1.cell (i := 0) (by simp)
  have x2 := hX.2.cell (i := 0) (by simp)
  simp only [List.getElem_cons_zero] at x1 x2
  generalize rdy S.bh (S.td i) k = R at *
  clear hS hI hX hl
  go_enter Try.func32, Try.ntmps32
  go_wp2_with fail
  refine hc.out.mono ?_
  rintro e w3 ⟨rfl, hB⟩
  go_wp2_with fail
  go_ret
  exact ⟨rfl, hB⟩

/-- The first that is ready, or none. -/
def FirstAt (f : Nat → Bool) (q : List Nat) (r : Int) : Prop := (r = -1 ∧ ∀ x ∈ q, f x = false) ∨ ∃ j : Nat, ∃ h : j < q.length, r = (j : Int) ∧ f q[j] = true ∧ ∀ a, (ha : a < j) → f (q[a]'(by omega)) = false

set_option maxHeartbeats 1600000 in
theorem indexfunc_any (w : World) (B gb n P b1 b2 : Nat) (S : CS) (hS : Grp w B gb n P S) (hI : CI0 n S) (i : Nat) (hX : Boxes w b1 b2 gb ⟨P, i * 2, none⟩) (hi : i < n) (hl : ∀ j, (S.ls j).length ≤ 1000) (hn : n ≤ 6) (hm : S.m ≤ 1000)
    (A : Option Addr) (cap : Nat) (q : List Nat) (hq : Nums w w.heap.size A (zs q)) (hql : q.length ≤ 1000) (hqm : ∀ x ∈ q, x < S.m) :
    Calls Try.prog 34 #[.slice A q.length cap, .func (.func 32) #[] #[.pointer (some ⟨b1, 0, none⟩), .pointer (some ⟨b2, 0, none⟩)]] w fun e w' => ∃ r, e = .returned (.int .i64 r) ∧ FirstAt (rdy S.bh (S.td i)) q r ∧ Below w.heap.size w w' := by
  have hcl : Hid (∀ w1 x, Below w.heap.size w w1 → x ∈ q → Calls Try.prog 32 #[.int .i64 (x : Int), .pointer (some ⟨b1, 0, none⟩), .pointer (some ⟨b2, 0, none⟩)] w1 fun e w' => e = .returned (.bool (rdy S.bh (S.td i) x)) ∧ Below w1.heap.size w1 w') :=
    fun w1 x hb hx => closure_any w1 B gb n P b1 b2 S (hS.below hb) hI x i (hX.below hb) (hqm x hx) hi hl hn hm
  generalize rdy S.bh (S.td i) = f at *
  have hqH := Lib.hid hq
  clear hS hI hX hl hqm hq
  go_enter Try.func34, Try.ntmps34
  go_wp2_with fail
  go_loopw [8] (fun t wr => ∃ j : Nat, j ≤ q.length ∧ t = .int .i64 j ∧ Hid (∀ a, (ha : a < q.length) → a < j → f q[a] = false) ∧ Below w.heap.size w wr) (fun t _ => q.length - (intOf t).toNat)
  case atStart => exact ⟨0, Nat.zero_le _, rfl, fun _ _ h => absurd h (Nat.not_lt_zero _), Below.refl _ _⟩
  case round =>
    obtain ⟨j, hj, rfl, hr, hB⟩ := hrel
    by_cases hlt : j < q.length
    · obtain ⟨b, off, rfl, hb, hc⟩ := (hqH.out.below hB) (by rw [zs_len]; omega)
      have c0 := hc j (by rw [zs_len]; exact hlt)
      have hz : (zs q)[j]'(by rw [zs_len]; exact hlt) = ((q[j] : Nat) : Int) := by simp [zs]
      rw [hz] at c0
      clear hc hz
      have hcc := Lib.hid (hcl.out wr q[j] hB (List.getElem_mem hlt))
      obtain ⟨R, hR⟩ : ∃ R, Hid (f q[j] = R) := ⟨f q[j], (rfl : f q[j] = f q[j])⟩
      rw [hR.out] at hcc
      generalize hx : q[j] = x at *
      have hxH := Lib.hid hx
      have hjI : (j : Int) < (q.length : Int) := by omega
      clear hx
      cases R with
      | true =>
        go_wp2_with fail
        refine hcc.out.mono ?_
        rintro e w3 ⟨rfl, hB3⟩
        go_wp2_with fail
        go_ret
        exact ⟨j, rfl, .inr ⟨j, hlt, rfl, by rw [hxH.out]; exact hR.out, fun a ha => hr.out a (by omega) ha⟩, hB.trans (hB3.mono hB.size)⟩
      | false =>
        have hn2 : Hid (∀ a, (ha : a < q.length) → a < j + 1 → f q[a] = false) := fun a ha h => by
          by_cases e : a = j
          · subst e; rw [hxH.out]; exact hR.out
          · exact hr.out a ha (by omega)
        go_wp2_with fail
        refine hcc.out.mono ?_
        rintro e w3 ⟨rfl, hB3⟩
        have hB4 := hB.trans (hB3.mono hB.size)
        clear hB hB3
        go_wp2_with fail
        go_roundw
        case rel => exact ⟨j + 1, by omega, by go_num, hn2, hB4⟩
        case measure => simp [intOf]; omega
    · have hjl : j = q.length := by omega
      subst hjl
      go_wp2_with fail
      go_ret
      exact ⟨-1, rfl, .inl ⟨rfl, fun x hx => by
        obtain ⟨a, ha, e⟩ := List.getElem_of_mem hx
        rw [← e]
        exact hr.out a ha ha⟩, hB⟩

#print axioms ready_any
#print axioms indexfunc_any
end Go.Proofs.Ytkchccaeopdemaa
