/-
  The contracts of (*network).complete, send, spread of package echo.
-/
import Derived.Test.YtjmkmfeibempjaaNet
namespace Go.Proofs.Ytjmkmfeibempjaa
open Go.RowKit Go.Maps
set_option linter.unusedVariables false

set_option maxHeartbeats 800000 in
theorem complete_any (w : World) (B N P n s : Nat) (nv : Nat → Value) (nb : Nat → List Nat) (S : ES) (h : Net w B N P n s nv nb S) (i : Nat) (hi : i < n) :
    Calls Try.prog 21 #[.pointer (some ⟨N, 0, none⟩), .int .i64 (i : Int)] w fun e w' => e = .returned (.bool (decide (S.took i = (nb i).length))) ∧ Below w.heap.size w w' := by
  obtain ⟨tv, hA⟩ := h
  obtain ⟨s0, s1, s2, s3⟩ := hA.cells
  obtain ⟨p0, p1, p2⟩ := hA.prc.cells hi
  obtain ⟨A, cap, hv, -⟩ := (hA.nbr i hi).shape
  rw [hv] at p0
  have hiI : (i : Int) < (n : Int) := by omega
  have hB : Below w.heap.size w (w.alloc (.cells #[.slice A (nb i).length cap, .int .i64 (S.par i), .int .i64 (S.took i : Int)] 62)) := (Below.refl _ _).alloc (Nat.le_refl _) _
  have hdec : Hid (((S.took i : Int) == ((nb i).length : Int)) = decide (S.took i = (nb i).length)) := by
    unfold Hid; rw [Bool.eq_iff_iff]; simp; omega
  clear hA hv
  generalize (nb i).length = q at *
  generalize S.took i = t at *
  generalize S.par i = p at *
  go_enter Try.func21, Try.ntmps21
  go_wp2_with fail
  go_ret
  exact ⟨by rw [← hdec.out]; rfl, hB⟩

set_option maxHeartbeats 1600000 in
theorem send_any (w : World) (B N P n s : Nat) (nv : Nat → Value) (nb : Nat → List Nat) (S : ES) (h : Net w B N P n s nv nb S) (i j : Nat) (hl : S.way.length ≤ 1000) (hs : S.sent ≤ 1000) :
    Calls Try.prog 35 #[.pointer (some ⟨N, 0, none⟩), .int .i64 (i : Int), .int .i64 (j : Int)] w fun e w' => e = .returned (.tuple #[]) ∧ Net w' B N P n s nv nb (S.send i j) ∧ KM B w w' := by
  obtain ⟨tv, hA⟩ := h
  obtain ⟨j0, hi0, hz0, hz1, hz2⟩ := info_parts infoMsg
  have hJi := Lib.hid hi0; have hJz := Lib.hid hz0; have hJs := Lib.hid hz1; have hJb := Lib.hid hz2
  clear hi0 hz0 hz1 hz2
  obtain ⟨A9, cap9, hv9, hc91, hc92, -⟩ := hA.tra.shape
  subst hv9
  obtain ⟨s0, s1, s2, s3⟩ := hA.cells
  have hsz := hA.sz
  have hNlt := hA.top.lt
  have hAm := hA.alloc (.cells #[.int .i64 (i : Int), .int .i64 (j : Int)] 65)
  have hK0 := (KM.refl B w).alloc hsz (.cells #[.int .i64 (i : Int), .int .i64 (j : Int)] 65)
  have hTa := hAm.tra
  unfold OwnM at hTa
  have hAmH := Lib.hid hAm
  have hKH := Lib.hid hK0
  have hnews := Lib.hid (newsM (w := w) (g := w.heap.size) (i, j) rfl)
  have hbase : B ≤ (w.alloc (.cells #[.int .i64 (i : Int), .int .i64 (j : Int)] 65)).heap.size := by simp; omega
  have hne : Hid ((Value.slice A9 S.way.length cap9).ownBlock ≠ some N) := owns_ne_row hAm.tra hAm.top (by decide)
  clear hA hAm hK0
  go_enter Try.func35, Try.ntmps35
  go_wp2_with (first
    | (at_builtin; refine wpList_append_lies _ rfl (.tmp 10) (.tmp 14) 49 rfl B 65 j0 (.agg #[.int .i64 0, .int .i64 0]) 2 16 Try.underlying49 hJi.out hJz.out hJs.out hJb.out rfl (by decide) (.slice A9 S.way.length cap9) S.way.length (flatM S.way) rfl hTa ⟨w.heap.size, 0, none⟩ 1 1 (cellsM (i, j)) rfl rfl hnews.out (by simp [cellsM, Value.oneCell']) (by omega) (by unfold maxLen; omega) (by omega) hbase _ rfl ?_; intro g cap w1 hown hgr hat hlt
       have f1 := hAmH.out.top.grown hgr (fun e => hne.out e.symm)
       have x2 := f1.cell (i := 2) (by simp)
       have ff2 := f1.frozen 2
       have hA1 := Lib.hid ((hAmH.out.setT (OwnM.push hown) hgr).setSent (S.sent + 1))
       have hA1b := hAmH.out.setT (OwnM.push hown) hgr
       have x3 := hA1b.cells.2.2.2
       have ff3 := hA1b.top.frozen 3
       have hK1 := Lib.hid ((((hKH.out.grownM hgr hAmH.out.tra hbase).setN (N := N) (k := 2) f1 hAmH.out.lowN (.slice (some ⟨g, 0, none⟩) (S.way.length + 1) cap))).setN (N := N) (k := 3) hA1b.top hAmH.out.lowN (.int .i64 ((S.sent + 1 : Nat) : Int)))
       clear hown hgr hat hA1b f1 hTa hAmH hKH))
  go_end0
  exact ⟨rfl, ⟨_, hA1.out⟩, hK1.out⟩

theorem OwnE.at_ {w : World} {B cap : Nat} {A : Option Addr} {q : List Nat} (h : OwnE w B (.slice A q.length cap) q) {k : Nat} (hk : k < q.length) : ∃ g, A = some ⟨g, 0, none⟩ ∧ w.cell? ⟨g, k, none⟩ = some (.int .i64 (q[k] : Int)) := by
  obtain ⟨A', cap', hv, _, _, hc⟩ := h.shape
  injection hv with e1 e2 e3
  subst e1
  exact hc k hk
theorem spread_zero (S : ES) (i : Nat) : S.spread i [] = S := by simp [ES.spread]
theorem spread_snoc (S : ES) (i x : Nat) (q : List Nat) (h : S.par i ≠ (x : Int)) : S.spread i (q ++ [x]) = (S.spread i q).send i x := by
  simp [ES.spread, ES.send, List.filter_append, h, Nat.add_assoc]
theorem spread_same (S : ES) (i x : Nat) (q : List Nat) (h : S.par i = (x : Int)) : S.spread i (q ++ [x]) = S.spread i q := by
  simp [ES.spread, List.filter_append, h]
theorem spread_yes (S : ES) (i : Nat) {q : List Nat} {k : Nat} (hk : k < q.length) (h : S.par i ≠ (q[k] : Int)) : S.spread i (q.take (k + 1)) = (S.spread i (q.take k)).send i q[k] := by
  rw [List.take_succ_eq_append_getElem hk, spread_snoc S i q[k] _ h]
theorem spread_no (S : ES) (i : Nat) {q : List Nat} {k : Nat} (hk : k < q.length) (h : S.par i = (q[k] : Int)) : S.spread i (q.take (k + 1)) = S.spread i (q.take k) := by
  rw [List.take_succ_eq_append_getElem hk, spread_same S i q[k] _ h]
theorem spread_len (S : ES) (i : Nat) (q : List Nat) : (S.spread i q).way.length ≤ S.way.length + q.length ∧ (S.spread i q).sent ≤ S.sent + q.length := by
  have := List.length_filter_le (fun (j : Nat) => !decide (S.par i = (j : Int))) q
  simp only [ES.spread, List.length_append, List.length_map]
  omega

def SprRel (w1 : World) (B N P n s : Nat) (nv : Nat → Value) (nb : Nat → List Nat) (S : ES) (wr : World) : Prop := Net wr B N P n s nv nb S ∧ KM B w1 wr
set_option maxHeartbeats 1600000 in
theorem spread_any (w : World) (B N P n s : Nat) (nv : Nat → Value) (nb : Nat → List Nat) (S : ES) (h : Net w B N P n s nv nb S) (i : Nat) (hi : i < n) (hq : (nb i).length ≤ 100) (hl : S.way.length ≤ 800) (hs : S.sent ≤ 800) :
    Calls Try.prog 29 #[.pointer (some ⟨N, 0, none⟩), .int .i64 (i : Int)] w fun e w' => e = .returned (.tuple #[]) ∧ Net w' B N P n s nv nb (S.spread i (nb i)) ∧ KM B w w' := by
  obtain ⟨tv, hA⟩ := h
  obtain ⟨s0, s1, s2, s3⟩ := hA.cells
  obtain ⟨p0, p1, p2⟩ := hA.prc.cells hi
  obtain ⟨A, cap, hv, hc1, hc2, -⟩ := (hA.nbr i hi).shape
  rw [hv] at p0
  have hiI : (i : Int) < (n : Int) := by omega
  have hvH := Lib.hid hv
  have hqe : Hid ((nb i).take (nb i).length = nb i) := List.take_length
  generalize hqq : nb i = q at *
  have hqH := Lib.hid hqq
  have hrel0 : Hid (SprRel (w.alloc (.cells #[.slice A q.length cap, .int .i64 (S.par i), .int .i64 (S.took i : Int)] 62)) B N P n s nv nb (S.spread i (q.take 0)) (w.alloc (.cells #[.slice A q.length cap, .int .i64 (S.par i), .int .i64 (S.took i : Int)] 62))) := by
    refine ⟨?_, KM.refl _ _⟩
    rw [List.take_zero, spread_zero]
    exact ⟨tv, hA.alloc _⟩
  have hK0 := Lib.hid ((KM.refl B w).alloc hA.sz (.cells #[.slice A q.length cap, .int .i64 (S.par i), .int .i64 (S.took i : Int)] 62))
  have hR0 := Row.made w 62 [.slice A q.length cap, .int .i64 (S.par i), .int .i64 (S.took i : Int)]
  generalize hg4 : w.heap.size = g4 at *
  have hSl := Lib.hid (fun m => spread_len S i (q.take m))
  have hy := Lib.hid (fun k hk => spread_yes S i (q := q) (k := k) hk)
  have hno := Lib.hid (fun k hk => spread_no S i (q := q) (k := k) hk)
  have hpr : Hid (∀ m, (S.spread i (q.take m)).par = S.par) := fun _ => rfl
  generalize hp : S.par i = p at *
  generalize htt : S.took i = t at *
  clear hA hv hqq htt
  go_enter Try.func29, Try.ntmps29
  go_wp2_with fail
  rw [hg4] at *
  generalize hw1 : w.alloc (.cells #[.slice A q.length cap, .int .i64 p, .int .i64 (t : Int)] 62) = w1 at *
  have hR1 : Row w1 g4 62 [.slice A q.length cap, .int .i64 p, .int .i64 (t : Int)] := hR0
  clear hR0 hw1 s0 s1 s2 s3 p0 p1 p2
  go_loopw [17] (fun v wr => ∃ k : Nat, k ≤ q.length ∧ v = .int .i64 k ∧ SprRel w1 B N P n s nv nb (S.spread i (q.take k)) wr) (fun v _ => q.length - (intOf v).toNat)
  case atStart => exact ⟨0, Nat.zero_le _, rfl, hrel0.out⟩
  case round =>
    clear hrel0
    obtain ⟨k, hk, rfl, hN, hK⟩ := hrel
    have hR := hK.oth _ _ _ (by decide) (by decide) hR1
    have c1 := hR.cell (i := 1) (by simp)
    simp only [List.getElem_cons_zero, List.getElem_cons_succ] at c1
    by_cases hlt : k < q.length
    · obtain ⟨tv', hA'⟩ := hN
      have hnb := hA'.nbr i hi
      rw [hqH.out, hvH.out] at hnb
      obtain ⟨g, rfl, c0⟩ := hnb.at_ hlt
      have hkI : (k : Int) < (q.length : Int) := by omega
      have hNH : Hid (Net wr B N P n s nv nb (S.spread i (q.take k))) := ⟨tv', hA'⟩
      have hl1 := (hSl.out k).1
      have hl2 := (hSl.out k).2
      have hl3 : (q.take k).length ≤ 100 := by simp; omega
      have hyk := Lib.hid (hy.out k hlt)
      have hnk := Lib.hid (hno.out k hlt)
      have hKH := Lib.hid hK
      clear hnb hA' hK hy hno
      generalize hx : q[k] = x at *
      clear hx
      by_cases e : p = (x : Int)
      · have v1 : ((x : Int) != p) = false := by simp [e]
        have hnx := Lib.hid (hnk.out e)
        clear e
        go_wp2_with fail
        go_roundw
        case rel => exact ⟨k + 1, by omega, by go_num, by rw [hnx.out]; exact hNH.out, hKH.out⟩
        case measure => simp [intOf]; omega
      · have v1 : ((x : Int) != p) = true := by simp; exact fun h => e h.symm
        have hnx := Lib.hid (hyk.out e)
        have hcall := Lib.hid (send_any wr B N P n s nv nb _ hNH.out i x (by omega) (by omega))
        clear e hNH
        go_wp2_with fail
        refine hcall.out.mono ?_
        rintro e w5 ⟨rfl, hN5, hK5⟩
        have hN5H := Lib.hid hN5
        have hK6 := Lib.hid (hKH.out.trans hK5)
        clear hN5 hK5 hcall
        go_wp2_with fail
        go_roundw
        case rel => exact ⟨k + 1, by omega, by go_num, by rw [hnx.out]; exact hN5H.out, hK6.out⟩
        case measure => simp [intOf]; omega
    · have hkl : k = q.length := by omega
      rw [hkl, hqe.out] at hN
      have hNH := Lib.hid hN
      have hKH := Lib.hid (hK0.out.trans hK)
      clear hN hK hR
      go_wp2_with fail
      go_end0
      exact ⟨rfl, hNH.out, hKH.out⟩
#print axioms send_any
#print axioms spread_any
end Go.Proofs.Ytjmkmfeibempjaa
