/-
  The contracts of (*system).enqueue, want, leave of package token.
-/
import Derived.Test.YtejckoffllhjcaaKen
namespace Go.Proofs.Ytejckoffllhjcaa
open Go.RowKit Go.Maps
set_option linter.unusedVariables false

theorem ask_no {S : KS} {i : Nat} (h : S.row i ≠ [] ∨ S.ptr i = i) (y : Nat) : (S.add i y).ask i = S.add i y := by
  unfold KS.ask
  refine if_neg fun h2 => ?_
  have h3 : (up1 S.row i (S.row i ++ [y]) i).length = 1 := h2.1
  rw [up1_same, List.length_append] at h3
  simp only [List.length_singleton] at h3
  rcases h with h | h
  · exact h (List.length_eq_zero_iff.1 (by omega))
  · exact h2.2 h
theorem ask_yes {S : KS} {i : Nat} (h1 : S.row i = []) (h2 : S.ptr i ≠ i) (y : Nat) : (S.add i y).ask i = (S.add i y).put i (S.ptr i) 0 := by
  unfold KS.ask
  refine if_pos ⟨?_, h2⟩
  show (up1 S.row i (S.row i ++ [y]) i).length = 1
  rw [up1_same, h1]; rfl

set_option maxHeartbeats 4000000 in
theorem enqueue_any (w : World) (B s P M n c : Nat) (S : KS) (hS : SysK w B s P M n c S) (hO : OkK n S 800) (i y : Nat) (hi : i < n) (hy : y < n) (hn : n ≤ 6) (hc : c ≤ 80000) :
    Calls Try.prog 41 #[.pointer (some ⟨s, 0, none⟩), .int .i64 (i : Int), .int .i64 (y : Int)] w (SrvK B s P M n (c + 3) w (S.enq i y)) := by
  have hdef : Hid (S.enq i y = ((S.add i y).ask i).serve i) := rfl
  have hno := Lib.hid (fun h => ask_no (S := S) (i := i) h y)
  have hyes := Lib.hid (fun h1 h2 => ask_yes (S := S) (i := i) h1 h2 y)
  have hO2 := Lib.hid (((hO.add (i := i) hy).ask i).up (show 800 + 1 + 1 ≤ 900 by omega))
  have hlen := hO.row i
  have hq1 : Hid (((S.add i y).q i (S.ptr i)).length ≤ 1000) := Nat.le_trans (hO.len i (S.ptr i)) (by omega)
  have hpn := hO.ptr i hi
  have hpt : Hid ((S.add i y).ptr i = S.ptr i) := rfl
  have hOa := Lib.hid ((hO.add (i := i) hy).up (show 800 + 1 ≤ 900 by omega))
  obtain ⟨D, f, hA⟩ := hS
  obtain ⟨s0, s1⟩ := hA.cells
  obtain ⟨p0, p1, p2⟩ := hA.prc hi
  have hiI : (i : Int) < (n : Int) := by omega
  obtain ⟨j0, hi0, hz0, hz1, hz2⟩ := info_parts infoInt
  have hJi := Lib.hid hi0; have hJz := Lib.hid hz0; have hJs := Lib.hid hz1; have hJb := Lib.hid hz2
  have hAa := hA.alloc (.cells #[.int .i64 (y : Int)] 3)
  have hRa := Row.made w 3 [.int .i64 (y : Int)]
  have ya := hRa.cell (i := 0) (by simp)
  simp only [List.getElem_cons_zero] at ya
  have hsza : B ≤ (w.alloc (.cells #[.int .i64 (y : Int)] 3)).heap.size := hAa.sz
  have hba := (BlK.refl B w).alloc hA.sz (.cells #[.int .i64 (y : Int)] 3)
  have hQa := hAa.row i hi
  have hgrew := Lib.hid (fun (w2 : World) (v : Value) h1 h2 h3 => SysKA.grewQ (w := w) (w2 := w2) (y := y) hAa hi (v := v) h1 h2 h3 hba)
  have hnl : (nlK (S.row i)).length ≤ 1000 := by rw [nlK_len]; omega
  have hlz : Hid (S.row i = [] ↔ (nlK (S.row i)).length = 0) := by
    unfold Hid
    rw [nlK_len, List.length_eq_zero_iff]
  generalize S.enq i y = R at *
  clear hO hi0 hz0 hz1 hz2 hA s1 p0 p2 hRa hba hAa
  by_cases hr : S.row i = []
  · have hz := hlz.out.1 hr
    have hl1 : (((nlK (S.row i)).length + 1 : Nat) : Int) = 1 := by omega
    have hl1b : ((((nlK (S.row i)).length + 1 : Nat) : Int) == 1) = true := by rw [beq_iff_eq]; omega
    by_cases hp : S.ptr i = i
    · have hR : Hid (R = (S.add i y).serve i) := by
        unfold Hid
        rw [hdef.out, hno.out (.inr hp)]
      have hp2 : Hid ((S.add i y).ptr i = i) := hp
      clear hdef hno hyes hO2 hq1 hlz hr hz hp
      go_enter Try.func41, Try.ntmps41
      go_wp2_with (first
        | (at_builtin; refine wpList_append_queT rfl 22 Try.underlying22 (.tmp 17) (.tmp 19) rfl j0 hJi.out hJz.out hJs.out hJb.out (D i) (nlK (S.row i)) rfl hQa hsza hnl ⟨w.heap.size, 0, none⟩ (y : Int) rfl ya ?_; intro v w2 hQ2 hG2 hat2
           obtain ⟨A2, cap2, hv2, _, _, _⟩ := hQ2.shape
           rw [List.length_append, List.length_singleton] at hv2
           subst hv2
           obtain ⟨hA3, hB3, hf3, hc3⟩ := hgrew.out w2 _ hQ2 hG2 hat2
           obtain ⟨t0, t1⟩ := hA3.cells
           obtain ⟨r0, r1, r2⟩ := hA3.prc hi
           rw [up1_same] at r1
           rw [hpt.out] at r0
           have hS3 : SysK _ B s P M n c (S.add i y) := ⟨_, _, hA3⟩
           have hBH := Lib.hid hB3
           have hsrv := Lib.hid (serve_any _ B s P M n c (S.add i y) hS3 hOa.out i hi hn (by omega))
           have htok := Lib.hid (hasToken_any _ B s P M n c (S.add i y) hS3 i hi hn true ⟨fun _ => hp2.out, fun _ => rfl⟩)
           clear hQ2 hG2 hat2 hgrew hA3 hB3 hS3 r2 t1 s0 p1 ya hQa))
      refine htok.out.mono ?_
      rintro e w4 ⟨rfl, rfl⟩
      go_wp2_with fail
      refine hsrv.out.mono ?_
      rintro e w5 ⟨rfl, hS5, hB5⟩
      have hS5H := Lib.hid hS5
      clear hS5
      go_wp2_with fail
      go_end0
      exact ⟨rfl, by rw [hR.out]; exact hS5H.out.mono (by omega), hBH.out.trans hB5⟩
    · have hR : Hid (R = ((S.add i y).put i (S.ptr i) 0).serve i) := by
        unfold Hid
        rw [hdef.out, hyes.out hr hp]
      have hO3 : Hid (OkK n ((S.add i y).put i (S.ptr i) 0) 900) := by
        unfold Hid
        rw [← hyes.out hr hp]; exact hO2.out
      have hp2 : Hid (¬ (S.add i y).ptr i = i) := hp
      clear hdef hno hyes hO2 hlz hr hz hp
      go_enter Try.func41, Try.ntmps41
      go_wp2_with (first
        | (at_builtin; refine wpList_append_queT rfl 22 Try.underlying22 (.tmp 17) (.tmp 19) rfl j0 hJi.out hJz.out hJs.out hJb.out (D i) (nlK (S.row i)) rfl hQa hsza hnl ⟨w.heap.size, 0, none⟩ (y : Int) rfl ya ?_; intro v w2 hQ2 hG2 hat2
           obtain ⟨A2, cap2, hv2, _, _, _⟩ := hQ2.shape
           rw [List.length_append, List.length_singleton] at hv2
           subst hv2
           obtain ⟨hA3, hB3, hf3, hc3⟩ := hgrew.out w2 _ hQ2 hG2 hat2
           obtain ⟨t0, t1⟩ := hA3.cells
           obtain ⟨r0, r1, r2⟩ := hA3.prc hi
           rw [up1_same] at r1
           rw [hpt.out] at r0
           have hS3 : SysK _ B s P M n c (S.add i y) := ⟨_, _, hA3⟩
           have hBH := Lib.hid hB3
           have htok := Lib.hid (hasToken_any _ B s P M n c (S.add i y) hS3 i hi hn false ⟨(nomatch ·), fun h => absurd h hp2.out⟩)
           have hsnd := Lib.hid (send_any _ B s P M n c (S.add i y) hS3 i (S.ptr i) hi hpn hn (by omega) 0 hq1.out)
           clear hQ2 hG2 hat2 hgrew hA3 hB3 hS3 r2 t1 s0 p1 ya hQa))
      refine htok.out.mono ?_
      rintro e w4 ⟨rfl, rfl⟩
      go_wp2_with fail
      refine hsnd.out.mono ?_
      rintro e w5 ⟨rfl, hS5, hB5⟩
      have hsrv := Lib.hid (serve_any _ B s P M n (c + 1) _ hS5 hO3.out i hi hn (by omega))
      have hB6 := Lib.hid (hBH.out.trans hB5)
      clear hS5 hB5 hsnd
      go_wp2_with fail
      refine hsrv.out.mono ?_
      rintro e w6 ⟨rfl, hS6, hB7⟩
      have hS6H := Lib.hid hS6
      clear hS6
      go_wp2_with fail
      go_end0
      exact ⟨rfl, by rw [hR.out]; exact hS6H.out, hB6.out.trans hB7⟩
  · have hz : ¬ (nlK (S.row i)).length = 0 := fun e => hr (hlz.out.2 e)
    have hl1b : ((((nlK (S.row i)).length + 1 : Nat) : Int) == 1) = false := by rw [beq_eq_false_iff_ne]; omega
    have hR : Hid (R = (S.add i y).serve i) := by
      unfold Hid
      rw [hdef.out, hno.out (.inl hr)]
    clear hdef hno hyes hO2 hq1 hlz hr
    go_enter Try.func41, Try.ntmps41
    go_wp2_with (first
      | (at_builtin; refine wpList_append_queT rfl 22 Try.underlying22 (.tmp 17) (.tmp 19) rfl j0 hJi.out hJz.out hJs.out hJb.out (D i) (nlK (S.row i)) rfl hQa hsza hnl ⟨w.heap.size, 0, none⟩ (y : Int) rfl ya ?_; intro v w2 hQ2 hG2 hat2
         obtain ⟨A2, cap2, hv2, _, _, _⟩ := hQ2.shape
         rw [List.length_append, List.length_singleton] at hv2
         subst hv2
         obtain ⟨hA3, hB3, hf3, hc3⟩ := hgrew.out w2 _ hQ2 hG2 hat2
         obtain ⟨t0, t1⟩ := hA3.cells
         obtain ⟨r0, r1, r2⟩ := hA3.prc hi
         rw [up1_same] at r1
         rw [hpt.out] at r0
         have hS3 : SysK _ B s P M n c (S.add i y) := ⟨_, _, hA3⟩
         have hBH := Lib.hid hB3
         have hsrv := Lib.hid (serve_any _ B s P M n c (S.add i y) hS3 hOa.out i hi hn (by omega))
         clear hQ2 hG2 hat2 hgrew hA3 hB3 hS3 r2 t1 s0 p1 ya hQa))
    refine hsrv.out.mono ?_
    rintro e w5 ⟨rfl, hS5, hB5⟩
    have hS5H := Lib.hid hS5
    clear hS5
    go_wp2_with fail
    go_end0
    exact ⟨rfl, by rw [hR.out]; exact hS5H.out.mono (by omega), hBH.out.trans hB5⟩

#print axioms enqueue_any
end Go.Proofs.Ytejckoffllhjcaa
