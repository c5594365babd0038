/-
  The contract of echo.Play.
-/
import Derived.Test.YtjmkmfeibempjaaNbg
import Derived.Test.YtjmkmfeibempjaaNrc
import Derived.Test.YtjmkmfeibempjaaNpa
import Derived.Test.YtjmkmfeibempjaaLck
import Derived.Test.YtjmkmfeibempjaaCdw
import Derived.Deep.RegionHeld3
namespace Go.Proofs.Ytjmkmfeibempjaa
open Go.RowKit Go.Maps
set_option linter.unusedVariables false

def echVal (gc m T n : Nat) (d : Bool) (t : Nat) : Value := .agg #[.slice (some ⟨gc, 0, none⟩) m m, .slice (some ⟨T, 0, none⟩) n n, .bool d, .int .i64 (t : Int)]
def EplRes (w : World) (n s : Nat) (l : List Lk) (o : List Int) (e : Ending) (w' : World) : Prop :=
  ∃ gc T, e = .returned (.tuple #[echVal gc o.length T n (decide ((esAt (nbs l n) s o o.length).took s = (nbs l n s).length)) (esAt (nbs l n) s o o.length).sent, .int .i64 0]) ∧ CodRow w' gc o.length (codeE (nbs l n) s o) ∧ IntRow w' T n (esAt (nbs l n) s o o.length).par ∧ Below w.heap.size w w'

theorem mild_at {n s : Nat} {l : List Lk} (hL : LkOk n l) (h15 : l.length ≤ 15) (hn : n ≤ 6) (hs : s < n) (o : List Int) (k : Nat) : Mild n s (nbs l n) (esAt (nbs l n) s o k) := by
  obtain ⟨got, dep, hh, h⟩ := esAt_inv (nbs_ok hL) hs o k
  have h1 := h.sent_le hL
  have h2 := h.sent
  refine ⟨fun m hm => ?_, fun i => by have := nbs_len l n i; omega, fun i => by have := h.took_le (nbs_ok hL) i; have := nbs_len l n i; omega, fun t ht hp => ?_, by omega, by omega, hn⟩
  · obtain ⟨i, j⟩ := m
    have := (h.mem i j).1 (List.mem_append.2 (.inl hm))
    have := nbs_lt hL this.1
    exact ⟨this.1, this.2.1⟩
  · obtain ⟨p, h3, _⟩ := h.par1 t ht hp
    exact ⟨p, h3⟩
theorem NetAt.err {w : World} {B N P n s : Nat} {nv : Nat → Value} {nb : Nat → List Nat} {tv : Value} {S : ES} (h : NetAt w B N P n s nv nb tv S) {g : Nat} {xs : List Value} (hr : Row w g 27 xs) (k : Nat) (v : Value) : NetAt (w.setCell ⟨g, k, none⟩ v) B N P n s nv nb tv S := by
  obtain ⟨ys, hP, _⟩ := h.prc
  have hset : ∀ q, q ≠ g → (w.setCell ⟨g, k, none⟩ v).heap[q]? = w.heap[q]? := fun q hq => Below.heap_setCell w ⟨g, k, none⟩ v q hq
  exact ⟨h.top.block (hset N (row_ne h.top hr (by decide))), h.prc.block (hset P (row_ne hP hr (by decide))), fun i hi => owns_blk (h.nbr i hi) fun q e => hset q fun e' => owns_ne_row (h.nbr i hi) hr (by decide) (e' ▸ e), h.apart, owns_blk h.tra fun q e => hset q fun e' => owns_ne_row h.tra hr (by decide) (e' ▸ e), h.lowN, h.lowP⟩

set_option maxHeartbeats 800000 in
theorem play_no (A : Option Addr) (cap : Nat) (l : List Lk) (A2 : Option Addr) (cap2 : Nat) (o : List Int) (n s : Int) (w : World) (hE : Lks w w.heap.size A l) (hc : l.length ≤ cap) (hl : l.length ≤ 17592186044416) (hl2 : o.length ≤ 17592186044416) (h : ecode n l s o.length ≠ 0) :
    Calls Try.prog 7 #[.int .i64 n, .slice A l.length cap, .int .i64 s, .slice A2 o.length cap2] w fun e w' => e = .returned (.tuple #[.agg #[.slice none 0 0, .slice none 0 0, .bool false, .int .i64 0], .int .i64 (ecode n l s o.length)]) ∧ Below w.heap.size w w' := by
  have hB1 := (Below.refl w.heap.size w).alloc (Nat.le_refl _) (.cells #[.slice none 0 0, .slice none 0 0, .bool false, .int .i64 0] 26)
  have hcall := Lib.hid (check_any A cap l A2 o.length cap2 n s _ ((hE.below hB1).more (by simp)) hc hl hl2)
  have hR1 := Lib.hid (Row.made w 26 [.slice none 0 0, .slice none 0 0, .bool false, .int .i64 0])
  have hB1H := Lib.hid hB1
  have v1 : (ecode n l s o.length != 0) = true := by simpa using h
  clear hE hB1 h
  generalize ecode n l s o.length = C at *
  go_enter Try.func7, Try.ntmps7
  go_wp2_with fail
  refine hcall.out.mono ?_
  rintro e w2 ⟨rfl, hB2⟩
  have hR2 := hR1.out.below hB2 (by simp)
  have r0 := hR2.cell (i := 0) (by simp)
  have r1 := hR2.cell (i := 1) (by simp)
  have r2 := hR2.cell (i := 2) (by simp)
  have r3 := hR2.cell (i := 3) (by simp)
  have f0 := hR2.frozen 0
  have f1 := hR2.frozen 1
  have f2 := hR2.frozen 2
  have f3 := hR2.frozen 3
  simp only [List.getElem_cons_zero, List.getElem_cons_succ] at r0 r1 r2 r3
  have hBz := Lib.hid (hB1H.out.trans (hB2.mono (by simp)))
  clear hcall hB2
  go_wp2_with fail
  have hR7 := (((hR2.set 0 (.slice none 0 0)).set 1 (.slice none 0 0)).set 2 (.bool false)).set 3 (.int .i64 0)
  have hB7 : Below w.heap.size w ((((w2.setCell ⟨w.heap.size, 0, none⟩ (.slice none 0 0)).setCell ⟨w.heap.size, 1, none⟩ (.slice none 0 0)).setCell ⟨w.heap.size, 2, none⟩ (.bool false)).setCell ⟨w.heap.size, 3, none⟩ (.int .i64 0)) :=
    (((hBz.out.setCell (p := ⟨w.heap.size, 0, none⟩) (Nat.le_refl _) _).setCell (p := ⟨w.heap.size, 1, none⟩) (Nat.le_refl _) _).setCell (p := ⟨w.heap.size, 2, none⟩) (Nat.le_refl _) _).setCell (p := ⟨w.heap.size, 3, none⟩) (Nat.le_refl _) _
  clear r0 r1 r2 r3 f0 f1 f2 f3 hR2
  generalize (((w2.setCell ⟨w.heap.size, 0, none⟩ (.slice none 0 0)).setCell ⟨w.heap.size, 1, none⟩ (.slice none 0 0)).setCell ⟨w.heap.size, 2, none⟩ (.bool false)).setCell ⟨w.heap.size, 3, none⟩ (.int .i64 0) = w7 at *
  have q0 := hR7.cell (i := 0) (by simp)
  have q1 := hR7.cell (i := 1) (by simp)
  have q2 := hR7.cell (i := 2) (by simp)
  have q3 := hR7.cell (i := 3) (by simp)
  simp at q0 q1 q2 q3
  (try simp only [Exit.inBlock, Exit.then])
  refine bodyPost_ret (v := .tuple #[.agg #[.slice none 0 0, .slice none 0 0, .bool false, .int .i64 0], .int .i64 C]) ?_ rfl ⟨rfl, hB7⟩
  rw [results_cell_tmp rfl]
  go_simp

def EplRel (w1 : World) (B N P n s : Nat) (nv : Nat → Value) (nb : Nat → List Nat) (o : List Int) (gc k : Nat) (wr : World) : Prop :=
  Net wr B N P n s nv nb (esAt nb s o k) ∧ CodRow wr gc o.length (fun i => if i < k then codeE nb s o i else 0) ∧ Below B w1 wr
theorem codeE_range (S : ES) (x : Int) : S.code x = 0 ∨ S.code x = 4 := by unfold ES.code; split <;> simp

set_option maxHeartbeats 8000000 in
set_option maxRecDepth 100000 in
theorem play_ok (A : Option Addr) (cap : Nat) (l : List Lk) (A2 : Option Addr) (cap2 : Nat) (o : List Int) (n s : Nat) (w : World) (hE : Lks w w.heap.size A l) (hc : l.length ≤ cap) (hE2 : Nums w w.heap.size A2 o) (hF2 : NumFits o) (h : ecode (n : Int) l (s : Int) o.length = 0) :
    Calls Try.prog 7 #[.int .i64 (n : Int), .slice A l.length cap, .int .i64 (s : Int), .slice A2 o.length cap2] w (EplRes w n s l o) := by
  obtain ⟨hsm, h60, hLO, hins, hOnce⟩ := ecode_zero h
  have hn : n ≤ 6 := by unfold LargeL at hsm; omega
  have h15 : l.length ≤ 15 := by unfold LargeL at hsm; omega
  have hs : s < n := by have := (inP_iff _ _).1 hins; omega
  have hL := hLO.lk
  clear hsm hLO hins
  have hB1 := (Below.refl w.heap.size w).alloc (Nat.le_refl _) (.cells #[.slice none 0 0, .slice none 0 0, .bool false, .int .i64 0] 26)
  have hcall := check_any A cap l A2 o.length cap2 (n : Int) (s : Int) _ ((hE.below hB1).more (by simp)) hc (by omega) (by omega)
  rw [h] at hcall
  have hcallH := Lib.hid hcall
  have hR1 := Lib.hid (Row.made w 26 [.slice none 0 0, .slice none 0 0, .bool false, .int .i64 0])
  have hB1H := Lib.hid hB1
  have hEH := Lib.hid hE
  have hE2H := Lib.hid hE2
  have hFH := Lib.hid hF2
  have hlt1 : Hid (w.heap.size < (w.alloc (.cells #[.slice none 0 0, .slice none 0 0, .bool false, .int .i64 0] 26)).heap.size) := by unfold Hid; simp
  obtain ⟨j0, hi0, hz0, hz1, hz2⟩ := info_parts infoErr
  have hJi := Lib.hid hi0; have hJz := Lib.hid hz0; have hJs := Lib.hid hz1
  have b2 : j0.bytes * o.length ≤ 281474976710656 := by rw [hz2]; omega
  clear hE hE2 hF2 hB1 h hcall hi0 hz0 hz1 hz2
  go_enter Try.func7, Try.ntmps7
  go_wp2_with fail
  refine hcallH.out.mono ?_
  rintro e w2 ⟨rfl, hB2⟩
  have hR2 := Lib.hid (hR1.out.below hB2 hlt1.out)
  have hBz := Lib.hid (hB1H.out.trans (hB2.mono (Nat.le_of_lt hlt1.out)))
  have hRlt : Hid (w.heap.size < w2.heap.size) := by have := hB2.size; have := hlt1.out; unfold Hid; omega
  have hbeg := Lib.hid (begin_any A cap l n s w2 ((hEH.out.below hBz.out).more (Nat.le_of_lt hRlt.out)) h15 hn hs hL hOnce)
  clear hcallH hB2 hR1 hB1H hlt1 hOnce
  go_wp2_with fail
  refine hbeg.out.mono ?_
  rintro e w3 ⟨N, P, nv, rfl, hN3, hB3⟩
  have hN3H := Lib.hid hN3
  have hB3H := Lib.hid hB3
  have hsz3 := hB3.size
  clear hbeg hN3 hB3
  go_wp2_with (first
    | (at_make; refine wpList_make_row _ rfl _ _ 24 rfl 27 j0 (.int .i64 0) Try.underlying24 hJi.out hJz.out hJs.out rfl .i64 .i64 _ _ o.length rfl rfl rfl rfl b2 (by unfold maxLen; omega) ?_; intro w4 hR4 hG4; have hR4H := Lib.hid hR4; have hG4H := Lib.hid hG4; clear hR4 hG4))
  have hrel0 : Hid (EplRel w2 w2.heap.size N P n s nv (nbs l n) o w3.heap.size 0 w4) := by
    refine ⟨hN3H.out.below ((Below.refl w3.heap.size w3).grown hG4H.out (Nat.le_refl _) (fun b hb => by cases hb)), ?_, hB3H.out.grown hG4H.out hsz3 (fun b hb => by cases hb)⟩
    have hR4 := hR4H.out
    rw [intRow_zero] at hR4
    exact CodRow.congr hR4 (fun j _ => by simp)
  clear hR4H hG4H hN3H hB3H
  have hmild := Lib.hid (fun k => mild_at hL h15 hn hs o k)
  generalize hBB : w2.heap.size = B at *
  have hBBH := Lib.hid hBB
  clear hBB
  generalize w3.heap.size = gc at *
  go_loopw [33] (fun t wr => ∃ k : Nat, k ≤ o.length ∧ t = .int .i64 k ∧ EplRel w2 B N P n s nv (nbs l n) o gc k wr) (fun t _ => o.length - (intOf t).toNat)
  case atStart => exact ⟨0, Nat.zero_le _, rfl, hrel0.out⟩
  case round =>
    clear hrel0
    obtain ⟨k, hk, rfl, hN, hC, hB⟩ := hrel
    have hBw := Lib.hid (hBz.out.trans (hB.mono (Nat.le_of_lt hRlt.out)))
    by_cases hlt : k < o.length
    · have hkI : (k : Int) < (o.length : Int) := by omega
      obtain ⟨b, off, rfl, hb, hcc⟩ := (hE2H.out.below hBw.out) (by omega)
      have c0 := hcc k hlt
      clear hcc
      have hgd : o.getD k 0 = o[k] := by simp [hlt]
      have hfit : I64 o[k] := hFH.out _ (List.getElem_mem hlt)
      have hstep : Hid (esAt (nbs l n) s o (k + 1) = (esAt (nbs l n) s o k).step (nbs l n) s o[k]) := by unfold Hid; rw [esAt, hgd]
      have hcode : Hid (codeE (nbs l n) s o k = (esAt (nbs l n) s o k).code o[k]) := by unfold Hid; rw [codeE, hgd]
      have hcall := receive_any wr B N P n s nv (nbs l n) _ hN (hmild.out k) o[k] hfit
      generalize o[k] = x at *
      have hcallH := Lib.hid hcall
      have hcr := codeE_range (esAt (nbs l n) s o k) x
      generalize hcd : (esAt (nbs l n) s o k).code x = cd at *
      have hCH := Lib.hid hC
      have hBH := Lib.hid hB
      have hcdH := Lib.hid hcd
      clear hN hC hB hcall hgd hcd
      go_wp2_with fail
      refine hcallH.out.mono ?_
      rintro e w5 ⟨rfl, hN5, hB5⟩
      rw [hcdH.out]
      have hC5 := hB5.err _ _ hCH.out
      have x1 := CodRow.at_ hC5 hlt
      have xf := Row.frozen hC5 k
      have hC7 := CodRow.put hC5 k cd
      have hB7 : Below B w2 (w5.setCell ⟨gc, k, none⟩ (.int .i64 cd)) := (hBH.out.trans hB5.low).setCell (p := ⟨gc, k, none⟩) hsz3 _
      have hrel7 : Hid (EplRel w2 B N P n s nv (nbs l n) o gc (k + 1) (w5.setCell ⟨gc, k, none⟩ (.int .i64 cd))) := ⟨by
        rw [hstep.out]
        obtain ⟨tv5, hA5⟩ := hN5
        exact ⟨tv5, hA5.err hC5 k _⟩, hC7.congr (fun j _ => by
        unfold updI
        by_cases e : j = k
        · subst e; rw [if_pos rfl, if_pos (by omega), hcode.out]
        · rw [if_neg e]
          show (if j < k then codeE (nbs l n) s o j else 0) = _
          by_cases h1 : j < k
          · rw [if_pos h1, if_pos (by omega)]
          · rw [if_neg h1, if_neg (by omega)]), hB7⟩
      clear hcallH hN5 hB5 hC5 hC7 hB7 hCH hBH hcode hstep hcdH
      go_wp2_with fail
      go_roundw
      case rel => exact ⟨k + 1, by omega, by go_num, hrel7.out⟩
      case measure => simp [intOf]; omega
    · have hkl : k = o.length := by omega
      subst hkl
      have hC0 : CodRow wr gc o.length (codeE (nbs l n) s o) := hC.congr (fun j hj => by rw [if_pos hj])
      have hdec : Hid (∀ S : ES, S = esAt (nbs l n) s o o.length → decide (S.took s = (nbs l n s).length) = decide ((esAt (nbs l n) s o o.length).took s = (nbs l n s).length) ∧ S.sent = (esAt (nbs l n) s o o.length).sent ∧ S.par = (esAt (nbs l n) s o o.length).par) := fun S e => by rw [e]; exact ⟨rfl, rfl, rfl⟩
      generalize hSS : esAt (nbs l n) s o o.length = S at hN
      have hSH := Lib.hid hSS
      clear hSS hC
      have hNd : Net wr.drew B N P n s nv (nbs l n) S := by obtain ⟨tv, hA⟩ := hN; exact ⟨tv, hA.blocks fun _ _ _ => rfl⟩
      have hpar := Lib.hid (parents_any wr.drew B N P n s nv (nbs l n) S hNd hn)
      have hcomp : Hid (∀ w5, Below wr.drew.heap.size wr.drew w5 → Calls Try.prog 21 #[.pointer (some ⟨N, 0, none⟩), .int .i64 (s : Int)] w5 fun e w' => e = .returned (.bool (decide (S.took s = (nbs l n s).length))) ∧ Below w5.heap.size w5 w') := fun w5 h5 => complete_any w5 B N P n s nv (nbs l n) S (hNd.below h5) s hs
      obtain ⟨tv, hA⟩ := hN
      have c3 := hA.cells.2.2.2
      have cN0 := hA.cells.1
      have hNlt := hA.top.lt
      have hRw := Lib.hid ((hR2.out.below hB hRlt.out).block (w' := wr.drew) rfl)
      have hRwlt : w.heap.size < wr.drew.heap.size := hRw.out.lt
      have hC0H := Lib.hid hC0
      have hC0lt := Row.lt hC0
      have hszB : B ≤ wr.heap.size := hA.sz
      have hTopH := Lib.hid (hA.top.block (w' := wr.drew) rfl)
      have hneN : N ≠ w.heap.size := by have := hA.lowN; have := hRlt.out; omega
      clear hA hNd hC0 hB
      generalize hdd : decide (S.took s = (nbs l n s).length) = dd at *
      generalize htt : S.sent = tt at *
      have hddH := Lib.hid hdd
      have httH := Lib.hid htt
      clear hdd htt
      go_wp2_with fail
      go_region_held3 (fun w' => w'.cell? ⟨N, 3, none⟩ = some (.int .i64 (tt : Int))) (first | go_keep) (first
        | (go_at_call 20; refine (hpar.out).mono ?_; rintro e w5 ⟨rfl, hI5, hB5⟩
           have hs5 : w5.cell? ⟨N, 3, none⟩ = some (.int .i64 (tt : Int)) := (hB5.cell (p := ⟨N, 3, none⟩) hNlt).trans c3)
        | (go_at_call 21; refine (hcomp.out _ hB5).mono ?_; rintro e w6 ⟨rfl, hB6⟩
           have hs6 : w6.cell? ⟨N, 3, none⟩ = some (.int .i64 (tt : Int)) := (hB6.cell (p := ⟨N, 3, none⟩) (Nat.lt_of_lt_of_le hNlt hB5.size)).trans hs5
           have hRy := (hRw.out.below hB5 hRwlt).below hB6 (Nat.lt_of_lt_of_le hRwlt hB5.size)
           have hTy := (hTopH.out.below hB5 hNlt).below hB6 (Nat.lt_of_lt_of_le hNlt hB5.size)
           have hs7 := ((((hTy.far (p := ⟨w.heap.size, 0, none⟩) hneN (.slice (some ⟨gc, 0, none⟩) o.length o.length)).far (p := ⟨w.heap.size, 1, none⟩) hneN (.slice (some ⟨wr.heap.size, 0, none⟩) n n)).far (p := ⟨w.heap.size, 2, none⟩) hneN (.bool dd)).far (p := ⟨w.heap.size, 3, none⟩) hneN (.int .i64 (tt : Int))).cell (i := 3) (by simp)
           simp only [List.getElem_cons_zero, List.getElem_cons_succ] at hs7
           have r0 := hRy.cell (i := 0) (by simp)
           have r1 := hRy.cell (i := 1) (by simp)
           have r2 := hRy.cell (i := 2) (by simp)
           have r3 := hRy.cell (i := 3) (by simp)
           have f0 := hRy.frozen 0
           have f1 := hRy.frozen 1
           have f2 := hRy.frozen 2
           have f3 := hRy.frozen 3
           simp only [List.getElem_cons_zero, List.getElem_cons_succ] at r0 r1 r2 r3))
      have hR7 := (((hRy.set 0 (.slice (some ⟨gc, 0, none⟩) o.length o.length)).set 1 (.slice (some ⟨wr.heap.size, 0, none⟩) n n)).set 2 (.bool dd)).set 3 (.int .i64 (tt : Int))
      have hBall : Below w.heap.size w w6 := (hBw.out.drew.trans (hB5.mono hBw.out.size)).trans (hB6.mono (Nat.le_trans hBw.out.size hB5.size))
      have hB7 : Below w.heap.size w ((((w6.setCell ⟨w.heap.size, 0, none⟩ (.slice (some ⟨gc, 0, none⟩) o.length o.length)).setCell ⟨w.heap.size, 1, none⟩ (.slice (some ⟨wr.heap.size, 0, none⟩) n n)).setCell ⟨w.heap.size, 2, none⟩ (.bool dd)).setCell ⟨w.heap.size, 3, none⟩ (.int .i64 (tt : Int))) :=
        (((hBall.setCell (p := ⟨w.heap.size, 0, none⟩) (Nat.le_refl _) _).setCell (p := ⟨w.heap.size, 1, none⟩) (Nat.le_refl _) _).setCell (p := ⟨w.heap.size, 2, none⟩) (Nat.le_refl _) _).setCell (p := ⟨w.heap.size, 3, none⟩) (Nat.le_refl _) _
      have hblk : ∀ g, g ≠ w.heap.size → ((((w6.setCell ⟨w.heap.size, 0, none⟩ (.slice (some ⟨gc, 0, none⟩) o.length o.length)).setCell ⟨w.heap.size, 1, none⟩ (.slice (some ⟨wr.heap.size, 0, none⟩) n n)).setCell ⟨w.heap.size, 2, none⟩ (.bool dd)).setCell ⟨w.heap.size, 3, none⟩ (.int .i64 (tt : Int))).heap[g]? = w6.heap[g]? := fun g hg => by
        rw [Below.heap_setCell _ _ _ g hg, Below.heap_setCell _ _ _ g hg, Below.heap_setCell _ _ _ g hg, Below.heap_setCell _ _ _ g hg]
      clear r0 r1 r2 r3 f0 f1 f2 f3 hRy hs7
      generalize (((w6.setCell ⟨w.heap.size, 0, none⟩ (.slice (some ⟨gc, 0, none⟩) o.length o.length)).setCell ⟨w.heap.size, 1, none⟩ (.slice (some ⟨wr.heap.size, 0, none⟩) n n)).setCell ⟨w.heap.size, 2, none⟩ (.bool dd)).setCell ⟨w.heap.size, 3, none⟩ (.int .i64 (tt : Int)) = w7 at *
      have hI6 : IntRow w6 wr.heap.size n S.par := hI5.below hB6 (Row.lt hI5)
      have hI7 : IntRow w7 wr.heap.size n S.par := Row.block hI6 (hblk _ (by have : w.heap.size < wr.heap.size := hRwlt; omega))
      have hC6 : CodRow w6 gc o.length (codeE (nbs l n) s o) := Row.below (Row.below (Row.block (w' := wr.drew) hC0H.out rfl) hB5 hC0lt) hB6 (Nat.lt_of_lt_of_le hC0lt hB5.size)
      have hC7 : CodRow w7 gc o.length (codeE (nbs l n) s o) := Row.block hC6 (hblk _ (by have := hRlt.out; omega))
      have hfin : Hid (EplRes w n s l o (.returned (.tuple #[echVal gc o.length wr.heap.size n dd tt, .int .i64 0])) w7) := by
        have e := hdec.out S hSH.out.symm
        refine ⟨gc, wr.heap.size, ?_, hC7, ?_, hB7⟩
        · rw [← e.1, ← e.2.1, hddH.out, httH.out]
        · rw [← e.2.2]; exact hI7
      have q0 := hR7.cell (i := 0) (by simp)
      have q1 := hR7.cell (i := 1) (by simp)
      have q2 := hR7.cell (i := 2) (by simp)
      have q3 := hR7.cell (i := 3) (by simp)
      simp at q0 q1 q2 q3
      clear hR7 hB7 hBall hI6 hI7 hC6 hC7 hblk hdec hSH
      go_wp2_with fail
      (try simp only [Exit.inBlock, Exit.then])
      refine bodyPost_ret (v := .tuple #[echVal gc o.length wr.heap.size n dd tt, .int .i64 0]) ?_ rfl hfin.out
      rw [results_cell_tmp rfl]
      unfold echVal
      go_simp
#print axioms play_no
#print axioms play_ok
end Go.Proofs.Ytjmkmfeibempjaa
