/-
  The contract of causal.Play.
-/
import Derived.Test.YtkchccaeopdemaaExc
import Derived.Test.YtkchccaeopdemaaTld
import Derived.Test.YtkchccaeopdemaaCod
namespace Go.Proofs.Ytkchccaeopdemaa
open Go.RowKit Go.Maps

theorem infoPrc : (Try.prog.info? 56).map (fun i => (i.zero, i.size, i.bytes)) = some (some (.agg #[.slice none 0 0, .slice none 0 0]), 2, 48) := by kernel_rfl
theorem made_at {n j : Nat} (hj : j < n * 2) : (madeCells #[.slice none 0 0, .slice none 0 0] (n * 2)).toList[j]? = some (Value.slice none 0 0) := by
  unfold madeCells
  rw [Array.toList_map, List.getElem?_map, Array.toList_range, List.getElem?_range hj]
  simp only [Option.map_some]
  show some (#[Value.slice none 0 0, .slice none 0 0][j % 2]!) = _
  have : j % 2 = 0 ∨ j % 2 = 1 := by omega
  rcases this with h | h <;> rw [h] <;> rfl
theorem wpList_make_prc (w : World) {ops : Array Oper} {rest : List Oper} {o : Oper} {a : Act} {Q : Exit → Act → World → Prop}
    (hg : o.guard = none) (l c : Operand) (hop : o.op = Op.makeSlice 47 l c) (n : Nat) (hn : n ≤ 6) (hl : a.eval l = .int .i64 (n : Int)) (hc : a.eval c = .int .i64 (n : Int))
    (hK : ∀ w', LV 56 3 w' w.heap.size w.heap.size (2 * n) (fun _ => .slice none 0 0) (fun _ => []) → w.grownBy w' none → wpList Try.prog ops Q rest (a.put o.dst (.slice (some ⟨w.heap.size, 0, none⟩) n n)) w') :
    wpList Try.prog ops Q (o :: rest) a w := by
  obtain ⟨i0, hi0, hz0, hz1, hz2⟩ := info_parts infoPrc
  refine wpList_make_full w hg l c _ hop w.heap.size 56 i0 _ 2 Try.underlying47 hi0 hz0 hz1 .i64 .i64 _ _ n hl hc rfl rfl (by rw [hz2]; omega) (by unfold maxLen; omega) (Nat.le_refl _) ?_
  intro w' hown hgrow
  rcases hown.2 with ⟨h', _⟩ | ⟨g', cap', cur, h', _, hb, _, _, hcs, htake⟩
  · simp at h'
  · simp only [Value.slice.injEq, Option.some.injEq, Addr.mk.injEq, and_true, true_and] at h'
    obtain ⟨rfl, rfl⟩ := h'
    rw [List.take_of_length_le (by rw [Array.length_toList, hcs]; exact Nat.le_refl _)] at htake
    refine hK w' ⟨⟨cur.toList, by unfold Row; rw [hb], by rw [Array.length_toList, hcs, Nat.mul_comm], fun i hi => ?_⟩, fun i _ => ⟨rfl, .inl ⟨rfl, rfl⟩⟩, fun i j _ _ _ => .inl rfl, Nat.le_refl _, by decide⟩ hgrow
    rw [htake]
    have := made_at (n := n) (j := i) (by omega)
    simpa [Value.cells] using this

def hrdVal (gc len T n : Nat) : Value := .agg #[.slice (some ⟨gc, 0, none⟩) len len, .slice (some ⟨T, 0, none⟩) n n]
def CplRes (w : World) (n : Nat) (l : List Mv) (e : Ending) (w' : World) : Prop :=
  ∃ gc T, e = .returned (.tuple #[hrdVal gc l.length T n, .int .i64 0]) ∧ CodRow w' gc l.length (codeC n l) ∧ Tls w' w'.heap.size (some ⟨T, 0, none⟩) (toldL n (cAt n l l.length)) ∧ Below w.heap.size w w'

set_option maxHeartbeats 800000 in
theorem play_no (A : Option Addr) (cap : Nat) (l : List Mv) (n : Int) (w : World) (hl : l.length ≤ maxLen) (h : ¬ Plays n l.length) :
    Calls Try.prog 7 #[.int .i64 n, .slice A l.length cap] w fun e w' => e = .returned (.tuple #[.agg #[.slice none 0 0, .slice none 0 0], .int .i64 1]) ∧ Below w.heap.size w w' := by
  have hB1 := (Below.refl w.heap.size w).alloc (Nat.le_refl _) (.cells #[.slice none 0 0, .slice none 0 0] 26)
  have hh : n < 1 ∨ 6 < n ∨ 60 < (l.length : Int) := by
    unfold Plays at h
    omega
  clear h
  have hl2 : (l.length : Int) ≤ 9223372036854775807 := by unfold maxLen at hl; omega
  by_cases h1 : n < 1
  · go_enter Try.func7, Try.ntmps7
    go_wp2_with fail
    (try simp only [Exit.inBlock, Exit.then])
    refine bodyPost_ret (v := .tuple #[.agg #[.slice none 0 0, .slice none 0 0], .int .i64 1]) ?_ rfl ⟨rfl, hB1⟩
    rw [results_cell_tmp rfl]
    go_simp
  · by_cases h2 : 6 < n
    · go_enter Try.func7, Try.ntmps7
      go_wp2_with fail
      (try simp only [Exit.inBlock, Exit.then])
      refine bodyPost_ret (v := .tuple #[.agg #[.slice none 0 0, .slice none 0 0], .int .i64 1]) ?_ rfl ⟨rfl, hB1⟩
      rw [results_cell_tmp rfl]
      go_simp
    · have h3 : 60 < (l.length : Int) := by omega
      go_enter Try.func7, Try.ntmps7
      go_wp2_with fail
      (try simp only [Exit.inBlock, Exit.then])
      refine bodyPost_ret (v := .tuple #[.agg #[.slice none 0 0, .slice none 0 0], .int .i64 1]) ?_ rfl ⟨rfl, hB1⟩
      rw [results_cell_tmp rfl]
      go_simp

def CplRel (w1 : World) (B gb n P : Nat) (l : List Mv) (gc k : Nat) (wr : World) : Prop :=
  Grp wr B gb n P (cAt n l k) ∧ CodRow wr gc l.length (fun i => if i < k then codeC n l i else 0) ∧ Below B w1 wr
theorem Grp.err {w : World} {B gb n P : Nat} {S : CS} (h : Grp w B gb n P S) {g : Nat} {xs : List Value} (hr : Row w g 27 xs) (k : Nat) (v : Value) : Grp (w.setCell ⟨g, k, none⟩ v) B gb n P S := by
  obtain ⟨vs, vm, h⟩ := h
  obtain ⟨ys, hP, _⟩ := h.lv.top
  exact ⟨vs, vm, h.grp.far (h.grp.ne hr (by decide)) v, h.lv.far (hP.ne hr (by decide)) (fun i hi => owns_ne_row (h.lv.row i hi) hr (by decide)) v, owns_far h.msg (owns_ne_row h.msg hr (by decide)) v, h.low⟩
theorem cAt_ls (n : Nat) (l : List Mv) (k j : Nat) : ((cAt n l k).ls j).length ≤ k := by
  have h := cAt_len n l k (j / 2)
  unfold CS.td CS.wt at h
  have : j = 2 * (j / 2) ∨ j = 2 * (j / 2) + 1 := by omega
  rcases this with e | e
  · rw [e]; omega
  · rw [e]; omega

set_option maxHeartbeats 8000000 in
set_option maxRecDepth 100000 in
theorem play_ok (A : Option Addr) (cap : Nat) (l : List Mv) (n : Nat) (w : World) (hE : Mvs w w.heap.size A l) (hF : MFits l) (h : Plays (n : Int) l.length) :
    Calls Try.prog 7 #[.int .i64 (n : Int), .slice A l.length cap] w (CplRes w n l) := by
  obtain ⟨h1, h2, h3⟩ := h
  have hn : n ≤ 6 := by omega
  have hl60 : (l.length : Int) ≤ 60 := by omega
  have hB1 := (Below.refl w.heap.size w).alloc (Nat.le_refl _) (.cells #[.slice none 0 0, .slice none 0 0] 26)
  have hR1 := Row.made w 26 [.slice none 0 0, .slice none 0 0]
  have hE1 := hE.below hB1
  have hsz1 : (w.alloc (.cells #[.slice none 0 0, .slice none 0 0] 26)).heap.size = w.heap.size + 1 := by simp
  obtain ⟨j0, hi0, hz0, hz1, hz2⟩ := info_parts infoErr
  have hJi := Lib.hid hi0; have hJz := Lib.hid hz0; have hJs := Lib.hid hz1
  have b2 : j0.bytes * l.length ≤ 281474976710656 := by rw [hz2]; omega
  have hFH := Lib.hid hF
  have hEH := Lib.hid hE1
  have hB1H := Lib.hid hB1
  have hR1H := Lib.hid hR1
  clear hi0 hz0 hz1 hz2 hF hE hE1 hB1 hR1
  go_enter Try.func7, Try.ntmps7
  go_wp2_with (first
    | (at_make; refine wpList_make_prc _ rfl _ _ rfl n hn rfl rfl ?_; intro w2 hL2 hG2; have hL2H := Lib.hid hL2; have hG2H := Lib.hid hG2; clear hL2 hG2)
    | (at_make; refine wpList_make_row _ rfl _ _ 23 rfl 27 j0 (.int .i64 0) Try.underlying23 hJi.out hJz.out hJs.out rfl .i64 .i64 _ _ l.length rfl rfl rfl rfl b2 (by unfold maxLen; omega) ?_; intro w3 hR3 hG3; have hR3H := Lib.hid hR3; have hG3H := Lib.hid hG3; clear hR3 hG3))
  have hrel3 : Hid (CplRel (w.alloc (.cells #[.slice none 0 0, .slice none 0 0] 26)) (w.heap.size + 1) w2.heap.size n (w.heap.size + 1) l (w2.heap.size + 1) 0 w3) := by
    have hL2 := hL2H.out
    rw [hsz1] at hL2
    have hG2 := hG2H.out
    have hsz2 : w.heap.size + 1 ≤ w2.heap.size := by have := hG2.size; omega
    have hg1 : (w2.alloc (.cells #[.slice (some ⟨w.heap.size + 1, 0, none⟩) n n, .slice none 0 0] 50)).heap.size = w2.heap.size + 1 := by simp
    have hR3 := hR3H.out
    rw [hg1] at hR3
    refine ⟨⟨fun _ => .slice none 0 0, .slice none 0 0, ?_, ?_, ?_, hsz2⟩, ?_, ?_⟩
    · exact (Row.made w2 50 [.slice (some ⟨w.heap.size + 1, 0, none⟩) n n, .slice none 0 0]).grown hG3H.out (by simp)
    · exact ((hL2.alloc _).grown hG3H.out)
    · exact ⟨rfl, .inl ⟨rfl, rfl⟩⟩
    · rw [intRow_zero] at hR3
      exact CodRow.congr hR3 (fun j _ => by simp)
    · have h5 : Below (w.heap.size + 1) (w.alloc (.cells #[.slice none 0 0, .slice none 0 0] 26)) w2 := (Below.refl _ _).grown hG2 (by omega) (by simp)
      exact (h5.alloc hsz2 _).grown hG3H.out (by simp; omega) (by simp)
  have hszw2 : w.heap.size + 1 ≤ w2.heap.size := by have := hG2H.out.size; omega
  clear hR3H hG3H hL2H hG2H
  generalize hw1 : w.alloc (.cells #[.slice none 0 0, .slice none 0 0] 26) = w1 at *
  clear hw1
  generalize hBB : w.heap.size + 1 = B at *
  generalize hgb : w2.heap.size = gb at *
  clear hgb
  generalize hgc : gb + 1 = gc at *
  have hBBH := Lib.hid hBB
  have hgcH := Lib.hid hgc
  have hsz1H := Lib.hid hsz1
  clear hBB hgc hsz1
  go_loopw [31] (fun t wr => ∃ k : Nat, k ≤ l.length ∧ t = .int .i64 k ∧ CplRel w1 B gb n B l gc k wr) (fun t _ => l.length - (intOf t).toNat)
  case atStart => exact ⟨0, Nat.zero_le _, rfl, hrel3.out⟩
  case round =>
    clear hrel3
    obtain ⟨k, hk, rfl, hS, hC, hB⟩ := hrel
    have hszr : B ≤ wr.heap.size := by have := hB.size; rw [hsz1H.out] at this; exact this
    by_cases hlt : k < l.length
    · have hkI : (k : Int) < (l.length : Int) := by omega
      obtain ⟨b, off, rfl, hb, hc⟩ := (hEH.out.below (hB.mono (by rw [← hBBH.out]; omega))) (by omega)
      obtain ⟨c0, c1, c2, c3⟩ := hc k hlt
      clear hc
      have hmv := Lib.hid (mv_get l hlt)
      rw [mv_get l hlt] at c0 c1 c2 c3
      have hfit := Lib.hid (hFH.out.at_ hlt)
      have hstep : Hid (cAt n l (k + 1) = (stepC n (cAt n l k) (mv l k)).1) := rfl
      have hcode : Hid (codeC n l k = (stepC n (cAt n l k) (mv l k)).2) := rfl
      have hinv := Lib.hid (CInv.at_ n l k).base
      have hlen : Hid (∀ j, ((cAt n l k).ls j).length ≤ 300) := fun j => Nat.le_trans (cAt_ls n l k j) (by omega)
      have hmm : (cAt n l k).m ≤ 1000 := Nat.le_trans (cAt_len n l k 0).2 (by omega)
      have hcl := codeC_le n (cAt n l k) (mv l k)
      generalize mv l k = m at *
      have hSa := hS.alloc (.cells #[.int .i64 m.k, .int .i64 m.f, .int .i64 m.t, .int .i64 m.v] 39)
      have hCa := Row.alloc hC (.cells #[.int .i64 m.k, .int .i64 m.f, .int .i64 m.t, .int .i64 m.v] 39)
      have hBa := hB.alloc hszr (.cells #[.int .i64 m.k, .int .i64 m.f, .int .i64 m.t, .int .i64 m.v] 39)
      clear hS hC hB hmv
      have hcall := Lib.hid (execute_any _ B gb n B (cAt n l k) hSa m hfit.out hinv.out hn hlen.out hmm)
      unfold mvVal at hcall
      generalize (stepC n (cAt n l k) m).1 = S2 at *
      generalize (stepC n (cAt n l k) m).2 = cd at *
      obtain ⟨mk, mf, mt, mv'⟩ := m
      simp only at *
      clear hSa
      go_wp2_with fail
      refine hcall.out.mono ?_
      rintro e w5 ⟨rfl, hS5, hB5⟩
      have hC5 := hB5.kept _ _ _ (by decide) (by decide) (by decide) (by decide) hCa
      have hB6 := hBa.trans hB5.low
      clear hCa hBa hB5 hcall
      have x1 := CodRow.at_ hC5 hlt
      have xf := Row.frozen hC5 k
      have hS7 := hS5.err hC5 k (.int .i64 cd)
      have hC7 := CodRow.put hC5 k cd
      have hgcB : B ≤ gc := by rw [← hgcH.out]; omega
      have hB7 : Below B w1 (w5.setCell ⟨gc, k, none⟩ (.int .i64 cd)) := hB6.setCell (p := ⟨gc, k, none⟩) hgcB _
      have hrel7 : Hid (CplRel w1 B gb n B l gc (k + 1) (w5.setCell ⟨gc, k, none⟩ (.int .i64 cd))) := ⟨by rw [hstep.out]; exact hS7, hC7.congr (fun j _ => by
        unfold updI
        by_cases e : j = k
        · subst e; rw [if_pos rfl, if_pos (by omega), hcode.out]
        · rw [if_neg e]
          show (if j < k then codeC n l j else 0) = _
          by_cases h1 : j < k
          · rw [if_pos h1, if_pos (by omega)]
          · rw [if_neg h1, if_neg (by omega)]), hB7⟩
      clear hS7 hC7 hB7 hS5 hC5 hB6
      go_wp2_with fail
      go_roundw
      case rel => exact ⟨k + 1, by omega, by go_num, hrel7.out⟩
      case measure => simp [intOf]; omega
    · have hkl : k = l.length := by omega
      rw [hkl] at hS hC hlt hk
      subst hkl
      have hC0 : CodRow wr gc l.length (codeC n l) := hC.congr (fun j hj => by rw [if_pos hj])
      clear hC
      obtain ⟨vs, vm, hA⟩ := hS
      have htol := Lib.hid (told_any wr B gb n B vs vm _ hA hn)
      have hAH := Lib.hid hA
      clear hA
      go_wp2_with fail
      refine htol.out.mono ?_
      rintro e w6 ⟨rfl, hT6, hB6⟩
      have hA6 := hAH.out.below hB6
      have hC6 : CodRow w6 gc l.length (codeC n l) := Row.below hC0 hB6 (Row.lt hC0)
      have hBz := hB.trans (hB6.mono hszr)
      have hwB : w.heap.size < B := by rw [← hBBH.out]; omega
      have hR6 := hR1H.out.below hBz hwB
      clear htol hAH hB6 hC0 hB
      generalize wr.heap.size = T at *
      have r0 := hR6.cell (i := 0) (by simp)
      have r1 := hR6.cell (i := 1) (by simp)
      have f0 := hR6.frozen 0
      have f1 := hR6.frozen 1
      simp only [List.getElem_cons_zero, List.getElem_cons_succ] at r0 r1
      have hCH := Lib.hid hC6
      have hTH := Lib.hid hT6
      have hAH := Lib.hid hA6
      have hRH := Lib.hid hR6
      clear hC6 hT6 hA6 hR6
      go_wp2_with fail
      have hR7 := (hRH.out.set 0 (.slice (some ⟨gc, 0, none⟩) l.length l.length)).set 1 (.slice (some ⟨T, 0, none⟩) n n)
      have hB7 : Below w.heap.size w ((w6.setCell ⟨w.heap.size, 0, none⟩ (.slice (some ⟨gc, 0, none⟩) l.length l.length)).setCell ⟨w.heap.size, 1, none⟩ (.slice (some ⟨T, 0, none⟩) n n)) :=
        ((hB1H.out.trans (hBz.mono (by omega))).setCell (p := ⟨w.heap.size, 0, none⟩) (Nat.le_refl _) _).setCell (p := ⟨w.heap.size, 1, none⟩) (Nat.le_refl _) _
      have hblk : ∀ g, B ≤ g → ((w6.setCell ⟨w.heap.size, 0, none⟩ (.slice (some ⟨gc, 0, none⟩) l.length l.length)).setCell ⟨w.heap.size, 1, none⟩ (.slice (some ⟨T, 0, none⟩) n n)).heap[g]? = w6.heap[g]? := fun g hg => by
        have hne : g ≠ w.heap.size := by omega
        rw [Below.heap_setCell _ _ _ g hne, Below.heap_setCell _ _ _ g hne]
      generalize (w6.setCell ⟨w.heap.size, 0, none⟩ (.slice (some ⟨gc, 0, none⟩) l.length l.length)).setCell ⟨w.heap.size, 1, none⟩ (.slice (some ⟨T, 0, none⟩) n n) = w7 at *
      have hA7 := hAH.out.blocks (w' := w7) fun g hg _ => hblk g hg
      have hT7 : Row w7 T 37 (tldRow vs n n) := hTH.out.block (hblk T hszr)
      have hC7 : CodRow w7 gc l.length (codeC n l) := Row.block hCH.out (hblk gc (by rw [← hgcH.out]; omega))
      have hL7 := Tls.of hA7 hT7
      have q0 := hR7.cell (i := 0) (by simp)
      have q1 := hR7.cell (i := 1) (by simp)
      simp at q0 q1
      (try simp only [Exit.inBlock, Exit.then])
      refine bodyPost_ret (v := .tuple #[hrdVal gc l.length T n, .int .i64 0]) ?_ rfl ⟨gc, T, rfl, hC7, hL7, hB7⟩
      clear hA7 hT7 hC7 hL7 hR7 hB7 hBz hblk
      rw [results_cell_tmp rfl]
      unfold hrdVal
      go_simp

#print axioms play_no
#print axioms play_ok
end Go.Proofs.Ytkchccaeopdemaa
