/-
  The contract of slices.Delete at the messages of package echo, one taken out.
-/
import Derived.Test.YtjmkmfeibempjaaNet
import Derived.Test.YtjmkmfeibempjaaSce
import Derived.Deep.RegionLaw
import Derived.Lib.SliceRun
import Derived.KernelRfl
namespace Go.Proofs.Ytjmkmfeibempjaa
open Go.RowKit Go.Maps
set_option linter.unusedVariables false

theorem run_clear_m (w : World) (ty : TypeId) (b o c : Nat) (hc : ∀ j, j < 2 → (w.cell? ⟨b, o + j, none⟩).isSome = true) (hf : ∀ j, j < 2 → w.frozen? ⟨b, o + j, none⟩ = false) :
    (Builtin.clear_ #[49] ty #[.slice (some ⟨b, o, none⟩) 1 c]).run Try.prog w = .ok (.tuple #[]) (w.setCells b o [.int .i64 0, .int .i64 0]) := by
  have hz : ∀ w, (zeroValue 65).run Try.prog w = .ok (.agg #[.int .i64 0, .int .i64 0]) w := Try.zeroValue65
  have hst := run_storeCells_cells (P := Try.prog) b o [.int .i64 0, .int .i64 0] 0 w (by simpa using hc) (by simpa using hf) (by intro v hv'; simp at hv'; rcases hv' with rfl | rfl <;> rfl)
  simp only [Nat.add_zero] at hst
  have hzc : (Builtin.zeroCells (Value.agg #[.int .i64 0, .int .i64 0]).cells 1).toList = [.int .i64 0, .int .i64 0] := by kernel_rfl
  simp [Builtin.clear_, run_underlying Try.underlying49, hz, hzc, hst]

set_option maxHeartbeats 4000000 in
set_option maxRecDepth 100000 in
theorem delM_any (w : World) (B : Nat) (v : Value) (l : List (Nat × Nat)) (k : Nat) (h : OwnM w B v l) (hk : k < l.length) :
    Calls Try.prog 30 #[v, .int .i64 (k : Int), .int .i64 ((k : Int) + 1)] w fun e w' => ∃ v', e = .returned v' ∧ OwnM w' B v' (l.take k ++ l.drop (k + 1)) ∧ w.grownBy w' v.ownBlock ∧ v'.ownBlock = v.ownBlock := by
  rcases h.2 with ⟨hv, h0⟩ | ⟨g, cap, cur, hv, hBg, hg, hn, hm, hs, ht⟩
  · omega
  · subst hv
    obtain ⟨i0, hi0, hz0, hz1, hz2⟩ := info_parts infoMsg
    have hL : cur.toList.length = cap * 2 := by simpa using hs
    have hfz : ∀ (w1 : World) (xs : Array Value), w1.heap[g]? = some (.cells xs 65 (0, 0)) → ∀ i, w1.frozen? ⟨g, i, none⟩ = false := fun w1 xs hx i => frozen_of_row w1 g i xs 65 hx
    have hcell : ∀ (w1 : World) (xs : Array Value), w1.heap[g]? = some (.cells xs 65 (0, 0)) → ∀ i, i < xs.size → (w1.cell? ⟨g, i, none⟩).isSome = true := fun w1 xs hx i hi => by
      rw [cell_of_row w1 g i xs 65 (0, 0) hx, Array.getElem?_eq_getElem hi]; rfl
    obtain ⟨news, hnews⟩ : ∃ news, news = (flatM l).drop ((k + 1) * 2) := ⟨_, rfl⟩
    have hlen : news.length = (l.length - (k + 1)) * 2 := by rw [hnews, List.length_drop, flatM_len]; omega
    obtain ⟨A, hA, hsrc⟩ : ∃ A : Addr, (if cap = k + 1 then some (⟨g, 0, none⟩ : Addr) else some ⟨g, (k + 1) * 2, none⟩) = some A ∧ Hid (∀ t u, news[t]? = some u → w.drew.cell? (A.add t) = some u) := by
      by_cases e : cap = k + 1
      · refine ⟨⟨g, 0, none⟩, by simp [e], fun t u hu => ?_⟩
        have h0 : news.length = 0 := by rw [hlen]; omega
        rw [List.length_eq_zero_iff.1 h0] at hu
        simp at hu
      · refine ⟨⟨g, (k + 1) * 2, none⟩, by simp [e], fun t u hu => ?_⟩
        have htl : t < (l.length - (k + 1)) * 2 := by
          have := (List.getElem?_eq_some_iff.1 hu).1
          rwa [hlen] at this
        rw [hnews, List.getElem?_drop, ← ht, List.getElem?_take_of_lt (by omega), Array.getElem?_toList] at hu
        rw [Addr.add_lit]
        show w.cell? _ = _
        rw [cell_of_row w g _ cur 65 (0, 0) hg]
        exact hu
    have s1 : Hid (news.length = (l.length - (k + 1)) * 2) := hlen
    have s2 : Hid (∀ u ∈ news, u.oneCell' = true) := by
      intro u hu
      rw [hnews] at hu
      exact flatM_one' l u (List.mem_of_mem_drop hu)
    have s3 : Hid (∀ t, t < news.length → (w.drew.cell? ⟨g, 0 + k * 2 + t, none⟩).isSome = true ∧ w.drew.frozen? ⟨g, 0 + k * 2 + t, none⟩ = false) := by
      intro t htl
      exact ⟨hcell w.drew cur hg _ (by omega), hfz w.drew cur hg _⟩
    obtain ⟨W1, hW1⟩ : ∃ W1, W1 = w.drew.setCells g (0 + k * 2) news := ⟨_, rfl⟩
    have hblk1 : W1.heap[g]? = some (.cells (cur.toList.take (0 + k * 2) ++ news ++ cur.toList.drop (0 + k * 2 + news.length)).toArray 65 (0, 0)) := by
      rw [hW1]; exact sc_setCells_block g 65 news (0 + k * 2) w.drew cur hg (by omega)
    have hl1 := sc_splice_len cur.toList news (0 + k * 2) (by omega)
    have ht1 := sc_splice_take cur.toList news (0 + k * 2) (by omega)
    generalize cur.toList.take (0 + k * 2) ++ news ++ cur.toList.drop (0 + k * 2 + news.length) = L1 at *
    have hcl : ∀ ty, (Builtin.clear_ #[49] ty #[.slice (some ⟨g, (k + (l.length - (k + 1))) * 2, none⟩) (l.length - (k + (l.length - (k + 1)))) (cap - (k + (l.length - (k + 1))))]).run Try.prog W1 = .ok (.tuple #[]) (W1.setCells g ((k + (l.length - (k + 1))) * 2) [.int .i64 0, .int .i64 0]) := fun ty => by
      rw [show l.length - (k + (l.length - (k + 1))) = 1 by omega]
      exact run_clear_m W1 ty g _ _ (fun j hj => hcell W1 _ hblk1 _ (by simp only [List.size_toArray]; omega)) (fun j _ => hfz W1 _ hblk1 _)
    have hblk2 := sc_setCells_block g 65 [.int .i64 0, .int .i64 0] ((k + (l.length - (k + 1))) * 2) W1 L1.toArray hblk1 (by simp only [List.size_toArray, List.length_cons, List.length_nil]; omega)
    simp only [] at hblk2
    have hl2 := sc_splice_len L1 [.int .i64 0, .int .i64 0] ((k + (l.length - (k + 1))) * 2) (by simp only [List.length_cons, List.length_nil]; omega)
    have ht2 := sc_splice_ahead L1 [.int .i64 0, .int .i64 0] ((k + (l.length - (k + 1))) * 2) ((k + (l.length - (k + 1))) * 2) (by simp only [List.length_cons, List.length_nil]; omega) (Nat.le_refl _)
    have hfin : Hid (OwnM (W1.setCells g ((k + (l.length - (k + 1))) * 2) [.int .i64 0, .int .i64 0]) B (.slice (some ⟨g, 0, none⟩) (k + (l.length - (k + 1))) cap) (l.take k ++ l.drop (k + 1)) ∧ w.grownBy (W1.setCells g ((k + (l.length - (k + 1))) * 2) [.int .i64 0, .int .i64 0]) (some g)) := by
      have hrl : (l.take k ++ l.drop (k + 1)).length = k + (l.length - (k + 1)) := by simp; omega
      refine ⟨⟨by rw [flatM_len, hrl], .inr ⟨g, cap, _, by rw [hrl], hBg, hblk2, by omega, hm, by simp only [List.size_toArray]; omega, ?_⟩⟩, ?_⟩
      · rw [hrl, ht2, flatM_append, flatM_take, flatM_drop, ← hnews]
        have e1 : (flatM l).take (k * 2) = cur.toList.take (k * 2) := by rw [← ht, List.take_take, Nat.min_eq_left (by omega)]
        rw [e1]
        rw [Nat.zero_add] at ht1
        rw [← ht1, show k * 2 + news.length = (k + (l.length - (k + 1))) * 2 by omega]
      · rw [hW1]
        exact sc_grown_trans (sc_grown_trans (sc_grown_drew w _) (sc_setCells_grown g _ _ _)) (sc_setCells_grown g _ _ _)
    have hW : Hid (W1 = w.drew.setCells g (0 + k * 2) news) := hW1
    have hwr : IntKind.i64.wrap ((k : Int) + 1) = (k : Int) + 1 := by rw [IntKind.wrap_i64]; unfold maxLen at hm; omega
    have hp0 : (0 : Int) ≤ (k : Int) + 1 := by omega
    have hp1 : (k : Int) + 1 ≤ (l.length : Int) := by omega
    have hp2 : ((k : Int) + 1).toNat = k + 1 := by omega
    have hp3 : (k : Int) ≤ (k : Int) + 1 := by omega
    have hp4 : ¬ ((k : Int) = (k : Int) + 1) := by omega
    have hkc : k ≤ cap := by omega
    have hkl : k ≤ l.length := by omega
    have hk1c : k + 1 ≤ cap := by omega
    have hle2 : k + (l.length - (k + 1)) ≤ l.length := by omega
    have hle3 : k + (l.length - (k + 1)) ≤ cap := by omega
    have hm' : cap ≤ 9223372036854775807 := by unfold maxLen at hm; omega
    clear hW1 hblk1 hblk2 hl1 hl2 ht1 ht2 hnews hlen ht hs hL hfz hcell h
    generalize l.length = n at *
    go_enter Try.func30, Try.ntmps30
    go_wp2_with fail
    go_region_law (refine step_append_room rfl (.tmp 22) (.tmp 25) 49 rfl 65 i0 2 Try.underlying49 hi0 hz1 g 0 k cap (by simp [Act.eval, Act.put]) A (n - (k + 1)) (cap - (k + 1)) news (by simp [Act.eval, Act.put]) s1.out hsrc.out s2.out (by omega) s3.out ?_; rw [← hW.out])
    go_wp2_with fail
    go_ret
    exact ⟨_, rfl, hfin.out.1, hfin.out.2, rfl⟩
#print axioms delM_any
end Go.Proofs.Ytjmkmfeibempjaa
