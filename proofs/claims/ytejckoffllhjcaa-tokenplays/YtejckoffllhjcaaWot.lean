/-
  The contract of beaconryref.Without.
-/
import Derived.Test.YtejckoffllhjcaaLtr
import Derived.Deep.RegionLaw
import Derived.BigRegion
namespace Go.Proofs.Ytejckoffllhjcaa
open Go.RowKit Go.Maps

/-- 'append(v, ys...)' at a step of a region that draws, letters. -/
theorem step_catL {w : World} {ops : Array Oper} {o : Oper} {a : Act} {K : Act → World → Prop} {Q : Exit → Act → World → Prop} {E : Prop} (hgd : o.guard = none) (s x : Operand)
    (ho : o.op = .call { callee := .builtin .append, args := #[s, x], argTypes := #[50, 50] })
    (j0 : TypeInfo) (hJi : Try.prog.info? 52 = some j0) (hJz : j0.zero = some (.agg #[.int .i64 0, .int .i64 0, .int .i64 0])) (hJs : j0.size = 3) (hJb : j0.bytes = 24)
    (B : Nat) (v : Value) (X Y : List Lt) (hs : a.eval s = v) (hown : OwnL w B v X) (ad : Addr) (m c : Nat) (hx : a.eval x = .slice (some ad) m c) (hm : Y.length = m) (hnews : ∀ j u, (flatL Y)[j]? = some u → w.cell? (ad.add j) = some u)
    (hlen : X.length + m ≤ 100000) (hbase : B ≤ w.heap.size)
    (h : ∀ v' w', OwnL w' B v' (X ++ Y) → w.grownBy w' v.ownBlock → K (a.put o.dst v') w') :
    if Region.wanted o (yielded ops a.tmps) = true then Oper.wp Try.prog o a w K Q else E := by
  have hw : Region.wanted o (yielded ops a.tmps) = true := by simp [Region.wanted, hgd]
  rw [if_pos hw]
  obtain ⟨v', w', hr, h2, h3, _, _⟩ := run_append_own_at (P := Try.prog) w B 50 o.type 52 j0 _ 3 24 Try.underlying50 hJi hJz hJs hJb rfl (by decide) v X.length (flatL X) hown ad m c (flatL Y) (by rw [flatL_len, hm]) hnews (flatL_one' Y) (by unfold maxLen; omega) (by omega) hbase
  unfold Oper.wp execOp
  simp only [ho, resolve, invoke, builtin, Sem.run_bind, Sem.run_pure, Result.andThen_ok, List.map_toArray, List.map_cons, List.map_nil, hs, hx, hr]
  refine h v' w' ?_ h3
  unfold OwnL
  rw [List.length_append, flatL_append, hm]
  exact h2

def WotRes (w : World) (L : List Lt) (e : Ending) (w' : World) : Prop := ∃ v, e = .returned v ∧ OwnL w' w.heap.size v L ∧ Below w.heap.size w w'

set_option maxHeartbeats 4000000 in
set_option maxRecDepth 100000 in
theorem without_any (g cap : Nat) (L : List Lt) (k : Nat) (w : World) (hA : LtsAt w (some ⟨g, 0, none⟩) L) (hl : L.length ≤ 10000) (hk : k < L.length) (hc1 : L.length ≤ cap) (hc2 : cap ≤ maxLen) :
    Calls Try.prog 27 #[.slice (some ⟨g, 0, none⟩) L.length cap, .int .i64 (k : Int)] w (WotRes w (L.take k ++ L.drop (k + 1))) := by
  obtain ⟨j0, hi0, hz0, hz1, hz2⟩ := info_parts infoLt
  have hJi := Lib.hid hi0; have hJz := Lib.hid hz0; have hJs := Lib.hid hz1; have hJb := Lib.hid hz2
  clear hi0 hz0 hz1 hz2
  have hkI : (k : Int) ≤ (L.length : Int) := by omega
  have hkI2 : (k : Int) + 1 ≤ (L.length : Int) := by omega
  have hkc : (k : Int) ≤ (cap : Int) := by omega
  have hc2I : (cap : Int) ≤ 9223372036854775807 := by unfold maxLen at hc2; omega
  have htn : ((k : Int) + 1).toNat = k + 1 := by omega
  have hc0 : ¬ (cap = 0) := by omega
  obtain ⟨g', hg', hgl, _⟩ := hA k hk
  obtain rfl : g = g' := by simpa using hg'
  clear hg'
  have h1 : Hid (∀ w' : World, w'.heap = (w.alloc (.cells #[] 52)).heap → OwnL w' w.heap.size (.slice (some ⟨w.heap.size, 0, none⟩) 0 0) [] ∧ (∀ j u, (flatL (L.take k))[j]? = some u → w'.cell? ((⟨g, 0, none⟩ : Addr).add j) = some u) ∧ w.heap.size ≤ w'.heap.size ∧ LtsAt w' (some ⟨g, 0, none⟩) L ∧ Below w.heap.size w (w.alloc (.cells #[] 52))) := fun w' e => by
    have hB := (Below.refl w.heap.size w).alloc (Nat.le_refl _) (.cells #[] 52)
    have hblk : ∀ g, g < w.heap.size → w'.heap[g]? = w.heap[g]? := fun g hg => by rw [e]; exact Below.heap_alloc w _ g hg
    have hL' : LtsAt w' (some ⟨g, 0, none⟩) L := fun i hi => by
      obtain ⟨g2, e2, h2, c0, c1, c2⟩ := hA i hi
      have hb := hblk g2 h2
      exact ⟨g2, e2, by rw [e]; simp; omega, (World.cell?_of_block hb).trans c0, (World.cell?_of_block hb).trans c1, (World.cell?_of_block hb).trans c2⟩
    refine ⟨⟨rfl, .inr ⟨w.heap.size, 0, #[], rfl, Nat.le_refl _, by rw [e]; exact heap_alloc_new w _, Nat.le_refl _, Nat.zero_le _, rfl, rfl⟩⟩, ?_, by rw [e]; simp, hL', hB⟩
    have := hL'.news 0 k (by omega)
    simpa using this
  by_cases hck : cap = k + 1
  · have hlk : L.length = k + 1 := by omega
    have hdr : L.drop (k + 1) = [] := by rw [← hlk]; simp
    rw [hdr, hlk, hck]
    have f1 : (k : Int) ≤ (k : Int) + 1 := by omega
    have f0 : 0 ≤ (k : Int) + 1 := by omega
    have hlen2 : Hid ((([] ++ L.take k) ++ ([] : List Lt)).length = k) := by unfold Hid; simp; omega
    have hlen1 : Hid (([] ++ L.take k).length = k) := by unfold Hid; simp; omega
    have hwr : IntKind.i64.wrap ((k : Int) + 1) = (k : Int) + 1 := by rw [IntKind.wrap_i64]; omega
    clear hkI hkI2 hkc hc2I hc0
    have hckH := Lib.hid hck
    have hlkH := Lib.hid hlk
    clear hck hlk hdr
    go_enter Try.func27, Try.ntmps27
    go_wp2_with fail
    go_region_law (first
      | (refine step_catL (by rfl) (.tmp 5) (.tmp 8) (by rfl) j0 hJi.out hJz.out hJs.out hJb.out w.heap.size _ [] (L.take k) (by rfl) (h1.out _ rfl).1 ⟨g, 0, none⟩ k (k + 1) (by rfl) (by simp; omega) (h1.out _ rfl).2.1 (by simp; omega) (h1.out _ rfl).2.2.1 ?_; intro v1 w1 hown1 hg1; obtain ⟨A1, cap1, hv1, _, _, _⟩ := hown1.shape; rw [hlen1.out] at hv1; subst hv1)
      | (refine step_catL (by rfl) (.tmp 9) (.tmp 13) (by rfl) j0 hJi.out hJz.out hJs.out hJb.out w.heap.size _ ([] ++ L.take k) [] (by rfl) hown1 ⟨g, 0, none⟩ 0 0 (by rfl) (by simp) (fun j u hj => by simp [flatL] at hj) (by simp; omega) (by have := hg1.size; simp at this; omega) ?_; intro v2 w2 hown2 hg2; obtain ⟨A2, cap2, hv2, _, _, _⟩ := hown2.shape; rw [hlen2.out] at hv2; subst hv2))
    have hB0 := (h1.out _ rfl).2.2.2.2
    have hB1 : Below w.heap.size w w1 := hB0.drew.grown hg1 (by simp) (by simp [Value.ownBlock])
    have hB2 : Below w.heap.size w w2 := hB1.grown hg2 hB1.size (fun b hb => (hown1.lt b hb).1)
    have hfin : OwnL w2 w.heap.size (.slice A2 k cap2) (L.take k ++ []) := by simpa using hown2
    clear hown1 hown2 hg1 hg2
    go_wp2_with fail
    go_ret
    exact ⟨_, rfl, hfin, hB2⟩
  · have hwr : IntKind.i64.wrap ((k : Int) + 1) = (k : Int) + 1 := by rw [IntKind.wrap_i64]; omega
    have f0 : 0 ≤ (k : Int) + 1 := by omega
    have hlen1 : Hid (([] ++ L.take k).length = k) := by unfold Hid; simp; omega
    have hlen2 : Hid ((([] ++ L.take k) ++ L.drop (k + 1)).length = L.length - 1) := by unfold Hid; simp; omega
    have hck' : ¬ (cap = k + 1) := hck
    have h2 : Hid (∀ w1 : World, (∀ g, g < w.heap.size → w1.heap[g]? = w.heap[g]?) → ∀ j u, (flatL (L.drop (k + 1)))[j]? = some u → w1.cell? ((⟨g, (k + 1) * 3, none⟩ : Addr).add j) = some u) := fun w1 hblk => by
      have hL' : LtsAt w1 (some ⟨g, 0, none⟩) L := fun i hi => by
        obtain ⟨g2, e2, h2, c0, c1, c2⟩ := hA i hi
        have hb := hblk g2 h2
        have hlt2 : g2 < w1.heap.size := by
          rcases Nat.lt_or_ge g2 w1.heap.size with h | h
          · exact h
          · rw [Array.getElem?_eq_none h, Array.getElem?_eq_getElem h2] at hb; cases hb
        exact ⟨g2, e2, hlt2, (World.cell?_of_block hb).trans c0, (World.cell?_of_block hb).trans c1, (World.cell?_of_block hb).trans c2⟩
      have := hL'.news (k + 1) (L.length - (k + 1)) (by omega)
      have e : (L.drop (k + 1)).take (L.length - (k + 1)) = L.drop (k + 1) := List.take_of_length_le (by simp)
      rw [e] at this
      exact this
    clear hA
    go_enter Try.func27, Try.ntmps27
    go_wp2_with fail
    go_region_law (first
      | (refine step_catL (by rfl) (.tmp 5) (.tmp 8) (by rfl) j0 hJi.out hJz.out hJs.out hJb.out w.heap.size _ [] (L.take k) (by rfl) (h1.out _ rfl).1 ⟨g, 0, none⟩ k cap (by rfl) (by simp; omega) (h1.out _ rfl).2.1 (by simp; omega) (h1.out _ rfl).2.2.1 ?_; intro v1 w1 hown1 hg1; obtain ⟨A1, cap1, hv1, _, _, _⟩ := hown1.shape; rw [hlen1.out] at hv1; subst hv1)
      | (refine step_catL (by rfl) (.tmp 9) (.tmp 13) (by rfl) j0 hJi.out hJz.out hJs.out hJb.out w.heap.size _ ([] ++ L.take k) (L.drop (k + 1)) (by rfl) hown1 ⟨g, (k + 1) * 3, none⟩ (L.length - (k + 1)) (cap - (k + 1)) (by rfl) (by simp) (h2.out _ (fun g hg => (hg1.block g (by simp; omega) (by simp [Value.ownBlock]; omega)).trans (Below.heap_alloc w _ g hg))) (by simp; omega) (by have := hg1.size; simp at this; omega) ?_; intro v2 w2 hown2 hg2; obtain ⟨A2, cap2, hv2, _, _, _⟩ := hown2.shape; rw [hlen2.out] at hv2; subst hv2))
    have hB0 := (h1.out _ rfl).2.2.2.2
    have hB1 : Below w.heap.size w w1 := hB0.drew.grown hg1 (by simp) (by simp [Value.ownBlock])
    have hB2 : Below w.heap.size w w2 := hB1.grown hg2 hB1.size (fun b hb => (hown1.lt b hb).1)
    have hfin : OwnL w2 w.heap.size (.slice A2 (L.length - 1) cap2) (L.take k ++ L.drop (k + 1)) := by simpa using hown2
    clear hown1 hown2 hg1 hg2
    go_wp2_with fail
    go_ret
    exact ⟨_, rfl, hfin, hB2⟩

#print axioms without_any
end Go.Proofs.Ytejckoffllhjcaa
