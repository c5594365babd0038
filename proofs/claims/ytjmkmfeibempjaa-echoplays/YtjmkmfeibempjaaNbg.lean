/-
  The contract of echo.begin.
-/
import Derived.Test.YtjmkmfeibempjaaNso
import Derived.Test.YtjmkmfeibempjaaLks
import Derived.Maps.OwnOps
namespace Go.Proofs.Ytjmkmfeibempjaa
open Go.RowKit Go.Maps
set_option linter.unusedVariables false

theorem infoPrcE : (Try.prog.info? 62).map (fun i => (i.zero, i.size, i.bytes)) = some (some (.agg #[.slice none 0 0, .int .i64 0, .int .i64 0]), 3, 40) := by kernel_rfl
theorem madeE_at {n i c : Nat} (hi : i < n) (hc : c < 3) : (madeCells #[.slice none 0 0, .int .i64 0, .int .i64 0] (n * 3)).toList[i * 3 + c]? = #[Value.slice none 0 0, .int .i64 0, .int .i64 0].toList[c]? := by
  have h : i * 3 + c < n * 3 := by omega
  unfold madeCells
  rw [Array.toList_map, List.getElem?_map, Array.toList_range, List.getElem?_range h]
  have h2 : (i * 3 + c) % 3 = c := by omega
  simp only [Option.map_some]
  show some (#[Value.slice none 0 0, .int .i64 0, .int .i64 0][(i * 3 + c) % 3]!) = _
  rw [h2]
  have : c = 0 ∨ c = 1 ∨ c = 2 := by omega
  rcases this with rfl | rfl | rfl <;> rfl
theorem wpList_make_prcE (w : World) {ops : Array Oper} {rest : List Oper} {o : Oper} {a : Act} {Q : Exit → Act → World → Prop}
    (hg : o.guard = none) (l c : Operand) (hop : o.op = Op.makeSlice 48 l c) (n : Nat) (hn : n ≤ 6) (hl : a.eval l = .int .i64 (n : Int)) (hc : a.eval c = .int .i64 (n : Int))
    (hK : ∀ w', PrcE w' w.heap.size n (fun _ => .slice none 0 0) (fun _ => 0) (fun _ => 0) → w.grownBy w' none → wpList Try.prog ops Q rest (a.put o.dst (.slice (some ⟨w.heap.size, 0, none⟩) n n)) w') :
    wpList Try.prog ops Q (o :: rest) a w := by
  obtain ⟨i0, hi0, hz0, hz1, hz2⟩ := info_parts infoPrcE
  refine wpList_make_full w hg l c _ hop w.heap.size 62 i0 _ 3 Try.underlying48 hi0 hz0 hz1 .i64 .i64 _ _ n hl hc rfl rfl (by rw [hz2]; omega) (by unfold maxLen; omega) (Nat.le_refl _) ?_
  intro w' hown hgrow
  rcases hown.2 with ⟨h', _⟩ | ⟨g', cap', cur, h', _, hb, _, _, hcs, htake⟩
  · simp at h'
  · simp only [Value.slice.injEq, Option.some.injEq, Addr.mk.injEq, and_true, true_and] at h'
    obtain ⟨rfl, rfl⟩ := h'
    rw [List.take_of_length_le (by rw [Array.length_toList, hcs]; exact Nat.le_refl _)] at htake
    refine hK w' ⟨cur.toList, by unfold Row; rw [hb], by rw [Array.length_toList]; exact hcs, fun i hi => ?_⟩ hgrow
    rw [htake]
    refine ⟨?_, ?_, ?_⟩
    · have := madeE_at hi (c := 0) (by omega)
      simpa [Value.cells] using this
    · have := madeE_at hi (c := 1) (by omega)
      simpa [Value.cells] using this
    · have := madeE_at hi (c := 2) (by omega)
      simpa [Value.cells] using this

def ES.raw : ES := ⟨fun _ => 0, fun _ => 0, [], 0⟩
def ES.low (k : Nat) : ES := ⟨fun _ => 0, fun i => if i < k then -1 else 0, [], 0⟩
theorem NetAt.congr {w : World} {B N P n s : Nat} {nv : Nat → Value} {nb nb' : Nat → List Nat} {tv : Value} {S T : ES} (h : NetAt w B N P n s nv nb tv S) (hb : ∀ i, i < n → nb i = nb' i) (hp : ∀ i, i < n → S.par i = T.par i) (ht : S.took = T.took) (hw : S.way = T.way) (hs : S.sent = T.sent) : NetAt w B N P n s nv nb' tv T := by
  refine ⟨by rw [← hs]; exact h.top, ?_, fun i hi => by rw [← hb i hi]; exact h.nbr i hi, h.apart, by rw [← hw]; exact h.tra, h.lowN, h.lowP⟩
  obtain ⟨xs, h1, h2, h3⟩ := h.prc
  exact ⟨xs, h1, h2, fun i hi => by rw [← hp i hi, ← ht]; exact h3 i hi⟩
theorem NetV.congr {w : World} {B N P n s : Nat} {nb nb' : Nat → List Nat} {S T : ES} (h : NetV w B N P n s nb S) (hb : ∀ i, i < n → nb i = nb' i) (hp : ∀ i, i < n → S.par i = T.par i) (ht : S.took = T.took) (hw : S.way = T.way) (hs : S.sent = T.sent) : NetV w B N P n s nb' T := by
  obtain ⟨nv, tv, h⟩ := h
  exact ⟨nv, tv, h.congr hb hp ht hw hs⟩
theorem joinL_next {l : List Lk} {n k : Nat} (h : LkOk n l) (hk : k < l.length) (i : Nat) :
    upL (upL (joinL (l.take k)) (lat l k).a.toNat (joinL (l.take k) (lat l k).a.toNat ++ [(lat l k).b.toNat])) (lat l k).b.toNat (upL (joinL (l.take k)) (lat l k).a.toNat (joinL (l.take k) (lat l k).a.toNat ++ [(lat l k).b.toNat]) (lat l k).b.toNat ++ [(lat l k).a.toNat]) i = joinL (l.take (k + 1)) i := by
  rw [List.take_succ_eq_append_getElem hk, joinL_snoc, ← lat_get l hk]
  have hx := h (lat l k) (lat_mem l hk)
  generalize lat l k = x at *
  unfold upL join1
  by_cases e1 : i = x.b.toNat
  · have e2 : ¬ x.b.toNat = x.a.toNat := by omega
    have e3 : ¬ x.a = (i : Int) := by omega
    have e4 : x.b = (i : Int) := by omega
    rw [if_pos e1, if_neg e2, if_neg e3, if_pos e4, e1]; simp
  · rw [if_neg e1]
    by_cases e2 : i = x.a.toNat
    · have e3 : x.a = (i : Int) := by omega
      have e4 : ¬ x.b = (i : Int) := by omega
      rw [if_pos e2, if_pos e3, if_neg e4, e2]; simp
    · have e3 : ¬ x.a = (i : Int) := by omega
      have e4 : ¬ x.b = (i : Int) := by omega
      rw [if_neg e2, if_neg e3, if_neg e4]; simp

def BegRel (B : Nat) (w : World) (N P n s : Nat) (l : List Lk) (k : Nat) (wr : World) : Prop := NetV wr B N P n s (joinL (l.take k)) ES.raw ∧ Below B w wr
def BegRel2 (B : Nat) (w : World) (N P n s : Nat) (l : List Lk) (k : Nat) (wr : World) : Prop := NetV wr B N P n s (fun i => if i < k then nbs l n i else joinL l i) (ES.low k) ∧ Below B w wr

set_option maxHeartbeats 3200000 in
theorem begin_any (A : Option Addr) (cap : Nat) (l : List Lk) (n s : Nat) (w : World) (hE : Lks w w.heap.size A l) (hl : l.length ≤ 15) (hn : n ≤ 6) (hs : s < n) (hL : LkOk n l) (hO : Once l) :
    Calls Try.prog 18 #[.int .i64 (n : Int), .slice A l.length cap, .int .i64 (s : Int)] w fun e w' => ∃ N P nv, e = .returned (.pointer (some ⟨N, 0, none⟩)) ∧ Net w' w.heap.size N P n s nv (nbs l n) (ES.zero.spread s (nbs l n s)) ∧ Below w.heap.size w w' := by
  have hEH := Lib.hid hE
  clear hE
  go_enter Try.func18, Try.ntmps18
  go_wp2_with (first
    | (at_make; refine wpList_make_prcE _ rfl _ _ rfl n hn rfl rfl ?_; intro w1 hP1 hg1))
  have hN0 : Hid (NetV (w1.alloc (.cells #[.slice (some ⟨w.heap.size, 0, none⟩) n n, .int .i64 (s : Int), .slice none 0 0, .int .i64 0] 51)) w.heap.size w1.heap.size w.heap.size n s (joinL (l.take 0)) ES.raw) := by
    refine ⟨fun _ => .slice none 0 0, .slice none 0 0, ⟨Row.made w1 51 [.slice (some ⟨w.heap.size, 0, none⟩) n n, .int .i64 (s : Int), .slice none 0 0, .int .i64 0], hP1.block (Below.heap_alloc w1 _ _ hP1.lt), fun i hi => ?_, fun i j _ _ _ => .inl rfl, OwnM.nil _ _, hg1.size, Nat.le_refl _⟩⟩
    have : joinL (l.take 0) i = [] := by simp [joinL]
    rw [this]
    exact OwnE.nil _ _
  have hB0 := Lib.hid (((Below.refl w.heap.size w).grown hg1 (Nat.le_refl _) (fun b hb => by cases hb)).alloc (hg1.size) (.cells #[.slice (some ⟨w.heap.size, 0, none⟩) n n, .int .i64 (s : Int), .slice none 0 0, .int .i64 0] 51))
  have hsz1 := Lib.hid hg1.size
  clear hP1 hg1
  generalize hPp : w.heap.size = P at *
  have hPH := Lib.hid hPp
  generalize hNn : w1.heap.size = N at *
  generalize hww : w1.alloc (.cells #[.slice (some ⟨P, 0, none⟩) n n, .int .i64 (s : Int), .slice none 0 0, .int .i64 0] 51) = w2 at *
  clear hww hNn
  go_loopw [18] (fun v wr => ∃ k : Nat, k ≤ l.length ∧ v = .int .i64 k ∧ BegRel P w N P n s l k wr) (fun v _ => l.length - (intOf v).toNat)
  case atStart => exact ⟨0, Nat.zero_le _, rfl, hN0.out, hB0.out⟩
  case round =>
    clear hN0 hB0
    obtain ⟨k, hk, rfl, hN, hB⟩ := hrel
    by_cases hlt : k < l.length
    · obtain ⟨b, off, rfl, hb, c3, c4⟩ := (hEH.out.below hB).at_ hlt
      have hkI : (k : Int) < (l.length : Int) := by omega
      have hnx := Lib.hid (joinL_next hL hlt)
      have hx := hL (lat l k) (lat_mem l hlt)
      have hlen : ∀ i, (joinL (l.take k) i).length ≤ 15 := fun i => by
        have := joinL_len (n := n) (l := l.take k) (fun y hy => hL y (List.mem_of_mem_take hy)) i
        simp at this; omega
      obtain ⟨x, hxe⟩ : ∃ x : Nat, (lat l k).a = (x : Int) := ⟨(lat l k).a.toNat, by omega⟩
      obtain ⟨y, hye⟩ : ∃ y : Nat, (lat l k).b = (y : Int) := ⟨(lat l k).b.toNat, by omega⟩
      rw [hxe, hye] at hx hnx
      rw [hxe] at c3
      rw [hye] at c4
      simp only [Int.toNat_natCast] at hnx
      have hR := Row.made wr 38 [.int .i64 (x : Int), .int .i64 (y : Int)]
      have d0 := hR.cell (i := 0) (by simp)
      have d1 := hR.cell (i := 1) (by simp)
      simp only [List.getElem_cons_zero, List.getElem_cons_succ] at d0 d1
      have hNa := hN.alloc (.cells #[.int .i64 (x : Int), .int .i64 (y : Int)] 38)
      have hsz := hN.sz
      have hBa := Lib.hid (hB.alloc hsz (.cells #[.int .i64 (x : Int), .int .i64 (y : Int)] 38))
      have hc1 := Lib.hid (join_any _ P N P n s _ _ hNa x y (by omega) (by have := hlen x; omega))
      have hRH := Lib.hid hR
      have hlen2 : Hid ((upL (joinL (l.take k)) x (joinL (l.take k) x ++ [y]) y).length ≤ 1000) := by
        unfold Hid upL
        have h1 := hlen x
        have h2 := hlen y
        split
        · simp; omega
        · omega
      have hyn : y < n := by omega
      clear hN hNa hR hxe hye hx hlen hB
      go_wp2_with fail
      refine hc1.out.mono ?_
      rintro e w3 ⟨rfl, hN3, hK3⟩
      have hR3 := hK3.lnk _ _ hRH.out
      have f0 := hR3.cell (i := 0) (by simp)
      have f1 := hR3.cell (i := 1) (by simp)
      simp only [List.getElem_cons_zero, List.getElem_cons_succ] at f0 f1
      have hB3 := Lib.hid (hBa.out.trans hK3.low)
      have hc2 := Lib.hid (join_any w3 P N P n s _ _ hN3 y x hyn hlen2.out)
      clear hc1 hR3 hK3 hN3 hBa hRH d0 d1
      go_wp2_with fail
      refine hc2.out.mono ?_
      rintro e w4 ⟨rfl, hN4, hK4⟩
      have hB4 := Lib.hid (hB3.out.trans hK4.low)
      have hN5 : Hid (NetV w4 P N P n s (joinL (l.take (k + 1))) ES.raw) := hN4.congr (fun i hi => hnx.out i) (fun _ _ => rfl) rfl rfl rfl
      clear hc2 hK4 hN4 hB3 f0 f1 hnx
      go_wp2_with fail
      go_roundw
      case rel => exact ⟨k + 1, by omega, by go_num, hN5.out, hB4.out⟩
      case measure => simp [intOf]; omega
    · have hkl : k = l.length := by omega
      subst hkl
      rw [List.take_length] at hN
      have hN0 : BegRel2 P w N P n s l 0 wr := ⟨hN.congr (fun i hi => by rw [if_neg (by omega)]) (fun i hi => by simp [ES.raw, ES.low]) rfl rfl rfl, hB⟩
      obtain ⟨nv0, tv0, hA0⟩ := hN
      have s0 := hA0.cells.1
      have hN0H := Lib.hid hN0
      clear hA0 hN0 hB
      go_wp2_with fail
      go_loopw [40] (fun v wr => ∃ k : Nat, k ≤ n ∧ v = .int .i64 k ∧ BegRel2 P w N P n s l k wr) (fun v _ => n - (intOf v).toNat)
      case atStart => exact ⟨0, Nat.zero_le _, rfl, hN0H.out⟩
      case round =>
        clear hN0H s0
        obtain ⟨k, hk, rfl, hN, hB⟩ := hrel
        rename World => wr
        obtain ⟨nv0, tv0, hA0⟩ := hN
        have s0 := hA0.cells.1
        by_cases hlt : k < n
        · have hkI : (k : Int) < (n : Int) := by omega
          have p1 := (hA0.prc.cells hlt).2.1
          have fz := hA0.prc.frozen (k * 3 + 1)
          have hA1 := hA0.setPar hlt (-1)
          have t0 := hA1.cells.1
          have q0 := (hA1.prc.cells hlt).1
          obtain ⟨A9, cap9, hv9, -, -, -⟩ := (hA1.nbr k hlt).shape
          have hnbk : (if k < k then nbs l n k else joinL l k) = joinL l k := if_neg (by omega)
          have hB1 := Lib.hid (hB.setCell (p := ⟨P, k * 3 + 1, none⟩) hA0.lowP (.int .i64 (-1)))
          have hcall := sort_any _ P N P n s nv0 _ tv0 _ hA1 k hlt (by
            show (if k < k then nbs l n k else joinL l k).length ≤ 1000
            rw [hnbk]
            have := joinL_len (n := n) hL k
            omega) (nbs l n k) (fun q' hp hsq => by
            have hp2 : q'.Perm (if k < k then nbs l n k else joinL l k) := hp
            rw [hnbk] at hp2
            exact sorted_nbs hL hO k hp2 hsq)
          have hres : Hid (∀ w4, NetV w4 P N P n s (upL (fun i => if i < k then nbs l n i else joinL l i) k (nbs l n k)) ⟨(ES.low k).took, upZ (ES.low k).par k (-1), (ES.low k).way, (ES.low k).sent⟩ → NetV w4 P N P n s (fun i => if i < k + 1 then nbs l n i else joinL l i) (ES.low (k + 1))) := fun w4 h4 => h4.congr (fun i hi => by
            unfold upL
            by_cases e : i = k
            · subst e; rw [if_pos rfl, if_pos (by omega)]
            · rw [if_neg e]
              show (if i < k then nbs l n i else joinL l i) = _
              by_cases e2 : i < k
              · rw [if_pos e2, if_pos (by omega)]
              · rw [if_neg e2, if_neg (by omega)]) (fun i hi => by
            simp only [upZ, ES.low]
            by_cases e : i = k
            · subst e; rw [if_pos rfl, if_pos (by omega)]
            · rw [if_neg e]
              by_cases e2 : i < k
              · rw [if_pos e2, if_pos (by omega)]
              · rw [if_neg e2, if_neg (by omega)]) rfl rfl rfl
          rw [hv9] at q0 hcall
          have hcH := Lib.hid hcall
          clear hA0 hA1 hv9 hcall hB hnbk
          generalize (if k < k then nbs l n k else joinL l k).length = L9 at *
          go_wp2_with fail
          refine hcH.out.mono ?_
          rintro e w4 ⟨rfl, hN4, hK4⟩
          have hN5 := Lib.hid (hres.out w4 hN4)
          have hB4 := Lib.hid (hB1.out.trans hK4)
          clear hcH hN4 hK4 hB1 hres
          go_wp2_with fail
          go_roundw
          case rel => exact ⟨k + 1, by omega, by go_num, hN5.out, hB4.out⟩
          case measure => simp [intOf]; omega
        · have hkn : k = n := by omega
          subst hkn
          have hA1 : NetAt wr P N P k s nv0 (nbs l k) tv0 ES.zero := hA0.congr (fun i hi => if_pos hi) (fun i hi => by simp [ES.low, ES.zero, hi]) rfl rfl rfl
          have hcall := Lib.hid (spread_any wr P N P k s nv0 (nbs l k) ES.zero ⟨tv0, hA1⟩ s hs (by have := nbs_len l k s; omega) (by simp [ES.zero]) (by simp [ES.zero]))
          have hBH := Lib.hid hB
          clear hA0 hA1 hB
          go_wp2_with fail
          refine hcall.out.mono ?_
          rintro e w4 ⟨rfl, hN4, hK4⟩
          have hfin : Hid (Net w4 w.heap.size N P k s nv0 (nbs l k) (ES.zero.spread s (nbs l k s)) ∧ Below w.heap.size w w4) := by
            unfold Hid
            rw [hPH.out]
            exact ⟨hN4, hBH.out.trans hK4.low⟩
          clear hcall hN4 hK4 hBH
          go_wp2_with fail
          go_ret
          exact ⟨N, P, nv0, rfl, hfin.out⟩
#print axioms begin_any
end Go.Proofs.Ytjmkmfeibempjaa
