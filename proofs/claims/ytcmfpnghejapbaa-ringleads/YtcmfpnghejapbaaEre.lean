/-
  The contract of beaconryref.Leader.
-/
import Derived.Test.YtcmfpnghejapbaaElr
import Derived.Test.YtcmfpnghejapbaaEld
import Derived.Deep.AppendLies
import Derived.Laws.OwnMore
import Derived.BigRegion
namespace Go.Proofs.Ytcmfpnghejapbaa
open Go.RowKit Go.Maps

def boolVals (l : List Bool) : List Value := l.map Value.bool
theorem bits_news {w : World} {B b off : Nat} {l : List Bool} (h : Bits w B (some ⟨b, off, none⟩) l) : ∀ j u, (boolVals l)[j]? = some u → w.cell? ((⟨b, off, none⟩ : Addr).add j) = some u := by
  intro j u hj
  have hlt : j < l.length := by
    rcases Nat.lt_or_ge j l.length with h1 | h1
    · exact h1
    · rw [List.getElem?_eq_none (by simp [boolVals]; exact h1)] at hj; cases hj
  have hadd : (⟨b, off, none⟩ : Addr).add j = ⟨b, off + j, none⟩ := by unfold Addr.add; split <;> simp_all
  rw [hadd]
  obtain ⟨b', off', e, _, hc⟩ := h (by omega)
  simp only [Option.some.injEq, Addr.mk.injEq] at e
  obtain ⟨rfl, rfl, _⟩ := e
  rw [hc j hlt, ← hj, bat_get l hlt]
  simp [boolVals, hlt]
theorem boolVals_one (l : List Bool) : ∀ u ∈ boolVals l, u.oneCell' = true := by
  intro u hu
  obtain ⟨x, _, rfl⟩ := List.mem_map.1 hu
  rfl
theorem sentR_of {w : World} {B g cap : Nat} {l : List Bool} (h : w.ownsRow B 4 1 (.slice (some ⟨g, 0, none⟩) l.length cap) l.length (boolVals l)) : SentR w g l.length (bat l) ∧ B ≤ g := by
  rcases h.2 with ⟨h', _⟩ | ⟨g', cap', cur, h', hb, hg, h1, h2, hcs, htake⟩
  · cases h'
  · simp only [Value.slice.injEq, Option.some.injEq, Addr.mk.injEq, and_true, true_and] at h'
    obtain ⟨rfl, rfl⟩ := h'
    refine ⟨⟨cur.toList, by unfold Row; rw [hg], by have : cur.toList.length = cur.size := Array.length_toList; omega, fun i hi => ?_⟩, hb⟩
    have e1 : (boolVals l)[i]? = some (.bool (bat l i)) := by rw [bat_get l hi]; simp [boolVals, hi]
    rw [← htake, Nat.mul_one, List.getElem?_take_of_lt hi] at e1
    exact e1

set_option maxRecDepth 8000 in
set_option maxHeartbeats 6000000 in
theorem leader_ref (w : World) (A : Option Addr) (cap : Nat) (l : List Int) (hN : Nums w w.heap.size A l) (hR : Rng l) (Ab : Option Addr) (capb : Nat) (bl : List Bool) (hb : Bits w w.heap.size Ab bl) (hbl : bl.length = l.length) (T m : Nat) (hL : LeadAt l (bat bl) T m) :
    Calls Try.prog 12 #[.slice A l.length cap, .slice Ab bl.length capb] w fun e w' => e = .returned (.tuple #[.int .i64 (m : Int), .int .i64 ((sim l (bat bl) T).ms : Int)]) ∧ Below w.heap.size w w' := by
  have hn := hR.len
  obtain ⟨i0, hi0, hz0, hz1, hz2⟩ := info_parts infoBool
  have hJi := Lib.hid hi0; have hJz := Lib.hid hz0; have hJs := Lib.hid hz1; have hJb := Lib.hid hz2
  obtain ⟨j0, hj0, hy0, hy1, hy2⟩ := info_parts infoInt
  have hIi := Lib.hid hj0; have hIz := Lib.hid hy0; have hIs := Lib.hid hy1; have hIb := Lib.hid hy2
  have hNH := Lib.hid hN
  have hbH := Lib.hid hb
  have hLH := Lib.hid hL
  have hRH := Lib.hid hR
  have hT := hL.soon
  obtain ⟨bb, boff, rfl, hbb, hbc⟩ := hb (by omega)
  have hb2 : Bits (w.alloc (.cells #[] 4)) w.heap.size (some ⟨bb, boff, none⟩) bl := hbH.out.below ((Below.refl _ w).alloc (Nat.le_refl _) _)
  have hnews := Lib.hid (bits_news hb2)
  have hW0 : (w.alloc (.cells #[] 4)).ownsRow w.heap.size 4 1 (.slice (some ⟨w.heap.size, 0, none⟩) 0 0) 0 [] := World.ownsRow_lit w #[] 0 (Nat.le_refl _) (by unfold maxLen; omega) (by simp)
  have hW0H := Lib.hid hW0
  have hone := Lib.hid (boolVals_one bl)
  have hlen := Lib.hid (show (boolVals bl).length = bl.length * 1 by simp [boolVals])
  have hsz0 : Hid (w.heap.size ≤ (w.alloc (.cells #[] 4)).heap.size) := by unfold Hid; simp
  clear hi0 hz0 hz1 hz2 hj0 hy0 hy1 hy2 hN hb hL hR hbc hb2 hW0
  go_enter Try.func12, Try.ntmps12
  go_wp2_with (first
    | (at_builtin; refine wpList_append_lies _ rfl (.tmp 19) (.tmp 20) 23 rfl w.heap.size 4 i0 (.bool false) 1 1 Try.underlying23 hJi.out hJz.out hJs.out hJb.out rfl (by decide) _ 0 [] rfl hW0H.out ⟨bb, boff, none⟩ bl.length capb (boolVals bl) rfl hlen.out hnews.out hone.out (by omega) (by unfold maxLen; omega) (by omega) hsz0.out _ rfl ?_; intro g4 cap4 w4 hW4 hG4 _ _)
    | (at_make; refine wpList_make_row _ rfl (.tmp 22) (.tmp 22) 23 rfl 4 i0 (.bool false) Try.underlying23 hJi.out hJz.out hJs.out rfl .i64 .i64 _ _ l.length rfl rfl rfl rfl (by rw [hJb.out]; omega) (by unfold maxLen; omega) ?_; intro w5 hC5 hg5)
    | (at_make; refine wpList_make_row _ rfl (.tmp 24) (.tmp 24) 22 rfl 3 j0 (.int .i64 0) Try.underlying22 hIi.out hIz.out hIs.out rfl .i64 .i64 _ _ l.length rfl rfl rfl rfl (by rw [hIb.out]; omega) (by unfold maxLen; omega) ?_; intro w6 hV6 hg6))
  rw [Nat.zero_add, List.nil_append] at hW4
  obtain ⟨hS4, hlow4⟩ := sentR_of hW4
  have hB4 : Below w.heap.size w w4 := ((Below.refl _ w).alloc (Nat.le_refl _) (.cells #[] 4)).grown hG4 hsz0.out (fun k hk => by
    have : w.heap.size = k := by injection (show some w.heap.size = some k from hk)
    omega)
  have hini : Le0 w w6 l (bat bl) g4 w4.heap.size w5.heap.size 0 := by
    have hz5 := hg5.size
    have hB5 : Below w.heap.size w w5 := hB4.grown hg5 hB4.size (fun k hk => by cases hk)
    rw [boolRow_zero] at hC5
    rw [intRow_zero] at hV6
    rw [hbl] at hS4
    refine ⟨?_, ?_, ?_, by have := hS4.lt; omega, hlow4, hB4.size, hB5.size, hB5.grown hg6 hB5.size (fun k hk => by cases hk)⟩
    · exact (hS4.block (hg5.block g4 hS4.lt (by simp))).block (hg6.block g4 (by have := hS4.lt; omega) (by simp))
    · rw [rs0_zero]
      exact Row.grown hC5 hg6 (by simp)
    · rw [rs0_zero]
      exact hV6
  have hiniH := Lib.hid hini
  clear hini hS4 hlow4 hB4 hW4 hG4 hC5 hg5 hV6 hg6 hsz0 hnews hW0H hone hlen
  generalize w4.heap.size = C at *
  generalize w5.heap.size = V at *
  go_loopw [10, 11] (fun c i wr => ∃ k : Nat, k ≤ l.length ∧ i = .int .i64 k ∧ c = .int .i64 ((rs0To l (bat bl) k).ms : Int) ∧ Le0 w wr l (bat bl) g4 C V k) (fun _ i _ => l.length - (intOf i).toNat)
  case atStart => exact ⟨0, Nat.zero_le _, rfl, by rw [rs0_zero]; rfl, hiniH.out⟩
  case round =>
    obtain ⟨k, hk, rfl, rfl, hM⟩ := hrel
    have hms := rs0_ms l (bat bl) k
    by_cases hlt : k < l.length
    · have hkI : (k : Int) < (l.length : Int) := by omega
      obtain ⟨bb2, boff2, e2, _, hbc⟩ := (hbH.out.below hM.bel) (by omega)
      simp only [Option.some.injEq, Addr.mk.injEq] at e2
      obtain ⟨rfl, rfl, _⟩ := e2
      have c0 := hbc k (by omega)
      clear hbc
      have hMH := Lib.hid hM
      cases hbk : bat bl k with
      | false =>
        rw [hbk] at c0
        have hnx := Lib.hid (hM.none_ hbk)
        have he := Lib.hid (rs0_none (l := l) hbk)
        clear hbk hM
        generalize hmm : (rs0To l (bat bl) k).ms = ms at *
        have hmmH := Lib.hid hmm
        clear hmm
        go_wp2_with fail
        go_roundw
        case rel => exact ⟨k + 1, by omega, by go_num, by rw [he.out, hmmH.out], hnx.out⟩
        case measure => simp [intOf]; omega
      | true =>
        rw [hbk] at c0
        have hq : (k + 1) % l.length < l.length := Nat.mod_lt _ (by omega)
        have hmod := mod_next k l.length
        have hnx := Lib.hid (hM.some_ hlt hbk rfl)
        have he := Lib.hid (rs0_some hlt hbk)
        have cC := BoolRow.at_ hM.come hq
        have fC := Row.frozen hM.come ((k + 1) % l.length)
        have hB8 := Below.setCell hM.bel (p := ⟨C, (k + 1) % l.length, none⟩) hM.lowC (.bool true)
        obtain ⟨b, off, rfl, hb, hcells⟩ := nums_cells (hNH.out.below hB8) (by omega)
        have ck := hcells k hlt
        have hCV : V ≠ C := fun e => Row.ne hM.come hM.what (by decide) e.symm
        have hV8 := Row.far hM.what (p := ⟨C, (k + 1) % l.length, none⟩) hCV (.bool true)
        have cV := IntRow.at_ hV8 hq
        have fV := Row.frozen hV8 ((k + 1) % l.length)
        clear hcells hbk hM hB8 hV8
        generalize hqq : (k + 1) % l.length = q at *
        clear hqq
        have hqI : (q : Int) < (l.length : Int) := by omega
        have hl0 : ¬ (l.length : Int) = 0 := by omega
        generalize hmm : (rs0To l (bat bl) k).ms = ms at *
        have hmmH := Lib.hid hmm
        clear hmm
        generalize vat l k = z at *
        go_wp2_with fail
        generalize (wr.setCell ⟨C, q, none⟩ (.bool true)) = w8 at *
        go_region
        go_wp2_with fail
        go_roundw
        case rel => exact ⟨k + 1, by omega, by go_num, by rw [he.out]; simp only; go_num, hnx.out⟩
        case measure => simp [intOf]; omega
    · have hkl : k = l.length := by omega
      subst hkl
      have hM0 := Lib.hid hM.done
      clear hM hms hiniH hk hlt
      have hms0 : Hid ((rs0To l (bat bl) l.length).ms = (sim l (bat bl) 0).ms) := rfl
      rw [hms0.out]
      go_wp2_with fail
      go_loopg [8, 9, 10] T (fun gk c v mm wr => ∃ r C V, r + gk = T ∧ c = .slice (some ⟨C, 0, none⟩) l.length l.length ∧ v = .slice (some ⟨V, 0, none⟩) l.length l.length ∧ mm = .int .i64 ((sim l (bat bl) r).ms : Int) ∧ LeR w wr l (sim l (bat bl) r) g4 C V)
      case atStart => exact ⟨0, C, V, by omega, rfl, rfl, rfl, hM0.out⟩
      case round =>
        clear hM0 hms0
        obtain ⟨r, C, V, hr, rfl, rfl, rfl, hM⟩ := hrel
        rename World => w1
        have hrH := Lib.hid hr
        have hMH := Lib.hid hM
        have hms3 : (sim l (bat bl) r).ms ≤ 300 := ms_few hRH.out _ (by omega)
        clear hr hM
        generalize hmm : (sim l (bat bl) r).ms = ms at *
        have hmmH := Lib.hid hmm
        clear hmm
        go_wp2_with (first
          | (at_make; refine wpList_make_row _ rfl (.tmp 53) (.tmp 53) 23 rfl 4 i0 (.bool false) Try.underlying23 hJi.out hJz.out hJs.out rfl .i64 .i64 _ _ l.length rfl rfl rfl rfl (by rw [hJb.out]; omega) (by unfold maxLen; omega) ?_; intro w2 hN2 hg2)
          | (at_make; refine wpList_make_row _ rfl (.tmp 55) (.tmp 55) 22 rfl 3 j0 (.int .i64 0) Try.underlying22 hIi.out hIz.out hIs.out rfl .i64 .i64 _ _ l.length rfl rfl rfl rfl (by rw [hIb.out]; omega) (by unfold maxLen; omega) ?_; intro w3 hW3 hg3))
        have hini2 : LeI w w3 l (sim l (bat bl) r) g4 C V w1.heap.size w2.heap.size 0 := by
          have hM := hMH.out
          have hz2 := hg2.size
          have hB2 : Below w.heap.size w w2 := hM.bel.grown hg2 hM.bel.size (fun k hk => by cases hk)
          have hS := hM.sent.lt
          have hC := hM.come.lt
          have hV := hM.what.lt
          have hN0 := hN2.lt
          rw [boolRow_zero] at hN2
          rw [intRow_zero] at hW3
          have e0 : (rsTo l (sim l (bat bl) r) 0).tr = fun _ => none := by rw [rsTo_zero]
          have e1 : (rsTo l (sim l (bat bl) r) 0).sent = (sim l (bat bl) r).sent := by rw [rsTo_zero]
          refine ⟨?_, ?_, ?_, ?_, ?_, ⟨hM.ne, by omega, by omega, by omega⟩, hM.lowS, hM.lowC, hM.lowV, hM.bel.size, hB2.size, hB2.grown hg3 hB2.size (fun k hk => by cases hk)⟩
          · rw [e1]
            exact (hM.sent.block (hg2.block g4 hS (by simp))).block (hg3.block g4 (by omega) (by simp))
          · exact Row.grown (Row.grown hM.come hg2 (by simp)) hg3 (by simp)
          · exact Row.grown (Row.grown hM.what hg2 (by simp)) hg3 (by simp)
          · rw [e0]
            exact Row.grown hN2 hg3 (by simp)
          · rw [e0]
            exact hW3
        have hi2H := Lib.hid hini2
        clear hini2 hN2 hg2 hW3 hg3 hMH
        generalize w1.heap.size = N at *
        generalize w2.heap.size = W at *
        have hld1 : Hid (r < T → ∀ p, p < l.length → leadB l (sim l (bat bl) r) p = false) := fun h p hp => hLH.out.first r h p hp
        have hld2 : Hid (r = T → leadB l (sim l (bat bl) r) m = true ∧ ∀ p, p < l.length → leadB l (sim l (bat bl) r) p = true → p = m) := fun h => by subst h; exact ⟨hLH.out.is, hLH.out.sole⟩
        have hml : m < l.length := hLH.out.lt
        obtain ⟨R, hRe⟩ : ∃ R, Hid (R = sim l (bat bl) r) := ⟨_, rfl⟩
        rw [← hRe.out] at hi2H hld1 hld2 hmmH
        go_loopw [14, 15] (fun f i wr => ∃ k : Nat, k ≤ l.length ∧ i = .int .i64 k ∧ f = .int .i64 (cnt (someB (outS l R)) k : Nat) ∧ LeI w wr l R g4 C V N W k ∧ (r = T → k ≤ m)) (fun _ i _ => l.length - (intOf i).toNat)
        case atStart => exact ⟨0, Nat.zero_le _, rfl, rfl, hi2H.out, fun _ => Nat.zero_le _⟩
        case round =>
          clear hi2H
          obtain ⟨k, hk, rfl, rfl, hM, hkm⟩ := hrel
          have hkmH := Lib.hid hkm
          have hcn := cnt_le (someB (outS l R)) k
          clear hkm
          by_cases hlt : k < l.length
          · have hkI : (k : Int) < (l.length : Int) := by omega
            have cC := BoolRow.at_ hM.come hlt
            have cV := IntRow.at_ hM.what hlt
            have cS := hM.sent.at_ hlt
            rw [show (rsTo l R k).sent k = R.sent k from sentTo_at _ _ _] at cS
            obtain ⟨b, off, rfl, hb, hcells⟩ := nums_cells (hNH.out.below hM.bel) (by omega)
            have ck := hcells k hlt
            clear hcells
            have hq : (k + 1) % l.length < l.length := Nat.mod_lt _ (by omega)
            have hmod := mod_next k l.length
            have hMH := Lib.hid hM
            have hlb : Hid (leadB l R k = (R.tr k == some (vat l k))) := rfl
            have hcom : someB R.tr k = (R.tr k).isSome := rfl
            have hval : valZ R.tr k = (R.tr k).getD 0 := rfl
            rw [hcom] at cC
            rw [hval] at cV
            have hout : Hid (outS l R k = match R.tr k with
              | none => none
              | some x => if vat l k < x then some x else if R.sent k = true then none else some (vat l k)) := rfl
            have hown : Hid (ownS l R k = match R.tr k with
              | none => false
              | some x => !decide (vat l k < x) && !R.sent k) := rfl
            clear hM hcom hval
            have hkml : Hid (leadB l R k = false → r = T → k + 1 ≤ m) := fun h1 h2 => by
              have h3 := hkmH.out h2
              have : k ≠ m := fun e => by rw [e, (hld2.out h2).1] at h1; cases h1
              omega
            cases hy : R.tr k with
            | none =>
              have ho : outS l R k = none := by have := hout.out; rw [hy] at this; exact this
              have hw : ownS l R k = false := by have := hown.out; rw [hy] at this; exact this
              have hl0 : leadB l R k = false := by have := hlb.out; rw [hy] at this; rw [this]; rfl
              have hnx := Lib.hid (hMH.out.same ho hw)
              have hcs := Lib.hid (cnt_none ho)
              have hkm2 := Lib.hid (hkml.out hl0)
              rw [hy] at cC
              have cC2 : wr.cell? ⟨C, k, none⟩ = some (.bool false) := cC
              clear cC cV cS ck ho hw hl0 hout hown hlb hy
              generalize hcc : cnt (someB (outS l R)) k = cc at *
              go_wp2_with fail
              go_roundw
              case rel => exact ⟨k + 1, by omega, by go_num, by rw [hcs.out], hnx.out, hkm2.out⟩
              case measure => simp [intOf]; omega
            | some x =>
              rw [hy] at cC cV
              have cC2 : wr.cell? ⟨C, k, none⟩ = some (.bool true) := cC
              have cV2 : wr.cell? ⟨V, k, none⟩ = some (.int .i64 x) := cV
              clear cC cV
              by_cases hxz : x = vat l k
              · have hl1 : leadB l R k = true := by have := hlb.out; rw [hy, hxz] at this; rw [this]; simp
                have hrT : r = T := by
                  have h1 := hrH.out
                  rcases Nat.lt_or_ge r T with h2 | h2
                  · have := hld1.out h2 k hlt; rw [hl1] at this; cases this
                  · omega
                have hkm3 : Hid (k = m) := (hld2.out hrT).2 k hlt hl1
                have hend : Hid (ms = (sim l (bat bl) T).ms) := by unfold Hid; rw [← hmmH.out, hRe.out, hrT]
                have hBH := Lib.hid hMH.out.bel
                have hb1 : (x == vat l k) = true := by simp [hxz]
                clear hl1 hrT hout hown hlb hy hxz hkml hld1 hld2 hkmH cS
                generalize vat l k = z at *
                generalize cnt (someB (outS l R)) k = cc at *
                go_wp2_with fail
                go_quiet (fail)
                go_wp2_with fail
                go_ret2
                exact ⟨by rw [← hkm3.out, ← hend.out]; rfl, below_drewN hBH.out _⟩
              · have hl0 : leadB l R k = false := by
                  have := hlb.out
                  rw [hy] at this
                  rw [this]
                  simp
                  exact hxz
                have hkm2 := Lib.hid (hkml.out hl0)
                have hb1 : (x == vat l k) = false := by simp [hxz]
                by_cases hgt : vat l k < x
                · have ho : outS l R k = some x := by have := hout.out; rw [hy] at this; simp only at this; rw [if_pos hgt] at this; exact this
                  have hw : ownS l R k = false := by have := hown.out; rw [hy] at this; simp only at this; rw [decide_eq_true hgt] at this; exact this
                  have hoH := Lib.hid ho
                  have hwH := Lib.hid hw
                  have hcs := Lib.hid (cnt_some ho)
                  have hnlt : ¬ x < vat l k := by omega
                  clear hl0 ho hw hout hown hlb hy hxz hkml hld1 hld2 hkmH cS
                  generalize vat l k = z at *
                  generalize hqq : (k + 1) % l.length = q at *
                  have hqH := Lib.hid hqq
                  clear hqq
                  have hqI : (q : Int) < (l.length : Int) := by omega
                  have hl00 : ¬ (l.length : Int) = 0 := by omega
                  generalize hcc : cnt (someB (outS l R)) k = cc at *
                  go_wp2_with fail
                  go_quiet (fail)
                  have hM2 := hMH.out.drewN nq
                  have cV3 : (wr.drewN nq).cell? ⟨V, k, none⟩ = some (.int .i64 x) := cV2
                  have ck3 : (wr.drewN nq).cell? ⟨b, off + k, none⟩ = some (.int .i64 z) := ck
                  clear cV2 ck cC2 hMH
                  generalize wr.drewN nq = w4 at *
                  have hnx := hM2.out hlt hoH.out hwH.out hqH.out.symm
                  rw [if_neg (by simp)] at hnx
                  have hnxH := Lib.hid hnx
                  have cN := BoolRow.at_ hM2.next hq
                  have fN := Row.frozen hM2.next q
                  have hNW : W ≠ N := fun e => Row.ne hM2.next hM2.now (by decide) e.symm
                  have hW5 := Row.far hM2.now (p := ⟨N, q, none⟩) hNW (.bool true)
                  have cW := IntRow.at_ hW5 hq
                  have fW := Row.frozen hW5 q
                  clear hM2 hnx hNW hW5
                  go_wp2_with fail
                  go_roundw
                  case rel => exact ⟨k + 1, by omega, by go_num, by rw [hcs.out]; go_num, hnxH.out, hkm2.out⟩
                  case measure => simp [intOf]; omega
                · have hltz : x < vat l k := by omega
                  cases hs : R.sent k with
                  | true =>
                    have ho : outS l R k = none := by have := hout.out; rw [hy] at this; simp only at this; rw [if_neg hgt, if_pos hs] at this; exact this
                    have hw : ownS l R k = false := by have := hown.out; rw [hy] at this; simp only at this; rw [hs] at this; rw [this]; simp
                    rw [hs] at cS
                    have hnx := Lib.hid (hMH.out.same ho hw)
                    have hcs := Lib.hid (cnt_none ho)
                    clear hl0 ho hw hout hown hlb hy hxz hkml hld1 hld2 hkmH hs hgt
                    generalize vat l k = z at *
                    generalize hcc : cnt (someB (outS l R)) k = cc at *
                    go_wp2_with fail
                    go_quiet (fail)
                    have hnx2 := Lib.hid (hnx.out.drewN nq)
                    have cV3 : (wr.drewN nq).cell? ⟨V, k, none⟩ = some (.int .i64 x) := cV2
                    have ck3 : (wr.drewN nq).cell? ⟨b, off + k, none⟩ = some (.int .i64 z) := ck
                    have cS3 : (wr.drewN nq).cell? ⟨g4, k, none⟩ = some (.bool true) := cS
                    clear cV2 ck cC2 hMH cS hnx
                    generalize wr.drewN nq = w4 at *
                    go_wp2_with fail
                    go_roundw
                    case rel => exact ⟨k + 1, by omega, by go_num, by rw [hcs.out], hnx2.out, hkm2.out⟩
                    case measure => simp [intOf]; omega
                  | false =>
                    have ho : outS l R k = some (vat l k) := by have := hout.out; rw [hy] at this; simp only at this; rw [if_neg hgt, if_neg (by rw [hs]; simp)] at this; exact this
                    have hw : ownS l R k = true := by have := hown.out; rw [hy] at this; simp only at this; rw [hs, decide_eq_false hgt] at this; exact this
                    rw [hs] at cS
                    have hoH := Lib.hid ho
                    have hwH := Lib.hid hw
                    have hcs := Lib.hid (cnt_some ho)
                    clear hl0 ho hw hout hown hlb hy hxz hkml hld1 hld2 hkmH hs hgt
                    generalize vat l k = z at *
                    generalize hqq : (k + 1) % l.length = q at *
                    have hqH := Lib.hid hqq
                    clear hqq
                    have hqI : (q : Int) < (l.length : Int) := by omega
                    have hl00 : ¬ (l.length : Int) = 0 := by omega
                    generalize hcc : cnt (someB (outS l R)) k = cc at *
                    go_wp2_with fail
                    go_quiet (fail)
                    have hM2 := hMH.out.drewN nq
                    have cV3 : (wr.drewN nq).cell? ⟨V, k, none⟩ = some (.int .i64 x) := cV2
                    have ck3 : (wr.drewN nq).cell? ⟨b, off + k, none⟩ = some (.int .i64 z) := ck
                    have cS3 : (wr.drewN nq).cell? ⟨g4, k, none⟩ = some (.bool false) := cS
                    clear cV2 ck cC2 hMH cS
                    generalize wr.drewN nq = w4 at *
                    have hnx := hM2.out hlt hoH.out hwH.out hqH.out.symm
                    rw [if_pos rfl] at hnx
                    have hnxH := Lib.hid hnx
                    have fS := hM2.sent.frozen k
                    have hSW : W ≠ g4 := fun e => hM2.sent.ne_row hM2.now (by decide) e.symm
                    have hN5 := Row.far hM2.next (p := ⟨g4, k, none⟩) (fun e => hM2.ne.2.1 e.symm) (.bool true)
                    have cN := BoolRow.at_ hN5 hq
                    have fN := Row.frozen hN5 q
                    have hNW : W ≠ N := fun e => Row.ne hM2.next hM2.now (by decide) e.symm
                    have hW5 := Row.far (Row.far hM2.now (p := ⟨g4, k, none⟩) hSW (.bool true)) (p := ⟨N, q, none⟩) hNW (.bool true)
                    have cW := IntRow.at_ hW5 hq
                    have fW := Row.frozen hW5 q
                    clear hM2 hnx hNW hW5 hSW hN5
                    go_wp2_with fail
                    go_roundw
                    case rel => exact ⟨k + 1, by omega, by go_num, by rw [hcs.out]; go_num, hnxH.out, hkm2.out⟩
                    case measure => simp [intOf]; omega
          · have hkl : k = l.length := by omega
            subst hkl
            have hrT : Hid (r < T) := by
              unfold Hid
              have h1 := hrH.out
              have h2 := hkmH.out
              omega
            have hfin := Lib.hid hM.done
            have hms2 : Hid ((sim l (bat bl) (r + 1)).ms = ms + cnt (someB (outS l R)) l.length) := by
              unfold Hid
              rw [← hmmH.out, hRe.out]
              rfl
            have hsim : Hid (sim l (bat bl) (r + 1) = rsTo l R l.length) := by unfold Hid; rw [hRe.out]; rfl
            clear hM
            generalize hcc : cnt (someB (outS l R)) l.length = cc at *
            clear hcc
            go_wp2_with fail
            go_roundg (gk - 1)
            case rel => exact ⟨r + 1, N, W, by have := hrH.out; have := hrT.out; omega, rfl, rfl, by rw [hms2.out]; go_num, by rw [hsim.out]; exact hfin.out⟩
            case measure => have := hrH.out; have := hrT.out; omega
#print axioms leader_ref
end Go.Proofs.Ytcmfpnghejapbaa
