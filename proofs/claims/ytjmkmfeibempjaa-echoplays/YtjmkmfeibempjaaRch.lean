/-
  The contract of beaconryref.Echo.
-/
import Derived.Test.YtjmkmfeibempjaaEcl
import Derived.Test.YtjmkmfeibempjaaLks
import Derived.Test.YtjmkmfeibempjaaNsd
import Derived.Deep.RegionHeld3
import Derived.Lib.QuietBelow
import Derived.Laws.OwnMore
import Derived.Test.YtjmkmfeibempjaaEpl
import Derived.Test.YtjmkmfeibempjaaCpz
import Derived.BigQuiet
import Derived.Deep.AppendLies
namespace Go.Proofs.Ytjmkmfeibempjaa
open Go.RowKit Go.Maps
set_option linter.unusedVariables false

def RchRes (w : World) (n s : Nat) (l : List Lk) (o : List Int) (e : Ending) (w' : World) : Prop :=
  ∃ A cap F, e = .returned (.agg #[.slice A o.length cap, .slice (some ⟨F, 0, none⟩) n n, .bool (decide ((esAt (nbs l n) s o o.length).took s = (nbs l n s).length)), .int .i64 ((esAt (nbs l n) s o o.length).sent : Int)]) ∧
    OwnC w' w.heap.size (.slice A o.length cap) ((List.range o.length).map (codeE (nbs l n) s o)) ∧ IntRow w' F n (esAt (nbs l n) s o o.length).par ∧ Below w.heap.size w w'
def Rc1 (w1 : World) (B n O F k : Nat) (wr : World) : Prop := ∃ A, IntRow wr F n A ∧ (∀ i, i < k → A i = -1) ∧ Row wr O 26 [.slice none 0 0, .slice (some ⟨F, 0, none⟩) n n, .bool false, .int .i64 0] ∧ Below B w1 wr
def Rc2 (w1 : World) (B n O F Y K s : Nat) (q : List Nat) (vq : Value) (k : Nat) (wr : World) : Prop := ∃ wv, EM wr B n O F Y K (ES.zero.spread s (q.take k)) [] (.slice none 0 0) wv ∧ OwnE wr B vq q ∧ Below B w1 wr
theorem OwnE.ke {w w' : World} {B n O F Y K : Nat} {S : ES} {cs : List Int} {cv wv wv' vq : Value} {q : List Nat} (h : OwnE w B vq q) (hE : EM w B n O F Y K S cs cv wv) (k : KE B O Y w w' wv wv') : OwnE w' B vq q :=
  h.blk fun g e => (k.oth g (World.ownsRow.lt h g e).2 (fun e' => owns_ne_row h hE.out (by decide) (e' ▸ e)) (fun e' => owns_ne_row h hE.vw (by decide) (e' ▸ e)) (owns_ne_owns h hE.let_ (by decide) e)).1

def codesTo (nb : Nat → List Nat) (s : Nat) (o : List Int) (k : Nat) : List Int := (List.range k).map (codeE nb s o)
theorem codesTo_succ (nb : Nat → List Nat) (s : Nat) (o : List Int) (k : Nat) : codesTo nb s o (k + 1) = codesTo nb s o k ++ [codeE nb s o k] := by simp [codesTo, List.range_succ]
theorem codesTo_len (nb : Nat → List Nat) (s : Nat) (o : List Int) (k : Nat) : (codesTo nb s o k).length = k := by simp [codesTo]
def Rc3 (w1 : World) (B n O Y K s : Nat) (nb : Nat → List Nat) (o : List Int) (k : Nat) (wr : World) : Prop := ∃ wv cv, EM wr B n O B Y K (esAt nb s o k) (codesTo nb s o k) cv wv ∧ Below B w1 wr
/-- In a round: a message has been taken out. -/
structure EX (w1 wr : World) (B n O Y K X f t : Nat) (S : ES) (cs : List Int) (cv wv : Value) : Prop where
  em : EM wr B n O B Y K S cs cv wv
  row : Row wr X 54 [.int .i64 (f : Int), .int .i64 (t : Int), .int .i64 0]
  nx : wv.ownBlock ≠ some X
  bel : Below B w1 wr
section
variable {w1 wr w' : World} {B n O Y K X f t : Nat} {S : ES} {cs : List Int} {cv wv wv' : Value}
theorem EX.below (h : EX w1 wr B n O Y K X f t S cs cv wv) (hb : Below wr.heap.size wr w') : EX w1 w' B n O Y K X f t S cs cv wv := ⟨h.em.below hb, h.row.below hb h.row.lt, h.nx, h.bel.trans (hb.mono h.em.sz)⟩
theorem EX.drew (h : EX w1 wr B n O Y K X f t S cs cv wv) : EX w1 wr.drew B n O Y K X f t S cs cv wv := ⟨h.em.drew, h.row.block rfl, h.nx, h.bel.drew⟩
theorem EX.drewN (h : EX w1 wr B n O Y K X f t S cs cv wv) (m : Nat) : EX w1 (wr.drewN m) B n O Y K X f t S cs cv wv := ⟨h.em.blocks fun _ _ _ => rfl, h.row.block rfl, h.nx, below_drewN h.bel m⟩
theorem EX.setTook (h : EX w1 wr B n O Y K X f t S cs cv wv) (i v : Nat) : EX w1 (wr.setCell ⟨K, i, none⟩ (.int .i64 (v : Int))) B n O Y K X f t ⟨upN S.took i v, S.par, S.way, S.sent⟩ cs cv wv := ⟨h.em.setTook i v, h.row.far (p := ⟨K, i, none⟩) (row_ne h.row h.em.tok (by decide)) _, h.nx, h.bel.setCell (p := ⟨K, i, none⟩) h.em.lowK _⟩
theorem EX.setFrom (h : EX w1 wr B n O Y K X f t S cs cv wv) (i : Nat) (v : Int) : EX w1 (wr.setCell ⟨B, i, none⟩ (.int .i64 v)) B n O Y K X f t ⟨S.took, upZ S.par i v, S.way, S.sent⟩ cs cv wv := ⟨h.em.setFrom i v, h.row.far (p := ⟨B, i, none⟩) (row_ne h.row h.em.frm (by decide)) _, h.nx, h.bel.setCell (p := ⟨B, i, none⟩) (Nat.le_refl _) _⟩
theorem EX.ke (h : EX w1 wr B n O Y K X f t S cs cv wv) {T : ES} (hE : EM w' B n O B Y K T cs cv wv') (k : KE B O Y wr w' wv wv') : EX w1 w' B n O Y K X f t T cs cv wv' := by
  obtain ⟨e1, e2⟩ := k.oth X h.row.lt (row_ne h.row h.em.out (by decide)) (row_ne h.row h.em.vw (by decide)) h.nx
  exact ⟨hE, h.row.block e1, e2, h.bel.trans k.low⟩
theorem EX.xs (h : EX w1 wr B n O Y K X f t S cs cv wv) : wr.cell? ⟨X, 0, none⟩ = some (.int .i64 (f : Int)) ∧ wr.cell? ⟨X, 1, none⟩ = some (.int .i64 (t : Int)) ∧ wr.cell? ⟨X, 2, none⟩ = some (.int .i64 0) := ⟨h.row.cell (by simp), h.row.cell (i := 1) (by simp), h.row.cell (i := 2) (by simp)⟩
end

def Rc4 (w1 : World) (B n O Y K X f t : Nat) (T : ES) (q : List Nat) (vq : Value) (cs : List Int) (cv : Value) (m : Nat) (wr : World) : Prop := ∃ wv, EX w1 wr B n O Y K X f t (T.spread t (q.take m)) cs cv wv ∧ OwnE wr B vq q

set_option maxRecDepth 20000 in
set_option maxHeartbeats 8000000 in
theorem rch_ok (A : Option Addr) (cap : Nat) (l : List Lk) (A2 : Option Addr) (cap2 : Nat) (o : List Int) (n s : Nat) (w : World) (hE : Lks w w.heap.size A l) (hE2 : Nums w w.heap.size A2 o) (hF2 : NumFits o) (h15 : l.length ≤ 15) (hn : n ≤ 6) (hs : s < n) (ho : o.length ≤ 60) (hL : LkOk n l) (hOn : Once l) :
    Calls Try.prog 10 #[.int .i64 (n : Int), .slice A l.length cap, .int .i64 (s : Int), .slice A2 o.length cap2] w (RchRes w n s l o) := by
  have hB1 := (Below.refl w.heap.size w).alloc (Nat.le_refl _) (.cells #[.slice none 0 0, .slice none 0 0, .bool false, .int .i64 0] 26)
  have hR1 := Lib.hid (Row.made w 26 [.slice none 0 0, .slice none 0 0, .bool false, .int .i64 0])
  obtain ⟨j0, hi0, hz0, hz1, hz2⟩ := info_parts infoInt
  have hJi := Lib.hid hi0; have hJz := Lib.hid hz0; have hJs := Lib.hid hz1
  have b2 : j0.bytes * n ≤ 281474976710656 := by rw [hz2]; omega
  have hEH := Lib.hid ((hE.below hB1).more (B' := (w.alloc (.cells #[.slice none 0 0, .slice none 0 0, .bool false, .int .i64 0] 26)).heap.size) (by simp))
  have hE2H := Lib.hid ((hE2.below hB1).more (B' := (w.alloc (.cells #[.slice none 0 0, .slice none 0 0, .bool false, .int .i64 0] 26)).heap.size) (by simp))
  have hB1H := Lib.hid hB1
  have hlt1 : Hid ((w.alloc (.cells #[.slice none 0 0, .slice none 0 0, .bool false, .int .i64 0] 26)).heap.size = w.heap.size + 1) := by unfold Hid; simp
  clear hi0 hz0 hz1 hz2 hE hE2 hB1
  go_enter Try.func10, Try.ntmps10
  go_wp2_with (first
    | (at_make; refine wpList_make_row _ rfl _ _ 23 rfl 3 j0 (.int .i64 0) Try.underlying23 hJi.out hJz.out hJs.out rfl .i64 .i64 _ _ n rfl rfl rfl rfl b2 (by unfold maxLen; omega) ?_; intro w2 hR2 hG2; have hR2H := Lib.hid hR2; have hG2H := Lib.hid hG2; clear hR2 hG2))
  generalize hw1 : w.alloc (.cells #[.slice none 0 0, .slice none 0 0, .bool false, .int .i64 0] 26) = w1 at *
  rw [hlt1.out] at hR2H hEH hE2H
  have hrel1 : Hid (Rc1 w1 (w.heap.size + 1) n w2.heap.size (w.heap.size + 1) 0 (w2.alloc (.cells #[.slice none 0 0, .slice (some ⟨w.heap.size + 1, 0, none⟩) n n, .bool false, .int .i64 0] 26))) := by
    have hsz2 : w.heap.size + 1 ≤ w2.heap.size := by have := hG2H.out.size; have := hlt1.out; omega
    have hR2 := hR2H.out
    rw [intRow_zero] at hR2
    exact ⟨fun _ => 0, Row.alloc hR2 _, fun i hi => by omega, Row.made w2 26 [.slice none 0 0, .slice (some ⟨w.heap.size + 1, 0, none⟩) n n, .bool false, .int .i64 0], ((Below.refl (w.heap.size + 1) w1).grown hG2H.out (by have := hlt1.out; omega) (fun b hb => by cases hb)).alloc hsz2 _⟩
  have hlowO : w.heap.size + 1 ≤ w2.heap.size := by have := hG2H.out.size; have := hlt1.out; omega
  clear hR2H hG2H
  generalize hBB : w.heap.size + 1 = B at *
  have hBBH := Lib.hid hBB
  clear hBB
  generalize w2.heap.size = O at *
  have hw1H := Lib.hid hw1
  clear hw1
  go_loopw [10] (fun t wr => ∃ k : Nat, k ≤ n ∧ t = .int .i64 k ∧ Rc1 w1 B n O B k wr) (fun t _ => n - (intOf t).toNat)
  case atStart => exact ⟨0, Nat.zero_le _, rfl, hrel1.out⟩
  case round =>
    clear hrel1
    obtain ⟨k, hk, rfl, X, hI, hX, hO, hB⟩ := hrel
    rename World => wr
    have o1 := hO.cell (i := 1) (by simp)
    simp only [List.getElem_cons_zero, List.getElem_cons_succ] at o1
    by_cases hlt : k < n
    · have hkI : (k : Int) < (n : Int) := by omega
      have x1 := IntRow.at_ hI hlt
      have xf := Row.frozen hI k
      have hI2 := Lib.hid (IntRow.put hI k (-1))
      have hO2 := Lib.hid (hO.far (p := ⟨B, k, none⟩) (row_ne hO hI (by decide)) (.int .i64 (-1)))
      have hB2 := Lib.hid (hB.setCell (p := ⟨B, k, none⟩) (Nat.le_refl _) (.int .i64 (-1)))
      have hX2 : Hid (∀ i, i < k + 1 → updI X k (-1) i = -1) := fun i hi => by
        unfold updI
        by_cases e : i = k
        · rw [if_pos e]
        · rw [if_neg e]; exact hX i (by omega)
      clear hI hO hB hX
      generalize X k = xk at *
      go_wp2_with fail
      go_roundw
      case rel => exact ⟨k + 1, by omega, by go_num, _, hI2.out, hX2.out, hO2.out, hB2.out⟩
      case measure => simp [intOf]; omega
    · have hkn : n = k := by omega
      subst hkn
      have hI' : IntRow wr B n ES.zero.par := hI.congr hX
      have hszr : B ≤ wr.heap.size := Nat.le_of_lt (Row.lt hI)
      have hI3 := Lib.hid hI'
      have hO3 := Lib.hid hO
      have hB3 := Lib.hid hB
      have hNB : Hid (B ≠ wr.heap.size + 1) := by have := Row.lt hI; unfold Hid; omega
      clear hI hI' hX hO hB o1
      go_wp2_with (first
        | (at_make; refine wpList_make_row _ rfl _ _ 23 rfl 3 j0 (.int .i64 0) Try.underlying23 hJi.out hJz.out hJs.out rfl .i64 .i64 _ _ n rfl rfl rfl rfl b2 (by unfold maxLen; omega) ?_; intro w4 hR4 hG4; have hR4H := Lib.hid hR4; have hG4H := Lib.hid hG4; clear hR4 hG4))
      have hEM4 : Hid (EM w4 B n O B wr.heap.size (wr.heap.size + 1) ES.zero [] (.slice none 0 0) (.slice none 0 0) ∧ Below B w1 w4) := by
        have hR4 := hR4H.out
        rw [intRow_zero, show (wr.alloc (.cells #[.slice none 0 0] 52)).heap.size = wr.heap.size + 1 by simp] at hR4
        have ha : ∀ g, g < wr.heap.size → w4.heap[g]? = wr.heap[g]? := fun g hg => by
          rw [hG4H.out.block g (by simp; omega) (by simp)]
          exact Below.heap_alloc wr _ g hg
        refine ⟨⟨hO3.out.block (ha O hO3.out.lt), Row.block hI3.out (ha B (Row.lt hI3.out)), (Row.made wr 52 [.slice none 0 0]).grown hG4H.out (by simp), hR4, ⟨rfl, .inl ⟨rfl, rfl⟩⟩, ⟨rfl, .inl ⟨rfl, rfl⟩⟩, hNB.out, hlowO, Nat.le_refl _, hszr, by omega⟩, (hB3.out.alloc hszr _).grown hG4H.out (by simp; omega) (fun b hb => by cases hb)⟩
      clear hR4H hG4H hNB hO3 hI3 hB3
      have hEM := Lib.hid hEM4.out.1
      have hB4 := Lib.hid hEM4.out.2
      have hsz4 := hEM4.out.1.sz
      clear hEM4
      generalize hK : wr.heap.size + 1 = K at *
      generalize wr.heap.size = Y at *
      clear hK hszr
      have hnear := Lib.hid (fun (w5 : World) (hB5 : Below B w1 w5) (i : Nat) => near_any A cap l n i w5 ((hEH.out.below hB5).more (by have := hB5.size; have := hlt1.out; omega)) h15 hn hOn)
      refine (hnear.out w4 hB4.out s).mono ?_
      rintro e w5 ⟨vq, rfl, hQ5, hB5⟩
      have hEM5 := Lib.hid (hEM.out.below hB5)
      have hB6 := Lib.hid (hB4.out.trans (hB5.mono hsz4))
      have hQ6 : Hid (OwnE w5 B vq (nbs l n s)) := ⟨hQ5.1, by
        rcases hQ5.2 with h7 | ⟨g, cap, cur, hv, h1, rest⟩
        · exact .inl h7
        · exact .inr ⟨g, cap, cur, hv, Nat.le_trans hsz4 h1, rest⟩⟩
      obtain ⟨Aq, capq, rfl, -, -, -⟩ := hQ5.shape
      have hql := nbs_len l n s
      have hfin2 : Hid (∀ q, nbs l n s = q → ES.zero.spread s (q.take q.length) = esAt (nbs l n) s o 0) := fun q e => by rw [List.take_length, ← e]; rfl
      generalize hq : nbs l n s = q at *
      have hqs := Lib.hid hq
      have hrel2 : Hid (Rc2 w1 B n O B Y K s q (.slice Aq q.length capq) 0 w5) := ⟨.slice none 0 0, by rw [List.take_zero, spread_zero]; exact hEM5.out, hQ6.out, hB6.out⟩
      clear hEM hB4 hQ5 hB5 hEM5 hB6 hQ6 hsz4
      go_wp2_with fail
      go_loopw [41] (fun t wr => ∃ k : Nat, k ≤ q.length ∧ t = .int .i64 k ∧ Rc2 w1 B n O B Y K s q (.slice Aq q.length capq) k wr) (fun t _ => q.length - (intOf t).toNat)
      case atStart => exact ⟨0, Nat.zero_le _, rfl, hrel2.out⟩
      case round =>
        clear hrel2
        obtain ⟨k, hk, rfl, wv, hEM, hQ, hB⟩ := hrel
        rename World => wr
        by_cases hlt : k < q.length
        · have hkI : (k : Int) < (q.length : Int) := by omega
          obtain ⟨gq, rfl, cq⟩ := hQ.at_ hlt
          have hyes : Hid (ES.zero.spread s (q.take (k + 1)) = (ES.zero.spread s (q.take k)).send s q[k]) := spread_yes ES.zero s hlt (by show (-1 : Int) ≠ _; omega)
          have hlen := spread_len ES.zero s (q.take k)
          have hll : Hid ((ES.zero.spread s (q.take k)).way.length ≤ 1000 ∧ (ES.zero.spread s (q.take k)).sent ≤ 1000) := by
            simp [ES.zero] at hlen
            unfold Hid; simp [ES.zero]; omega
          have hcall := Lib.hid (ecl_any wr B n O B Y K _ [] (.slice none 0 0) wv hEM s q[k] hll.out.1 hll.out.2)
          have hEMH := Lib.hid hEM
          have hQH := Lib.hid hQ
          have hBH := Lib.hid hB
          clear hEM hQ hB hlen hll
          generalize q[k] = x at *
          go_wp2_with fail
          refine hcall.out.mono ?_
          rintro e w6 ⟨rfl, wv', hEM6, hK6, hs6⟩
          have hnx : Hid (Rc2 w1 B n O B Y K s q (.slice (some ⟨gq, 0, none⟩) q.length capq) (k + 1) w6) := ⟨wv', by rw [hyes.out]; exact hEM6, hQH.out.ke hEMH.out hK6, hBH.out.trans hK6.low⟩
          clear hcall hEM6 hK6 hs6 hEMH hQH hBH hyes
          go_wp2_with fail
          go_roundw
          case rel => exact ⟨k + 1, by omega, by go_num, hnx.out⟩
          case measure => simp [intOf]; omega
        · have hkq : k = q.length := by omega
          subst hkq
          rw [hfin2.out q rfl] at hEM
          have hrel3 : Hid (Rc3 w1 B n O Y K s (nbs l n) o 0 wr) := ⟨wv, .slice none 0 0, hEM, hB⟩
          have hmild := Lib.hid (fun k => mild_at hL h15 hn hs o k)
          obtain ⟨j1, hi0, hz0, hz1, hz2⟩ := info_parts infoErr
          have hMi := Lib.hid hi0; have hMz := Lib.hid hz0; have hMs := Lib.hid hz1; have hMb := Lib.hid hz2
          clear hEM hQ hB hfin2 hi0 hz0 hz1 hz2
          go_wp2_with fail
          go_loopw [52] (fun t wr => ∃ k : Nat, k ≤ o.length ∧ t = .int .i64 k ∧ Rc3 w1 B n O Y K s (nbs l n) o k wr) (fun t _ => o.length - (intOf t).toNat)
          case atStart => exact ⟨0, Nat.zero_le _, rfl, hrel3.out⟩
          case round =>
            clear hrel3
            obtain ⟨k, hk, rfl, wv, cv, hEM, hB⟩ := hrel
            rename World => wr
            have hszr : B ≤ wr.heap.size := hEM.sz
            by_cases hlt : k < o.length
            · have hkI : (k : Int) < (o.length : Int) := by omega
              obtain ⟨b, off, rfl, hb, hcc⟩ := (hE2H.out.below hB) (by omega)
              have c0 := hcc k hlt
              clear hcc
              have hgd : o.getD k 0 = o[k] := by simp [hlt]
              have hfit : I64 o[k] := hF2 _ (List.getElem_mem hlt)
              have hstep : Hid (esAt (nbs l n) s o (k + 1) = (esAt (nbs l n) s o k).step (nbs l n) s o[k]) := by unfold Hid; rw [esAt, hgd]
              have hcode : Hid (codesTo (nbs l n) s o (k + 1) = codesTo (nbs l n) s o k ++ [(esAt (nbs l n) s o k).code o[k]]) := by unfold Hid; rw [codesTo_succ, codeE, hgd]
              have hM := Lib.hid (hmild.out k)
              have hcl := codesTo_len (nbs l n) s o k
              generalize hS : esAt (nbs l n) s o k = S at *
              generalize o[k] = x at *
              generalize hcs : codesTo (nbs l n) s o k = cs at *
              have hclH := Lib.hid hcl
              have hcl60 : cs.length ≤ 60 := by omega
              clear hgd hS hcs hcl
              obtain ⟨Ac, capc, hcv, hcc1, hcc2, -⟩ := hEM.cod.shape
              subst hcv
              obtain ⟨A9, cap9, hv9, hc91, hc92, hLA⟩ := hEM.let_.shape
              rw [ltr_len] at hv9 hc91
              subst hv9
              have y0 := hEM.var
              obtain ⟨o0, o1, o2, o3⟩ := hEM.outs
              by_cases hin : inWay S x = true
              · obtain ⟨kk, rfl⟩ : ∃ kk : Nat, x = (kk : Int) := ⟨x.toNat, by unfold inWay at hin; simp at hin; omega⟩
                have hkk : kk < S.way.length := by unfold inWay at hin; simp at hin; omega
                have hkkI : (kk : Int) < (S.way.length : Int) := by omega
                have v1 : decide ((kk : Int) < 0) = false := decide_eq_false (by omega)
                have v2 : decide ((kk : Int) ≥ (S.way.length : Int)) = false := decide_eq_false (by omega)
                have v2' : decide ((S.way.length : Int) ≤ (kk : Int)) = false := decide_eq_false (by omega)
                obtain ⟨g9, rfl, hg9, l0, l1, l2⟩ := hLA kk (by rw [ltr_len]; exact hkk)
                rw [ltr_at hkk] at l0 l1 l2
                have hmsg := hM.out.msg S.way[kk] (List.getElem_mem hkk)
                have hs1 : Hid (S.step (nbs l n) s (kk : Int) = ES.take ⟨S.took, S.par, S.way.take kk ++ S.way.drop (kk + 1), S.sent⟩ (nbs l n) s S.way[kk].1 S.way[kk].2) := by
                  unfold Hid ES.step
                  rw [if_pos hin, Int.toNat_natCast, ES.recv]
                  simp [hkk]
                have hc1 : Hid (S.code (kk : Int) = 0) := by unfold Hid ES.code; rw [if_pos hin]
                obtain ⟨f, t, hft⟩ : ∃ f t, S.way[kk] = (f, t) := ⟨_, _, rfl⟩
                rw [hft] at l0 l1 l2 hmsg hs1
                simp only at l0 l1 l2 hmsg
                have htI : (t : Int) < (n : Int) := by omega
                have hway : Hid ((S.way.take kk ++ S.way.drop (kk + 1)).length ≤ 700) := by have := hM.out.way; unfold Hid; simp; omega
                have hEMa := hEM.alloc (.cells #[.int .i64 (f : Int), .int .i64 (t : Int), .int .i64 0] 54)
                have hBa := hB.alloc hszr (.cells #[.int .i64 (f : Int), .int .i64 (t : Int), .int .i64 0] 54)
                have hrow := Row.made wr 54 [.int .i64 (f : Int), .int .i64 (t : Int), .int .i64 0]
                have hwot := without_any g9 cap9 (ltr S.way) kk (wr.alloc (.cells #[.int .i64 (f : Int), .int .i64 (t : Int), .int .i64 0] 54)) (hLA.below ((Below.refl wr.heap.size wr).alloc (Nat.le_refl _) _)) (by rw [ltr_len]; have := hM.out.way; omega) (by rw [ltr_len]; exact hkk) (by rw [ltr_len]; exact hc91) hc92
                rw [ltr_len, ← ltr_cut] at hwot
                have z0 := hEMa.var
                have zf := hEMa.vw.frozen 0
                have hwotH := Lib.hid hwot
                have hEMaH := Lib.hid hEMa
                have hBaH := Lib.hid hBa
                have hrowH := Lib.hid hrow
                have hst2 : Hid (esAt (nbs l n) s o (k + 1) = ES.take ⟨S.took, S.par, S.way.take kk ++ S.way.drop (kk + 1), S.sent⟩ (nbs l n) s f t) := by unfold Hid; rw [hstep.out, hs1.out]
                have hcodes : Hid (codesTo (nbs l n) s o (k + 1) = cs ++ [0]) := by unfold Hid; rw [hcode.out, hc1.out]
                clear hEM hB hLA hEMa hBa hrow hwot hft hin hstep hcode hs1 hc1
                go_wp2_with fail
                refine hwotH.out.mono ?_
                rintro e w6 ⟨v6, rfl, hL6, hB6⟩
                obtain ⟨A6, cap6, hv6, -, -, -⟩ := hL6.shape
                generalize hl6 : (ltr (S.way.take kk ++ S.way.drop (kk + 1))).length = L6 at hv6
                subst hv6
                have y6 := (hEMaH.out.below hB6).var
                have yf6 := (hEMaH.out.below hB6).vw.frozen 0
                have hEX7 : Hid (EX w1 (w6.setCell ⟨Y, 0, none⟩ (.slice A6 L6 cap6)) B n O Y K wr.heap.size f t ⟨S.took, S.par, S.way.take kk ++ S.way.drop (kk + 1), S.sent⟩ cs (.slice Ac cs.length capc) (.slice A6 L6 cap6)) := by
                  have hlow : B ≤ (wr.alloc (.cells #[.int .i64 (f : Int), .int .i64 (t : Int), .int .i64 0] 54)).heap.size := hEMaH.out.sz
                  have hL6' : OwnL w6 B (.slice A6 L6 cap6) (ltr (S.way.take kk ++ S.way.drop (kk + 1))) := ⟨hL6.1, by
                    rcases hL6.2 with h7 | ⟨g, cap, cur, hv, h1, rest⟩
                    · exact .inl h7
                    · exact .inr ⟨g, cap, cur, hv, Nat.le_trans hlow h1, rest⟩⟩
                  refine ⟨hEMaH.out.setWay hL6' (fun g h1 _ => hB6.block g h1), ?_, ?_, ?_⟩
                  · have hr6 := hrowH.out.below hB6 hrowH.out.lt
                    exact hr6.far (p := ⟨Y, 0, none⟩) (row_ne hr6 (hEMaH.out.below hB6).vw (by decide)) _
                  · intro e
                    have := (World.ownsRow.lt hL6 wr.heap.size e).1
                    simp at this
                    omega
                  · exact (hBaH.out.trans (hB6.mono hlow)).setCell (p := ⟨Y, 0, none⟩) hEMaH.out.lowY _
                clear hwotH hEMaH hBaH hrowH hL6 hB6 l0 l1 l2 y0 o0 o1 o2 o3 z0 zf
                generalize S.way.take kk ++ S.way.drop (kk + 1) = way at *
                go_wp2_with fail
                clear y6 yf6
                generalize w6.setCell ⟨Y, 0, none⟩ (.slice A6 L6 cap6) = w7 at *
                generalize wr.heap.size = X at *
                obtain ⟨x0, x1, -⟩ := hEX7.out.xs
                have k1 := IntRow.at_ hEX7.out.em.tok hmsg.2
                have kf := Row.frozen hEX7.out.em.tok t
                have htk := hM.out.took t
                have hEX8 : Hid (EX w1 (w7.setCell ⟨K, t, none⟩ (.int .i64 ((S.took t : Int) + 1))).drew B n O Y K X f t ⟨upN S.took t (S.took t + 1), S.par, way, S.sent⟩ cs (.slice Ac cs.length capc) (.slice A6 L6 cap6)) := (hEX7.out.setTook t (S.took t + 1)).drew
                have hsp0 := hM.out.par t
                have hsn2 := hM.out.sent
                simp only at k1
                clear hM hEX7
                generalize hTK : S.took t = tk at *
                have hTKH := Lib.hid hTK
                clear hTK
                go_region
                clear x0 x1 k1 kf
                generalize (w7.setCell ⟨K, t, none⟩ (.int .i64 ((tk : Int) + 1))).drew = w8 at *
                by_cases hts : t = s
                · -- the start has got it
                  have v5 : ((t : Int) != (s : Int)) = false := by simp [hts]
                  have hU : Hid (esAt (nbs l n) s o (k + 1) = ⟨upN S.took t (tk + 1), S.par, way, S.sent⟩) := by
                    unfold Hid
                    rw [hst2.out, ES.take, if_pos hts, hTKH.out]
                  obtain ⟨x0, x1, -⟩ := hEX8.out.xs
                  clear hts
                  go_wp2_with fail
                  go_quiet (fail)
                  have hEX9 := Lib.hid (hEX8.out.drewN nq)
                  generalize w8.drewN nq = w9 at *
                  clear x0 x1 hEX8
                  obtain ⟨o0, o1, o2, o3⟩ := (hEX9.out.em).outs
                  have hEMb := Lib.hid ((hEX9.out.em).alloc (.cells #[.int .i64 0] 27))
                  have hCb := hEMb.out.cod
                  unfold OwnC at hCb
                  have hszU := (hEX9.out.em).sz
                  have hBb := Lib.hid ((hEX9.out.bel).alloc hszU (.cells #[.int .i64 0] 27))
                  have hnews := Lib.hid (newsV (w := w9) (g := w9.heap.size) (.int .i64 0) 27 rfl)
                  have hbase : B ≤ (w9.alloc (.cells #[.int .i64 0] 27)).heap.size := by simp; omega
                  have hneO : Hid ((Value.slice Ac cs.length capc).ownBlock ≠ some O) := owns_ne_row hEMb.out.cod hEMb.out.out (by decide)
                  have hUU := Lib.hid (hU.out)
                  clear hEX9 hU
                  go_wp2_with (first
                    | (at_builtin; refine wpList_append_lies _ rfl (.tmp 154) (.tmp 155) 24 rfl B 27 j1 (.int .i64 0) 1 8 Try.underlying24 hMi.out hMz.out hMs.out hMb.out rfl (by decide) (.slice Ac cs.length capc) cs.length (codV cs) rfl hCb ⟨w9.heap.size, 0, none⟩ 1 1 [.int .i64 0] rfl rfl hnews.out (by simp [Value.oneCell']) (by omega) (by unfold maxLen; omega) (by omega) hbase _ rfl ?_; intro g5 cap5 w15 hown hgr hat hlt9
                       have f1 := hEMb.out.out.grown hgr (fun e => hneO.out e.symm)
                       have o5 := f1.cell (i := 0) (by simp)
                       simp only [List.getElem_cons_zero] at o5
                       have of5 := f1.frozen 0
                       have hnext : Hid (Rc3 w1 B n O Y K s (nbs l n) o (k + 1) (w15.setCell ⟨O, 0, none⟩ (.slice (some ⟨g5, 0, none⟩) (cs.length + 1) cap5))) := ⟨_, _, by rw [hUU.out, hcodes.out]; exact hEMb.out.setCod hown hgr, ((hBb.out.grown hgr hbase (fun b hb => (World.ownsRow.lt hEMb.out.cod b hb).1)).setCell (p := ⟨O, 0, none⟩) hEMb.out.lowO _)⟩
                       clear hown hgr hat hlt9 f1 hCb hEMb hBb))
                  go_roundw
                  case rel => exact ⟨k + 1, by omega, by go_num, hnext.out⟩
                  case measure => simp [intOf]; omega
                · have v5 : ((t : Int) != (s : Int)) = true := by simp; omega
                  by_cases h0 : tk = 0
                  · -- the first message
                    subst h0
                    have v6 : (((0 : Nat) : Int) + 1 == 1) = true := by simp
                    have v6' : ((0 : Int) + 1 == 1) = true := by simp
                    obtain ⟨x0, x1, -⟩ := hEX8.out.xs
                    have k9 := IntRow.at_ hEX8.out.em.tok hmsg.2
                    simp only [upN_same] at k9
                    obtain ⟨o0, o1, o2, o3⟩ := hEX8.out.em.outs
                    have f9 := IntRow.at_ hEX8.out.em.frm hmsg.2
                    have ff9 := Row.frozen hEX8.out.em.frm t
                    have hEX9 := Lib.hid (hEX8.out.setFrom t (f : Int))
                    have hback0 : Hid (esAt (nbs l n) s o (k + 1) = (ES.spread ⟨upN S.took t (0 + 1), upZ S.par t f, way, S.sent⟩ t (nbs l n t)).back (nbs l n t).length t) := by
                      unfold Hid
                      rw [hst2.out, ES.take, if_neg hts, if_pos hTKH.out]
                    clear hEX8 hts
                    simp only at f9 hEX9
                    generalize S.par t = pp at f9
                    obtain ⟨z0, z1, -⟩ := hEX9.out.xs
                    go_wp2_with fail
                    clear x0 x1 k9 o0 o1 o2 o3 f9 ff9 z0 z1
                    generalize w8.setCell ⟨B, t, none⟩ (.int .i64 (f : Int)) = w9 at *
                    refine (hnear.out w9 hEX9.out.bel t).mono ?_
                    rintro e w10 ⟨vq2, rfl, hQ10, hB10⟩
                    have hszB := hEX9.out.em.sz
                    have hEX10 := Lib.hid (hEX9.out.below hB10)
                    have hQ2 : Hid (OwnE w10 B vq2 (nbs l n t)) := ⟨hQ10.1, by
                      rcases hQ10.2 with h7 | ⟨g, cap, cur, hv, h1, rest⟩
                      · exact .inl h7
                      · exact .inr ⟨g, cap, cur, hv, Nat.le_trans hszB h1, rest⟩⟩
                    obtain ⟨Aq2, capq2, hv2, -, -, -⟩ := hQ10.shape
                    subst hv2
                    generalize hT3 : ES.mk (upN S.took t (0 + 1)) (upZ S.par t f) way S.sent = T3 at *
                    have h3p : Hid (T3.par t = (f : Int)) := by unfold Hid; rw [← hT3]; exact upZ_same _ _ _
                    have h3t : Hid (T3.took t = 1) := by unfold Hid; rw [← hT3]; exact upN_same _ _ _
                    have h3w : Hid (T3.way.length ≤ 700 ∧ T3.sent ≤ 700) := by unfold Hid; rw [← hT3]; exact ⟨hway.out, hsn2⟩
                    have hq6 := nbs_len l n t
                    have hqe : Hid (∀ q, nbs l n t = q → T3.spread t (q.take q.length) = T3.spread t (nbs l n t)) := fun q e => by rw [List.take_length, e]
                    generalize hq2 : nbs l n t = q2 at *
                    have hq2H := Lib.hid hq2
                    have hrel4 : Hid (Rc4 w1 B n O Y K X f t T3 q2 (.slice Aq2 q2.length capq2) cs (.slice Ac cs.length capc) 0 w10) := ⟨_, by rw [List.take_zero, spread_zero]; exact hEX10.out, hQ2.out⟩
                    clear hQ10 hB10 hEX9 hEX10 hQ2 hT3 hq2
                    go_wp2_with fail
                    go_loopw [111] (fun t' wr => ∃ m : Nat, m ≤ q2.length ∧ t' = .int .i64 m ∧ Rc4 w1 B n O Y K X f t T3 q2 (.slice Aq2 q2.length capq2) cs (.slice Ac cs.length capc) m wr) (fun t' _ => q2.length - (intOf t').toNat)
                    case atStart => exact ⟨0, Nat.zero_le _, rfl, hrel4.out⟩
                    case round =>
                      clear hrel4
                      obtain ⟨m, hm, rfl, wv4, hEX, hQ⟩ := hrel
                      rename World => wz
                      by_cases hlm : m < q2.length
                      · have hmI : (m : Int) < (q2.length : Int) := by omega
                        obtain ⟨gq2, hAq2, cq⟩ := hQ.at_ hlm
                        subst hAq2
                        obtain ⟨x0, x1, -⟩ := hEX.xs
                        have hlen := spread_len T3 t (q2.take m)
                        have hll : Hid ((T3.spread t (q2.take m)).way.length ≤ 1000 ∧ (T3.spread t (q2.take m)).sent ≤ 1000) := by
                          have h3 := h3w.out
                          simp at hlen
                          unfold Hid; omega
                        have hyes := Lib.hid (spread_yes T3 t hlm)
                        have hno := Lib.hid (spread_no T3 t hlm)
                        generalize q2[m] = y at *
                        by_cases hyf : (y : Int) = (f : Int)
                        · have v8 : ((y : Int) != (f : Int)) = false := by simpa using hyf
                          have hnx : Hid (Rc4 w1 B n O Y K X f t T3 q2 (.slice (some ⟨gq2, 0, none⟩) q2.length capq2) cs (.slice Ac cs.length capc) (m + 1) wz) := ⟨_, by rw [hno.out (by rw [h3p.out]; exact hyf.symm)]; exact hEX, hQ⟩
                          clear hEX hQ hyes hno hlen hll hyf
                          go_wp2_with fail
                          go_roundw
                          case rel => exact ⟨m + 1, by omega, by go_num, hnx.out⟩
                          case measure => simp [intOf]; omega
                        · have v8 : ((y : Int) != (f : Int)) = true := by simpa using hyf
                          have hsp := Lib.hid (hyes.out (by rw [h3p.out]; exact fun e => hyf e.symm))
                          have hcall := Lib.hid (ecl_any wz B n O B Y K _ cs (.slice Ac cs.length capc) wv4 hEX.em t y hll.out.1 hll.out.2)
                          have hEXH := Lib.hid hEX
                          have hQH := Lib.hid hQ
                          clear hEX hQ hyes hno hlen hll hyf
                          go_wp2_with fail
                          refine hcall.out.mono ?_
                          rintro e w12 ⟨rfl, wv5, hEM12, hK12, hs12⟩
                          have hnx : Hid (Rc4 w1 B n O Y K X f t T3 q2 (.slice (some ⟨gq2, 0, none⟩) q2.length capq2) cs (.slice Ac cs.length capc) (m + 1) w12) := ⟨wv5, by rw [hsp.out]; exact hEXH.out.ke hEM12 hK12, hQH.out.ke hEXH.out.em hK12⟩
                          clear hcall hEM12 hK12 hs12 hEXH hQH hsp
                          go_wp2_with fail
                          go_roundw
                          case rel => exact ⟨m + 1, by omega, by go_num, hnx.out⟩
                          case measure => simp [intOf]; omega
                      · have hmq : m = q2.length := by omega
                        subst hmq
                        rw [hqe.out q2 rfl] at hEX
                        have hEXZ := Lib.hid hEX
                        have hz : Hid (((T3.spread t q2).took t : Int) = 1) := by unfold Hid; show (T3.took t : Int) = 1; rw [h3t.out]; rfl
                        have hzN : Hid ((T3.spread t q2).took t = 1) := h3t.out
                        have hp : Hid ((T3.spread t q2).par t = (f : Int)) := h3p.out
                        have hZl : Hid ((T3.spread t q2).way.length ≤ 1000 ∧ (T3.spread t q2).sent ≤ 1000) := by
                          have hlen := spread_len T3 t q2
                          have h3 := h3w.out
                          unfold Hid; omega
                        generalize hZ : T3.spread t q2 = Zs at *
                        have hbackH := Lib.hid hback0.out
                        clear hEX hQ hback0 h3p h3t h3w hqe hZ
                        rw [← hq2H.out] at hbackH
                        obtain ⟨x0, x1, -⟩ := hEXZ.out.xs
                        have k9 := IntRow.at_ hEXZ.out.em.tok hmsg.2
                        rw [hz.out] at k9
                        have hXlt := hEXZ.out.row.lt
                        have hKlt := Row.lt hEXZ.out.em.tok
                        have hnr := Lib.hid (hnear.out wz.drew hEXZ.out.bel.drew t)
                        go_wp2_with fail
                        go_region_held3 (fun w' => w'.cell? ⟨X, 1, none⟩ = some (.int .i64 (t : Int)) ∧ w'.cell? ⟨K, t, none⟩ = some (.int .i64 (1))) (first | go_keep) (first
                          | (go_at_call 23; refine (hnr.out).mono ?_; rintro e w11 ⟨vq3, rfl, hQ11, hB11⟩
                             obtain ⟨Aq3, capq3, hv3, -, -, -⟩ := hQ11.shape
                             subst hv3
                             have x11 : w11.cell? ⟨X, 1, none⟩ = some (.int .i64 (t : Int)) := (hB11.cell (p := ⟨X, 1, none⟩) hXlt).trans x1
                             have k11 : w11.cell? ⟨K, t, none⟩ = some (.int .i64 (1)) := (hB11.cell (p := ⟨K, t, none⟩) hKlt).trans k9))
                        have hEX11 := Lib.hid (hEXZ.out.drew.below hB11)
                        clear hnr x0 x1 k9 x11 k11 hQ11 hB11 hEXZ
                        generalize hL : (nbs l n t).length = L at *
                        have hLH := Lib.hid hL
                        clear hL
                        by_cases hcd : (1 : Int) = (L : Int)
                        · have v7 : ((1 : Int) == (L : Int)) = true := by simpa using hcd
                          have hsend : Hid (esAt (nbs l n) s o (k + 1) = Zs.send t f) := by
                            unfold Hid
                            rw [hbackH.out, ES.back, if_pos (by have := hzN.out; omega), hp.out]; rfl
                          obtain ⟨x0, x1, -⟩ := hEX11.out.xs
                          obtain ⟨o0, o1, o2, o3⟩ := hEX11.out.em.outs
                          have f9 := IntRow.at_ hEX11.out.em.frm hmsg.2
                          rw [hp.out] at f9
                          have hcall := Lib.hid (ecl_any w11.drew B n O B Y K Zs cs (.slice Ac cs.length capc) _ hEX11.out.em.drew t f (by have := hZl.out; omega) (by have := hZl.out; omega))
                          have hEX12 := Lib.hid hEX11.out.drew
                          clear hcd hEX11
                          go_wp2_with fail
                          go_region_held3 (fun w' => w'.cell? ⟨X, 1, none⟩ = some (.int .i64 (t : Int)) ∧ w'.cell? ⟨O, 1, none⟩ = some (.slice (some ⟨B, 0, none⟩) n n) ∧ w'.cell? ⟨B, t, none⟩ = some (.int .i64 (f : Int))) (first | go_keep) (first
                            | (go_at_call 22; refine (hcall.out).mono ?_; rintro e w13 ⟨rfl, wv13, hEM13, hK13, hs13⟩
                               have hEX13 := Lib.hid (hEX12.out.ke hEM13 hK13)
                               have x13 := hEX13.out.xs.2.1
                               have o13 := hEM13.outs.2.1
                               have f13 := IntRow.at_ hEM13.frm hmsg.2
                               have f13' : w13.cell? ⟨B, t, none⟩ = some (.int .i64 (f : Int)) := by rw [f13]; exact congrArg (fun z => some (Value.int .i64 z)) hp.out
                               clear f13))
                          clear hcall x0 x1 o0 o1 o2 o3 f9 x13 o13 f13' hEM13 hK13 hs13 hEX12
                          obtain ⟨o0, o1, o2, o3⟩ := (hEX13.out.em).outs
                          have hEMb := Lib.hid ((hEX13.out.em).alloc (.cells #[.int .i64 0] 27))
                          have hCb := hEMb.out.cod
                          unfold OwnC at hCb
                          have hszU := (hEX13.out.em).sz
                          have hBb := Lib.hid ((hEX13.out.bel).alloc hszU (.cells #[.int .i64 0] 27))
                          have hnews := Lib.hid (newsV (w := w13) (g := w13.heap.size) (.int .i64 0) 27 rfl)
                          have hbase : B ≤ (w13.alloc (.cells #[.int .i64 0] 27)).heap.size := by simp; omega
                          have hneO : Hid ((Value.slice Ac cs.length capc).ownBlock ≠ some O) := owns_ne_row hEMb.out.cod hEMb.out.out (by decide)
                          have hUU := Lib.hid (hsend.out)
                          clear hEX13 hsend
                          go_wp2_with (first
                            | (at_builtin; refine wpList_append_lies _ rfl (.tmp 154) (.tmp 155) 24 rfl B 27 j1 (.int .i64 0) 1 8 Try.underlying24 hMi.out hMz.out hMs.out hMb.out rfl (by decide) (.slice Ac cs.length capc) cs.length (codV cs) rfl hCb ⟨w13.heap.size, 0, none⟩ 1 1 [.int .i64 0] rfl rfl hnews.out (by simp [Value.oneCell']) (by omega) (by unfold maxLen; omega) (by omega) hbase _ rfl ?_; intro g5 cap5 w15 hown hgr hat hlt9
                               have f1 := hEMb.out.out.grown hgr (fun e => hneO.out e.symm)
                               have o5 := f1.cell (i := 0) (by simp)
                               simp only [List.getElem_cons_zero] at o5
                               have of5 := f1.frozen 0
                               have hnext : Hid (Rc3 w1 B n O Y K s (nbs l n) o (k + 1) (w15.setCell ⟨O, 0, none⟩ (.slice (some ⟨g5, 0, none⟩) (cs.length + 1) cap5))) := ⟨_, _, by rw [hUU.out, hcodes.out]; exact hEMb.out.setCod hown hgr, ((hBb.out.grown hgr hbase (fun b hb => (World.ownsRow.lt hEMb.out.cod b hb).1)).setCell (p := ⟨O, 0, none⟩) hEMb.out.lowO _)⟩
                               clear hown hgr hat hlt9 f1 hCb hEMb hBb))
                          go_roundw
                          case rel => exact ⟨k + 1, by omega, by go_num, hnext.out⟩
                          case measure => simp [intOf]; omega
                        · have v7 : ((1 : Int) == (L : Int)) = false := by simpa using hcd
                          have hstay : Hid (esAt (nbs l n) s o (k + 1) = Zs) := by
                            unfold Hid
                            rw [hbackH.out, ES.back, if_neg (by have := hzN.out; omega)]
                          clear hcd
                          obtain ⟨o0, o1, o2, o3⟩ := (hEX11.out.em).outs
                          have hEMb := Lib.hid ((hEX11.out.em).alloc (.cells #[.int .i64 0] 27))
                          have hCb := hEMb.out.cod
                          unfold OwnC at hCb
                          have hszU := (hEX11.out.em).sz
                          have hBb := Lib.hid ((hEX11.out.bel).alloc hszU (.cells #[.int .i64 0] 27))
                          have hnews := Lib.hid (newsV (w := w11) (g := w11.heap.size) (.int .i64 0) 27 rfl)
                          have hbase : B ≤ (w11.alloc (.cells #[.int .i64 0] 27)).heap.size := by simp; omega
                          have hneO : Hid ((Value.slice Ac cs.length capc).ownBlock ≠ some O) := owns_ne_row hEMb.out.cod hEMb.out.out (by decide)
                          have hUU := Lib.hid (hstay.out)
                          clear hEX11 hstay
                          go_wp2_with (first
                            | (at_builtin; refine wpList_append_lies _ rfl (.tmp 154) (.tmp 155) 24 rfl B 27 j1 (.int .i64 0) 1 8 Try.underlying24 hMi.out hMz.out hMs.out hMb.out rfl (by decide) (.slice Ac cs.length capc) cs.length (codV cs) rfl hCb ⟨w11.heap.size, 0, none⟩ 1 1 [.int .i64 0] rfl rfl hnews.out (by simp [Value.oneCell']) (by omega) (by unfold maxLen; omega) (by omega) hbase _ rfl ?_; intro g5 cap5 w15 hown hgr hat hlt9
                               have f1 := hEMb.out.out.grown hgr (fun e => hneO.out e.symm)
                               have o5 := f1.cell (i := 0) (by simp)
                               simp only [List.getElem_cons_zero] at o5
                               have of5 := f1.frozen 0
                               have hnext : Hid (Rc3 w1 B n O Y K s (nbs l n) o (k + 1) (w15.setCell ⟨O, 0, none⟩ (.slice (some ⟨g5, 0, none⟩) (cs.length + 1) cap5))) := ⟨_, _, by rw [hUU.out, hcodes.out]; exact hEMb.out.setCod hown hgr, ((hBb.out.grown hgr hbase (fun b hb => (World.ownsRow.lt hEMb.out.cod b hb).1)).setCell (p := ⟨O, 0, none⟩) hEMb.out.lowO _)⟩
                               clear hown hgr hat hlt9 f1 hCb hEMb hBb))
                          go_roundw
                          case rel => exact ⟨k + 1, by omega, by go_num, hnext.out⟩
                          case measure => simp [intOf]; omega
                  · -- a later one
                    have v6 : ((tk : Int) + 1 == 1) = false := by simp; omega
                    obtain ⟨x0, x1, -⟩ := hEX8.out.xs
                    have k9 := IntRow.at_ hEX8.out.em.tok hmsg.2
                    simp only [upN_same] at k9
                    obtain ⟨p, hpp⟩ := hsp0 hts (by have := hTKH.out; omega)
                    generalize hZ : ES.mk (upN S.took t (tk + 1)) S.par way S.sent = Zs at *
                    have hz : Hid ((Zs.took t : Int) = (tk : Int) + 1) := by unfold Hid; rw [← hZ]; show ((upN S.took t (tk + 1) t : Nat) : Int) = _; rw [upN_same]; rfl
                    have hzN : Hid (Zs.took t = tk + 1) := by unfold Hid; rw [← hZ]; exact upN_same _ _ _
                    have hp : Hid (Zs.par t = (p : Int)) := by unfold Hid; rw [← hZ]; exact hpp
                    have hZl : Hid (Zs.way.length ≤ 1000 ∧ Zs.sent ≤ 1000) := by unfold Hid; rw [← hZ]; have := hway.out; exact ⟨by show way.length ≤ 1000; omega, by show S.sent ≤ 1000; omega⟩
                    have hbackH : Hid (esAt (nbs l n) s o (k + 1) = Zs.back (nbs l n t).length t) := by
                      unfold Hid
                      rw [hst2.out, ES.take, if_neg hts, if_neg (by rw [hTKH.out]; exact h0), hTKH.out, hZ]
                    clear hZ hts hpp hsp0
                    go_wp2_with fail
                    clear x0 x1 k9
                    obtain ⟨x0, x1, -⟩ := hEX8.out.xs
                    have k9 := IntRow.at_ hEX8.out.em.tok hmsg.2
                    rw [hz.out] at k9
                    have hXlt := hEX8.out.row.lt
                    have hKlt := Row.lt hEX8.out.em.tok
                    have hnr := Lib.hid (hnear.out w8.drew hEX8.out.bel.drew t)
                    go_wp2_with fail
                    go_region_held3 (fun w' => w'.cell? ⟨X, 1, none⟩ = some (.int .i64 (t : Int)) ∧ w'.cell? ⟨K, t, none⟩ = some (.int .i64 ((tk : Int) + 1))) (first | go_keep) (first
                      | (go_at_call 23; refine (hnr.out).mono ?_; rintro e w11 ⟨vq3, rfl, hQ11, hB11⟩
                         obtain ⟨Aq3, capq3, hv3, -, -, -⟩ := hQ11.shape
                         subst hv3
                         have x11 : w11.cell? ⟨X, 1, none⟩ = some (.int .i64 (t : Int)) := (hB11.cell (p := ⟨X, 1, none⟩) hXlt).trans x1
                         have k11 : w11.cell? ⟨K, t, none⟩ = some (.int .i64 ((tk : Int) + 1)) := (hB11.cell (p := ⟨K, t, none⟩) hKlt).trans k9))
                    have hEX11 := Lib.hid (hEX8.out.drew.below hB11)
                    clear hnr x0 x1 k9 x11 k11 hQ11 hB11 hEX8
                    generalize hL : (nbs l n t).length = L at *
                    have hLH := Lib.hid hL
                    clear hL
                    by_cases hcd : ((tk : Int) + 1 : Int) = (L : Int)
                    · have v7 : (((tk : Int) + 1 : Int) == (L : Int)) = true := by simpa using hcd
                      have hsend : Hid (esAt (nbs l n) s o (k + 1) = Zs.send t p) := by
                        unfold Hid
                        rw [hbackH.out, ES.back, if_pos (by have := hzN.out; omega), hp.out]; rfl
                      obtain ⟨x0, x1, -⟩ := hEX11.out.xs
                      obtain ⟨o0, o1, o2, o3⟩ := hEX11.out.em.outs
                      have f9 := IntRow.at_ hEX11.out.em.frm hmsg.2
                      rw [hp.out] at f9
                      have hcall := Lib.hid (ecl_any w11.drew B n O B Y K Zs cs (.slice Ac cs.length capc) _ hEX11.out.em.drew t p (by have := hZl.out; omega) (by have := hZl.out; omega))
                      have hEX12 := Lib.hid hEX11.out.drew
                      clear hcd hEX11
                      go_wp2_with fail
                      go_region_held3 (fun w' => w'.cell? ⟨X, 1, none⟩ = some (.int .i64 (t : Int)) ∧ w'.cell? ⟨O, 1, none⟩ = some (.slice (some ⟨B, 0, none⟩) n n) ∧ w'.cell? ⟨B, t, none⟩ = some (.int .i64 (p : Int))) (first | go_keep) (first
                        | (go_at_call 22; refine (hcall.out).mono ?_; rintro e w13 ⟨rfl, wv13, hEM13, hK13, hs13⟩
                           have hEX13 := Lib.hid (hEX12.out.ke hEM13 hK13)
                           have x13 := hEX13.out.xs.2.1
                           have o13 := hEM13.outs.2.1
                           have f13 := IntRow.at_ hEM13.frm hmsg.2
                           have f13' : w13.cell? ⟨B, t, none⟩ = some (.int .i64 (p : Int)) := by rw [f13]; exact congrArg (fun z => some (Value.int .i64 z)) hp.out
                           clear f13))
                      clear hcall x0 x1 o0 o1 o2 o3 f9 x13 o13 f13' hEM13 hK13 hs13 hEX12
                      obtain ⟨o0, o1, o2, o3⟩ := (hEX13.out.em).outs
                      have hEMb := Lib.hid ((hEX13.out.em).alloc (.cells #[.int .i64 0] 27))
                      have hCb := hEMb.out.cod
                      unfold OwnC at hCb
                      have hszU := (hEX13.out.em).sz
                      have hBb := Lib.hid ((hEX13.out.bel).alloc hszU (.cells #[.int .i64 0] 27))
                      have hnews := Lib.hid (newsV (w := w13) (g := w13.heap.size) (.int .i64 0) 27 rfl)
                      have hbase : B ≤ (w13.alloc (.cells #[.int .i64 0] 27)).heap.size := by simp; omega
                      have hneO : Hid ((Value.slice Ac cs.length capc).ownBlock ≠ some O) := owns_ne_row hEMb.out.cod hEMb.out.out (by decide)
                      have hUU := Lib.hid (hsend.out)
                      clear hEX13 hsend
                      go_wp2_with (first
                        | (at_builtin; refine wpList_append_lies _ rfl (.tmp 154) (.tmp 155) 24 rfl B 27 j1 (.int .i64 0) 1 8 Try.underlying24 hMi.out hMz.out hMs.out hMb.out rfl (by decide) (.slice Ac cs.length capc) cs.length (codV cs) rfl hCb ⟨w13.heap.size, 0, none⟩ 1 1 [.int .i64 0] rfl rfl hnews.out (by simp [Value.oneCell']) (by omega) (by unfold maxLen; omega) (by omega) hbase _ rfl ?_; intro g5 cap5 w15 hown hgr hat hlt9
                           have f1 := hEMb.out.out.grown hgr (fun e => hneO.out e.symm)
                           have o5 := f1.cell (i := 0) (by simp)
                           simp only [List.getElem_cons_zero] at o5
                           have of5 := f1.frozen 0
                           have hnext : Hid (Rc3 w1 B n O Y K s (nbs l n) o (k + 1) (w15.setCell ⟨O, 0, none⟩ (.slice (some ⟨g5, 0, none⟩) (cs.length + 1) cap5))) := ⟨_, _, by rw [hUU.out, hcodes.out]; exact hEMb.out.setCod hown hgr, ((hBb.out.grown hgr hbase (fun b hb => (World.ownsRow.lt hEMb.out.cod b hb).1)).setCell (p := ⟨O, 0, none⟩) hEMb.out.lowO _)⟩
                           clear hown hgr hat hlt9 f1 hCb hEMb hBb))
                      go_roundw
                      case rel => exact ⟨k + 1, by omega, by go_num, hnext.out⟩
                      case measure => simp [intOf]; omega
                    · have v7 : (((tk : Int) + 1 : Int) == (L : Int)) = false := by simpa using hcd
                      have hstay : Hid (esAt (nbs l n) s o (k + 1) = Zs) := by
                        unfold Hid
                        rw [hbackH.out, ES.back, if_neg (by have := hzN.out; omega)]
                      clear hcd
                      obtain ⟨o0, o1, o2, o3⟩ := (hEX11.out.em).outs
                      have hEMb := Lib.hid ((hEX11.out.em).alloc (.cells #[.int .i64 0] 27))
                      have hCb := hEMb.out.cod
                      unfold OwnC at hCb
                      have hszU := (hEX11.out.em).sz
                      have hBb := Lib.hid ((hEX11.out.bel).alloc hszU (.cells #[.int .i64 0] 27))
                      have hnews := Lib.hid (newsV (w := w11) (g := w11.heap.size) (.int .i64 0) 27 rfl)
                      have hbase : B ≤ (w11.alloc (.cells #[.int .i64 0] 27)).heap.size := by simp; omega
                      have hneO : Hid ((Value.slice Ac cs.length capc).ownBlock ≠ some O) := owns_ne_row hEMb.out.cod hEMb.out.out (by decide)
                      have hUU := Lib.hid (hstay.out)
                      clear hEX11 hstay
                      go_wp2_with (first
                        | (at_builtin; refine wpList_append_lies _ rfl (.tmp 154) (.tmp 155) 24 rfl B 27 j1 (.int .i64 0) 1 8 Try.underlying24 hMi.out hMz.out hMs.out hMb.out rfl (by decide) (.slice Ac cs.length capc) cs.length (codV cs) rfl hCb ⟨w11.heap.size, 0, none⟩ 1 1 [.int .i64 0] rfl rfl hnews.out (by simp [Value.oneCell']) (by omega) (by unfold maxLen; omega) (by omega) hbase _ rfl ?_; intro g5 cap5 w15 hown hgr hat hlt9
                           have f1 := hEMb.out.out.grown hgr (fun e => hneO.out e.symm)
                           have o5 := f1.cell (i := 0) (by simp)
                           simp only [List.getElem_cons_zero] at o5
                           have of5 := f1.frozen 0
                           have hnext : Hid (Rc3 w1 B n O Y K s (nbs l n) o (k + 1) (w15.setCell ⟨O, 0, none⟩ (.slice (some ⟨g5, 0, none⟩) (cs.length + 1) cap5))) := ⟨_, _, by rw [hUU.out, hcodes.out]; exact hEMb.out.setCod hown hgr, ((hBb.out.grown hgr hbase (fun b hb => (World.ownsRow.lt hEMb.out.cod b hb).1)).setCell (p := ⟨O, 0, none⟩) hEMb.out.lowO _)⟩
                           clear hown hgr hat hlt9 f1 hCb hEMb hBb))
                      go_roundw
                      case rel => exact ⟨k + 1, by omega, by go_num, hnext.out⟩
                      case measure => simp [intOf]; omega
              · have hno : Hid (S.step (nbs l n) s x = S ∧ S.code x = 4) := ⟨by unfold ES.step; rw [if_neg hin], by unfold ES.code; rw [if_neg hin]⟩
                have hU : Hid (esAt (nbs l n) s o (k + 1) = S) := by unfold Hid; rw [hstep.out, hno.out.1]
                have hcodes : Hid (codesTo (nbs l n) s o (k + 1) = cs ++ [4]) := by unfold Hid; rw [hcode.out, hno.out.2]
                have hEMH := Lib.hid hEM
                have hBH := Lib.hid hB
                have hl700 := hM.out.way
                clear hEM hB hLA hstep hcode hno hM
                by_cases hx0 : x < 0
                · have v1 : decide (x < 0) = true := decide_eq_true hx0
                  clear hin hx0 o0 o1 o2 o3
                  obtain ⟨o0, o1, o2, o3⟩ := (hEMH.out).outs
                  have hEMb := Lib.hid ((hEMH.out).alloc (.cells #[.int .i64 4] 27))
                  have hCb := hEMb.out.cod
                  unfold OwnC at hCb
                  have hszU := (hEMH.out).sz
                  have hBb := Lib.hid ((hBH.out).alloc hszU (.cells #[.int .i64 4] 27))
                  have hnews := Lib.hid (newsV (w := wr) (g := wr.heap.size) (.int .i64 4) 27 rfl)
                  have hbase : B ≤ (wr.alloc (.cells #[.int .i64 4] 27)).heap.size := by simp; omega
                  have hneO : Hid ((Value.slice Ac cs.length capc).ownBlock ≠ some O) := owns_ne_row hEMb.out.cod hEMb.out.out (by decide)
                  have hUU := Lib.hid (hU.out)
                  clear hEMH hBH hU
                  go_wp2_with (first
                    | (at_builtin; refine wpList_append_lies _ rfl (.tmp 65) (.tmp 66) 24 rfl B 27 j1 (.int .i64 0) 1 8 Try.underlying24 hMi.out hMz.out hMs.out hMb.out rfl (by decide) (.slice Ac cs.length capc) cs.length (codV cs) rfl hCb ⟨wr.heap.size, 0, none⟩ 1 1 [.int .i64 4] rfl rfl hnews.out (by simp [Value.oneCell']) (by omega) (by unfold maxLen; omega) (by omega) hbase _ rfl ?_; intro g5 cap5 w15 hown hgr hat hlt9
                       have f1 := hEMb.out.out.grown hgr (fun e => hneO.out e.symm)
                       have o5 := f1.cell (i := 0) (by simp)
                       simp only [List.getElem_cons_zero] at o5
                       have of5 := f1.frozen 0
                       have hnext : Hid (Rc3 w1 B n O Y K s (nbs l n) o (k + 1) (w15.setCell ⟨O, 0, none⟩ (.slice (some ⟨g5, 0, none⟩) (cs.length + 1) cap5))) := ⟨_, _, by rw [hUU.out, hcodes.out]; exact hEMb.out.setCod hown hgr, ((hBb.out.grown hgr hbase (fun b hb => (World.ownsRow.lt hEMb.out.cod b hb).1)).setCell (p := ⟨O, 0, none⟩) hEMb.out.lowO _)⟩
                       clear hown hgr hat hlt9 f1 hCb hEMb hBb))
                  go_roundw
                  case rel => exact ⟨k + 1, by omega, by go_num, hnext.out⟩
                  case measure => simp [intOf]; omega
                · have v1 : decide (x < 0) = false := decide_eq_false hx0
                  have v2 : decide (x ≥ (S.way.length : Int)) = true := decide_eq_true (by unfold inWay at hin; simp at hin; omega)
                  have v2' : decide ((S.way.length : Int) ≤ x) = true := v2
                  clear hin hx0 o0 o1 o2 o3
                  obtain ⟨o0, o1, o2, o3⟩ := (hEMH.out).outs
                  have hEMb := Lib.hid ((hEMH.out).alloc (.cells #[.int .i64 4] 27))
                  have hCb := hEMb.out.cod
                  unfold OwnC at hCb
                  have hszU := (hEMH.out).sz
                  have hBb := Lib.hid ((hBH.out).alloc hszU (.cells #[.int .i64 4] 27))
                  have hnews := Lib.hid (newsV (w := wr) (g := wr.heap.size) (.int .i64 4) 27 rfl)
                  have hbase : B ≤ (wr.alloc (.cells #[.int .i64 4] 27)).heap.size := by simp; omega
                  have hneO : Hid ((Value.slice Ac cs.length capc).ownBlock ≠ some O) := owns_ne_row hEMb.out.cod hEMb.out.out (by decide)
                  have hUU := Lib.hid (hU.out)
                  clear hEMH hBH hU
                  go_wp2_with (first
                    | (at_builtin; refine wpList_append_lies _ rfl (.tmp 65) (.tmp 66) 24 rfl B 27 j1 (.int .i64 0) 1 8 Try.underlying24 hMi.out hMz.out hMs.out hMb.out rfl (by decide) (.slice Ac cs.length capc) cs.length (codV cs) rfl hCb ⟨wr.heap.size, 0, none⟩ 1 1 [.int .i64 4] rfl rfl hnews.out (by simp [Value.oneCell']) (by omega) (by unfold maxLen; omega) (by omega) hbase _ rfl ?_; intro g5 cap5 w15 hown hgr hat hlt9
                       have f1 := hEMb.out.out.grown hgr (fun e => hneO.out e.symm)
                       have o5 := f1.cell (i := 0) (by simp)
                       simp only [List.getElem_cons_zero] at o5
                       have of5 := f1.frozen 0
                       have hnext : Hid (Rc3 w1 B n O Y K s (nbs l n) o (k + 1) (w15.setCell ⟨O, 0, none⟩ (.slice (some ⟨g5, 0, none⟩) (cs.length + 1) cap5))) := ⟨_, _, by rw [hUU.out, hcodes.out]; exact hEMb.out.setCod hown hgr, ((hBb.out.grown hgr hbase (fun b hb => (World.ownsRow.lt hEMb.out.cod b hb).1)).setCell (p := ⟨O, 0, none⟩) hEMb.out.lowO _)⟩
                       clear hown hgr hat hlt9 f1 hCb hEMb hBb))
                  go_roundw
                  case rel => exact ⟨k + 1, by omega, by go_num, hnext.out⟩
                  case measure => simp [intOf]; omega
            · have hko : k = o.length := by omega
              subst hko
              have hcl := codesTo_len (nbs l n) s o o.length
              have hdec : Hid (∀ S : ES, S = esAt (nbs l n) s o o.length → decide (S.took s = (nbs l n s).length) = decide ((esAt (nbs l n) s o o.length).took s = (nbs l n s).length) ∧ S.sent = (esAt (nbs l n) s o o.length).sent ∧ S.par = (esAt (nbs l n) s o o.length).par) := fun S e => by rw [e]; exact ⟨rfl, rfl, rfl⟩
              generalize hSS : esAt (nbs l n) s o o.length = S at hEM
              have hSH := Lib.hid hSS
              clear hSS
              obtain ⟨Ac, capc, hcv, -, -, -⟩ := hEM.cod.shape
              rw [hcl] at hcv
              subst hcv
              obtain ⟨o0, o1, o2, o3⟩ := hEM.outs
              have of2 := hEM.out.frozen 2
              have k9 := IntRow.at_ hEM.tok hs
              have hKlt := Row.lt hEM.tok
              have hnr := Lib.hid (hnear.out wr.drew hB.drew s)
              have hEMd := Lib.hid hEM.drew
              have hBd := Lib.hid hB.drew
              have hsd := hEM.drew.sz
              have htn : ((S.took s : Int) == ((nbs l n s).length : Int)) = decide (S.took s = (nbs l n s).length) := by rw [Bool.eq_iff_iff]; simp; omega
              clear hEM hB
              rw [hqs.out] at htn hnr hdec
              generalize hdd : decide (S.took s = q.length) = dd at *
              generalize hst : S.took s = ts at *
              have hddH := Lib.hid hdd
              have hstH := Lib.hid hst
              clear hdd hst
              go_wp2_with fail
              go_region_held3 (fun w' => w'.cell? ⟨K, s, none⟩ = some (.int .i64 (ts : Int))) (first | go_keep) (first
                | (go_at_call 23; refine (hnr.out).mono ?_; rintro e w11 ⟨vq3, rfl, hQ11, hB11⟩
                   obtain ⟨Aq3, capq3, hv3, -, -, -⟩ := hQ11.shape
                   subst hv3
                   have k11 : w11.cell? ⟨K, s, none⟩ = some (.int .i64 (ts : Int)) := (hB11.cell (p := ⟨K, s, none⟩) hKlt).trans k9
                   have hEM11 := Lib.hid (hEMd.out.below hB11)
                   have p0 := hEM11.out.outs.1
                   have p1 := hEM11.out.outs.2.1
                   have p2 := hEM11.out.outs.2.2.1
                   have p3 := hEM11.out.outs.2.2.2
                   have pf2 := hEM11.out.out.frozen 2
                   have k12 : (w11.setCell ⟨O, 2, none⟩ (.bool dd)).cell? ⟨K, s, none⟩ = some (.int .i64 (ts : Int)) := (IntRow.at_ (Row.far (p := ⟨O, 2, none⟩) hEM11.out.tok (row_ne hEM11.out.tok hEM11.out.out (by decide)) (.bool dd)) hs).trans (by rw [hstH.out])))
              have hO12 := hEM11.out.out.set 2 (.bool dd)
              have hB12 : Below B w1 (w11.setCell ⟨O, 2, none⟩ (.bool dd)) := (hBd.out.trans (hB11.mono hsd)).setCell (p := ⟨O, 2, none⟩) hlowO _
              have hC12 : OwnC (w11.setCell ⟨O, 2, none⟩ (.bool dd)) B (.slice Ac o.length capc) (codesTo (nbs l n) s o o.length) := owns_blk hEM11.out.cod fun g e => Below.heap_setCell w11 ⟨O, 2, none⟩ _ g fun e' => owns_ne_row hEM11.out.cod hEM11.out.out (by decide) (e.trans (congrArg some e'))
              have hI12 : IntRow (w11.setCell ⟨O, 2, none⟩ (.bool dd)) B n S.par := Row.far (p := ⟨O, 2, none⟩) hEM11.out.frm (row_ne hEM11.out.frm hEM11.out.out (by decide)) _
              clear hEM11 p0 p1 p2 p3 pf2 k12 k11 hB11 hQ11 o0 o1 o2 o3 of2 k9 hnr hEMd hBd
              generalize w11.setCell ⟨O, 2, none⟩ (.bool dd) = w12 at *
              have a0 := hO12.cell (i := 0) (by simp)
              have a1 := hO12.cell (i := 1) (by simp)
              have a2 := hO12.cell (i := 2) (by simp)
              have a3 := hO12.cell (i := 3) (by simp)
              simp at a0 a1 a2 a3
              have hRlt : Hid (w.heap.size < B) := by have := hBBH.out; unfold Hid; omega
              have hR12 := hR1.out.below hB12 hRlt.out
              have r0 := hR12.cell (i := 0) (by simp)
              have r1 := hR12.cell (i := 1) (by simp)
              have r2 := hR12.cell (i := 2) (by simp)
              have r3 := hR12.cell (i := 3) (by simp)
              have f0 := hR12.frozen 0
              have f1 := hR12.frozen 1
              have f2 := hR12.frozen 2
              have f3 := hR12.frozen 3
              simp only [List.getElem_cons_zero, List.getElem_cons_succ] at r0 r1 r2 r3
              have hR7 := (((hR12.set 0 (.slice Ac o.length capc)).set 1 (.slice (some ⟨B, 0, none⟩) n n)).set 2 (.bool dd)).set 3 (.int .i64 (S.sent : Int))
              have hBw := hB1H.out.trans (hB12.mono (Nat.le_of_lt hRlt.out))
              have hB7 : Hid (Below w.heap.size w ((((w12.setCell ⟨w.heap.size, 0, none⟩ (.slice Ac o.length capc)).setCell ⟨w.heap.size, 1, none⟩ (.slice (some ⟨B, 0, none⟩) n n)).setCell ⟨w.heap.size, 2, none⟩ (.bool dd)).setCell ⟨w.heap.size, 3, none⟩ (.int .i64 (S.sent : Int)))) :=
                (((hBw.setCell (p := ⟨w.heap.size, 0, none⟩) (Nat.le_refl _) _).setCell (p := ⟨w.heap.size, 1, none⟩) (Nat.le_refl _) _).setCell (p := ⟨w.heap.size, 2, none⟩) (Nat.le_refl _) _).setCell (p := ⟨w.heap.size, 3, none⟩) (Nat.le_refl _) _
              have hblk : Hid (∀ g, g ≠ w.heap.size → ((((w12.setCell ⟨w.heap.size, 0, none⟩ (.slice Ac o.length capc)).setCell ⟨w.heap.size, 1, none⟩ (.slice (some ⟨B, 0, none⟩) n n)).setCell ⟨w.heap.size, 2, none⟩ (.bool dd)).setCell ⟨w.heap.size, 3, none⟩ (.int .i64 (S.sent : Int))).heap[g]? = w12.heap[g]?) := fun g hg => by
                rw [Below.heap_setCell _ _ _ g hg, Below.heap_setCell _ _ _ g hg, Below.heap_setCell _ _ _ g hg, Below.heap_setCell _ _ _ g hg]
              have hRH := Lib.hid hR7
              have hCH := Lib.hid hC12
              have hIH := Lib.hid hI12
              clear hR7 hBw hR12 hO12 hC12 hI12 hB12
              generalize htt : S.sent = tt at *
              have httH := Lib.hid htt
              clear htt
              go_wp2_with fail
              clear a0 a1 a2 a3 r0 r1 r2 r3 f0 f1 f2 f3
              generalize (((w12.setCell ⟨w.heap.size, 0, none⟩ (.slice Ac o.length capc)).setCell ⟨w.heap.size, 1, none⟩ (.slice (some ⟨B, 0, none⟩) n n)).setCell ⟨w.heap.size, 2, none⟩ (.bool dd)).setCell ⟨w.heap.size, 3, none⟩ (.int .i64 (tt : Int)) = w13 at *
              have q0 := hRH.out.cell (i := 0) (by simp)
              have q1 := hRH.out.cell (i := 1) (by simp)
              have q2 := hRH.out.cell (i := 2) (by simp)
              have q3 := hRH.out.cell (i := 3) (by simp)
              simp at q0 q1 q2 q3
              have hfin : Hid (RchRes w n s l o (.returned (.agg #[.slice Ac o.length capc, .slice (some ⟨B, 0, none⟩) n n, .bool dd, .int .i64 (tt : Int)])) w13) := by
                have e := hdec.out S hSH.out.symm
                have hC13 : OwnC w13 B (.slice Ac o.length capc) (codesTo (nbs l n) s o o.length) := owns_blk hCH.out fun g e => hblk.out g (by have := (World.ownsRow.lt hCH.out g e).1; have := hRlt.out; omega)
                have hI13 : IntRow w13 B n S.par := Row.block hIH.out (hblk.out B (by have := hRlt.out; omega))
                have hC14 : OwnC w13 w.heap.size (.slice Ac o.length capc) (codesTo (nbs l n) s o o.length) := ⟨hC13.1, by
                  rcases hC13.2 with h7 | ⟨g, cap, cur, hv, h1, rest⟩
                  · exact .inl h7
                  · exact .inr ⟨g, cap, cur, hv, by have := hRlt.out; omega, rest⟩⟩
                refine ⟨_, capc, B, ?_, hC14, ?_, hB7.out⟩
                · rw [hqs.out, ← e.1, ← e.2.1, hstH.out, hddH.out, httH.out]
                · rw [← e.2.2]; exact hI13
              clear hRH hCH hIH hblk hB7 hdec hSH
              (try simp only [Exit.inBlock, Exit.then])
              refine bodyPost_ret (v := .agg #[.slice Ac o.length capc, .slice (some ⟨B, 0, none⟩) n n, .bool dd, .int .i64 (tt : Int)]) ?_ rfl hfin.out
              rw [results_cell1 rfl]
              go_simp
#print axioms rch_ok
end Go.Proofs.Ytjmkmfeibempjaa
