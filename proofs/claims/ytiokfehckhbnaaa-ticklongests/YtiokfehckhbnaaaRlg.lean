/-
  The contract of beaconryref.Longest.
-/
import Derived.Test.YtiokfehckhbnaaaRtk
import Derived.Test.YtiokfehckhbnaaaMost
import Derived.Test.YtiokfehckhbnaaaLng
namespace Go.Proofs.Ytiokfehckhbnaaa
open Go.RowKit Go.Maps

def RlgRel (l : List Ev) (w : World) (g T : Nat) (gs : Nat → Nat) (f : Nat → Nat → Bool) (m : Nat) (wr : World) : Prop :=
  ∃ A, NatRow wr g l.length A ∧ Done (fun i j => HB l j i) l.length (l.length - m) (fun j => m ≤ j ∧ j < l.length) A ∧ Tab wr w.heap.size T l.length l.length gs f ∧ Below w.heap.size w wr
def RlgMid (l : List Ev) (w : World) (g T : Nat) (gs : Nat → Nat) (f : Nat → Nat → Bool) (m j : Nat) (wr : World) : Prop :=
  ∃ A, NatRow wr g l.length A ∧ Pull (fun i j => HB l j i) l.length (l.length - (m + 1)) (fun j => m + 1 ≤ j ∧ j < l.length) m (fun i => m < i ∧ i < j) A ∧ Tab wr w.heap.size T l.length l.length gs f ∧ Below w.heap.size w wr
def RlgOut (l : List Ev) (D : Nat → Nat) (M : Nat) (w5 : World) (v : Value) (out : List Nat) (m : Nat) (wr : World) : Prop :=
  Chain l D M out ∧ out.length + m = M ∧ wr.ownsRow w5.heap.size 3 1 v out.length (natVals out) ∧ Below w5.heap.size w5 wr
/-- The longest chain. -/
def RlgRes (l : List Ev) (w : World) (e : Ending) (w' : World) : Prop :=
  ∃ (A : Option Addr) (cap : Nat) (out : List Nat) (D : Nat → Nat) (M : Nat), e = .returned (.slice A out.length cap) ∧ Rank (fun i j => HB l j i) l.length D ∧ Most D l.length M ∧ Chain l D M out ∧ out.length = M ∧
    Nums w' w'.heap.size A (out.map Int.ofNat) ∧ Below w.heap.size w w'

set_option maxHeartbeats 16000000 in
set_option maxRecDepth 100000 in
theorem reflongest_any (A : Option Addr) (cap : Nat) (l : List Ev) (w : World) (hE : Evs w w.heap.size A l) (h30 : l.length ≤ 30) :
    Calls Try.prog 16 #[.slice A l.length cap] w (RlgRes l w) := by
  obtain ⟨i0, hi0, hz0, hz1, hz2⟩ := info_parts info3
  have hz2' : i0.bytes * l.length ≤ 281474976710656 := by rw [hz2]; omega
  have hHi := Lib.hid hi0; have hHz := Lib.hid hz0; have hHs := Lib.hid hz1; have hHb := Lib.hid hz2
  clear hi0 hz0 hz1 hz2
  go_enter Try.func16, Try.ntmps16
  go_wp2_with fail
  refine (table_any A cap l _ hE h30).mono ?_
  rintro e w1 h
  obtain ⟨rfl, gs, f, hT, hf, hB1⟩ := h
  have hfH := Lib.hid hf
  clear hf
  go_wp2_with (first
    | (at_make; refine wpList_make_row _ rfl _ _ 23 rfl 3 i0 (.int .i64 0) Try.underlying23 hHi.out hHz.out hHs.out rfl .i64 .i64 _ _ l.length rfl rfl rfl rfl hz2' (by unfold maxLen; omega) ?_; intro w2 hR2 hG2))
  have hB2 : Below w.heap.size w w2 := hB1.grown hG2 hB1.size (by simp)
  have hT2 := hT.grown hG2
  have htl : w.heap.size < w1.heap.size := hT.topLt
  have hgl : Hid (∀ i, i < l.length → gs i < w1.heap.size) := fun i hi => hT.lt hi
  have hlow := hB1.size
  rw [natRow_zero] at hR2
  clear hT hB1 hG2
  generalize w1.heap.size = g at *
  have hne : Hid (∀ a, a < l.length → gs a ≠ g) := fun a ha => by have := hgl.out a ha; omega
  go_loopw [5] (fun t wr => ∃ m : Nat, m ≤ l.length ∧ t = .int .i64 ((m : Int) - 1) ∧ RlgRel l w g w.heap.size gs f m wr) (fun t _ => (intOf t + 1).toNat)
  case atStart => exact ⟨l.length, Nat.le_refl _, rfl, _, Row.block hR2 rfl, by rw [Nat.sub_self]; exact Done.begin _ _ (fun j h => by omega), hT2.heap rfl, hB2⟩
  case round =>
    rename World => w3
    obtain ⟨m, hm, rfl, T, hR, hDn, hT3, hB⟩ := hrel
    clear hR2 hT2 hB2
    cases m with
    | succ m =>
      have hml : m < l.length := by omega
      have e1 : ((m + 1 : Nat) : Int) - 1 = (m : Int) := by omega
      rw [e1]
      clear e1
      go_wp2_with fail
      go_loopw [6] (fun t wr => ∃ j : Nat, m < j ∧ j ≤ l.length ∧ t = .int .i64 j ∧ RlgMid l w g w.heap.size gs f m j wr) (fun t _ => l.length - (intOf t).toNat)
      case atStart => exact ⟨m + 1, by omega, by omega, by go_num, T, hR, hDn.pull (by omega) (fun i h => by omega), hT3, hB⟩
      case round =>
        obtain ⟨j, hmj, hj, rfl, U, hR4, hP4, hT4, hB4⟩ := hrel
        clear hR hDn hT3 hB
        by_cases hjl : j < l.length
        · have s1 := hT4.slot (i := m) hml hml
          have x1 := hT4.cell (i := m) (j := j) hml hjl
          have y1 := hR4.at_ (j := j) hjl
          have y2 := hR4.at_ (j := m) hml
          have yf := Row.frozen hR4 m
          have u1 := hP4.le j hjl
          have u2 := hP4.le m hml
          have hfi := Lib.hid (hfH.out m j hml hjl)
          generalize gs m = gi at *
          generalize f m j = b at *
          have hjI : (j : Int) < (l.length : Int) := by omega
          have hmI : (m : Int) < (l.length : Int) := by omega
          cases b with
          | false =>
            have hP5 : Pull (fun i j => HB l j i) l.length (l.length - (m + 1)) (fun j => m + 1 ≤ j ∧ j < l.length) m (fun i => m < i ∧ i < j + 1) U := hP4.skip (y := j) (fun a ha => by omega) (fun h => by have := hfi.out.2 h; cases this)
            go_wp2_with fail
            go_quiet (fail)
            go_wp2_with fail
            go_roundw
            case rel => exact ⟨j + 1, by omega, by omega, by go_num, U, hR4.heap rfl, hP5, hT4.heap rfl, below_drewN hB4 _⟩
            case measure => simp [intOf]; omega
          | true =>
            by_cases hgt : U m < U j
            · have hP5 : Pull (fun i j => HB l j i) l.length (l.length - (m + 1)) (fun j => m + 1 ≤ j ∧ j < l.length) m (fun i => m < i ∧ i < j + 1) (upd U m (max (U m) (U j))) := hP4.take (fun a b hb hab => by have := hab.lt; omega) (by omega) (fun a ha => by have := ha.lt; omega) hjl (hfi.out.1 rfl) (fun a ha => by omega)
              rw [Nat.max_eq_right (by omega)] at hP5
              have hRn := hR4.put m (U j)
              have hTn := hT4.far (p := ⟨g, m, none⟩) (by show w.heap.size ≠ g; omega) hne.out (.int .i64 ((U j : Nat) : Int))
              generalize upd U m (U j) = U1 at *
              clear hR4 hP4 hT4
              generalize U j = a1 at *
              generalize U m = a2 at *
              have hd : decide (a2 < a1) = true := by simp [hgt]
              go_wp2_with fail
              go_quiet (fail)
              go_wp2_with fail
              go_roundw
              case rel => exact ⟨j + 1, by omega, by omega, by go_num, U1, hRn.heap rfl, hP5, hTn.heap rfl, (below_drewN hB4 _).setCell (p := ⟨g, m, none⟩) hlow _⟩
              case measure => simp [intOf]; omega
            · have hP5 : Pull (fun i j => HB l j i) l.length (l.length - (m + 1)) (fun j => m + 1 ≤ j ∧ j < l.length) m (fun i => m < i ∧ i < j + 1) U := hP4.skip (y := j) (fun a ha => by omega) (fun _ => by omega)
              generalize U j = a1 at *
              generalize U m = a2 at *
              have hd : decide (a2 < a1) = false := by simp; omega
              go_wp2_with fail
              go_quiet (fail)
              go_wp2_with fail
              go_roundw
              case rel => exact ⟨j + 1, by omega, by omega, by go_num, U, hR4.heap rfl, hP5, hT4.heap rfl, below_drewN hB4 _⟩
              case measure => simp [intOf]; omega
        · have hjl' : j = l.length := by omega
          subst hjl'
          have hD5 : Done (fun i j => HB l j i) l.length (l.length - m) (fun j => m ≤ j ∧ j < l.length) (upd U m (U m + 1)) := by
            have := hP4.done (S' := fun j => m ≤ j ∧ j < l.length) (fun a b hb hab => by have := hab.lt; omega) (by omega) (fun a ha => by have := ha.lt; omega) (fun a ha => by have := ha.lt; omega) (fun j => by omega)
            rw [show l.length - (m + 1) + 1 = l.length - m by omega] at this
            exact this
          have y2 := hR4.at_ (j := m) hml
          have yf := Row.frozen hR4 m
          have u2 := hP4.le m hml
          have hRn := hR4.put m (U m + 1)
          have hTn := hT4.far (p := ⟨g, m, none⟩) (by show w.heap.size ≠ g; omega) hne.out (.int .i64 ((U m + 1 : Nat) : Int))
          have hBn : Below w.heap.size w (wr.setCell ⟨g, m, none⟩ (.int .i64 ((U m + 1 : Nat) : Int))) := hB4.setCell (p := ⟨g, m, none⟩) hlow _
          have hcast : ((U m + 1 : Nat) : Int) = (U m : Int) + 1 := by omega
          rw [hcast] at hRn hTn hBn
          generalize upd U m (U m + 1) = U1 at *
          clear hR4 hP4 hT4 hB4 hcast
          generalize U m = a2 at *
          have hmI : (m : Int) < (l.length : Int) := by omega
          go_wp2_with fail
          go_roundw
          case rel => exact ⟨m, by omega, rfl, U1, hRn, hD5, hTn, hBn⟩
          case measure => simp [intOf]
    | zero =>
      have e1 : ((0 : Nat) : Int) - 1 = -1 := rfl
      rw [e1]
      clear e1
      have hDle : ∀ j, j < l.length → T j ≤ l.length := fun j hj => by have := hDn.le j hj; omega
      have hD := hDn.rank (fun j hj => ⟨Nat.zero_le _, hj⟩)
      clear hDn
      have hleH := Lib.hid hDle
      go_wp2_with fail
      go_loop [7, 67] (fun s t => ∃ k : Nat, k ≤ l.length ∧ t = .int .i64 k ∧ s = .int .i64 (maxTo T k : Nat)) (fun _ t => l.length - (intOf t).toNat)
      case atStart => exact ⟨0, Nat.zero_le _, rfl, rfl⟩
      case round =>
        obtain ⟨k, hk, rfl, rfl⟩ := hrel
        have hmk := maxTo_le hleH.out k hk
        by_cases hkl : k < l.length
        · have c0 := hR.at_ hkl
          have t2 := hleH.out k hkl
          have hstep : Hid (maxTo T (k + 1) = max (maxTo T k) (T k)) := rfl
          generalize hmm : maxTo T k = mm at *
          have hmmH := Lib.hid hmm
          clear hmm hDle
          generalize T k = t at *
          by_cases hgt : mm < t
          · have hd : decide (mm < t) = true := by simp [hgt]
            have hn : Hid (maxTo T (k + 1) = t) := by unfold Hid; rw [hstep.out]; omega
            go_wp2_with fail
            go_round
            case rel => exact ⟨k + 1, by omega, by go_num, int_eq hn.out.symm⟩
            case measure => simp [intOf]; omega
          · have hd : decide (mm < t) = false := by simp; omega
            have hn : Hid (maxTo T (k + 1) = mm) := by unfold Hid; rw [hstep.out]; omega
            go_wp2_with fail
            go_round
            case rel => exact ⟨k + 1, by omega, by go_num, int_eq hn.out.symm⟩
            case measure => simp [intOf]; omega
        · have hkl' : k = l.length := by omega
          subst hkl'
          have hM := maxTo_most T l.length hD.one
          generalize maxTo T l.length = M at *
          clear hDle
          go_wp2_with fail
          go_loopw [7, 10] (fun s v wr => ∃ (m : Nat) (out : List Nat), s = .int .i64 m ∧ RlgOut l T M w3 v out m wr) (fun s _ _ => (intOf s).toNat)
          case atStart => exact ⟨M, [], rfl, Chain.nil _ _ _, by simp, World.ownsRow_nil _ _ _ _, Below.refl _ _⟩
          case round =>
            rename World => w6
            obtain ⟨m, out, rfl, hCh, hom, hOw, hB6⟩ := hrel
            obtain ⟨A9, c9, rfl, hN9⟩ := own_nums hOw
            have hBw := hB.trans (hB6.mono hB.size)
            by_cases hm0 : m = 0
            · subst hm0
              have homH : Hid (out.length = M) := by unfold Hid; omega
              clear hom
              go_wp2_with fail
              go_ret
              exact ⟨A9, c9, out, T, M, rfl, hD, hM, hCh, homH.out, hN9, hBw⟩
            · have hdm : decide ((0 : Int) < (m : Int)) = true := by simp; omega
              have hdm' : decide (0 < m) = true := by simp; omega
              have hmore := hCh.more hD hM (by omega)
              rw [show M - out.length = m by omega] at hmore
              have hmoreH := Lib.hid hmore
              have hR6 : NatRow w6 g l.length T := Row.below hR hB6 (Row.lt hR)
              have hT6 := hT3.below hB6
              have hol : out.length ≤ 30 := by omega
              have hm1 : 1 ≤ m := by omega
              clear hmore hm0
              go_wp2_with fail
              go_loop [10, 11] (fun v t => ∃ k : Nat, k ≤ l.length ∧ t = .int .i64 k ∧ v = .slice A9 out.length c9 ∧ ∀ x, x < k → T x = m → ¬ After l out.getLast? x) (fun _ t => l.length - (intOf t).toNat)
              case atStart => exact ⟨0, Nat.zero_le _, rfl, rfl, fun x hx => by omega⟩
              case round =>
                obtain ⟨k, hk, rfl, rfl, hnot⟩ := hrel
                have hnotH := Lib.hid hnot
                clear hnot
                by_cases hkl : k < l.length
                · have hkI : (k : Int) < (l.length : Int) := by omega
                  have c0 := hR6.at_ hkl
                  have t2 := hleH.out k hkl
                  have hnews := Lib.hid (news1 (w := w6) (.int .i64 (k : Int)) 3 rfl)
                  have hbase : w3.heap.size ≤ (w6.alloc (.cells #[.int .i64 (k : Int)] 3)).heap.size := by have := hB6.size; simp; omega
                  have hown6 := hOw.alloc (.cells #[.int .i64 (k : Int)] 3)
                  have hB6a : Below w3.heap.size w3 (w6.alloc (.cells #[.int .i64 (k : Int)] 3)) := hB6.alloc hB6.size _
                  by_cases htm : T k = m
                  · have hb1 : ((T k : Int) == (m : Int)) = true := by simp [htm]
                    have hb1' : (T k == m) = true := by simp [htm]
                    have htmH := Lib.hid htm
                    by_cases ho : out.length = 0
                    · have hout : out = [] := List.eq_nil_of_length_eq_zero ho
                      have hpick : Pick l T out.getLast? (M - out.length) k := ⟨hkl, by rw [htm]; omega, (fun x e => by rw [hout] at e; cases e), fun x hx hd => hnotH.out x hx (by rw [hd]; omega)⟩
                      have hb2 : ((out.length : Int) == 0) = true := by simp [ho]
                      have hb2' : (out.length == 0) = true := by simp [ho]
                      clear htm hout ho
                      generalize T k = tk at *
                      go_wp2_with (first
                        | (at_builtin; refine wpList_append_lies _ rfl (.tmp 109) (.tmp 111) 23 rfl w3.heap.size 3 i0 (.int .i64 0) 1 8 Try.underlying23 hHi.out hHz.out hHs.out hHb.out rfl (by decide) (.slice A9 out.length c9) out.length (natVals out) rfl hown6 ⟨w6.heap.size, 0, none⟩ 1 1 [.int .i64 (k : Int)] rfl rfl hnews.out (by simp [Value.oneCell']) (by omega) (by unfold maxLen; omega) (by omega) hbase _ rfl ?_; intro g7 c7 w7 hown7 hgrow7 hat7 hlt7; have hB7 : Below w3.heap.size w3 w7 := hB6a.grown hgrow7 hbase (fun j hj => (hown6.lt j hj).1)))
                      have hown8 : w7.ownsRow w3.heap.size 3 1 (.slice (some ⟨g7, 0, none⟩) (out.length + 1) c7) (out ++ [k]).length (natVals (out ++ [k])) := by
                        rw [show natVals (out ++ [k]) = natVals out ++ [.int .i64 (k : Int)] by simp [natVals], List.length_append, List.length_singleton]
                        exact hown7
                      go_roundw
                      case rel => exact ⟨m - 1, out ++ [k], by rw [show ((m - 1 : Nat) : Int) = (m : Int) - 1 by omega], hCh.push (by omega) hpick, by simp; omega, hown8, hB7⟩
                      case measure => simp [intOf]; omega
                    · have hgl2 : out.getLast? = some (out[out.length - 1]'(by omega)) := by rw [List.getLast?_eq_getElem?, List.getElem?_eq_getElem (by omega)]
                      have hb2 : ((out.length : Int) == 0) = false := beq_eq_false_iff_ne.2 (by omega)
                      have hb2' : (out.length == 0) = false := beq_eq_false_iff_ne.2 ho
                      obtain ⟨b, off, rfl, hb, hc⟩ := hN9 (by simp; omega)
                      have x1 := hc (out.length - 1) (by simp; omega)
                      simp only [List.getElem_map, Int.ofNat_eq_natCast] at x1
                      have hlast := hCh.last hgl2
                      clear hc
                      generalize out[out.length - 1]'(by omega) = xl at *
                      have hxl := hlast.1
                      have s1 := hT6.slot hxl hxl
                      have z1 := hT6.cell hxl hkl
                      have hfi := Lib.hid (hfH.out xl k hxl hkl)
                      have hgH := Lib.hid hgl2
                      have hxI : (xl : Int) < (l.length : Int) := by omega
                      have hq1 : (0 : Int) ≤ (out.length : Int) - 1 := by omega
                      have hq2 : (out.length : Int) - 1 < (out.length : Int) := by omega
                      have hq3 : ((out.length : Int) - 1).toNat = out.length - 1 := by omega
                      clear htm hlast hgl2 ho
                      generalize gs xl = gx at *
                      generalize f xl k = bb at *
                      cases bb with
                      | true =>
                        have hpick : Pick l T out.getLast? (M - out.length) k := ⟨hkl, by rw [htmH.out]; omega, (fun x e => by rw [hgH.out] at e; injection e with e; subst e; exact hfi.out.1 rfl), fun x hx hd => hnotH.out x hx (by rw [hd]; omega)⟩
                        generalize T k = tk at *
                        go_wp2_with (first
                          | (at_builtin; refine wpList_append_lies _ rfl (.tmp 109) (.tmp 111) 23 rfl w3.heap.size 3 i0 (.int .i64 0) 1 8 Try.underlying23 hHi.out hHz.out hHs.out hHb.out rfl (by decide) (.slice (some ⟨b, off, none⟩) out.length c9) out.length (natVals out) rfl hown6 ⟨w6.heap.size, 0, none⟩ 1 1 [.int .i64 (k : Int)] rfl rfl hnews.out (by simp [Value.oneCell']) (by omega) (by unfold maxLen; omega) (by omega) hbase _ rfl ?_; intro g7 c7 w7 hown7 hgrow7 hat7 hlt7; have hB7 : Below w3.heap.size w3 w7 := hB6a.grown hgrow7 hbase (fun j hj => (hown6.lt j hj).1)))
                        have hown8 : w7.ownsRow w3.heap.size 3 1 (.slice (some ⟨g7, 0, none⟩) (out.length + 1) c7) (out ++ [k]).length (natVals (out ++ [k])) := by
                          rw [show natVals (out ++ [k]) = natVals out ++ [.int .i64 (k : Int)] by simp [natVals], List.length_append, List.length_singleton]
                          exact hown7
                        go_roundw
                        case rel => exact ⟨m - 1, out ++ [k], by rw [show ((m - 1 : Nat) : Int) = (m : Int) - 1 by omega], hCh.push (by omega) hpick, by simp; omega, hown8, hB7⟩
                        case measure => simp [intOf]; omega
                      | false =>
                        have hno : Hid (¬ After l out.getLast? k) := fun ha => by have := hfi.out.2 (ha xl hgH.out); cases this
                        generalize hTk : T k = tk at *
                        clear hTk
                        go_wp2_with fail
                        go_round
                        case rel =>
                          refine ⟨k + 1, by omega, by go_num, rfl, fun x hx hd => ?_⟩
                          rcases Nat.lt_or_ge x k with h1 | h1
                          · exact hnotH.out x h1 hd
                          · have : x = k := by omega
                            subst this
                            exact hno.out
                        case measure => simp [intOf]; omega
                  · have hb1 : ((T k : Int) == (m : Int)) = false := by simp; omega
                    have hb1' : (T k == m) = false := by simp; omega
                    have htmH := Lib.hid htm
                    clear htm
                    generalize hTk : T k = tk at *
                    have hTkH := Lib.hid hTk
                    clear hTk
                    go_wp2_with fail
                    go_round
                    case rel =>
                      refine ⟨k + 1, by omega, by go_num, rfl, fun x hx hd => ?_⟩
                      rcases Nat.lt_or_ge x k with h1 | h1
                      · exact hnotH.out x h1 hd
                      · have : x = k := by omega
                        subst this
                        exact absurd (hTkH.out.symm.trans hd) htmH.out
                    case measure => simp [intOf]; omega
                · have hkl' : k = l.length := by omega
                  subst hkl'
                  obtain ⟨x, h1, h2, h3⟩ := hmoreH.out
                  exact absurd h3 (hnotH.out x h1 h2)

#print axioms reflongest_any
end Go.Proofs.Ytiokfehckhbnaaa
