/-
  The contract of beaconryref.Ahead: the table tells what happens before what.
-/
import Derived.Test.YtpofmhlmaejmoaaTab
import Derived.Test.YtpofmhlmaejmoaaInfo
import Derived.StillTailTactics
import Derived.BigQuiet
import Derived.Deep.QuietTactic
namespace Go.Proofs.Ytpofmhlmaejmoaa
open Go.RowKit Go.Maps

theorem info28 : (Try.prog.info? 28).map (fun i => (i.zero, i.size, i.bytes)) = some (some (.slice none 0 0), 1, 24) := by kernel_rfl

def Rel1 (l : List Ev) (w : World) (k : Nat) (wr : World) : Prop := ∃ gs, Tab wr w.heap.size w.heap.size l.length k gs (dirB l) ∧ Below w.heap.size w wr
def Rel2 (l : List Ev) (w : World) (i j : Nat) (wr : World) : Prop := ∃ gs, Tab wr w.heap.size w.heap.size l.length (i + 1) gs (part l i j) ∧ Below w.heap.size w wr
def Rel3 (l : List Ev) (w : World) (k i j : Nat) (wr : World) : Prop := ∃ gs f, Tab wr w.heap.size w.heap.size l.length l.length gs f ∧ CompAt l k i j f ∧ Below w.heap.size w wr

def Rel4 (l : List Ev) (w : World) (k : Nat) (wr : World) : Prop := ∃ gs f, Tab wr w.heap.size w.heap.size l.length l.length gs f ∧ (Sound l f ∧ Comp l k f) ∧ Below w.heap.size w wr

/-- The table is laid, and tells what happens before what. -/
def IsTable (l : List Ev) (w : World) (e : Ending) (w' : World) : Prop :=
  e = .returned (.slice (some ⟨w.heap.size, 0, none⟩) l.length l.length) ∧ ∃ gs f, Tab w' w.heap.size w.heap.size l.length l.length gs f ∧ (∀ i j, i < l.length → j < l.length → (f i j = true ↔ HB l i j)) ∧ Below w.heap.size w w'

set_option maxHeartbeats 16000000 in
set_option maxRecDepth 100000 in
theorem table_any (A : Option Addr) (cap : Nat) (l : List Ev) (w : World) (hE : Evs w w.heap.size A l) (h30 : l.length ≤ 30) :
    Calls Try.prog 22 #[.slice A l.length cap] w (IsTable l w) := by
  obtain ⟨i0, hi0, hz0, hz1, hz2⟩ := info_parts info28
  have hz2' : i0.bytes * l.length ≤ 281474976710656 := by rw [hz2]; omega
  have hHi := Lib.hid hi0; have hHz := Lib.hid hz0; have hHs := Lib.hid hz1
  clear hi0 hz0 hz1 hz2
  obtain ⟨j0, hj0, hy0, hy1, hy2⟩ := info_parts info4
  have hy2' : j0.bytes * l.length ≤ 281474976710656 := by rw [hy2]; omega
  have hJi := Lib.hid hj0; have hJz := Lib.hid hy0; have hJs := Lib.hid hy1
  clear hj0 hy0 hy1 hy2
  go_enter Try.func22, Try.ntmps22
  go_wp2_with (first
    | (at_make; refine wpList_make_row _ rfl _ _ 45 rfl 28 i0 (.slice none 0 0) Try.underlying45 hHi.out hHz.out hHs.out rfl .i64 .i64 _ _ l.length rfl rfl rfl rfl hz2' (by unfold maxLen; omega) ?_; intro w1 hR1 hG1))
  have hB1 : Below w.heap.size w w1 := (Below.refl _ _).grown hG1 (Nat.le_refl _) (by simp)
  go_loopw [4] (fun i wr => ∃ k : Nat, k ≤ l.length ∧ i = .int .i64 k ∧ Rel1 l w k wr) (fun i _ => l.length - (intOf i).toNat)
  case atStart => exact ⟨0, Nat.zero_le _, rfl, fun _ => 0, ⟨⟨_, hR1, by simp, fun i hi => absurd hi (Nat.not_lt_zero _)⟩, fun i hi => absurd hi (Nat.not_lt_zero _), fun i j hi => absurd hi (Nat.not_lt_zero _), Nat.le_refl _, fun i hi => absurd hi (Nat.not_lt_zero _)⟩, hB1⟩
  case round =>
    rename World => w2
    obtain ⟨i, hi, rfl, gs, hT, hB⟩ := hrel
    clear hR1 hG1 hB1
    by_cases hlt : i < l.length
    · obtain ⟨v, hcell⟩ : ∃ v, w2.cell? ⟨w.heap.size, i, none⟩ = some v := by
        obtain ⟨xs, h1, h2, _⟩ := hT.top
        exact ⟨_, h1.cell (by omega)⟩
      have hfro : w2.frozen? ⟨w.heap.size, i, none⟩ = false := by
        obtain ⟨xs, h1, _⟩ := hT.top
        exact h1.frozen i
      have hTl := hT.topLt
      go_wp2_with (first
        | (at_make; refine wpList_make_row _ rfl _ _ 28 rfl 4 j0 (.bool false) Try.underlying28 hJi.out hJz.out hJs.out rfl .i64 .i64 _ _ l.length rfl rfl rfl rfl hy2' (by unfold maxLen; omega) ?_; intro w3 hR3 hG3; have hcell3 := hG3.cell hcell (by simp); have hfro3 : w3.frozen? ⟨w.heap.size, i, none⟩ = false := (World.frozen?_of_block (hG3.block w.heap.size hTl (by simp))).trans hfro))
      have hT1 : Tab w2 w.heap.size w.heap.size l.length i gs (part l i (i + 1)) := hT.congr (fun a b ha _ => part_old l (i + 1) b ha)
      have hR3' : Row w3 w2.heap.size 4 (bools (rowOf (part l i (i + 1)) l.length i)) := by
        rw [part_new]
        unfold bools
        rw [List.map_replicate]
        exact hR3
      have hT2 := hT1.push hlt (Nat.le_refl _) hG3 hR3' hB.size
      have hB3 : Below w.heap.size w (w3.setCell ⟨w.heap.size, i, none⟩ (.slice (some ⟨w2.heap.size, 0, none⟩) l.length l.length)) :=
        (hB.grown hG3 hB.size (by simp)).setCell (p := ⟨w.heap.size, i, none⟩) (Nat.le_refl _) _
      clear hcell hfro hcell3 hfro3 hT hT1 hR3 hR3' hB hG3
      go_loopw [5] (fun t wr => ∃ j : Nat, i < j ∧ j ≤ l.length ∧ t = .int .i64 j ∧ Rel2 l w i j wr) (fun t _ => l.length - (intOf t).toNat)
      case atStart => exact ⟨i + 1, by omega, by omega, by go_num, _, hT2, hB3⟩
      case round =>
        obtain ⟨j, hij, hj, rfl, gs2, hT3, hB4⟩ := hrel
        clear hT2 hB3
        by_cases hjl : j < l.length
        · obtain ⟨b, off, rfl, hb, hc⟩ := hE.below hB4 (by omega)
          obtain ⟨c0, c1, c2⟩ := hc i hlt
          obtain ⟨d0, d1, d2⟩ := hc j hjl
          have hs := hT3.slot (i := i) (by omega) hlt
          have hx := hT3.cell (i := i) (j := j) (by omega) hjl
          have hf := hT3.frozen (i := i) (by omega) j
          have hst := Lib.hid (part_step l i j)
          have hTn := hT3.set (i := i) (by omega) j (dirB l i j)
          rw [part_step] at hTn
          have hBn : Below w.heap.size w (wr.setCell ⟨gs2 i, j, none⟩ (.bool (dirB l i j))) := hB4.setCell (p := ⟨gs2 i, j, none⟩) (hT3.low.2 i (by omega)) _
          have hdir : Hid (dirB l i j = linkB l[i] l[j]) := by unfold Hid dirB; rw [decide_eq_true hij, decide_eq_true hjl, ev_get l hlt, ev_get l hjl]; rfl
          have hijI : (i : Int) < (l.length : Int) := by omega
          have hjlI : (j : Int) < (l.length : Int) := by omega
          clear hc hT3 hB4
          generalize gs2 i = g at *
          generalize hvv : part l i j i j = vv at *
          clear hvv
          generalize l[i] = e1 at *
          generalize l[j] = e2 at *
          obtain ⟨p1, k1, m1⟩ := e1
          obtain ⟨p2, k2, m2⟩ := e2
          simp only at c0 c1 c2 d0 d1 d2
          by_cases hp : p1 = p2
          · have hb1 : (p1 == p2) = true := by simp [hp]
            have hd : dirB l i j = true := by rw [hdir.out]; simp [linkB, hp]
            rw [hd] at hTn hBn
            clear hp hdir hd
            go_wp2_with fail
            go_region
            go_wp2_with fail
            go_roundw
            case rel => exact ⟨j + 1, by omega, by omega, by go_num, gs2, hTn.heap rfl, hBn.drew⟩
            case measure => simp [intOf]; omega
          have hb1 : (p1 == p2) = false := by simp [hp]
          by_cases hk1 : k1 = 2
          · have hb2 : (k1 == 2) = true := by simp [hk1]
            by_cases hk2 : k2 = 3
            · have hb3 : (k2 == 3) = true := by simp [hk2]
              by_cases hm : m1 = m2
              · have hb4 : (m1 == m2) = true := by simp [hm]
                have hd : dirB l i j = true := by rw [hdir.out]; simp [linkB, hk1, hk2, hm]
                rw [hd] at hTn hBn
                clear hp hdir hd hk1 hk2 hm
                go_wp2_with fail
                go_region
                go_wp2_with fail
                go_roundw
                case rel => exact ⟨j + 1, by omega, by omega, by go_num, gs2, hTn.heap rfl, hBn.drew⟩
                case measure => simp [intOf]; omega
              · have hb4 : (m1 == m2) = false := by simp [hm]
                have hd : dirB l i j = false := by rw [hdir.out]; simp [linkB, hp, hk1, hk2, hm]
                rw [hd] at hTn hBn
                clear hp hdir hd hk1 hk2 hm
                go_wp2_with fail
                go_region
                go_wp2_with fail
                go_roundw
                case rel => exact ⟨j + 1, by omega, by omega, by go_num, gs2, hTn.heap rfl, hBn.drew⟩
                case measure => simp [intOf]; omega
            · have hb3 : (k2 == 3) = false := by simp [hk2]
              have hd : dirB l i j = false := by rw [hdir.out]; simp [linkB, hp, hk1, hk2]
              rw [hd] at hTn hBn
              clear hp hdir hd hk1 hk2
              go_wp2_with fail
              go_region
              go_wp2_with fail
              go_roundw
              case rel => exact ⟨j + 1, by omega, by omega, by go_num, gs2, hTn.heap rfl, hBn.drew⟩
              case measure => simp [intOf]; omega
          · have hb2 : (k1 == 2) = false := by simp [hk1]
            have hd : dirB l i j = false := by rw [hdir.out]; simp [linkB, hp, hk1]
            rw [hd] at hTn hBn
            clear hp hdir hd hk1
            go_wp2_with fail
            go_region
            go_wp2_with fail
            go_roundw
            case rel => exact ⟨j + 1, by omega, by omega, by go_num, gs2, hTn.heap rfl, hBn.drew⟩
            case measure => simp [intOf]; omega
        · have hjl' : j = l.length := by omega
          subst hjl'
          have hTe : Tab wr w.heap.size w.heap.size l.length (i + 1) gs2 (dirB l) := hT3.congr (fun a b ha hb => part_end l ha hb)
          go_wp2_with fail
          go_roundw
          case rel => exact ⟨i + 1, by omega, by go_num, gs2, hTe, hB4⟩
          case measure => simp [intOf]; omega
    · have hil : i = l.length := by omega
      subst hil
      have hst := dirB_start l
      go_wp2_with fail
      go_loopw [6] (fun t wr => ∃ k : Nat, k ≤ l.length ∧ t = .int .i64 k ∧ Rel4 l w k wr) (fun t _ => l.length - (intOf t).toNat)
      case atStart => exact ⟨0, Nat.zero_le _, rfl, gs, _, hT, hst, hB⟩
      case round =>
        rename World => w3
        obtain ⟨k, hk, rfl, gs3, f3, hT3, hf3, hB3⟩ := hrel
        clear hT hst hB
        by_cases hkl : k < l.length
        · go_wp2_with fail
          go_loopw [7] (fun t wr => ∃ i : Nat, i ≤ l.length ∧ t = .int .i64 i ∧ Rel3 l w k i 0 wr) (fun t _ => l.length - (intOf t).toNat)
          case atStart => exact ⟨0, Nat.zero_le _, rfl, gs3, f3, hT3, CompAt.start hf3.1 hf3.2, hB3⟩
          case round =>
            rename World => w4
            obtain ⟨i, hi, rfl, gs4, f4, hT4, hf4, hB4⟩ := hrel
            clear hT3 hf3 hB3
            by_cases hil : i < l.length
            · go_wp2_with fail
              go_loopw [8] (fun t wr => ∃ j : Nat, j ≤ l.length ∧ t = .int .i64 j ∧ Rel3 l w k i j wr) (fun t _ => l.length - (intOf t).toNat)
              case atStart => exact ⟨0, Nat.zero_le _, rfl, gs4, f4, hT4, hf4, hB4⟩
              case round =>
                obtain ⟨j, hj, rfl, gs5, f5, hT5, hf5, hB5⟩ := hrel
                clear hT4 hf4 hB4
                by_cases hjl : j < l.length
                · have s1 := hT5.slot hil hil
                  have s2 := hT5.slot hkl hkl
                  have x1 := hT5.cell hil hjl
                  have x2 := hT5.cell hil hkl
                  have x3 := hT5.cell hkl hjl
                  have hfz := hT5.frozen hil j
                  have hTn := hT5.set hil j (f5 i j || (f5 i k && f5 k j))
                  have hfn := hf5.step hkl hil hjl
                  have hBn : Below w.heap.size w (wr.setCell ⟨gs5 i, j, none⟩ (.bool (f5 i j || (f5 i k && f5 k j)))) := hB5.setCell (p := ⟨gs5 i, j, none⟩) (hT5.low.2 i hil) _
                  have hTH := Lib.hid hTn
                  have hfH := Lib.hid hfn
                  have hBH := Lib.hid hBn
                  have hilI : (i : Int) < (l.length : Int) := by omega
                  have hjlI : (j : Int) < (l.length : Int) := by omega
                  have hklI : (k : Int) < (l.length : Int) := by omega
                  clear hTn hfn hBn hT5 hf5 hB5
                  generalize gs5 i = g1 at *
                  generalize gs5 k = g2 at *
                  generalize f5 i j = a at *
                  generalize f5 i k = b at *
                  generalize f5 k j = d at *
                  cases a with
                  | true =>
                    go_wp2_with fail
                    go_region
                    go_wp2_with fail
                    go_roundw
                    case rel => exact ⟨j + 1, by omega, by go_num, gs5, _, hTH.out.heap rfl, hfH.out, hBH.out.drew⟩
                    case measure => simp [intOf]; omega
                  | false =>
                    cases b with
                    | false =>
                      go_wp2_with fail
                      go_region
                      go_wp2_with fail
                      go_roundw
                      case rel => exact ⟨j + 1, by omega, by go_num, gs5, _, hTH.out.heap rfl, hfH.out, hBH.out.drew⟩
                      case measure => simp [intOf]; omega
                    | true =>
                      cases d with
                      | false =>
                        go_wp2_with fail
                        go_region
                        go_wp2_with fail
                        go_roundw
                        case rel => exact ⟨j + 1, by omega, by go_num, gs5, _, hTH.out.heap rfl, hfH.out, hBH.out.drew⟩
                        case measure => simp [intOf]; omega
                      | true =>
                        go_wp2_with fail
                        go_region
                        go_wp2_with fail
                        go_roundw
                        case rel => exact ⟨j + 1, by omega, by go_num, gs5, _, hTH.out.heap rfl, hfH.out, hBH.out.drew⟩
                        case measure => simp [intOf]; omega
                · have hjl' : j = l.length := by omega
                  subst hjl'
                  have hfr := hf5.row
                  go_wp2_with fail
                  go_roundw
                  case rel => exact ⟨i + 1, by omega, by go_num, gs5, f5, hT5, hfr, hB5⟩
                  case measure => simp [intOf]; omega
            · have hil' : i = l.length := by omega
              subst hil'
              have hfd := hf4.done
              go_wp2_with fail
              go_roundw
              case rel => exact ⟨k + 1, by omega, by go_num, gs4, f4, hT4, hfd, hB4⟩
              case measure => simp [intOf]; omega
        · have hkl' : k = l.length := by omega
          subst hkl'
          go_wp2_with fail
          go_ret
          exact ⟨rfl, gs3, f3, hT3, fun i j hi hj => comp_hb hf3 hi hj, hB3⟩

#print axioms table_any
end Go.Proofs.Ytpofmhlmaejmoaa
