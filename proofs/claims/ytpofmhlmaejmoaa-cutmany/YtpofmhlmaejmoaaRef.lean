/-
  The contract of beaconryref.RunCheck.
-/
import Derived.Test.YtpofmhlmaejmoaaRows
import Derived.Test.YtpofmhlmaejmoaaPure
import Derived.KernelRfl
namespace Go.Proofs.Ytpofmhlmaejmoaa
open Go.RowKit Go.Maps

/-- The inner loop's relation: counts of sends and receipts of message m among the first j events. -/
def CntRel (l : List Ev) (m : Int) (W : World) (j : Nat) (s t : Value) (wr : World) : Prop :=
  s = .int .i64 (cnt 2 m (l.take j) : Nat) ∧ t = .int .i64 (cnt 3 m (l.take j) : Nat) ∧ Below W.heap.size W wr

def RefRel (n : Int) (l : List Ev) (C : Int) (w : World) (k : Nat) (wr : World) : Prop :=
  ∃ f, Inv (l.take k) f ∧ runCode n (l.drop k) f = C ∧ Below w.heap.size w wr

set_option maxHeartbeats 1600000 in
set_option maxRecDepth 100000 in
theorem ref_loop (A : Option Addr) (cap : Nat) (l : List Ev) (n : Int) (w : World) (hE : Evs w w.heap.size A l) (hcap : l.length ≤ cap) (h1 : ¬ n < 1) (h2 : ¬ 6 < n) (h3 : ¬ 30 < l.length) (C : Int) (hC : Hid (runCode n l (fun _ => 0) = C)) :
    Calls Try.prog 18 #[.int .i64 n, .slice A l.length cap] w fun e w' => e = .returned (.int .i64 C) ∧ Below w.heap.size w w' := by
  have h3' : decide (30 < (l.length : Int)) = false := by simp; omega
  go_enter Try.func18, Try.ntmps18
  go_wp2
  go_loopw [24] (fun i wr => ∃ k : Nat, k ≤ l.length ∧ i = .int .i64 k ∧ RefRel n l C w k wr) (fun i _ => l.length - (intOf i).toNat)
  case atStart => exact ⟨0, Nat.zero_le _, rfl, _, Inv.nil, by simpa using hC.out, Below.refl _ _⟩
  case round =>
    rename World => w1
    obtain ⟨k, hk, rfl, f, hI, hf, hB⟩ := hrel
    by_cases hlt : k < l.length
    · obtain ⟨b, off, rfl, hb, hc⟩ := hE.below hB (by omega)
      obtain ⟨c0, c1, c2⟩ := hc k hlt
      have hcH := Lib.hid hc
      clear hc
      have hst := runCode_drop n l k f hlt
      rw [← hI.code n l[k], hf] at hst
      have hstH := Lib.hid hst
      have hnext : Hid (refCode n (l.take k) l[k] = 0 → Inv (l.take (k + 1)) (admMap n f l[k])) := fun h0 => by
        rw [take_snoc l k hlt]; exact hI.step n _ (by rw [← hI.code]; exact h0)
      clear hst hf
      have hkc : k ≤ cap := by omega
      generalize l[k] = ev at *
      obtain ⟨p, kd, m⟩ := ev
      simp only at c0 c1 c2
      have hBa : Below w.heap.size w (w1.alloc (.cells #[.int .i64 p, .int .i64 kd, .int .i64 m] 36)) := hB.alloc hB.size _
      by_cases g1 : p < 0 ∨ n ≤ p
      · have hco : Hid (C = 2) := by
          have e1 : refCode n (l.take k) ⟨p, kd, m⟩ = 2 := by unfold refCode; rw [if_pos (by exact g1)]
          have := hstH.out
          rw [e1, if_neg (by omega)] at this
          exact this
        by_cases q1 : p < 0
        · clear g1
          go_wp2
          go_ret
          exact ⟨by rw [hco.out]; rfl, hBa⟩
        · have q2 : n ≤ p := by omega
          clear g1
          go_wp2
          go_ret
          exact ⟨by rw [hco.out]; rfl, hBa⟩
      by_cases g2 : kd < 1 ∨ 3 < kd
      · have q1 : ¬ p < 0 := by omega
        have q2 : ¬ n ≤ p := by omega
        have hco : Hid (C = 6) := by
          have e1 : refCode n (l.take k) ⟨p, kd, m⟩ = 6 := by unfold refCode; rw [if_neg (by exact g1), if_pos (by exact g2)]
          have := hstH.out
          rw [e1, if_neg (by omega)] at this
          exact this
        by_cases q3 : kd < 1
        · clear g1 g2
          go_wp2
          go_ret
          exact ⟨by rw [hco.out]; rfl, hBa⟩
        · have q4 : 3 < kd := by omega
          clear g1 g2
          go_wp2
          go_ret
          exact ⟨by rw [hco.out]; rfl, hBa⟩
      have q1 : ¬ p < 0 := by omega
      have q2 : ¬ n ≤ p := by omega
      have q3 : ¬ kd < 1 := by omega
      have q4 : ¬ 3 < kd := by omega
      by_cases g3 : kd = 1
      · have e1 : refCode n (l.take k) ⟨p, kd, m⟩ = 0 := by unfold refCode; rw [if_neg (by exact g1), if_neg (by exact g2), if_pos (by exact g3)]
        have hI2 := Lib.hid (hnext.out e1)
        have hco := hstH.out
        rw [e1, if_pos rfl] at hco
        have hcoH := Lib.hid hco
        clear hco e1 g1 g2
        have q5 : (kd == 1) = true := by simp [g3]
        clear g3
        go_wp2
        go_roundw
        case rel => exact ⟨k + 1, by omega, by go_num, _, hI2.out, hcoH.out.symm, hBa⟩
        case measure => simp [intOf]; omega
      have q5 : (kd == 1) = false := by simp [g3]
      by_cases g4 : m < 0 ∨ 20 < m
      · have hco : Hid (C = 4) := by
          have e1 : refCode n (l.take k) ⟨p, kd, m⟩ = 4 := by unfold refCode; rw [if_neg (by exact g1), if_neg (by exact g2), if_neg (by exact g3), if_pos (by exact g4)]
          have := hstH.out
          rw [e1, if_neg (by omega)] at this
          exact this
        by_cases q6 : m < 0
        · clear g1 g2 g3 g4
          go_wp2
          go_ret
          exact ⟨by rw [hco.out]; rfl, hBa⟩
        · have q7 : 20 < m := by omega
          clear g1 g2 g3 g4
          go_wp2
          go_ret
          exact ⟨by rw [hco.out]; rfl, hBa⟩
      have q6 : ¬ m < 0 := by omega
      have q7 : ¬ 20 < m := by omega
      have hcode : Hid (refCode n (l.take k) ⟨p, kd, m⟩ = if (kd = 2 ∧ 0 < cnt 2 m (l.take k)) ∨ (kd = 3 ∧ (cnt 2 m (l.take k) = 0 ∨ 0 < cnt 3 m (l.take k))) then 3 else 0) := by
        unfold Hid refCode
        rw [if_neg (by exact g1), if_neg (by exact g2), if_neg (by exact g3), if_neg (by exact g4)]
      have hkd : kd = 2 ∨ kd = 3 := by omega
      have hkdH := Lib.hid hkd
      clear g1 g2 g3 g4 hkd
      go_wp2
      go_loopw [7, 8, 61] (fun s t i w2 => ∃ j : Nat, j ≤ k ∧ i = .int .i64 j ∧ CntRel l m (w1.alloc (.cells #[.int .i64 p, .int .i64 kd, .int .i64 m] 36)) j s t w2) (fun _ _ i _ => k - (intOf i).toNat)
      case atStart => exact ⟨0, Nat.zero_le _, rfl, rfl, rfl, Below.refl _ _⟩
      case round =>
        obtain ⟨j, hj, rfl, rfl, rfl, hB2⟩ := hrel
        have e1 : wr.cell? ⟨w1.heap.size, 1, none⟩ = some (.int .i64 kd) := (hB2.cell (p := ⟨w1.heap.size, 1, none⟩) (by simp)).trans (by simp [World.cell?_alloc_new])
        have e2 : wr.cell? ⟨w1.heap.size, 2, none⟩ = some (.int .i64 m) := (hB2.cell (p := ⟨w1.heap.size, 2, none⟩) (by simp)).trans (by simp [World.cell?_alloc_new])
        have hsz : w1.heap.size < wr.heap.size := by have := hB2.size; simp at this; omega
        have hB3 : Below w.heap.size w wr := hBa.trans (hB2.mono (by simp; have := hB.size; omega))
        clear c0 c1 c2
        by_cases hlj : j < k
        · have hlj' : j < l.length := by omega
          obtain ⟨b', off', e', hb', hd⟩ := hE.below hB3 (by omega)
          obtain ⟨rfl, rfl⟩ : b = b' ∧ off = off' := by injection e' with e'; injection e' with e1 e2; exact ⟨e1, e2⟩
          obtain ⟨d0, d1, d2⟩ := hd j hlj'
          have t2 := Lib.hid (cnt_take 2 m l j hlj')
          have t3 := Lib.hid (cnt_take 3 m l j hlj')
          have b2 := cnt_le 2 m (l.take j)
          have b3 := cnt_le 3 m (l.take j)
          have bl : (l.take j).length ≤ 30 := by simp; omega
          clear e' hd
          generalize l[j] = o at *
          obtain ⟨op, ok, om⟩ := o
          simp only at d0 d1 d2 t2 t3
          have hB4 : Below (w1.alloc (.cells #[.int .i64 p, .int .i64 kd, .int .i64 m] 36)).heap.size (w1.alloc (.cells #[.int .i64 p, .int .i64 kd, .int .i64 m] 36)) (wr.alloc (.cells #[.int .i64 op, .int .i64 ok, .int .i64 om] 36)) := hB2.alloc hB2.size _
          by_cases k2 : ok = 2
          · have v2 : (ok == 2) = true := by simp [k2]
            have v3 : (ok == 3) = false := by simp [k2]
            by_cases km : om = m
            · have vm : (om == m) = true := by simp [km]
              have z2 := Lib.hid k2
              have zm := Lib.hid km
              clear k2 km
              have up2 : Hid (cnt 2 m (List.take (j + 1) l) = cnt 2 m (List.take j l) + 1) := by unfold Hid; rw [t2.out, if_pos ⟨z2.out, zm.out⟩]
              have up3 : Hid (cnt 3 m (List.take (j + 1) l) = cnt 3 m (List.take j l)) := by unfold Hid; rw [t3.out, if_neg (by have := z2.out; omega)]; rfl
              clear t2 t3
              go_wp2
              go_roundw
              case rel => exact ⟨j + 1, by omega, by go_num, by first | exact int_eq up2.out.symm | exact int_eq1 up2.out, by first | exact int_eq up3.out.symm | exact int_eq1 up3.out, hB4⟩
              case measure => simp [intOf]; omega
            · have vm : (om == m) = false := by simp [km]
              have z2 := Lib.hid k2
              have zm := Lib.hid km
              clear k2 km
              have up2 : Hid (cnt 2 m (List.take (j + 1) l) = cnt 2 m (List.take j l)) := by unfold Hid; rw [t2.out, if_neg (by have := zm.out; omega)]; rfl
              have up3 : Hid (cnt 3 m (List.take (j + 1) l) = cnt 3 m (List.take j l)) := by unfold Hid; rw [t3.out, if_neg (by have := zm.out; omega)]; rfl
              clear t2 t3
              go_wp2
              go_roundw
              case rel => exact ⟨j + 1, by omega, by go_num, by first | exact int_eq up2.out.symm | exact int_eq1 up2.out, by first | exact int_eq up3.out.symm | exact int_eq1 up3.out, hB4⟩
              case measure => simp [intOf]; omega
          by_cases k3 : ok = 3
          · have v2 : (ok == 2) = false := by simp [k3]
            have v3 : (ok == 3) = true := by simp [k3]
            by_cases km : om = m
            · have vm : (om == m) = true := by simp [km]
              have z3 := Lib.hid k3
              have zm := Lib.hid km
              clear k2 k3 km
              have up2 : Hid (cnt 2 m (List.take (j + 1) l) = cnt 2 m (List.take j l)) := by unfold Hid; rw [t2.out, if_neg (by have := z3.out; omega)]; rfl
              have up3 : Hid (cnt 3 m (List.take (j + 1) l) = cnt 3 m (List.take j l) + 1) := by unfold Hid; rw [t3.out, if_pos ⟨z3.out, zm.out⟩]
              clear t2 t3
              go_wp2
              go_roundw
              case rel => exact ⟨j + 1, by omega, by go_num, by first | exact int_eq up2.out.symm | exact int_eq1 up2.out, by first | exact int_eq up3.out.symm | exact int_eq1 up3.out, hB4⟩
              case measure => simp [intOf]; omega
            · have vm : (om == m) = false := by simp [km]
              have z3 := Lib.hid k3
              have zm := Lib.hid km
              clear k2 k3 km
              have up2 : Hid (cnt 2 m (List.take (j + 1) l) = cnt 2 m (List.take j l)) := by unfold Hid; rw [t2.out, if_neg (by have := zm.out; omega)]; rfl
              have up3 : Hid (cnt 3 m (List.take (j + 1) l) = cnt 3 m (List.take j l)) := by unfold Hid; rw [t3.out, if_neg (by have := zm.out; omega)]; rfl
              clear t2 t3
              go_wp2
              go_roundw
              case rel => exact ⟨j + 1, by omega, by go_num, by first | exact int_eq up2.out.symm | exact int_eq1 up2.out, by first | exact int_eq up3.out.symm | exact int_eq1 up3.out, hB4⟩
              case measure => simp [intOf]; omega
          · have v2 : (ok == 2) = false := by simp [k2]
            have v3 : (ok == 3) = false := by simp [k3]
            have z2 := Lib.hid k2
            have z3 := Lib.hid k3
            clear k2 k3
            have up2 : Hid (cnt 2 m (List.take (j + 1) l) = cnt 2 m (List.take j l)) := by unfold Hid; rw [t2.out, if_neg (by have := z2.out; omega)]; rfl
            have up3 : Hid (cnt 3 m (List.take (j + 1) l) = cnt 3 m (List.take j l)) := by unfold Hid; rw [t3.out, if_neg (by have := z3.out; omega)]; rfl
            clear t2 t3
            go_wp2
            go_roundw
            case rel => exact ⟨j + 1, by omega, by go_num, by first | exact int_eq up2.out.symm | exact int_eq1 up2.out, by first | exact int_eq up3.out.symm | exact int_eq1 up3.out, hB4⟩
            case measure => simp [intOf]; omega
        · have hjk : j = k := by omega
          subst hjk
          have hjH := Lib.hid hlj
          clear hlj
          have b2 := cnt_le 2 m (l.take j)
          have b3 := cnt_le 3 m (l.take j)
          have bl : (l.take j).length ≤ 30 := by simp; omega
          generalize cnt 2 m (List.take j l) = s at *
          generalize cnt 3 m (List.take j l) = t at *
          have hs0 : s = 0 ∨ 0 < s := by omega
          have ht0 : t = 0 ∨ 0 < t := by omega
          have hkd := hkdH.out
          clear hkdH hjH
          rcases hkd with hkd | hkd
          · have v2 : (kd == 2) = true := by simp [hkd]
            have v3 : (kd == 3) = false := by simp [hkd]
            have hkv := Lib.hid hkd
            clear hkd
            have htv := Lib.hid ht0
            clear ht0
            rcases hs0 with hs0 | hs0
            · have y1 : ¬ (0 : Int) < (s : Int) := by omega
              have y2 : decide (0 < s) = false := by simp [hs0]
              have hsv := Lib.hid hs0
              clear hs0
              have e1 : refCode n (l.take j) ⟨p, kd, m⟩ = 0 := by rw [hcode.out, if_neg (by have := hkv.out; have := hsv.out; have := htv.out; omega)]
              have hI2 := Lib.hid (hnext.out e1)
              have hco := hstH.out
              rw [e1, if_pos rfl] at hco
              have hcoH := Lib.hid hco
              clear hco e1
              go_wp2
              go_roundw
              case rel => exact ⟨j + 1, by omega, by go_num, _, hI2.out, hcoH.out.symm, hB3⟩
              case measure => simp [intOf]; omega
            · have y2 : decide (0 < s) = true := by simp [hs0]
              have hsv := Lib.hid hs0
              have hco : Hid (C = 3) := by
                have e1 : refCode n (l.take j) ⟨p, kd, m⟩ = 3 := by rw [hcode.out, if_pos (by have := hkv.out; have := hsv.out; have := htv.out; omega)]
                have := hstH.out
                rw [e1, if_neg (by omega)] at this
                exact this
              go_wp2
              go_ret
              exact ⟨by rw [hco.out]; rfl, hB3⟩
          · have v2 : (kd == 2) = false := by simp [hkd]
            have v3 : (kd == 3) = true := by simp [hkd]
            have hkv := Lib.hid hkd
            clear hkd
            rcases hs0 with hs0 | hs0
            · have y1 : ((s : Int) == 0) = true := by simp [hs0]
              have hsv := Lib.hid hs0
              have htv := Lib.hid ht0
              clear hs0 ht0
              have hco : Hid (C = 3) := by
                have e1 : refCode n (l.take j) ⟨p, kd, m⟩ = 3 := by rw [hcode.out, if_pos (by have := hkv.out; have := hsv.out; have := htv.out; omega)]
                have := hstH.out
                rw [e1, if_neg (by omega)] at this
                exact this
              go_wp2
              go_ret
              exact ⟨by rw [hco.out]; rfl, hB3⟩
            · have y1 : ((s : Int) == 0) = false := by simp; omega
              have hsv := Lib.hid hs0
              rcases ht0 with ht0 | ht0
              · have y2 : decide (0 < t) = false := by simp [ht0]
                have y3 : ¬ (0 : Int) < (t : Int) := by omega
                have htv := Lib.hid ht0
                clear ht0
                have e1 : refCode n (l.take j) ⟨p, kd, m⟩ = 0 := by rw [hcode.out, if_neg (by have := hkv.out; have := hsv.out; have := htv.out; omega)]
                have hI2 := Lib.hid (hnext.out e1)
                have hco := hstH.out
                rw [e1, if_pos rfl] at hco
                have hcoH := Lib.hid hco
                clear hco e1
                go_wp2
                go_roundw
                case rel => exact ⟨j + 1, by omega, by go_num, _, hI2.out, hcoH.out.symm, hB3⟩
                case measure => simp [intOf]; omega
              · have y2 : decide (0 < t) = true := by simp [ht0]
                have htv := Lib.hid ht0
                have hco : Hid (C = 3) := by
                  have e1 : refCode n (l.take j) ⟨p, kd, m⟩ = 3 := by rw [hcode.out, if_pos (by have := hkv.out; have := hsv.out; have := htv.out; omega)]
                  have := hstH.out
                  rw [e1, if_neg (by omega)] at this
                  exact this
                go_wp2
                go_ret
                exact ⟨by rw [hco.out]; rfl, hB3⟩
    · have hkl : k = l.length := by omega
      have hC0 : C = 0 := by rw [← hf, hkl]; simp [runCode]
      go_wp2
      go_ret
      exact ⟨by rw [hC0]; rfl, hB⟩

set_option maxHeartbeats 400000 in
theorem refcheck_any (A : Option Addr) (cap : Nat) (l : List Ev) (n : Int) (w : World) (hE : Evs w w.heap.size A l) (hcap : l.length ≤ cap) (hl : l.length ≤ maxLen) :
    Calls Try.prog 18 #[.int .i64 n, .slice A l.length cap] w fun e w' => e = .returned (.int .i64 (checkCode n l)) ∧ Below w.heap.size w w' := by
  unfold maxLen at hl
  by_cases h1 : n < 1
  · have e1 : checkCode n l = 1 := by simp [checkCode, h1]
    rw [e1]; clear e1
    go_enter Try.func18, Try.ntmps18
    go_wp2
    go_ret
    exact ⟨rfl, Below.refl _ _⟩
  by_cases h2 : 6 < n
  · have e1 : checkCode n l = 1 := by simp [checkCode, h2]
    rw [e1]; clear e1
    go_enter Try.func18, Try.ntmps18
    go_wp2
    go_ret
    exact ⟨rfl, Below.refl _ _⟩
  by_cases h3 : 30 < l.length
  · have e1 : checkCode n l = 1 := by simp [checkCode, h3]
    rw [e1]; clear e1
    go_enter Try.func18, Try.ntmps18
    go_wp2
    go_ret
    exact ⟨rfl, Below.refl _ _⟩
  · exact ref_loop A cap l n w hE hcap h1 h2 h3 _ (by unfold Hid checkCode; rw [if_neg (by omega)])

#print axioms refcheck_any
end Go.Proofs.Ytpofmhlmaejmoaa
