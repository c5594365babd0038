/-
  The contracts of beaconryref.TreeCheck, beaconrykeep.treed.
-/
import Derived.Test.YtejckoffllhjcaaKck
import Derived.Test.YtejckoffllhjcaaMov
namespace Go.Proofs.Ytejckoffllhjcaa
open Go.RowKit Go.Maps
set_option linter.unusedVariables false

/-- What TreeCheck's second half wants. -/
structure TcK (w : World) (b off n : Nat) (u : Nat → Nat) (sg : Nat → Int) (T : Int) : Prop where
  lt : ∀ k p, p < n → itU u k p < n
  cell : ∀ i, i < n → w.cell? ⟨b, off + i, none⟩ = some (.int .i64 (u i : Int))
  bd : ∀ k, 0 ≤ sg k ∧ sg k ≤ k
  z : sg 0 = 0
  yes : ∀ k, u k = k → sg (k + 1) = sg k + 1
  no : ∀ k, u k ≠ k → sg (k + 1) = sg k
  code : ∀ C : Bool, (C = true ↔ (∀ p, p < n → u (itU u n p) = itU u n p) ∧ sg n = 1) → T = if C = true then 0 else 3
theorem TcK.made {w : World} {A : Option Addr} {l : List Int} (hE : Nums w w.heap.size A l) (h0 : 0 < l.length) (hr : rngB l = true) : ∃ b off, A = some ⟨b, off, none⟩ ∧ ∃ u sg, TcK w b off l.length u sg (treeCode l) := by
  obtain ⟨b, off, rfl, hc⟩ := nums_upK hE hr h0
  refine ⟨b, off, rfl, upN l, fun k => sumN k (holdN (KS.begin (upN l))), fun k p hp => itU_lt hr hp k, hc, fun k => ?_, rfl, fun k h => ?_, fun k h => ?_, fun C hC => ?_⟩
  · induction k with
    | zero => exact ⟨Int.le_refl _, Int.le_refl _⟩
    | succ k ih =>
      rw [sumN]
      have h1 := holdN_ge (KS.begin (upN l)) k
      have h2 : holdN (KS.begin (upN l)) k ≤ 1 := by unfold holdN; split <;> decide
      omega
  · rw [sumN]
    have : holdN (KS.begin (upN l)) k = 1 := if_pos h
    rw [this]
  · rw [sumN]
    have : holdN (KS.begin (upN l)) k = 0 := if_neg h
    rw [this]; omega
  · have : treeB l.length (upN l) = C := by rw [Bool.eq_iff_iff, treeB_iff, hC]
    unfold treeCode
    rw [if_pos hr, this]

set_option maxHeartbeats 1600000 in
theorem treecheck_any (w : World) (A : Option Addr) (cap : Nat) (l : List Int) (hE : Nums w w.heap.size A l) (hn : l.length ≤ 6) (h0 : 0 < l.length) :
    Calls Try.prog 9 #[.slice A l.length cap] w fun e w' => e = .returned (.int .i64 (treeCode l)) ∧ w = w' := by
  have hbd0 : Hid (∀ k, (h : k < l.length) → ¬ (0 ≤ l[k] ∧ l[k] < l.length) → treeCode l = 2) := fun k h h1 => by
    unfold treeCode
    rw [if_neg]
    intro h2
    exact h1 (rngB_iff.1 h2 _ (List.getElem_mem h))
  have hok0 : Hid ((∀ j, (h : j < l.length) → 0 ≤ l[j] ∧ l[j] < l.length) → ∃ b off, A = some ⟨b, off, none⟩ ∧ ∃ u sg, TcK w b off l.length u sg (treeCode l)) := fun h => TcK.made hE h0 (rngB_iff.2 fun x hx => by
    obtain ⟨j, hj, e⟩ := List.getElem_of_mem hx
    rw [← e]; exact h j hj)
  have hEH := Lib.hid hE
  clear hE
  generalize treeCode l = T at *
  obtain ⟨n, hln⟩ : ∃ n, Hid (l.length = n) := ⟨_, rfl⟩
  have hgo : ∀ {P : Nat → Prop}, P n → P l.length := fun h => by rw [hln.out]; exact h
  rw [hln.out]
  have hn' : n ≤ 6 := by rw [← hln.out]; exact hn
  have h0' : 0 < n := by rw [← hln.out]; exact h0
  clear hn h0 hgo
  go_enter Try.func9, Try.ntmps9
  go_wp2_with fail
  go_loop [11] (fun t => ∃ k : Nat, k ≤ n ∧ t = .int .i64 k ∧ Hid (∀ j, (h : j < l.length) → j < k → 0 ≤ l[j] ∧ l[j] < l.length)) (fun t => n - (intOf t).toNat)
  case atStart => exact ⟨0, Nat.zero_le _, rfl, fun _ _ h => absurd h (Nat.not_lt_zero _)⟩
  case round =>
    obtain ⟨k, hk, rfl, hr⟩ := hrel
    by_cases hlt : k < n
    · have hkI : (k : Int) < (n : Int) := by omega
      have hltl : k < l.length := by rw [hln.out]; exact hlt
      obtain ⟨b, off, rfl, hb, hc⟩ := hEH.out (by omega)
      have c0 := hc k hltl
      clear hc
      have hnx : Hid ((0 ≤ l[k] ∧ l[k] < l.length) → ∀ j, (h : j < l.length) → j < k + 1 → 0 ≤ l[j] ∧ l[j] < l.length) := fun h1 j h hj => by
        by_cases e : j = k
        · subst e; exact h1
        · exact hr.out j h (by omega)
      have hbad := Lib.hid (hbd0.out k hltl)
      generalize l[k] = x at *
      rw [hln.out] at hbad
      have hnx' : Hid ((0 ≤ x ∧ x < n) → ∀ j, (h : j < l.length) → j < k + 1 → 0 ≤ l[j] ∧ l[j] < l.length) := fun h => hnx.out (by rw [hln.out]; exact h)
      clear hnx hltl
      by_cases h1 : x < 0
      · have hR := Lib.hid (hbad.out (by omega))
        clear hnx' hbad
        go_wp2_with fail
        go_ret
        exact ⟨by rw [hR.out]; rfl, rfl⟩
      · by_cases h2 : x < n
        · have hn2 := Lib.hid (hnx'.out ⟨by omega, h2⟩)
          have h2b : ¬ (n : Int) ≤ x := by omega
          clear hnx' hbad
          go_wp2_with fail
          go_round
          case rel => exact ⟨k + 1, by omega, by go_num, hn2⟩
          case measure => simp [intOf]; omega
        · have hR := Lib.hid (hbad.out (by omega))
          have h2b : (n : Int) ≤ x := by omega
          clear hnx' hbad
          go_wp2_with fail
          go_ret
          exact ⟨by rw [hR.out]; rfl, rfl⟩
    · have hkn : k = n := by omega
      subst hkn
      obtain ⟨b, off, rfl, u, sg, hT⟩ := hok0.out (fun j hj => hr.out j hj (by rw [← hln.out]; exact hj))
      rw [hln.out] at hT
      have huH := Lib.hid hT.lt
      have hcH := Lib.hid hT.cell
      have hTH := Lib.hid hT
      clear hT hr hok0 hbd0 hEH
      go_wp2_with fail
      have hz := Lib.hid hTH.out.z
      generalize hkn : k = n at *
      go_loop [26, 5] (fun t v => ∃ k : Nat, k ≤ n ∧ t = .int .i64 k ∧ v = .int .i64 (sg k) ∧ Hid (∀ p, p < k → u (itU u n p) = itU u n p)) (fun t _ => n - (intOf t).toNat)
      case atStart => exact ⟨0, Nat.zero_le _, rfl, by rw [hz.out], fun p hp => absurd hp (Nat.not_lt_zero _)⟩
      case round =>
        clear hz
        obtain ⟨k, hk, rfl, rfl, hdone⟩ := hrel
        obtain ⟨g0, g1⟩ := hTH.out.bd k
        by_cases hlt : k < n
        · have hkI : (k : Int) < (n : Int) := by omega
          have c0 := hcH.out k hlt
          have hnx : Hid (u (itU u n k) = itU u n k → ∀ p, p < k + 1 → u (itU u n p) = itU u n p) := fun h p hp => by
            by_cases e : p = k
            · rw [e]; exact h
            · exact hdone.out p (by omega)
          have hbad : Hid (u (itU u n k) ≠ itU u n k → T = 3) := fun h => hTH.out.code false ⟨(nomatch ·), fun h2 => absurd (h2.1 k hlt) h⟩
          have hql := Lib.hid (huH.out n k hlt)
          have hql2 := Lib.hid (hcH.out _ hql.out)
          have hz0 : Hid (itU u 0 k = k) := rfl
          by_cases e1 : u k = k
          · have hG := Lib.hid (hTH.out.yes k e1)
            have e1b : ((k : Int) == (u k : Int)) = true := by rw [beq_iff_eq]; omega
            generalize sg k = G at *
            clear hTH e1
            go_wp2_with fail
            go_loop [8, 6] (fun t v => ∃ j : Nat, j ≤ n ∧ t = .int .i64 j ∧ v = .int .i64 (itU u j k : Int)) (fun t _ => n - (intOf t).toNat)
            case atStart => exact ⟨0, Nat.zero_le _, rfl, rfl⟩
            case round =>
              obtain ⟨j, hj, rfl, rfl⟩ := hrel
              by_cases hlj : j < n
              · have hjI : (j : Int) < (n : Int) := by omega
                have h1 := huH.out j k hlt
                have c1 := hcH.out _ h1
                have hnq : Hid (itU u (j + 1) k = u (itU u j k)) := rfl
                clear hnx hbad hG
                generalize itU u j k = q at *
                generalize u q = q' at *
                have hqI : (q : Int) < (n : Int) := by omega
                go_wp2_with fail
                go_round
                case rel => exact ⟨j + 1, by omega, by go_num, by rw [hnq.out]⟩
                case measure => simp [intOf]; omega
              · have hjn : j = n := by omega
                subst hjn
                have hq1 := hql.out
                have c1 := hql2.out
                clear hql hql2
                generalize itU u j k = q at *
                generalize u q = q' at *
                have hqI : (q : Int) < (j : Int) := by omega
                by_cases e2 : q' = q
                · have hnx2 := Lib.hid (hnx.out e2)
                  have e2b : ((q' : Int) != (q : Int)) = false := by rw [bne_eq_false_iff_eq]; omega
                  clear hnx hbad e2
                  go_wp2_with fail
                  go_round
                  case rel => exact ⟨k + 1, by omega, by go_num, by rw [hG.out], hnx2⟩
                  case measure => simp [intOf]; omega
                · have hR := Lib.hid (hbad.out e2)
                  have e2b : ((q' : Int) != (q : Int)) = true := by rw [bne_iff_ne]; omega
                  clear hnx hbad e2
                  go_wp2_with fail
                  go_ret
                  exact ⟨by rw [hR.out]; rfl, rfl⟩
          · have hG := Lib.hid (hTH.out.no k e1)
            have e1b : ((k : Int) == (u k : Int)) = false := by rw [beq_eq_false_iff_ne]; omega
            generalize sg k = G at *
            clear hTH e1
            go_wp2_with fail
            go_loop [8, 6] (fun t v => ∃ j : Nat, j ≤ n ∧ t = .int .i64 j ∧ v = .int .i64 (itU u j k : Int)) (fun t _ => n - (intOf t).toNat)
            case atStart => exact ⟨0, Nat.zero_le _, rfl, rfl⟩
            case round =>
              obtain ⟨j, hj, rfl, rfl⟩ := hrel
              by_cases hlj : j < n
              · have hjI : (j : Int) < (n : Int) := by omega
                have h1 := huH.out j k hlt
                have c1 := hcH.out _ h1
                have hnq : Hid (itU u (j + 1) k = u (itU u j k)) := rfl
                clear hnx hbad hG
                generalize itU u j k = q at *
                generalize u q = q' at *
                have hqI : (q : Int) < (n : Int) := by omega
                go_wp2_with fail
                go_round
                case rel => exact ⟨j + 1, by omega, by go_num, by rw [hnq.out]⟩
                case measure => simp [intOf]; omega
              · have hjn : j = n := by omega
                subst hjn
                have hq1 := hql.out
                have c1 := hql2.out
                clear hql hql2
                generalize itU u j k = q at *
                generalize u q = q' at *
                have hqI : (q : Int) < (j : Int) := by omega
                by_cases e2 : q' = q
                · have hnx2 := Lib.hid (hnx.out e2)
                  have e2b : ((q' : Int) != (q : Int)) = false := by rw [bne_eq_false_iff_eq]; omega
                  clear hnx hbad e2
                  go_wp2_with fail
                  go_round
                  case rel => exact ⟨k + 1, by omega, by go_num, by rw [hG.out], hnx2⟩
                  case measure => simp [intOf]; omega
                · have hR := Lib.hid (hbad.out e2)
                  have e2b : ((q' : Int) != (q : Int)) = true := by rw [bne_iff_ne]; omega
                  clear hnx hbad e2
                  go_wp2_with fail
                  go_ret
                  exact ⟨by rw [hR.out]; rfl, rfl⟩
        · have hkn : k = n := by omega
          have hTc := Lib.hid (hTH.out.code (decide (sg k = 1)) (by
            rw [decide_eq_true_iff]
            exact ⟨fun h => ⟨fun p hp => hdone.out p (by omega), by rw [← hkn]; exact h⟩, fun h => by rw [hkn]; exact h.2⟩))
          clear hTH hdone
          generalize sg k = G at *
          by_cases e : G = 1
          · have hR : Hid (T = 0) := by
              unfold Hid
              rw [hTc.out, if_pos (by simp [e])]
            have eb : (G != 1) = false := by rw [bne_eq_false_iff_eq]; exact e
            clear hTc e
            go_wp2_with fail
            go_ret
            exact ⟨by rw [hR.out]; rfl, rfl⟩
          · have hR : Hid (T = 3) := by
              unfold Hid
              rw [hTc.out, if_neg (by simp [e])]
            have eb : (G != 1) = true := by rw [bne_iff_ne]; exact e
            clear hTc e
            go_wp2_with fail
            go_ret
            exact ⟨by rw [hR.out]; rfl, rfl⟩

set_option maxHeartbeats 800000 in
theorem treed_any (w : World) (A : Option Addr) (cap : Nat) (l : List Int) (m : Int) (hE : Nums w w.heap.size A l) (hl : l.length ≤ maxLen) (C : Bool) (hC : C = true ↔ ((1 ≤ l.length ∧ l.length ≤ 6 ∧ m ≤ 60) ∧ treeCode l = 0)) :
    Calls Try.prog 12 #[.slice A l.length cap, .int .i64 m] w fun e w' => e = .returned (.bool C) ∧ w = w' := by
  have hl2 : (l.length : Int) ≤ 9223372036854775807 := by unfold maxLen at hl; omega
  have hCH := Lib.hid hC
  have htc := Lib.hid (fun h1 h2 => treecheck_any w A cap l hE h1 h2)
  clear hC hE
  by_cases hp : 1 ≤ l.length ∧ l.length ≤ 6 ∧ m ≤ 60
  · have hplay := Lib.hid (played_any w l.length m true ⟨fun _ => by omega, fun _ => rfl⟩)
    have ht := Lib.hid (htc.out hp.2.1 (by omega))
    have hpH := Lib.hid hp
    clear htc hp
    generalize treeCode l = T at *
    have hC2 : Hid (C = decide (T = 0)) := by
      unfold Hid
      rw [Bool.eq_iff_iff, hCH.out, decide_eq_true_iff]
      exact ⟨fun h => h.2, fun h => ⟨hpH.out, h⟩⟩
    clear hCH hpH
    by_cases e : T = 0
    · have hR : Hid (C = true) := by
        unfold Hid
        rw [hC2.out]; simp [e]
      have eb : (T == 0) = true := by rw [beq_iff_eq]; exact e
      clear hC2 e
      go_enter Try.func12, Try.ntmps12
      go_wp2_with fail
      refine hplay.out.mono ?_
      rintro e w1 ⟨rfl, rfl⟩
      go_wp2_with fail
      refine ht.out.mono ?_
      rintro e w1 ⟨rfl, rfl⟩
      go_wp2_with fail
      go_ret
      exact ⟨by rw [hR.out]; rfl, rfl⟩
    · have hR : Hid (C = false) := by
        unfold Hid
        rw [hC2.out]; simp [e]
      have eb : (T == 0) = false := by rw [beq_eq_false_iff_ne]; exact e
      clear hC2 e
      go_enter Try.func12, Try.ntmps12
      go_wp2_with fail
      refine hplay.out.mono ?_
      rintro e w1 ⟨rfl, rfl⟩
      go_wp2_with fail
      refine ht.out.mono ?_
      rintro e w1 ⟨rfl, rfl⟩
      go_wp2_with fail
      go_ret
      exact ⟨by rw [hR.out]; rfl, rfl⟩
  · have hplay := Lib.hid (played_any w l.length m false ⟨(nomatch ·), fun h => absurd (by omega) hp⟩)
    have hR : Hid (C = false) := by
      unfold Hid
      rw [← Bool.not_eq_true, hCH.out]
      exact fun h => hp h.1
    clear htc hCH hp
    go_enter Try.func12, Try.ntmps12
    go_wp2_with fail
    refine hplay.out.mono ?_
    rintro e w1 ⟨rfl, rfl⟩
    go_wp2_with fail
    go_ret
    exact ⟨by rw [hR.out]; rfl, rfl⟩

#print axioms treed_any
#print axioms treecheck_any
end Go.Proofs.Ytejckoffllhjcaa
