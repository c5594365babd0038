/-
  The walk of the law CausalAll: when all messages have come to all, all are told all.
-/
import Derived.Test.YtkchccaeopdemaaCausalOrder
import Derived.Test.YtkchccaeopdemaaCal
import Derived.Test.YtkchccaeopdemaaMow
namespace Go.Proofs.Ytkchccaeopdemaa
open Go.RowKit Go.Maps

theorem step_m_yes {n : Nat} {S : CS} {m : Mv} (h1 : m.k = 1) (h2 : 0 ≤ m.f ∧ m.f < (n : Int)) : (stepC n S m).1.m = S.m + 1 := by
  rw [stepC_tell h1 (i := m.f.toNat) (by omega) (by omega)]; rfl
theorem step_m_no {n : Nat} {S : CS} {m : Mv} (h : ¬ (m.k = 1 ∧ 0 ≤ m.f ∧ m.f < (n : Int))) : (stepC n S m).1.m = S.m := by
  have := congrArg List.length (byL_no (n := n) (S := S) h)
  rw [byL_len, byL_len] at this
  exact this
theorem cm_fits {i k : Nat} (hi : i ≤ 100) (hk : k ≤ 100) : MvFits (cmM i k) := by
  unfold MvFits cmM
  simp only
  refine ⟨⟨by omega, by omega⟩, ⟨by omega, by omega⟩, ⟨by omega, by omega⟩, ⟨by omega, by omega⟩⟩
theorem scrA_fits {l : List Mv} (hF : MFits l) {M N : Nat} (hN : N ≤ 4) (hM : M ≤ 11) : MFits (scrA l M N 0) := by
  intro m hm
  have e : scrA l M N 0 = l ++ cmAll M N := by simp [scrA, cmRow]
  rw [e] at hm
  rcases List.mem_append.1 hm with h | h
  · exact hF m h
  · obtain ⟨a, k, ha, rfl, hk⟩ := cmAll_mem h
    by_cases h0 : 0 < M
    · exact cm_fits (by omega) (by have := hk h0; omega)
    · have hM0 : M = 0 := by omega
      subst hM0
      have hz := cmAll_len 0 N
      rw [Nat.mul_zero] at hz
      rw [List.eq_nil_of_length_eq_zero hz] at h
      cases h

set_option maxHeartbeats 1000000 in
theorem call_far (w : World) (n : Int) (A : Option Addr) (cap : Nat) (l : List Mv) (hl : l.length ≤ maxLen) (h : 4 < n ∨ 11 < l.length) :
    Calls Try.prog 5 #[.int .i64 n, .slice A l.length cap] w fun e w' => e = .returned (.bool true) ∧ Below w.heap.size w w' := by
  have hl2 : (l.length : Int) ≤ 9223372036854775807 := by unfold maxLen at hl; omega
  by_cases h1 : 4 < n
  · go_enter Try.func5, Try.ntmps5
    go_wp2_with fail
    go_ret
    exact ⟨rfl, Below.refl _ _⟩
  · have h2 : 11 < (l.length : Int) := by omega
    clear h
    go_enter Try.func5, Try.ntmps5
    go_wp2_with fail
    go_ret
    exact ⟨rfl, Below.refl _ _⟩

def Al1 (w wr : World) : Prop := Below w.heap.size w wr
def Al2 (w : World) (l : List Mv) (M i j : Nat) (v : Value) (wr : World) : Prop := OwnMvs wr w.heap.size v (scrA l M i j) ∧ Below w.heap.size w wr
def Al3 (w w5 wr : World) : Prop := Below w.heap.size w wr ∧ Below w5.heap.size w5 wr

set_option maxHeartbeats 8000000 in
set_option maxRecDepth 100000 in
theorem call_near (w : World) (n : Int) (hn : I64 n) (A : Option Addr) (cap : Nat) (l : List Mv) (hE : Mvs w w.heap.size A l) (hF : MFits l) (h1 : n ≤ 4) (h2 : l.length ≤ 11) :
    Calls Try.prog 5 #[.int .i64 n, .slice A l.length cap] w fun e w' => e = .returned (.bool true) ∧ Below w.heap.size w w' := by
  obtain ⟨N, hNn⟩ : ∃ N : Nat, N = n.toNat := ⟨_, rfl⟩
  have hN4 : N ≤ 4 := by omega
  have hlI : (l.length : Int) ≤ 11 := by omega
  obtain ⟨j0, hi0, hz0, hz1, hz2⟩ := info_parts infoMv
  have hJi := Lib.hid hi0; have hJz := Lib.hid hz0; have hJs := Lib.hid hz1; have hJb := Lib.hid hz2
  clear hi0 hz0 hz1 hz2
  have hFH := Lib.hid hF
  have hNH := Lib.hid hNn
  have hEH := Lib.hid hE
  have hnI := hn.1
  clear hF hNn hE hn
  go_enter Try.func5, Try.ntmps5
  go_wp2_with fail
  go_loopw [24, 5] (fun t c wr => ∃ k : Nat, k ≤ l.length ∧ t = .int .i64 k ∧ c = .int .i64 ((cAt N l k).m : Int) ∧ Al1 w wr) (fun t _ _ => l.length - (intOf t).toNat)
  case atStart => exact ⟨0, Nat.zero_le _, rfl, rfl, Below.refl _ _⟩
  case round =>
    obtain ⟨k, hk, rfl, rfl, hBw⟩ := hrel
    unfold Al1 at hBw
    have hmk := (cAt_len N l k 0).2
    by_cases hlt : k < l.length
    · have hkI : (k : Int) < (l.length : Int) := by omega
      obtain ⟨b, off, rfl, hb, hc⟩ := (hEH.out.below hBw) (by omega)
      obtain ⟨c0, c1, c2, c3⟩ := hc k hlt
      clear hc
      rw [mv_get l hlt] at c0 c1 c2 c3
      have hfit := hFH.out.at_ hlt
      have hstep : Hid (cAt N l (k + 1) = (stepC N (cAt N l k) (mv l k)).1) := rfl
      have hyesB := Lib.hid (step_m_yes (n := N) (S := cAt N l k) (m := mv l k))
      have hnoB := Lib.hid (step_m_no (n := N) (S := cAt N l k) (m := mv l k))
      generalize mv l k = m at *
      obtain ⟨mk, mf, mt, mv'⟩ := m
      simp only at *
      obtain ⟨⟨k1, k2⟩, ⟨f1, f2⟩, _, _⟩ := hfit
      simp only at k1 k2 f1 f2
      have hRm := Row.made wr 39 [.int .i64 mk, .int .i64 mf, .int .i64 mt, .int .i64 mv']
      have y0 := hRm.cell (i := 0) (by simp)
      have y1 := hRm.cell (i := 1) (by simp)
      simp only [List.getElem_cons_zero, List.getElem_cons_succ] at y0 y1
      have hBwm := hBw.alloc hBw.size (.cells #[.int .i64 mk, .int .i64 mf, .int .i64 mt, .int .i64 mv'] 39)
      clear hBw hRm
      by_cases hk1 : mk = 1
      · have e1 : (mk == 1) = true := by simp [hk1]
        have hBwi := hBwm.alloc hBwm.size (.cells #[.int .i64 mf] 3)
        have hNi := Lib.hid (nums1 (wr.alloc (.cells #[.int .i64 mk, .int .i64 mf, .int .i64 mt, .int .i64 mv'] 39)) mf 3)
        by_cases hff : 0 ≤ mf ∧ mf < n
        · have hC : Hid (inB n [mf] = true) := by unfold Hid; simp [inB]; exact hff
          have hnew := Lib.hid (hyesB.out hk1 ⟨hff.1, by have := hNH.out; omega⟩)
          clear hyesB hnoB hk1 hBwm
          go_wp2_with fail
          rw [show (wr.alloc (.cells #[.int .i64 mk, .int .i64 mf, .int .i64 mt, .int .i64 mv'] 39)).heap.size = wr.heap.size + 1 by simp] at hNi
          refine (inside_any (some ⟨wr.heap.size + 1, 0, none⟩) 1 [mf] n _ hNi.out (by simp) true hC).mono ?_
          rintro e w6 ⟨rfl, hw6⟩
          subst hw6
          go_wp2_with fail
          go_roundw
          case rel => exact ⟨k + 1, by omega, by go_num, by rw [hstep.out, hnew.out]; go_num, hBwi⟩
          case measure => simp [intOf]; omega
        · have hC : Hid (inB n [mf] = false) := by unfold Hid; simp [inB]; omega
          have hsame := Lib.hid (hnoB.out (fun h => hff ⟨h.2.1, by have := hNH.out; omega⟩))
          clear hyesB hnoB hk1 hff hBwm
          go_wp2_with fail
          rw [show (wr.alloc (.cells #[.int .i64 mk, .int .i64 mf, .int .i64 mt, .int .i64 mv'] 39)).heap.size = wr.heap.size + 1 by simp] at hNi
          refine (inside_any (some ⟨wr.heap.size + 1, 0, none⟩) 1 [mf] n _ hNi.out (by simp) false hC).mono ?_
          rintro e w6 ⟨rfl, hw6⟩
          subst hw6
          go_wp2_with fail
          go_roundw
          case rel => exact ⟨k + 1, by omega, by go_num, by rw [hstep.out, hsame.out], hBwi⟩
          case measure => simp [intOf]; omega
      · have e1 : (mk == 1) = false := by simp [hk1]
        have hsame := Lib.hid (hnoB.out (fun h => hk1 h.1))
        clear hyesB hnoB hk1
        go_wp2_with fail
        go_roundw
        case rel => exact ⟨k + 1, by omega, by go_num, by rw [hstep.out, hsame.out], hBwm⟩
        case measure => simp [intOf]; omega
    · have hkl : k = l.length := by omega
      subst hkl
      have htold := Lib.hid (fun i (hi : i < N) => all_told l hi)
      have hM11 : (cAt N l l.length).m ≤ 11 := by omega
      generalize hMM : (cAt N l l.length).m = M at *
      clear hMM hmk
      have hmul : Hid (∀ i, i ≤ N → i * M ≤ 44) := fun i hi => Nat.le_trans (Nat.mul_le_mul (Nat.le_trans hi hN4) hM11) (by omega)
      have hW3 : (wr.alloc (.cells #[] 39)).ownsRow w.heap.size 39 4 (.slice (some ⟨wr.heap.size, 0, none⟩) 0 0) 0 [] := World.ownsRow_lit wr #[] 0 hBw.size (by unfold maxLen; omega) (by simp)
      have hB3 := hBw.alloc hBw.size (.cells #[] 39)
      have hE3 := (hEH.out.below hB3).more hB3.size
      have hsz3 := hB3.size
      have hszr := hBw.size
      clear hBw
      go_wp2_with (first
        | (at_builtin; refine wpList_copyM rfl (.tmp 41) (.tmp 42) rfl j0 hJi.out hJz.out hJs.out hJb.out w.heap.size wr.heap.size rfl hW3 A cap l rfl hE3 (by omega) hsz3 ?_; intro v4 w4 hW4 hG4
           have hrel0 : Al2 w l M 0 0 v4 w4 := ⟨(by rw [scrA_zero]; exact hW4), hB3.grown hG4 hB3.size (fun b hb => (by injection hb with hb; omega))⟩
           clear hW4 hG4))
      clear hW3 hB3 hE3
      go_loopw [8, 9] (fun v t wr => ∃ i : Nat, i ≤ N ∧ t = .int .i64 i ∧ Al2 w l M i 0 v wr) (fun _ t _ => N - (intOf t).toNat)
      case atStart => exact ⟨0, Nat.zero_le _, rfl, hrel0⟩
      case round =>
        clear hrel0
        obtain ⟨i, hi, rfl, hW, hB⟩ := hrel
        rename World => w9
        by_cases hiN : i < N
        · have hiI : (i : Int) < n := by have := hNH.out; omega
          go_wp2_with fail
          go_loopw [8, 10] (fun v t wr => ∃ m : Nat, m ≤ M ∧ t = .int .i64 ((m : Int) - 1) ∧ Al2 w l M i (M - m) v wr) (fun _ t _ => (intOf t + 1).toNat)
          case atStart => exact ⟨M, Nat.le_refl _, rfl, by rw [Nat.sub_self]; exact hW, hB⟩
          case round =>
            clear hW hB
            obtain ⟨m, hm, rfl, hW, hB⟩ := hrel
            cases m with
            | succ q =>
              have hqs : ((q + 1 : Nat) : Int) - 1 = (q : Int) := by omega
              rw [hqs]
              clear hqs
              have hnx : Hid (scrA l M i (M - q) = scrA l M i (M - (q + 1)) ++ [cmM i q]) := by
                unfold Hid
                rw [show M - q = (M - (q + 1)) + 1 by omega, scrA_more, show M - 1 - (M - (q + 1)) = q by omega]
              have hlen : (scrA l M i (M - (q + 1))).length ≤ 66 := by rw [scrA_len]; have := hmul.out i hi; omega
              generalize scrA l M i (M - (q + 1)) = L at *
              obtain ⟨A9, cap9, hv9, hc91, hc92, _⟩ := hW.shape
              subst hv9
              have hWa := hW.alloc (.cells #[.int .i64 2, .int .i64 0, .int .i64 (i : Int), .int .i64 (q : Int)] 39)
              unfold OwnMvs at hWa
              have hBa := hB.alloc hB.size (.cells #[.int .i64 2, .int .i64 0, .int .i64 (i : Int), .int .i64 (q : Int)] 39)
              have hnews := Lib.hid (newsM (w := wr) (cmM i q) rfl)
              have hlt5 : Hid (∀ b, (Value.slice A9 L.length cap9).ownBlock = some b → w.heap.size ≤ b) := hW.lt
              clear hW hB
              go_wp2_with (first
                | (at_builtin; refine wpList_append_lies _ rfl (.tmp 55) (.tmp 59) 22 rfl w.heap.size 39 j0 (.agg #[.int .i64 0, .int .i64 0, .int .i64 0, .int .i64 0]) 4 32 Try.underlying22 hJi.out hJz.out hJs.out hJb.out rfl (by decide) (.slice A9 L.length cap9) L.length (flatM L) rfl hWa ⟨wr.heap.size, 0, none⟩ 1 1 (cellsM (cmM i q)) rfl rfl hnews.out (by simp [cellsM, Value.oneCell']) (by omega) (by unfold maxLen; omega) (by omega) hBa.size _ rfl ?_; intro ga capa wa howna hgrowa hata hltga
                   have hWn := OwnMvs.push howna
                   have hBn := hBa.grown hgrowa hBa.size hlt5.out
                   clear howna hgrowa hata hltga hWa hBa))
              go_roundw
              case rel => exact ⟨q, by omega, by go_num, by rw [hnx.out]; exact hWn, hBn⟩
              case measure => simp [intOf]
            | zero =>
              have hnx := Lib.hid (scrA_row l M i)
              rw [Nat.sub_zero] at hW
              have hneg : ((0 : Nat) : Int) - 1 = -1 := rfl
              rw [hneg]
              clear hneg
              obtain ⟨A9, cap9, hv9, _, _, _⟩ := hW.shape
              subst hv9
              go_wp2_with fail
              go_roundw
              case rel => exact ⟨i + 1, by omega, by go_num, by rw [hnx.out]; exact hW, hB⟩
              case measure => simp [intOf]; omega
        · have hiE : i = N := by omega
          subst hiE
          have hiI : ¬ ((i : Int) < n) := by have := hNH.out; omega
          have hlen : (scrA l M i 0).length ≤ 55 := by rw [scrA_len]; have := hmul.out i (Nat.le_refl _); omega
          have hFL := Lib.hid (scrA_fits hFH.out hN4 hM11)
          have htd : Hid (∀ a, a < i → (∀ k, k < M → k ∈ (cAt i (scrA l M i 0) (scrA l M i 0).length).td a) ∧ ((cAt i (scrA l M i 0) (scrA l M i 0).length).td a).length = M) := fun a ha => by
            rw [cAt_all]
            exact htold.out a ha
          obtain ⟨A9, cap9, hv9, hc91, hc92, hM9⟩ := hW.shape
          subst hv9
          clear hW htold hmul hEH hFH
          generalize scrA l M i 0 = L at *
          by_cases hn1 : n < 1
          · have hno : Hid (¬ Plays n L.length) := fun h => by have := h.1; omega
            have hno2 : Hid (¬ (1 ≤ n ∧ n ≤ 6 ∧ (L.length : Int) ≤ 60)) := fun h => by have := h.1; omega
            clear htd
            go_wp2_with fail
            refine (play_no A9 cap9 L n w9 (by unfold maxLen; omega) hno.out).mono ?_
            rintro e wa ⟨rfl, hBa⟩
            have hBx := (hB.trans (hBa.mono hB.size)).alloc (by have := hBa.size; have := hB.size; omega) (.cells #[.slice none 0 0, .slice none 0 0] 26)
            clear hB hBa
            go_wp2_with fail
            generalize wa.alloc (.cells #[.slice none 0 0, .slice none 0 0] 26) = wb at *
            refine (played_any wb n (L.length : Int) false ⟨fun h => absurd h (by decide), fun h => absurd h hno2.out⟩).mono ?_
            rintro e wc ⟨rfl, rfl⟩
            go_wp2_with fail
            go_ret
            exact ⟨rfl, hBx⟩
          · have hnN : n = (i : Int) := by have := hNH.out; omega
            clear hNH
            subst hnN
            have hyes : Hid (Plays (i : Int) L.length) := ⟨by omega, by omega, by omega⟩
            go_wp2_with fail
            refine (play_ok A9 cap9 L i w9 hM9 hFL.out hyes.out).mono ?_
            rintro e wa ⟨gc, T, rfl, _, hT1, hBa⟩
            unfold hrdVal
            have hR2 := Row.made wa 26 [.slice (some ⟨gc, 0, none⟩) L.length L.length, .slice (some ⟨T, 0, none⟩) i i]
            have hba := (Below.refl wa.heap.size wa).alloc (Nat.le_refl _) (.cells #[.slice (some ⟨gc, 0, none⟩) L.length L.length, .slice (some ⟨T, 0, none⟩) i i] 26)
            have hT2 := Lib.hid (hT1.within hba)
            have hBx := (hB.trans (hBa.mono hB.size)).alloc (by have := hBa.size; have := hB.size; omega) (.cells #[.slice (some ⟨gc, 0, none⟩) L.length L.length, .slice (some ⟨T, 0, none⟩) i i] 26)
            have x1 := hR2.cell (i := 1) (by simp)
            simp only [List.getElem_cons_zero, List.getElem_cons_succ] at x1
            have hltb := hR2.lt
            clear hB hBa hT1 hba hR2 hM9
            go_wp2_with fail
            generalize wa.alloc (.cells #[.slice (some ⟨gc, 0, none⟩) L.length L.length, .slice (some ⟨T, 0, none⟩) i i] 26) = wb at *
            generalize wa.heap.size = bb at *
            refine (played_any wb i (L.length : Int) true ⟨fun _ => ⟨by omega, by omega, by omega⟩, fun _ => rfl⟩).mono ?_
            rintro e wc ⟨rfl, rfl⟩
            go_wp2_with fail
            rename World => wc
            go_loopw [86] (fun t wr => ∃ a : Nat, a ≤ i ∧ t = .int .i64 a ∧ Al3 w wc wr) (fun t _ => i - (intOf t).toNat)
            case atStart => exact ⟨0, Nat.zero_le _, rfl, hBx, Below.refl _ _⟩
            case round =>
              obtain ⟨a, ha, rfl, hBw, hBc⟩ := hrel
              by_cases hai : a < i
              · have haI : (a : Int) < (i : Int) := by omega
                obtain ⟨_, A1, c1, t1, hr1, hN1⟩ := (hT2.out.within hBc).at_ hai
                obtain ⟨m1, m2⟩ := htd.out a hai
                have hon := Lib.hid (onceL_yes A1 c1 (zs ((cAt i L L.length).td a)) wr hN1 (by rw [zs_len, m2]; omega) (fun k hk => by
                  rw [zs_len, m2] at hk
                  rw [zs_mem]
                  exact m1 k hk))
                rw [zs_len, m2] at hon
                rw [m2] at t1
                clear m1 m2 hN1 hr1
                go_wp2_with fail
                refine hon.out.mono ?_
                rintro e w7 ⟨rfl, rfl⟩
                go_wp2_with fail
                go_roundw
                case rel => exact ⟨a + 1, by omega, by go_num, hBw, hBc⟩
                case measure => simp [intOf]; omega
              · have hae : a = i := by omega
                subst hae
                go_wp2_with fail
                go_ret
                exact ⟨rfl, hBw⟩

theorem causalAll_law (w : World) (n : Int) (hn : I64 n) (A : Option Addr) (cap : Nat) (l : List Mv) (hE : Mvs w w.heap.size A l) (hF : MFits l) (_hcap : l.length ≤ cap) (hl : l.length ≤ maxLen) (_hs : l.length ≤ 17592186044416) :
    Calls Try.prog 5 #[.int .i64 n, .slice A l.length cap] w fun e w' => e = .returned (.bool true) ∧ Below w.heap.size w w' := by
  by_cases h : 4 < n ∨ 11 < l.length
  · exact call_far w n A cap l hl h
  · exact call_near w n hn A cap l hE hF (by omega) (by omega)

#print axioms causalAll_law
end Go.Proofs.Ytkchccaeopdemaa
