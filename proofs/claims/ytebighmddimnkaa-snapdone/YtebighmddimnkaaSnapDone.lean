/-
  The walk of the law SnapDone: behind a mark and receipts all is recorded.
-/
import Derived.Test.YtebighmddimnkaaPly
import Derived.Test.YtebighmddimnkaaMow
import Derived.Test.YtebighmddimnkaaSnd
namespace Go.Proofs.Ytebighmddimnkaa
open Go.RowKit Go.Maps

/-- What has been written, k rounds, i senders and j receivers on. -/
def scr (l : List Mv) (N k i j : Nat) : List Mv := l ++ [mkM] ++ rdsL N k ++ rndL N i ++ rowL i j
theorem scr_len (l : List Mv) (h : l.length ≤ 4) {N k i j : Nat} (hN : N ≤ 3) (hk : k ≤ 6) (hi : i ≤ N) (hj : j ≤ N) : (scr l N k i j).length ≤ 74 := by
  have h1 := rdsL_len N k
  have h2 := rndL_len N i
  have h3 := rowL_len i j
  have h4 : k * (N * N) ≤ 6 * (3 * 3) := Nat.mul_le_mul hk (Nat.mul_le_mul hN hN)
  have h5 : i * N ≤ 3 * 3 := Nat.mul_le_mul (by omega) hN
  simp only [scr, List.length_append, List.length_singleton]
  omega
theorem scr_last (l : List Mv) (N : Nat) : scr l N 6 0 0 = l ++ [mkM] ++ rdsL N 6 := by simp [scr, rndL, rowL]
theorem rndL_cnt (n : Nat) : ∀ i, (∀ a, a < i → (rowL a n).length ≤ n - 1) → (rndL n i).length ≤ i * (n - 1) := by
  intro i
  induction i with
  | zero => intro _; simp [rndL]
  | succ i ih =>
    intro h
    have h1 := ih (fun a ha => h a (by omega))
    have h2 := h i (by omega)
    rw [rndL, List.length_append, Nat.succ_mul]; omega
theorem rowL_cnt {i j : Nat} (hi : i < j) : (rowL i j).length ≤ j - 1 := by
  induction j with
  | zero => omega
  | succ j ih =>
    rw [rowL]
    by_cases e : i = j
    · subst e
      rw [if_neg (by simp)]
      exact rowL_len i i
    · rw [if_pos e, List.length_append, List.length_singleton]
      have := ih (by omega)
      omega
theorem rds6 {N : Nat} (hN : N ≤ 3) : (rdsL N 6).length ≤ 36 := by
  have h1 := rndL_cnt N N (fun a ha => rowL_cnt ha)
  have h2 : N * (N - 1) ≤ 3 * 2 := Nat.mul_le_mul hN (by omega)
  have h3 : ∀ k, (rdsL N k).length ≤ k * 6 := fun k => by
    induction k with
    | zero => simp [rdsL]
    | succ k ih => rw [rdsL, List.length_append]; omega
  have := h3 6
  omega
theorem tk_fits {N i j : Nat} (hN : N ≤ 3) (hi : i < N) (hj : j < N) : MvFits (tkM i j) := by
  unfold MvFits tkM
  simp only
  refine ⟨⟨by omega, by omega⟩, ⟨by omega, by omega⟩, ⟨by omega, by omega⟩, ⟨by omega, by omega⟩⟩
theorem rds_fits {N : Nat} (hN : N ≤ 3) (k : Nat) : MFits (rdsL N k) := by
  induction k with
  | zero => intro m hm; cases hm
  | succ k ih =>
    intro m hm
    rw [rdsL] at hm
    rcases List.mem_append.1 hm with h | h
    · exact ih m h
    · obtain ⟨i, j, hi, hj, _, rfl⟩ := rndL_take (Nat.le_refl N) m h
      exact tk_fits hN hi hj
theorem last_fits {l : List Mv} (hF : MFits l) {N : Nat} (hN : N ≤ 3) : MFits (l ++ [mkM] ++ rdsL N 6) := by
  intro m hm
  rcases List.mem_append.1 hm with h | h
  · rcases List.mem_append.1 h with h1 | h1
    · exact hF m h1
    · rw [List.mem_singleton.1 h1]
      unfold MvFits mkM
      simp only
      refine ⟨⟨by omega, by omega⟩, ⟨by omega, by omega⟩, ⟨by omega, by omega⟩, ⟨by omega, by omega⟩⟩
  · exact rds_fits hN 6 m h
theorem rds_zero (k : Nat) : rdsL 0 k = [] := by
  induction k with
  | zero => rfl
  | succ k ih => rw [rdsL, ih]; rfl

theorem scr_more (l : List Mv) (N k : Nat) {i j : Nat} (h : i ≠ j) : scr l N k i (j + 1) = scr l N k i j ++ [tkM i j] := by
  unfold scr
  rw [rowL, if_pos h, ← List.append_assoc]
theorem scr_skip (l : List Mv) (N k i : Nat) : scr l N k i (i + 1) = scr l N k i i := by
  unfold scr
  rw [rowL, if_neg (by simp)]
theorem scr_row (l : List Mv) (N k i : Nat) : scr l N k (i + 1) 0 = scr l N k i N := by simp [scr, rndL, rowL]
theorem scr_round (l : List Mv) (N k : Nat) : scr l N (k + 1) 0 0 = scr l N k N 0 := by simp [scr, rdsL, rndL, rowL]

def SdRel (w : World) (l : List Mv) (N k i j : Nat) (v : Value) (wr : World) : Prop := OwnMvs wr w.heap.size v (scr l N k i j) ∧ Below w.heap.size w wr

set_option maxHeartbeats 1000000 in
theorem snapdone_far (w : World) (n : Int) (A : Option Addr) (cap : Nat) (l : List Mv) (hl : l.length ≤ maxLen) (h : 3 < n ∨ 4 < l.length) :
    Calls Try.prog 5 #[.int .i64 n, .slice A l.length cap] w fun e w' => e = .returned (.bool true) ∧ Below w.heap.size w w' := by
  have hl2 : (l.length : Int) ≤ 9223372036854775807 := by unfold maxLen at hl; omega
  by_cases h1 : 3 < n
  · go_enter Try.func5, Try.ntmps5
    go_wp2_with fail
    go_ret
    exact ⟨rfl, Below.refl _ _⟩
  · have h2 : 4 < (l.length : Int) := by omega
    clear h
    go_enter Try.func5, Try.ntmps5
    go_wp2_with fail
    go_ret
    exact ⟨rfl, Below.refl _ _⟩

set_option maxHeartbeats 8000000 in
set_option maxRecDepth 100000 in
theorem snapdone_near (w : World) (n : Int) (A : Option Addr) (cap : Nat) (l : List Mv) (hE : Mvs w w.heap.size A l) (hF : MFits l) (h1 : n ≤ 3) (h2 : l.length ≤ 4) :
    Calls Try.prog 5 #[.int .i64 n, .slice A l.length cap] w fun e w' => e = .returned (.bool true) ∧ Below w.heap.size w w' := by
  obtain ⟨N, hNn⟩ : ∃ N : Nat, N = n.toNat := ⟨_, rfl⟩
  have hN3 : N ≤ 3 := by omega
  have hlI : (l.length : Int) ≤ 4 := by omega
  obtain ⟨j0, hi0, hz0, hz1, hz2⟩ := info_parts infoMv
  have hJi := Lib.hid hi0; have hJz := Lib.hid hz0; have hJs := Lib.hid hz1; have hJb := Lib.hid hz2
  clear hi0 hz0 hz1 hz2
  have hFH := Lib.hid hF
  have hlenH : Hid (∀ {k i j : Nat}, k ≤ 6 → i ≤ N → j ≤ N → (scr l N k i j).length ≤ 74) := fun hk hi hj => scr_len l h2 hN3 hk hi hj
  have hNH := Lib.hid hNn
  clear hF hNn
  have hW3 : (w.alloc (.cells #[] 39)).ownsRow w.heap.size 39 4 (.slice (some ⟨w.heap.size, 0, none⟩) 0 0) 0 [] := World.ownsRow_lit w #[] 0 (Nat.le_refl _) (by unfold maxLen; omega) (by simp)
  have hB3 := (Below.refl w.heap.size w).alloc (Nat.le_refl _) (.cells #[] 39)
  have hE3 := (hE.below hB3).more hB3.size
  have hsz3 : w.heap.size ≤ (w.alloc (.cells #[] 39)).heap.size := by simp
  go_enter Try.func5, Try.ntmps5
  go_wp2_with (first
    | (at_builtin; refine wpList_copyM rfl (.tmp 18) (.tmp 19) rfl j0 hJi.out hJz.out hJs.out hJb.out w.heap.size w.heap.size rfl hW3 A cap l rfl hE3 (by omega) hsz3 ?_; intro v4 w4 hW4 hG4
       obtain ⟨A4, cap4, hv4, hc41, hc42, _⟩ := hW4.shape
       subst hv4
       have hB4 := hB3.grown hG4 hB3.size (by simp)
       have hsz4 := Nat.le_trans hsz3 hG4.size
       have hW5 := hW4.alloc (.cells #[.int .i64 3, .int .i64 0, .int .i64 0, .int .i64 0] 39)
       unfold OwnMvs at hW5
       have hB5 := hB4.alloc hsz4 (.cells #[.int .i64 3, .int .i64 0, .int .i64 0, .int .i64 0] 39)
       have hnews := Lib.hid (newsM (w := w4) mkM rfl)
       have hbase : w.heap.size ≤ (w4.alloc (.cells #[.int .i64 3, .int .i64 0, .int .i64 0, .int .i64 0] 39)).heap.size := (by simp; omega)
       have hlt5 : Hid (∀ j, (Value.slice A4 l.length cap4).ownBlock = some j → w.heap.size ≤ j) := hW4.lt
       clear hG4 hW4 hB4 hW3 hB3 hE3)
    | (at_builtin; refine wpList_append_lies _ rfl (.tmp 20) (.tmp 22) 22 rfl w.heap.size 39 j0 (.agg #[.int .i64 0, .int .i64 0, .int .i64 0, .int .i64 0]) 4 32 Try.underlying22 hJi.out hJz.out hJs.out hJb.out rfl (by decide) (.slice A4 l.length cap4) l.length (flatM l) rfl hW5 ⟨w4.heap.size, 0, none⟩ 1 1 (cellsM mkM) rfl rfl hnews.out (by simp [cellsM, Value.oneCell']) (by omega) (by unfold maxLen; omega) (by omega) hbase _ rfl ?_; intro g7 cap7 w7 hown7 hgrow7 hat7 hltg7
       have hrel0 : SdRel w l N 0 0 0 (.slice (some ⟨g7, 0, none⟩) (l.length + 1) cap7) w7 := ⟨(by
         have e : scr l N 0 0 0 = l ++ [mkM] := (by simp [scr, rdsL, rndL, rowL])
         rw [e]; exact OwnMvs.push hown7), hB5.grown hgrow7 hbase hlt5.out⟩
       clear hown7 hgrow7 hat7 hltg7 hW5 hB5 hnews hbase hlt5))
  have hlow : w.heap.size ≤ w.heap.size := Nat.le_refl _
  go_loopw [5, 6] (fun v t wr => ∃ k : Nat, k ≤ 6 ∧ t = .int .i64 k ∧ SdRel w l N k 0 0 v wr) (fun _ t _ => 6 - (intOf t).toNat)
  case atStart => exact ⟨0, Nat.zero_le _, rfl, hrel0⟩
  case round =>
    clear hrel0
    obtain ⟨k, hk, rfl, hW, hB⟩ := hrel
    rename World => w8
    by_cases hk6 : k < 6
    · have hkI : (k : Int) < 6 := by omega
      go_wp2_with fail
      go_loopw [5, 7] (fun v t wr => ∃ i : Nat, i ≤ N ∧ t = .int .i64 i ∧ SdRel w l N k i 0 v wr) (fun _ t _ => N - (intOf t).toNat)
      case atStart => exact ⟨0, Nat.zero_le _, rfl, hW, hB⟩
      case round =>
        clear hW hB
        obtain ⟨i, hi, rfl, hW, hB⟩ := hrel
        rename World => w9
        by_cases hiN : i < N
        · have hiI : (i : Int) < n := by have := hNH.out; omega
          go_wp2_with fail
          go_loopw [5, 8] (fun v t wr => ∃ j : Nat, j ≤ N ∧ t = .int .i64 j ∧ SdRel w l N k i j v wr) (fun _ t _ => N - (intOf t).toNat)
          case atStart => exact ⟨0, Nat.zero_le _, rfl, hW, hB⟩
          case round =>
            clear hW hB
            obtain ⟨j, hj, rfl, hW, hB⟩ := hrel
            by_cases hjN : j < N
            · have hjI : (j : Int) < n := by have := hNH.out; omega
              by_cases e : i = j
              · have v1 : ((i : Int) != (j : Int)) = false := by simp [e]
                have hnx : Hid (scr l N k i (j + 1) = scr l N k i j) := by unfold Hid; subst e; exact scr_skip l N k i
                clear e
                obtain ⟨A9, cap9, rfl, _, _, _⟩ := hW.shape
                go_wp2_with fail
                go_roundw
                case rel => exact ⟨j + 1, by omega, by go_num, by rw [hnx.out]; exact hW, hB⟩
                case measure => simp [intOf]; omega
              · have v1 : ((i : Int) != (j : Int)) = true := by simp; omega
                have hnx := Lib.hid (scr_more l N k e)
                have hlen := hlenH.out hk (Nat.le_of_lt hiN) hj
                generalize scr l N k i j = L at *
                obtain ⟨A9, cap9, hv9, hc91, hc92, _⟩ := hW.shape
                subst hv9
                have hWa := hW.alloc (.cells #[.int .i64 2, .int .i64 (i : Int), .int .i64 (j : Int), .int .i64 0] 39)
                unfold OwnMvs at hWa
                have hBa := hB.alloc hB.size (.cells #[.int .i64 2, .int .i64 (i : Int), .int .i64 (j : Int), .int .i64 0] 39)
                have hnews := Lib.hid (newsM (w := wr) (tkM i j) rfl)
                have hlt5 : Hid (∀ b, (Value.slice A9 L.length cap9).ownBlock = some b → w.heap.size ≤ b) := hW.lt
                clear e hW hB
                go_wp2_with (first
                  | (at_builtin; refine wpList_append_lies _ rfl (.tmp 41) (.tmp 45) 22 rfl w.heap.size 39 j0 (.agg #[.int .i64 0, .int .i64 0, .int .i64 0, .int .i64 0]) 4 32 Try.underlying22 hJi.out hJz.out hJs.out hJb.out rfl (by decide) (.slice A9 L.length cap9) L.length (flatM L) rfl hWa ⟨wr.heap.size, 0, none⟩ 1 1 (cellsM (tkM i j)) rfl rfl hnews.out (by simp [cellsM, Value.oneCell']) (by omega) (by unfold maxLen; omega) (by omega) hBa.size _ rfl ?_; intro ga capa wa howna hgrowa hata hltga
                     have hWn := OwnMvs.push howna
                     have hBn := hBa.grown hgrowa hBa.size hlt5.out
                     clear howna hgrowa hata hltga hWa hBa))
                go_roundw
                case rel => exact ⟨j + 1, by omega, by go_num, by rw [hnx.out]; exact hWn, hBn⟩
                case measure => simp [intOf]; omega
            · have hjE : j = N := by omega
              subst hjE
              have hjI : ¬ ((j : Int) < n) := by have := hNH.out; omega
              have hnx := Lib.hid (scr_row l j k i)
              obtain ⟨A9, cap9, rfl, _, _, _⟩ := hW.shape
              go_wp2_with fail
              go_roundw
              case rel => exact ⟨i + 1, by omega, by go_num, by rw [hnx.out]; exact hW, hB⟩
              case measure => simp [intOf]; omega
        · have hiE : i = N := by omega
          subst hiE
          have hiI : ¬ ((i : Int) < n) := by have := hNH.out; omega
          have hnx := Lib.hid (scr_round l i k)
          obtain ⟨A9, cap9, rfl, _, _, _⟩ := hW.shape
          go_wp2_with fail
          go_roundw
          case rel => exact ⟨k + 1, by omega, by go_num, by rw [hnx.out]; exact hW, hB⟩
          case measure => simp [intOf]; omega
    · have hkE : k = 6 := by omega
      subst hkE
      rw [scr_last] at hW
      have hL : (l ++ [mkM] ++ rdsL N 6).length ≤ 41 := by
        have := rds6 hN3
        simp only [List.length_append, List.length_singleton]
        omega
      have hFL := Lib.hid (last_fits hFH.out hN3)
      have hdone : Hid (0 < N → DoneS N (stAt N (l ++ [mkM] ++ rdsL N 6) (l ++ [mkM] ++ rdsL N 6).length)) := fun h => by
        rw [stAt_all]
        exact done_all N h l h2
      obtain ⟨A9, cap9, hv9, hc91, hc92, hM9⟩ := hW.shape
      subst hv9
      clear hlenH hW
      generalize l ++ [mkM] ++ rdsL N 6 = L at *
      by_cases hn1 : n < 1
      · have hno : Hid (¬ Plays n L.length) := fun h => by have := h.1; omega
        clear hdone
        go_wp2_with fail
        refine (play_no A9 cap9 L n w8 (by unfold maxLen; omega) hno.out).mono ?_
        rintro e w9 ⟨rfl, hB9⟩
        have hBx := (hB.trans (hB9.mono hB.size)).alloc (by have := hB9.size; have := hB.size; omega) (.cells #[.slice none 0 0, .bool false, .slice none 0 0, .slice none 0 0] 27)
        clear hB hB9
        go_wp2_with fail
        go_ret
        exact ⟨rfl, hBx⟩
      · have hnN : n = (N : Int) := by have := hNH.out; omega
        clear hNH
        subst hnN
        have hyes : Hid (Plays (N : Int) L.length) := ⟨by omega, by omega, by omega⟩
        go_wp2_with fail
        refine (play_ok A9 cap9 L N w8 hM9 hFL.out hyes.out).mono ?_
        rintro e w9 ⟨gc, gk, T, rw1, D, rfl, hD, hO9, hB9⟩
        have hDt : D = true := hD.2 (hdone.out (by omega))
        subst hDt
        unfold snpVal
        have hBx := (hB.trans (hB9.mono hB.size)).alloc (by have := hB9.size; have := hB.size; omega) (.cells #[.slice (some ⟨gc, 0, none⟩) L.length L.length, .bool true, .slice (some ⟨gk, 0, none⟩) N N, .slice (some ⟨T, 0, none⟩) N N] 27)
        clear hB hB9 hO9 hD hdone
        go_wp2_with fail
        go_ret
        exact ⟨by simp, hBx⟩

theorem snapDone_law (w : World) (n : Int) (_hn : I64 n) (A : Option Addr) (cap : Nat) (l : List Mv) (hE : Mvs w w.heap.size A l) (hF : MFits l) (_hcap : l.length ≤ cap) (hl : l.length ≤ maxLen) (_hs : l.length ≤ 17592186044416) :
    Calls Try.prog 5 #[.int .i64 n, .slice A l.length cap] w fun e w' => e = .returned (.bool true) ∧ Below w.heap.size w w' := by
  by_cases h : 3 < n ∨ 4 < l.length
  · exact snapdone_far w n A cap l hl h
  · exact snapdone_near w n A cap l hE hF (by omega) (by omega)

#print axioms snapDone_law
end Go.Proofs.Ytebighmddimnkaa
