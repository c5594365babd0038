/-
  The contract of beaconrykeep.drain; appending one slice of moves to another one.
-/
import Derived.Test.YtejckoffllhjcaaTgo
import Derived.Test.YtejckoffllhjcaaMow
import Derived.Laws.AppendOwnNone
namespace Go.Proofs.Ytejckoffllhjcaa
open Go.RowKit Go.Maps
set_option linter.unusedVariables false

theorem OwnMvs.nil (w : World) (B : Nat) : OwnMvs w B (.slice none 0 0) [] := ⟨rfl, .inl ⟨rfl, rfl⟩⟩
/-- 'append(v, x...)', both of the call's making. -/
theorem wpList_append_mvs {w : World} {ops : Array Oper} {rest : List Oper} {o : Oper} {a : Act} {Q : Exit → Act → World → Prop} (hgd : o.guard = none) (s x : Operand)
    (ho : o.op = .call { callee := .builtin .append, args := #[s, x], argTypes := #[23, 23] }) (j0 : TypeInfo) (hJi : Try.prog.info? 40 = some j0) (hJz : j0.zero = some (.agg #[.int .i64 0, .int .i64 0, .int .i64 0, .int .i64 0])) (hJs : j0.size = 4) (hJb : j0.bytes = 32)
    (B B' : Nat) (v y : Value) (l r : List Mv) (hs : a.eval s = v) (hown : OwnMvs w B v l) (hx : a.eval x = y) (hsrc : OwnMvs w B' y r) (hlen : l.length + r.length ≤ 1000) (hbase : B ≤ w.heap.size)
    (h : ∀ v' w', OwnMvs w' B v' (l ++ r) → w.grownBy w' v.ownBlock → wpList Try.prog ops Q rest (a.put o.dst v') w') : wpList Try.prog ops Q (o :: rest) a w := by
  rcases hsrc.2 with ⟨h7, h8⟩ | ⟨g, cap, cur, hv, hb', hg', hc1, hc2, hc3, hc4⟩
  · have hr : r = [] := by
      cases r with
      | nil => rfl
      | cons _ _ => simp at h8
    subst hr
    refine wpList_append_own_none hgd s x 23 ho B 40 j0 4 Try.underlying23 hJi v l.length (flatM l) hs hown (by rw [hx, h7]) ?_
    exact h v w (by rw [List.append_nil]; exact hown) ⟨rfl, rfl, rfl, Nat.le_refl _, fun _ _ _ => rfl⟩
  · obtain ⟨A, cap', hv', _, _, hM⟩ := hsrc.shape
    rw [hv] at hv'
    injection hv' with e1 e2 e3
    subst e1
    refine wpList_append_own_at w hgd s x 23 ho B 40 j0 _ 4 32 Try.underlying23 hJi hJz hJs hJb rfl (by decide) v l.length (flatM l) hs hown ⟨g, 0, none⟩ r.length cap (flatM r) (by rw [hx, hv]) (flatM_len r) hM.news (flatM_one' r) (by unfold maxLen; omega) (by omega) hbase ?_
    intro v' w' h1 h2 _ _
    refine h v' w' ?_ h2
    unfold OwnMvs
    rw [flatM_append, List.length_append]
    exact h1

def drM (N k i j : Nat) : List Mv := (drainP N k ++ rowsP N i ++ rowP i j).map cmv
theorem drM_more (N k : Nat) {i j : Nat} (h : i ≠ j) : drM N k i (j + 1) = drM N k i j ++ [cmv (i, j)] := by
  unfold drM
  rw [rowP, if_pos h, ← List.append_assoc, List.map_append]; rfl
theorem drM_skip (N k i : Nat) : drM N k i (i + 1) = drM N k i i := by
  unfold drM
  rw [rowP, if_neg (by simp)]
theorem drM_row (N k i : Nat) : drM N k (i + 1) 0 = drM N k i N := by simp [drM, rowsP, rowP]
theorem drM_round (N k : Nat) : drM N (k + 1) 0 0 = drM N k N 0 := by simp [drM, drainP, rowsP, rowP]
theorem drM_len {N k i j : Nat} (hN : N ≤ 3) (hk : k ≤ 8) (hi : i ≤ N) (hj : j ≤ N) : (drM N k i j).length ≤ 90 := by
  unfold drM
  rw [List.length_map, List.length_append, List.length_append]
  have h1 := drainP_len N k
  have h2 := rowsP_len N i
  have h3 := rowP_len i j
  have h4 : N * N ≤ 9 := Nat.mul_le_mul hN hN
  have h5 : k * (N * N) ≤ 8 * 9 := Nat.mul_le_mul hk h4
  have h6 : i * N ≤ 3 * 3 := Nat.mul_le_mul (by omega) hN
  omega
theorem rowP_len' {i m : Nat} (h : i < m) : (rowP i m).length + 1 ≤ m := by
  induction m with
  | zero => omega
  | succ m ih =>
    rw [rowP]
    by_cases e : i ≠ m
    · rw [if_pos e, List.length_append, List.length_singleton]
      have := ih (by omega)
      omega
    · rw [if_neg e]
      have := rowP_len i m
      omega
theorem rowsP_len' {n m : Nat} (h : m ≤ n) : (rowsP n m).length + m ≤ m * n := by
  induction m with
  | zero => simp [rowsP]
  | succ m ih =>
    rw [rowsP, List.length_append, Nat.succ_mul]
    have := rowP_len' (i := m) (m := n) (by omega)
    have := ih (by omega)
    omega
/-- Eight rounds are 48 receipts, at most. -/
theorem drain8_len {N : Nat} (hN : N ≤ 3) : (drainP N 8).length ≤ 48 := by
  have key : ∀ k, (drainP N k).length ≤ k * 6 := fun k => by
    induction k with
    | zero => simp [drainP]
    | succ k ih =>
      rw [drainP, List.length_append, Nat.succ_mul]
      have h1 := rowsP_len' (Nat.le_refl N)
      have h2 : N * N ≤ 3 * N := Nat.mul_le_mul hN (Nat.le_refl N)
      have h3 : N * N ≤ N + 6 := by
        have : N = 0 ∨ N = 1 ∨ N = 2 ∨ N = 3 := by omega
        rcases this with rfl | rfl | rfl | rfl <;> decide
      omega
  exact key 8
theorem cmv_fits {N : Nat} (hN : N ≤ 1000) {P : List (Nat × Nat)} (h : ∀ p ∈ P, Vld N p) : MFits (P.map cmv) := fun m hm => by
  obtain ⟨p, hp, rfl⟩ := List.mem_map.1 hm
  have := h p hp
  unfold Vld at this
  exact ⟨by constructor <;> (show _ ≤ _; simp only [cmv]; omega), by constructor <;> (show _ ≤ _; simp only [cmv]; omega), by constructor <;> (show _ ≤ _; simp only [cmv]; omega), by constructor <;> (show _ ≤ _; simp only [cmv]; omega)⟩

def DrRel (w : World) (N k i j : Nat) (v : Value) (wr : World) : Prop := OwnMvs wr w.heap.size v (drM N k i j) ∧ Below w.heap.size w wr
def DrRes (w : World) (N : Nat) (e : Ending) (w' : World) : Prop := ∃ v, e = .returned v ∧ OwnMvs w' w.heap.size v ((drainP N 8).map cmv) ∧ Below w.heap.size w w'

set_option maxHeartbeats 4000000 in
theorem drain_any (w : World) (n : Int) (hn : n ≤ 3) (hn0 : I64 n) : Calls Try.prog 14 #[.int .i64 n, .int .i64 8] w (DrRes w n.toNat) := by
  obtain ⟨N, hNn⟩ : ∃ N : Nat, Hid (n.toNat = N) := ⟨_, rfl⟩
  rw [hNn.out]
  have hN3 : N ≤ 3 := by have := hNn.out; omega
  obtain ⟨j0, hi0, hz0, hz1, hz2⟩ := info_parts infoMv
  have hJi := Lib.hid hi0; have hJz := Lib.hid hz0; have hJs := Lib.hid hz1; have hJb := Lib.hid hz2
  clear hi0 hz0 hz1 hz2
  obtain ⟨hn1, hn2⟩ := hn0
  go_enter Try.func14, Try.ntmps14
  go_wp2_with fail
  go_loopw [5, 6] (fun v t wr => ∃ k : Nat, k ≤ 8 ∧ t = .int .i64 k ∧ DrRel w N k 0 0 v wr) (fun _ t _ => 8 - (intOf t).toNat)
  case atStart => exact ⟨0, Nat.zero_le _, rfl, OwnMvs.nil _ _, Below.refl _ _⟩
  case round =>
    obtain ⟨k, hk, rfl, hW, hB⟩ := hrel
    rename World => w8
    by_cases hk8 : k < 8
    · have hkI : (k : Int) < 8 := by omega
      obtain ⟨A9, cap9, rfl, _, _, _⟩ := hW.shape
      go_wp2_with fail
      go_loopw [5, 7] (fun v t wr => ∃ i : Nat, i ≤ N ∧ t = .int .i64 i ∧ DrRel w N k i 0 v wr) (fun _ t _ => N - (intOf t).toNat)
      case atStart => exact ⟨0, Nat.zero_le _, rfl, hW, hB⟩
      case round =>
        clear hW hB
        obtain ⟨i, hi, rfl, hW, hB⟩ := hrel
        rename World => w9
        by_cases hiN : i < N
        · have hiI : (i : Int) < n := by have := hNn.out; omega
          obtain ⟨A9, cap9, rfl, _, _, _⟩ := hW.shape
          go_wp2_with fail
          go_loopw [5, 8] (fun v t wr => ∃ j : Nat, j ≤ N ∧ t = .int .i64 j ∧ DrRel w N k i j v wr) (fun _ t _ => N - (intOf t).toNat)
          case atStart => exact ⟨0, Nat.zero_le _, rfl, hW, hB⟩
          case round =>
            clear hW hB
            obtain ⟨j, hj, rfl, hW, hB⟩ := hrel
            by_cases hjN : j < N
            · have hjI : (j : Int) < n := by have := hNn.out; omega
              by_cases e : i = j
              · have v1 : ((i : Int) != (j : Int)) = false := by simp [e]
                have hnx : Hid (drM N k i (j + 1) = drM N k i j) := by unfold Hid; subst e; exact drM_skip N k i
                clear e
                obtain ⟨A9, cap9, rfl, _, _, _⟩ := hW.shape
                go_wp2_with fail
                go_roundw
                case rel => exact ⟨j + 1, by omega, by go_num, by rw [hnx.out]; exact hW, hB⟩
                case measure => simp [intOf]; omega
              · have v1 : ((i : Int) != (j : Int)) = true := by simp; omega
                have hnx := Lib.hid (drM_more N k e)
                have hlen := drM_len hN3 hk (Nat.le_of_lt hiN) hj
                generalize drM N k i j = L at *
                obtain ⟨A9, cap9, hv9, hc91, hc92, _⟩ := hW.shape
                subst hv9
                have hWa := hW.alloc (.cells #[.int .i64 2, .int .i64 (i : Int), .int .i64 (j : Int), .int .i64 0] 40)
                unfold OwnMvs at hWa
                have hBa := hB.alloc hB.size (.cells #[.int .i64 2, .int .i64 (i : Int), .int .i64 (j : Int), .int .i64 0] 40)
                have hnews := Lib.hid (newsM (w := wr) (cmv (i, j)) rfl)
                have hlt5 : Hid (∀ b, (Value.slice A9 L.length cap9).ownBlock = some b → w.heap.size ≤ b) := hW.lt
                clear e hW hB
                go_wp2_with (first
                  | (at_builtin; refine wpList_append_lies _ rfl (.tmp 27) (.tmp 31) 23 rfl w.heap.size 40 j0 (.agg #[.int .i64 0, .int .i64 0, .int .i64 0, .int .i64 0]) 4 32 Try.underlying23 hJi.out hJz.out hJs.out hJb.out rfl (by decide) (.slice A9 L.length cap9) L.length (flatM L) rfl hWa ⟨wr.heap.size, 0, none⟩ 1 1 (cellsM (cmv (i, j))) rfl rfl hnews.out (by simp [cellsM, Value.oneCell']) (by omega) (by unfold maxLen; omega) (by omega) hBa.size _ rfl ?_; intro ga capa wa howna hgrowa hata hltga
                     have hWn := OwnMvs.push howna
                     have hBn := hBa.grown hgrowa hBa.size hlt5.out
                     clear howna hgrowa hata hltga hWa hBa))
                go_roundw
                case rel => exact ⟨j + 1, by omega, by go_num, by rw [hnx.out]; exact hWn, hBn⟩
                case measure => simp [intOf]; omega
            · have hjE : j = N := by omega
              subst hjE
              have hjI : ¬ ((j : Int) < n) := by have := hNn.out; omega
              have hnx := Lib.hid (drM_row j k i)
              obtain ⟨A9, cap9, rfl, _, _, _⟩ := hW.shape
              go_wp2_with fail
              go_roundw
              case rel => exact ⟨i + 1, by omega, by go_num, by rw [hnx.out]; exact hW, hB⟩
              case measure => simp [intOf]; omega
        · have hiE : i = N := by omega
          subst hiE
          have hiI : ¬ ((i : Int) < n) := by have := hNn.out; omega
          have hnx := Lib.hid (drM_round i k)
          obtain ⟨A9, cap9, rfl, _, _, _⟩ := hW.shape
          go_wp2_with fail
          go_roundw
          case rel => exact ⟨k + 1, by omega, by go_num, by rw [hnx.out]; exact hW, hB⟩
          case measure => simp [intOf]; omega
    · have hkE : k = 8 := by omega
      subst hkE
      obtain ⟨A9, cap9, rfl, _, _, _⟩ := hW.shape
      have e : drM N 8 0 0 = (drainP N 8).map cmv := by simp [drM, rowsP, rowP]
      have hWH := Lib.hid hW
      clear hW
      go_wp2_with fail
      go_ret
      exact ⟨_, rfl, by rw [← e]; exact hWH.out, hB⟩

#print axioms drain_any
#print axioms wpList_append_mvs
end Go.Proofs.Ytejckoffllhjcaa
