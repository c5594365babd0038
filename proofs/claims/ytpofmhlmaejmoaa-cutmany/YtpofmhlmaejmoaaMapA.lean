/-
  Words for memory: a map[[6]int]bool that holds a set of cuts.
-/
import Derived.Test.YtpofmhlmaejmoaaRows
import Derived.Test.YtpofmhlmaejmoaaRowW
import Derived.KernelRfl
import Derived.WideKeyPair
import Derived.DeepKeys4
import Derived.Maps.OwnSet
namespace Go.Proofs.Ytpofmhlmaejmoaa
open Go.RowKit Go.Maps Go.WideMaps

/-- Six numbers, as an array. -/
def arr6 (F : Nat → Nat) : Value := .agg #[.int .i64 (F 0 : Int), .int .i64 (F 1 : Int), .int .i64 (F 2 : Int), .int .i64 (F 3 : Int), .int .i64 (F 4 : Int), .int .i64 (F 5 : Int)]
def key6 (F : Nat → Nat) : Lit := .string (keyBytes [.int .i64 (F 0 : Int), .int .i64 (F 1 : Int), .int .i64 (F 2 : Int), .int .i64 (F 3 : Int), .int .i64 (F 4 : Int), .int .i64 (F 5 : Int)])
/-- Six small numbers, and nothing behind them. -/
structure Six (F : Nat → Nat) : Prop where
  le : ∀ i, F i ≤ 1000000
  off : ∀ i, 6 ≤ i → F i = 0

theorem laid6 : laidOutB Try.prog = true := by kernel_rfl
theorem row60 : (60 : TypeId) < Try.prog.types.size := of_decide_eq_true (by kernel_rfl)
theorem cells60 : Try.prog.cellsOf 60 = 6 := by kernel_rfl
theorem under60 : Try.prog.underlying 60 = some (.array 6 3) := by kernel_rfl
theorem arr60 : ArrKey Try.prog 60 3 6 := ⟨under60, by kernel_rfl, by kernel_rfl, cells60⟩
theorem wide60 : (match Try.prog.underlying 60 with | some (.array _ _) | some (.struct _) => true | _ => false) = true := by rw [under60]
theorem law60 : Keyed Try.prog 60 := Keyed.of_law (deep_law_laid laid6 (m := 2) (by omega) row60 (by kernel_rfl) wide60)
theorem types60 : ∃ m, Try.prog.types.size = m + 1 := by
  have h : 0 < Try.prog.types.size := Nat.lt_of_le_of_lt (Nat.zero_le _) row60
  generalize Try.prog.types.size = z at *
  exact ⟨z - 1, by omega⟩
theorem zero4 (w : World) : (zeroValue 4).run Try.prog w = .ok (.bool false) w := by kernel_rfl
theorem keyOf6 {F : Nat → Nat} (h : Six F) : keyOf Try.prog 60 (arr6 F) = some (key6 F) := by
  have wf : ∀ i, (Lit.int .i64 (F i : Int)).wf = true := fun i => WalkArith.wf_i64 (by have := h.le i; omega)
  have hkt := arr60.keyType types60
  obtain ⟨m, hm⟩ := types60
  unfold keyOf arr6 key6
  simp only [under60]
  rw [if_pos (by simp [hkt, Value.formed, cells60]), hm]
  unfold Program.keyLits
  simp only [under60, Value.cells]
  rw [if_pos (by rw [cells60]; rfl), show List.range 6 = [0, 1, 2, 3, 4, 5] from rfl, List.mapM_cons, List.mapM_cons, List.mapM_cons, List.mapM_cons, List.mapM_cons, List.mapM_cons, List.mapM_nil]
  simp [arr60.one, Program.keyLits, Try.underlying3, wf]
theorem key6_inj {F G : Nat → Nat} (hF : Six F) (hG : Six G) (h : key6 F = key6 G) : F = G := by
  have h1 := keyOf6 hG
  rw [← h] at h1
  have h2 := law60.inj (keyOf6 hF) h1
  unfold arr6 at h2
  simp only [Value.agg.injEq] at h2
  simp at h2
  funext i
  rcases Nat.lt_or_ge i 6 with h3 | h3
  · have : i = 0 ∨ i = 1 ∨ i = 2 ∨ i = 3 ∨ i = 4 ∨ i = 5 := by omega
    rcases this with rfl | rfl | rfl | rfl | rfl | rfl <;> omega
  · rw [hF.off i h3, hG.off i h3]

/-- Block B is a map that holds just the cuts ks. -/
def MapS (w : World) (B : Nat) (ks : List (Nat → Nat)) : Prop :=
  ∃ D : DataW Unit, w.ownsMap Try.prog 60 (plainElem Try.prog 4) B ks.length D ∧ Maps.size D = ks.length ∧
    ∀ F, Six F → (Maps.has D (key6 F) = true ↔ F ∈ ks) ∧ D.atKey (key6 F) (.lit (.bool false)) = .lit (.bool (Maps.has D (key6 F)))
section
variable {w w' : World} {B : Nat} {ks : List (Nat → Nat)}
theorem MapS.lt (h : MapS w B ks) : B < w.heap.size := by obtain ⟨_, h, _⟩ := h; exact h.lt
theorem MapS.made (w : World) : MapS (w.alloc (.map #[] 0)) w.heap.size [] :=
  ⟨.map [], World.ownsMap_made _ _ _ _, rfl, fun F _ => ⟨by constructor <;> intro h <;> simp [Maps.has] at h, rfl⟩⟩
theorem MapS.block (h : MapS w B ks) (hb : w'.heap[B]? = w.heap[B]?) : MapS w' B ks := by
  obtain ⟨D, ⟨es, c, h1, h3⟩, h2⟩ := h
  exact ⟨D, ⟨es, c, hb.trans h1, h3⟩, h2⟩
theorem MapS.below (h : MapS w B ks) {b : Nat} (hb : Below b w w') (hB : B < b) : MapS w' B ks := h.block (hb.block B hB)
theorem MapS.kept {row : Option Nat} (h : MapS w B ks) (hg : w.grownBy w' row) (hne : some B ≠ row) : MapS w' B ks := h.block (hg.block B h.lt hne)
theorem MapS.alloc (h : MapS w B ks) (o : Obj) : MapS (w.alloc o) B ks := h.kept (World.grownBy_alloc w o none) (by simp)
theorem MapS.far (h : MapS w B ks) {p : Addr} (hp : B ≠ p.block) (u : Value) : MapS (w.setCell p u) B ks := h.block (Below.heap_setCell w p u B hp)

/-- 'm[k]'. -/
theorem wpList_lookS {ops : Array Oper} {rest : List Oper} {o : Oper} {a : Act} {Q : Exit → Act → World → Prop}
    (hg : o.guard = none) (m x : Operand) (hop : o.op = Op.lookup 61 m x false) (B : Nat) (ks : List (Nat → Nat)) (F : Nat → Nat) (hF : Six F) (b : Bool) (hb : b = true ↔ F ∈ ks)
    (hm : a.eval m = .map (some B)) (hown : MapS w B ks) (hx : a.eval x = arr6 F)
    (hh : wpList Try.prog ops Q rest (a.put o.dst (.bool b)) w) :
    wpList Try.prog ops Q (o :: rest) a w := by
  obtain ⟨D, h1, _, h2⟩ := hown
  obtain ⟨h3, h4⟩ := h2 F hF
  refine wpList_plain hg fun K' hK' => ?_
  obtain ⟨u, ps, hrun, hv⟩ := h1.lookup law60 Try.underlying61 (zero4 w) (plainElem_bool Try.underlying4 false) (keyOf6 hF)
  rw [h4] at hv
  have e : u = .bool b := by
    have hbb : Maps.has D (key6 F) = b := by rw [Bool.eq_iff_iff, h3, hb]
    rw [hbb] at hv
    unfold plainElem at hv
    rw [Try.underlying4] at hv
    cases u <;> simp at hv
    rw [hv.1]
  subst e
  unfold Oper.wp
  simp [execOp, hop, hm, hx, hrun, Result.andThen]
  exact hK' _ _ hh
/-- 'm[k] = true', k not there. -/
theorem MapS.update (hown : MapS w B ks) {F : Nat → Nat} (hF : Six F) (hno : F ∉ ks) (hn : ks.length < maxLen) :
    ∃ w', (Instr.mapUpdate 61 (.map (some B)) (arr6 F) (.bool true)).run Try.prog w = .ok () w' ∧ MapS w' B (F :: ks) ∧ w.grownBy w' (some B) := by
  obtain ⟨D, h1, hsz, h2⟩ := hown
  have hkey := law60.key (keyOf6 hF)
  have hmap := h1.isMap
  have hno2 : Maps.has D (key6 F) = false := by rw [← Bool.not_eq_true, (h2 F hF).1]; exact hno
  obtain ⟨w1, hrun, hown1, hgrow1⟩ := h1.update law60 Try.underlying61 hn (keyOf6 hF) (plainElem_bool Try.underlying4 true)
  refine ⟨w1, hrun, ⟨_, hown1, ?_, fun G hG => ?_⟩, hgrow1⟩
  · rw [Maps.size_put (h1.tidy law60), hno2, hsz]
    simp
  · by_cases e : G = F
    · subst e
      rw [atKey_put_same hmap hkey, has_put_same hmap hkey]
      simp
    · have hne : key6 G ≠ key6 F := fun h => e (key6_inj hG hF h)
      rw [atKey_put_other hne, has_put_other hne]
      refine ⟨?_, (h2 G hG).2⟩
      rw [(h2 G hG).1]
      simp [e]
theorem wpList_putS {ops : Array Oper} {rest : List Oper} {o : Oper} {a : Act} {Q : Exit → Act → World → Prop}
    (hg : o.guard = none) (m x v : Operand) (hop : o.op = Op.mapUpdate 61 m x v ∨ o.op = Op.insert 61 m x v) (B : Nat) (ks : List (Nat → Nat)) (F : Nat → Nat) (hF : Six F) (hno : F ∉ ks) (hn : ks.length < maxLen)
    (hm : a.eval m = .map (some B)) (hown : MapS w B ks) (hx : a.eval x = arr6 F) (hv : a.eval v = .bool true)
    (hh : ∀ w', MapS w' B (F :: ks) → w.grownBy w' (some B) → wpList Try.prog ops Q rest (a.put o.dst undef) w') :
    wpList Try.prog ops Q (o :: rest) a w := by
  obtain ⟨w1, hrun, h1, h2⟩ := hown.update hF hno hn
  refine wpList_plain hg fun K' hK' => ?_
  unfold Oper.wp
  rcases hop with hop | hop
  · simp [execOp, hop, hm, hx, hv, hrun, Result.andThen]
    exact hK' _ _ (hh w1 h1 h2)
  · simp [execOp, hop, hm, hx, hv, hrun, Result.andThen]
    exact hK' _ _ (hh w1 h1 h2)
/-- 'len(m)'. -/
theorem wpList_lenS {ops : Array Oper} {rest : List Oper} {o : Oper} {a : Act} {Q : Exit → Act → World → Prop}
    (hg : o.guard = none) (m : Operand) (hop : o.op = Op.call { callee := Callee.builtin Builtin.len, args := #[m], argTypes := #[61] }) (B : Nat) (ks : List (Nat → Nat))
    (hm : a.eval m = .map (some B)) (hown : MapS w B ks)
    (hh : wpList Try.prog ops Q rest (a.put o.dst (.int .i64 (ks.length : Nat))) w) :
    wpList Try.prog ops Q (o :: rest) a w := by
  obtain ⟨D, h1, hsz, _⟩ := hown
  refine wpList_len_own w hg m _ hop _ _ Try.underlying61 _ B _ D hm h1 ?_
  rw [hsz]
  exact hh
end

#print axioms wpList_putS
end Go.Proofs.Ytpofmhlmaejmoaa
