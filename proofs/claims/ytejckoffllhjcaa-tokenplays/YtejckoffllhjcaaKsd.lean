/-
  The contract of (*system).send of package token.
-/
import Derived.Test.YtejckoffllhjcaaKsy
import Derived.Deep.RegionHeld3
import Derived.BigQuiet
namespace Go.Proofs.Ytejckoffllhjcaa
open Go.RowKit Go.Maps
set_option linter.unusedVariables false

theorem infoMsg : (Try.prog.info? 78).map (fun i => (i.zero, i.size, i.bytes)) = some (some (.int .i64 0), 1, 8) := by kernel_rfl
/-- 'append(q, x)' at a step of a region that draws its order. -/
theorem step_append_queK {w : World} {ops : Array Oper} {o : Oper} {a : Act} {K : Act → World → Prop} {Q : Exit → Act → World → Prop} {E : Prop} (hgd : o.guard = none) (s x : Operand)
    (ho : o.op = .call { callee := .builtin .append, args := #[s, x], argTypes := #[75, 75] }) (j0 : TypeInfo) (hJi : Try.prog.info? 78 = some j0) (hJz : j0.zero = some (.int .i64 0)) (hJs : j0.size = 1) (hJb : j0.bytes = 8)
    (B : Nat) (v : Value) (xs : List Int) (hs : a.eval s = v) (h : QueT 78 w B v xs) (hB : B ≤ w.heap.size) (hl : xs.length ≤ 1000) (ad : Addr) (y : Int) (hx : a.eval x = .slice (some ad) 1 1) (hy : w.cell? ad = some (.int .i64 y))
    (hh : ∀ v' w', QueT 78 w' B v' (xs ++ [y]) → w.grownBy w' v.ownBlock → (v'.ownBlock = v.ownBlock ∨ v'.ownBlock = some w.heap.size) → K (a.put o.dst v') w') :
    if Region.wanted o (yielded ops a.tmps) = true then Oper.wp Try.prog o a w K Q else E := by
  have hw : Region.wanted o (yielded ops a.tmps) = true := by simp [Region.wanted, hgd]
  rw [if_pos hw]
  obtain ⟨v', w', hr, h1, h2, h3⟩ := run_append_queT 75 o.type Try.underlying75 j0 hJi hJz hJs hJb h hB hl ad y hy
  unfold Oper.wp execOp
  simp only [ho, resolve, invoke, builtin, Sem.run_bind, Sem.run_pure, Result.andThen_ok, List.map_toArray, List.map_cons, List.map_nil, hs, hx, hr]
  exact hh v' w' h1 h2 h3

/-- The cells that the statement loads. -/
theorem sd_cells {w w' : World} {s g P M n i j : Nat} (hs : Row w s 68 [.slice (some ⟨P, 0, none⟩) n n, .map (some M)]) (hg : Row w g 74 [.int .i64 (i : Int), .int .i64 (j : Int)]) (e1 : w'.heap[s]? = w.heap[s]?) (e2 : w'.heap[g]? = w.heap[g]?) :
    w'.cell? ⟨s, 1, none⟩ = some (.map (some M)) ∧ w'.cell? ⟨g, 0, none⟩ = some (.int .i64 (i : Int)) ∧ w'.cell? ⟨g, 1, none⟩ = some (.int .i64 (j : Int)) :=
  ⟨(hs.block e1).cell (i := 1) (by simp), (hg.block e2).cell (i := 0) (by simp), (hg.block e2).cell (i := 1) (by simp)⟩
theorem grownBy_refl (w : World) (r : Option Nat) : w.grownBy w r := ⟨rfl, rfl, rfl, Nat.le_refl _, fun _ _ _ => rfl⟩

set_option maxHeartbeats 4000000 in
theorem send_any (w : World) (B s P M n c : Nat) (S : KS) (hS : SysK w B s P M n c S) (i j : Nat) (hi : i < n) (hj : j < n) (hn : n ≤ 6) (hc : c ≤ 100000) (x : Int) (hl : (S.q i j).length ≤ 1000) :
    Calls Try.prog 45 #[.pointer (some ⟨s, 0, none⟩), .int .i64 (i : Int), .int .i64 (j : Int), .int .i64 x] w fun e w' => e = .returned (.tuple #[]) ∧ SysK w' B s P M n (c + 1) (S.put i j x) ∧ BlK B w w' := by
  obtain ⟨D, f, hA⟩ := hS
  have hA0 := hA.alloc (.cells #[.int .i64 (i : Int), .int .i64 (j : Int)] 74)
  have hR0 := Row.made w 74 [.int .i64 (i : Int), .int .i64 (j : Int)]
  have hb0 := Lib.hid ((BlK.refl B w).alloc hA.sz (.cells #[.int .i64 (i : Int), .int .i64 (j : Int)] 74))
  have hQH := Lib.hid (hA.que i j hi hj)
  have hlH := Lib.hid hl
  clear hA hl
  obtain ⟨j0, hi0, hz0, hz1, hz2⟩ := info_parts infoMsg
  have hJi := Lib.hid hi0; have hJz := Lib.hid hz0; have hJs := Lib.hid hz1; have hJb := Lib.hid hz2
  clear hi0 hz0 hz1 hz2
  go_enter Try.func45, Try.ntmps45
  go_wp2_with fail
  generalize w.alloc (.cells #[.int .i64 (i : Int), .int .i64 (j : Int)] 74) = wa at *
  generalize w.heap.size = g at *
  have hsM : s ≠ M := fun e => hA0.map.ne_row hA0.sys e.symm
  have hgM : g ≠ M := fun e => hA0.map.ne_row hR0 e.symm
  have hsQ : (vqM f i j).ownBlock ≠ some s := (hA0.que i j hi hj).ne_row hA0.sys (by decide)
  have hgQ : (vqM f i j).ownBlock ≠ some g := (hA0.que i j hi hj).ne_row hR0 (by decide)
  have k0 := sd_cells hA0.sys hR0 (w' := wa) rfl rfl
  have kA := sd_cells hA0.sys hR0 (w' := wa.alloc (.cells #[.int .i64 x] 78)) (Below.heap_alloc wa _ s hA0.sys.lt) (Below.heap_alloc wa _ g hR0.lt)
  obtain ⟨stA, w1A, eA, gA, zA, qA, fA⟩ := ((hA0.alloc (.cells #[.int .i64 x] 78)).drew).entry hn hc hi hj
  have hsl := hA0.sys.lt
  have hgl := hR0.lt
  have zA2 : w1A.heap.size = wa.heap.size + 1 := zA.trans (by simp)
  have k1A := sd_cells hA0.sys hR0 (w' := w1A) ((gA.block s (by simp; omega) (by simp; exact hsM)).trans (Below.heap_alloc wa _ s hsl)) ((gA.block g (by simp; omega) (by simp; exact hgM)).trans (Below.heap_alloc wa _ g hgl))
  have yA : w1A.cell? ⟨wa.heap.size, 0, none⟩ = some (.int .i64 x) := by
    have h1 : w1A.heap[wa.heap.size]? = (wa.alloc (.cells #[.int .i64 x] 78)).heap[wa.heap.size]? := gA.block wa.heap.size (by simp) (by
      intro e
      injection e with e
      have := hA0.map.lt
      omega)
    have hr := (Row.made wa 78 [.int .i64 x]).block h1
    exact hr.cell (i := 0) (by simp)
  have sA : B ≤ w1A.heap.size := by have := hA0.sz; omega
  have hfA := Lib.hid fA
  have hbA := Lib.hid ((hb0.out.alloc hA0.sz (.cells #[.int .i64 x] 78)).drew)
  have hsysH := Lib.hid hA0.sys
  have hrowH := Lib.hid hR0
  clear fA hA0 hR0 gA zA zA2 hb0 hQH
  unfold chM at eA
  generalize vqM f i j = v0 at *
  obtain ⟨k01, k02, k03⟩ := k0
  obtain ⟨kA1, kA2, kA3⟩ := kA
  obtain ⟨k1A1, k1A2, k1A3⟩ := k1A
  go_region_held3 (fun w' => w'.cell? ⟨s, 1, none⟩ = some (.map (some M)) ∧ w'.cell? ⟨g, 0, none⟩ = some (.int .i64 (i : Int)) ∧ w'.cell? ⟨g, 1, none⟩ = some (.int .i64 (j : Int))) (first | go_keep) (first
    | (refine step_append_queK rfl (.tmp 17) (.tmp 19) rfl j0 hJi.out hJz.out hJs.out hJb.out B v0 _ rfl qA sA hlH.out ⟨wa.heap.size, 0, none⟩ x rfl yA ?_
       intro v2 w2 hQ2 hg2 hat2
       obtain ⟨w3, e3, hfin, hbl, hkk⟩ := hfA.out w1A w2 v2 x (grownBy_refl _ _) hQ2 hg2 hat2
       have k2 := sd_cells hsysH.out hrowH.out (w' := w2) (((hkk s (by simp; omega) hsM hsQ).1).trans (Below.heap_alloc wa _ s hsl)) (((hkk g (by simp; omega) hgM hgQ).1).trans (Below.heap_alloc wa _ g hgl))
       have k3 := sd_cells hsysH.out hrowH.out (w' := w3) (((hkk s (by simp; omega) hsM hsQ).2).trans (Below.heap_alloc wa _ s hsl)) (((hkk g (by simp; omega) hgM hgQ).2).trans (Below.heap_alloc wa _ g hgl))
       have hblH := Lib.hid (hbl w hbA.out)
       have hfinH := Lib.hid hfin
       clear hkk hbl hfin hQ2 hg2 hat2 qA yA))
  all_goals (go_wp2_with fail; go_end0; exact ⟨rfl, ⟨_, _, hfinH.out⟩, hblH.out⟩)

#print axioms send_any
end Go.Proofs.Ytejckoffllhjcaa
