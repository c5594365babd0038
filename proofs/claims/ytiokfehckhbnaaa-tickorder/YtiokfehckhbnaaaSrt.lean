/-
  slices.SortFunc at a row of the numbers below c, by a closure that compares two of them.
-/
import Derived.Test.YtiokfehckhbnaaaLayS
import Derived.Test.YtiokfehckhbnaaaNat
namespace Go.Proofs.Ytiokfehckhbnaaa
open Go.RowKit Go.Maps Go.Sort

theorem sort_block {α : Type} [Inhabited α] (enc : α → Value) (w : World) (blk off m : Nat) (dk : Array α) (os : Array Obj) {k : Nat} (hk : k < w.heap.size) (hne : k ≠ blk) : (sortWorld enc w blk off m dk os).heap[k]? = w.heap[k]? := by
  have h1 : (w.heap.modify blk (onCells (putCells enc off dk))).size = w.heap.size := by simp
  show ((w.heap.modify blk (onCells (putCells enc off dk))) ++ os)[k]? = w.heap[k]?
  rw [Array.getElem?_append_left (by rw [h1]; exact hk), Array.getElem?_modify, if_neg (fun e => hne e.symm)]
theorem sort_size {α : Type} [Inhabited α] (enc : α → Value) (w : World) (blk off m : Nat) (dk : Array α) (os : Array Obj) : w.heap.size ≤ (sortWorld enc w blk off m dk os).heap.size := by
  show w.heap.size ≤ ((w.heap.modify blk (onCells (putCells enc off dk))) ++ os).size
  simp
theorem sort_below {α : Type} [Inhabited α] (enc : α → Value) (w : World) (blk off m : Nat) (dk : Array α) (os : Array Obj) (hb : blk < w.heap.size) : Below blk w (sortWorld enc w blk off m dk os) :=
  ⟨rfl, rfl, rfl, sort_size enc w blk off m dk os, fun k hk => sort_block enc w blk off m dk os (by omega) (by omega)⟩

theorem extract_all {α : Type} (d : Array α) (n : Nat) (h : d.size = n) : d.extract 0 n = d := by subst h; simp

/-- Sorted: a list of all the numbers below c, in rising order. -/
def SortRes (cf : Nat → Nat → Int) (c blk : Nat) (w : World) (e : Ending) (w' : World) : Prop :=
  e = .returned (.tuple #[]) ∧ ∃ s : List Nat, s.length = c ∧ s.Perm (List.range c) ∧ s.Pairwise (fun a b => ¬ cf b a < 0) ∧ (∀ q, (h : q < s.length) → w'.cell? ⟨blk, q, none⟩ = some (.int .i64 (s[q] : Nat))) ∧
    (∀ k, k < w.heap.size → k ≠ blk → w'.heap[k]? = w.heap[k]?) ∧ Below blk w w'

theorem enters_fn {g : Nat} {f : Func} {c : Code} (h : Try.prog.funcs[g]? = some f) (hn : (f.name == "runtime.NumGoroutine") = false) (hb : f.body = some c) : ∀ args w, (callFunc g args).run Try.prog w = .ok (.enter g args) w := enters_of h hn hb

theorem sortfunc_some (cf : Nat → Nat → Int) (c : Nat) (g : Nat) (cb : Array Value) (blk : Nat) (w : World) (h0 : 0 < c) (h30 : c ≤ 1000000) (hR : NatRow w blk c (fun j => j))
    (eg : ∀ args w, (callFunc g args).run Try.prog w = .ok (.enter g args) w)
    (irr : ∀ x, x < c → ¬ cf x x < 0) (tr : ∀ x y z, x < c → y < c → z < c → cf x y < 0 → cf y z < 0 → cf x z < 0) (ntr : ∀ x y z, x < c → y < c → z < c → ¬ cf x y < 0 → ¬ cf y z < 0 → ¬ cf x z < 0)
    (hcl : ∀ W : World, (∀ k, k < w.heap.size → k ≠ blk → W.heap[k]? = w.heap[k]?) → ∀ x y, x < c → y < c → Calls Try.prog g (#[.int .i64 (x : Nat), .int .i64 (y : Nat)] ++ cb) W fun e w' => e = .returned (.int .i64 (cf x y)) ∧ ∃ q os, w' = grow (W.drewN q) os) :
    Calls Try.prog 25 #[.slice (some ⟨blk, 0, none⟩) c c, .func (.func g) #[] cb] w (SortRes cf c blk w) := by
  letI : Inhabited (Fin c) := ⟨⟨0, h0⟩⟩
  have hlt := Row.lt hR
  let d : Array (Fin c) := Array.ofFn (fun i => i)
  have hds : d.size = c := by simp [d]
  have hdg : ∀ j, (h : j < c) → d[j]! = ⟨j, h⟩ := by
    intro j h
    rw [getElem!_pos d j (by rw [hds]; exact h)]
    simp [d]
  have hH : Holds (fun x : Fin c => Value.int .i64 (x.val : Int)) w blk 0 d := by
    intro j hj
    rw [hds] at hj
    refine ⟨?_, Row.frozen hR _⟩
    rw [Nat.zero_add, hR.at_ hj, hdg j hj]
  have hO : SWO (ltOf fun x y : Fin c => cf x.val y.val) := by
    refine ⟨fun x => ?_, fun x y z h1 h2 => ?_, fun x y z h1 h2 => ?_⟩
    · simp only [ltOf, decide_eq_false_iff_not]; exact irr x.val x.isLt
    · simp only [ltOf, decide_eq_true_eq] at *; exact tr _ _ _ x.isLt y.isLt z.isLt h1 h2
    · simp only [ltOf, decide_eq_false_iff_not] at *; exact ntr _ _ _ x.isLt y.isLt z.isLt h1 h2
  have hcmp : CmpLays1 Try.prog g cb (fun x : Fin c => Value.int .i64 (x.val : Int)) (fun x y : Fin c => cf x.val y.val) blk 0 d.size w :=
    fun m os dk _ x y => hcl _ (fun k hk hne => sort_block _ w blk 0 m dk os hk hne) x.val y.val x.isLt y.isLt
  have hS := Any.slices_SortFunc sortL (fun x : Fin c => Value.int .i64 (x.val : Int)) (fun _ => rfl) (fun x y : Fin c => cf x.val y.val) hO g cb blk 0 c d w eg hcmp hH hlt (by rw [hds]; omega)
  rw [hds] at hS
  refine Calls.mono (show Calls Try.prog 25 _ _ _ from hS) ?_
  rintro e w' ⟨he, d', n, os, hp, hs, rfl⟩
  have hd's : d'.size = c := by rw [hp.1, hds]
  have hholds := holds_sortWorld (fun x : Fin c => Value.int .i64 (x.val : Int)) w blk 0 n d d' os hlt hH (by rw [hd's, hds])
  refine ⟨he, d'.toList.map (fun x : Fin c => x.val), by simp [hd's], ?_, ?_, ?_, fun k hk hne => sort_block _ w blk 0 n d' os hk hne, sort_below _ w blk 0 n d' os hlt⟩
  · have h1 : d'.toList.Perm d.toList := by
      have := hp.2.2
      rw [extract_all d' c hd's, extract_all d c hds] at this
      exact this
    have h2 := h1.map (fun x : Fin c => x.val)
    have h3 : d.toList.map (fun x : Fin c => x.val) = List.range c := by
      apply List.ext_getElem
      · simp [d]
      · intro i h4 h5; simp [d]
    rw [h3] at h2
    exact h2
  · rw [List.pairwise_map, List.pairwise_iff_getElem]
    intro i j hi hj hij
    have hi' : i < d'.size := by simpa using hi
    have hj' : j < d'.size := by simpa using hj
    have h1 := hs i j (Nat.zero_le _) hij (by omega)
    rw [getElem!_pos d' i hi', getElem!_pos d' j hj'] at h1
    simp only [ltOf, decide_eq_false_iff_not] at h1
    simpa using h1
  · intro q hq
    have hq' : q < d'.size := by simpa using hq
    have h1 := (hholds q hq').1
    rw [Nat.zero_add, getElem!_pos d' q hq'] at h1
    rw [h1]
    simp

theorem sortfunc_none (p : Option Addr) (n cap : Nat) (fv : Value) (w : World) (hn : n = 0) : Calls Try.prog 25 #[.slice p n cap, fv] w fun e w' => e = .returned (.tuple #[]) ∧ w = w' := by
  subst hn
  exact Calls.mono (show Calls Try.prog 25 _ _ _ from AnyF.slices_SortFunc_none (P := Try.prog) (ρ := sortL_ren) { sortL with } p cap fv w) fun _ _ ⟨h1, h2⟩ => ⟨h1, h2.symm⟩

#print axioms sortfunc_some
end Go.Proofs.Ytiokfehckhbnaaa
