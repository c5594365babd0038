/-
  The contracts of (*system).isInside, hasToken, wants, serve, enqueue of package token.
-/
import Derived.Test.YtejckoffllhjcaaKsd
import Derived.Test.YtejckoffllhjcaaKix
namespace Go.Proofs.Ytejckoffllhjcaa
open Go.RowKit Go.Maps
set_option linter.unusedVariables false

/-- What a walk wants of the state. -/
structure OkK (n : Nat) (S : KS) (b : Nat) : Prop where
  ptr : ∀ i, i < n → S.ptr i < n
  mem : ∀ x y, y ∈ S.row x → y < n
  len : ∀ x y, (S.q x y).length ≤ b
  row : ∀ x, (S.row x).length ≤ b
theorem OkK.up {n b b' : Nat} {S : KS} (h : OkK n S b) (hb : b ≤ b') : OkK n S b' := ⟨h.ptr, h.mem, fun x y => Nat.le_trans (h.len x y) hb, fun x => Nat.le_trans (h.row x) hb⟩
theorem OkK.put {n b : Nat} {S : KS} (h : OkK n S b) (i j : Nat) (x : Int) : OkK n (S.put i j x) (b + 1) := ⟨h.ptr, h.mem, fun a c => by
  show (up2 S.q i j (S.q i j ++ [x]) a c).length ≤ b + 1
  by_cases e : a = i ∧ c = j
  · rw [e.1, e.2, up2_same, List.length_append]; have := h.len i j; simp; omega
  · rw [up2_other _ _ e]; have := h.len a c; omega, fun a => Nat.le_succ_of_le (h.row a)⟩
theorem OkK.add {n b : Nat} {S : KS} (h : OkK n S b) {i y : Nat} (hy : y < n) : OkK n (S.add i y) (b + 1) := ⟨h.ptr, fun a z hz => by
  have hz' : z ∈ up1 S.row i (S.row i ++ [y]) a := hz
  by_cases e : a = i
  · rw [e, up1_same] at hz'
    rcases List.mem_append.1 hz' with h1 | h1
    · exact h.mem i z h1
    · rw [List.mem_singleton.1 h1]; exact hy
  · rw [up1_other _ _ e] at hz'; exact h.mem a z hz', fun a c => Nat.le_succ_of_le (h.len a c), fun a => by
  show (up1 S.row i (S.row i ++ [y]) a).length ≤ b + 1
  by_cases e : a = i
  · rw [e, up1_same, List.length_append]; have := h.row i; simp; omega
  · rw [up1_other _ _ e]; have := h.row a; omega⟩
theorem OkK.ask {n b : Nat} {S : KS} (h : OkK n S b) (i : Nat) : OkK n (S.ask i) (b + 1) := by
  unfold KS.ask
  split
  · exact h.put _ _ _
  · exact h.up (by omega)

theorem SysKA.qhead {w : World} {B s P M n c : Nat} {D : Nat → Value} {f : Nat → Nat → Option Value} {S : KS} (h : SysKA w B s P M n c D f S) {i : Nat} (hi : i < n) {y : Nat} {t : List Nat} (hr : S.row i = y :: t) :
    ∃ g off cap, D i = .slice (some ⟨g, off, none⟩) (t.length + 1) cap ∧ t.length + 1 ≤ cap ∧ cap ≤ maxLen ∧ w.cell? ⟨g, off, none⟩ = some (.int .i64 (y : Int)) ∧
      QueT 3 w B (.slice (if cap = 1 then some ⟨g, off, none⟩ else some ⟨g, off + 1, none⟩) t.length (cap - 1)) (nlK t) := by
  have hQ := h.row i hi
  have hn : nlK (S.row i) = (y : Int) :: nlK t := by rw [hr]; rfl
  rw [hn] at hQ
  obtain ⟨A, cap, hv, h1, h2, h3⟩ := hQ.shape
  obtain ⟨g, off, rfl, h4⟩ := h3 0 (by simp)
  rw [hv] at hQ
  have ht := hQ.tail
  rw [List.length_cons, nlK_len] at hv h1
  refine ⟨g, off, cap, hv, h1, h2, by simpa using h4, ?_⟩
  rw [nlK_len] at ht
  simpa [Addr.add] using ht
theorem SysKA.qlen {w : World} {B s P M n c : Nat} {D : Nat → Value} {f : Nat → Nat → Option Value} {S : KS} (h : SysKA w B s P M n c D f S) {i : Nat} (hi : i < n) : ∃ A cap, D i = .slice A (S.row i).length cap ∧ (S.row i).length ≤ cap ∧ cap ≤ maxLen ∧ Nums w w.heap.size A (nlK (S.row i)) := by
  have := (h.row i hi).nums
  rw [nlK_len] at this
  exact this
/-- 'p.queue = p.queue[1:]'. -/
theorem SysKA.cutQ {w : World} {B s P M n c : Nat} {D : Nat → Value} {f : Nat → Nat → Option Value} {S : KS} (h : SysKA w B s P M n c D f S) {i : Nat} (hi : i < n) {y : Nat} {t : List Nat} (hr : S.row i = y :: t) {g off cap : Nat} (hv : D i = .slice (some ⟨g, off, none⟩) (t.length + 1) cap)
    (hQ : QueT 3 w B (.slice (if cap = 1 then some ⟨g, off, none⟩ else some ⟨g, off + 1, none⟩) t.length (cap - 1)) (nlK t)) :
    SysKA (w.setCell ⟨P, i * 3 + 1, none⟩ (.slice (if cap = 1 then some ⟨g, off, none⟩ else some ⟨g, off + 1, none⟩) t.length (cap - 1))) B s P M n c (up1 D i (.slice (if cap = 1 then some ⟨g, off, none⟩ else some ⟨g, off + 1, none⟩) t.length (cap - 1))) f (S.cut i) := by
  have h1 := h.putQ hi hQ (fun _ _ _ _ => rfl) (.inl (by rw [hv]; split <;> rfl))
  have e : S.cut i = { S with row := up1 S.row i t } := by unfold KS.cut; rw [hr]; rfl
  rw [e]; exact h1
/-- 'p.queue = append(p.queue, y)'. -/
theorem SysKA.grewQ {w wa w2 : World} {B s P M n c : Nat} {D : Nat → Value} {f : Nat → Nat → Option Value} {S : KS} (h : SysKA wa B s P M n c D f S) {i y : Nat} (hi : i < n) {v : Value} (hQ : QueT 3 w2 B v (nlK (S.row i) ++ [(y : Int)])) (hg : wa.grownBy w2 (D i).ownBlock) (hat : v.ownBlock = (D i).ownBlock ∨ v.ownBlock = some wa.heap.size) (hb : BlK B w wa) :
    SysKA (w2.setCell ⟨P, i * 3 + 1, none⟩ v) B s P M n c (up1 D i v) f (S.add i y) ∧ BlK B w (w2.setCell ⟨P, i * 3 + 1, none⟩ v) ∧ w2.frozen? ⟨P, i * 3 + 1, none⟩ = false ∧ w2.cell? ⟨P, i * 3 + 1, none⟩ = some (D i) := by
  rw [← nlK_add] at hQ
  obtain ⟨ys, hP⟩ := h.prs.row
  have hne : (D i).ownBlock ≠ some P := (h.row i hi).ne_row hP (by decide)
  have hP2 : Row w2 P 70 ys := hP.block (hg.block P hP.lt (fun e => hne e.symm))
  refine ⟨h.putQ hi hQ (fun b _ hb hne => hg.block b hb (fun e => hne e.symm)) ?_, ?_, hP2.frozen _, (h.prs.block (hg.block P hP.lt (fun e => hne e.symm))).cell hi (c := 1) (by omega)⟩
  · rcases hat with h1 | h1
    · exact .inl h1
    · exact .inr ⟨_, h1, Nat.le_refl _⟩
  · exact (hb.grownQ hg (h.row i hi) (by decide) h.sz).setRow (p := ⟨P, i * 3 + 1, none⟩) hP2 (by decide) h.lowP v

set_option maxHeartbeats 800000 in
theorem inside_any (w : World) (B s P M n c : Nat) (S : KS) (hS : SysK w B s P M n c S) (i : Nat) (hi : i < n) (hn : n ≤ 6) :
    Calls Try.prog 19 #[.pointer (some ⟨s, 0, none⟩), .int .i64 (i : Int)] w fun e w' => e = .returned (.bool (S.ins i)) ∧ w = w' := by
  obtain ⟨D, f, hA⟩ := hS
  obtain ⟨s0, s1⟩ := hA.cells
  obtain ⟨p0, p1, p2⟩ := hA.prc hi
  have hiI : (i : Int) < (n : Int) := by omega
  clear hA p0 p1 s1
  generalize S.ins i = x at *
  go_enter Try.func19, Try.ntmps19
  go_wp2_with fail
  go_ret
  exact ⟨rfl, rfl⟩
set_option maxHeartbeats 800000 in
theorem hasToken_any (w : World) (B s P M n c : Nat) (S : KS) (hS : SysK w B s P M n c S) (i : Nat) (hi : i < n) (hn : n ≤ 6) (C : Bool) (hC : C = true ↔ S.ptr i = i) :
    Calls Try.prog 44 #[.pointer (some ⟨s, 0, none⟩), .int .i64 (i : Int)] w fun e w' => e = .returned (.bool C) ∧ w = w' := by
  obtain ⟨D, f, hA⟩ := hS
  obtain ⟨s0, s1⟩ := hA.cells
  obtain ⟨p0, p1, p2⟩ := hA.prc hi
  have hiI : (i : Int) < (n : Int) := by omega
  have e : Hid (((S.ptr i : Int) == (i : Int)) = C) := by
    unfold Hid
    rw [Bool.eq_iff_iff, hC, beq_iff_eq]
    omega
  clear hA p1 p2 s1 hC
  generalize (S.ptr i : Int) = x at *
  have e' := e.out
  generalize C = C' at *
  cases C'
  all_goals
    clear e
    go_enter Try.func44, Try.ntmps44
    go_wp2_with fail
    go_ret
    exact ⟨rfl, rfl⟩
set_option maxHeartbeats 800000 in
theorem wants_any (w : World) (B s P M n c : Nat) (S : KS) (hS : SysK w B s P M n c S) (i : Nat) (hi : i < n) (hn : n ≤ 6) (hl : (S.row i).length ≤ 1000) (C : Bool) (hC : C = true ↔ i ∈ S.row i) :
    Calls Try.prog 20 #[.pointer (some ⟨s, 0, none⟩), .int .i64 (i : Int)] w fun e w' => e = .returned (.bool C) ∧ w = w' := by
  obtain ⟨D, f, hA⟩ := hS
  obtain ⟨s0, s1⟩ := hA.cells
  obtain ⟨p0, p1, p2⟩ := hA.prc hi
  have hiI : (i : Int) < (n : Int) := by omega
  obtain ⟨A, cap, hv, h1, h2, h3⟩ := hA.qlen hi
  rw [hv] at p1
  have hC2 : C = true ↔ (i : Int) ∈ nlK (S.row i) := by
    rw [hC]
    unfold nlK
    rw [List.mem_map]
    constructor
    · intro h; exact ⟨i, h, rfl⟩
    · rintro ⟨a, ha, e⟩
      have e2 : a = i := by omega
      rw [e2] at ha; exact ha
  have hcall := Lib.hid (containsK_any A cap (nlK (S.row i)) (i : Int) w h3 (by rw [nlK_len]; exact hl) C hC2)
  rw [nlK_len] at hcall
  clear hA p0 p2 s1 hC hC2 hv h3
  generalize (S.row i).length = m at *
  go_enter Try.func20, Try.ntmps20
  go_wp2_with fail
  refine hcall.out.mono ?_
  rintro e w1 ⟨rfl, rfl⟩
  go_wp2_with fail
  go_ret
  exact ⟨rfl, rfl⟩

def SrvK (B s P M n c : Nat) (w : World) (T : KS) (e : Ending) (w' : World) : Prop := e = .returned (.tuple #[]) ∧ SysK w' B s P M n c T ∧ BlK B w w'
theorem serve_far {S : KS} {i : Nat} (h : S.ptr i ≠ i) : S.serve i = S := by unfold KS.serve; rw [if_pos (.inl h)]
theorem serve_in {S : KS} {i : Nat} (h : S.ins i = true) : S.serve i = S := by unfold KS.serve; rw [if_pos (.inr (.inl h))]
theorem serve_nil {S : KS} {i : Nat} (h : S.row i = []) : S.serve i = S := by unfold KS.serve; rw [if_pos (.inr (.inr h))]
theorem serve_own {S : KS} {i : Nat} {t : List Nat} (h1 : S.ptr i = i) (h2 : S.ins i = false) (h3 : S.row i = i :: t) : S.serve i = (S.cut i).into i := by
  unfold KS.serve
  rw [if_neg (by rw [h1, h2, h3]; simp), if_pos (by rw [h3]; rfl)]
theorem serve_last {S : KS} {i y : Nat} (h1 : S.ptr i = i) (h2 : S.ins i = false) (h3 : S.row i = [y]) (h4 : y ≠ i) : S.serve i = ((S.cut i).aim i y).put i y 1 := by
  unfold KS.serve
  rw [if_neg (by rw [h1, h2, h3]; simp), if_neg (by rw [h3]; exact h4)]
  unfold KS.pass
  rw [h3]
  exact if_pos rfl
theorem serve_more {S : KS} {i y z : Nat} {t : List Nat} (h1 : S.ptr i = i) (h2 : S.ins i = false) (h3 : S.row i = y :: z :: t) (h4 : y ≠ i) : S.serve i = (((S.cut i).aim i y).put i y 1).put i y 0 := by
  unfold KS.serve
  rw [if_neg (by rw [h1, h2, h3]; simp), if_neg (by rw [h3]; exact h4)]
  unfold KS.pass
  rw [h3]
  exact if_neg (by simp)

set_option maxHeartbeats 4000000 in
theorem serve_any (w : World) (B s P M n c : Nat) (S : KS) (hS : SysK w B s P M n c S) (hO : OkK n S 900) (i : Nat) (hi : i < n) (hn : n ≤ 6) (hc : c ≤ 90000) :
    Calls Try.prog 42 #[.pointer (some ⟨s, 0, none⟩), .int .i64 (i : Int)] w (SrvK B s P M n (c + 2) w (S.serve i)) := by
  have hSH := Lib.hid (hS.mono (show c ≤ c + 2 by omega))
  by_cases hp : S.ptr i = i
  · have htok := Lib.hid (hasToken_any w B s P M n c S hS i hi hn true ⟨fun _ => hp, fun _ => rfl⟩)
    obtain ⟨D, f, hA⟩ := hS
    obtain ⟨s0, s1⟩ := hA.cells
    obtain ⟨p0, p1, p2⟩ := hA.prc hi
    have hiI : (i : Int) < (n : Int) := by omega
    cases hin : S.ins i with
    | true =>
      have hR := Lib.hid (serve_in hin)
      rw [hin] at p2
      clear hp hin hA hO s1
      go_enter Try.func42, Try.ntmps42
      go_wp2_with fail
      refine htok.out.mono ?_
      rintro e w1 ⟨rfl, rfl⟩
      go_wp2_with fail
      (try simp only [Exit.inBlock, Exit.then])
      refine bodyPost_ret (results_none rfl _ _ _) rfl ?_
      exact ⟨rfl, by rw [hR.out]; exact hSH.out, BlK.refl _ _⟩
    | false =>
      rw [hin] at p2
      cases hr : S.row i with
      | nil =>
        have hR := Lib.hid (serve_nil hr)
        obtain ⟨A, cap, hv, _, _, _⟩ := hA.qlen hi
        rw [hv, hr] at p1
        simp only [List.length_nil] at p1
        clear hp hin hA hO s1 hr hv
        go_enter Try.func42, Try.ntmps42
        go_wp2_with fail
        refine htok.out.mono ?_
        rintro e w1 ⟨rfl, rfl⟩
        go_wp2_with fail
        (try simp only [Exit.inBlock, Exit.then])
        refine bodyPost_ret (results_none rfl _ _ _) rfl ?_
        exact ⟨rfl, by rw [hR.out]; exact hSH.out, BlK.refl _ _⟩
      | cons y t =>
        have hyn := hO.mem i y (by rw [hr]; simp)
        obtain ⟨g, off, cap, hv, h1, h2, hx, hQ⟩ := hA.qhead hi hr
        rw [hv] at p1
        have hA1 := hA.cutQ hi hr hv hQ
        have hb1 := hA.blkP (BlK.refl B w) (i * 3 + 1) (.slice (if cap = 1 then some ⟨g, off, none⟩ else some ⟨g, off + 1, none⟩) t.length (cap - 1))
        have f0 := hA.prs.frozen (i * 3)
        have f1 := hA.prs.frozen (i * 3 + 1)
        have f2 := hA.prs.frozen (i * 3 + 2)
        have hz : (((t.length + 1 : Nat) : Int) == 0) = false := by simp; omega
        have hm1 : (1 : Int) ≤ ((t.length + 1 : Nat) : Int) := by omega
        have htl : t.length ≤ 900 := by have := hO.row i; rw [hr] at this; simp at this; omega
        obtain ⟨v, hvv⟩ : ∃ v, Hid (Value.slice (if cap = 1 then some ⟨g, off, none⟩ else some ⟨g, off + 1, none⟩) t.length (cap - 1) = v) := ⟨_, rfl⟩
        rw [hvv.out] at hA1 hb1
        by_cases hyi : y = i
        · have hA2 := hA1.setIns hi true
          have hb2 := Lib.hid (hA1.blkP hb1 (i * 3 + 2) (.bool true))
          subst hyi
          have hR := Lib.hid (serve_own hp hin hr)
          have hS2 : Hid (SysK ((w.setCell ⟨P, y * 3 + 1, none⟩ v).setCell ⟨P, y * 3 + 2, none⟩ (.bool true)) B s P M n (c + 2) ((S.cut y).into y)) := ⟨_, _, hA2.mono (by omega)⟩
          clear hA hA1 hA2 hb1 hO hr hp hin hv hQ hyn hSH
          generalize t.length = m at *
          by_cases hcap1 : cap = 1
          · subst hcap1
            have hm0 : m = 0 := by omega
            subst hm0
            have hv' := hvv.out
            simp only [if_true, Nat.sub_self] at hv'
            clear hvv
            subst hv'
            go_enter Try.func42, Try.ntmps42
            go_wp2_with fail
            refine htok.out.mono ?_
            rintro e w1 ⟨rfl, rfl⟩
            go_wp2_with fail
            (try simp only [Exit.inBlock, Exit.then])
            refine bodyPost_ret (results_none rfl _ _ _) rfl ?_
            exact ⟨rfl, by rw [hR.out]; exact hS2.out, hb2.out⟩
          · have hv' := hvv.out
            simp only [if_neg hcap1] at hv'
            clear hvv
            subst hv'
            go_enter Try.func42, Try.ntmps42
            go_wp2_with fail
            refine htok.out.mono ?_
            rintro e w1 ⟨rfl, rfl⟩
            go_wp2_with fail
            (try simp only [Exit.inBlock, Exit.then])
            refine bodyPost_ret (results_none rfl _ _ _) rfl ?_
            exact ⟨rfl, by rw [hR.out]; exact hS2.out, hb2.out⟩
        · have hA2 := hA1.setPtr hi y
          have hb2 := Lib.hid (hA1.blkP hb1 (i * 3) (.int .i64 (y : Int)))
          have hS2 : SysK ((w.setCell ⟨P, i * 3 + 1, none⟩ v).setCell ⟨P, i * 3, none⟩ (.int .i64 (y : Int))) B s P M n c ((S.cut i).aim i y) := ⟨_, _, hA2⟩
          have hcall := Lib.hid (send_any _ B s P M n c _ hS2 i y hi hyn hn (by omega) 1 (Nat.le_trans (hO.len i y) (by omega)))
          have hq2 : Hid (((((S.cut i).aim i y).put i y 1).q i y).length ≤ 1000) := by
            unfold Hid
            show (up2 S.q i y (S.q i y ++ [1]) i y).length ≤ 1000
            rw [up2_same, List.length_append]
            have := hO.len i y
            simp; omega
          have hrow2 : Hid ((((S.cut i).aim i y).put i y 1).row i = t) := by
            unfold Hid
            show up1 S.row i (S.row i).tail i = t
            rw [up1_same, hr]; rfl
          have hRl : Hid (t = [] → S.serve i = ((S.cut i).aim i y).put i y 1) := fun e => serve_last hp hin (by rw [hr, e]) hyi
          have hRm : Hid (t ≠ [] → S.serve i = (((S.cut i).aim i y).put i y 1).put i y 0) := fun e => by
            cases t with
            | nil => exact absurd rfl e
            | cons z t => exact serve_more hp hin hr hyi
          have hyib : ((y : Int) == (i : Int)) = false := by rw [beq_eq_false_iff_ne]; omega
          clear hA hA1 hA2 hb1 hO hr hp hin hv hQ hSH hS2 hyi
          generalize S.serve i = R at *
          generalize ((S.cut i).aim i y).put i y 1 = T at *
          obtain ⟨m, hm⟩ : ∃ m, Hid (t.length = m) := ⟨_, rfl⟩
          rw [hm.out] at p1 hz hm1 htl h1 hvv
          have fin : ∀ w1 : World, Hid (SysK w1 B s P M n (c + 1) T) → Hid (BlK B w w1) → Hid (∃ D3 f3, SysKA w1 B s P M n (c + 1) D3 f3 T ∧ ∃ A3 c3, D3 i = .slice A3 m c3) := fun w1 h1 _ => by
            obtain ⟨D3, f3, hA3⟩ := h1.out
            obtain ⟨A3, c3, hv3, _⟩ := hA3.qlen hi
            rw [hrow2.out, hm.out] at hv3
            exact ⟨D3, f3, hA3, A3, c3, hv3⟩
          by_cases hcap1 : cap = 1
          · subst hcap1
            have hm0 : m = 0 := by omega
            subst hm0
            have hR := Lib.hid (hRl.out (List.length_eq_zero_iff.1 hm.out))
            have hv' := hvv.out
            simp only [if_true, Nat.sub_self] at hv'
            clear hvv hRl hRm
            subst hv'
            go_enter Try.func42, Try.ntmps42
            go_wp2_with fail
            refine htok.out.mono ?_
            rintro e w1 ⟨rfl, rfl⟩
            go_wp2_with fail
            refine hcall.out.mono ?_
            rintro e w3 ⟨rfl, hS3, hB3⟩
            have hB4 := Lib.hid (hb2.out.trans hB3)
            have hS3H := Lib.hid hS3
            obtain ⟨D3, f3, hA3, A3, c3, hv3⟩ := (fin w3 hS3H hB4).out
            obtain ⟨q0, q1, q2⟩ := hA3.prc hi
            rw [hv3] at q1
            clear hA3 hS3 hB3 q0 q2 hv3 fin hb2
            go_wp2_with fail
            go_end0
            exact ⟨rfl, by rw [hR.out]; exact hS3H.out.mono (by omega), hB4.out⟩
          · have hv' := hvv.out
            simp only [if_neg hcap1] at hv'
            clear hvv
            subst hv'
            cases m with
            | zero =>
              have hR := Lib.hid (hRl.out (List.length_eq_zero_iff.1 hm.out))
              clear hRl hRm
              go_enter Try.func42, Try.ntmps42
              go_wp2_with fail
              refine htok.out.mono ?_
              rintro e w1 ⟨rfl, rfl⟩
              go_wp2_with fail
              refine hcall.out.mono ?_
              rintro e w3 ⟨rfl, hS3, hB3⟩
              have hB4 := Lib.hid (hb2.out.trans hB3)
              have hS3H := Lib.hid hS3
              obtain ⟨D3, f3, hA3, A3, c3, hv3⟩ := (fin w3 hS3H hB4).out
              obtain ⟨q0, q1, q2⟩ := hA3.prc hi
              rw [hv3] at q1
              clear hA3 hS3 hB3 q0 q2 hv3 fin hb2
              go_wp2_with fail
              go_end0
              exact ⟨rfl, by rw [hR.out]; exact hS3H.out.mono (by omega), hB4.out⟩
            | succ m =>
              have hR := Lib.hid (hRm.out (fun e => by have := hm.out; rw [e] at this; cases this))
              have hpos : (0 : Int) < ((m + 1 : Nat) : Int) := by omega
              clear hRl hRm
              go_enter Try.func42, Try.ntmps42
              go_wp2_with fail
              refine htok.out.mono ?_
              rintro e w1 ⟨rfl, rfl⟩
              go_wp2_with fail
              refine hcall.out.mono ?_
              rintro e w3 ⟨rfl, hS3, hB3⟩
              have hB4 := Lib.hid (hb2.out.trans hB3)
              have hS3H := Lib.hid hS3
              obtain ⟨D3, f3, hA3, A3, c3, hv3⟩ := (fin w3 hS3H hB4).out
              obtain ⟨q0, q1, q2⟩ := hA3.prc hi
              rw [hv3] at q1
              have hcall2 := Lib.hid (send_any w3 B s P M n (c + 1) T hS3 i y hi hyn hn (by omega) 0 hq2.out)
              clear hA3 hS3 hB3 q0 q2 hv3 fin hb2
              go_wp2_with fail
              refine hcall2.out.mono ?_
              rintro e w5 ⟨rfl, hS5, hB5⟩
              have hS5H := Lib.hid hS5
              clear hS5
              go_wp2_with fail
              go_end0
              exact ⟨rfl, by rw [hR.out]; exact hS5H.out, hB4.out.trans hB5⟩
  · have htok := Lib.hid (hasToken_any w B s P M n c S hS i hi hn false ⟨(nomatch ·), fun h => absurd h hp⟩)
    obtain ⟨D, f, hA⟩ := hS
    obtain ⟨s0, s1⟩ := hA.cells
    have hiI : (i : Int) < (n : Int) := by omega
    have hR := Lib.hid (serve_far hp)
    clear hp hA hO s1
    go_enter Try.func42, Try.ntmps42
    go_wp2_with fail
    refine htok.out.mono ?_
    rintro e w1 ⟨rfl, rfl⟩
    go_wp2_with fail
    (try simp only [Exit.inBlock, Exit.then])
    refine bodyPost_ret (results_none rfl _ _ _) rfl ?_
    exact ⟨rfl, by rw [hR.out]; exact hSH.out, BlK.refl _ _⟩

#print axioms serve_any
#print axioms wants_any
end Go.Proofs.Ytejckoffllhjcaa
