/-
  The contract of tick.Longest.
-/
import Derived.Test.YtiokfehckhbnaaaFol
import Derived.Test.YtiokfehckhbnaaaChk
import Derived.Test.YtiokfehckhbnaaaRem
import Derived.Test.YtiokfehckhbnaaaMxf
namespace Go.Proofs.Ytiokfehckhbnaaa
open Go.RowKit Go.Maps

theorem remaining_any (l : List Ev) (w : World) (F T : Nat) (vs : Nat → Value) (hL : Lists w F T l.length vs (fol l)) (h30 : l.length ≤ 30) (hs : Sole l) :
    Calls Try.prog 30 #[.slice (some ⟨T, 0, none⟩) l.length l.length] w (RemRes l w) := (callsIn_wide (n := 3)).1 (remaining_in 3 (by omega) l w F T vs hL h30 hs)

theorem most_ex (D : Nat → Nat) (c : Nat) : ∃ M, Most D c M := by
  induction c with
  | zero => exact ⟨0, fun i h => by omega, fun _ => rfl, fun h => by omega⟩
  | succ c ih =>
    obtain ⟨M, h⟩ := ih
    rcases Nat.lt_or_ge M (D c) with h1 | h1
    · refine ⟨D c, fun i hi => ?_, fun h => by omega, fun _ => ⟨c, by omega, rfl⟩⟩
      rcases Nat.lt_or_ge i c with h2 | h2
      · have := h.le i h2; omega
      · have : i = c := by omega
        subst this
        exact Nat.le_refl _
    · refine ⟨M, fun i hi => ?_, fun h => by omega, fun _ => ?_⟩
      · rcases Nat.lt_or_ge i c with h2 | h2
        · exact h.le i h2
        · have : i = c := by omega
          subst this
          exact h1
      · rcases Nat.eq_zero_or_pos c with h2 | h2
        · have := h.zero h2
          exact ⟨c, by omega, by omega⟩
        · obtain ⟨i, h3, h4⟩ := h.some_ h2
          exact ⟨i, by omega, h4⟩

theorem owns_below {w w' : World} {B size n : Nat} {e : TypeId} {v : Value} {xs : List Value} (h : w.ownsRow B e size v n xs) (hb : Below w.heap.size w w') : w'.ownsRow B e size v n xs := by
  have hlt := h.lt
  refine ⟨h.1, ?_⟩
  rcases h.2 with h7 | ⟨g, cap, cur, hv, hb', hg, rest⟩
  · exact .inl h7
  · refine .inr ⟨g, cap, cur, hv, hb', ?_, rest⟩
    rw [hb.block g (hlt g (by rw [hv]; rfl)).2]
    exact hg

def sliceLen : Value → Nat
  | .slice _ n _ => n
  | _ => 0

/-- A list of numbers in a row of the call's own. -/
theorem own_nums {w : World} {B : Nat} {e : TypeId} {v : Value} {out : List Nat} (h : w.ownsRow B e 1 v out.length (natVals out)) : ∃ A cap, v = .slice A out.length cap ∧ Nums w w.heap.size A (out.map Int.ofNat) := by
  have hlt := h.lt
  have hcells := @World.ownsRow.cells _ _ _ _ _ _ _ h
  rcases h.2 with ⟨h7, h8⟩ | ⟨g, cap, cur, hv, hb', hg', _⟩
  · exact ⟨none, 0, by rw [h7, h8], fun hh => by simp at hh; omega⟩
  · refine ⟨_, cap, hv, fun _ => ⟨g, 0, rfl, (hlt g (by rw [hv]; rfl)).2, fun q hq => ?_⟩⟩
    have hq' : q < out.length := by simpa using hq
    have := hcells (g := g) (by rw [hv]; rfl) q (.int .i64 (out[q] : Nat)) (by simp [natVals, hq'])
    have hadd : (⟨g, 0, none⟩ : Addr).add q = ⟨g, q, none⟩ := by unfold Addr.add; split <;> simp_all
    rw [hadd] at this
    rw [Nat.zero_add, this]
    simp

set_option maxHeartbeats 800000 in
theorem tlongest_no (A : Option Addr) (cap : Nat) (l : List Ev) (n : Int) (w : World) (hE : Evs w w.heap.size A l) (hF : Fits l) (hl : l.length ≤ maxLen) (h0 : ¬ checkCode n l = 0) :
    Calls Try.prog 15 #[.int .i64 n, .slice A l.length cap] w fun e w' => e = .returned (.tuple #[.slice none 0 0, .int .i64 (checkCode n l)]) ∧ Below w.heap.size w w' := by
  have hb0 : (checkCode n l != 0) = true := by simp [h0]
  have h0H := Lib.hid h0
  clear h0
  go_enter Try.func15, Try.ntmps15
  go_wp2_with fail
  refine (check_any A cap l n _ hE hF hl).mono ?_
  rintro e w1 ⟨rfl, hB1⟩
  go_wp2_with fail
  go_ret2
  exact ⟨rfl, hB1⟩

/-- The longest chain, and no error. -/
def LongRes (l : List Ev) (w : World) (e : Ending) (w' : World) : Prop :=
  ∃ (A : Option Addr) (cap : Nat) (out : List Nat) (D : Nat → Nat) (M : Nat), e = .returned (.tuple #[.slice A out.length cap, .int .i64 0]) ∧ Rank (fun i j => HB l j i) l.length D ∧ Most D l.length M ∧ M ≤ l.length ∧ Chain l D M out ∧ out.length = M ∧
    Nums w' w'.heap.size A (out.map Int.ofNat) ∧ Below w.heap.size w w'

def LngRel (l : List Ev) (D : Nat → Nat) (M : Nat) (w5 : World) (v : Value) (A : Option Addr) (out cs : List Nat) (wr : World) : Prop :=
  Chain l D M out ∧ Cand l out cs ∧ Reads1 w5 A cs ∧ wr.ownsRow w5.heap.size 3 1 v out.length (natVals out) ∧ Below w5.heap.size w5 wr

theorem Cand.len {l : List Ev} {out cs : List Nat} (h : Cand l out cs) : cs.length ≤ 2 * l.length := by
  rcases h with ⟨_, rfl⟩ | ⟨x, _, rfl⟩
  · simp; omega
  · exact folTo_len l l.length x

set_option maxHeartbeats 4000000 in
theorem tlongest_ok (A : Option Addr) (cap : Nat) (l : List Ev) (n : Int) (w : World) (hE : Evs w w.heap.size A l) (hF : Fits l) (h0 : checkCode n l = 0) :
    Calls Try.prog 15 #[.int .i64 n, .slice A l.length cap] w (LongRes l w) := by
  have hb0 : (checkCode n l != 0) = false := by simp [h0]
  obtain ⟨⟨_, _, h30⟩, hg⟩ := check_good.1 h0
  have hl : l.length ≤ maxLen := by unfold maxLen; omega
  have hs := hg.sole
  obtain ⟨j0, hj0, hy0, hy1, hy2⟩ := info_parts info3
  have hJi := Lib.hid hj0; have hJz := Lib.hid hy0; have hJs := Lib.hid hy1; have hJb := Lib.hid hy2
  have h0H := Lib.hid h0
  clear h0 hj0 hy0 hy1 hy2
  go_enter Try.func15, Try.ntmps15
  go_wp2_with fail
  refine (check_any A cap l n _ hE hF hl).mono ?_
  rintro e w1 ⟨rfl, hB1⟩
  go_wp2_with fail
  refine (followers_any A cap l n _ ((hE.below hB1).more hB1.size) hF h30 hg).mono ?_
  rintro e w2 ⟨vs, rfl, hL2, hB2'⟩
  have hB2 := hB1.trans (hB2'.mono hB1.size)
  clear hB2' hB1
  generalize w1.heap.size = T at *
  go_wp2_with fail
  refine (remaining_any l _ T T vs hL2 h30 hs).mono ?_
  rintro e w3 ⟨D, rfl, hR3, hD, hDle, hB3'⟩
  have hL3 := hL2.below hB3'
  have hB3 := hB2.trans (hB3'.mono hB2.size)
  have hlt3 := Row.lt hR3
  clear hB3' hB2 hL2
  generalize w2.heap.size = g at *
  obtain ⟨M, hM⟩ := most_ex D l.length
  have hMl : M ≤ l.length := by
    rcases Nat.eq_zero_or_pos l.length with h1 | h1
    · have := hM.zero h1; omega
    · obtain ⟨i, h2, h3⟩ := hM.some_ h1
      have := hDle i h2; omega
  have hR4 : NatRow (w3.alloc (.cells #[.slice (some ⟨g, 0, none⟩) l.length l.length] 23)) g l.length D := Row.alloc hR3 _
  have hL4 := hL3.alloc (.cells #[.slice (some ⟨g, 0, none⟩) l.length l.length] 23)
  have hB4 : Below w.heap.size w (w3.alloc (.cells #[.slice (some ⟨g, 0, none⟩) l.length l.length] 23)) := hB3.alloc hB3.size _
  have hd4 : Hid ((w3.alloc (.cells #[.slice (some ⟨g, 0, none⟩) l.length l.length] 23)).cell? ⟨w3.heap.size, 0, none⟩ = some (.slice (some ⟨g, 0, none⟩) l.length l.length)) := by unfold Hid; simp [World.cell?_alloc_new]
  have hs4 : w3.heap.size < (w3.alloc (.cells #[.slice (some ⟨g, 0, none⟩) l.length l.length] 23)).heap.size := by simp
  go_wp2_with fail
  refine (numbers_any l.length _ h30).mono ?_
  rintro e w5 ⟨rfl, hR5, hB5'⟩
  have hlt5 := Row.lt hR5
  generalize w3.alloc (.cells #[.slice (some ⟨g, 0, none⟩) l.length l.length] 23) = w4 at *
  have hD5 : NatRow w5 g l.length D := Row.below hR4 hB5' (Row.lt hR4)
  have hL5 := hL4.below hB5'
  have hd5 : w5.cell? ⟨w3.heap.size, 0, none⟩ = some (.slice (some ⟨g, 0, none⟩) l.length l.length) := (hB5'.cell (p := ⟨w3.heap.size, 0, none⟩) hs4).trans hd4.out
  have hs5 : w3.heap.size < w5.heap.size := by omega
  have hB5 := hB4.trans (hB5'.mono hB4.size)
  clear hB5' hB4 hB3 hL4 hL3 hR4 hR3 hd4 hs4
  generalize w4.heap.size = N at *
  generalize w3.heap.size = bs at *
  have hRd : Reads1 w5 (some ⟨N, 0, none⟩) (List.range l.length) := fun q hq => by
    have hq' : q < l.length := by simpa using hq
    exact ⟨N, 0, rfl, hlt5, by rw [Nat.zero_add, hR5.at_ hq']; simp⟩
  have hlr : (List.range l.length).length = l.length := by simp
  have hlrH := Lib.hid hlr
  clear hlr
  go_wp2_with fail
  go_loopw [9, 10] (fun v s wr => ∃ (A' : Option Addr) (cap' : Nat) (out cs : List Nat), s = .slice A' cs.length cap' ∧ LngRel l D M w5 v A' out cs wr) (fun v _ _ => M - sliceLen v)
  case atStart => exact ⟨some ⟨N, 0, none⟩, l.length, [], List.range l.length, by rw [hlrH.out], Chain.nil _ _ _, .inl ⟨rfl, rfl⟩, hRd, World.ownsRow_nil _ _ _ _, Below.refl _ _⟩
  case round =>
    obtain ⟨A', cap', out, cs, rfl, hCh, hCa, hRc, hOw, hB⟩ := hrel
    obtain ⟨A9, c9, rfl, hN⟩ := own_nums hOw
    clear hRd
    by_cases hcs : cs.length = 0
    · have hnil : cs = [] := List.eq_nil_of_length_eq_zero hcs
      have hdone : out.length = M := by subst hnil; exact hCa.done hs hD hM hCh
      have hdoneH := Lib.hid hdone
      have hd1 : decide (0 < cs.length) = false := by simp [hcs]
      have hd2 : decide ((0 : Int) < (cs.length : Int)) = false := by simp [hcs]
      have hBf := hB5.trans (hB.mono hB5.size)
      clear hnil hdone hcs
      go_wp2_with fail
      go_ret2
      exact ⟨A9, c9, out, D, M, rfl, hD, hM, hMl, hCh, hdoneH.out, hN, hBf⟩
    · have hcl := hCa.len
      have hd1 : decide (0 < cs.length) = true := by simp; omega
      have hd2 : decide ((0 : Int) < (cs.length : Int)) = true := by simp; omega
      have hmx := maxfunc_any A' cap' cs l.length bs g D wr (hRc.below hB) (by omega) (by omega) (fun x hx => hCa.lt hx) (by have := hB.size; omega) ((hB.cell (p := ⟨bs, 0, none⟩) hs5).trans hd5) (Row.below hD5 hB (Row.lt hD5))
      go_wp2_with fail
      refine hmx.mono ?_
      rintro e w6 ⟨v0, rfl, hFM, hB6'⟩
      obtain ⟨hltM, hPick⟩ := hCa.pick hs hD hM hCh hFM
      have hv0 : v0 < l.length := hPick.lt
      have hB6 := hB.trans (hB6'.mono hB.size)
      have hOw6 := owns_below hOw hB6'
      obtain ⟨A8, c8, hv8, _, _, hq8⟩ := hL5.shape hv0
      have hv8H := Lib.hid hv8
      have hRn : Reads1 w5 A8 (fol l v0) := fun q hq => by
        obtain ⟨g8, h1, _, h2, _, h3⟩ := hq8 q hq
        exact ⟨g8, 0, h1, h2, by rw [Nat.zero_add]; exact h3⟩
      have hnews := Lib.hid (news1 (w := w6) (.int .i64 (v0 : Int)) 3 rfl)
      have hbase : w5.heap.size ≤ (w6.alloc (.cells #[.int .i64 (v0 : Int)] 3)).heap.size := by have := hB6.size; simp; omega
      have hown6 := hOw6.alloc (.cells #[.int .i64 (v0 : Int)] 3)
      have hB6a : Below w5.heap.size w5 (w6.alloc (.cells #[.int .i64 (v0 : Int)] 3)) := hB6.alloc hB6.size _
      have hvI : (v0 : Int) < (l.length : Int) := by omega
      clear hmx hFM hB6' hv8 hq8
      go_wp2_with (first
        | (at_builtin; refine wpList_append_lies _ rfl (.tmp 31) (.tmp 33) 23 rfl w5.heap.size 3 j0 (.int .i64 0) 1 8 Try.underlying23 hJi.out hJz.out hJs.out hJb.out rfl (by decide) (.slice A9 out.length c9) out.length (natVals out) rfl hown6 ⟨w6.heap.size, 0, none⟩ 1 1 [.int .i64 (v0 : Int)] rfl rfl hnews.out (by simp [Value.oneCell']) (by omega) (by unfold maxLen; omega) (by omega) hbase _ rfl ?_; intro g7 c7 w7 hown7 hgrow7 hat7 hlt7; have hB7 : Below w5.heap.size w5 w7 := hB6a.grown hgrow7 hbase (fun j hj => (hown6.lt j hj).1); have s7 := (hL5.below hB7).slot hv0; rw [hv8H.out] at s7))
      have hown8 : w7.ownsRow w5.heap.size 3 1 (.slice (some ⟨g7, 0, none⟩) (out.length + 1) c7) (out ++ [v0]).length (natVals (out ++ [v0])) := by
        rw [show natVals (out ++ [v0]) = natVals out ++ [.int .i64 (v0 : Int)] by simp [natVals], List.length_append, List.length_singleton]
        exact hown7
      clear hown7 hgrow7
      go_roundw
      case rel => exact ⟨A8, c8, out ++ [v0], fol l v0, rfl, hCh.push hltM hPick, .inr ⟨v0, by simp, rfl⟩, hRn, hown8, hB7⟩
      case measure => simp [sliceLen]; omega

#print axioms tlongest_ok
end Go.Proofs.Ytiokfehckhbnaaa
