/-
  The contracts of quorum.add and quorum.Better.
-/
import Derived.Test.YtgamppdfjbcbeaaUow
import Derived.Test.YtgamppdfjbcbeaaUun
namespace Go.Proofs.Ytgamppdfjbcbeaa
open Go.RowKit Go.Maps
set_option linter.unusedVariables false

theorem OwnW.block_ge {w : World} {B : Nat} {v : Value} {l : List Nat} (h : OwnW w B v l) : ∀ j, v.ownBlock = some j → B ≤ j := fun j hj => (World.ownsRow.lt h j hj).1
theorem OwnW.block_ne {w : World} {B b : Nat} {v : Value} {l : List Nat} (h : OwnW w B v l) (hb : b < B) : v.ownBlock ≠ some b := fun e => by
  have := h.block_ge b e
  omega

def AddRes (w : World) (l : List Nat) (u : Nat) (e : Ending) (w' : World) : Prop := ∃ v, e = .returned v ∧ OwnW w' w.heap.size v (addW l u) ∧ Below w.heap.size w w'
set_option maxHeartbeats 1600000 in
theorem add_any (A : Option Addr) (cap : Nat) (l : List Nat) (u : Nat) (w : World) (hu : u < 4294967296) (hE : Wds w w.heap.size A l) (hF : WFits l) (hl : l.length ≤ 900) :
    Calls Try.prog 32 #[.slice A l.length cap, .int .u32 (u : Int)] w (AddRes w l u) := by
  have hB1 := (Below.refl w.heap.size w).alloc (Nat.le_refl _) (.cells #[.int .u32 (u : Int)] 27)
  have hsz : (w.alloc (.cells #[.int .u32 (u : Int)] 27)).heap.size = w.heap.size + 1 := by simp
  have hRow : Row (w.alloc (.cells #[.int .u32 (u : Int)] 27)) w.heap.size 27 [.int .u32 (u : Int)] := Row.made w _ [_]
  have hcl := Lib.hid (clone_any A cap l _ ((hE.below hB1).more (by omega)) (by omega))
  have hdel : Hid (∀ (w1 : World) (v : Value), Below (w.alloc (.cells #[.int .u32 (u : Int)] 27)).heap.size (w.alloc (.cells #[.int .u32 (u : Int)] 27)) w1 → OwnW w1 (w.alloc (.cells #[.int .u32 (u : Int)] 27)).heap.size v l → Row w1 w.heap.size 27 [.int .u32 (u : Int)] ∧ Calls Try.prog 44 #[v, fnD w.heap.size] w1 (DelRes w1 (w.heap.size + 1) v (l.filter fun x => !incB x u))) := fun w1 v hB hO => by
    rw [hsz] at hB hO
    have hR1 := hRow.block (hB.block w.heap.size (by omega))
    exact ⟨hR1, delete_any w.heap.size (w.heap.size + 1) u v l w1 hu hO hF (by omega) hR1 (hO.block_ne (by omega))⟩
  have hlf : (l.filter fun x => !incB x u).length ≤ 900 := Nat.le_trans (List.length_filter_le _ _) hl
  have hdef : Hid (addW l u = (l.filter fun x => !incB x u) ++ [u]) := rfl
  obtain ⟨j0, hi0, hz0, hz1, hz2⟩ := partsU32
  have hJi := Lib.hid hi0; have hJz := Lib.hid hz0; have hJs := Lib.hid hz1; have hJb := Lib.hid hz2
  clear hi0 hz0 hz1 hz2 hE hRow
  unfold AddRes
  rw [hdef.out]
  generalize (l.filter fun x => !incB x u) = r at *
  have hB1H := Lib.hid hB1
  have hszH := Lib.hid hsz
  unfold fnD at hdel
  clear hB1 hsz hdef
  go_enter Try.func32, Try.ntmps32
  go_wp2_with fail
  refine hcl.out.mono ?_
  rintro e w1 ⟨v, rfl, hO, hB2⟩
  obtain ⟨hR1, hd⟩ := hdel.out w1 v hB2 hO
  have hd' := Lib.hid hd
  rw [hszH.out] at hB2 hO
  have hBa := Lib.hid (hB1H.out.trans (hB2.mono (by omega)))
  have hge := Lib.hid hO.block_ge
  have hs1 : w.heap.size + 1 ≤ w1.heap.size := by
    have := hB2.size
    have := hszH.out
    omega
  have hne := Lib.hid (hO.block_ne (Nat.lt_succ_self w.heap.size))
  have hRH := Lib.hid hR1
  clear hdel hcl hB2 hO hd hR1
  go_wp2_with fail
  refine hd'.out.mono ?_
  rintro e w2 ⟨v2, rfl, hO2, hG2⟩
  have hR2 := hRH.out.grown hG2 (fun e => hne.out e.symm)
  have c0 := hR2.cell (i := 0) (by simp)
  simp only [List.getElem_cons_zero] at c0
  have hBb := hBa.out.grown hG2 (by omega) (fun j hj => by have := hge.out j hj; omega)
  have hBc := hBb.alloc hBb.size (.cells #[.int .u32 (u : Int)] 27)
  have hO3 := hO2.alloc (.cells #[.int .u32 (u : Int)] 27)
  have hge3 := Lib.hid hO3.block_ge
  have hnews := Lib.hid (newsW (w := w2) u rfl)
  have hs2 : w.heap.size + 1 ≤ (w2.alloc (.cells #[.int .u32 (u : Int)] 27)).heap.size := by
    obtain ⟨_, _, _, hle, _⟩ := hG2
    simp
    omega
  have hOH := Lib.hid hO3
  have hBH := Lib.hid hBc
  clear hd' hR2 hG2 hBb hBc hO2 hO3 hge hne hRH hBa
  go_wp2_with (first
    | (at_builtin; refine wpList_append_lies _ rfl (.tmp 10) (.tmp 12) 22 rfl (w.heap.size + 1) 27 j0 (.int .u32 0) 1 4 Try.underlying22 hJi.out hJz.out hJs.out hJb.out rfl (by decide) v2 r.length (wordVals r) rfl hOH.out ⟨w2.heap.size, 0, none⟩ 1 1 [.int .u32 (u : Int)] rfl rfl hnews.out (by simp [Value.oneCell']) (by omega) (by unfold maxLen; omega) (by omega) hs2 _ rfl ?_; intro g cap3 w3 hown hgr hat hlt
       have hO4 := Lib.hid ((OwnW.push hown).less (Nat.le_succ w.heap.size))
       have hB4 := Lib.hid (hBH.out.grown hgr (by omega) (fun j hj => by have := hge3.out j hj; omega))
       clear hown hgr hat hlt hOH hge3 hnews hBH))
  go_ret
  exact ⟨_, rfl, hO4.out, hB4.out⟩

set_option maxHeartbeats 800000 in
theorem better_no (cap : Nat) (n : Int) (A : Option Addr) (l : List Nat) (w : World) (hq : Wds w w.heap.size A l) (hF : WFits l) (hl : l.length ≤ maxLen) (hcap : l.length ≤ cap) (h0 : cotCode n l ≠ 0) :
    Calls Try.prog 20 #[.int .i64 n, .slice A l.length cap] w fun e w' => e = .returned (.tuple #[.slice none 0 0, .int .i64 (cotCode n l)]) ∧ Below w.heap.size w w' := by
  have hc := Lib.hid (checkCoterie_any cap n A l w hq hF hl hcap)
  generalize cotCode n l = x at *
  have hx0 : (x != 0) = true := by simpa using h0
  clear hq
  go_enter Try.func20, Try.ntmps20
  go_wp2_with fail
  refine hc.out.mono ?_
  rintro e w1 ⟨rfl, hB1⟩
  go_wp2_with fail
  go_ret2
  exact ⟨rfl, hB1⟩

/-- What Better tells of a coterie. -/
def BetRes (N : Nat) (w : World) (l : List Nat) (e : Ending) (w' : World) : Prop := ∃ (u : Nat) (v : Value) (x : Int), e = .returned (.tuple #[v, .int .i64 x]) ∧ UndRes N l u ∧ ((x = 0 ∧ OwnW w' w.heap.size v (betL l u) ∧ (betL l u).length ≤ 20) ∨ (x = 1 ∧ v = .slice none 0 0 ∧ 20 < (betL l u).length)) ∧ Below w.heap.size w w'
set_option maxHeartbeats 1600000 in
theorem better_ok (cap : Nat) (n : Int) (A : Option Addr) (l : List Nat) (w : World) (hq : Wds w w.heap.size A l) (hF : WFits l) (hl : l.length ≤ maxLen) (hcap : l.length ≤ cap) (h0 : cotCode n l = 0) :
    Calls Try.prog 20 #[.int .i64 n, .slice A l.length cap] w (BetRes n.toNat w l) := by
  have hc := Lib.hid (checkCoterie_any cap n A l w hq hF hl hcap)
  obtain ⟨hn, hlen, hok⟩ := setsCode_zero (cotCode_zero h0).1
  have h64 := Nat.pow_le_pow_right (n := 2) (by omega) hok.six
  have ht : Hid (∀ (w1 : World), Below w.heap.size w w1 → Calls Try.prog 30 #[.int .i64 n, .slice A l.length cap] w1 fun e w' => ∃ u : Nat, e = .returned (.int .u32 (u : Int)) ∧ UndRes n.toNat l u ∧ Below w1.heap.size w1 w') := fun w1 hB => by
    have := undecided_any n.toNat cap A l w1 ((hq.below hB).more hB.size) hF hok (by omega)
    rw [← hn] at this
    exact this
  have hcl : Hid (∀ (w1 : World), Below w.heap.size w w1 → Calls Try.prog 31 #[.slice A l.length cap] w1 (CloneRes w1 l)) := fun w1 hB => clone_any A cap l w1 ((hq.below hB).more hB.size) (by omega)
  have had : Hid (∀ (w1 : World) (u : Nat), Below w.heap.size w w1 → u < 2 ^ n.toNat → Calls Try.prog 32 #[.slice A l.length cap, .int .u32 (u : Int)] w1 (AddRes w1 l u)) := fun w1 u hB hu => add_any A cap l u w1 (by omega) ((hq.below hB).more hB.size) hF (by omega)
  have hb0 : Hid (betL l 0 = l) := betL_zero l
  have hb1 : Hid (∀ u : Nat, u ≠ 0 → betL l u = addW l u) := fun u h => betL_add l h
  rw [h0] at hc
  unfold BetRes
  clear hq h0 hok hn
  go_enter Try.func20, Try.ntmps20
  go_wp2_with fail
  refine hc.out.mono ?_
  rintro e w1 ⟨rfl, hB1⟩
  have hcl' := Lib.hid (hcl.out w1 hB1)
  have hB1H := Lib.hid hB1
  clear hcl hc hB1
  go_wp2_with fail
  refine hcl'.out.mono ?_
  rintro e w2 ⟨v, rfl, hO, hB2⟩
  have hB2H := Lib.hid (hB1H.out.trans (hB2.mono hB1H.out.size))
  have ht' := Lib.hid (ht.out w2 hB2H.out)
  have hOH := Lib.hid (hO.less hB1H.out.size)
  clear hcl' ht hO hB2
  go_wp2_with fail
  refine ht'.out.mono ?_
  rintro e w3 ⟨u, rfl, hu, hB3⟩
  have hB3H := Lib.hid (hB2H.out.trans (hB3.mono hB2H.out.size))
  have hO3 := Lib.hid (hOH.out.below hB3)
  have huH := Lib.hid hu
  clear ht' hOH hB3
  rcases hu with ⟨rfl, _⟩ | ⟨h1, h2, _⟩
  · obtain ⟨A2, cap2, rfl, hc1, hc2, _⟩ := hO3.out.words
    have hlI : (l.length : Int) ≤ 20 := by omega
    clear had hb1
    go_wp2_with fail
    go_ret2
    exact ⟨0, _, 0, rfl, huH.out, .inl ⟨rfl, by rw [hb0.out]; exact hO3.out, by rw [hb0.out]; exact hlen⟩, hB3H.out⟩
  · have had' := Lib.hid (had.out w3 u hB3H.out h2)
    have hbu := Lib.hid (hb1.out u (by omega))
    have hx0 : ((u : Int) != 0) = true := by simp; omega
    clear had hb1 hb0 h2
    go_wp2_with fail
    refine had'.out.mono ?_
    rintro e w4 ⟨v4, rfl, hO4, hB4⟩
    have hB4H := Lib.hid (hB3H.out.trans (hB4.mono hB3H.out.size))
    have hO4H := Lib.hid (hO4.less hB3H.out.size)
    obtain ⟨A2, cap2, rfl, hc1, hc2, _⟩ := hO4.words
    rw [← hbu.out] at hO4H
    have hlH : Hid ((addW l u).length = (betL l u).length) := by unfold Hid; rw [hbu.out]
    clear had' hO4 hB4 hO3
    obtain ⟨r, hre⟩ : ∃ r, Hid (betL l u = r) := ⟨_, (rfl : betL l u = betL l u)⟩
    rw [hlH.out, hre.out] at hc1 ⊢
    rw [hre.out] at hO4H
    clear hlH hbu
    by_cases hr : r.length ≤ 20
    · have hrI : (r.length : Int) ≤ 20 := by omega
      go_wp2_with fail
      go_ret2
      exact ⟨u, _, 0, rfl, huH.out, .inl ⟨rfl, by rw [hre.out]; exact hO4H.out, by rw [hre.out]; exact hr⟩, hB4H.out⟩
    · have hrI : 20 < (r.length : Int) := by omega
      go_wp2_with fail
      go_ret2
      exact ⟨u, _, 1, rfl, huH.out, .inr ⟨rfl, rfl, by rw [hre.out]; omega⟩, hB4H.out⟩
#print axioms add_any
#print axioms better_no
#print axioms better_ok
end Go.Proofs.Ytgamppdfjbcbeaa
