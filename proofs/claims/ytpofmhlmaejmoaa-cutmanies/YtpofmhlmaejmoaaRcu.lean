/-
  The contract of beaconryref.Cuts.
-/
import Derived.Test.YtpofmhlmaejmoaaMny
import Derived.Test.YtpofmhlmaejmoaaWho
import Derived.Test.YtpofmhlmaejmoaaPck
import Derived.Laws.AppendOwnNone
namespace Go.Proofs.Ytpofmhlmaejmoaa
open Go.RowKit Go.Maps

/-- The first i numbers. -/
def pre6 (F : Nat → Nat) (i : Nat) : List Int := (List.range i).map fun x => (F x : Int)
theorem pre6_len (F : Nat → Nat) (i : Nat) : (pre6 F i).length = i := by simp [pre6]
theorem pre6_at (F : Nat → Nat) {i x : Nat} (h : x < i) : vat (pre6 F i) x = (F x : Int) := by
  rw [vat_get _ (by rw [pre6_len]; exact h)]
  simp [pre6]
theorem pre6_snoc (F : Nat → Nat) (i k : Nat) : pre6 F i ++ [(k : Int)] = pre6 (upN F i k) (i + 1) := by
  unfold pre6
  rw [List.range_succ, List.map_append]
  simp only [List.map_cons, List.map_nil, upN_same]
  congr 1
  exact List.map_congr_left fun x hx => by rw [upN_other _ _ (by have := List.mem_range.1 hx; omega)]

set_option maxHeartbeats 1000000 in
theorem cuts_base (A : Option Addr) (cap : Nat) (l : List Ev) (c : Nat) (h0 : checkCode (c : Int) l = 0) (F : Nat → Nat) (Ac : Option Addr) (capc : Nat) (w : World) (hFle : ∀ x, x < c → F x ≤ tot l x) (hE : Evs w w.heap.size A l) (hN : Nums w w.heap.size Ac (pre6 F c)) :
    Calls Try.prog 19 #[.int .i64 (c : Int), .slice A l.length cap, .slice Ac c capc] w fun e w' => e = .returned (.int .i64 ((whF l 0 c F).length : Int)) ∧ Below w.heap.size w w' := by
  obtain ⟨⟨hn1, hn2, h30⟩, hg⟩ := check_good.1 h0
  have h0H := Lib.hid h0
  clear h0
  have hr : Hid (Ranged l c (vat (pre6 F c))) := fun p hp => by
    rw [pre6_at F hp]
    have := hFle p hp
    unfold tot at this
    omega
  have hwh : Hid (WholeS l (inC l (vat (pre6 F c))) ↔ WholeC l (up F)) := by
    constructor
    · intro h
      exact whole_congr (F := vat (pre6 F c)) hg (fun p hp => pre6_at F hp) h
    · intro h
      exact whole_congr (F := up F) hg (fun p hp => (pre6_at F hp).symm) h
  have hin := Lib.hid (in_any A Ac cap capc l c (pre6 F c) w hE hN (pre6_len F c) h0H.out)
  rw [pre6_len] at hin
  clear hg hFle hN
  by_cases hw : WholeC l (up F)
  · have hlen : Hid ((whF l 0 c F).length = 1) := by unfold Hid; rw [whF, if_pos hw]; rfl
    have hC : Hid (WholeS l (inC l (vat (pre6 F c)))) := hwh.out.2 hw
    clear hw hwh
    go_enter Try.func19, Try.ntmps19
    go_wp2_with fail
    refine hin.out.mono ?_
    intro e w1 h
    rcases h with ⟨_, g, rfl, hR, hB1⟩ | ⟨hno, _⟩
    · go_wp2_with fail
      refine (whole_any A cap l g (inC l (vat (pre6 F c))) _ ((hE.below hB1).more hB1.size) h30 hR true ⟨fun _ => hC.out, fun _ => rfl⟩).mono ?_
      rintro e w2 ⟨rfl, hB2'⟩
      have hB2 := hB1.trans (hB2'.mono hB1.size)
      go_wp2_with fail
      go_ret
      exact ⟨by rw [hlen.out]; rfl, hB2⟩
    · exact absurd hr.out hno
  · have hlen : Hid ((whF l 0 c F).length = 0) := by unfold Hid; rw [whF, if_neg hw]; rfl
    have hC : Hid (¬ WholeS l (inC l (vat (pre6 F c)))) := fun h => hw (hwh.out.1 h)
    clear hw hwh
    go_enter Try.func19, Try.ntmps19
    go_wp2_with fail
    refine hin.out.mono ?_
    intro e w1 h
    rcases h with ⟨_, g, rfl, hR, hB1⟩ | ⟨hno, _⟩
    · go_wp2_with fail
      refine (whole_any A cap l g (inC l (vat (pre6 F c))) _ ((hE.below hB1).more hB1.size) h30 hR false ⟨fun h => absurd h (by decide), fun h => absurd h hC.out⟩).mono ?_
      rintro e w2 ⟨rfl, hB2'⟩
      have hB2 := hB1.trans (hB2'.mono hB1.size)
      go_wp2_with fail
      go_ret
      exact ⟨by rw [hlen.out]; rfl, hB2⟩
    · exact absurd hr.out hno

/-- How many there are whose number of process i is less than k. -/
noncomputable def sumF (l : List Ev) (m i : Nat) (F : Nat → Nat) (k : Nat) : Nat := ((List.range k).flatMap fun k => whF l m (i + 1) (upN F i k)).length
theorem sumF_succ (l : List Ev) (m i : Nat) (F : Nat → Nat) (k : Nat) : sumF l m i F (k + 1) = sumF l m i F k + (whF l m (i + 1) (upN F i k)).length := by
  unfold sumF
  rw [List.range_succ, List.flatMap_append, List.length_append]
  simp
theorem sumF_all (l : List Ev) (m i : Nat) (F : Nat → Nat) : sumF l m i F (tot l i + 1) = (whF l (m + 1) i F).length := by
  unfold sumF
  rw [whF]
theorem sumF_le (l : List Ev) (m i : Nat) (F : Nat → Nat) {k : Nat} (hk : k ≤ tot l i + 1) : sumF l m i F k ≤ prodR l (m + 1) i := by
  have h := flat_le (fun k => whF l m (i + 1) (upN F i k)) (prodR l m (i + 1)) (List.range k) fun k => whF_le l m (i + 1) _
  rw [List.length_range] at h
  exact Nat.le_trans h (Nat.mul_le_mul_right _ hk)
theorem prodR_small (l : List Ev) (h : l.length ≤ 30) {m i : Nat} (hk : i + m ≤ 6) : prodR l m i ≤ 887503681 := by
  have h1 := prodT_R l m i
  have h2 := prodT_small l h (k := i) (by omega)
  have h3 := prodT_small l h hk
  have h4 : 1 * prodR l m i ≤ prodT l i * prodR l m i := Nat.mul_le_mul_right _ h2.1
  omega

/-- 'append([]int{}, c...)'. -/
theorem wpList_copy {w : World} {ops : Array Oper} {rest : List Oper} {o : Oper} {a : Act} {Q : Exit → Act → World → Prop} (hgd : o.guard = none) (s x : Operand)
    (ho : o.op = .call { callee := .builtin .append, args := #[s, x], argTypes := #[23, 23] }) (j0 : TypeInfo) (hJi : Try.prog.info? 3 = some j0) (hJz : j0.zero = some (.int .i64 0)) (hJs : j0.size = 1) (hJb : j0.bytes = 8)
    (B g0 : Nat) (hs : a.eval s = .slice (some ⟨g0, 0, none⟩) 0 0) (hown : w.ownsRow B 3 1 (.slice (some ⟨g0, 0, none⟩) 0 0) 0 []) (Ac : Option Addr) (n capc : Nat) (xs : List Int) (hn : xs.length = n) (hx : a.eval x = .slice Ac n capc) (hnil : n = 0 → Ac = none ∧ capc = 0) (hN : Nums w w.heap.size Ac xs) (hlen : n ≤ 1000) (hbase : B ≤ w.heap.size)
    (h : ∀ g cap w', w'.ownsRow B 3 1 (.slice (some ⟨g, 0, none⟩) n cap) n (intVals xs) → w.grownBy w' (some g0) → wpList Try.prog ops Q rest (a.put o.dst (.slice (some ⟨g, 0, none⟩) n cap)) w') : wpList Try.prog ops Q (o :: rest) a w := by
  by_cases h0 : n = 0
  · obtain ⟨rfl, rfl⟩ := hnil h0
    subst h0
    have hxs : xs = [] := List.length_eq_zero_iff.1 hn
    subst hxs
    exact wpList_append_own_none hgd s x 23 ho B 3 j0 1 Try.underlying23 hJi _ 0 [] hs hown hx (h g0 0 w hown ⟨rfl, rfl, rfl, Nat.le_refl _, fun _ _ _ => rfl⟩)
  · obtain ⟨b, off, rfl, hb, hc⟩ := hN (by omega)
    refine wpList_append_lies w hgd s x 23 ho B 3 j0 (.int .i64 0) 1 8 Try.underlying23 hJi hJz hJs hJb rfl (by decide) _ 0 [] hs hown ⟨b, off, none⟩ n capc (intVals xs) hx (by rw [intVals_len, hn, Nat.mul_one]) ?_ ?_ (by omega) (by unfold maxLen; omega) (by omega) hbase _ rfl ?_
    · intro j u hj
      have hj2 : j < xs.length := by
        rcases Nat.lt_or_ge j xs.length with h1 | h1
        · exact h1
        · rw [List.getElem?_eq_none (by rw [intVals_len]; exact h1)] at hj
          cases hj
      have hadd : (⟨b, off, none⟩ : Addr).add j = ⟨b, off + j, none⟩ := by unfold Addr.add; split <;> simp_all
      rw [hadd, hc j hj2]
      rw [← hj]
      simp [intVals, hj2]
    · intro u hu
      obtain ⟨x, _, rfl⟩ := List.mem_map.1 hu
      rfl
    · intro g cap w' h1 h2 _ _
      rw [Nat.zero_add, List.nil_append] at h1
      rw [Nat.zero_add]
      exact h g cap w' h1 h2

def CuRel (l : List Ev) (m i : Nat) (F : Nat → Nat) (w : World) (k : Nat) (v : Value) (wr : World) : Prop := v = .int .i64 (sumF l m i F k : Int) ∧ Below w.heap.size w wr

set_option maxHeartbeats 4000000 in
set_option maxRecDepth 100000 in
theorem cuts_step (A : Option Addr) (cap : Nat) (l : List Ev) (c : Nat) (h0 : checkCode (c : Int) l = 0) (m i : Nat) (him : i + (m + 1) = c) (F : Nat → Nat) (Ac : Option Addr) (capc : Nat) (w : World) (hE : Evs w w.heap.size A l) (hN : Nums w w.heap.size Ac (pre6 F i)) (hnil : i = 0 → Ac = none ∧ capc = 0)
    (ih : ∀ (k : Nat) (Ac : Option Addr) (capc : Nat) (w : World), k ≤ tot l i → Evs w w.heap.size A l → Nums w w.heap.size Ac (pre6 (upN F i k) (i + 1)) →
      Calls Try.prog 19 #[.int .i64 (c : Int), .slice A l.length cap, .slice Ac (i + 1 : Nat) capc] w fun e w' => e = .returned (.int .i64 ((whF l m (i + 1) (upN F i k)).length : Int)) ∧ Below w.heap.size w w') :
    Calls Try.prog 19 #[.int .i64 (c : Int), .slice A l.length cap, .slice Ac i capc] w fun e w' => e = .returned (.int .i64 ((whF l (m + 1) i F).length : Int)) ∧ Below w.heap.size w w' := by
  obtain ⟨⟨hn1, hn2, h30⟩, hg⟩ := check_good.1 h0
  clear h0 hg
  have ihH := Lib.hid ih
  clear ih
  have hsum : Hid (∀ k, k ≤ tot l i + 1 → sumF l m i F k ≤ 887503681) := fun k hk => Nat.le_trans (sumF_le l m i F hk) (prodR_small l h30 (by omega))
  have hwhole : Hid (∀ k, (whF l m (i + 1) (upN F i k)).length ≤ 887503681) := fun k => Nat.le_trans (whF_le l m (i + 1) _) (prodR_small l h30 (by omega))
  have hall := Lib.hid (sumF_all l m i F)
  have hne : ((i : Int) == (c : Int)) = false := by simp; omega
  have ht30 : tot l i ≤ 30 := Nat.le_trans (own_le l (i : Int) l.length) h30
  obtain ⟨j0, hi0, hz0, hz1, hz2⟩ := info_parts infoInt
  have hJi := Lib.hid hi0; have hJz := Lib.hid hz0; have hJs := Lib.hid hz1; have hJb := Lib.hid hz2
  clear hi0 hz0 hz1 hz2
  have hi6 : i ≤ 6 := by omega
  go_enter Try.func19, Try.ntmps19
  go_wp2_with fail
  go_loopw [9, 10] (fun v t wr => ∃ k : Nat, k ≤ tot l i + 1 ∧ t = .int .i64 k ∧ CuRel l m i F w k v wr) (fun _ t _ => tot l i + 1 - (intOf t).toNat)
  case atStart => exact ⟨0, Nat.zero_le _, rfl, rfl, Below.refl _ _⟩
  case round =>
    obtain ⟨k, hk, rfl, rfl, hB⟩ := hrel
    rename World => w1
    have hs1 := hsum.out k hk
    go_wp2_with fail
    go_loopw [11, 35] (fun a t wr => ∃ j : Nat, j ≤ l.length ∧ t = .int .i64 j ∧ a = .int .i64 (own l (i : Int) j : Nat) ∧ Below w.heap.size w wr) (fun _ t _ => l.length - (intOf t).toNat)
    case atStart => exact ⟨0, Nat.zero_le _, rfl, rfl, hB⟩
    case round =>
      clear hB
      obtain ⟨j, hj, rfl, rfl, hB⟩ := hrel
      have ho := own_le l (i : Int) j
      by_cases hjl : j < l.length
      · obtain ⟨b, off, rfl, hb, hc⟩ := hE.below hB (by omega)
        obtain ⟨c0, c1, c2⟩ := hc j hjl
        clear hc
        have hev := Lib.hid (ev_get l hjl)
        generalize l[j] = e0 at *
        obtain ⟨pp, kd, mm⟩ := e0
        simp only at c0 c1 c2
        have hevp : Hid ((ev l j).p = pp) := by unfold Hid; rw [hev.out]
        have hBa := hB.alloc hB.size (.cells #[.int .i64 pp, .int .i64 kd, .int .i64 mm] 36)
        by_cases e : pp = (i : Int)
        · have v1 : (pp == (i : Int)) = true := by simp [e]
          have hown : Hid (own l (i : Int) (j + 1) = own l (i : Int) j + 1) := by
            unfold Hid
            rw [own_succ, if_pos (by rw [hevp.out]; exact e)]
          clear hB e
          go_wp2_with fail
          go_roundw
          case rel => exact ⟨j + 1, by omega, by go_num, by rw [hown.out]; rfl, hBa⟩
          case measure => simp [intOf]; omega
        · have v1 : (pp == (i : Int)) = false := by simp [e]
          have hown : Hid (own l (i : Int) (j + 1) = own l (i : Int) j) := by
            unfold Hid
            rw [own_succ, if_neg (by rw [hevp.out]; exact e)]
            rfl
          clear hB e
          go_wp2_with fail
          go_roundw
          case rel => exact ⟨j + 1, by omega, by go_num, by rw [hown.out], hBa⟩
          case measure => simp [intOf]; omega
      · have hjl2 : j = l.length := by omega
        subst hjl2
        have ht : Hid (own l (i : Int) l.length = tot l i) := rfl
        rw [ht.out] at ho ⊢
        by_cases hkt : tot l i < k
        · have hkk : k = tot l i + 1 := by omega
          subst hkk
          have hd : (tot l i : Int) < ((tot l i + 1 : Nat) : Int) := by omega
          rw [hall.out]
          generalize tot l i = tt at *
          go_wp2_with fail
          go_ret
          exact ⟨rfl, hB⟩
        · have hd : ¬ ((tot l i : Int) < (k : Int)) := by omega
          have hkt2 : k ≤ tot l i := by omega
          have hW3 : (wr.alloc (.cells #[] 3)).ownsRow wr.heap.size 3 1 (.slice (some ⟨wr.heap.size, 0, none⟩) 0 0) 0 [] := World.ownsRow_lit wr #[] 0 (Nat.le_refl _) (by unfold maxLen; omega) (by simp)
          have hB3 := hB.alloc hB.size (.cells #[] 3)
          have hN3 := (hN.below hB3).more hB3.size
          have hE3 := hE.below hB3
          have hsz3 : wr.heap.size ≤ (wr.alloc (.cells #[] 3)).heap.size := by simp
          have hlow := hB.size
          have hpl := pre6_len F i
          have hk30 : k ≤ 30 := by omega
          have hihk := Lib.hid (fun Ac capc w => ihH.out k Ac capc w hkt2)
          have hsn := Lib.hid (sumF_succ l m i F k)
          have hs2 := hwhole.out k
          have hsnoc := Lib.hid (pre6_snoc F i k)
          have hnilH := Lib.hid hnil
          clear hB ihH hwhole hsum hall ht
          generalize hX : sumF l m i F k = sm at *
          generalize hY : (whF l m (i + 1) (upN F i k)).length = rr at *
          generalize hZ : pre6 F i = pp at *
          clear hX hY hZ hnil hN hE3
          go_wp2_with (first
            | (at_builtin; refine wpList_copy rfl (.tmp 54) (.tmp 55) rfl j0 hJi.out hJz.out hJs.out hJb.out wr.heap.size wr.heap.size rfl hW3 Ac i capc pp hpl rfl hnilH.out hN3 (by omega) hsz3 ?_; intro g4 cap4 w4 hW4 hG4
               have hB4 := hB3.grown hG4 hB3.size (by simp; omega)
               have hsz4 := Nat.le_trans hsz3 hG4.size
               have hW5 := hW4.alloc (.cells #[.int .i64 (k : Int)] 3)
               have hB5 := hB4.alloc hB4.size (.cells #[.int .i64 (k : Int)] 3)
               have hnews := Lib.hid (newsV (w := w4) (.int .i64 (k : Int)) 3 rfl)
               have hbase : wr.heap.size ≤ (w4.alloc (.cells #[.int .i64 (k : Int)] 3)).heap.size := (by simp; omega)
               have hlt5 : Hid (∀ j, (Value.slice (some ⟨g4, 0, none⟩) i cap4).ownBlock = some j → w.heap.size ≤ j) := fun j hj => Nat.le_trans hlow (hW4.lt j hj).1
               clear hG4 hW4 hB4)
            | (at_builtin; refine wpList_append_lies _ rfl (.tmp 56) (.tmp 58) 23 rfl wr.heap.size 3 j0 (.int .i64 0) 1 8 Try.underlying23 hJi.out hJz.out hJs.out hJb.out rfl (by decide) (.slice (some ⟨g4, 0, none⟩) i cap4) i (intVals pp) rfl hW5 ⟨w4.heap.size, 0, none⟩ 1 1 [.int .i64 (k : Int)] rfl rfl hnews.out (by simp [Value.oneCell']) (by omega) (by unfold maxLen; omega) (by omega) hbase _ rfl ?_; intro g7 cap7 w7 hown7 hgrow7 hat7 hltg7))
          have hpush : w7.ownsRow wr.heap.size 3 1 (.slice (some ⟨g7, 0, none⟩) (pp.length + 1) cap7) (pp.length + 1) (intVals pp ++ [.int .i64 (k : Int)]) := by rw [hpl]; exact hown7
          obtain ⟨A9, cap9, hv9, _, _, hN9⟩ := (OwnInts.push hpush).nums
          injection hv9 with e1 e2 e3
          subst e1 e3
          rw [hsnoc.out] at hN9
          have hB7 := hB5.grown hgrow7 hB5.size hlt5.out
          refine (hihk.out _ _ w7 ((hE.below hB7).more hB7.size) hN9).mono ?_
          rintro e w8 ⟨rfl, hB8'⟩
          have hB8 := hB7.trans (hB8'.mono hB7.size)
          clear hB8' hB7 hN9 hpush hown7 hgrow7
          go_wp2_with fail
          go_roundw
          case rel => exact ⟨k + 1, by omega, by go_num, by rw [hsn.out]; rfl, hB8⟩
          case measure => simp [intOf]; omega

theorem cuts_any (A : Option Addr) (cap : Nat) (l : List Ev) (c : Nat) (h0 : checkCode (c : Int) l = 0) : ∀ (m i : Nat) (F : Nat → Nat) (Ac : Option Addr) (capc : Nat) (w : World), i + m = c → (∀ x, x < i → F x ≤ tot l x) → Evs w w.heap.size A l → Nums w w.heap.size Ac (pre6 F i) → (i = 0 → Ac = none ∧ capc = 0) →
    Calls Try.prog 19 #[.int .i64 (c : Int), .slice A l.length cap, .slice Ac i capc] w fun e w' => e = .returned (.int .i64 ((whF l m i F).length : Int)) ∧ Below w.heap.size w w' := by
  intro m
  induction m with
  | zero =>
    intro i F Ac capc w him hle hE hN _
    have : i = c := by omega
    subst this
    exact cuts_base A cap l i h0 F Ac capc w hle hE hN
  | succ m ih =>
    intro i F Ac capc w him hle hE hN hnil
    refine cuts_step A cap l c h0 m i him F Ac capc w hE hN hnil fun k Ac capc w hk hE hN => ?_
    refine ih (i + 1) (upN F i k) Ac capc w (by omega) (fun x hx => ?_) hE hN (fun h => by omega)
    by_cases e : x = i
    · subst e; rw [upN_same]; exact hk
    · rw [upN_other _ _ e]; exact hle x (by omega)
/-- All whole cuts. -/
theorem cuts_top (A : Option Addr) (cap : Nat) (l : List Ev) (c : Nat) (h0 : checkCode (c : Int) l = 0) (w : World) (hE : Evs w w.heap.size A l) :
    Calls Try.prog 19 #[.int .i64 (c : Int), .slice A l.length cap, .slice none 0 0] w fun e w' => e = .returned (.int .i64 ((cutsL l c).length : Int)) ∧ Below w.heap.size w w' :=
  cuts_any A cap l c h0 c 0 (fun _ => 0) none 0 w (by omega) (fun x hx => by omega) hE (fun h => by simp [pre6] at h) (fun _ => ⟨rfl, rfl⟩)

#print axioms cuts_top
end Go.Proofs.Ytpofmhlmaejmoaa
