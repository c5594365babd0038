/-
  Messages in transit: plain; the contract of cut.transit.
-/
import Derived.Test.YtpofmhlmaejmoaaInn
import Derived.Test.YtpofmhlmaejmoaaIntW
import Derived.BigQuiet
import Derived.Deep.QuietTactic
namespace Go.Proofs.Ytpofmhlmaejmoaa
open Go.RowKit Go.Maps

/-- Some i below k has it. -/
def anyTo (P : Nat → Bool) : Nat → Bool
  | 0 => false
  | k + 1 => anyTo P k || P k
theorem anyTo_iff (P : Nat → Bool) (k : Nat) : anyTo P k = true ↔ ∃ i, i < k ∧ P i = true := by
  induction k with
  | zero => simp [anyTo]
  | succ k ih =>
    rw [anyTo, Bool.or_eq_true, ih]
    constructor
    · rintro (⟨i, h1, h2⟩ | h)
      · exact ⟨i, by omega, h2⟩
      · exact ⟨k, by omega, h⟩
    · rintro ⟨i, h1, h2⟩
      by_cases e : i = k
      · exact .inr (e ▸ h2)
      · exact .inl ⟨i, by omega, h2⟩

/-- Event i of the cut has kind kd and message m. -/
def hasC (l : List Ev) (F : Nat → Int) (kd m : Int) (i : Nat) : Bool := inC l F i && decide ((ev l i).k = kd) && decide ((ev l i).m = m)
theorem hasC_iff (l : List Ev) (F : Nat → Int) (kd m : Int) (i : Nat) : hasC l F kd m i = true ↔ inC l F i = true ∧ (ev l i).k = kd ∧ (ev l i).m = m := by
  unfold hasC
  rw [Bool.and_eq_true, Bool.and_eq_true, decide_eq_true_iff, decide_eq_true_iff, and_assoc]
/-- Sent but not received, up to event k. -/
def wayB (l : List Ev) (F : Nat → Int) (k : Nat) (m : Int) : Bool := anyTo (hasC l F 2 m) k && !anyTo (hasC l F 3 m) k
/-- The way of cut.transit: the last word counts. -/
def trn (l : List Ev) (F : Nat → Int) : Nat → Int → Bool
  | 0, _ => false
  | k + 1, m => if inC l F k = true ∧ (ev l k).k ≠ 1 ∧ (ev l k).m = m then decide ((ev l k).k = 2) else trn l F k m

theorem trn_way {n : Int} {l : List Ev} (g : Good n l) (F : Nat → Int) : ∀ k, k ≤ l.length → ∀ m, trn l F k m = wayB l F k m := by
  intro k
  induction k with
  | zero => intro _ m; rfl
  | succ k ih =>
    intro hk m
    have ih := ih (by omega) m
    rw [trn]
    by_cases hc : inC l F k = true ∧ (ev l k).k ≠ 1 ∧ (ev l k).m = m
    · rw [if_pos hc]
      obtain ⟨h1, h2, h3⟩ := hc
      rcases g.kind k (by omega) with h4 | h4 | h4
      · exact absurd h4 h2
      · rw [decide_eq_true h4]
        unfold wayB
        have e1 : anyTo (hasC l F 2 m) (k + 1) = true := (anyTo_iff _ _).2 ⟨k, by omega, (hasC_iff _ _ _ _ _).2 ⟨h1, h4, h3⟩⟩
        have e2 : anyTo (hasC l F 3 m) (k + 1) = false := by
          rw [← Bool.not_eq_true, anyTo_iff]
          rintro ⟨i, h5, h6⟩
          obtain ⟨_, h7, h8⟩ := (hasC_iff _ _ _ _ _).1 h6
          have hik : i ≠ k := fun e => by rw [e, h4] at h7; omega
          obtain ⟨i', h9, h10, h11⟩ := g.sent i (by omega) h7
          exact g.send k (by omega) h4 i' (by omega) ⟨h10, by rw [h11, h8, h3]⟩
        rw [e1, e2]; rfl
      · rw [decide_eq_false (by omega)]
        unfold wayB
        have e2 : anyTo (hasC l F 3 m) (k + 1) = true := (anyTo_iff _ _).2 ⟨k, by omega, (hasC_iff _ _ _ _ _).2 ⟨h1, h4, h3⟩⟩
        rw [e2]; simp
    · rw [if_neg hc, ih]
      unfold wayB
      have no : ∀ kd, kd ≠ 1 → hasC l F kd m k = false := fun kd hkd => by
        rw [← Bool.not_eq_true, hasC_iff]
        rintro ⟨h1, h2, h3⟩
        exact hc ⟨h1, by omega, h3⟩
      rw [anyTo, anyTo, no 2 (by omega), no 3 (by omega), Bool.or_false, Bool.or_false]

theorem trn_step {l : List Ev} {F : Nat → Int} {k : Nat} {m : Nat} (h1 : inC l F k = true) (h2 : (ev l k).k ≠ 1) (h3 : (ev l k).m = (m : Int)) (x : Nat) : updB (fun x : Nat => trn l F k (x : Int)) m ((ev l k).k == 2) x = trn l F (k + 1) (x : Int) := by
  rw [trn]
  unfold updB
  by_cases e : x = m
  · subst e
    rw [if_pos rfl, if_pos ⟨h1, h2, h3⟩]
    by_cases e2 : (ev l k).k = 2 <;> simp [e2]
  · rw [if_neg e, if_neg (fun h => e (by have := h.2.2; omega))]
theorem trn_skip {l : List Ev} {F : Nat → Int} {k : Nat} (h : ¬ (inC l F k = true ∧ (ev l k).k ≠ 1)) (x : Int) : trn l F k x = trn l F (k + 1) x := by
  rw [trn, if_neg (fun h' => h ⟨h'.1, h'.2.1⟩)]

theorem own_step {l : List Ev} {k q : Nat} (hq : (ev l k).p = (q : Int)) (x : Nat) : updI (fun x : Nat => (own l (x : Int) k : Int)) q ((own l (q : Int) k : Int) + 1) x = (own l (x : Int) (k + 1) : Int) := by
  rw [own_succ]
  unfold updI
  by_cases e : x = q
  · subst e; rw [if_pos rfl, if_pos hq]; simp
  · rw [if_neg e, if_neg (by rw [hq]; omega)]; simp

def TrnRes (l : List Ev) (F : Nat → Int) (w : World) (e : Ending) (w' : World) : Prop :=
  ∃ g, e = .returned (.slice (some ⟨g, 0, none⟩) 21 21) ∧ BoolRow w' g 21 (fun m => trn l F l.length (m : Int)) ∧ Below w.heap.size w w'
def TrnRel (l : List Ev) (c : Nat) (F : Nat → Int) (w : World) (g1 g2 : Nat) (k : Nat) (wr : World) : Prop :=
  BoolRow wr g1 21 (fun m => trn l F k (m : Int)) ∧ IntRow wr g2 c (fun q => (own l (q : Int) k : Int)) ∧ Below w.heap.size w wr

theorem box3_0 {w : World} {g : Nat} (a b c : Value) (t : TypeId) (h : g = w.heap.size) : (w.alloc (.cells #[a, b, c] t)).cell? ⟨g, 0, none⟩ = some a := by subst h; simp [World.cell?_alloc_new]
theorem box3_1 {w : World} {g : Nat} (a b c : Value) (t : TypeId) (h : g = w.heap.size) : (w.alloc (.cells #[a, b, c] t)).cell? ⟨g, 1, none⟩ = some b := by subst h; simp [World.cell?_alloc_new]
theorem box3_2 {w : World} {g : Nat} (a b c : Value) (t : TypeId) (h : g = w.heap.size) : (w.alloc (.cells #[a, b, c] t)).cell? ⟨g, 2, none⟩ = some c := by subst h; simp [World.cell?_alloc_new]
theorem cell_off (w : World) {a b : Addr} (h : b.block ≠ a.block) (u : Value) : (w.setCell a u).cell? b = w.cell? b := World.cell?_of_block (Below.heap_setCell w a u b.block h)

set_option maxHeartbeats 4000000 in
set_option maxRecDepth 100000 in
theorem transit_any (A Ac : Option Addr) (cap capc : Nat) (l : List Ev) (c : Nat) (cv : List Int) (w : World) (hE : Evs w w.heap.size A l) (hF : Fits l) (hN : Nums w w.heap.size Ac cv) (hlen : cv.length = c) (h0 : checkCode (c : Int) l = 0) :
    Calls Try.prog 28 #[.slice A l.length cap, .slice Ac cv.length capc] w (TrnRes l (vat cv) w) := by
  obtain ⟨⟨hn1, hn2, h30⟩, hg⟩ := check_good.1 h0
  clear h0
  obtain ⟨i0, hi0, hz0, hz1, hz2⟩ := info_parts info4
  have b1 : i0.bytes * 21 ≤ 281474976710656 := by rw [hz2]; omega
  have hHi := Lib.hid hi0; have hHz := Lib.hid hz0; have hHs := Lib.hid hz1
  clear hi0 hz0 hz1 hz2
  obtain ⟨j0, hi0, hz0, hz1, hz2⟩ := info_parts infoInt
  have b2 : j0.bytes * c ≤ 281474976710656 := by rw [hz2]; omega
  have hJi := Lib.hid hi0; have hJz := Lib.hid hz0; have hJs := Lib.hid hz1
  clear hi0 hz0 hz1 hz2
  have hgH := Lib.hid hg
  clear hg
  rw [hlen]
  have hNH := Lib.hid hN
  have hlenH := Lib.hid hlen
  clear hN hlen
  go_enter Try.func28, Try.ntmps28
  go_wp2_with (first
    | (at_make; refine wpList_make_row _ rfl (.const (.int .i64 21)) _ 28 rfl 4 i0 (.bool false) Try.underlying28 hHi.out hHz.out hHs.out rfl .i64 .i64 _ _ 21 rfl rfl rfl rfl b1 (by unfold maxLen; omega) ?_; intro w1 hR1 hG1)
    | (at_make; refine wpList_make_row _ rfl (.tmp 11) _ 23 rfl 3 j0 (.int .i64 0) Try.underlying23 hJi.out hJz.out hJs.out rfl .i64 .i64 _ _ c rfl rfl rfl rfl b2 (by unfold maxLen; omega) ?_; intro w2 hR2 hG2))
  have hB1 : Below w.heap.size w w1 := (Below.refl _ _).grown hG1 (Nat.le_refl _) (by simp)
  have hB2 : Below w.heap.size w w2 := hB1.grown hG2 hB1.size (by simp)
  have hR1' := Row.grown hR1 hG2 (by simp)
  have hg12 := Row.lt hR1
  rw [boolRow_zero] at hR1'
  rw [intRow_zero] at hR2
  have hT0 : BoolRow w2 w.heap.size 21 (fun m => trn l (vat cv) 0 (m : Int)) := hR1'
  have hO0 : IntRow w2 w1.heap.size c (fun q => (own l (q : Int) 0 : Int)) := hR2
  clear hR1 hR2 hR1' hG1 hG2 hB1
  generalize w1.heap.size = g2 at *
  go_loopw [15] (fun t wr => ∃ k : Nat, k ≤ l.length ∧ t = .int .i64 k ∧ TrnRel l c (vat cv) w w.heap.size g2 k wr) (fun t _ => l.length - (intOf t).toNat)
  case atStart => exact ⟨0, Nat.zero_le _, rfl, hT0, hO0, hB2⟩
  case round =>
    clear hT0 hO0 hB2
    obtain ⟨k, hk, rfl, hT, hO, hB⟩ := hrel
    by_cases hlt : k < l.length
    · obtain ⟨b, off, rfl, hb, hc⟩ := hE.below hB (by omega)
      obtain ⟨c0, c1, c2⟩ := hc k hlt
      clear hc
      have hpr := hgH.out.proc k hlt
      have hkn := hgH.out.kind k hlt
      have hms := hgH.out.msg k hlt
      have hev := Lib.hid (ev_get l hlt)
      have htst : Hid (∀ m : Nat, inC l (vat cv) k = true → (ev l k).k ≠ 1 → (ev l k).m = (m : Int) → ∀ x : Nat, updB (fun x : Nat => trn l (vat cv) k (x : Int)) m ((ev l k).k == 2) x = trn l (vat cv) (k + 1) (x : Int)) := fun m h1 h2 h3 x => trn_step h1 h2 h3 x
      have htsk : Hid (¬ (inC l (vat cv) k = true ∧ (ev l k).k ≠ 1) → ∀ x : Int, trn l (vat cv) k x = trn l (vat cv) (k + 1) x) := fun h x => trn_skip h x
      have hfit := hF l[k] (List.getElem_mem hlt)
      rw [hev.out] at hpr hkn hms
      generalize l[k] = e0 at *
      obtain ⟨p, kd, m⟩ := e0
      simp only at c0 c1 c2 hpr hkn hms hfit
      obtain ⟨q, rfl⟩ := Int.eq_ofNat_of_zero_le hpr.1
      have hqc : q < c := by omega
      have hqI : (q : Int) < (c : Int) := by omega
      clear hpr
      have hevp : Hid ((ev l k).p = (q : Int)) := by unfold Hid; rw [hev.out]
      have hevk : Hid ((ev l k).k = kd) := by unfold Hid; rw [hev.out]
      have hevm : Hid ((ev l k).m = m) := by unfold Hid; rw [hev.out]
      have hinc : Hid (inC l (vat cv) k = true ↔ (own l (q : Int) k : Int) < vat cv q) := inC_at hevp.out
      obtain ⟨bc, offc, rfl, hbc, hcs⟩ := hNH.out (by have := hlenH.out; omega)
      have y1 := (hB.cell (p := ⟨bc, offc + q, none⟩) hbc).trans (hcs q (by have := hlenH.out; omega))
      rw [← vat_get cv (by have := hlenH.out; omega)] at y1
      clear hcs
      have ho := own_le l (q : Int) k
      have hgr := Row.lt hT
      have hgr2 := Row.lt hO
      have hOa := Row.alloc hO (.cells #[.int .i64 (q : Int), .int .i64 kd, .int .i64 m] 36)
      have z0 := box3_0 (w := wr) (.int .i64 (q : Int)) (.int .i64 kd) (.int .i64 m) 36 rfl
      have o1 := IntRow.at_ hOa hqc
      have of := Row.frozen hOa q
      have hO1 := IntRow.congr (IntRow.put hO q ((own l (q : Int) k : Int) + 1)) fun x _ => own_step hevp.out x
      have hT1 := Row.far hT (p := ⟨g2, q, none⟩) (by show w.heap.size ≠ g2; omega) (.int .i64 ((own l (q : Int) k : Int) + 1))
      have hB1 := hB.setCell (p := ⟨g2, q, none⟩) (by show _ ≤ g2; omega) (.int .i64 ((own l (q : Int) k : Int) + 1))
      have y2 := (cell_off _ (a := ⟨g2, q, none⟩) (b := ⟨bc, offc + q, none⟩) (by show bc ≠ g2; omega) (.int .i64 ((own l (q : Int) k : Int) + 1))).trans y1
      have hsz : (wr.setCell ⟨g2, q, none⟩ (.int .i64 ((own l (q : Int) k : Int) + 1))).heap.size = wr.heap.size := by simp
      have hO2 := Row.alloc hO1 (.cells #[.int .i64 (q : Int), .int .i64 kd, .int .i64 m] 36)
      have hT2 := Row.alloc hT1 (.cells #[.int .i64 (q : Int), .int .i64 kd, .int .i64 m] 36)
      have hBb := hB1.alloc (by rw [hsz]; exact hB.size) (.cells #[.int .i64 (q : Int), .int .i64 kd, .int .i64 m] 36)
      have yb := (World.cell?_alloc_lt _ (.cells #[.int .i64 (q : Int), .int .i64 kd, .int .i64 m] 36) ⟨bc, offc + q, none⟩ (by show bc < _; rw [hsz]; omega)).trans y2
      have x0 := box3_0 (g := wr.heap.size) (w := (wr.setCell ⟨g2, q, none⟩ (.int .i64 ((own l (q : Int) k : Int) + 1)))) (.int .i64 (q : Int)) (.int .i64 kd) (.int .i64 m) 36 hsz.symm
      have x1 := box3_1 (g := wr.heap.size) (w := (wr.setCell ⟨g2, q, none⟩ (.int .i64 ((own l (q : Int) k : Int) + 1)))) (.int .i64 (q : Int)) (.int .i64 kd) (.int .i64 m) 36 hsz.symm
      have x2 := box3_2 (g := wr.heap.size) (w := (wr.setCell ⟨g2, q, none⟩ (.int .i64 ((own l (q : Int) k : Int) + 1)))) (.int .i64 (q : Int)) (.int .i64 kd) (.int .i64 m) 36 hsz.symm
      have o2 := IntRow.at_ hO2 hqc
      rw [show (own l (q : Int) (k + 1) : Int) = (own l (q : Int) k : Int) + 1 by rw [own_succ, if_pos hevp.out]; simp] at o2
      have hgne : ¬ wr.heap.size = g2 := by omega
      have hgne2 : ¬ g2 = wr.heap.size := by omega
      clear hT hO hB hOa hO1 hT1 hB1 y1 y2 hev hsz
      generalize own l (q : Int) k = a at *
      generalize vat cv q = u at *
      go_wp2_with fail
      generalize (wr.setCell ⟨g2, q, none⟩ (.int .i64 ((a : Int) + 1))).alloc (.cells #[.int .i64 (q : Int), .int .i64 kd, .int .i64 m] 36) = w5 at *
      clear o1 of z0 c0 c1 c2
      by_cases hin : (a : Int) < u
      · have hic := Lib.hid (hinc.out.2 hin)
        have hd1 : decide (u < (a : Int) + 1) = false := by simp; omega
        have hd2 : ¬ (u < (a : Int) + 1) := by omega
        by_cases k1 : kd = 1
        · have v1 : (kd == 1) = true := by simp [k1]
          have hTn := BoolRow.congr hT2 fun x _ => htsk.out (fun h => h.2 (by rw [hevk.out]; exact k1)) x
          clear hinc htst htsk hT2 hin k1 hms hkn
          go_quiet (fail)
          go_wp2_with fail
          go_roundw
          case rel => exact ⟨k + 1, by omega, by go_num, hTn.heap rfl, IntRow.heap hO2 rfl, below_drewN hBb _⟩
          case measure => simp [intOf]; omega
        · have v1 : (kd == 1) = false := by simp [k1]
          obtain ⟨hm0, hm20⟩ := hms k1
          obtain ⟨mm, rfl⟩ := Int.eq_ofNat_of_zero_le hm0
          have hm21 : mm < 21 := by omega
          have hmI : (mm : Int) < 21 := by omega
          have t1 := BoolRow.at_ hT2 hm21
          have tf := Row.frozen hT2 mm
          have hTn := BoolRow.congr (f' := fun x : Nat => trn l (vat cv) (k + 1) (x : Int)) (BoolRow.put hT2 mm (kd == 2)) fun x _ => by
            have := htst.out mm hic.out (by rw [hevk.out]; exact k1) hevm.out x
            rw [hevk.out] at this
            exact this
          clear hinc htst htsk hT2 hin k1 hms hkn hm0 hm20
          have hBn := hBb.setCell (p := ⟨w.heap.size, mm, none⟩) (Nat.le_refl _) (.bool (kd == 2))
          have hOn := Row.far hO2 (p := ⟨w.heap.size, mm, none⟩) (by show g2 ≠ w.heap.size; omega) (.bool (kd == 2))
          go_quiet (fail)
          go_wp2_with fail
          go_roundw
          case rel => exact ⟨k + 1, by omega, by go_num, hTn.heap rfl, IntRow.heap hOn rfl, (below_drewN hBb _).setCell (p := ⟨w.heap.size, mm, none⟩) (Nat.le_refl _) _⟩
          case measure => simp [intOf]; omega
      · have hd1 : decide (u < (a : Int) + 1) = true := by simp; omega
        have hd2 : u < (a : Int) + 1 := by omega
        have hTn := BoolRow.congr hT2 fun x _ => htsk.out (fun h => hin (hinc.out.1 h.1)) x
        clear hinc htst htsk hT2 hin hms hkn
        go_quiet (fail)
        go_wp2_with fail
        go_roundw
        case rel => exact ⟨k + 1, by omega, by go_num, hTn.heap rfl, IntRow.heap hO2 rfl, below_drewN hBb _⟩
        case measure => simp [intOf]; omega
    · have hkl : k = l.length := by omega
      subst hkl
      go_wp2_with fail
      go_ret
      exact ⟨_, rfl, hT, hB⟩

#print axioms transit_any
end Go.Proofs.Ytpofmhlmaejmoaa
