/-
  The contract of beaconryref.In.
-/
import Derived.Test.YtpofmhlmaejmoaaInfo
import Derived.Test.YtpofmhlmaejmoaaRowW
import Derived.Test.YtpofmhlmaejmoaaCut
import Derived.Test.YtpofmhlmaejmoaaVPure
namespace Go.Proofs.Ytpofmhlmaejmoaa
open Go.RowKit Go.Maps

def boolRow (f : Nat → Bool) (c : Nat) : List Value := (List.range c).map fun i => Value.bool (f i)
def updB (f : Nat → Bool) (j : Nat) (v : Bool) : Nat → Bool := fun x => if x = j then v else f x
theorem boolRow_len (f : Nat → Bool) (c : Nat) : (boolRow f c).length = c := by simp [boolRow]
theorem boolRow_congr {f f' : Nat → Bool} {c : Nat} (h : ∀ j, j < c → f j = f' j) : boolRow f c = boolRow f' c := by
  unfold boolRow
  exact List.map_congr_left fun j hj => by rw [h j (List.mem_range.1 hj)]
theorem boolRow_set (f : Nat → Bool) (c j : Nat) (v : Bool) : (boolRow f c).set j (.bool v) = boolRow (updB f j v) c := by
  apply List.ext_getElem
  · simp [boolRow]
  · intro b h1 h2
    rw [List.getElem_set]
    by_cases e : j = b
    · subst e; simp [boolRow, updB]
    · rw [if_neg e]
      have : ¬ b = j := fun h => e h.symm
      simp [boolRow, updB, this]
theorem boolRow_zero (c : Nat) : List.replicate c (Value.bool false) = boolRow (fun _ => false) c := by
  apply List.ext_getElem
  · simp [boolRow]
  · intro b h1 h2; simp [boolRow]
/-- A row of bools that a function gives. -/
abbrev BoolRow (w : World) (g c : Nat) (f : Nat → Bool) : Prop := Row w g 4 (boolRow f c)
section
variable {w w' : World} {g c : Nat} {f : Nat → Bool}
theorem BoolRow.at_ (h : BoolRow w g c f) {j : Nat} (hj : j < c) : w.cell? ⟨g, j, none⟩ = some (.bool (f j)) := by
  rw [Row.cell h (by rw [boolRow_len]; exact hj)]
  simp [boolRow]
theorem BoolRow.put (h : BoolRow w g c f) (j : Nat) (v : Bool) : BoolRow (w.setCell ⟨g, j, none⟩ (.bool v)) g c (updB f j v) := by
  have := Row.set h j (.bool v)
  rw [boolRow_set] at this
  exact this
theorem BoolRow.congr {f' : Nat → Bool} (h : BoolRow w g c f) (e : ∀ j, j < c → f j = f' j) : BoolRow w g c f' := by
  unfold BoolRow at *
  rw [← boolRow_congr e]; exact h
theorem BoolRow.heap (h : BoolRow w g c f) (e : w'.heap = w.heap) : BoolRow w' g c f := Row.block h (by rw [e])
end

/-- What has been found up to event j of process p. -/
def inP (l : List Ev) (F : Nat → Int) (p j : Nat) : Nat → Bool := fun i => decide ((ev l i).p < (p : Int) ∨ ((ev l i).p = (p : Int) ∧ i < j)) && inC l F i
theorem inP_step {l : List Ev} {F : Nat → Int} {p j : Nat} (hp : (ev l j).p = (p : Int)) (x : Nat) : updB (inP l F p j) j (decide ((own l (p : Int) j : Int) < F p)) x = inP l F p (j + 1) x := by
  unfold updB
  by_cases e : x = j
  · subst e
    rw [if_pos rfl]
    unfold inP inC
    rw [hp]
    simp
  · rw [if_neg e]
    unfold inP
    congr 1
    rw [decide_eq_decide]
    constructor
    · rintro (h | h)
      · exact .inl h
      · exact .inr ⟨h.1, by omega⟩
    · rintro (h | h)
      · exact .inl h
      · exact .inr ⟨h.1, by omega⟩
theorem inP_skip {l : List Ev} {F : Nat → Int} {p j : Nat} (hp : (ev l j).p ≠ (p : Int)) (x : Nat) : inP l F p j x = inP l F p (j + 1) x := by
  unfold inP
  congr 1
  rw [decide_eq_decide]
  constructor
  · rintro (h | h)
    · exact .inl h
    · exact .inr ⟨h.1, by omega⟩
  · rintro (h | h)
    · exact .inl h
    · refine .inr ⟨h.1, ?_⟩
      rcases Nat.lt_trichotomy x j with h1 | h1 | h1
      · exact h1
      · exact absurd (h1 ▸ h.1) hp
      · omega
theorem inP_next {l : List Ev} {F : Nat → Int} {p : Nat} {x : Nat} (hx : x < l.length) : inP l F p l.length x = inP l F (p + 1) 0 x := by
  unfold inP
  congr 1
  rw [decide_eq_decide]
  omega
theorem inP_all {c : Nat} {l : List Ev} (g : Good (c : Int) l) {F : Nat → Int} {x : Nat} (hx : x < l.length) : inP l F c 0 x = inC l F x := by
  unfold inP
  have := g.proc x hx
  rw [decide_eq_true (by omega), Bool.true_and]

def InRes (l : List Ev) (c : Nat) (F : Nat → Int) (w : World) (e : Ending) (w' : World) : Prop :=
  (Ranged l c F ∧ ∃ g, e = .returned (.tuple #[.slice (some ⟨g, 0, none⟩) l.length l.length, .bool true]) ∧ BoolRow w' g l.length (inC l F) ∧ Below w.heap.size w w') ∨
  (¬ Ranged l c F ∧ e = .returned (.tuple #[.slice none 0 0, .bool false]) ∧ Below w.heap.size w w')

def InRel (l : List Ev) (F : Nat → Int) (w : World) (p j : Nat) (wr : World) : Prop := BoolRow wr w.heap.size l.length (inP l F p j) ∧ Below w.heap.size w wr

set_option maxHeartbeats 4000000 in
set_option maxRecDepth 100000 in
theorem in_any (A Ac : Option Addr) (cap capc : Nat) (l : List Ev) (c : Nat) (cv : List Int) (w : World) (hE : Evs w w.heap.size A l) (hN : Nums w w.heap.size Ac cv) (hlen : cv.length = c) (h0 : checkCode (c : Int) l = 0) :
    Calls Try.prog 13 #[.int .i64 (c : Int), .slice A l.length cap, .slice Ac cv.length capc] w (InRes l c (vat cv) w) := by
  obtain ⟨⟨hn1, hn2, h30⟩, hg⟩ := check_good.1 h0
  clear h0
  obtain ⟨j0, hi0, hz0, hz1, hz2⟩ := info_parts info4
  have b2 : j0.bytes * l.length ≤ 281474976710656 := by rw [hz2]; omega
  have hJi := Lib.hid hi0; have hJz := Lib.hid hz0; have hJs := Lib.hid hz1
  clear hi0 hz0 hz1 hz2
  have hgH := Lib.hid hg
  clear hg
  go_enter Try.func13, Try.ntmps13
  go_wp2_with (first
    | (at_make; refine wpList_make_row _ rfl _ _ 28 rfl 4 j0 (.bool false) Try.underlying28 hJi.out hJz.out hJs.out rfl .i64 .i64 _ _ l.length rfl rfl rfl rfl b2 (by unfold maxLen; omega) ?_; intro w1 hR1 hG1))
  have hB1 : Below w.heap.size w w1 := (Below.refl _ _).grown hG1 (Nat.le_refl _) (by simp)
  rw [boolRow_zero] at hR1
  have hR2 : BoolRow w1 w.heap.size l.length (inP l (vat cv) 0 0) := BoolRow.congr hR1 fun j hj => by
    unfold inP
    have := hgH.out.proc j hj
    rw [decide_eq_false (by omega)]
    rfl
  clear hR1 hG1
  go_loopw [9] (fun t wr => ∃ p : Nat, p ≤ c ∧ t = .int .i64 p ∧ (∀ x, x < p → 0 ≤ vat cv x ∧ vat cv x ≤ (own l (x : Int) l.length : Int)) ∧ InRel l (vat cv) w p 0 wr) (fun t _ => c - (intOf t).toNat)
  case atStart => exact ⟨0, Nat.zero_le _, rfl, fun x hx => by omega, hR2, hB1⟩
  case round =>
    clear hR2 hB1
    obtain ⟨p, hp, rfl, hok, hR, hB⟩ := hrel
    have hokH := Lib.hid hok
    clear hok
    rename World => w2
    by_cases hlt : p < c
    · have hpI : (p : Int) < (c : Int) := by omega
      have hpI2 : (p : Int) < (cv.length : Int) := by omega
      obtain ⟨bc, offc, rfl, hbc, hcs⟩ := hN (by omega)
      have x1 := hcs p (by omega)
      rw [← vat_get cv (by omega)] at x1
      clear hcs
      go_wp2_with fail
      go_loopw [10, 23] (fun a t wr => ∃ j : Nat, j ≤ l.length ∧ t = .int .i64 j ∧ a = .int .i64 (own l (p : Int) j : Nat) ∧ InRel l (vat cv) w p j wr) (fun _ t _ => l.length - (intOf t).toNat)
      case atStart => exact ⟨0, Nat.zero_le _, rfl, rfl, hR, hB⟩
      case round =>
        clear hR hB
        obtain ⟨j, hj, rfl, rfl, hR, hB⟩ := hrel
        have ho := own_le l (p : Int) j
        have xc := (hB.cell (p := ⟨bc, offc + p, none⟩) hbc).trans x1
        by_cases hjl : j < l.length
        · obtain ⟨b, off, rfl, hb, hc⟩ := hE.below hB (by omega)
          obtain ⟨c0, c1, c2⟩ := hc j hjl
          clear hc
          have hev := Lib.hid (ev_get l hjl)
          generalize l[j] = e0 at *
          obtain ⟨pp, kd, m⟩ := e0
          simp only at c0 c1 c2
          have hevp : Hid ((ev l j).p = pp) := by unfold Hid; rw [hev.out]
          have hRl := Row.lt hR
          have hRa := Row.alloc hR (.cells #[.int .i64 pp, .int .i64 kd, .int .i64 m] 36)
          have hBa := hB.alloc hB.size (.cells #[.int .i64 pp, .int .i64 kd, .int .i64 m] 36)
          have xca := (World.cell?_alloc_lt wr (.cells #[.int .i64 pp, .int .i64 kd, .int .i64 m] 36) ⟨bc, offc + p, none⟩ (by show bc < _; omega)).trans xc
          have yc := BoolRow.at_ hRa hjl
          have yf := Row.frozen hRa j
          by_cases e : pp = (p : Int)
          · have v1 : (pp == (p : Int)) = true := by simp [e]
            have hown : Hid (own l (p : Int) (j + 1) = own l (p : Int) j + 1) := by
              unfold Hid
              rw [own_succ, if_pos (by rw [hevp.out]; exact e)]
            have hRn := BoolRow.congr (BoolRow.put hRa j (decide ((own l (p : Int) j : Int) < vat cv p))) fun x _ => inP_step (by rw [hevp.out]; exact e) x
            have hBn := hBa.setCell (p := ⟨w.heap.size, j, none⟩) (Nat.le_refl _) (.bool (decide ((own l (p : Int) j : Int) < vat cv p)))
            clear hR hB hRa hBa e hRl
            generalize vat cv p = u at *
            obtain ⟨a, haH⟩ : ∃ a, Hid (own l (p : Int) j = a) := ⟨_, rfl⟩
            rw [haH.out] at hRn hBn ho ⊢
            go_wp2_with fail
            go_roundw
            case rel => exact ⟨j + 1, by omega, by go_num, by rw [hown.out, haH.out]; rfl, hRn, hBn⟩
            case measure => simp [intOf]; omega
          · have v1 : (pp == (p : Int)) = false := by simp [e]
            have hown : Hid (own l (p : Int) (j + 1) = own l (p : Int) j) := by
              unfold Hid
              rw [own_succ, if_neg (by rw [hevp.out]; exact e)]
              rfl
            have hRn := BoolRow.congr hRa fun x _ => inP_skip (by rw [hevp.out]; exact e) x
            clear hR hB hRa e hRl
            go_wp2_with fail
            go_roundw
            case rel => exact ⟨j + 1, by omega, by go_num, by rw [hown.out], hRn, hBa⟩
            case measure => simp [intOf]; omega
        · have hjl2 : j = l.length := by omega
          subst hjl2
          have hRn := BoolRow.congr hR fun x hx => inP_next hx
          by_cases h1 : vat cv p < 0
          · have hno : Hid (¬ Ranged l c (vat cv)) := fun h => by have := (h p hlt).1; omega
            have hd : decide (vat cv p < 0) = true := by simp; omega
            generalize vat cv p = u at *
            generalize own l (p : Int) l.length = a at *
            go_wp2_with fail
            go_ret2
            exact .inr ⟨hno.out, rfl, hB⟩
          · by_cases h2 : (own l (p : Int) l.length : Int) < vat cv p
            · have hno : Hid (¬ Ranged l c (vat cv)) := fun h => by have := (h p hlt).2; omega
              generalize vat cv p = u at *
              generalize own l (p : Int) l.length = a at *
              go_wp2_with fail
              go_ret2
              exact .inr ⟨hno.out, rfl, hB⟩
            · have hokn : Hid (∀ x, x < p + 1 → 0 ≤ vat cv x ∧ vat cv x ≤ (own l (x : Int) l.length : Int)) := fun x hx => by
                by_cases e : x = p
                · rw [e]; omega
                · exact hokH.out x (by omega)
              generalize vat cv p = u at *
              generalize own l (p : Int) l.length = a at *
              go_wp2_with fail
              go_roundw
              case rel => exact ⟨p + 1, by omega, by go_num, hokn.out, hRn, hB⟩
              case measure => simp [intOf]; omega
    · have hpc : p = c := by omega
      subst hpc
      have hRn := BoolRow.congr hR fun x hx => inP_all hgH.out hx
      go_wp2_with fail
      go_ret2
      exact .inl ⟨hokH.out, _, rfl, hRn, hB⟩

#print axioms in_any
end Go.Proofs.Ytpofmhlmaejmoaa
