/-
  The law EchoDone, walked.
-/
import Derived.Test.YtjmkmfeibempjaaEpl
import Derived.Test.YtjmkmfeibempjaaLkd
import Derived.Test.YtjmkmfeibempjaaJnd
namespace Go.Proofs.Ytjmkmfeibempjaa
open Go.RowKit Go.Maps
set_option linter.unusedVariables false

def ownP (l : List Lk) (W k : Nat) : Nat := (ownL (l.take k) W).length
theorem ownP_zero (l : List Lk) (W : Nat) : ownP l W 0 = 0 := by simp [ownP, ownL]
theorem ownP_succ {l : List Lk} {k : Nat} (W : Nat) (h : k < l.length) : ownP l W (k + 1) = ownP l W k + if W.testBit (lat l k).a.toNat = true then 1 else 0 := by
  unfold ownP ownL
  rw [List.take_succ_eq_append_getElem h, List.filter_append, List.length_append, lat_get l h]
  congr 1
  by_cases hb : W.testBit l[k].a.toNat = true
  · rw [if_pos hb]; simp [hb]
  · rw [if_neg hb]; simp [hb]
theorem ownP_all (l : List Lk) (W : Nat) : ownP l W l.length = (ownL l W).length := by unfold ownP; rw [List.take_length]
theorem ownP_le (l : List Lk) (W k : Nat) : ownP l W k ≤ k := by
  unfold ownP ownL
  have := List.length_filter_le (fun x : Lk => W.testBit x.a.toNat) (l.take k)
  simp at this ⊢
  omega

/-- What holds of the number of messages, and of who has heard. -/
structure DoneOk (n s : Nat) (l : List Lk) (par : Nat → Int) (W sent : Nat) (dd : Bool) : Prop where
  le : sent ≤ 2 * (ownL l W).length
  pos : dd = false → 0 < (ownL l W).length
  eq : dd = true → sent = 2 * (ownL l W).length
  who : dd = true → ∀ i, i < n → i ≠ s → W.testBit i = decide (0 ≤ par i)
theorem done_ok {n s : Nat} {l : List Lk} {S : ES} {got : List (Nat × Nat)} {dep : Nat → Nat} {hs : List Nat} (h : EInv n (nbs l n) s S got dep hs) (hL : LkOk n l) (hO : Once l) : DoneOk n s l S.par (jset l s n) S.sent (decide (S.took s = (nbs l n s).length)) := by
  refine ⟨h.own_ge hL, fun e => h.own_pos hL (of_decide_eq_false e), fun e => h.own_eq hL hO (of_decide_eq_true e), fun e i hi hne => ?_⟩
  rw [Bool.eq_iff_iff, h.joined_iff hL (of_decide_eq_true e) i, decide_eq_true_eq]
  constructor
  · intro h1
    obtain ⟨p, h2, _⟩ := h.par1 i hne (h1.resolve_left hne)
    omega
  · intro h1
    right
    rcases Nat.eq_zero_or_pos (S.took i) with h2 | h2
    · have := h.par0 i (.inr h2); omega
    · exact h2

def DnRel (w1 wr : World) : Prop := Below w1.heap.size w1 wr

set_option maxRecDepth 20000 in
set_option maxHeartbeats 3200000 in
theorem echoDone_law (w : World) (n : Int) (_hn : I64 n) (A : Option Addr) (cap : Nat) (l : List Lk) (hE : Lks w w.heap.size A l) (hF : LFits l) (hc : l.length ≤ cap) (hlm : l.length ≤ maxLen) (hl : l.length ≤ 17592186044416)
    (s : Int) (_hs : I64 s) (A2 : Option Addr) (cap2 : Nat) (o : List Int) (hE2 : Nums w w.heap.size A2 o) (hF2 : NumFits o) (hc2 : o.length ≤ cap2) (hom : o.length ≤ maxLen) (ho : o.length ≤ 17592186044416) :
    Calls Try.prog 5 #[.int .i64 n, .slice A l.length cap, .int .i64 s, .slice A2 o.length cap2] w fun e w' => e = .returned (.bool true) ∧ Below w.heap.size w w' := by
  have hEH := Lib.hid hE
  by_cases hz : ecode n l s o.length = 0
  · obtain ⟨hsm, h60, hLO, hins, hOnce⟩ := ecode_zero hz
    obtain ⟨nn, rfl⟩ : ∃ k : Nat, n = (k : Int) := ⟨n.toNat, by unfold LargeL at hsm; omega⟩
    obtain ⟨ss, rfl⟩ : ∃ k : Nat, s = (k : Int) := ⟨s.toNat, by have := (inP_iff _ _).1 hins; omega⟩
    have hss : ss < nn := by have := (inP_iff _ _).1 hins; omega
    have hn6 : nn ≤ 6 := by unfold LargeL at hsm; omega
    have h15 : l.length ≤ 15 := by unfold LargeL at hsm; omega
    have hLk := hLO.lk
    obtain ⟨got, dep, hh, hI⟩ := esAt_inv (nbs_ok hLk) hss o o.length
    have hD := Lib.hid (done_ok hI hLk hOnce)
    have hslt : Hid ((esAt (nbs l nn) ss o o.length).sent ≤ 30) := by have := hI.sent_le hLk; unfold Hid; omega
    have hcall := Lib.hid (play_ok A cap l A2 cap2 o nn ss w hE hc hE2 hF2 hz)
    have hlk := Lib.hid (fun w hE => linked_any A cap l (nn : Int) (ss : Int) o.length w hE hc hl ho true ⟨fun _ => hz, fun _ => rfl⟩)
    have hjn := Lib.hid (fun w hE => joined_any A cap l nn ss w hE h15 hn6 hss hLk)
    have hW64 : Hid (jset l ss nn < 64) := by
      have h1 := jset_lt l hLk hss nn
      have h2 : 2 ^ nn ≤ 2 ^ 6 := Nat.pow_le_pow_right (by omega) hn6
      unfold Hid; omega
    clear hz hsm hLO hins hOnce hI hE hE2 hF hF2
    go_enter Try.func5, Try.ntmps5
    go_wp2_with fail
    refine hcall.out.mono ?_
    rintro e w7 ⟨gc, T, rfl, hC7, hI7, hB7⟩
    unfold echVal
    generalize (esAt (nbs l nn) ss o o.length).sent = tt at *
    generalize decide ((esAt (nbs l nn) ss o o.length).took ss = (nbs l nn ss).length) = dd at *
    generalize (esAt (nbs l nn) ss o o.length).par = par at *
    generalize jset l ss nn = W at *
    have hrow := Row.made w7 26 [.slice (some ⟨gc, 0, none⟩) o.length o.length, .slice (some ⟨T, 0, none⟩) nn nn, .bool dd, .int .i64 (tt : Int)]
    have hlt8 := hrow.lt
    have hsz7 := hB7.size
    have hB9 := Lib.hid (hB7.alloc hsz7 (.cells #[.slice (some ⟨gc, 0, none⟩) o.length o.length, .slice (some ⟨T, 0, none⟩) nn nn, .bool dd, .int .i64 (tt : Int)] 26))
    have hE9 := Lib.hid ((hEH.out.on hB7).alloc (.cells #[.slice (some ⟨gc, 0, none⟩) o.length o.length, .slice (some ⟨T, 0, none⟩) nn nn, .bool dd, .int .i64 (tt : Int)] 26))
    have hI9 := Lib.hid (Row.alloc hI7 (.cells #[.slice (some ⟨gc, 0, none⟩) o.length o.length, .slice (some ⟨T, 0, none⟩) nn nn, .bool dd, .int .i64 (tt : Int)] 26))
    have hlk9 := Lib.hid (hlk.out _ hE9.out)
    have hrowH := Lib.hid hrow
    clear hcall hlk hC7 hI7 hB7 hrow
    go_wp2_with fail
    refine hlk9.out.mono ?_
    rintro e w10 ⟨rfl, hB10⟩
    have hr10 := hrowH.out.below hB10 hlt8
    have r1 := hr10.cell (i := 1) (by simp)
    simp only [List.getElem_cons_zero, List.getElem_cons_succ] at r1
    have hI10 : IntRow w10 T nn par := Row.below hI9.out hB10 (Row.lt hI9.out)
    have hB11 := Lib.hid (hB9.out.trans (hB10.mono hB9.out.size))
    have hE10 := Lib.hid (hE9.out.on hB10)
    have hnn : ((nn : Int) != (nn : Int)) = false := by simp
    have hr10H := Lib.hid hr10
    have hI10H := Lib.hid hI10
    have hr10lt := hr10.lt
    have hI10lt := Row.lt hI10
    have hj10 := Lib.hid (hjn.out w10 hE10.out)
    clear hlk9 hrowH hB9 hB10 hE9 hI9 hI10 hr10 hjn
    go_wp2_with fail
    refine hj10.out.mono ?_
    rintro e w11 ⟨rfl, hB12⟩
    clear hj10 r1
    have hBS := Lib.hid hB12
    clear hB12
    go_wp2_with fail
    go_loopw [48, 12] (fun t v wr => ∃ k : Nat, k ≤ l.length ∧ t = .int .i64 k ∧ v = .int .i64 (ownP l W k : Nat) ∧ DnRel w10 wr) (fun t _ _ => l.length - (intOf t).toNat)
    case atStart => exact ⟨0, Nat.zero_le _, rfl, by rw [ownP_zero]; rfl, hBS.out⟩
    case round =>
      clear hBS
      obtain ⟨k, hk, rfl, rfl, hB⟩ := hrel
      unfold DnRel at hB
      rename World => wr
      by_cases hlt : k < l.length
      · obtain ⟨b, off, rfl, hb, c3, c4⟩ := (hE10.out.below hB).at_ hlt
        have hkI : (k : Int) < (l.length : Int) := by omega
        have hx := hLk (lat l k) (lat_mem l hlt)
        have hnx := Lib.hid (ownP_succ W hlt)
        have hle := ownP_le l W k
        obtain ⟨x, hxe⟩ : ∃ x : Nat, (lat l k).a = (x : Int) := ⟨(lat l k).a.toNat, by omega⟩
        rw [hxe] at c3 hx hnx
        rw [Int.toNat_natCast] at hnx
        have hx32 : x < 32 := by omega
        generalize (lat l k).b = y at *
        have hB1 := Lib.hid (hB.alloc hB.size (.cells #[.int .i64 (x : Int), .int .i64 y] 38))
        have hR1 := Row.made wr 38 [.int .i64 (x : Int), .int .i64 y]
        have d0 := hR1.cell (i := 0) (by simp)
        simp only [List.getElem_cons_zero] at d0
        have b1 := Lib.hid (fun w => bit_any W x w (by have := hW64.out; omega) hx32)
        clear hB hR1 hxe hx
        generalize ownP l W k = O at *
        generalize hG : ownP l W (k + 1) = G at *
        have hGH := Lib.hid hG
        clear hG
        cases hb1 : W.testBit x with
        | true =>
          have hfin : Hid (G = O + 1) := by unfold Hid; rw [hnx.out, if_pos hb1]
          rw [hb1] at b1
          clear hnx hb1
          go_wp2_with fail
          refine (b1.out _).mono ?_
          rintro e w2 ⟨rfl, rfl⟩
          go_wp2_with fail
          go_roundw
          case rel => exact ⟨k + 1, by omega, by go_num, by rw [hGH.out, hfin.out]; go_num, hB1.out⟩
          case measure => simp [intOf]; omega
        | false =>
          have hfin : Hid (G = O) := by unfold Hid; rw [hnx.out, hb1]; rfl
          rw [hb1] at b1
          clear hnx hb1
          go_wp2_with fail
          refine (b1.out _).mono ?_
          rintro e w2 ⟨rfl, rfl⟩
          go_wp2_with fail
          go_roundw
          case rel => exact ⟨k + 1, by omega, by go_num, by rw [hGH.out, hfin.out], hB1.out⟩
          case measure => simp [intOf]; omega
      · have hkl : k = l.length := by omega
        subst hkl
        have hle := ownP_le l W l.length
        rw [ownP_all] at hle ⊢
        have hr3 := hr10H.out.below hB hr10lt
        have r2 := hr3.cell (i := 2) (by simp)
        have r3 := hr3.cell (i := 3) (by simp)
        simp only [List.getElem_cons_zero, List.getElem_cons_succ] at r2 r3
        have hDle := hD.out.le
        have hDpos := hD.out.pos
        have hDeq := hD.out.eq
        have hDwho := Lib.hid hD.out.who
        generalize (ownL l W).length = O at *
        have hwr : IntKind.i64.wrap (2 * (O : Int)) = 2 * (O : Int) := by rw [IntKind.wrap_i64]; omega
        have hgt : decide ((tt : Int) > 2 * (O : Int)) = false := decide_eq_false (by omega)
        have hgt' : decide (2 * (O : Int) < (tt : Int)) = false := decide_eq_false (by omega)
        have hBH := Lib.hid hB
        clear hB hr3
        cases dd with
        | false =>
          have hO : decide ((O : Int) > 0) = true := decide_eq_true (by have := hDpos rfl; omega)
          have hO' : decide ((0 : Int) < (O : Int)) = true := decide_eq_true (by have := hDpos rfl; omega)
          have hOn := Lib.hid (show decide (0 < O) = true from decide_eq_true (hDpos rfl))
          have hfin := Lib.hid (hB11.out.trans (hBH.out.mono hB11.out.size))
          clear hDle hDpos hDeq hBH hO hO'
          go_wp2_with fail
          go_ret
          exact ⟨by rw [← hOn.out]; rfl, hfin.out⟩
        | true =>
          have heq := Lib.hid (hDeq rfl)
          have hwho := Lib.hid (hDwho.out rfl)
          clear hDle hDpos hDeq hDwho
          go_wp2_with fail
          go_loopw [15] (fun t wr => ∃ i : Nat, i ≤ nn ∧ t = .int .i64 i ∧ DnRel w10 wr) (fun t _ => nn - (intOf t).toNat)
          case atStart => exact ⟨0, Nat.zero_le _, rfl, hBH.out⟩
          case round =>
            clear hBH r2 r3
            obtain ⟨i, hi, rfl, hB⟩ := hrel
            unfold DnRel at hB
            rename World => wz
            by_cases hin : i < nn
            · have hiI : (i : Int) < (nn : Int) := by omega
              by_cases his : i = ss
              · have v1 : ((i : Int) != (ss : Int)) = false := by simp [his]
                have hBH := Lib.hid hB
                clear hB his
                go_wp2_with fail
                go_quiet (fail)
                go_wp2_with fail
                go_roundw
                case rel => exact ⟨i + 1, by omega, by go_num, below_drewN hBH.out _⟩
                case measure => simp [intOf]; omega
              · have v1 : ((i : Int) != (ss : Int)) = true := by simp; omega
                have hr4 := hr10H.out.below hB hr10lt
                have r1 := hr4.cell (i := 1) (by simp)
                simp only [List.getElem_cons_zero, List.getElem_cons_succ] at r1
                have q1 := IntRow.at_ (Row.below hI10H.out hB hI10lt) hin
                have hb := hwho.out i hin his
                have hq : Hid (∀ m, Calls Try.prog 16 #[.int .u32 (W : Int), .int .i64 (i : Int)] (wz.drewN m) fun e w' => e = .returned (.bool (W.testBit i)) ∧ w' = wz.drewN m) := fun m => (bit_any W i (wz.drewN m) (by have := hW64.out; omega) (by omega)).mono fun _ _ h => ⟨h.1, h.2.symm⟩
                have hBH := Lib.hid hB
                clear hB his hr4
                generalize par i = pi at *
                by_cases hpi : 0 ≤ pi
                · have v2 : decide (pi ≥ 0) = true := decide_eq_true hpi
                  have v2' : decide (0 ≤ pi) = true := decide_eq_true hpi
                  rw [hb, v2'] at hq
                  clear hb
                  go_wp2_with fail
                  go_quiet ((go_at_call 16; exact Calls.quiet_of_same (hq.out _)))
                  go_wp2_with fail
                  go_roundw
                  case rel => exact ⟨i + 1, by omega, by go_num, below_drewN hBH.out _⟩
                  case measure => simp [intOf]; omega
                · have v2 : decide (pi ≥ 0) = false := decide_eq_false hpi
                  have v2' : decide (0 ≤ pi) = false := decide_eq_false hpi
                  rw [hb, v2'] at hq
                  clear hb
                  go_wp2_with fail
                  go_quiet ((go_at_call 16; exact Calls.quiet_of_same (hq.out _)))
                  go_wp2_with fail
                  go_roundw
                  case rel => exact ⟨i + 1, by omega, by go_num, below_drewN hBH.out _⟩
                  case measure => simp [intOf]; omega
            · have hin' : i = nn := by omega
              subst hin'
              have hr4 := hr10H.out.below hB hr10lt
              have r3 := hr4.cell (i := 3) (by simp)
              simp only [List.getElem_cons_zero, List.getElem_cons_succ] at r3
              have hfin := Lib.hid (hB11.out.trans (hB.mono hB11.out.size))
              have hee : ((tt : Int) == 2 * (O : Int)) = true := by have := heq.out; simp; omega
              clear hB hr4
              go_wp2_with fail
              go_ret
              exact ⟨by rw [← hee]; rfl, hfin.out⟩
  · have hnz : (ecode n l s o.length != 0) = true := by simpa using hz
    have hcall := Lib.hid (play_no A cap l A2 cap2 o n s w hE hc hl ho hz)
    have hlk := Lib.hid (fun w hE => linked_any A cap l n s o.length w hE hc hl ho false ⟨(nomatch ·), fun h => absurd h hz⟩)
    clear hE hE2 hF hF2 hz
    go_enter Try.func5, Try.ntmps5
    go_wp2_with fail
    refine hcall.out.mono ?_
    rintro e w7 ⟨rfl, hB7⟩
    have hsz7 := hB7.size
    have hB9 := Lib.hid (hB7.alloc hsz7 (.cells #[.slice none 0 0, .slice none 0 0, .bool false, .int .i64 0] 26))
    have hE9 := Lib.hid ((hEH.out.on hB7).alloc (.cells #[.slice none 0 0, .slice none 0 0, .bool false, .int .i64 0] 26))
    have hlk9 := Lib.hid (hlk.out _ hE9.out)
    clear hcall hlk hB7 hE9
    generalize ecode n l s o.length = C at *
    go_wp2_with fail
    refine hlk9.out.mono ?_
    rintro e w10 ⟨rfl, hB10⟩
    have hB11 := Lib.hid (hB9.out.trans (hB10.mono hB9.out.size))
    clear hlk9 hB9 hB10
    go_wp2_with fail
    go_ret
    exact ⟨rfl, hB11.out⟩
#print axioms echoDone_law
end Go.Proofs.Ytjmkmfeibempjaa
