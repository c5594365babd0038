/-
  The law EchoTree, walked.
-/
import Derived.Test.YtjmkmfeibempjaaEpl
import Derived.Test.YtjmkmfeibempjaaLkd
namespace Go.Proofs.Ytjmkmfeibempjaa
open Go.RowKit Go.Maps
set_option linter.unusedVariables false

/-- Parents that lead to the start. -/
structure TreeOk (n s : Nat) (l : List Lk) (par : Nat → Int) (H : Nat → Prop) (dep : Nat → Nat) : Prop where
  root : par s = -1
  each : ∀ i, i < n → (par i = -1 ∧ ¬ H i) ∨ (H i ∧ ∃ p : Nat, p < n ∧ par i = (p : Int) ∧ adj l i p = true ∧ (p = s ∨ H p) ∧ dep i = dep p + 1)
  low : ∀ i, H i → dep i < n
theorem tree_ok {n s : Nat} {l : List Lk} {S : ES} {got : List (Nat × Nat)} {dep : Nat → Nat} {hs : List Nat} (h : EInv n (nbs l n) s S got dep hs) (hL : LkOk n l) : TreeOk n s l S.par (fun i => i ≠ s ∧ 0 < S.took i) dep := by
  refine ⟨h.par0 s (.inl rfl), fun i hi => ?_, fun i hi => ?_⟩
  · by_cases e : i ≠ s ∧ 0 < S.took i
    · right
      obtain ⟨p, h1, h2, h3, h4⟩ := h.par1 i e.1 e.2
      refine ⟨e, p, (nbs_mem.1 h2).1, h1, (nbs_mem.1 h2).2, ?_, h4⟩
      by_cases ep : p = s
      · exact .inl ep
      · exact .inr ⟨ep, h3.resolve_left ep⟩
    · left
      refine ⟨h.par0 i ?_, e⟩
      by_cases e1 : i = s
      · exact .inl e1
      · right; have : ¬ 0 < S.took i := fun h => e ⟨e1, h⟩; omega
  · exact h.dep_lt hL (.inr hi.2)
def adjP (l : List Lk) (i p k : Nat) : Bool := (l.take k).any fun x => joins x i p
theorem adjP_zero (l : List Lk) (i p : Nat) : adjP l i p 0 = false := by simp [adjP]
theorem adjP_succ {l : List Lk} {k : Nat} (i p : Nat) (h : k < l.length) : adjP l i p (k + 1) = (adjP l i p k || joins (lat l k) i p) := by
  unfold adjP
  rw [List.take_succ_eq_append_getElem h, List.any_append, lat_get l h]
  simp
theorem adjP_all (l : List Lk) (i p : Nat) : adjP l i p l.length = adj l i p := by unfold adjP adj; rw [List.take_length]

def TrRel (w1 wr : World) : Prop := Below w1.heap.size w1 wr
def Tr3 (n s : Nat) (H : Nat → Prop) (dep : Nat → Nat) (i st k : Nat) (w1 wr : World) : Prop := k < n ∧ (k = s ∨ H k) ∧ dep k + st = dep i ∧ Below w1.heap.size w1 wr

set_option maxRecDepth 20000 in
set_option maxHeartbeats 3200000 in
theorem echoTree_law (w : World) (n : Int) (_hn : I64 n) (A : Option Addr) (cap : Nat) (l : List Lk) (hE : Lks w w.heap.size A l) (hF : LFits l) (hc : l.length ≤ cap) (hlm : l.length ≤ maxLen) (hl : l.length ≤ 17592186044416)
    (s : Int) (_hs : I64 s) (A2 : Option Addr) (cap2 : Nat) (o : List Int) (hE2 : Nums w w.heap.size A2 o) (hF2 : NumFits o) (hc2 : o.length ≤ cap2) (hom : o.length ≤ maxLen) (ho : o.length ≤ 17592186044416) :
    Calls Try.prog 4 #[.int .i64 n, .slice A l.length cap, .int .i64 s, .slice A2 o.length cap2] w fun e w' => e = .returned (.bool true) ∧ Below w.heap.size w w' := by
  have hEH := Lib.hid hE
  by_cases hz : ecode n l s o.length = 0
  · obtain ⟨hsm, h60, hLO, hins, hOnce⟩ := ecode_zero hz
    obtain ⟨nn, rfl⟩ : ∃ k : Nat, n = (k : Int) := ⟨n.toNat, by unfold LargeL at hsm; omega⟩
    obtain ⟨ss, rfl⟩ : ∃ k : Nat, s = (k : Int) := ⟨s.toNat, by have := (inP_iff _ _).1 hins; omega⟩
    have hss : ss < nn := by have := (inP_iff _ _).1 hins; omega
    have hn6 : nn ≤ 6 := by unfold LargeL at hsm; omega
    have h15 : l.length ≤ 15 := by unfold LargeL at hsm; omega
    obtain ⟨got, dep, hh, hI⟩ := esAt_inv (nbs_ok hLO.lk) hss o o.length
    obtain ⟨H, hT⟩ : ∃ H, Hid (TreeOk nn ss l (esAt (nbs l nn) ss o o.length).par H dep) := ⟨_, tree_ok hI hLO.lk⟩
    have hcall := Lib.hid (play_ok A cap l A2 cap2 o nn ss w hE hc hE2 hF2 hz)
    have hlk := Lib.hid (fun w hE => linked_any A cap l (nn : Int) (ss : Int) o.length w hE hc hl ho true ⟨fun _ => hz, fun _ => rfl⟩)
    clear hz hsm hLO hins hOnce hI hE hE2 hF hF2
    go_enter Try.func4, Try.ntmps4
    go_wp2_with fail
    refine hcall.out.mono ?_
    rintro e w7 ⟨gc, T, rfl, hC7, hI7, hB7⟩
    unfold echVal
    generalize (esAt (nbs l nn) ss o o.length).sent = tt at *
    generalize decide ((esAt (nbs l nn) ss o o.length).took ss = (nbs l nn ss).length) = dd at *
    generalize (esAt (nbs l nn) ss o o.length).par = par at *
    have hrow := Row.made w7 26 [.slice (some ⟨gc, 0, none⟩) o.length o.length, .slice (some ⟨T, 0, none⟩) nn nn, .bool dd, .int .i64 (tt : Int)]
    have hlt8 := hrow.lt
    have hsz7 := hB7.size
    have hB9 := Lib.hid (hB7.alloc hsz7 (.cells #[.slice (some ⟨gc, 0, none⟩) o.length o.length, .slice (some ⟨T, 0, none⟩) nn nn, .bool dd, .int .i64 (tt : Int)] 26))
    have hE9 := Lib.hid ((hEH.out.on hB7).alloc (.cells #[.slice (some ⟨gc, 0, none⟩) o.length o.length, .slice (some ⟨T, 0, none⟩) nn nn, .bool dd, .int .i64 (tt : Int)] 26))
    have hI9 := Lib.hid (Row.alloc hI7 (.cells #[.slice (some ⟨gc, 0, none⟩) o.length o.length, .slice (some ⟨T, 0, none⟩) nn nn, .bool dd, .int .i64 (tt : Int)] 26))
    have hlk9 := Lib.hid (hlk.out _ hE9.out)
    have hrowH := Lib.hid hrow
    clear hcall hlk hC7 hI7 hB7 hrow
    go_wp2_with fail
    refine hlk9.out.mono ?_
    rintro e w10 ⟨rfl, hB10⟩
    have hr10 := hrowH.out.below hB10 hlt8
    have r0 := hr10.cell (i := 0) (by simp)
    have r1 := hr10.cell (i := 1) (by simp)
    simp only [List.getElem_cons_zero, List.getElem_cons_succ] at r0 r1
    have hI10 : IntRow w10 T nn par := Row.below hI9.out hB10 (Row.lt hI9.out)
    have q1 := IntRow.at_ hI10 hss
    rw [hT.out.root] at q1
    have hB11 := Lib.hid (hB9.out.trans (hB10.mono hB9.out.size))
    have hE10 := Lib.hid (hE9.out.on hB10)
    have hpp : ((o.length : Int) != (o.length : Int)) = false := by simp
    have hnn : ((nn : Int) != (nn : Int)) = false := by simp
    have hssI : (ss : Int) < (nn : Int) := by omega
    have hr10H := Lib.hid hr10
    have hI10H := Lib.hid hI10
    have hr10lt := hr10.lt
    have hI10lt := Row.lt hI10
    clear hlk9 hrowH hB9 hB10 hE9 hI9 hI10 hr10
    go_wp2_with fail
    clear q1 r0 r1
    go_loopw [63] (fun v wr => ∃ k : Nat, k ≤ nn ∧ v = .int .i64 k ∧ TrRel w10 wr) (fun v _ => nn - (intOf v).toNat)
    case atStart => exact ⟨0, Nat.zero_le _, rfl, Below.refl _ _⟩
    case round =>
      obtain ⟨k, hk, rfl, hB⟩ := hrel
      unfold TrRel at hB
      rename World => w1
      by_cases hlt : k < nn
      · have hkI : (k : Int) < (nn : Int) := by omega
        have q1 := IntRow.at_ (Row.below hI10H.out hB hI10lt) hlt
        rcases hT.out.each k hlt with ⟨h1, -⟩ | ⟨hHk, p, hp, hpe, hadj, hHp, hdp⟩
        · rw [h1] at q1
          have hBH := Lib.hid hB
          clear hB h1
          go_wp2_with fail
          go_roundw
          case rel => exact ⟨k + 1, by omega, by go_num, hBH.out⟩
          case measure => simp [intOf]; omega
        · rw [hpe] at q1
          have hpne : ((p : Int) == -1) = false := by simp
          have hpI : (p : Int) < (nn : Int) := by omega
          have hin : Hid (inB nn [(p : Int)] = true) := by unfold Hid; rw [inB_one, inP_iff]; omega
          have hcall := Lib.hid (inside_any (some ⟨w1.heap.size, 0, none⟩) 1 [(p : Int)] nn _ (nums1 w1 (p : Int) 3) (by simp) true hin)
          have hB1 := Lib.hid (hB.alloc hB.size (.cells #[.int .i64 (p : Int)] 3))
          have hadjH := Lib.hid hadj
          have hHkH := Lib.hid hHk
          clear hB hpe hadj hHp hdp hHk hin
          go_wp2_with fail
          refine hcall.out.mono ?_
          rintro e w2 ⟨rfl, rfl⟩
          clear hcall
          generalize w1.alloc (.cells #[.int .i64 (p : Int)] 3) = w2 at *
          go_wp2_with fail
          go_loopw [77, 13] (fun v c wr => ∃ m : Nat, m ≤ l.length ∧ v = .int .i64 m ∧ c = .bool (adjP l k p m) ∧ TrRel w10 wr) (fun v _ _ => l.length - (intOf v).toNat)
          case atStart => exact ⟨0, Nat.zero_le _, rfl, by rw [adjP_zero], hB1.out⟩
          case round =>
            clear hB1 q1
            obtain ⟨m, hm, rfl, rfl, hB⟩ := hrel
            unfold TrRel at hB
            rename World => wr
            by_cases hml : m < l.length
            · obtain ⟨b, off, rfl, hb, c3, c4⟩ := (hE10.out.below hB).at_ hml
              have hmI : (m : Int) < (l.length : Int) := by omega
              have hnx := Lib.hid (adjP_succ k p hml)
              have hB1 := Lib.hid (hB.alloc hB.size (.cells #[.int .i64 (lat l m).a, .int .i64 (lat l m).b] 38))
              have hR1 := Row.made wr 38 [.int .i64 (lat l m).a, .int .i64 (lat l m).b]
              have d0 := hR1.cell (i := 0) (by simp)
              have d1 := hR1.cell (i := 1) (by simp)
              simp only [List.getElem_cons_zero, List.getElem_cons_succ] at d0 d1
              have hjd : Hid (joins (lat l m) k p = (decide ((lat l m).a = (k : Int)) && decide ((lat l m).b = (p : Int)) || decide ((lat l m).b = (k : Int)) && decide ((lat l m).a = (p : Int)))) := rfl
              have hnx2 : Hid (adjP l k p (m + 1) = (adjP l k p m || (decide ((lat l m).a = (k : Int)) && decide ((lat l m).b = (p : Int)) || decide ((lat l m).b = (k : Int)) && decide ((lat l m).a = (p : Int))))) := by unfold Hid; rw [hnx.out, hjd.out]
              clear hnx hjd hR1 hB
              generalize (lat l m).a = x at *
              generalize (lat l m).b = y at *
              generalize hO : adjP l k p m = O at *
              have hxk : (x == (k : Int)) = decide (x = (k : Int)) := by rw [Bool.eq_iff_iff]; simp
              have hyp : (y == (p : Int)) = decide (y = (p : Int)) := by rw [Bool.eq_iff_iff]; simp
              have hyk : (y == (k : Int)) = decide (y = (k : Int)) := by rw [Bool.eq_iff_iff]; simp
              have hxp : (x == (p : Int)) = decide (x = (p : Int)) := by rw [Bool.eq_iff_iff]; simp
              generalize decide (x = (k : Int)) = b1 at *
              generalize decide (y = (p : Int)) = b2 at *
              generalize decide (y = (k : Int)) = b3 at *
              generalize decide (x = (p : Int)) = b4 at *
              clear hO
              generalize hG : adjP l k p (m + 1) = G at *
              have hGH := Lib.hid hG
              clear hG
              have hfin : Hid (∀ c, c = G → ∃ m' : Nat, m' ≤ l.length ∧ Value.int .i64 ((m : Int) + 1) = .int .i64 m' ∧ Value.bool c = .bool (adjP l k p m') ∧ l.length - m' < l.length - m) := fun c e => ⟨m + 1, by omega, by go_num, by rw [e, hGH.out], by omega⟩
              cases O <;> cases b1 <;> cases b2 <;> cases b3 <;> cases b4 <;>
              · go_wp2_with fail
                go_roundw
                case rel => exact ⟨m + 1, by omega, by go_num, by rw [hGH.out, hnx2.out]; rfl, hB1.out⟩
                case measure => simp [intOf]; omega
            · have hml' : m = l.length := by omega
              subst hml'
              rw [adjP_all, hadjH.out]
              have hBH := Lib.hid hB
              clear hB
              go_wp2_with fail
              go_loopw [17, 16] (fun t v wr => ∃ st kk : Nat, t = .int .i64 st ∧ v = .int .i64 kk ∧ Tr3 nn ss H dep k st kk w10 wr) (fun t _ _ => nn - (intOf t).toNat)
              case atStart => exact ⟨0, k, rfl, rfl, hlt, .inr hHkH.out, rfl, hBH.out⟩
              case round =>
                clear hBH
                obtain ⟨st, kk, rfl, rfl, hkk, hHkk, hdep, hB⟩ := hrel
                rename World => w3
                have hst : st < nn := by have := hT.out.low k hHkH.out; omega
                have hstI : (st : Int) < (nn : Int) := by omega
                by_cases hks : kk = ss
                · subst hks
                  have hkkI : ((kk : Int) != (kk : Int)) = false := by simp
                  have hBH := Lib.hid hB
                  clear hB hHkk hdep
                  go_wp2_with fail
                  go_roundw
                  case rel => exact ⟨k + 1, by omega, by go_num, hBH.out⟩
                  case measure => simp [intOf]; omega
                · have hkkI : ((kk : Int) != (ss : Int)) = true := by simp; omega
                  have hkkI2 : (kk : Int) < (nn : Int) := by omega
                  have hr3 := hr10H.out.below hB hr10lt
                  have r1 := hr3.cell (i := 1) (by simp)
                  simp only [List.getElem_cons_zero, List.getElem_cons_succ] at r1
                  have q3 := IntRow.at_ (Row.below hI10H.out hB hI10lt) hkk
                  rcases hT.out.each kk hkk with ⟨_, h2⟩ | ⟨_, p3, hp3, hpe3, -, hHp3, hdp3⟩
                  · exact absurd (hHkk.resolve_left hks) h2
                  rw [hpe3] at q3
                  have hp3I : (p3 : Int) < (nn : Int) := by omega
                  have hin3 : Hid (inB nn [(p3 : Int)] = true) := by unfold Hid; rw [inB_one, inP_iff]; omega
                  have hcall3 := Lib.hid (inside_any (some ⟨w3.heap.size, 0, none⟩) 1 [(p3 : Int)] nn _ (nums1 w3 (p3 : Int) 3) (by simp) true hin3)
                  have hB4 := Lib.hid (hB.alloc hB.size (.cells #[.int .i64 (p3 : Int)] 3))
                  have hnext : Hid (p3 < nn ∧ (p3 = ss ∨ H p3) ∧ dep p3 + (st + 1) = dep k) := ⟨hp3, hHp3, by omega⟩
                  clear hB hr3 hpe3 hHp3 hdp3 hin3 hHkk hdep
                  go_wp2_with fail
                  refine hcall3.out.mono ?_
                  rintro e w5 ⟨rfl, rfl⟩
                  clear hcall3
                  generalize w3.alloc (.cells #[.int .i64 (p3 : Int)] 3) = w5 at *
                  go_wp2_with fail
                  go_roundw
                  case rel => exact ⟨st + 1, p3, by go_num, rfl, hnext.out.1, hnext.out.2.1, hnext.out.2.2, hB4.out⟩
                  case measure => simp [intOf]; omega
      · have hkn : k = nn := by omega
        subst hkn
        have hfin := Lib.hid (hB11.out.trans (hB.mono hB11.out.size))
        clear hB
        go_wp2_with fail
        go_ret
        exact ⟨rfl, hfin.out⟩
  · have hnz : (ecode n l s o.length != 0) = true := by simpa using hz
    have hcall := Lib.hid (play_no A cap l A2 cap2 o n s w hE hc hl ho hz)
    have hlk := Lib.hid (fun w hE => linked_any A cap l n s o.length w hE hc hl ho false ⟨(nomatch ·), fun h => absurd h hz⟩)
    clear hE hE2 hF hF2 hz
    go_enter Try.func4, Try.ntmps4
    go_wp2_with fail
    refine hcall.out.mono ?_
    rintro e w7 ⟨rfl, hB7⟩
    have hsz7 := hB7.size
    have hB9 := Lib.hid (hB7.alloc hsz7 (.cells #[.slice none 0 0, .slice none 0 0, .bool false, .int .i64 0] 26))
    have hE9 := Lib.hid ((hEH.out.on hB7).alloc (.cells #[.slice none 0 0, .slice none 0 0, .bool false, .int .i64 0] 26))
    have hlk9 := Lib.hid (hlk.out _ hE9.out)
    clear hcall hlk hB7 hE9
    generalize ecode n l s o.length = C at *
    go_wp2_with fail
    refine hlk9.out.mono ?_
    rintro e w10 ⟨rfl, hB10⟩
    have hB11 := Lib.hid (hB9.out.trans (hB10.mono hB9.out.size))
    clear hlk9 hB9 hB10
    go_wp2_with fail
    go_ret
    exact ⟨rfl, hB11.out⟩
#print axioms echoTree_law
end Go.Proofs.Ytjmkmfeibempjaa
