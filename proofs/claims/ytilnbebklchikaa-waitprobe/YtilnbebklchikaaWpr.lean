/-
  The contracts of (*chase).send, (*chase).receive, wait.Probe.
-/
import Derived.Test.YtilnbebklchikaaWck
import Derived.BigRegion
import Derived.BigQuiet
import Derived.Deep.QuietTactic
namespace Go.Proofs.Ytilnbebklchikaa
open Go.RowKit Go.Maps
set_option linter.unusedVariables false

theorem shr_val (x i : Nat) (hx : x < 4294967296) : bits BinOp.and IntKind.u32 ((x : Int) / 2 ^ i) 1 = if x.testBit i = true then 1 else 0 := by
  have h1 : ((x : Int) / 2 ^ i) = ((x / 2 ^ i : Nat) : Int) := by
    rw [Int.natCast_ediv, Int.natCast_pow]; rfl
  have h2 : x / 2 ^ i ≤ x := Nat.div_le_self _ _
  have h3 := u32_and_nat (x / 2 ^ i) 1 (by omega) (by omega)
  rw [h1]
  refine h3.trans ?_
  rw [Nat.and_one_is_mod, Nat.testBit_eq_decide_div_mod_eq]
  have : x / 2 ^ i % 2 < 2 := Nat.mod_lt _ (by omega)
  generalize x / 2 ^ i % 2 = y at *
  by_cases e : y = 1
  · subst e; simp
  · have : y = 0 := by omega
    subst this; simp

/-- A chase in memory. -/
def ChsAt (w : World) (C : Nat) (A : Option Addr) (cap n st : Nat) (S : Chs) : Prop :=
  Row w C 43 [.slice A n cap, .int .i64 (st : Int), .int .u32 (S.R : Int), .bool S.ret, .int .i64 (S.sent : Int)]
/-- What a call leaves: a chase that Q tells of. -/
def ChsRes (w : World) (C : Nat) (A : Option Addr) (cap n st : Nat) (Q : Chs → Prop) (e : Ending) (w' : World) : Prop :=
  e = .returned (.tuple #[]) ∧ ∃ S', Q S' ∧ ChsAt w' C A cap n st S' ∧ Below C w w'
section
variable {w w' : World} {C cap n st : Nat} {A : Option Addr} {S : Chs}
theorem ChsAt.cells (h : ChsAt w C A cap n st S) : w.cell? ⟨C, 0, none⟩ = some (.slice A n cap) ∧ w.cell? ⟨C, 1, none⟩ = some (.int .i64 (st : Int)) ∧ w.cell? ⟨C, 2, none⟩ = some (.int .u32 (S.R : Int)) ∧ w.cell? ⟨C, 3, none⟩ = some (.bool S.ret) ∧ w.cell? ⟨C, 4, none⟩ = some (.int .i64 (S.sent : Int)) :=
  ⟨h.cell (i := 0) (by simp), h.cell (i := 1) (by simp), h.cell (i := 2) (by simp), h.cell (i := 3) (by simp), h.cell (i := 4) (by simp)⟩
theorem ChsAt.froz (h : ChsAt w C A cap n st S) (i : Nat) : w.frozen? ⟨C, i, none⟩ = false := Row.frozen h i
theorem ChsAt.setR (h : ChsAt w C A cap n st S) {v : Int} {R : Nat} (hv : v = (R : Int)) : ChsAt (w.setCell ⟨C, 2, none⟩ (.int .u32 v)) C A cap n st ⟨R, S.ret, S.sent⟩ := by
  subst hv; exact Row.set h 2 _
theorem ChsAt.setB (h : ChsAt w C A cap n st S) : ChsAt (w.setCell ⟨C, 3, none⟩ (.bool true)) C A cap n st ⟨S.R, true, S.sent⟩ := Row.set h 3 _
theorem ChsAt.setN (h : ChsAt w C A cap n st S) {v : Int} {k : Nat} (hv : v = (k : Int)) : ChsAt (w.setCell ⟨C, 4, none⟩ (.int .i64 v)) C A cap n st ⟨S.R, S.ret, k⟩ := by
  subst hv; exact Row.set h 4 _
theorem ChsAt.drew (h : ChsAt w C A cap n st S) : ChsAt w.drew C A cap n st S := Row.block h rfl
end

def SendOk (l : List Nat) (C st : Nat) (A : Option Addr) (cap f : Nat) : Prop := ∀ (w : World) (S : Chs) (fr : Nat), ChsAt w C A cap l.length st S → Wds w C A l → fr < l.length → S.R < 2 ^ l.length → l.length ≤ bcnt S.R l.length + f → S.sent + 100 * (f + 1) ≤ 1000 →
  Calls Try.prog 24 #[.pointer (some ⟨C, 0, none⟩), .int .i64 (fr : Int)] w (ChsRes w C A cap l.length st (SentW l st fr l.length S))
def RecdOk (l : List Nat) (C st : Nat) (A : Option Addr) (cap f : Nat) : Prop := ∀ (w : World) (S : Chs) (to : Nat), ChsAt w C A cap l.length st S → Wds w C A l → to < l.length → S.R < 2 ^ l.length → l.length ≤ bcnt S.R l.length + f → S.sent + 100 * f ≤ 1000 →
  Calls Try.prog 28 #[.pointer (some ⟨C, 0, none⟩), .int .i64 (to : Int)] w (ChsRes w C A cap l.length st (RecdW l st to S))

set_option maxHeartbeats 1600000 in
theorem recd_step {l : List Nat} (hV : WV l) {C st : Nat} {A : Option Addr} {cap f : Nat} (hs : ∀ f', f = f' + 1 → SendOk l C st A cap f') : RecdOk l C st A cap f := by
  intro w S to hC hq hto hR hcn hsm
  obtain ⟨c0, c1, c2, c3, c4⟩ := hC.cells
  have h64 := Nat.pow_le_pow_right (n := 2) (by omega) hV.six
  have hsv := Lib.hid (shr_val S.R to (by omega))
  have h6 := hV.six
  have hto32 : (to : Int) ≤ 32 := by omega
  by_cases he : to = st
  · subst he
    have hfin := Lib.hid (hC.setB)
    have hfr := hC.froz 3
    have hp := Lib.hid (RecdW.home (st := to) hR)
    clear hC hs hq hsv
    go_enter Try.func28, Try.ntmps28
    go_wp2_with fail
    go_end0
    exact ⟨rfl, _, hp.out, hfin.out, (Below.refl C w).setCell (Nat.le_refl _) _⟩
  · have heI : ((to : Int) == (st : Int)) = false := by simp; omega
    cases hb : S.R.testBit to with
    | true =>
      rw [hb, if_pos rfl] at hsv
      have hv := hsv.out
      have hp := Lib.hid (RecdW.old hR he hb)
      have hCH := Lib.hid hC
      clear hC hs hq hsv
      go_enter Try.func28, Try.ntmps28
      go_wp2_with fail
      go_end0
      exact ⟨rfl, _, hp.out, hCH.out, Below.refl _ _⟩
    | false =>
      rw [hb, if_neg (by decide)] at hsv
      have hv := hsv.out
      have hadd := bcnt_add hto hb
      have hfp : 0 < f := by
        rcases Nat.eq_zero_or_pos f with h0 | h0
        · subst h0
          have := bcnt_full (by omega) to hto
          rw [this] at hb; cases hb
        · exact h0
      obtain ⟨f', rfl⟩ : ∃ f', f = f' + 1 := ⟨f - 1, by omega⟩
      have hset := set_val S.R to (by omega) (by omega)
      have hC2 := hC.drew.setR hset
      have hlt : S.R ||| 2 ^ to < 2 ^ l.length := Nat.or_lt_two_pow hR (two_pow_lt to hto)
      have hB : Below C w (w.drew.setCell ⟨C, 2, none⟩ (.int .u32 (bits BinOp.or IntKind.u32 (S.R : Int) (2 ^ to % 4294967296)))) := (Below.refl C w).drew.setCell (Nat.le_refl _) _
      have hcall := Lib.hid (hs f' rfl _ ⟨S.R ||| 2 ^ to, S.ret, S.sent⟩ to hC2 (hq.below hB) hto hlt (by simp only; omega) (by simp only; omega))
      have hyoung := Lib.hid (fun S'' h => RecdW.young (S'' := S'') hto he hb h hV)
      have hBH := Lib.hid hB
      have hfr := hC.froz 2
      clear hC hs hq hsv hC2 hB hset
      go_enter Try.func28, Try.ntmps28
      go_wp2_with fail
      go_region
      clear c0 c1 c2 c3 c4
      go_wp2_with fail
      refine hcall.out.mono ?_
      rintro e w2 ⟨rfl, S2, hS2, hC4, hB4⟩
      have hS3 := Lib.hid (hyoung.out S2 hS2)
      clear hS2
      go_wp2_with fail
      go_end0
      exact ⟨rfl, S2, hS3.out, hC4, hBH.out.trans hB4⟩

def SndRel (w : World) (C : Nat) (A : Option Addr) (cap : Nat) (l : List Nat) (st fr : Nat) (S : Chs) (k : Nat) (wr : World) : Prop :=
  ∃ S', SentW l st fr k S S' ∧ ChsAt wr C A cap l.length st S' ∧ Below C w wr
set_option maxHeartbeats 1600000 in
theorem send_step {l : List Nat} (hV : WV l) {C st : Nat} {A : Option Addr} {cap f : Nat} (hr : RecdOk l C st A cap f) : SendOk l C st A cap f := by
  intro w S fr hC hq hfr hR hcn hsm
  obtain ⟨c0, c1, c2, c3, c4⟩ := hC.cells
  have h6 := hV.six
  have hfrI : (fr : Int) < (l.length : Int) := by omega
  have hstart : Hid (SndRel w C A cap l st fr S 0 w) := ⟨S, SentW.start hR, hC, Below.refl _ _⟩
  have hqH := Lib.hid hq
  have hrH := Lib.hid hr
  have h36 := sumD_36 hV S.R
  have hx32 := hV.u32 fr
  clear hC hq hr c1 c2 c3 c4
  go_enter Try.func24, Try.ntmps24
  go_wp2_with fail
  go_loopw [10] (fun t wr => ∃ k : Nat, k ≤ l.length ∧ t = .int .i64 k ∧ SndRel w C A cap l st fr S k wr) (fun t _ => l.length - (intOf t).toNat)
  case atStart => exact ⟨0, Nat.zero_le _, rfl, hstart.out⟩
  case round =>
    rename World => w1
    obtain ⟨k, hk, rfl, S1, hS1, hC1, hB1⟩ := hrel
    clear hstart c0
    by_cases hlt : k < l.length
    · have hkI : (k : Int) < (l.length : Int) := by omega
      have hk32 : (k : Int) ≤ 32 := by omega
      obtain ⟨c0, c1, c2, c3, c4⟩ := hC1.cells
      have hcn1 := bcnt_mono hS1.up l.length
      have hle1 := bcnt_le (wat l fr) k
      have h361 := sumD_36 hV S1.R
      have hcnt := hS1.cnt
      have hq1 := hqH.out.below hB1
      obtain ⟨b2, off, rfl, hb2, hc⟩ := hq1 (by omega)
      have d0 := hc fr hfr
      have hsv := Lib.hid (shr_val (wat l fr) k hx32)
      cases hb : (wat l fr).testBit k with
      | false =>
        rw [hb, if_neg (by decide)] at hsv
        have hv := hsv.out
        have hnext : Hid (SndRel w C (some ⟨b2, off, none⟩) cap l st fr S (k + 1) w1) := ⟨S1, hS1.skip hb, hC1, hB1⟩
        clear hS1 hC1 hB1 hq1 hc hsv hb hcnt
        generalize wat l fr = x at *
        go_wp2_with fail
        go_roundw
        case rel => exact ⟨k + 1, by omega, by go_num, hnext.out⟩
        case measure => simp [intOf]; omega
      | true =>
        rw [hb, if_pos rfl] at hsv
        have hv := hsv.out
        have hs1 : (S1.sent : Int) ≤ 1000 := by omega
        have hC2 := hC1.setN (v := (S1.sent : Int) + 1) (k := S1.sent + 1) (by omega)
        have hBs : Below C w1 (w1.setCell ⟨C, 4, none⟩ (.int .i64 ((S1.sent : Int) + 1))) := (Below.refl C w1).setCell (Nat.le_refl _) (.int .i64 ((S1.sent : Int) + 1))
        have hcall := Lib.hid (hrH.out _ _ k hC2 (hq1.below hBs) hlt hS1.lt (by simp only; omega) (by simp only; omega))
        have htake := Lib.hid (fun S2 (h : RecdW l st k ⟨S1.R, S1.ret, S1.sent + 1⟩ S2) => hS1.take hb h)
        have hBH := Lib.hid (hB1.trans hBs)
        have hfz := hC1.froz 4
        clear hS1 hC1 hB1 hq1 hc hsv hb hcnt hC2 hBs
        generalize wat l fr = x at *
        go_wp2_with fail
        refine hcall.out.mono ?_
        rintro e w2 ⟨rfl, S2, hS2, hC4, hB4⟩
        have hnext : Hid (SndRel w C (some ⟨b2, off, none⟩) cap l st fr S (k + 1) w2) := ⟨S2, htake.out S2 hS2, hC4, hBH.out.trans hB4⟩
        clear hS2 hC4 hB4 hBH htake hcall c0 c1 c2 c3 c4 hfz
        go_wp2_with fail
        go_roundw
        case rel => exact ⟨k + 1, by omega, by go_num, hnext.out⟩
        case measure => simp [intOf]; omega
    · have hkl : k = l.length := by omega
      subst hkl
      go_wp2_with fail
      go_end0
      exact ⟨rfl, S1, hS1, hC1, hB1⟩

theorem send_all {l : List Nat} (hV : WV l) (C st : Nat) (A : Option Addr) (cap : Nat) : ∀ f, SendOk l C st A cap f
  | 0 => send_step hV (recd_step hV fun f' e => by omega)
  | f + 1 => send_step hV (recd_step hV fun f' e => by
      obtain rfl : f' = f := by omega
      exact send_all hV C st A cap f')

/-- What Probe answers: whether one comes back, how many, the code. -/
noncomputable def probeBack (l : List Nat) (i : Int) : Bool := open Classical in if WV l ∧ 0 ≤ i ∧ i < l.length then backC l i.toNat else false
noncomputable def probeSent (l : List Nat) (i : Int) : Nat := open Classical in if WV l ∧ 0 ≤ i ∧ i < l.length then sentC l i.toNat else 0
noncomputable def probeCode (l : List Nat) (i : Int) : Int := open Classical in if WV l then if 0 ≤ i ∧ i < l.length then 0 else 2 else waitCode l
def ProRes (w : World) (l : List Nat) (i : Int) (e : Ending) (w' : World) : Prop := e = .returned (.tuple #[.bool (probeBack l i), .int .i64 (probeSent l i : Int), .int .i64 (probeCode l i)]) ∧ Below w.heap.size w w'

/-- What a send from the start leaves. -/
def ChdRes (w1 : World) (B : Nat) (A : Option Addr) (cap : Nat) (l : List Nat) (j : Nat) (e : Ending) (w3 : World) : Prop :=
  e = .returned (.tuple #[]) ∧ w3.cell? ⟨w1.heap.size, 3, none⟩ = some (.bool (backC l j)) ∧ w3.cell? ⟨w1.heap.size, 4, none⟩ = some (.int .i64 (sentC l j : Int)) ∧ Below B w1 w3
theorem chase_any {l : List Nat} (hV : WV l) {A : Option Addr} {cap j B : Nat} (hj : j < l.length) (w1 : World) (hB : B ≤ w1.heap.size) (hq : Wds w1 B A l) :
    Calls Try.prog 24 #[.pointer (some ⟨w1.heap.size, 0, none⟩), .int .i64 (j : Int)] (w1.alloc (.cells #[.slice A l.length cap, .int .i64 (j : Int), .int .u32 0, .bool false, .int .i64 0] 43)) (ChdRes w1 B A cap l j) := by
  have hC : ChsAt (w1.alloc (.cells #[.slice A l.length cap, .int .i64 (j : Int), .int .u32 0, .bool false, .int .i64 0] 43)) w1.heap.size A cap l.length j ⟨0, false, 0⟩ := Row.made w1 _ [_, _, _, _, _]
  have hB1 : Below w1.heap.size w1 (w1.alloc (.cells #[.slice A l.length cap, .int .i64 (j : Int), .int .u32 0, .bool false, .int .i64 0] 43)) := (Below.refl _ w1).alloc (Nat.le_refl _) _
  have h6 := hV.six
  refine (send_all hV w1.heap.size j A cap l.length _ ⟨0, false, 0⟩ j hC ((hq.more hB).below hB1) hj (Nat.pow_pos (by omega)) (by omega) (by simp only; omega)).mono ?_
  rintro e w3 ⟨rfl, S', hS', hC', hB'⟩
  obtain ⟨e1, e2⟩ := chased hV hj hS'
  obtain ⟨_, _, _, c3, c4⟩ := hC'.cells
  rw [e1] at c3
  rw [e2] at c4
  exact ⟨rfl, c3, c4, (hB1.trans hB').mono hB⟩

set_option maxHeartbeats 1600000 in
theorem probe_any (cap : Nat) (w : World) (A : Option Addr) (l : List Nat) (i : Int) (hi : I64 i) (hq : Wds w w.heap.size A l) (hF : WFits l) (hl : l.length ≤ maxLen) :
    Calls Try.prog 14 #[.slice A l.length cap, .int .i64 i] w (ProRes w l i) := by
  have hchk := Lib.hid (check_any cap w A l hq hF hl)
  by_cases hV : WV l
  · have hcode := (waitCode_iff l).2 hV
    rw [hcode] at hchk
    have h6 := hV.six
    have h6I : (l.length : Int) ≤ 6 := by omega
    by_cases hneg : i < 0
    · have hin : ¬ (0 ≤ i ∧ i < l.length) := by omega
      have e1 : probeBack l i = false := by unfold probeBack; rw [if_neg fun h => hin h.2]
      have e2 : probeSent l i = 0 := by unfold probeSent; rw [if_neg fun h => hin h.2]
      have e3 : probeCode l i = 2 := by unfold probeCode; rw [if_pos hV, if_neg hin]
      unfold ProRes
      rw [e1, e2, e3]
      clear hq hF hV hcode e1 e2 e3 hin
      go_enter Try.func14, Try.ntmps14
      go_wp2_with fail
      refine hchk.out.mono ?_
      rintro e w1 ⟨rfl, hB1⟩
      go_wp2_with fail
      go_ret3
      exact ⟨rfl, hB1⟩
    · by_cases hge : (l.length : Int) ≤ i
      · have hin : ¬ (0 ≤ i ∧ i < l.length) := by omega
        have e1 : probeBack l i = false := by unfold probeBack; rw [if_neg fun h => hin h.2]
        have e2 : probeSent l i = 0 := by unfold probeSent; rw [if_neg fun h => hin h.2]
        have e3 : probeCode l i = 2 := by unfold probeCode; rw [if_pos hV, if_neg hin]
        unfold ProRes
        rw [e1, e2, e3]
        clear hq hF hV hcode e1 e2 e3 hin
        go_enter Try.func14, Try.ntmps14
        go_wp2_with fail
        refine hchk.out.mono ?_
        rintro e w1 ⟨rfl, hB1⟩
        go_wp2_with fail
        go_ret3
        exact ⟨rfl, hB1⟩
      · have hin : 0 ≤ i ∧ i < l.length := by omega
        obtain ⟨j, rfl⟩ : ∃ j : Nat, i = (j : Int) := ⟨i.toNat, by omega⟩
        have hj : j < l.length := by omega
        have e1 : probeBack l j = backC l j := by unfold probeBack; rw [if_pos ⟨hV, hin⟩]; rfl
        have e2 : probeSent l j = sentC l j := by unfold probeSent; rw [if_pos ⟨hV, hin⟩]; rfl
        have e3 : probeCode l j = 0 := by unfold probeCode; rw [if_pos hV, if_pos hin]
        unfold ProRes
        rw [e1, e2, e3]
        have hcall : Hid (∀ w1, Below w.heap.size w w1 → Calls Try.prog 24 #[.pointer (some ⟨w1.heap.size, 0, none⟩), .int .i64 (j : Int)] (w1.alloc (.cells #[.slice A l.length cap, .int .i64 (j : Int), .int .u32 0, .bool false, .int .i64 0] 43)) (ChdRes w1 w.heap.size A cap l j)) := fun w1 hB => chase_any hV hj w1 hB.size (hq.below hB)
        clear hq hF hV hcode e1 e2 e3
        go_enter Try.func14, Try.ntmps14
        go_wp2_with fail
        refine hchk.out.mono ?_
        rintro e w1 ⟨rfl, hB1⟩
        have hcc := Lib.hid (hcall.out w1 hB1)
        clear hcall hchk
        go_wp2_with fail
        refine hcc.out.mono ?_
        rintro e w3 ⟨rfl, c3, c4, hB3⟩
        go_wp2_with fail
        go_region
        go_wp2_with fail
        go_ret3
        exact ⟨rfl, (hB1.trans hB3).drew⟩
  · have hcode : waitCode l ≠ 0 := fun h => hV ((waitCode_iff l).1 h)
    have e1 : probeBack l i = false := by unfold probeBack; rw [if_neg fun h => hV h.1]
    have e2 : probeSent l i = 0 := by unfold probeSent; rw [if_neg fun h => hV h.1]
    have e3 : probeCode l i = waitCode l := by unfold probeCode; rw [if_neg hV]
    unfold ProRes
    rw [e1, e2, e3]
    generalize waitCode l = x at *
    have hx1 : (x != 0) = true := by simpa using hcode
    clear hq hV hF e1 e2 e3
    go_enter Try.func14, Try.ntmps14
    go_wp2_with fail
    refine hchk.out.mono ?_
    rintro e w1 ⟨rfl, hB1⟩
    go_wp2_with fail
    go_ret3
    exact ⟨rfl, hB1⟩

#print axioms recd_step
#print axioms send_all
#print axioms probe_any
end Go.Proofs.Ytilnbebklchikaa
