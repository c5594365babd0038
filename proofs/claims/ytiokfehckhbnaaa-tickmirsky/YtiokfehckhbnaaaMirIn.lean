/-
  The walk of the law TickMirsky where the two events are there.
-/
import Derived.Test.YtiokfehckhbnaaaTicks
import Derived.Test.YtiokfehckhbnaaaLng
import Derived.Test.YtiokfehckhbnaaaMost
import Derived.Test.YtiokfehckhbnaaaIns
import Derived.Test.YtiokfehckhbnaaaRan
import Derived.Test.YtiokfehckhbnaaaAhd
import Derived.BigQuiet
import Derived.Deep.QuietTactic
import Derived.StillTailTactics
import Derived.Lib.QuietBelow
import Derived.Deep.RegionHeld3
namespace Go.Proofs.Ytiokfehckhbnaaa
open Go.RowKit Go.Maps

set_option maxHeartbeats 8000000 in
set_option maxRecDepth 100000 in
theorem mirsky_in (w : World) (n : Int) (A : Option Addr) (cap : Nat) (l : List Ev) (hE : Evs w w.heap.size A l) (hF : Fits l) (hcap : l.length ≤ cap) (i j : Int) (h0 : checkCode n l = 0) (hij : (0 ≤ i ∧ i < l.length) ∧ (0 ≤ j ∧ j < l.length)) :
    Calls Try.prog 8 #[.int .i64 n, .slice A l.length cap, .int .i64 i, .int .i64 j] w fun e w' => e = .returned (.bool true) ∧ Below w.heap.size w w' := by
  have hr : (checkCode n l == 0) = true := by simp [h0]
  have h30 := (check_small h0).2.2
  have hl : l.length ≤ maxLen := by unfold maxLen; omega
  have h0H := Lib.hid h0
  clear h0
  go_enter Try.func8, Try.ntmps8
  go_wp2_with fail
  refine (tticks_ok A cap l n _ hE hF h0H.out).mono ?_
  rintro e w1 ⟨g1, T1, rfl, hR1, hT1, hle1, _, hB1⟩
  go_wp2_with fail
  refine (tlongest_ok A cap l n _ ((hE.below hB1).more hB1.size) hF h0H.out).mono ?_
  rintro e w2 ⟨Ac, cc, out, D, M, rfl, hD, hM, hMl, hCh, hoM, hN2, hB2'⟩
  have hR2 : NatRow w2 g1 l.length T1 := Row.below hR1 hB2' (Row.lt hR1)
  have hB2 := hB1.trans (hB2'.mono hB1.size)
  have hmax : Hid (maxTo T1 l.length = out.length) := by
    unfold Hid
    rw [hoM]
    exact (most_same hT1 hD hM (maxTo_most T1 l.length hT1.one)).symm
  have hol : out.length ≤ 30 := by omega
  clear hB2' hB1 hR1 hoM hM hD hMl
  go_wp2_with fail
  refine (ran_any A cap l n _ ((hE.below hB2).more hB2.size) hcap hl).mono ?_
  rintro e w3 ⟨rfl, hB3'⟩
  have hR3 : NatRow w3 g1 l.length T1 := Row.below hR2 hB3' (Row.lt hR2)
  have hN3 := (hN2.below hB3').more hB3'.size
  have hB3 := hB2.trans (hB3'.mono hB2.size)
  have hin : Hid (inB l.length (out.map Int.ofNat) = true) := by
    unfold Hid inB
    rw [List.all_eq_true]
    intro x hx
    rw [List.mem_map] at hx
    obtain ⟨y, hy, rfl⟩ := hx
    obtain ⟨t, ht, rfl⟩ := List.getElem_of_mem hy
    have := (hCh.at_ t ht).lt
    simp
    omega
  have hpair : Hid (∀ k, (h : k + 1 < out.length) → bitAt l out[k] out[k + 1] = true) := fun k h => by
    have hp := hCh.at_ (k + 1) h
    refine (bit_hb h0H.out _ hp.lt).2 (hp.on _ ?_)
    unfold lastAt
    rw [if_neg (by omega), Nat.add_sub_cancel, List.getElem?_eq_getElem (by omega)]
  have hlt : Hid (∀ k, (h : k < out.length) → out[k] < l.length) := fun k h => (hCh.at_ k h).lt
  have hins := inside_any Ac cc (out.map Int.ofNat) l.length w3 hN3 (by simp; omega) true hin
  rw [List.length_map] at hins
  have hleH := Lib.hid hle1
  have hupH := Lib.hid hT1.up
  clear hB3' hB2 hR2 hN2 hCh hle1 hT1
  go_wp2_with fail
  refine hins.mono ?_
  rintro e w4 ⟨rfl, rfl⟩
  clear hins
  go_wp2_with fail
  go_loop [13, 65] (fun m t => ∃ k : Nat, k ≤ l.length ∧ t = .int .i64 k ∧ m = .int .i64 (maxTo T1 k : Nat)) (fun _ t => l.length - (intOf t).toNat)
  case atStart => exact ⟨0, Nat.zero_le _, rfl, rfl⟩
  case round =>
    obtain ⟨k, hk, rfl, rfl⟩ := hrel
    have hmk := maxTo_le hleH.out k hk
    by_cases hkl : k < l.length
    · have c0 := hR3.at_ hkl
      have t2 := hleH.out k hkl
      have hstep : Hid (maxTo T1 (k + 1) = max (maxTo T1 k) (T1 k)) := rfl
      generalize hmm : maxTo T1 k = m at *
      have hmmH := Lib.hid hmm
      clear hmm
      generalize T1 k = t at *
      by_cases hgt : m < t
      · have hd : decide (m < t) = true := by simp [hgt]
        have hn : Hid (maxTo T1 (k + 1) = t) := by unfold Hid; rw [hstep.out]; omega
        go_wp2_with fail
        go_round
        case rel => exact ⟨k + 1, by omega, by go_num, int_eq hn.out.symm⟩
        case measure => simp [intOf]; omega
      · have hd : decide (m < t) = false := by simp; omega
        have hn : Hid (maxTo T1 (k + 1) = m) := by unfold Hid; rw [hstep.out]; omega
        go_wp2_with fail
        go_round
        case rel => exact ⟨k + 1, by omega, by go_num, int_eq hn.out.symm⟩
        case measure => simp [intOf]; omega
    · have hkl' : k = l.length := by omega
      subst hkl'
      rw [hmax.out]
      go_wp2_with fail
      go_loopw [16] (fun t wr => ∃ k : Nat, 1 ≤ k ∧ (k ≤ out.length ∨ k = 1) ∧ t = .int .i64 k ∧ Below w3.heap.size w3 wr) (fun t _ => out.length - (intOf t).toNat)
      case atStart => exact ⟨1, by omega, .inr rfl, rfl, Below.refl _ _⟩
      case round =>
        obtain ⟨k, hk1, hk2, rfl, hB⟩ := hrel
        have hBw := hB3.trans (hB.mono hB3.size)
        by_cases hko : k < out.length
        · obtain ⟨b, off, rfl, hb, hc⟩ := hN3.below hB (by simp; omega)
          have x1 := hc (k - 1) (by simp; omega)
          have x2 := hc k (by simpa using hko)
          simp only [List.getElem_map, Int.ofNat_eq_natCast] at x1 x2
          have hp : bitAt l (out[k - 1]'(by omega)) out[k] = true := by
            have h2 := hpair.out (k - 1) (by omega)
            have hkk : k - 1 + 1 = k := by omega
            simpa only [hkk] using h2
          have hl1 := hlt.out (k - 1) (by omega)
          have hl2 := hlt.out k hko
          clear hc
          have hq1 : (k : Int) < (out.length : Int) := by omega
          have hq2 : (k : Int) - 1 < (out.length : Int) := by omega
          have hq3 : (0 : Int) ≤ (k : Int) - 1 := by omega
          have hq4 : (1 : Int) ≤ (k : Int) := by omega
          generalize out[k - 1]'(by omega) = a1 at *
          generalize out[k] = a2 at *
          have hwr : IntKind.i64.wrap ((k : Int) - 1) = (k : Int) - 1 := by rw [IntKind.wrap_i64]; omega
          have htn : ((k : Int) - 1).toNat = k - 1 := by omega
          have y1 := cell_regrown x1
          have y2 := cell_regrown x2
          have cA : ∀ d os, Calls Try.prog 18 #[.int .i64 n, .slice A l.length cap, .int .i64 (a1 : Int), .int .i64 (a2 : Int)] (Sort.grow (redrawn wr d) os) fun e w'' => e = .returned (.tuple #[.bool true, .int .i64 0]) ∧ ∃ p : Regrown, w'' = Sort.grow (redrawn wr p.d) p.os := fun d os => Calls.regrown_of (by
            have hB2 := hBw.trans ((below_regrown wr d os).mono hBw.size)
            have hah := ahead_ok A cap l n a1 a2 _ ((hE.below hB2).more hB2.size) hF h0H.out hl1 hl2
            rw [hp] at hah
            exact hah)
          have cAH := Lib.hid cA
          clear x1 x2 hp cA
          go_wp2_with fail
          refine wp_region_quiet_below (by kernel_rfl) (by kernel_rfl) ?_
          repeat (quiet_step (exact cAH.out _ _))
          refine wpQuiet_nil ?_
          intro _ hw'
          obtain ⟨⟨dq, osq⟩, hw''⟩ := hw'
          subst hw''
          have hBq := hB.trans ((below_regrown wr dq osq).mono hB.size)
          generalize Sort.grow (redrawn wr dq) osq = w7 at *
          clear y1 y2
          go_wp2_with fail
          go_roundw
          case rel => exact ⟨k + 1, by omega, by omega, by go_num, hBq⟩
          case measure => simp [intOf]; omega
        · clear hpair hin
          have hR5 : NatRow wr g1 l.length T1 := Row.below hR3 hB (Row.lt hR3)
          have hdk : decide ((k : Int) < (out.length : Int)) = false := by simp; omega
          have hdk' : decide (k < out.length) = false := by simp; omega
          clear hN3 hR3
          obtain ⟨x, rfl⟩ := Int.eq_ofNat_of_zero_le hij.1.1
          obtain ⟨y, rfl⟩ := Int.eq_ofNat_of_zero_le hij.2.1
          have hx : x < l.length := by omega
          have hy : y < l.length := by omega
          have hxI : (x : Int) < (l.length : Int) := by omega
          have hyI : (y : Int) < (l.length : Int) := by omega
          have hin2 : Hid (inB l.length [(x : Int), (y : Int)] = true) := by unfold Hid inB; simp; omega
          have hcall := inside_any (some ⟨wr.heap.size, 0, none⟩) 2 [(x : Int), (y : Int)] l.length (wr.alloc (.cells #[.int .i64 (x : Int), .int .i64 (y : Int)] 3)).drew (nums2 wr (x : Int) (y : Int) 3) (by simp) true hin2
          have hcallH := Lib.hid hcall
          clear hcall
          have z1 := hR5.at_ hx
          have z2 := hR5.at_ hy
          have hnb : Hid (T1 x = T1 y → bitAt l x y = false) := fun he => bit_none h0H.out hy (fun hh => by have := hupH.out x y hy hh; omega)
          clear hij
          generalize hTx : T1 x = tx at *
          generalize hTy : T1 y = ty at *
          clear hTx hTy
          by_cases heq : tx = ty
          · subst heq
            have hbf := hnb.out rfl
            go_wp2_with fail
            go_region_held3 (fun w' => w'.cell? ⟨g1, x, none⟩ = some (.int .i64 (tx : Int)) ∧ w'.cell? ⟨g1, y, none⟩ = some (.int .i64 (tx : Int))) (first | go_keep) (first | (go_at_call 19; refine (hcallH.out).mono ?_; rintro e w9 ⟨rfl, rfl⟩))
            have hB9 : Below w.heap.size w (wr.alloc (.cells #[.int .i64 (x : Int), .int .i64 (y : Int)] 3)).drew := (hBw.alloc hBw.size _).drew
            generalize (wr.alloc (.cells #[.int .i64 (x : Int), .int .i64 (y : Int)] 3)).drew = w9 at *
            have hah := ahead_ok A cap l n x y w9 ((hE.below hB9).more hB9.size) hF h0H.out hx hy
            rw [hbf] at hah
            clear hbf
            go_wp2_with fail
            refine hah.mono ?_
            rintro e w10 ⟨rfl, hB10'⟩
            have hB10 := hB9.trans (hB10'.mono hB9.size)
            go_wp2_with fail
            go_ret
            exact ⟨rfl, hB10⟩
          · have hb1 : ((tx : Int) != (ty : Int)) = true := by simp; omega
            have hb2 : (tx != ty) = true := by simp; omega
            clear heq hnb
            go_wp2_with fail
            go_region_held3 (fun w' => w'.cell? ⟨g1, x, none⟩ = some (.int .i64 (tx : Int)) ∧ w'.cell? ⟨g1, y, none⟩ = some (.int .i64 (ty : Int))) (first | go_keep) (first | (go_at_call 19; refine (hcallH.out).mono ?_; rintro e w9 ⟨rfl, rfl⟩))
            have hB9 : Below w.heap.size w (wr.alloc (.cells #[.int .i64 (x : Int), .int .i64 (y : Int)] 3)).drew := (hBw.alloc hBw.size _).drew
            generalize (wr.alloc (.cells #[.int .i64 (x : Int), .int .i64 (y : Int)] 3)).drew = w9 at *
            go_wp2_with fail
            go_ret
            exact ⟨rfl, hB9⟩

#print axioms mirsky_in
end Go.Proofs.Ytiokfehckhbnaaa
