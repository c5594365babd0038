/-
  The contract of run.Again.
-/
import Derived.Test.YtiokfehckhbnaaaAgr
import Derived.Test.YtiokfehckhbnaaaPerm
import Derived.Test.YtiokfehckhbnaaaChk
import Derived.Test.YtiokfehckhbnaaaLin
namespace Go.Proofs.Ytiokfehckhbnaaa
open Go.RowKit Go.Maps

theorem info41 : (Try.prog.info? 37).map (fun i => (i.zero, i.size, i.bytes)) = some (some (.agg #[.int .i64 0, .int .i64 0, .int .i64 0]), 3, 24) := by kernel_rfl

def EvAt (xs : List Value) (i : Nat) (e : Ev) : Prop := xs[i * 3]? = some (.int .i64 e.p) ∧ xs[i * 3 + 1]? = some (.int .i64 e.k) ∧ xs[i * 3 + 2]? = some (.int .i64 e.m)

def MvRel (l : List Ev) (o : List Nat) (w : World) (g k : Nat) (wr : World) : Prop :=
  ∃ xs, Row wr g 37 xs ∧ xs.length = l.length * 3 ∧ (∀ i, i < k → EvAt xs i (ev l (o.getD i 0))) ∧ Below w.heap.size w wr

theorem EvAt.set {xs : List Value} {i k : Nat} {e : Ev} (h : EvAt xs i e) (hik : i < k) (a b c : Value) : EvAt (((xs.set (k * 3) a).set (k * 3 + 1) b).set (k * 3 + 2) c) i e := by
  unfold EvAt at h ⊢
  rw [List.getElem?_set_ne (by omega), List.getElem?_set_ne (by omega), List.getElem?_set_ne (by omega), List.getElem?_set_ne (by omega), List.getElem?_set_ne (by omega), List.getElem?_set_ne (by omega), List.getElem?_set_ne (by omega), List.getElem?_set_ne (by omega), List.getElem?_set_ne (by omega)]
  exact h
theorem EvAt.new (xs : List Value) (k : Nat) (e : Ev) (h : k * 3 + 2 < xs.length) : EvAt (((xs.set (k * 3) (.int .i64 e.p)).set (k * 3 + 1) (.int .i64 e.k)).set (k * 3 + 2) (.int .i64 e.m)) k e := by
  unfold EvAt
  refine ⟨?_, ?_, ?_⟩
  · rw [List.getElem?_set_ne (by omega), List.getElem?_set_ne (by omega), List.getElem?_set_self (by omega)]
  · rw [List.getElem?_set_ne (by omega), List.getElem?_set_self (by simp; omega)]
  · rw [List.getElem?_set_self (by simp; omega)]

set_option maxHeartbeats 1000000 in
theorem again_main (A A' : Option Addr) (cap cap' : Nat) (l : List Ev) (o : List Nat) (n : Int) (w : World) (hE : Evs w w.heap.size A l) (hF : Fits l) (hO : Nums w w.heap.size A' (o.map Int.ofNat)) (h0 : checkCode n l = 0) (hp : permB (o.map Int.ofNat) l.length = true) (hol : o.length = l.length) (hin : ∀ i, (h : i < o.length) → o[i] < o.length)
    (C : Bool) (hC : Hid (C = true ↔ checkCode n (mv l o) = 0 ∧ ∀ k m, k < o.length → m < o.length → bitAt l (o.getD m 0) (o.getD k 0) = bitAt (mv l o) m k)) :
    Calls Try.prog 20 #[.int .i64 n, .slice A l.length cap, .slice A' o.length cap'] w fun e w' => e = .returned (.tuple #[.bool C, .int .i64 0]) ∧ Below w.heap.size w w' := by
  have h30 := (check_small h0).2.2
  have hl : l.length ≤ maxLen := by unfold maxLen; omega
  have hb0 : (checkCode n l != 0) = false := by simp [h0]
  have hpm := permutes_any A' cap' (o.map Int.ofNat) l.length
  rw [List.length_map] at hpm
  have hpmH := Lib.hid hpm
  have hinH := Lib.hid hin
  have holH := Lib.hid hol
  have hole : o.length ≤ l.length := by omega
  have hole' : l.length ≤ o.length := by omega
  clear h0 hpm hin hol
  obtain ⟨i0, hi0, hz0, hz1, hz2⟩ := info_parts info41
  have hz2' : i0.bytes * l.length ≤ 281474976710656 := by rw [hz2]; omega
  have hHi := Lib.hid hi0; have hHz := Lib.hid hz0; have hHs := Lib.hid hz1
  clear hi0 hz0 hz1 hz2
  go_enter Try.func20, Try.ntmps20
  go_wp2_with fail
  refine (check_any A cap l n _ hE hF hl).mono ?_
  rintro e w1 ⟨rfl, hB1⟩
  go_wp2_with fail
  refine (hpmH.out w1 ((hO.below hB1).more hB1.size) h30).mono ?_
  rintro e w2 ⟨rfl, hB2'⟩
  have hB2 := hB1.trans (hB2'.mono hB1.size)
  clear hB2' hB1
  go_wp2_with (first
    | (at_make; refine wpList_make_rows _ rfl _ _ 22 rfl 37 i0 (.agg #[.int .i64 0, .int .i64 0, .int .i64 0]) 3 Try.underlying22 hHi.out hHz.out hHs.out .i64 .i64 _ _ l.length rfl rfl rfl rfl hz2' (by unfold maxLen; omega) ?_; intro w3 xs0 hR0 hx0 hG0))
  have hB3 : Below w.heap.size w w3 := hB2.grown hG0 hB2.size (by simp)
  have hw2 := hB2.size
  generalize w2.heap.size = g at *
  go_loopw [28] (fun i wr => ∃ k : Nat, k ≤ l.length ∧ i = .int .i64 k ∧ MvRel l o w g k wr) (fun i _ => l.length - (intOf i).toNat)
  case atStart => exact ⟨0, Nat.zero_le _, rfl, xs0, hR0, hx0, fun i hi => absurd hi (Nat.not_lt_zero _), hB3⟩
  case round =>
    obtain ⟨k, hk, rfl, xs, hR, hxl, hall, hB⟩ := hrel
    have hallH := Lib.hid hall
    have hxlH := Lib.hid hxl
    clear hall hxl
    by_cases hlt : k < l.length
    · obtain ⟨b', off', rfl, hb', hc'⟩ := hO.below hB (by simp; omega)
      have d0 := hc' k (by simp; omega)
      simp only [List.getElem_map] at d0
      have hik := hinH.out k (by omega)
      have hok : Hid (o.getD k 0 = o[k]) := by unfold Hid; simp [show k < o.length by omega]
      clear hc'
      generalize o[k] = i at *
      have hil : i < l.length := by omega
      obtain ⟨b, off, rfl, hb, hc⟩ := hE.below hB (by omega)
      obtain ⟨c0, c1, c2⟩ := hc i hil
      have hev := Lib.hid (ev_get l hil)
      clear hc
      generalize l[i] = ee at *
      obtain ⟨p, kd, m⟩ := ee
      simp only at c0 c1 c2
      obtain ⟨v0, x0⟩ : ∃ v, wr.cell? ⟨g, k * 3, none⟩ = some v := ⟨_, hR.cell (by rw [hxlH.out]; omega)⟩
      obtain ⟨v1, x1⟩ : ∃ v, wr.cell? ⟨g, k * 3 + 1, none⟩ = some v := ⟨_, hR.cell (by rw [hxlH.out]; omega)⟩
      obtain ⟨v2, x2⟩ : ∃ v, wr.cell? ⟨g, k * 3 + 2, none⟩ = some v := ⟨_, hR.cell (by rw [hxlH.out]; omega)⟩
      have f0 := hR.frozen (k * 3)
      have f1 := hR.frozen (k * 3 + 1)
      have f2 := hR.frozen (k * 3 + 2)
      have hR2 := ((hR.set (k * 3) (.int .i64 p)).set (k * 3 + 1) (.int .i64 kd)).set (k * 3 + 2) (.int .i64 m)
      have hB2 := ((hB.setCell (p := ⟨g, k * 3, none⟩) hw2 (.int .i64 p)).setCell (p := ⟨g, k * 3 + 1, none⟩) hw2 (.int .i64 kd)).setCell (p := ⟨g, k * 3 + 2, none⟩) hw2 (.int .i64 m)
      go_wp2_with fail
      go_roundw
      case rel =>
        refine ⟨k + 1, by omega, by go_num, _, hR2, by simp only [List.length_set]; exact hxlH.out, fun j hj => ?_, hB2⟩
        by_cases hjk : j = k
        · subst hjk
          rw [hok.out, hev.out]
          exact EvAt.new xs j ⟨p, kd, m⟩ (by rw [hxlH.out]; omega)
        · exact (hallH.out j (by omega)).set (by omega) _ _ _
      case measure => simp [intOf]; omega
    · have hkl : k = l.length := by omega
      subst hkl
      have hE2 : Evs wr wr.heap.size (some ⟨g, 0, none⟩) (mv l o) := by
        intro _
        refine ⟨g, 0, rfl, hR.lt, fun i hi => ?_⟩
        have hio : i < o.length := by simpa [mv] using hi
        have hat := hallH.out i (by omega)
        have hmi : (mv l o)[i] = ev l (o.getD i 0) := by simp [mv, hio]
        have hcel : ∀ j, j < xs.length → wr.cell? ⟨g, 0 + j, none⟩ = xs[j]? := fun j hj => by rw [Nat.zero_add, hR.cell hj]; simp [hj]
        have h3 : i * 3 + 2 < xs.length := by rw [hxlH.out]; omega
        rw [hmi]
        refine ⟨?_, ?_, ?_⟩
        · rw [hcel _ (by omega)]; exact hat.1
        · rw [Nat.add_assoc, hcel _ (by omega)]; exact hat.2.1
        · rw [Nat.add_assoc, hcel _ (by omega)]; exact hat.2.2
      have hF2 : Fits (mv l o) := by
        intro e he
        unfold mv at he
        rw [List.mem_map] at he
        obtain ⟨i, hi, rfl⟩ := he
        obtain ⟨j, hj, rfl⟩ := List.getElem_of_mem hi
        have := hinH.out j hj
        rw [ev_get l (by omega)]
        exact hF _ (List.getElem_mem _)
      have hml : (mv l o).length = l.length := by unfold mv; rw [List.length_map]; exact holH.out
      have hck := check_any (some ⟨g, 0, none⟩) l.length (mv l o) n wr hE2 hF2 (by rw [hml]; exact hl)
      rw [hml] at hck
      have hckH := Lib.hid hck
      have hmlH := Lib.hid hml
      clear hck hml
      by_cases hm0 : checkCode n (mv l o) = 0
      · have hbm : (checkCode n (mv l o) != 0) = false := by simp [hm0]
        have hC2 : Hid (C = true ↔ ∀ k m, k < o.length → m < o.length → ((pasts l).getD (o.getD k 0) 0).testBit (o.getD m 0) = ((pasts (mv l o)).getD k 0).testBit m) := by
          unfold Hid
          rw [hC.out]
          exact ⟨fun h => h.2, fun h => ⟨hm0, h⟩⟩
        clear hm0
        go_wp2_with fail
        refine hckH.out.mono ?_
        rintro e w4 ⟨rfl, hB4'⟩
        have hB4 := hB.trans (hB4'.mono hB.size)
        have hE4 := (hE2.below hB4').more hB4'.size
        clear hE2 hB4'
        go_wp2_with fail
        refine (pasts_any A cap l _ ((hE.below hB4).more hB4.size) hF h30).mono ?_
        rintro e w5 ⟨rfl, hR5, hB5'⟩
        have hB5 := hB4.trans (hB5'.mono hB4.size)
        have hE5 := (hE4.below hB5').more hB5'.size
        clear hE4 hB5'
        generalize w4.heap.size = g1 at *
        have hps := pasts_any (some ⟨g, 0, none⟩) l.length (mv l o) w5 hE5 hF2 (by rw [hmlH.out]; exact h30)
        rw [hmlH.out] at hps
        have hpsH := Lib.hid hps
        clear hps
        go_wp2_with fail
        refine hpsH.out.mono ?_
        rintro e w6 ⟨rfl, hR6, hB6'⟩
        have hB6 := hB5.trans (hB6'.mono hB5.size)
        have hR56 := hR5.below hB6' hR5.lt
        clear hE5 hB6' hpsH hR5
        generalize w5.heap.size = g2 at *
        have hag := agree_any g1 g2 A' l.length l.length cap' (pasts l) (pasts (mv l o)) o w6 hR56 hR6 (past_lt l h30) (past_lt (mv l o) (by rw [hmlH.out]; exact h30)) ((hO.below hB6).more hB6.size) (by omega)
          (by rw [pasts_len]; exact holH.out.symm) (by rw [pasts_len, hmlH.out]; exact holH.out.symm) hinH.out C hC2
        rw [pasts_len, pasts_len, hmlH.out] at hag
        have hagH := Lib.hid hag
        clear hag
        go_wp2_with fail
        refine hagH.out.mono ?_
        rintro e w7 ⟨rfl, hB7'⟩
        have hB7 := hB6.trans (hB7'.mono hB6.size)
        go_wp2_with fail
        go_ret2
        exact ⟨rfl, hB7⟩
      · have hbm : (checkCode n (mv l o) != 0) = true := by simp [hm0]
        have hf : Hid (C = false) := by
          unfold Hid
          rw [← Bool.not_eq_true, hC.out]
          exact fun h => hm0 h.1
        clear hm0
        go_wp2_with fail
        refine hckH.out.mono ?_
        rintro e w4 ⟨rfl, hB4'⟩
        have hB4 := hB.trans (hB4'.mono hB.size)
        go_wp2_with fail
        go_ret2
        exact ⟨by rw [hf.out]; rfl, hB4⟩

set_option maxHeartbeats 400000 in
theorem again_perm (A A' : Option Addr) (cap cap' : Nat) (l : List Ev) (o : List Int) (n : Int) (w : World) (hE : Evs w w.heap.size A l) (hF : Fits l) (hO : Nums w w.heap.size A' o) (h0 : checkCode n l = 0) (hp : permB o l.length = false) :
    Calls Try.prog 20 #[.int .i64 n, .slice A l.length cap, .slice A' o.length cap'] w fun e w' => e = .returned (.tuple #[.bool false, .int .i64 3]) ∧ Below w.heap.size w w' := by
  have h30 := (check_small h0).2.2
  have hl : l.length ≤ maxLen := by unfold maxLen; omega
  have hb0 : (checkCode n l != 0) = false := by simp [h0]
  clear h0
  go_enter Try.func20, Try.ntmps20
  go_wp2_with fail
  refine (check_any A cap l n _ hE hF hl).mono ?_
  rintro e w1 ⟨rfl, hB1⟩
  go_wp2_with fail
  refine (permutes_any A' cap' o l.length _ ((hO.below hB1).more hB1.size) h30).mono ?_
  rintro e w2 ⟨rfl, hB2'⟩
  have hB2 := hB1.trans (hB2'.mono hB1.size)
  go_wp2_with fail
  go_ret2
  exact ⟨rfl, hB2⟩

set_option maxHeartbeats 400000 in
theorem again_no (A A' : Option Addr) (cap cap' m : Nat) (l : List Ev) (n : Int) (w : World) (hE : Evs w w.heap.size A l) (hF : Fits l) (hl : l.length ≤ maxLen) (h0 : ¬ checkCode n l = 0) :
    Calls Try.prog 20 #[.int .i64 n, .slice A l.length cap, .slice A' m cap'] w fun e w' => e = .returned (.tuple #[.bool false, .int .i64 (checkCode n l)]) ∧ Below w.heap.size w w' := by
  have hb0 : (checkCode n l != 0) = true := by simp [h0]
  clear h0
  go_enter Try.func20, Try.ntmps20
  go_wp2_with fail
  refine (check_any A cap l n _ hE hF hl).mono ?_
  rintro e w1 ⟨rfl, hB1⟩
  go_wp2_with fail
  go_ret2
  exact ⟨rfl, hB1⟩

theorem again_ext (A A' : Option Addr) (cap cap' : Nat) (l : List Ev) (o : List Nat) (n : Int) (w : World) (hE : Evs w w.heap.size A l) (hF : Fits l) (hO : Nums w w.heap.size A' (o.map Int.ofNat)) (h0 : checkCode n l = 0) (hp : Perm o l.length)
    (C : Bool) (hC : C = true ↔ Ext l o) :
    Calls Try.prog 20 #[.int .i64 n, .slice A l.length cap, .slice A' l.length cap'] w fun e w' => e = .returned (.tuple #[.bool C, .int .i64 0]) ∧ Below w.heap.size w w' := by
  have := again_main A A' cap cap' l o n w hE hF hO h0 (of_perm hp) hp.len (fun i hi => by rw [hp.len]; exact hp.lt _ (List.getElem_mem hi)) C (by unfold Hid; rw [hC, again_iff h0 hp])
  rw [hp.len] at this
  exact this

#print axioms again_ext
end Go.Proofs.Ytiokfehckhbnaaa
