/-
  The contract of vector.Vectors.
-/
import Derived.Test.YtpofmhlmaejmoaaVMem
import Derived.Test.YtpofmhlmaejmoaaChk
namespace Go.Proofs.Ytpofmhlmaejmoaa
open Go.RowKit Go.Maps

theorem infoInts : (Try.prog.info? 23).map (fun i => (i.zero, i.size, i.bytes)) = some (some (.slice none 0 0), 1, 24) := by kernel_rfl
theorem zeroInts (w : World) : (zeroValue 23).run Try.prog w = .ok (.slice none 0 0) w := by kernel_rfl

set_option maxHeartbeats 800000 in
theorem vectors_no (A : Option Addr) (cap : Nat) (l : List Ev) (n : Int) (w : World) (hE : Evs w w.heap.size A l) (hF : Fits l) (hl : l.length ≤ maxLen) (h0 : ¬ checkCode n l = 0) :
    Calls Try.prog 31 #[.int .i64 n, .slice A l.length cap] w fun e w' => e = .returned (.tuple #[.slice none 0 0, .int .i64 (checkCode n l)]) ∧ Below w.heap.size w w' := by
  have hb0 : (checkCode n l != 0) = true := by simp [h0]
  have h0H := Lib.hid h0
  clear h0
  go_enter Try.func31, Try.ntmps31
  go_wp2_with fail
  refine (check_any A cap l n _ hE hF hl).mono ?_
  rintro e w1 ⟨rfl, hB1⟩
  go_wp2_with fail
  go_ret2
  exact ⟨rfl, hB1⟩

/-- All vectors are laid, and no error. -/
def VecRes (l : List Ev) (c : Nat) (w : World) (e : Ending) (w' : World) : Prop :=
  ∃ T gs, e = .returned (.tuple #[.slice (some ⟨T, 0, none⟩) l.length l.length, .int .i64 0]) ∧ VOut l c T gs w' ∧ Below w.heap.size w w'

def VvRel (l : List Ev) (c : Nat) (w : World) (T L M : Nat) (k : Nat) (wr : World) : Prop :=
  ∃ gs, VMem l c T L M gs k wr ∧ MapV Try.prog wr 3 (.slice none 0 0) M k (fun m => slotV c gs (sends l k m)) ∧ Below w.heap.size w wr

theorem new3_0 {w : World} {g : Nat} (a b c : Value) (t : TypeId) (h : g = w.heap.size) : (w.alloc (.cells #[a, b, c] t)).cell? ⟨g, 0, none⟩ = some a := by subst h; simp [World.cell?_alloc_new]
theorem new3_1' {w : World} {g : Nat} (a b c : Value) (t : TypeId) (h : g = w.heap.size) : (w.alloc (.cells #[a, b, c] t)).cell? ⟨g, 1, none⟩ = some b := by subst h; simp [World.cell?_alloc_new]
theorem new3_2' {w : World} {g : Nat} (a b c : Value) (t : TypeId) (h : g = w.heap.size) : (w.alloc (.cells #[a, b, c] t)).cell? ⟨g, 2, none⟩ = some c := by subst h; simp [World.cell?_alloc_new]

theorem cell_far (w : World) {a b : Addr} (h : b.block ≠ a.block) (u : Value) : (w.setCell a u).cell? b = w.cell? b := World.cell?_of_block (Below.heap_setCell w a u b.block h)

/-- The memory behind a round's stores: the number of its own process raised, the vector laid into the result and as the latest. -/
theorem tail_mem {l : List Ev} {c T L M : Nat} {gs : Nat → Nat} {k q g : Nat} {w0 w : World} {B : Nat → Nat} (hV : VMem l c T L M gs k w) (hM : MapV Try.prog w 3 (.slice none 0 0) M k (fun m => slotV c gs (sends l k m))) (hB : Below w0.heap.size w0 w) (hk : k < l.length) (hq : q < c) (hp : (ev l k).p = (q : Int)) (hg : M < g) (hT : w0.heap.size ≤ T) (hgs : ∀ i, i < k → gs i ≠ g) (hR : IntRow w g c (fun x => (B x : Int))) (hst : ∀ x : Nat, x < c → vec l k (x : Int) = B x + if (q : Int) = (x : Int) then 1 else 0) {a : Nat} (ha : B q = a) :
    (∃ v, (w.setCell ⟨g, q, none⟩ (.int .i64 ((a : Int) + 1))).cell? ⟨T, k, none⟩ = some v) ∧ (w.setCell ⟨g, q, none⟩ (.int .i64 ((a : Int) + 1))).frozen? ⟨T, k, none⟩ = false ∧
    (∃ v, ((w.setCell ⟨g, q, none⟩ (.int .i64 ((a : Int) + 1))).setCell ⟨T, k, none⟩ (.slice (some ⟨g, 0, none⟩) c c)).cell? ⟨L, q, none⟩ = some v) ∧ ((w.setCell ⟨g, q, none⟩ (.int .i64 ((a : Int) + 1))).setCell ⟨T, k, none⟩ (.slice (some ⟨g, 0, none⟩) c c)).frozen? ⟨L, q, none⟩ = false ∧
    VMem l c T L M (hput gs k g) (k + 1) (((w.setCell ⟨g, q, none⟩ (.int .i64 ((a : Int) + 1))).setCell ⟨T, k, none⟩ (.slice (some ⟨g, 0, none⟩) c c)).setCell ⟨L, q, none⟩ (.slice (some ⟨g, 0, none⟩) c c)) ∧
    MapV Try.prog (((w.setCell ⟨g, q, none⟩ (.int .i64 ((a : Int) + 1))).setCell ⟨T, k, none⟩ (.slice (some ⟨g, 0, none⟩) c c)).setCell ⟨L, q, none⟩ (.slice (some ⟨g, 0, none⟩) c c)) 3 (.slice none 0 0) M k (fun m => slotV c gs (sends l k m)) ∧
    Below w0.heap.size w0 (((w.setCell ⟨g, q, none⟩ (.int .i64 ((a : Int) + 1))).setCell ⟨T, k, none⟩ (.slice (some ⟨g, 0, none⟩) c c)).setCell ⟨L, q, none⟩ (.slice (some ⟨g, 0, none⟩) c c)) := by
  have hord := hV.ord
  have hR2 := (hR.put q ((a : Int) + 1)).congr (A' := fun x => ((vec l k (x : Int) : Nat) : Int)) fun x hx => by
    have := hst x hx
    rw [this]
    by_cases e : x = q
    · subst e
      rw [updI_same, if_pos rfl, ha]
      simp
    · rw [updI_other _ _ e, if_neg (by omega)]
      simp
  have hV2 := hV.far hg hgs q (.int .i64 ((a : Int) + 1))
  have hL2 := hV2.lat.far (p := ⟨T, k, none⟩) (by show L ≠ T; omega) (.slice (some ⟨g, 0, none⟩) c c)
  refine ⟨hV2.topCell hk, hV2.topFrozen k, ⟨_, hL2.cell (i := q) (by rw [latRow_len]; exact hq)⟩, hL2.frozen q, hV2.push hk hp hg hgs hR2, ((hM.far (p := ⟨g, q, none⟩) (by show M ≠ g; omega) _).far (p := ⟨T, k, none⟩) (by show M ≠ T; omega) _).far (p := ⟨L, q, none⟩) (by show M ≠ L; omega) _, ((hB.setCell (p := ⟨g, q, none⟩) (by show _ ≤ g; omega) _).setCell (p := ⟨T, k, none⟩) hT _).setCell (p := ⟨L, q, none⟩) (by show _ ≤ L; omega) _⟩

set_option maxHeartbeats 4000000 in
set_option maxRecDepth 100000 in
theorem vectors_ok (A : Option Addr) (cap : Nat) (l : List Ev) (c : Nat) (w : World) (hE : Evs w w.heap.size A l) (hF : Fits l) (h0 : checkCode (c : Int) l = 0) :
    Calls Try.prog 31 #[.int .i64 (c : Int), .slice A l.length cap] w (VecRes l c w) := by
  have hb0 : (checkCode (c : Int) l != 0) = false := by simp [h0]
  obtain ⟨⟨hn1, hn2, h30⟩, hg⟩ := check_good.1 h0
  have hl : l.length ≤ maxLen := by unfold maxLen; omega
  have h0H := Lib.hid h0
  clear h0
  have hmm := @run_makeMap Try.prog
  obtain ⟨i0, hi0, hz0, hz1, hz2⟩ := info_parts infoInts
  have b0 : i0.bytes * l.length ≤ 281474976710656 := by rw [hz2]; omega
  have b1 : i0.bytes * c ≤ 281474976710656 := by rw [hz2]; omega
  have hHi := Lib.hid hi0; have hHz := Lib.hid hz0; have hHs := Lib.hid hz1
  clear hi0 hz0 hz1 hz2
  obtain ⟨j0, hi0, hz0, hz1, hz2⟩ := info_parts infoInt
  have b2 : j0.bytes * c ≤ 281474976710656 := by rw [hz2]; omega
  have hJi := Lib.hid hi0; have hJz := Lib.hid hz0; have hJs := Lib.hid hz1
  clear hi0 hz0 hz1 hz2
  have hgH := Lib.hid hg
  clear hg
  go_enter Try.func31, Try.ntmps31
  go_wp2_with fail
  refine (check_any A cap l (c : Int) _ hE hF hl).mono ?_
  rintro e w1 ⟨rfl, hB1⟩
  go_wp2_with (first
    | (at_make; refine wpList_make_row _ rfl (.tmp 20) _ 64 rfl 23 i0 (.slice none 0 0) Try.underlying64 hHi.out hHz.out hHs.out rfl .i64 .i64 _ _ l.length rfl rfl rfl rfl b0 (by unfold maxLen; omega) ?_; intro w2 hR2 hG2)
    | (at_make; refine wpList_make_row _ rfl (.tmp 22) _ 64 rfl 23 i0 (.slice none 0 0) Try.underlying64 hHi.out hHz.out hHs.out rfl .i64 .i64 _ _ c rfl rfl rfl rfl b1 (by unfold maxLen; omega) ?_; intro w3 hR3 hG3))
  clear hmm
  have hB2 : Below w.heap.size w w2 := hB1.grown hG2 hB1.size (by simp)
  have hB3 : Below w.heap.size w w3 := hB2.grown hG3 hB2.size (by simp)
  have hlow := hB1.size
  have hTL := hR2.lt
  have hLM := hR3.lt
  have hR2' := hR2.grown hG3 (by simp)
  rw [latRow_zero l c (fun _ => 0)] at hR3
  have hV0 : VMem l c w1.heap.size w2.heap.size w3.heap.size (fun _ => 0) 0 w3 := ⟨⟨_, hR2', by simp, fun i hi => by omega⟩, hR3, fun i hi => by omega, fun i hi => by omega, hTL, hLM⟩
  have hV1 := hV0.keep ((Below.refl _ _).alloc (Nat.le_refl _) (.map #[] 0))
  have hM1 := MapV.made Try.prog w3 3 (.slice none 0 0)
  have hB4 := hB3.alloc hB3.size (.map #[] 0)
  clear hV0 hR2' hR3 hR2 hG2 hG3 hB1 hB2 hB3
  generalize hT : w1.heap.size = T at *
  generalize hL : w2.heap.size = L at *
  generalize hMs : w3.heap.size = M at *
  clear hT hL hMs
  go_loopw [27] (fun i wr => ∃ k : Nat, k ≤ l.length ∧ i = .int .i64 k ∧ VvRel l c w T L M k wr) (fun i _ => l.length - (intOf i).toNat)
  case atStart => exact ⟨0, Nat.zero_le _, rfl, _, hV1, hM1, hB4⟩
  case round =>
    clear hV1 hM1 hB4
    obtain ⟨k, hk, rfl, gs, hV, hM, hB⟩ := hrel
    by_cases hlt : k < l.length
    · obtain ⟨b, off, rfl, hb, hc⟩ := hE.below hB (by omega)
      obtain ⟨c0, c1, c2⟩ := hc k hlt
      clear hc
      have hfit := hF l[k] (List.getElem_mem hlt)
      have hpr := hgH.out.proc k hlt
      have hev := Lib.hid (ev_get l hlt)
      rw [hev.out] at hpr
      generalize l[k] = e0 at *
      obtain ⟨p, kd, m⟩ := e0
      simp only at c0 c1 c2 hfit hpr
      have hmw : (Lit.int .i64 m).wf = true := WalkArith.wf_i64 hfit.2.2
      obtain ⟨q, rfl⟩ := Int.eq_ofNat_of_zero_le hpr.1
      have hqc : q < c := by omega
      have hqI : (q : Int) < (c : Int) := by omega
      clear hfit hpr
      obtain ⟨A1, cap1, a1, hs1, hN1, hl1, hr1⟩ := hV.slot (o := latest l k (q : Int)) (fun i hi => latest_lt hi)
      have s1 := hV.latCell hqc
      rw [hs1] at s1
      have hr1H := Lib.hid hr1
      have hs1H := Lib.hid hs1
      clear hr1 hs1
      have hLr : L < wr.heap.size := hV.lat.lt
      go_wp2_with (first
        | (at_make; refine wpList_make_row _ rfl _ _ 23 rfl 3 j0 (.int .i64 0) Try.underlying23 hJi.out hJz.out hJs.out rfl .i64 .i64 _ _ c rfl rfl rfl rfl b2 (by unfold maxLen; omega) ?_; intro w4 hR4 hG4; have hB4 := ((Below.refl wr.heap.size wr).alloc (Nat.le_refl _) _).grown hG4 (by simp) (by simp); have f0 := hG4.cell (new3_0 _ _ _ _ rfl) (by simp); have f1 := hG4.cell (new3_1' _ _ _ _ rfl) (by simp); have f2 := hG4.cell (new3_2' _ _ _ _ rfl) (by simp); have s4 := (hB4.cell (p := ⟨L, q, none⟩) hLr).trans s1))
      have hB5 : Below wr.heap.size wr w4 := hB4
      rw [show (wr.alloc (.cells #[.int .i64 (q : Int), .int .i64 kd, .int .i64 m] 36)).heap.size = wr.heap.size + 1 by simp, intRow_zero] at hR4
      have hR5 : IntRow w4 (wr.heap.size + 1) c (fun _ => ((0 : Nat) : Int)) := hR4
      refine (raise_any (wr.heap.size + 1) c _ A1 cap1 a1 w4 hR5 ((hN1.below hB4).more (by omega)) hl1 (by omega)).mono ?_
      rintro e w5 ⟨rfl, hR6, hB6, hsz6⟩
      have hB7 : Below wr.heap.size wr w5 := hB4.trans (hB6.mono (by omega))
      have hR7 : IntRow w5 (wr.heap.size + 1) c (fun (x : Nat) => ((vecO l (latest l k (q : Int)) (x : Int) : Nat) : Int)) := hR6.congr fun x hx => by
        have := hr1H.out (fun _ => 0) x hx
        rw [Nat.zero_max] at this
        exact this
      have hV5 := hV.keep hB7
      have hM5 := hM.below hB7 hM.lt
      have hBw := hB.trans (hB7.mono hB.size)
      have g0 := (hB6.cell (p := ⟨wr.heap.size, 0, none⟩) (by show wr.heap.size < wr.heap.size + 1; omega)).trans f0
      have g1 := (hB6.cell (p := ⟨wr.heap.size, 1, none⟩) (by show wr.heap.size < wr.heap.size + 1; omega)).trans f1
      have g2 := (hB6.cell (p := ⟨wr.heap.size, 2, none⟩) (by show wr.heap.size < wr.heap.size + 1; omega)).trans f2
      have hgs : Hid (∀ i, i < k → gs i ≠ wr.heap.size + 1) := fun i hi => by have := hV.gsLt hi; omega
      have hgl : Hid (∀ i, i < k → gs i < wr.heap.size + 1) := fun i hi => by have := hV.gsLt hi; omega
      have hMr := hM.lt
      have hMg : M < wr.heap.size + 1 := by omega
      have hevp : Hid ((ev l k).p = (q : Int)) := by unfold Hid; rw [hev.out]
      have hstep : Hid (∀ x : Nat, vec l k (x : Int) = max (vecO l (latest l k (q : Int)) (x : Int)) (vecO l (sender l k) (x : Int)) + if (q : Int) = (x : Int) then 1 else 0) := fun x => by
        have := vec_step hgH.out.sole hlt (x : Int)
        unfold prev at this
        rw [hevp.out] at this
        exact this
      have hle30 : Hid (∀ (o : Option Nat) (p : Int), vecO l o p ≤ 30) := fun o p => by have := vecO_le l o p; omega
      obtain ⟨A2, cap2, a2, hs2, hN2, hl2, hr2⟩ := hV.slot (o := sends l k m) (fun i hi => sends_lt hi)
      have hN2' : Nums w5 (wr.heap.size + 1) A2 a2 := (hN2.below hB7).more (by omega)
      have hr2H := Lib.hid hr2
      have hs2H := Lib.hid hs2
      clear hr2 hs2 hN2 hN1 hR4 hR5 hR6 hG4 hB4 hB5 hB6 hB7 hV hM hB f0 f1 f2 s4 s1 c0 c1 c2 hsz6
      by_cases k3 : kd = 3
      · have v3 : (kd == 3) = true := by simp [k3]
        have v2 : (kd == 2) = false := by simp [k3]
        have hk2 : Hid ((ev l k).k ≠ 2) := by unfold Hid; rw [hev.out]; simp [k3]
        have hsd : Hid (sender l k = sends l k m) := by unfold Hid sender; rw [hev.out]; simp [k3]
        clear k3
        go_wp2_with (first
          | (at_lookup; refine wpList_lookV rfl _ _ 71 rfl 3 23 Try.underlying3 Try.underlying71 (zeroInts _) M k _ m (.slice A2 a2.length cap2) rfl hM5 rfl hmw hs2H.out ?_))
        refine (raise_any (wr.heap.size + 1) c _ A2 cap2 a2 w5 hR7 hN2' hl2 (by omega)).mono ?_
        rintro e w6 ⟨rfl, hR8, hB8, hsz8⟩
        have hV6 := hV5.keepG hB8 (by have := hMr; omega) hgl.out
        have hM6 := hM5.below hB8 hMg
        have hBw6 := hBw.trans (hB8.mono (by omega))
        have f0 := (hB8.cell (p := ⟨wr.heap.size, 0, none⟩) (by show wr.heap.size < wr.heap.size + 1; omega)).trans g0
        have f1 := (hB8.cell (p := ⟨wr.heap.size, 1, none⟩) (by show wr.heap.size < wr.heap.size + 1; omega)).trans g1
        have f2 := (hB8.cell (p := ⟨wr.heap.size, 2, none⟩) (by show wr.heap.size < wr.heap.size + 1; omega)).trans g2
        clear hBw
        have hBw := hBw6
        obtain ⟨BX, hBXe⟩ : ∃ BX : Nat → Nat, Hid (BX = fun (x : Nat) => max (vecO l (latest l k (q : Int)) (x : Int)) (vecO l (sends l k m) (x : Int))) := ⟨_, rfl⟩
        have hBX : Hid (∀ x, BX x ≤ 30) := fun x => by
          have h1 := hle30.out (latest l k (q : Int)) (x : Int)
          have h2 := hle30.out (sends l k m) (x : Int)
          rw [hBXe.out]
          show max _ _ ≤ 30
          omega
        have hstX : Hid (∀ x : Nat, x < c → vec l k (x : Int) = BX x + if (q : Int) = (x : Int) then 1 else 0) := fun x _ => by
          rw [hstep.out x, hsd.out, hBXe.out]
        have hR9 : IntRow w6 (wr.heap.size + 1) c (fun x => (BX x : Int)) := hR8.congr fun x hx => by
          have := hr2H.out (fun (x : Nat) => vecO l (latest l k (q : Int)) (x : Int)) x hx
          rw [hBXe.out]
          exact this
        clear hR7 hBXe hV5 hM5 g0 g1 g2 hB8 hR8 hBw6 hN2' hr2H hs2H hsz8
        have x2 := hR9.at_ hqc
        have xf := Row.frozen hR9 q
        obtain ⟨a, haH⟩ : ∃ a, Hid (BX q = a) := ⟨_, rfl⟩
        rw [haH.out] at x2
        have hab : a ≤ 30 := by rw [← haH.out]; exact hBX.out q
        obtain ⟨⟨v1, y1⟩, y2, ⟨v2, y3⟩, y4, hVn, hMn, hBn⟩ := tail_mem hV6 hM6 hBw hlt hqc hevp.out hMg hlow hgs.out hR9 hstX.out haH.out
        have f0b := (cell_far ((w6.setCell ⟨wr.heap.size + 1, q, none⟩ (.int .i64 ((a : Int) + 1)))) (a := ⟨T, k, none⟩) (b := ⟨wr.heap.size, 0, none⟩) (by show wr.heap.size ≠ T; omega) (.slice (some ⟨wr.heap.size + 1, 0, none⟩) c c)).trans ((cell_far w6 (a := ⟨wr.heap.size + 1, q, none⟩) (b := ⟨wr.heap.size, 0, none⟩) (by show wr.heap.size ≠ wr.heap.size + 1; omega) (.int .i64 ((a : Int) + 1))).trans f0)
        have far3 : ∀ j, (((w6.setCell ⟨wr.heap.size + 1, q, none⟩ (.int .i64 ((a : Int) + 1))).setCell ⟨T, k, none⟩ (.slice (some ⟨wr.heap.size + 1, 0, none⟩) c c)).setCell ⟨L, q, none⟩ (.slice (some ⟨wr.heap.size + 1, 0, none⟩) c c)).cell? ⟨wr.heap.size, j, none⟩ = w6.cell? ⟨wr.heap.size, j, none⟩ := fun j => (cell_far _ (by show wr.heap.size ≠ L; omega) _).trans ((cell_far _ (by show wr.heap.size ≠ T; omega) _).trans (cell_far _ (by show wr.heap.size ≠ wr.heap.size + 1; omega) _))
        have f1c := (far3 1).trans f1
        have f2c := (far3 2).trans f2
        clear far3 hR9 hV6 hM6 hBw
        have hM11 := (hMn.congr fun m => carry_other hk2.out (wr.heap.size + 1)).mono (Nat.le_succ k)
        go_wp2_with fail
        go_roundw
        case rel => exact ⟨k + 1, by omega, by go_num, _, hVn, hM11, hBn⟩
        case measure => simp [intOf]; omega
      · have v3 : (kd == 3) = false := by simp [k3]
        have hsd : Hid (sender l k = none) := by unfold Hid sender; rw [hev.out]; simp [k3]
        obtain ⟨BX, hBXe⟩ : ∃ BX : Nat → Nat, Hid (BX = fun (x : Nat) => vecO l (latest l k (q : Int)) (x : Int)) := ⟨_, rfl⟩
        have hBX : Hid (∀ x, BX x ≤ 30) := fun x => by rw [hBXe.out]; exact hle30.out _ _
        have hstX : Hid (∀ x : Nat, x < c → vec l k (x : Int) = BX x + if (q : Int) = (x : Int) then 1 else 0) := fun x _ => by
          rw [hstep.out x, hsd.out, hBXe.out]
          simp [vecO]
        have hR9 : IntRow w5 (wr.heap.size + 1) c (fun x => (BX x : Int)) := by rw [hBXe.out]; exact hR7
        clear hR7 hBXe
        have hV6 := hV5
        have hM6 := hM5
        have f0 := g0
        have f1 := g1
        have f2 := g2
        clear hV5 hM5 g0 g1 g2
        clear hN2' hr2H hs2H
        by_cases k2 : kd = 2
        · have v2 : (kd == 2) = true := by simp [k2]
          have hk2 : Hid ((ev l k).k = 2) := by unfold Hid; rw [hev.out]; exact k2
          have hem : Hid ((ev l k).m = m) := by unfold Hid; rw [hev.out]
          clear k2 k3
          have x2 := hR9.at_ hqc
          have xf := Row.frozen hR9 q
          obtain ⟨a, haH⟩ : ∃ a, Hid (BX q = a) := ⟨_, rfl⟩
          rw [haH.out] at x2
          have hab : a ≤ 30 := by rw [← haH.out]; exact hBX.out q
          obtain ⟨⟨v1, y1⟩, y2, ⟨v2, y3⟩, y4, hVn, hMn, hBn⟩ := tail_mem hV6 hM6 hBw hlt hqc hevp.out hMg hlow hgs.out hR9 hstX.out haH.out
          have f0b := (cell_far ((w5.setCell ⟨wr.heap.size + 1, q, none⟩ (.int .i64 ((a : Int) + 1)))) (a := ⟨T, k, none⟩) (b := ⟨wr.heap.size, 0, none⟩) (by show wr.heap.size ≠ T; omega) (.slice (some ⟨wr.heap.size + 1, 0, none⟩) c c)).trans ((cell_far w5 (a := ⟨wr.heap.size + 1, q, none⟩) (b := ⟨wr.heap.size, 0, none⟩) (by show wr.heap.size ≠ wr.heap.size + 1; omega) (.int .i64 ((a : Int) + 1))).trans f0)
          have far3 : ∀ j, (((w5.setCell ⟨wr.heap.size + 1, q, none⟩ (.int .i64 ((a : Int) + 1))).setCell ⟨T, k, none⟩ (.slice (some ⟨wr.heap.size + 1, 0, none⟩) c c)).setCell ⟨L, q, none⟩ (.slice (some ⟨wr.heap.size + 1, 0, none⟩) c c)).cell? ⟨wr.heap.size, j, none⟩ = w5.cell? ⟨wr.heap.size, j, none⟩ := fun j => (cell_far _ (by show wr.heap.size ≠ L; omega) _).trans ((cell_far _ (by show wr.heap.size ≠ T; omega) _).trans (cell_far _ (by show wr.heap.size ≠ wr.heap.size + 1; omega) _))
          have f1c := (far3 1).trans f1
          have f2c := (far3 2).trans f2
          clear far3 hR9 hV6 hM6 hBw
          go_wp2_with (first
            | (at_mapUpdate; refine wpList_putV rfl _ _ _ 71 rfl 3 23 Try.underlying3 Try.underlying71 M k _ m (.slice (some ⟨wr.heap.size + 1, 0, none⟩) c c) rfl hMn (by unfold maxLen; omega) rfl rfl hmw ?_; intro w10 hM10 hG10))
          have hV10 := hVn.mapped hG10
          have hB10 := hBn.grown hG10 hBn.size (fun j hj => by cases hj; omega)
          have hM11 := hM10.congr (carry_send hk2.out hem.out (wr.heap.size + 1))
          go_roundw
          case rel => exact ⟨k + 1, by omega, by go_num, _, hV10, hM11, hB10⟩
          case measure => simp [intOf]; omega
        · have v2 : (kd == 2) = false := by simp [k2]
          have hk2 : Hid ((ev l k).k ≠ 2) := by unfold Hid; rw [hev.out]; exact k2
          clear k2 k3
          have x2 := hR9.at_ hqc
          have xf := Row.frozen hR9 q
          obtain ⟨a, haH⟩ : ∃ a, Hid (BX q = a) := ⟨_, rfl⟩
          rw [haH.out] at x2
          have hab : a ≤ 30 := by rw [← haH.out]; exact hBX.out q
          obtain ⟨⟨v1, y1⟩, y2, ⟨v2, y3⟩, y4, hVn, hMn, hBn⟩ := tail_mem hV6 hM6 hBw hlt hqc hevp.out hMg hlow hgs.out hR9 hstX.out haH.out
          have f0b := (cell_far ((w5.setCell ⟨wr.heap.size + 1, q, none⟩ (.int .i64 ((a : Int) + 1)))) (a := ⟨T, k, none⟩) (b := ⟨wr.heap.size, 0, none⟩) (by show wr.heap.size ≠ T; omega) (.slice (some ⟨wr.heap.size + 1, 0, none⟩) c c)).trans ((cell_far w5 (a := ⟨wr.heap.size + 1, q, none⟩) (b := ⟨wr.heap.size, 0, none⟩) (by show wr.heap.size ≠ wr.heap.size + 1; omega) (.int .i64 ((a : Int) + 1))).trans f0)
          have far3 : ∀ j, (((w5.setCell ⟨wr.heap.size + 1, q, none⟩ (.int .i64 ((a : Int) + 1))).setCell ⟨T, k, none⟩ (.slice (some ⟨wr.heap.size + 1, 0, none⟩) c c)).setCell ⟨L, q, none⟩ (.slice (some ⟨wr.heap.size + 1, 0, none⟩) c c)).cell? ⟨wr.heap.size, j, none⟩ = w5.cell? ⟨wr.heap.size, j, none⟩ := fun j => (cell_far _ (by show wr.heap.size ≠ L; omega) _).trans ((cell_far _ (by show wr.heap.size ≠ T; omega) _).trans (cell_far _ (by show wr.heap.size ≠ wr.heap.size + 1; omega) _))
          have f1c := (far3 1).trans f1
          have f2c := (far3 2).trans f2
          clear far3 hR9 hV6 hM6 hBw
          have hM11 := (hMn.congr fun m => carry_other hk2.out (wr.heap.size + 1)).mono (Nat.le_succ k)
          go_wp2_with fail
          go_roundw
          case rel => exact ⟨k + 1, by omega, by go_num, _, hVn, hM11, hBn⟩
          case measure => simp [intOf]; omega
    · have hkl : k = l.length := by omega
      subst hkl
      go_wp2_with fail
      go_ret2
      exact ⟨_, _, rfl, hV.out, hB⟩

#print axioms vectors_ok
end Go.Proofs.Ytpofmhlmaejmoaa
