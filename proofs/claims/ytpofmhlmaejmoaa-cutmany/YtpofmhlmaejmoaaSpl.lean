/-
  The contract of cut.split.
-/
import Derived.Test.YtpofmhlmaejmoaaVVs
import Derived.Test.YtpofmhlmaejmoaaCut
import Derived.Test.YtpofmhlmaejmoaaLV
import Derived.Deep.RegionLaw
import Derived.Deep.DrawnRows
namespace Go.Proofs.Ytpofmhlmaejmoaa
open Go.RowKit Go.Maps

theorem infoIntss : (Try.prog.info? 64).map (fun i => (i.zero, i.size, i.bytes)) = some (some (.slice none 0 0), 1, 24) := by kernel_rfl

set_option maxHeartbeats 800000 in
theorem split_no (A : Option Addr) (cap : Nat) (l : List Ev) (n : Int) (w : World) (hE : Evs w w.heap.size A l) (hF : Fits l) (hl : l.length ≤ maxLen) (h0 : ¬ checkCode n l = 0) :
    Calls Try.prog 29 #[.int .i64 n, .slice A l.length cap] w fun e w' => e = .returned (.tuple #[.slice none 0 0, .int .i64 (checkCode n l)]) ∧ Below w.heap.size w w' := by
  have hb0 : (checkCode n l != 0) = true := by simp [h0]
  have h0H := Lib.hid h0
  clear h0
  go_enter Try.func29, Try.ntmps29
  go_wp2_with fail
  refine (vectors_no A cap l n _ hE hF hl h0H.out).mono ?_
  rintro e w1 ⟨rfl, hB1⟩
  go_wp2_with fail
  go_ret2
  exact ⟨rfl, hB1⟩

/-- The histories, for whoever reads them. -/
structure HOut (l : List Ev) (c T : Nat) (w : World) : Prop where
  lt : T < w.heap.size
  slot : ∀ p : Nat, p < c → ∃ A cap, w.cell? ⟨T, p, none⟩ = some (.slice A (own l (p : Int) l.length) cap) ∧
    ∀ r, r < own l (p : Int) l.length → ∃ g h, A = some ⟨g, 0, none⟩ ∧ g < w.heap.size ∧ w.cell? ⟨g, r, none⟩ = some (.slice (some ⟨h, 0, none⟩) c c) ∧ Nums w w.heap.size (some ⟨h, 0, none⟩) (vlist l c ((hist l (p : Int) l.length).getD r 0))
theorem HOut.below {l : List Ev} {c T : Nat} {w w' : World} (h : HOut l c T w) (hb : Below w.heap.size w w') : HOut l c T w' := by
  obtain ⟨h1, h2⟩ := h
  refine ⟨by have := hb.size; omega, fun p hp => ?_⟩
  obtain ⟨A, cap, h3, h4⟩ := h2 p hp
  refine ⟨A, cap, by rw [hb.cell h1]; exact h3, fun r hr => ?_⟩
  obtain ⟨g, hh, h5, h6, h7, h8⟩ := h4 r hr
  exact ⟨g, hh, h5, by have := hb.size; omega, by rw [hb.cell h6]; exact h7, (h8.below hb).more hb.size⟩

def SplRes (l : List Ev) (c : Nat) (w : World) (e : Ending) (w' : World) : Prop :=
  ∃ T, e = .returned (.tuple #[.slice (some ⟨T, 0, none⟩) c c, .int .i64 0]) ∧ HOut l c T w' ∧ Below w.heap.size w w'

/-- The vectors of a process's events, as slices. -/
def hvals (l : List Ev) (c : Nat) (gs : Nat → Nat) (k p : Nat) : List Value := (hist l (p : Int) k).map fun i => slotV c gs (some i)
theorem hvals_len (l : List Ev) (c : Nat) (gs : Nat → Nat) (k p : Nat) : (hvals l c gs k p).length = own l (p : Int) k := by simp [hvals, hist_len]
theorem hvals_step {l : List Ev} {c : Nat} {gs : Nat → Nat} {k q : Nat} (hq : (ev l k).p = (q : Int)) (x : Nat) : lputV (hvals l c gs k) q (slotV c gs (some k)) x = hvals l c gs (k + 1) x := by
  unfold lputV hvals
  by_cases e : x = q
  · subst e
    rw [if_pos rfl, hist, if_pos hq]
    simp
  · rw [if_neg e, hist, if_neg (by rw [hq]; omega)]

def SplRel (l : List Ev) (c : Nat) (w w1 : World) (T : Nat) (gs : Nat → Nat) (k : Nat) (wr : World) : Prop :=
  ∃ vs, LV 64 23 wr T T c vs (hvals l c gs k) ∧ Below T w1 wr ∧ Below w.heap.size w wr

theorem HOut.of {l : List Ev} {c T TT : Nat} {gs : Nat → Nat} {vs : Nat → Value} {w1 wr : World} (hO : VOut l c TT gs w1) (hs : w1.heap.size = T) (hL : LV 64 23 wr T T c vs (hvals l c gs l.length)) (hB : Below T w1 wr) : HOut l c T wr := by
  subst hs
  refine ⟨hL.topLt, fun p hp => ?_⟩
  obtain ⟨A, cap, h1, _, _, h4⟩ := hL.shape hp
  rw [hvals_len] at h1
  refine ⟨A, cap, by rw [hL.slot hp, h1], fun r hr => ?_⟩
  have hr' : r < (hvals l c gs l.length p).length := by rw [hvals_len]; exact hr
  obtain ⟨g, h5, _, h6, _, h7⟩ := h4 r hr'
  have hr2 : r < (hist l (p : Int) l.length).length := by rw [hist_len]; exact hr
  have e1 : (hist l (p : Int) l.length).getD r 0 = (hist l (p : Int) l.length)[r] := by rw [List.getD_eq_getElem?_getD, List.getElem?_eq_getElem hr2]; rfl
  have h8 := (hist_at l (p : Int) l.length r hr2).1
  refine ⟨g, gs (hist l (p : Int) l.length)[r], h5, h6, ?_, ?_⟩
  · rw [h7]
    simp [hvals, slotV]
  · rw [e1]
    exact ((hO.nums _ h8).below hB).more hB.size

attribute [local go_sem ↓] Go.wp_at_zero Go.wp_at_succ

set_option maxHeartbeats 4000000 in
set_option maxRecDepth 100000 in
theorem split_ok (A : Option Addr) (cap : Nat) (l : List Ev) (c : Nat) (w : World) (hE : Evs w w.heap.size A l) (hF : Fits l) (h0 : checkCode (c : Int) l = 0) :
    Calls Try.prog 29 #[.int .i64 (c : Int), .slice A l.length cap] w (SplRes l c w) := by
  obtain ⟨⟨hn1, hn2, h30⟩, hg⟩ := check_good.1 h0
  have hl : l.length ≤ maxLen := by unfold maxLen; omega
  have h0H := Lib.hid h0
  clear h0
  obtain ⟨i0, hi0, hz0, hz1, hz2⟩ := info_parts infoIntss
  have b1 : i0.bytes * c ≤ 281474976710656 := by rw [hz2]; omega
  have hHi := Lib.hid hi0; have hHz := Lib.hid hz0; have hHs := Lib.hid hz1
  clear hi0 hz0 hz1 hz2
  obtain ⟨j0, hi0, hz0, hz1, hz2⟩ := info_parts infoInts
  have hJi := Lib.hid hi0; have hJz := Lib.hid hz0; have hJs := Lib.hid hz1; have hJb := Lib.hid hz2
  clear hi0 hz0 hz1 hz2
  have hgH := Lib.hid hg
  clear hg
  go_enter Try.func29, Try.ntmps29
  go_wp2_with fail
  refine (vectors_ok A cap l c _ hE hF h0H.out).mono ?_
  rintro e w1 ⟨TT, gs, rfl, hO1, hB1⟩
  go_wp2_with (first
    | (at_make; refine wpList_make_row _ rfl (.tmp 20) _ 53 rfl 64 i0 (.slice none 0 0) Try.underlying53 hHi.out hHz.out hHs.out rfl .i64 .i64 _ _ c rfl rfl rfl rfl b1 (by unfold maxLen; omega) ?_; intro w2 hR2 hG2))
  have hB2 : Below w.heap.size w w2 := hB1.grown hG2 hB1.size (by simp)
  have hB12 : Below w1.heap.size w1 w2 := (Below.refl _ _).grown hG2 (Nat.le_refl _) (by simp)
  have hlow := hB1.size
  have hL0 : LV 64 23 w2 w1.heap.size w1.heap.size c (fun _ => .slice none 0 0) (hvals l c gs 0) := ⟨⟨_, hR2, by simp, fun i hi => by simp [hi]⟩, fun i _ => World.ownsRow_nil _ _ _ _, fun _ _ _ _ _ => .inl rfl, Nat.le_refl _, by decide⟩
  clear hR2 hG2 hB1
  have hTT := hO1.lt
  obtain ⟨T, hT⟩ : ∃ T, w1.heap.size = T := ⟨_, rfl⟩
  rw [hT] at hL0 hB12 hTT hlow ⊢
  have hTH := Lib.hid hT
  have hOH := Lib.hid hO1
  clear hT hO1
  go_loopw [24] (fun i wr => ∃ k : Nat, k ≤ l.length ∧ i = .int .i64 k ∧ SplRel l c w w1 T gs k wr) (fun i _ => l.length - (intOf i).toNat)
  case atStart => exact ⟨0, Nat.zero_le _, rfl, _, hL0, hB12, hB2⟩
  case round =>
    clear hL0 hB12 hB2
    obtain ⟨k, hk, rfl, vs, hL, hB1, hB⟩ := hrel
    by_cases hlt : k < l.length
    · obtain ⟨b, off, rfl, hb, hc⟩ := hE.below hB (by omega)
      obtain ⟨c0, c1, c2⟩ := hc k hlt
      clear hc
      have hpr := hgH.out.proc k hlt
      have hev := Lib.hid (ev_get l hlt)
      rw [hev.out] at hpr
      generalize l[k] = e0 at *
      obtain ⟨p, kd, m⟩ := e0
      simp only at c0 c1 c2 hpr
      obtain ⟨q, rfl⟩ := Int.eq_ofNat_of_zero_le hpr.1
      have hqc : q < c := by omega
      have hq0 : (0 : Int) ≤ (q : Int) := by omega
      have hqI : (q : Int) < (c : Int) := by omega
      have hk0 : (0 : Int) ≤ (k : Int) := by omega
      have hkI : (k : Int) < (l.length : Int) := by omega
      clear hpr
      have hevp : Hid ((ev l k).p = (q : Int)) := by unfold Hid; rw [hev.out]
      have hTr := hL.topLt
      have hLa := hL.alloc (.cells #[.int .i64 (q : Int), .int .i64 kd, .int .i64 m] 36)
      have hBa := hB.alloc hB.size (.cells #[.int .i64 (q : Int), .int .i64 kd, .int .i64 m] 36)
      have hB1a := hB1.alloc (by omega) (.cells #[.int .i64 (q : Int), .int .i64 kd, .int .i64 m] 36)
      have y0 := new3_0 (w := wr) (.int .i64 (q : Int)) (.int .i64 kd) (.int .i64 m) 36 rfl
      have sz : wr.heap.size < (wr.alloc (.cells #[.int .i64 (q : Int), .int .i64 kd, .int .i64 m] 36)).heap.size := by simp
      have y2 : (wr.alloc (.cells #[.int .i64 (q : Int), .int .i64 kd, .int .i64 m] 36)).cell? ⟨TT, k, none⟩ = some (.slice (some ⟨gs k, 0, none⟩) c c) := (hB1a.cell (p := ⟨TT, k, none⟩) hTT).trans (hOH.out.slot k hlt)
      have hnb : some wr.heap.size ≠ (vs q).ownBlock := fun e => by have := ((hL.row q hqc).lt _ e.symm).2; omega
      have hnT : some TT ≠ (vs q).ownBlock := fun e => by have := ((hL.row q hqc).lt _ e.symm).1; omega
      go_wp2_with fail
      clear hL hB hB1 c0 c1 c2
      generalize wr.alloc (.cells #[.int .i64 (q : Int), .int .i64 kd, .int .i64 m] 36) = w3 at *
      have y1 := hLa.slot hqc
      have hlen := own_le l (q : Int) k
      generalize hgk : gs k = gk at *
      have hgkH := Lib.hid hgk
      have hsl : Hid (slotV c gs (some k) = .slice (some ⟨gk, 0, none⟩) c c) := by show Value.slice (some ⟨gs k, 0, none⟩) c c = _; rw [hgkH.out]
      clear hgk
      have hown : ∀ w' : World, w'.heap = (w3.alloc (.cells #[.slice (some ⟨gk, 0, none⟩) c c] 23)).heap → w'.ownsRow T 23 1 (vs q) (hvals l c gs k q).length (hvals l c gs k q) := fun w' e => ((hLa.alloc (.cells #[.slice (some ⟨gk, 0, none⟩) c c] 23)).heap e).row q hqc
      have hownH := Lib.hid hown
      have hvl := hvals_len l c gs k q
      have hvl30 : (hvals l c gs k q).length ≤ 30 := by omega
      clear hown hvl
      have hT3 : T < w3.heap.size := by omega
      have hTT3 : TT < w3.heap.size := by omega
      have hLaH := Lib.hid hLa
      have hvH := Lib.hid (hvals_step (c := c) (gs := gs) hevp.out)
      clear hLa
      generalize hvals l c gs k = f at *
      generalize hvq : vs q = vq at *
      have hvqH := Lib.hid hvq
      clear hvq
      have hneT : some T ≠ vq.ownBlock := fun e => hLaH.out.neTop hqc (by rw [hvqH.out]; exact e.symm)
      go_region_law
        ((refine step_append_lies _ (by rfl) _ _ _ (by rfl) T 23 j0 (.slice none 0 0) 1 24 Try.underlying64 hJi.out hJz.out hJs.out hJb.out (by rfl) (by decide) vq (f q).length (f q) (by rfl) (hownH.out _ rfl) ⟨w3.heap.size, 0, none⟩ 1 1 [.slice (some ⟨gk, 0, none⟩) c c] (by rfl) (by rfl) (World.news_of_block (cs := #[.slice (some ⟨gk, 0, none⟩) c c]) (t := 23) (fr := (0, 0)) (heap_alloc_new w3 _)) (by simp [Value.oneCell']) (by omega) (by unfold maxLen; omega) (by omega) (by simp; omega) (w3.heap.size + 1) (by simp) ?_; intro g cap2 w4 hown4 hgrow hat hltg; have hgr : (w3.alloc (.cells #[.slice (some ⟨gk, 0, none⟩) c c] 23)).grownBy w4 (vs q).ownBlock := (by rw [hvqH.out]; exact ⟨hgrow.os, hgrow.tape, hgrow.output, hgrow.size, hgrow.block⟩); have q2 := hLaH.out.appFrozen hqc hgr; have q1 := hLaH.out.appSlot hqc hgr; have r0 := LV.appCell hgr y0 sz (by rw [hvqH.out]; exact hnb)))
      all_goals
        have hLn := hLaH.out.app hqc hown4 hgr (by rw [hvqH.out]; simpa using hat)
        have hBn := LV.appBelow hBa hlow hBa.size hLaH.out hqc hgr (.slice (some ⟨g, 0, none⟩) ((f q).length + 1) cap2)
        have hB1n := LV.appBelow hB1a (Nat.le_refl _) (by omega) hLaH.out hqc hgr (.slice (some ⟨g, 0, none⟩) ((f q).length + 1) cap2)
        go_wp2_with fail
        go_roundw
        case rel => exact ⟨k + 1, by omega, by go_num, _, hLn.congr fun x _ => by rw [← hvH.out x, hsl.out], hB1n, hBn⟩
        case measure => simp [intOf]; omega
    · have hkl : k = l.length := by omega
      subst hkl
      go_wp2_with fail
      go_ret2
      exact ⟨_, rfl, HOut.of hOH.out hTH.out hL hB1, hB⟩

#print axioms split_ok
end Go.Proofs.Ytpofmhlmaejmoaa
