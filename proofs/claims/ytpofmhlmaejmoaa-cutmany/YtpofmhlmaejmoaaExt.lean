/-
  The contract of cut.extensions.
-/
import Derived.Test.YtpofmhlmaejmoaaArr
import Derived.Test.YtpofmhlmaejmoaaCov
import Derived.Test.YtpofmhlmaejmoaaSpl
import Derived.BigQuiet
namespace Go.Proofs.Ytpofmhlmaejmoaa
open Go.RowKit Go.Maps

def ExtRes (xs : List (Nat → Nat)) (w : World) (e : Ending) (w' : World) : Prop :=
  ∃ A cap, e = .returned (.slice A xs.length cap) ∧ CutsAt w' w.heap.size w'.heap.size A xs ∧ Below w.heap.size w w'
def ExtRel (l : List Ev) (c : Nat) (F : Nat → Nat) (w : World) (k : Nat) (v : Value) (wr : World) : Prop :=
  OwnCuts wr (w.heap.size + 1) v (exts l c F k) ∧ Row6 wr w.heap.size F ∧ w.heap.size + 1 ≤ wr.heap.size ∧ Below w.heap.size w wr

set_option maxHeartbeats 4000000 in
set_option maxRecDepth 100000 in
theorem extensions_any (l : List Ev) (c T : Nat) (F : Nat → Nat) (w : World) (hO : HOut l c T w) (hc6 : c ≤ 6) (h30 : l.length ≤ 30) (g : Good (c : Int) l) (hF : CutF l c F) :
    Calls Try.prog 30 #[.slice (some ⟨T, 0, none⟩) c c, .agg #[.int .i64 (F 0 : Int), .int .i64 (F 1 : Int), .int .i64 (F 2 : Int), .int .i64 (F 3 : Int), .int .i64 (F 4 : Int), .int .i64 (F 5 : Int)]] w (ExtRes (exts l c F c) w) := by
  have hOH := Lib.hid hO
  have hFH := Lib.hid hF
  have hgH := Lib.hid g
  clear hO hF g
  obtain ⟨j0, hi0, hz0, hz1, hz2⟩ := info_parts info60
  have hJi := Lib.hid hi0; have hJz := Lib.hid hz0; have hJs := Lib.hid hz1; have hJb := Lib.hid hz2
  clear hi0 hz0 hz1 hz2
  have hR0 := Row6.made w F
  have hB0 := (Below.refl w.heap.size w).alloc (Nat.le_refl _) (.cells #[.int .i64 (F 0 : Int), .int .i64 (F 1 : Int), .int .i64 (F 2 : Int), .int .i64 (F 3 : Int), .int .i64 (F 4 : Int), .int .i64 (F 5 : Int)] 60)
  go_enter Try.func30, Try.ntmps30
  go_wp2_with fail
  go_loopw [5, 11] (fun v t wr => ∃ k : Nat, k ≤ c ∧ t = .int .i64 k ∧ ExtRel l c F w k v wr) (fun _ t _ => c - (intOf t).toNat)
  case atStart => exact ⟨0, Nat.zero_le _, rfl, World.ownsRow_nil _ _ _ _, hR0, by simp, hB0⟩
  case round =>
    clear hR0 hB0
    obtain ⟨k, hk, rfl, hW, hR, hsz, hB⟩ := hrel
    by_cases hlt : k < c
    · have hkI : (k : Int) < (c : Int) := by omega
      have hk6 : k < 6 := by omega
      have hk6I : (k : Int) < 6 := by omega
      have hT := hOH.out.lt
      obtain ⟨A2, cap2, s1', hs⟩ := hOH.out.slot k hlt
      have s1 := (hB.cell (p := ⟨T, k, none⟩) hT).trans s1'
      clear s1'
      have x1 := hR.at_ hk6
      have hle := hFH.out.le k hlt
      unfold tot at hle
      have ho30 := own_le l (k : Int) l.length
      by_cases hfull : F k = own l (k : Int) l.length
      · have hno : Hid (¬ CutF l c (bump F k)) := fun h => by
          have := ((bump_iff hgH.out hFH.out hlt).1 h).1
          unfold tot at this
          omega
        have hn : Hid (exts l c F (k + 1) = exts l c F k) := exts_no hno.out
        clear hno hs
        rw [hfull] at x1
        clear hfull hle
        generalize own l (k : Int) l.length = on at *
        go_wp2_with fail
        go_roundw
        case rel => exact ⟨k + 1, by omega, by go_num, by rw [hn.out]; exact hW, hR, hsz, hB⟩
        case measure => simp [intOf]; omega
      · obtain ⟨gr, h, rfl, hg, s2', hN2'⟩ := hs (F k) (by omega)
        have s2 := (hB.cell (p := ⟨gr, F k, none⟩) hg).trans s2'
        have hN2 := hN2'.below hB
        clear s2' hN2' hs
        have hd : ((F k : Int) == (own l (k : Int) l.length : Int)) = false := by simp; omega
        have hlt2 : (F k : Int) < (own l (k : Int) l.length : Int) := by omega
        have hF30 : F k ≤ 30 := by omega
        obtain ⟨y0, y1, y2, y3, y4, y5⟩ := hR.all
        simp only [Nat.zero_add] at y0 y1 y2 y3 y4 y5
        have hR1 := Row6.made wr F
        have z1 := hR1.at_ hk6
        have z2 := Row.frozen hR1 k
        have hv : (vlist l c ((hist l (k : Int) l.length).getD (F k) 0)).length = c := vlist_len l c _
        have key : Hid (CutF l c (bump F k) ↔ ∀ i, i < (vlist l c ((hist l (k : Int) l.length).getD (F k) 0)).length → vat (vlist l c ((hist l (k : Int) l.length).getD (F k) 0)) i ≤ vat (ints6 (bump F k)) i) := by
          unfold Hid
          rw [hv, bump_iff hgH.out hFH.out hlt]
          constructor
          · rintro ⟨_, h2⟩ i hi
            rw [vlist_at l _ hi, ints6_at _ (by omega)]
            exact h2 i hi
          · intro h2
            refine ⟨by unfold tot; omega, fun r hr => ?_⟩
            have := h2 r hr
            rw [vlist_at l _ hr, ints6_at _ (by omega)] at this
            exact this
        generalize vlist l c ((hist l (k : Int) l.length).getD (F k) 0) = st at *
        have hR3 : Row6 (wr.alloc (.cells (cells6 (bump F k)).toArray 60)) wr.heap.size (bump F k) := Row.made wr 60 (cells6 (bump F k))
        have hW3 := hW.alloc (.cells (cells6 (bump F k)).toArray 60)
        have hRc : Row6 (wr.alloc (.cells (cells6 (bump F k)).toArray 60)) w.heap.size F := Row.alloc hR (.cells (cells6 (bump F k)).toArray 60)
        have hB3 := hB.alloc hB.size (.cells (cells6 (bump F k)).toArray 60)
        have x3 := hRc.at_ hk6
        have s3 := cell_allocV (.cells (cells6 (bump F k)).toArray 60) s2 (show gr < wr.heap.size by omega)
        have hN3 : Nums (wr.alloc (.cells (cells6 (bump F k)).toArray 60)) w.heap.size (some ⟨h, 0, none⟩) st := hN2.keep fun p hp => World.cell?_alloc_lt wr _ p (by omega)
        have hsz3 : wr.heap.size < (wr.alloc (.cells (cells6 (bump F k)).toArray 60)).heap.size := by simp
        have e6 := Lib.hid (cells6_set F hk6)
        unfold cells6 at e6
        have hgr3 : ∀ j, u5.ownBlock = some j → w.heap.size + 1 ≤ j ∧ j < wr.heap.size := fun j hj => World.ownsRow.lt hW j hj
        have hgr3H := Lib.hid hgr3
        have e7 : Hid (wr.heap.size = (wr.alloc (.cells (cells6 (bump F k)).toArray 60)).heap.size - 1) := by unfold Hid; simp
        clear hgr3
        generalize own l (k : Int) l.length = on at *
        go_wp2_with fail
        rw [show [Value.int .i64 (F 0 : Int), .int .i64 (F 1 : Int), .int .i64 (F 2 : Int), .int .i64 (F 3 : Int), .int .i64 (F 4 : Int), .int .i64 (F 5 : Int)].set k (.int .i64 ((F k : Int) + 1)) = cells6 (bump F k) from cells6_set F hk6]
        clear hR1 z1 z2 hW hR hB s2 hN2 y0 y1 y2 y3 y4 y5 e6
        generalize wr.alloc (.cells (cells6 (bump F k)).toArray 60) = w3 at *
        obtain ⟨y0, y1, y2, y3, y4, y5⟩ := hR3.all
        simp only [Nat.zero_add] at y0 y1 y2 y3 y4 y5
        have hNG := hR3.nums hsz3
        have hbig : Hid (wr.heap.size < w3.heap.size) := hsz3
        have hN4 := hN3.more (show w.heap.size ≤ w3.heap.size by omega)
        have hcall : ∀ (n : Nat) (C' : Bool), Hid (C' = true ↔ ∀ i, i < st.length → vat st i ≤ vat (ints6 (bump F k)) i) → Calls Try.prog 35 #[.slice (some ⟨wr.heap.size, 0, none⟩) 6 6, .slice (some ⟨h, 0, none⟩) c c] (w3.drewN n) fun e w' => e = .returned (.bool C') ∧ w' = w3.drewN n := fun n C' hC' => by
          have h6 : (ints6 (bump F k)).length = 6 := rfl
          have := covers_any (some ⟨wr.heap.size, 0, none⟩) (some ⟨h, 0, none⟩) 6 c (ints6 (bump F k)) st (w3.drewN n) (hNG.keep fun _ _ => rfl) (hN4.keep fun _ _ => rfl) (by omega) (by omega) C' hC'
          rw [hv, h6] at this
          exact this.mono fun _ _ ⟨h1, h2⟩ => ⟨h1, h2.symm⟩
        have hcallH := Lib.hid hcall
        clear hcall hNG hN3 hN4
        by_cases hok : CutF l c (bump F k)
        · have hcc := Lib.hid (fun n => hcallH.out n true (Lib.hid ⟨fun _ => key.out.1 hok, fun _ => rfl⟩))
          have hn : Hid (exts l c F (k + 1) = exts l c F k ++ [bump F k]) := exts_yes hok
          clear hcallH key hok
          go_quiet ((go_at_call 35; exact Calls.quiet_of_same (hcc.out _)))
          clear hcc y0 y1 y2 y3 y4 y5 x3 s3
          have hB4 := below_drewN hB3 nq
          have hW4 : OwnCuts (w3.drewN nq) (w.heap.size + 1) u5 (exts l c F k) := hW3.heap rfl
          have hR4 : Row6 (w3.drewN nq) w.heap.size F := Row.block hRc rfl
          have hR5 : Row6 (w3.drewN nq) wr.heap.size (bump F k) := Row.block hR3 rfl
          have hsz4 : wr.heap.size < (w3.drewN nq).heap.size := hsz3
          clear hB3 hW3 hRc hR3 hsz3 hbig e7
          generalize w3.drewN nq = w4 at *
          obtain ⟨y0, y1, y2, y3, y4, y5⟩ := hR5.all
          simp only [Nat.zero_add] at y0 y1 y2 y3 y4 y5
          clear hR5
          have hlen := exts_len l c F k
          have hWa := hW4.alloc (.cells #[.int .i64 (bump F k 0 : Int), .int .i64 (bump F k 1 : Int), .int .i64 (bump F k 2 : Int), .int .i64 (bump F k 3 : Int), .int .i64 (bump F k 4 : Int), .int .i64 (bump F k 5 : Int)] 60)
          have hRa := Row.alloc hR4 (.cells #[.int .i64 (bump F k 0 : Int), .int .i64 (bump F k 1 : Int), .int .i64 (bump F k 2 : Int), .int .i64 (bump F k 3 : Int), .int .i64 (bump F k 4 : Int), .int .i64 (bump F k 5 : Int)] 60)
          have hBa := hB4.alloc hB4.size (.cells #[.int .i64 (bump F k 0 : Int), .int .i64 (bump F k 1 : Int), .int .i64 (bump F k 2 : Int), .int .i64 (bump F k 3 : Int), .int .i64 (bump F k 4 : Int), .int .i64 (bump F k 5 : Int)] 60)
          have hnews := Lib.hid (news6 (w := w4) (bump F k) rfl)
          have hbase : w.heap.size + 1 ≤ (w4.alloc (.cells #[.int .i64 (bump F k 0 : Int), .int .i64 (bump F k 1 : Int), .int .i64 (bump F k 2 : Int), .int .i64 (bump F k 3 : Int), .int .i64 (bump F k 4 : Int), .int .i64 (bump F k 5 : Int)] 60)).heap.size := by
            simp; omega
          have hlt3 : Hid (∀ j, u5.ownBlock = some j → w.heap.size ≤ j) := fun j hj => by have := (hgr3H.out j hj).1; omega
          have hneR : Hid (some w.heap.size ≠ u5.ownBlock) := fun e => by have := (hgr3H.out _ e.symm).1; omega
          clear hW4 hR4 hB4 hgr3H
          unfold OwnCuts at hWa
          generalize exts l c F k = fs at *
          generalize bump F k = G at *
          go_wp2_with (first
            | (at_builtin; refine wpList_append_lies _ rfl (.tmp 36) (.tmp 38) 62 rfl (w.heap.size + 1) 60 j0 (arr6 fun _ => 0) 6 48 Try.underlying62 hJi.out hJz.out hJs.out hJb.out rfl (by decide) u5 fs.length (flat6 fs) rfl hWa ⟨w4.heap.size, 0, none⟩ 1 1 (cells6 G) rfl rfl hnews.out (by simp [cells6, Value.oneCell']) (by omega) (by unfold maxLen; omega) (by omega) hbase _ rfl ?_; intro g5 cap5 w5 hown5 hgrow5 hat5 hltg5))
          have hW5 := OwnCuts.push hown5
          have hR5 := Row.grown hRa hgrow5 hneR.out
          have hB5 := hBa.grown hgrow5 hBa.size hlt3.out
          have hsz5 : w.heap.size + 1 ≤ w5.heap.size := Nat.le_trans hbase hgrow5.size
          go_roundw
          case rel => exact ⟨k + 1, by omega, by go_num, by rw [hn.out]; exact hW5, hR5, hsz5, hB5⟩
          case measure => simp [intOf]; omega
        · have hcc := Lib.hid (fun n => hcallH.out n false (Lib.hid ⟨fun h => absurd h (by decide), fun h => absurd (key.out.2 h) hok⟩))
          have hn : Hid (exts l c F (k + 1) = exts l c F k) := exts_no hok
          clear hcallH key hok
          go_quiet ((go_at_call 35; exact Calls.quiet_of_same (hcc.out _)))
          have hB4 := below_drewN hB3 nq
          have hW4 : OwnCuts (w3.drewN nq) (w.heap.size + 1) u5 (exts l c F k) := hW3.heap rfl
          have hR4 : Row6 (w3.drewN nq) w.heap.size F := Row.block hRc rfl
          have hsz4 : wr.heap.size < (w3.drewN nq).heap.size := hsz3
          clear hB3 hW3 hRc hR3 hsz3 hbig e7 hcc y0 y1 y2 y3 y4 y5 x3 s3
          generalize w3.drewN nq = w4 at *
          go_wp2_with fail
          go_roundw
          case rel => exact ⟨k + 1, by omega, by go_num, by rw [hn.out]; exact hW4, hR4, by omega, hB4⟩
          case measure => simp [intOf]; omega
    · have hkc : k = c := by omega
      subst hkc
      obtain ⟨A2, cap2, rfl, _, _, hN2⟩ := hW.shape
      have hN3 : CutsAt wr w.heap.size wr.heap.size A2 (exts l k F k) := fun i hi => by
        obtain ⟨g, h1, h2, h3, h4⟩ := hN2 i hi
        exact ⟨g, h1, by omega, h3, h4⟩
      clear hN2
      go_wp2_with fail
      go_ret
      exact ⟨A2, cap2, rfl, hN3, hB⟩

#print axioms extensions_any
end Go.Proofs.Ytpofmhlmaejmoaa
