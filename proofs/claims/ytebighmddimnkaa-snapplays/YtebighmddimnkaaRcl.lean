/-
  The contract of the closure of beaconryref.Snap.
-/
import Derived.Test.YtebighmddimnkaaRfm
import Derived.BigRegion
namespace Go.Proofs.Ytebighmddimnkaa
open Go.RowKit Go.Maps

theorem ic_same {S T : St} (h1 : T.hv = S.hv) (h2 : T.kp = S.kp) (h3 : T.wy = S.wy) : ic T = ic S := by
  funext x
  match x with
  | 0 => exact h1
  | 1 => exact h2
  | i + 2 => show T.wy i = S.wy i; rw [h3]
theorem bc_same {S T : St} (h1 : T.rc = S.rc) (h2 : T.cl = S.cl) : bc T = bc S := by
  funext x
  match x with
  | 0 => exact h1
  | i + 1 => show T.cl i = S.cl i; rw [h2]
theorem ic_hv (S : St) (i : Nat) (v : Int) (T : St) (h1 : T.hv = up1 S.hv i v) (h2 : T.kp = S.kp) (h3 : T.wy = S.wy) : ∀ y a, ic T y a = up2 (ic S) 0 i v y a := by
  intro y a
  match y with
  | 0 => show T.hv a = _; rw [h1]; unfold up1 up2; simp [ic]
  | 1 => show T.kp a = _; rw [h2]; simp [up2, ic]
  | k + 2 => show T.wy k a = _; rw [h3]; simp [up2, ic]
theorem ic_kp (S : St) (i : Nat) (v : Int) (T : St) (h1 : T.hv = S.hv) (h2 : T.kp = up1 S.kp i v) (h3 : T.wy = S.wy) : ∀ y a, ic T y a = up2 (ic S) 1 i v y a := by
  intro y a
  match y with
  | 0 => show T.hv a = _; rw [h1]; simp [up2, ic]
  | 1 => show T.kp a = _; rw [h2]; unfold up1 up2; simp [ic]
  | k + 2 => show T.wy k a = _; rw [h3]; simp [up2, ic]
theorem ic_wy (S : St) (i j : Nat) (v : Int) (T : St) (h1 : T.hv = S.hv) (h2 : T.kp = S.kp) (h3 : T.wy = up2 S.wy i j v) : ∀ y a, ic T y a = up2 (ic S) (i + 2) j v y a := by
  intro y a
  match y with
  | 0 => show T.hv a = _; rw [h1]; simp [up2, ic]
  | 1 => show T.kp a = _; rw [h2]; simp [up2, ic]
  | k + 2 => show T.wy k a = _; rw [h3]; unfold up2; simp [ic]
theorem bc_rc (S : St) (i : Nat) (v : Bool) (T : St) (h1 : T.rc = up1 S.rc i v) (h2 : T.cl = S.cl) : ∀ y a, bc T y a = up2 (bc S) 0 i v y a := by
  intro y a
  match y with
  | 0 => show T.rc a = _; rw [h1]; unfold up1 up2; simp [bc]
  | k + 1 => show T.cl k a = _; rw [h2]; simp [up2, bc]
theorem bc_cl (S : St) (i j : Nat) (v : Bool) (T : St) (h1 : T.rc = S.rc) (h2 : T.cl = up2 S.cl i j v) : ∀ y a, bc T y a = up2 (bc S) (i + 1) j v y a := by
  intro y a
  match y with
  | 0 => show T.rc a = _; rw [h1]; simp [up2, bc]
  | k + 1 => show T.cl k a = _; rw [h2]; unfold up2; simp [bc]

/-- No row of moves has turned. -/
def MvK (w w' : World) : Prop := ∀ g xs, Row w g 39 xs → Row w' g 39 xs
def RclRes (w : World) (B B2 n : Nat) (b : RB) (S : St) (vw vc : Value) (L : List Lt) (cs : List Int) (e : Ending) (w' : World) : Prop := ∃ vl, e = .returned (.tuple #[]) ∧ RefM w' B B2 n n b S false vw vl vc L cs ∧ Below B w w' ∧ MvK w w'
def RclRel (w : World) (B B2 n : Nat) (b : RB) (S : St) (vw vc : Value) (L : List Lt) (cs : List Int) (wr : World) : Prop := ∃ vl, RefM wr B B2 n n b S false vw vl vc L cs ∧ Below B w wr ∧ MvK w wr

set_option maxHeartbeats 4000000 in
set_option maxRecDepth 100000 in
theorem rcl_yes (w : World) (B B2 n : Nat) (b : RB) (S : St) (vw vl vc : Value) (L : List Lt) (cs : List Int) (h : RefM w B B2 n n b S false vw vl vc L cs) (i : Nat) (hi : i < n) (hr : S.rc i = true) :
    Calls Try.prog 19 #[.int .i64 (i : Int), .pointer (some ⟨b.br, 0, none⟩), .pointer (some ⟨b.bh, 0, none⟩), .pointer (some ⟨b.bo, 0, none⟩), .pointer (some ⟨b.bn, 0, none⟩), .pointer (some ⟨b.bw, 0, none⟩)] w (RclRes w B B2 n b S vw vc L cs) := by
  have c0 := h.rr.cell (i := 0) (by simp)
  have c1 := BRow.at_ (h.rb 0 (by omega)) hi
  have e : bc S 0 i = true := hr
  rw [e] at c1
  simp only [List.getElem_cons_zero] at c0
  have hiI : (i : Int) < (n : Int) := by omega
  have hH := Lib.hid h
  clear h hr e
  go_enter Try.func19, Try.ntmps19
  go_wp2_with fail
  (try simp only [Exit.inBlock, Exit.then])
  first
    | (go_end0; exact ⟨_, rfl, hH.out, Below.refl _ _, fun _ _ h => h⟩)
    | exact bodyPost_ret (results_none rfl _ _ _) rfl ⟨_, rfl, hH.out, Below.refl _ _, fun _ _ h => h⟩

set_option maxHeartbeats 8000000 in
set_option maxRecDepth 100000 in
theorem rcl_no (w : World) (B B2 n : Nat) (b : RB) (S : St) (vw vl vc : Value) (L : List Lt) (cs : List Int) (h : RefM w B B2 n n b S false vw vl vc L cs) (i : Nat) (hi : i < n) (hr : S.rc i = false) (hn : n ≤ 6) (hl : L.length ≤ 1000) (hB : B ≤ w.heap.size) :
    Calls Try.prog 19 #[.int .i64 (i : Int), .pointer (some ⟨b.br, 0, none⟩), .pointer (some ⟨b.bh, 0, none⟩), .pointer (some ⟨b.bo, 0, none⟩), .pointer (some ⟨b.bn, 0, none⟩), .pointer (some ⟨b.bw, 0, none⟩)] w (RclRes w B B2 n b (S.record n i) vw vc (L ++ marksL i n) cs) := by
  obtain ⟨j0, hi0, hz0, hz1, hz2⟩ := info_parts infoLt
  have hJi := Lib.hid hi0; have hJz := Lib.hid hz0; have hJs := Lib.hid hz1; have hJb := Lib.hid hz2
  clear hi0 hz0 hz1 hz2
  have c0 := h.rr.cell (i := 0) (by simp)
  have c1 := BRow.at_ (h.rb 0 (by omega)) hi
  have cf := Row.frozen (h.rb 0 (by omega)) i
  have e : bc S 0 i = false := hr
  rw [e] at c1
  simp only [List.getElem_cons_zero] at c0
  have hiI : (i : Int) < (n : Int) := by omega
  have h1 := h.setB (T := { S with rc := up1 S.rc i true }) (x := 0) (by omega) i true (fun y a _ _ => by rw [ic_same (S := S) (T := { S with rc := up1 S.rc i true }) rfl rfl rfl]) (fun y a _ _ => bc_rc S i true { S with rc := up1 S.rc i true } rfl rfl y a)
  have hB1 : Below B w (w.setCell ⟨b.bb 0, i, none⟩ (.bool true)) := (Below.refl B w).setCell (p := ⟨b.bb 0, i, none⟩) (h.lb 0 (by omega)) _
  have hK1 : MvK w (w.setCell ⟨b.bb 0, i, none⟩ (.bool true)) := fun g xs hg => hg.far (hg.ne (h.rb 0 (by omega)) (by decide)) _
  generalize hw1 : w.setCell ⟨b.bb 0, i, none⟩ (.bool true) = w1 at *
  have o2 := h1.ro.cell (i := 2) (by simp)
  have hh0 := h1.rh.cell (i := 0) (by simp)
  have v0 := IntRow.at_ (h1.ri 0 (by omega)) hi
  have k0 := IntRow.at_ (h1.ri 1 (by omega)) hi
  have kf := Row.frozen (h1.ri 1 (by omega)) i
  simp only [List.getElem_cons_zero, List.getElem_cons_succ] at o2 hh0
  have h2 := h1.setI (T := S.rec0 i) (x := 1) (by omega) i (S.hv i) (fun y a _ _ => ic_kp { S with rc := up1 S.rc i true } i (S.hv i) (S.rec0 i) rfl rfl rfl y a) (fun y a _ _ => by rw [bc_same (S := { S with rc := up1 S.rc i true }) (T := S.rec0 i) rfl rfl])
  have hB2 : Below B w (w1.setCell ⟨b.ib 1, i, none⟩ (.int .i64 (S.hv i))) := hB1.setCell (p := ⟨b.ib 1, i, none⟩) (h1.li 1 (by omega)) _
  have ev : ic { S with rc := up1 S.rc i true } 0 i = S.hv i := rfl
  rw [ev] at v0
  have hrel0 : Hid (RclRel w B B2 n b (S.rec0 i) vw vc (L ++ marksL i 0) cs ((w1.setCell ⟨b.ib 1, i, none⟩ (.int .i64 (S.hv i))).drew)) := ⟨vl, by
    rw [marksL, List.append_nil]
    exact h2.blocks (fun _ _ _ => rfl), hB2.drew, fun g xs hg => ((hK1 g xs hg).far (((hK1 g xs hg)).ne (h1.ri 1 (by omega)) (by decide)) (.int .i64 (S.hv i))).block rfl⟩
  clear h h1 h2 hB1 hB2 ev e hr hK1
  generalize S.hv i = hv at *
  generalize ic { S with rc := up1 S.rc i true } 1 i = kold at *
  have hsz1 : w1.heap.size = w.heap.size := by rw [← hw1]; simp
  go_enter Try.func19, Try.ntmps19
  go_wp2_with fail
  go_region
  go_wp2_with fail
  generalize hw2 : (w1.setCell ⟨b.ib 1, i, none⟩ (.int .i64 hv)).drew = w2 at *
  clear hw2 o2 hh0 v0 k0 kf c0 c1 cf
  have hrel := hrel0.out
  clear hrel0
  go_loopw [7] (fun t wr => ∃ j : Nat, j ≤ n ∧ t = .int .i64 j ∧ RclRel w B B2 n b (S.rec0 i) vw vc (L ++ marksL i j) cs wr) (fun t _ => n - (intOf t).toNat)
  case atStart => exact ⟨0, Nat.zero_le _, rfl, hrel⟩
  case round =>
    rename_i hrel0
    clear hrel0
    obtain ⟨j, hj, rfl, vl', hR, hBr, hKr⟩ := hrel
    have hKrH := Lib.hid hKr
    clear hKr
    have n0 := hR.rn.cell (i := 0) (by simp)
    simp only [List.getElem_cons_zero] at n0
    by_cases hjn : j < n
    · have hjI : (j : Int) < (n : Int) := by omega
      by_cases e : j = i
      · have v1 : ((j : Int) != (i : Int)) = false := by simp [e]
        have hnx : Hid (marksL i (j + 1) = marksL i j) := by unfold Hid; rw [marksL, if_neg (by simp [e])]
        clear e
        go_wp2_with fail
        go_roundw
        case rel => exact ⟨j + 1, by omega, by go_num, vl', by rw [hnx.out]; exact hR, hBr, hKrH.out⟩
        case measure => simp [intOf]; omega
      · have v1 : ((j : Int) != (i : Int)) = true := by simp; omega
        have hnx : Hid (L ++ marksL i (j + 1) = (L ++ marksL i j) ++ [⟨(i : Int), (j : Int), 0⟩]) := by
          unfold Hid
          rw [marksL, if_pos e, List.append_assoc]
        have hml := marksL_len i j
        have hlen : (L ++ marksL i j).length ≤ 1006 := by rw [List.length_append]; omega
        clear e
        generalize L ++ marksL i j = M at *
        have l0 := hR.rl.cell (i := 0) (by simp)
        simp only [List.getElem_cons_zero] at l0
        obtain ⟨A9, cap9, hv9, hc91, hc92, _⟩ := hR.ol.shape
        subst hv9
        have hszr : B ≤ wr.heap.size := Nat.le_trans hB hBr.size
        have hRa := hR.alloc (.cells #[.int .i64 (i : Int), .int .i64 (j : Int), .int .i64 0] 51)
        have hWa := hRa.ol
        unfold OwnL at hWa
        have hBa := hBr.alloc hszr (.cells #[.int .i64 (i : Int), .int .i64 (j : Int), .int .i64 0] 51)
        have hnews := Lib.hid (newsL (w := wr) ⟨(i : Int), (j : Int), 0⟩ rfl)
        have hbase : B ≤ (wr.alloc (.cells #[.int .i64 (i : Int), .int .i64 (j : Int), .int .i64 0] 51)).heap.size := by simp; omega
        have hlt5 : Hid (∀ c, (Value.slice A9 M.length cap9).ownBlock = some c → B ≤ c) := fun c hc => (World.ownsRow.lt hR.ol c hc).1
        have hneW : Hid ((Value.slice A9 M.length cap9).ownBlock ≠ some b.bw) := owns_ne_row hR.ol hR.rl (by decide)
        have hrlA := hRa.rl
        have hRaH := Lib.hid hRa
        have hlw := hR.lo.2.2.2.2.1
        clear hR hBr hRa
        go_wp2_with (first
          | (at_builtin; refine wpList_append_lies _ rfl (.tmp 31) (.tmp 35) 49 rfl B 51 j0 (.agg #[.int .i64 0, .int .i64 0, .int .i64 0]) 3 24 Try.underlying49 hJi.out hJz.out hJs.out hJb.out rfl (by decide) (.slice A9 M.length cap9) M.length (flatL M) rfl hWa ⟨wr.heap.size, 0, none⟩ 1 1 (cellsL ⟨(i : Int), (j : Int), 0⟩) rfl rfl hnews.out (by simp [cellsL, Value.oneCell']) (by omega) (by unfold maxLen; omega) (by omega) hbase _ rfl ?_; intro ga capa wa howna hgrowa hata hltga
             have l1 := hgrowa.cell (hrlA.cell (i := 0) (by simp)) (fun e => hneW.out e.symm)
             have lf := (hrlA.grown hgrowa (fun e => hneW.out e.symm)).frozen 0
             have hRn := Lib.hid (hRaH.out.setL hgrowa (.inr rfl) (OwnL.push howna))
             have hBn : Below B w (wa.setCell ⟨b.bw, 0, none⟩ (.slice (some ⟨ga, 0, none⟩) (M.length + 1) capa)) := (hBa.grown hgrowa hbase hlt5.out).setCell (p := ⟨b.bw, 0, none⟩) hlw _
             have hKn : Hid (MvK w (wa.setCell ⟨b.bw, 0, none⟩ (.slice (some ⟨ga, 0, none⟩) (M.length + 1) capa))) := fun g xs hg => (by
               have hg2 := (hKrH.out g xs hg).alloc (.cells #[.int .i64 (i : Int), .int .i64 (j : Int), .int .i64 0] 51)
               have hg3 := hg2.grown hgrowa (fun e => owns_ne_row hRaH.out.ol hg2 (by decide) e.symm)
               exact hg3.far (hg3.ne (hrlA.grown hgrowa (fun e => hneW.out e.symm)) (by decide)) _)
             clear howna hgrowa hata hltga hWa hBa hrlA))
        go_roundw
        case rel => exact ⟨j + 1, by omega, by go_num, _, by rw [hnx.out]; exact hRn.out, hBn, hKn.out⟩
        case measure => simp [intOf]; omega
    · have hjE : j = n := by omega
      subst hjE
      have hfin : RclRes w B B2 j b (S.record j i) vw vc (L ++ marksL i j) cs (.returned (.tuple #[])) wr := ⟨vl', rfl, hR.congr (fun x a _ _ => by rw [ic_same (S := S.rec0 i) (T := S.record j i) rfl rfl rfl]) (fun x a _ _ => by rw [bc_same (S := S.rec0 i) (T := S.record j i) rfl rfl]), hBr, hKrH.out⟩
      have hfinH := Lib.hid hfin
      clear hfin hR
      go_wp2_with fail
      go_end0
      exact hfinH.out

#print axioms rcl_yes
#print axioms rcl_no
end Go.Proofs.Ytebighmddimnkaa
