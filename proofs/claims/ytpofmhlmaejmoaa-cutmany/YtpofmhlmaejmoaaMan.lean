/-
  The contract of cut.Many.
-/
import Derived.Test.YtpofmhlmaejmoaaExt
import Derived.Maps.OwnOps
namespace Go.Proofs.Ytpofmhlmaejmoaa
open Go.RowKit Go.Maps

set_option maxHeartbeats 800000 in
theorem many_no (A : Option Addr) (cap : Nat) (l : List Ev) (n : Int) (w : World) (hE : Evs w w.heap.size A l) (hF : Fits l) (hl : l.length ≤ maxLen) (h0 : ¬ checkCode n l = 0) :
    Calls Try.prog 17 #[.int .i64 n, .slice A l.length cap] w fun e w' => e = .returned (.tuple #[.int .i64 0, .int .i64 (checkCode n l)]) ∧ Below w.heap.size w w' := by
  have hb0 : (checkCode n l != 0) = true := by simp [h0]
  have h0H := Lib.hid h0
  clear h0
  go_enter Try.func17, Try.ntmps17
  go_wp2_with fail
  refine (split_no A cap l n _ hE hF hl h0H.out).mono ?_
  rintro e w1 ⟨rfl, hB1⟩
  go_wp2_with fail
  go_ret2
  exact ⟨rfl, hB1⟩

def ManRel (l : List Ev) (c : Nat) (w w1 : World) (M : Nat) (v : Value) (wr : World) : Prop :=
  ∃ ks ps, MapS wr M ks ∧ OwnCuts wr (M + 1) v ps ∧ ManInv l c ks ps ∧ ps.length ≤ ks.length ∧ Below M w1 wr ∧ Below w.heap.size w wr
def ManInRel (l : List Ev) (c : Nat) (F : Nat → Nat) (w w1 : World) (M lo hi : Nat) (AE : Option Addr) (k0 p0 j : Nat) (v : Value) (wr : World) : Prop :=
  ∃ ks ps, MapS wr M ks ∧ OwnCuts wr (M + 1) v ps ∧ ManIn l c F j ks ps ∧ ps.length ≤ ks.length ∧ ps.length + k0 = p0 + ks.length ∧ (∀ b, v.ownBlock = some b → b < lo ∨ hi ≤ b) ∧ CutsAt wr lo hi AE (exts l c F c) ∧ hi ≤ wr.heap.size ∧ Below M w1 wr ∧ Below w.heap.size w wr
theorem six0 : Six (fun _ => 0) := ⟨fun _ => by omega, fun _ _ => rfl⟩

set_option maxHeartbeats 4000000 in
set_option maxRecDepth 100000 in
theorem many_ok (A : Option Addr) (cap : Nat) (l : List Ev) (c : Nat) (w : World) (hE : Evs w w.heap.size A l) (hF : Fits l) (h0 : checkCode (c : Int) l = 0) :
    Calls Try.prog 17 #[.int .i64 (c : Int), .slice A l.length cap] w fun e w' => e = .returned (.tuple #[.int .i64 ((cutsL l c).length : Int), .int .i64 0]) ∧ Below w.heap.size w w' := by
  obtain ⟨⟨hn1, hn2, h30⟩, hg⟩ := check_good.1 h0
  have hl : l.length ≤ maxLen := by unfold maxLen; omega
  have h0H := Lib.hid h0
  clear h0
  have hc6 : c ≤ 6 := by omega
  have hN : (cutsL l c).length ≤ 887503681 := Nat.le_trans (cutsL_le l c) (prodT_small l h30 hc6).2
  obtain ⟨j0, hi0, hz0, hz1, hz2⟩ := info_parts info60
  have hJi := Lib.hid hi0; have hJz := Lib.hid hz0; have hJs := Lib.hid hz1; have hJb := Lib.hid hz2
  clear hi0 hz0 hz1 hz2
  have hgH := Lib.hid hg
  clear hg
  have hmm := @run_makeMap Try.prog
  go_enter Try.func17, Try.ntmps17
  go_wp2_with fail
  refine (split_ok A cap l c _ hE hF h0H.out).mono ?_
  rintro e w1 ⟨T, rfl, hO, hB1⟩
  obtain ⟨w2, hins', hM2, hG2⟩ := (MapS.made w1).update six0 (by simp) (show ([] : List (Nat → Nat)).length < maxLen by unfold maxLen; simp)
  have hins : (Instr.mapUpdate 61 (.map (some w1.heap.size)) (.agg #[.int .i64 0, .int .i64 0, .int .i64 0, .int .i64 0, .int .i64 0, .int .i64 0]) (.bool true)).run Try.prog (w1.alloc (.map #[] 0)) = .ok () w2 := hins'
  have hlow := hB1.size
  have hsz2 : w1.heap.size + 1 ≤ w2.heap.size := by have := hG2.size; simpa using this
  have hB2 : Below w1.heap.size w1 w2 := ((Below.refl w1.heap.size w1).alloc (Nat.le_refl _) _).grown hG2 (by simp) (by simp)
  have hB2' : Below w.heap.size w w2 := hB1.trans (hB2.mono hlow)
  have hM3 := hM2.alloc (.cells #[.int .i64 0, .int .i64 0, .int .i64 0, .int .i64 0, .int .i64 0, .int .i64 0] 60)
  have hB3 := hB2.alloc hB2.size (.cells #[.int .i64 0, .int .i64 0, .int .i64 0, .int .i64 0, .int .i64 0, .int .i64 0] 60)
  have hB3' := hB2'.alloc (by omega) (.cells #[.int .i64 0, .int .i64 0, .int .i64 0, .int .i64 0, .int .i64 0, .int .i64 0] 60)
  have hW3 : OwnCuts (w2.alloc (.cells #[.int .i64 0, .int .i64 0, .int .i64 0, .int .i64 0, .int .i64 0, .int .i64 0] 60)) (w1.heap.size + 1) (.slice (some ⟨w2.heap.size, 0, none⟩) 1 1) [fun _ => 0] := World.ownsRow_lit w2 #[.int .i64 0, .int .i64 0, .int .i64 0, .int .i64 0, .int .i64 0, .int .i64 0] 1 hsz2 (by unfold maxLen; omega) rfl
  clear hM2 hG2 hB2 hB2' hins' hB1
  go_wp2_with fail
  clear hins
  obtain ⟨M, hM0⟩ : ∃ M, w1.heap.size = M := ⟨_, rfl⟩
  have hOH := Lib.hid hO
  have hMH := Lib.hid hM0
  rw [hM0] at hM3 hW3 hB3 hlow hsz2 ⊢
  clear hO hM0 hmm
  go_loopw [9] (fun v wr => ManRel l c w w1 M v wr) (fun v wr => ((cutsL l c).length - mapN wr M) + lenV v)
  case atStart => exact ⟨_, _, hM3, hW3, ManInv.start l c, by simp, hB3, hB3'⟩
  case round =>
    clear hM3 hW3 hB3 hB3'
    obtain ⟨ks, ps, hM, hW, hI, hle, hB1, hB⟩ := hrel
    rename World => w2'
    have hMlt := hM.lt
    obtain ⟨A2, cap2, hv, hcap1, hcap2, hsh⟩ := hW.shape
    subst hv
    rcases List.eq_nil_or_concat ps with rfl | ⟨ps, F, hps⟩
    · have hend : Hid (ks.length = (cutsL l c).length) := hI.all hgH.out
      clear hsh
      simp only [List.length_nil] at *
      go_wp2_with (first
        | (at_len; refine wpList_lenS rfl _ rfl M ks rfl hM ?_))
      go_ret2
      exact ⟨by rw [hend.out]; rfl, hB⟩
    · obtain rfl := hps.trans (by simp : _ = ps ++ [F])
      have hn : (ps ++ [F]).length = ps.length + 1 := by simp
      obtain ⟨gp, rfl, hgp1, hgp2, hat⟩ := hsh ps.length (by omega)
      rw [List.getElem_concat_length rfl] at hat
      clear hsh
      rw [hn] at hW hcap1 hle ⊢
      obtain ⟨y0, y1, y2, y3, y4, y5⟩ := hat
      have hpop := hW.pop
      have hFc := hI.cuts F (hI.sub F (by simp))
      have hkN := hI.len
      have hIn := hI.take
      have hmap := Lib.hid (mapN_eq hM)
      clear hn hI hW
      have hnI : ((ps.length + 1 : Nat) : Int) - 1 = (ps.length : Int) := by omega
      have hgt : (0 : Int) < ((ps.length + 1 : Nat) : Int) := by omega
      have hBc1 := hB1.alloc (by omega) (.cells #[.int .i64 (F 0 : Int), .int .i64 (F 1 : Int), .int .i64 (F 2 : Int), .int .i64 (F 3 : Int), .int .i64 (F 4 : Int), .int .i64 (F 5 : Int)] 60)
      have hBc := hB.alloc hB.size (.cells #[.int .i64 (F 0 : Int), .int .i64 (F 1 : Int), .int .i64 (F 2 : Int), .int .i64 (F 3 : Int), .int .i64 (F 4 : Int), .int .i64 (F 5 : Int)] 60)
      have hMc := hM.alloc (.cells #[.int .i64 (F 0 : Int), .int .i64 (F 1 : Int), .int .i64 (F 2 : Int), .int .i64 (F 3 : Int), .int .i64 (F 4 : Int), .int .i64 (F 5 : Int)] 60)
      have hWc := hpop.alloc (.cells #[.int .i64 (F 0 : Int), .int .i64 (F 1 : Int), .int .i64 (F 2 : Int), .int .i64 (F 3 : Int), .int .i64 (F 4 : Int), .int .i64 (F 5 : Int)] 60)
      have hszc : w2'.heap.size < (w2'.alloc (.cells #[.int .i64 (F 0 : Int), .int .i64 (F 1 : Int), .int .i64 (F 2 : Int), .int .i64 (F 3 : Int), .int .i64 (F 4 : Int), .int .i64 (F 5 : Int)] 60)).heap.size := by simp
      go_wp2_with fail
      clear hM hB1 hB hpop y0 y1 y2 y3 y4 y5
      generalize w2'.alloc (.cells #[.int .i64 (F 0 : Int), .int .i64 (F 1 : Int), .int .i64 (F 2 : Int), .int .i64 (F 3 : Int), .int .i64 (F 4 : Int), .int .i64 (F 5 : Int)] 60) = w3 at *
      have hOc : HOut l c T w3 := hOH.out.below (by rw [hMH.out]; exact hBc1)
      refine (extensions_any l c T F w3 hOc hc6 h30 hgH.out hFc).mono ?_
      rintro e w4 ⟨AE, capE, rfl, hX, hB4⟩
      have hB41 := hBc1.trans (hB4.mono (by omega))
      have hB4' := hBc.trans (hB4.mono (by omega))
      have hM4 := hMc.below hB4 (by omega)
      have hW4 := hWc.below hB4 (Nat.le_refl _)
      have hsz4 := hB4.size
      have hown : ∀ b, (Value.slice (some ⟨gp, 0, none⟩) ps.length cap2).ownBlock = some b → b < w3.heap.size ∨ w4.heap.size ≤ b := fun b hb => by
        simp [Value.ownBlock] at hb
        omega
      have hFsix := Lib.hid hFc
      have hownH := Lib.hid hown
      have hMlo : M < w3.heap.size := by omega
      have hlen6 := exts_len l c F c
      clear hOc hBc1 hBc hMc hWc hB4 hszc hown hFc hgp1 hgp2
      obtain ⟨lo, hlo⟩ : ∃ lo, w3.heap.size = lo := ⟨_, rfl⟩
      obtain ⟨hi, hhi⟩ : ∃ hi, w4.heap.size = hi := ⟨_, rfl⟩
      rw [hlo] at hX hownH hMlo hsz4
      rw [hhi] at hX hownH hsz4
      have hhiH : hi ≤ w4.heap.size := by omega
      clear hlo hhi
      generalize hk0 : ks.length = k0 at *
      generalize hp0 : ps.length = p0 at *
      have hk0H := Lib.hid hk0
      have hp0H := Lib.hid hp0
      clear hk0 hp0
      go_wp2_with fail
      go_loopw [9, 45] (fun v t wr => ∃ j : Nat, j ≤ (exts l c F c).length ∧ t = .int .i64 j ∧ ManInRel l c F w w1 M lo hi AE k0 p0 j v wr) (fun _ t _ => (exts l c F c).length - (intOf t).toNat)
      case atStart => exact ⟨0, Nat.zero_le _, rfl, ks, ps, hM4, hp0H.out ▸ hW4, hIn, by rw [hk0H.out, hp0H.out]; omega, by rw [hk0H.out, hp0H.out], hownH.out, hX, hhiH, hB41, hB4'⟩
      case round =>
        clear hM4 hW4 hIn hownH hX hhiH hB41 hB4'
        obtain ⟨j, hj, rfl, ks, ps, hM, hW, hI, hlen, hbal, hown, hX, hhi, hB1, hB⟩ := hrel
        have hownH := Lib.hid hown
        clear hown
        have hkN2 := hI.len
        have hMlt2 := hM.lt
        by_cases hjl : j < (exts l c F c).length
        · have hjI : (j : Int) < ((exts l c F c).length : Int) := by omega
          obtain ⟨gE, rfl, hgE1, hgE2, hat⟩ := hX j hjl
          have hold := Lib.hid (fun h => hI.old hjl h)
          have hnew := Lib.hid (fun h => hI.new hjl h)
          have hGc : CutF l c (exts l c F c)[j] := by
            obtain ⟨q, _, h2, h3⟩ := (exts_mem l c F _ c).1 (List.getElem_mem hjl)
            rw [h3]; exact h2
          have hsix := Lib.hid (hGc.six h30 hc6)
          clear hGc hI
          generalize (exts l c F c)[j] = G at *
          obtain ⟨y0, y1, y2, y3, y4, y5⟩ := hat
          have hMn := hM.alloc (.cells #[.int .i64 (G 0 : Int), .int .i64 (G 1 : Int), .int .i64 (G 2 : Int), .int .i64 (G 3 : Int), .int .i64 (G 4 : Int), .int .i64 (G 5 : Int)] 60)
          have hWn := hW.alloc (.cells #[.int .i64 (G 0 : Int), .int .i64 (G 1 : Int), .int .i64 (G 2 : Int), .int .i64 (G 3 : Int), .int .i64 (G 4 : Int), .int .i64 (G 5 : Int)] 60)
          have hXn := hX.alloc hhi (.cells #[.int .i64 (G 0 : Int), .int .i64 (G 1 : Int), .int .i64 (G 2 : Int), .int .i64 (G 3 : Int), .int .i64 (G 4 : Int), .int .i64 (G 5 : Int)] 60)
          have hBn1 := hB1.alloc (by omega) (.cells #[.int .i64 (G 0 : Int), .int .i64 (G 1 : Int), .int .i64 (G 2 : Int), .int .i64 (G 3 : Int), .int .i64 (G 4 : Int), .int .i64 (G 5 : Int)] 60)
          have hBn := hB.alloc hB.size (.cells #[.int .i64 (G 0 : Int), .int .i64 (G 1 : Int), .int .i64 (G 2 : Int), .int .i64 (G 3 : Int), .int .i64 (G 4 : Int), .int .i64 (G 5 : Int)] 60)
          have hwsz : wr.heap.size < (wr.alloc (.cells #[.int .i64 (G 0 : Int), .int .i64 (G 1 : Int), .int .i64 (G 2 : Int), .int .i64 (G 3 : Int), .int .i64 (G 4 : Int), .int .i64 (G 5 : Int)] 60)).heap.size := by simp
          obtain ⟨z0, z1, z2, z3, z4, z5⟩ := (Row6.made wr G).all
          simp only [Nat.zero_add] at z0 z1 z2 z3 z4 z5
          by_cases hk : G ∈ ks
          · have hold2 := Lib.hid (hold.out hk)
            have hkH := Lib.hid hk
            clear hold hnew hk hM hW hX hB1 hB
            go_wp2_with (first
              | (at_lookup; refine wpList_lookS rfl _ _ rfl M ks G hsix.out true ⟨fun _ => hkH.out, fun _ => rfl⟩ rfl hMn rfl ?_))
            go_roundw
            case rel => exact ⟨j + 1, by omega, by go_num, ks, ps, hMn, hWn, hold2.out, hlen, hbal, hownH.out, hXn, by omega, hBn1, hBn⟩
            case measure => simp [intOf]; omega
          · have hnew2 := Lib.hid (hnew.out hk)
            have hkH := Lib.hid hk
            have hneM : Hid (u9.ownBlock = none ∨ u9.ownBlock ≠ some M) := by
              right
              intro e
              have := (World.ownsRow.lt hW M e).1
              omega
            have hlt3 : Hid (∀ b, u9.ownBlock = some b → M < b) := fun b hb => (World.ownsRow.lt hW b hb).1
            have hlt4 : Hid (∀ b, u9.ownBlock = some b → b < wr.heap.size) := fun b hb => (World.ownsRow.lt hW b hb).2
            clear hold hnew hk hM hW hX hB1 hB
            go_wp2_with (first
              | (at_lookup; refine wpList_lookS rfl _ _ rfl M ks G hsix.out false ⟨fun h => absurd h (by decide), fun h => absurd h hkH.out⟩ rfl hMn rfl ?_)
              | (at_mapUpdate; refine wpList_putS rfl _ _ _ (.inl rfl) M ks G hsix.out hkH.out (by unfold maxLen; omega) rfl hMn rfl rfl ?_; intro w5 hM5 hG5
                 have v0 := hG5.cell z0 (by simp; omega); have v1 := hG5.cell z1 (by simp; omega); have v2 := hG5.cell z2 (by simp; omega); have v3 := hG5.cell z3 (by simp; omega); have v4 := hG5.cell z4 (by simp; omega); have v5 := hG5.cell z5 (by simp; omega)
                 have hW5 : OwnCuts w5 (M + 1) u9 ps := World.ownsRow.kept hWn hG5 hneM.out
                 have hX5 := hXn.grown hG5 (by omega) (fun g h1 h2 => by simp; omega)
                 have hB51 := hBn1.grown hG5 (by omega) (by simp)
                 have hB5 := hBn.grown hG5 hBn.size (by simp; omega)
                 have hsz5 := hG5.size
                 have hM6 := hM5.alloc (.cells #[.int .i64 (G 0 : Int), .int .i64 (G 1 : Int), .int .i64 (G 2 : Int), .int .i64 (G 3 : Int), .int .i64 (G 4 : Int), .int .i64 (G 5 : Int)] 60)
                 have hW6 := hW5.alloc (.cells #[.int .i64 (G 0 : Int), .int .i64 (G 1 : Int), .int .i64 (G 2 : Int), .int .i64 (G 3 : Int), .int .i64 (G 4 : Int), .int .i64 (G 5 : Int)] 60)
                 have hX6 := hX5.alloc (by omega) (.cells #[.int .i64 (G 0 : Int), .int .i64 (G 1 : Int), .int .i64 (G 2 : Int), .int .i64 (G 3 : Int), .int .i64 (G 4 : Int), .int .i64 (G 5 : Int)] 60)
                 have hB61 := hB51.alloc (by omega) (.cells #[.int .i64 (G 0 : Int), .int .i64 (G 1 : Int), .int .i64 (G 2 : Int), .int .i64 (G 3 : Int), .int .i64 (G 4 : Int), .int .i64 (G 5 : Int)] 60)
                 have hB6 := hB5.alloc (by omega) (.cells #[.int .i64 (G 0 : Int), .int .i64 (G 1 : Int), .int .i64 (G 2 : Int), .int .i64 (G 3 : Int), .int .i64 (G 4 : Int), .int .i64 (G 5 : Int)] 60)
                 have hnews := Lib.hid (news6 (w := w5) G rfl)
                 have hbase : M + 1 ≤ (w5.alloc (.cells #[.int .i64 (G 0 : Int), .int .i64 (G 1 : Int), .int .i64 (G 2 : Int), .int .i64 (G 3 : Int), .int .i64 (G 4 : Int), .int .i64 (G 5 : Int)] 60)).heap.size := (by simp; omega)
                 have hsz6 : hi ≤ (w5.alloc (.cells #[.int .i64 (G 0 : Int), .int .i64 (G 1 : Int), .int .i64 (G 2 : Int), .int .i64 (G 3 : Int), .int .i64 (G 4 : Int), .int .i64 (G 5 : Int)] 60)).heap.size := (by simp; omega)
                 unfold OwnCuts at hW6
                 clear hG5 hM5 hW5 hX5 hB51 hB5 z0 z1 z2 z3 z4 z5)
              | (at_builtin; refine wpList_append_lies _ rfl (.tmp 55) (.tmp 57) 62 rfl (M + 1) 60 j0 (arr6 fun _ => 0) 6 48 Try.underlying62 hJi.out hJz.out hJs.out hJb.out rfl (by decide) u9 ps.length (flat6 ps) rfl hW6 ⟨w5.heap.size, 0, none⟩ 1 1 (cells6 G) rfl rfl hnews.out (by simp [cells6, Value.oneCell']) (by omega) (by unfold maxLen; omega) (by omega) hbase _ rfl ?_; intro g7 cap7 w7 hown7 hgrow7 hat7 hltg7))
            have hW7 := OwnCuts.push hown7
            have hM7 := hM6.kept hgrow7 (fun e => by have := hlt3.out M e.symm; omega)
            have hX7 := hX6.grown hgrow7 hsz6 (fun g h1 h2 e => by have := hownH.out g e.symm; omega)
            have hB71 := hB61.grown hgrow7 (by omega) (fun b hb => by have := hlt3.out b hb; omega)
            have hB7 := hB6.grown hgrow7 hB6.size (fun b hb => by have := hlt3.out b hb; omega)
            have hown9 : ∀ b, (Value.slice (some ⟨g7, 0, none⟩) (ps.length + 1) cap7).ownBlock = some b → b < lo ∨ hi ≤ b := fun b hb => by
              have e : g7 = b := by simpa [Value.ownBlock] using hb
              subst e
              rcases hat7 with h | h
              · exact hownH.out g7 h
              · right; omega
            go_roundw
            case rel => exact ⟨j + 1, by omega, by go_num, _, _, hM7, hW7, hnew2.out, by simp; omega, by simp; omega, hown9, hX7, Nat.le_trans hsz6 hgrow7.size, hB71, hB7⟩
            case measure => simp [intOf]; omega
        · have hjE : j = (exts l c F c).length := by omega
          subst hjE
          have hInv := hI.stop
          have hmap2 := Lib.hid (mapN_eq hM)
          obtain ⟨A3, cap3, rfl, _, _, _⟩ := hW.shape
          go_wp2_with fail
          go_roundw
          case rel => exact ⟨ks, ps, hM, hW, hInv, hlen, hB1, hB⟩
          case measure =>
            rw [hmap.out, hmap2.out]
            have := hp0H.out
            simp [lenV]
            omega

#print axioms many_ok
end Go.Proofs.Ytpofmhlmaejmoaa
