/-
  The contracts of beaconryref.Turned, beaconryref.Twos.
-/
import Derived.Test.YtieicimoolegoaaFrv
import Derived.BigQuiet
namespace Go.Proofs.Ytieicimoolegoaa
open Go.RowKit Go.Maps
set_option linter.unusedVariables false

def TdRel (w : World) (s : Nat) (l : List Lk) (k : Nat) (v : Value) (wr : World) : Prop := OwnL wr w.heap.size v ((turnedL s l).take k) ∧ Below w.heap.size w wr
theorem turnedL_len (s : Nat) (l : List Lk) : (turnedL s l).length = l.length := by simp [turnedL]
theorem turnedL_next (s : Nat) (l : List Lk) {k : Nat} (hk : k < l.length) : (turnedL s l).take (k + 1) = (turnedL s l).take k ++ [trnA s (lat l k)] := by
  rw [List.take_succ_eq_append_getElem (by rw [turnedL_len]; exact hk)]
  congr 2
  simp [turnedL, lat_get l hk]
theorem owns_blk {w w' : World} {B : Nat} {e : TypeId} {size n : Nat} {v : Value} {xs : List Value} (h : w.ownsRow B e size v n xs) (hb : ∀ g, v.ownBlock = some g → w'.heap[g]? = w.heap[g]?) : w'.ownsRow B e size v n xs := by
  refine ⟨h.1, ?_⟩
  rcases h.2 with h7 | ⟨g, cap, cur, hv, hb', hg, rest⟩
  · exact .inl h7
  · exact .inr ⟨g, cap, cur, hv, hb', (hb g (by rw [hv]; rfl)).trans hg, rest⟩
theorem OwnL.alloc {w : World} {B : Nat} {v : Value} {l : List Lk} (h : OwnL w B v l) (o : Obj) : OwnL (w.alloc o) B v l := World.ownsRow.alloc h o
theorem OwnL.far {w : World} {B : Nat} {v : Value} {l : List Lk} (h : OwnL w B v l) {p : Addr} (hp : ∀ g, v.ownBlock = some g → g ≠ p.block) (u : Value) : OwnL (w.setCell p u) B v l := owns_blk h fun g e => Below.heap_setCell w p u g (hp g e)
def TurnedRes (w : World) (s : Nat) (l : List Lk) (e : Ending) (w' : World) : Prop := ∃ v, e = .returned v ∧ MadeL w' w.heap.size v (turnedL s l) ∧ Below w.heap.size w w'
set_option maxHeartbeats 6400000 in
theorem turned_any (A : Option Addr) (cap : Nat) (l : List Lk) (N s : Nat) (w : World) (hE : Lks w w.heap.size A l) (hN : N ≤ 6) (hok : LOk (N : Int) l) (hs : s < 4294967296) (hl : l.length ≤ 1000) :
    Calls Try.prog 19 #[.slice A l.length cap, .int .u32 (s : Int)] w (TurnedRes w s l) := by
  have hEH := Lib.hid hE
  have hokH := Lib.hid (fun k (hk : k < l.length) => hok.at_ hk)
  obtain ⟨j0, hi0, hz0, hz1, hz2⟩ := info_parts infoLk
  have hJi := Lib.hid hi0; have hJz := Lib.hid hz0; have hJs := Lib.hid hz1; have hJb := Lib.hid hz2
  clear hi0 hz0 hz1 hz2 hE hok
  go_enter Try.func19, Try.ntmps19
  go_wp2_with fail
  go_loopw [10, 5] (fun t v wr => ∃ k : Nat, k ≤ l.length ∧ t = .int .i64 k ∧ TdRel w s l k v wr) (fun t _ _ => l.length - (intOf t).toNat)
  case atStart => exact ⟨0, Nat.zero_le _, rfl, OwnL.nil _ _, Below.refl _ _⟩
  case round =>
    obtain ⟨k, hk, rfl, hO, hB⟩ := hrel
    rename World => wr
    by_cases hlt : k < l.length
    · obtain ⟨b, off, rfl, hb, c3, c4⟩ := (hEH.out.below hB).at_ hlt
      obtain ⟨ha, hbb, hx, hy, hxy⟩ := hokH.out k hlt
      have hkI : (k : Int) < (l.length : Int) := by omega
      have htl : ((turnedL s l).take k).length = k := by rw [List.length_take, turnedL_len]; omega
      have hnext := Lib.hid (turnedL_next s l hlt)
      have hyes : Hid ((s.testBit (la l k) = true ∨ s.testBit (lb l k) = true) → trnA s (lat l k) = ⟨(lb l k : Int), (la l k : Int)⟩) := fun h => by
        have h' : (s.testBit (lat l k).a.toNat || s.testBit (lat l k).b.toNat) = true := by rw [Bool.or_eq_true]; exact h
        unfold trnA
        rw [if_pos h']
        unfold swp
        rw [ha, hbb]
      have hno : Hid (s.testBit (la l k) = false → s.testBit (lb l k) = false → trnA s (lat l k) = ⟨(la l k : Int), (lb l k : Int)⟩) := fun h h2 => by
        have h' : ¬ (s.testBit (lat l k).a.toNat || s.testBit (lat l k).b.toNat) = true := by
          rw [Bool.or_eq_true]
          rintro (h3 | h3)
          · rw [show s.testBit (lat l k).a.toNat = false from h] at h3; cases h3
          · rw [show s.testBit (lat l k).b.toNat = false from h2] at h3; cases h3
        unfold trnA
        rw [if_neg h', ← ha, ← hbb]
      rw [ha] at c3
      rw [hbb] at c4
      have hB1 := lk_alloc hB (la l k : Int) (lb l k : Int)
      have hR1 := Row.made wr 43 [.int .i64 (la l k : Int), .int .i64 (lb l k : Int)]
      have hO1 := hO.alloc (.cells #[.int .i64 (la l k : Int), .int .i64 (lb l k : Int)] 43)
      have hlt1 : ∀ g, u5.ownBlock = some g → g ≠ wr.heap.size := fun g hg => Nat.ne_of_lt (World.ownsRow.lt hO g hg).2
      have hOlow : Hid (∀ g, u5.ownBlock = some g → w.heap.size ≤ g) := fun g hg => (World.ownsRow.lt hO g hg).1
      have hlow := hB.size
      have hcx := Lib.hid (fun w => bit_any s (la l k) w hs (by omega))
      have hcy := Lib.hid (fun w => bit_any s (lb l k) w hs (by omega))
      have hpush : Hid (∀ m ga capa wa, wa.ownsRow w.heap.size 43 2 (.slice (some ⟨ga, 0, none⟩) (k + 1) capa) (k + 1) (flatK ((turnedL s l).take k) ++ cellsK m) → OwnL wa w.heap.size (.slice (some ⟨ga, 0, none⟩) (k + 1) capa) ((turnedL s l).take k ++ [m])) := fun m ga capa wa h => by
        have := OwnL.push (l := (turnedL s l).take k) (m := m) (w := wa) (B := w.heap.size) (g := ga) (cap := capa)
        rw [htl] at this
        exact this h
      obtain ⟨A9, cap9, hv9, hc91, hc92, _⟩ := hO.made
      rw [htl] at hv9 hc91
      subst hv9
      unfold OwnL at hO1 hO
      rw [htl] at hO
      rw [htl] at hO1
      have hO1c : (wr.alloc (.cells #[.int .i64 (la l k : Int), .int .i64 (lb l k : Int)] 43)).ownsRow w.heap.size 43 2 (.slice A9 k cap9) k (flatK ((turnedL s l).take k)) := hO1
      have hOwr : wr.ownsRow w.heap.size 43 2 (.slice A9 k cap9) k (flatK ((turnedL s l).take k)) := hO
      clear hO
      generalize trnA s (lat l k) = Z at *
      generalize (turnedL s l).take k = L at *
      have d0 := hR1.cell (i := 0) (by simp)
      have d1 := hR1.cell (i := 1) (by simp)
      simp only [List.getElem_cons_zero, List.getElem_cons_succ] at d0 d1
      have z0 := Row.frozen hR1 0
      have z1 := Row.frozen hR1 1
      have hp : w.heap.size ≤ wr.heap.size := hlow
      have hBwr := hB
      clear ha hbb hO1 hB
      generalize hx0 : la l k = x at *
      generalize hy0 : lb l k = y at *
      clear hx0 hy0
      by_cases t0 : s.testBit x = true ∨ s.testBit y = true
      · have hZ : Z = ⟨(y : Int), (x : Int)⟩ := hyes.out t0
        subst hZ
        have hR3 := Row.made wr 43 [.int .i64 (y : Int), .int .i64 (x : Int)]
        have e0 := hR3.cell (i := 0) (by simp)
        have e1 := hR3.cell (i := 1) (by simp)
        simp only [List.getElem_cons_zero, List.getElem_cons_succ] at e0 e1
        have hO2 := World.ownsRow.alloc hOwr (.cells #[.int .i64 (y : Int), .int .i64 (x : Int)] 43)
        have hB2 := lk_alloc hBwr (y : Int) (x : Int)
        have hsz : (wr.alloc (.cells #[.int .i64 (y : Int), .int .i64 (x : Int)] 43)).heap.size = wr.heap.size + 1 := by simp
        have hnews := Lib.hid (newsK (w := wr.alloc (.cells #[.int .i64 (y : Int), .int .i64 (x : Int)] 43)) (g := wr.heap.size + 1) ⟨(y : Int), (x : Int)⟩ hsz.symm)
        have hO3 := Lib.hid (World.ownsRow.alloc hO2 (.cells #[.int .i64 (y : Int), .int .i64 (x : Int)] 43))
        have hB3 := Lib.hid (hB2.alloc hB2.size (.cells #[.int .i64 (y : Int), .int .i64 (x : Int)] 43))
        clear hR1 hR3 hO1c hO2 hB1 hB2 hyes hno hsz hlt1 hOwr hBwr
        cases e : s.testBit x with
        | true =>
          rw [e] at hcx
          clear e t0
          go_wp2_with fail
          refine (hcx.out _).mono ?_
          rintro e w1 ⟨rfl, rfl⟩
          go_wp2_with (first
            | (at_builtin; refine wpList_append_lies _ rfl (.tmp 29) (.tmp 31) 22 rfl w.heap.size 43 j0 (.agg #[.int .i64 0, .int .i64 0]) 2 16 Try.underlying22 hJi.out hJz.out hJs.out hJb.out rfl (by decide) (.slice A9 k cap9) k (flatK L) rfl hO3.out ⟨wr.heap.size + 1, 0, none⟩ 1 1 (cellsK ⟨(y : Int), (x : Int)⟩) rfl rfl hnews.out (by simp [cellsK, Value.oneCell']) (by omega) (by unfold maxLen; omega) (by omega) hB3.out.size _ rfl ?_; intro ga capa wa howna hgrowa hata hltga
               have hWn := hpush.out _ ga capa wa howna
               have hBn := hB3.out.grown hgrowa hB3.out.size hOlow.out
               clear howna hgrowa hata hltga))
          go_roundw
          case rel => exact ⟨k + 1, by omega, by go_num, by rw [hnext.out]; exact hWn, hBn⟩
          case measure => simp [intOf]; omega
        | false =>
          have ey : s.testBit y = true := by
            rcases t0 with h | h
            · rw [e] at h; cases h
            · exact h
          rw [e] at hcx
          rw [ey] at hcy
          clear e ey t0
          go_wp2_with fail
          refine (hcx.out _).mono ?_
          rintro e w1 ⟨rfl, rfl⟩
          go_wp2_with fail
          refine (hcy.out _).mono ?_
          rintro e w1 ⟨rfl, rfl⟩
          go_wp2_with (first
            | (at_builtin; refine wpList_append_lies _ rfl (.tmp 29) (.tmp 31) 22 rfl w.heap.size 43 j0 (.agg #[.int .i64 0, .int .i64 0]) 2 16 Try.underlying22 hJi.out hJz.out hJs.out hJb.out rfl (by decide) (.slice A9 k cap9) k (flatK L) rfl hO3.out ⟨wr.heap.size + 1, 0, none⟩ 1 1 (cellsK ⟨(y : Int), (x : Int)⟩) rfl rfl hnews.out (by simp [cellsK, Value.oneCell']) (by omega) (by unfold maxLen; omega) (by omega) hB3.out.size _ rfl ?_; intro ga capa wa howna hgrowa hata hltga
               have hWn := hpush.out _ ga capa wa howna
               have hBn := hB3.out.grown hgrowa hB3.out.size hOlow.out
               clear howna hgrowa hata hltga))
          go_roundw
          case rel => exact ⟨k + 1, by omega, by go_num, by rw [hnext.out]; exact hWn, hBn⟩
          case measure => simp [intOf]; omega
      · have ex : s.testBit x = false := by rw [← Bool.not_eq_true]; exact fun h => t0 (.inl h)
        have ey : s.testBit y = false := by rw [← Bool.not_eq_true]; exact fun h => t0 (.inr h)
        have hZ : Z = ⟨(x : Int), (y : Int)⟩ := hno.out ex ey
        subst hZ
        have hsz : (wr.alloc (.cells #[.int .i64 (x : Int), .int .i64 (y : Int)] 43)).heap.size = wr.heap.size + 1 := by simp
        have hnews := Lib.hid (newsK (w := wr.alloc (.cells #[.int .i64 (x : Int), .int .i64 (y : Int)] 43)) (g := wr.heap.size + 1) ⟨(x : Int), (y : Int)⟩ hsz.symm)
        have hO3 := Lib.hid (World.ownsRow.alloc hO1c (.cells #[.int .i64 (x : Int), .int .i64 (y : Int)] 43))
        have hB3 := Lib.hid (hB1.alloc hB1.size (.cells #[.int .i64 (x : Int), .int .i64 (y : Int)] 43))
        rw [ex] at hcx
        rw [ey] at hcy
        clear hR1 hO1c hB1 hyes hno hsz hlt1 ex ey t0 hOwr hBwr
        go_wp2_with fail
        refine (hcx.out _).mono ?_
        rintro e w1 ⟨rfl, rfl⟩
        go_wp2_with fail
        refine (hcy.out _).mono ?_
        rintro e w1 ⟨rfl, rfl⟩
        go_wp2_with (first
          | (at_builtin; refine wpList_append_lies _ rfl (.tmp 29) (.tmp 31) 22 rfl w.heap.size 43 j0 (.agg #[.int .i64 0, .int .i64 0]) 2 16 Try.underlying22 hJi.out hJz.out hJs.out hJb.out rfl (by decide) (.slice A9 k cap9) k (flatK L) rfl hO3.out ⟨wr.heap.size + 1, 0, none⟩ 1 1 (cellsK ⟨(x : Int), (y : Int)⟩) rfl rfl hnews.out (by simp [cellsK, Value.oneCell']) (by omega) (by unfold maxLen; omega) (by omega) hB3.out.size _ rfl ?_; intro ga capa wa howna hgrowa hata hltga
             have hWn := hpush.out _ ga capa wa howna
             have hBn := hB3.out.grown hgrowa hB3.out.size hOlow.out
             clear howna hgrowa hata hltga))
        go_roundw
        case rel => exact ⟨k + 1, by omega, by go_num, by rw [hnext.out]; exact hWn, hBn⟩
        case measure => simp [intOf]; omega
    · have hkl : k = l.length := by omega
      subst hkl
      have hM := hO.made
      rw [List.take_of_length_le (by rw [turnedL_len]; exact Nat.le_refl _)] at hM
      have hMH := Lib.hid hM
      clear hO hM
      go_wp2_with fail
      go_ret
      exact ⟨_, rfl, hMH.out, hB⟩
def TwRel_ (w wr : World) : Prop := Below w.heap.size w wr
set_option maxHeartbeats 1600000 in
/-- Two slices of the same links. -/
theorem twos_same (A A2 : Option Addr) (cap cap2 : Nat) (l : List Lk) (w : World) (hE : Lks w w.heap.size A l) (hE2 : Lks w w.heap.size A2 l) (hl : l.length ≤ 1000) :
    Calls Try.prog 18 #[.slice A l.length cap, .slice A2 l.length cap2] w fun e w' => e = .returned (.bool true) ∧ Below w.heap.size w w' := by
  have hEH := Lib.hid hE
  have hE2H := Lib.hid hE2
  clear hE hE2
  go_enter Try.func18, Try.ntmps18
  go_wp2_with fail
  go_loopw [5] (fun t wr => ∃ k : Nat, k ≤ l.length ∧ t = .int .i64 k ∧ TwRel_ w wr) (fun t _ => l.length - (intOf t).toNat)
  case atStart => exact ⟨0, Nat.zero_le _, rfl, Below.refl _ _⟩
  case round =>
    obtain ⟨k, hk, rfl, hB⟩ := hrel
    unfold TwRel_ at hB
    by_cases hlt : k < l.length
    · obtain ⟨b, off, rfl, hb, c3, c4⟩ := (hEH.out.below hB).at_ hlt
      obtain ⟨b2, off2, rfl, hb2, e3, e4⟩ := (hE2H.out.below hB).at_ hlt
      have hkI : (k : Int) < (l.length : Int) := by omega
      have hq : ∀ w, (Op.equalIn 10000 43 (.agg #[.int .i64 (lat l k).a, .int .i64 (lat l k).b]) (.agg #[.int .i64 (lat l k).a, .int .i64 (lat l k).b])).run Try.prog w = .ok true w := fun w => by rw [eqL]; simp
      generalize (lat l k).a = x at *
      generalize (lat l k).b = y at *
      go_wp2_with fail
      go_quiet (fail)
      go_wp2_with fail
      go_roundw
      case rel => exact ⟨k + 1, by omega, by go_num, below_drewN hB _⟩
      case measure => simp [intOf]; omega
    · have hkl : k = l.length := by omega
      subst hkl
      go_wp2_with fail
      go_ret
      exact ⟨rfl, hB⟩
#print axioms turned_any
#print axioms twos_same
end Go.Proofs.Ytieicimoolegoaa
