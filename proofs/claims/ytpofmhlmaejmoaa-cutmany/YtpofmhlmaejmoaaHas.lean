/-
  The contracts of run.has and run.pasts.
-/
import Derived.Test.YtpofmhlmaejmoaaRows
import Derived.Test.YtpofmhlmaejmoaaPast
import Derived.KernelRfl
import Derived.Test.YtpofmhlmaejmoaaRowW
import Derived.Laws.Bits64b
namespace Go.Proofs.Ytpofmhlmaejmoaa
open Go.RowKit Go.Maps

theorem bit_word (x i : Nat) (hx : x < 1073741824) : (bits BinOp.and IntKind.u64 ((x : Int) / 2 ^ i) 1 == 1) = x.testBit i := by
  have e : ((x : Int) / 2 ^ i) = ((x / 2 ^ i : Nat) : Int) := by simp
  have hl : x / 2 ^ i ≤ x := Nat.div_le_self _ _
  rw [e, Nat.testBit_eq_decide_div_mod_eq]
  generalize x / 2 ^ i = y at *
  rw [and_one_u64 _ (by omega) (by omega), Bool.eq_iff_iff]
  simp
  omega

set_option maxHeartbeats 400000 in
theorem has_any (x i : Nat) (w : World) (hx : x < 1073741824) (hi : i < 31) :
    Calls Try.prog 34 #[.int .u64 x, .int .i64 i] w fun e w' => e = .returned (.bool (x.testBit i)) ∧ w = w' := by
  go_enter Try.func34, Try.ntmps34
  go_wp2
  go_ret
  exact ⟨by rw [← bit_word x i hx]; rfl, rfl⟩

theorem info48 : (Try.prog.info? 69).map (fun i => (i.zero, i.size, i.bytes)) = some (some (.int .u64 0), 1, 8) := by kernel_rfl
theorem zero48 (w : World) : (zeroValue 69).run Try.prog w = .ok (.int .u64 0) w := by kernel_rfl

def wordsOf (xs : List Nat) : List Value := xs.map fun (x : Nat) => Value.int .u64 (x : Int)

/-- The words of the first k events, and zeros. -/
def words (l : List Ev) (k : Nat) : List Value := wordsOf (pasts (l.take k)) ++ List.replicate (l.length - k) (.int .u64 0)

theorem words_len (l : List Ev) {k : Nat} (h : k ≤ l.length) : (words l k).length = l.length := by
  simp [words, wordsOf, pasts_len]; omega
theorem words_start (l : List Ev) : words l 0 = List.replicate l.length (.int .u64 0) := by simp [words, wordsOf, pasts, stOf, St.zero]
theorem words_end (l : List Ev) : words l l.length = wordsOf (pasts l) := by simp [words]
theorem words_set (l : List Ev) {k : Nat} (h : k < l.length) : (words l k).set k (.int .u64 ((stOf (l.take k)).past l[k] : Nat)) = words l (k + 1) := by
  have hr : pasts (l.take (k + 1)) = pasts (l.take k) ++ [(stOf (l.take k)).past l[k]] := by
    unfold pasts; rw [take_snoc l k h, stOf_snoc]; rfl
  have hl : (wordsOf (pasts (l.take k))).length = k := by simp [wordsOf, pasts_len]; omega
  unfold words
  rw [hr, show l.length - k = (l.length - (k + 1)) + 1 by omega, List.replicate_succ, List.set_append_right _ _ (by omega), hl, Nat.sub_self]
  simp [wordsOf]

def nat_fn (f : Int → Nat) : Int → Int := fun p => (f p : Int)
theorem nat_fn_put (f : Int → Nat) (k : Int) (v : Nat) : put (nat_fn f) k (v : Int) = nat_fn (putN f k v) := by
  funext x; unfold put nat_fn putN; split <;> rfl

theorem MapIs.far {P : Program} {w : World} {K E : TypeId} {q : IntKind} {B n : Nat} {f : Int → Int} (h : MapIs P w K E q B n f) {p : Addr} (hp : B ≠ p.block) (u : Value) : MapIs P (w.setCell p u) K E q B n f :=
  h.block (Below.heap_setCell w p u B hp)

theorem new3_1 {w : World} {g : Nat} (a b c : Value) (t : TypeId) (h : g = w.heap.size) : (w.alloc (.cells #[a, b, c] t)).cell? ⟨g, 1, none⟩ = some b := by subst h; simp [World.cell?_alloc_new]
theorem new3_2 {w : World} {g : Nat} (a b c : Value) (t : TypeId) (h : g = w.heap.size) : (w.alloc (.cells #[a, b, c] t)).cell? ⟨g, 2, none⟩ = some c := by subst h; simp [World.cell?_alloc_new]

def PastRel (l : List Ev) (w : World) (B1 : Nat) (k : Nat) (wr : World) : Prop :=
  Row wr w.heap.size 69 (words l k) ∧ MapIs Try.prog wr 3 69 .u64 B1 k (nat_fn (stOf (l.take k)).lat) ∧ MapIs Try.prog wr 3 69 .u64 (B1 + 1) k (nat_fn (stOf (l.take k)).car) ∧ Below w.heap.size w wr

set_option maxHeartbeats 800000 in
set_option maxRecDepth 100000 in
theorem pasts_any (A : Option Addr) (cap : Nat) (l : List Ev) (w : World) (hE : Evs w w.heap.size A l) (hF : Fits l) (h30 : l.length ≤ 30) :
    Calls Try.prog 33 #[.slice A l.length cap] w fun e w' => e = .returned (.slice (some ⟨w.heap.size, 0, none⟩) l.length l.length) ∧ Row w' w.heap.size 69 (wordsOf (pasts l)) ∧ Below w.heap.size w w' := by
  have hmm := @run_makeMap Try.prog
  obtain ⟨i0, hi0, hz0, hz1, hz2⟩ := info_parts info48
  have hz2' : i0.bytes * l.length ≤ 281474976710656 := by rw [hz2]; omega
  have hHi := Lib.hid hi0; have hHz := Lib.hid hz0; have hHs := Lib.hid hz1
  clear hi0 hz0 hz1 hz2
  go_enter Try.func33, Try.ntmps33
  go_wp2_with (first
    | (at_make; refine wpList_make_row _ rfl _ _ 67 rfl 69 i0 (.int .u64 0) Try.underlying67 hHi.out hHz.out hHs.out rfl .i64 .i64 _ _ l.length rfl rfl rfl rfl hz2' (by unfold maxLen; omega) ?_; intro w1 hR1 hG1))
  have hB1 : Below w.heap.size w w1 := (Below.refl _ _).grown hG1 (Nat.le_refl _) (by simp)
  have hlt1 := hR1.lt
  clear hmm
  go_loopw [16] (fun i wr => ∃ k : Nat, k ≤ l.length ∧ i = .int .i64 k ∧ PastRel l w w1.heap.size k wr) (fun i _ => l.length - (intOf i).toNat)
  case atStart =>
    refine ⟨0, Nat.zero_le _, rfl, ?_, ?_, ?_, ?_⟩
    · rw [words_start]; exact (hR1.alloc _).alloc _
    · exact (MapIs.made _ _ _ _ _).alloc _
    · have := MapIs.made Try.prog (w1.alloc (.map #[] 0)) 3 69 .u64
      rw [show (w1.alloc (.map #[] 0)).heap.size = w1.heap.size + 1 by simp] at this
      exact this
    · exact (hB1.alloc hB1.size _).alloc (by simp; have := hB1.size; omega) _
  case round =>
    obtain ⟨k, hk, rfl, hR, hL, hC, hB⟩ := hrel
    by_cases hlt : k < l.length
    · obtain ⟨b, off, rfl, hb, hc⟩ := hE.below hB (by omega)
      obtain ⟨c0, c1, c2⟩ := hc k hlt
      clear hc
      have hfit := hF l[k] (List.getElem_mem hlt)
      have hset := Lib.hid (words_set l hlt)
      have hst : Hid (stOf (l.take (k + 1)) = (stOf (l.take k)).step l[k]) := by unfold Hid; rw [take_snoc l k hlt, stOf_snoc]
      have hlen : Hid ((stOf (l.take k)).res.length = k) := by unfold Hid; rw [stOf_len]; simp; omega
      obtain ⟨hs1, hs2, hs3⟩ := st_lt (l.take k)
      have h2k : 2 ^ (l.take k).length ≤ 2 ^ 30 := Nat.pow_le_pow_right (by omega) (by simp; omega)
      generalize l[k] = ev at *
      generalize stOf (l.take k) = st at *
      obtain ⟨p, kd, m⟩ := ev
      simp only at c0 c1 c2 hfit
      have hpw : (Lit.int .i64 p).wf = true := WalkArith.wf_i64 hfit.1
      have hmw : (Lit.int .i64 m).wf = true := WalkArith.wf_i64 hfit.2.2
      have hcell := hR.cell (i := k) (by rw [words_len l hk]; exact hlt)
      have hfro := hR.frozen k
      have hRl := hR.lt
      have hLl := hL.lt
      have hCl := hC.lt
      obtain ⟨a, haH⟩ : ∃ a : Nat, Hid (a = st.past ⟨p, kd, m⟩) := ⟨_, rfl⟩
      obtain ⟨c, hcH⟩ : ∃ c : Nat, Hid (c = 2 ^ k) := ⟨_, rfl⟩
      obtain ⟨d, hdH⟩ : ∃ d : Nat, Hid (d = a ||| c) := ⟨_, rfl⟩
      obtain ⟨a0, ha0H⟩ : ∃ a0 : Nat, Hid (a0 = st.lat p) := ⟨_, rfl⟩
      have h2k' : 2 ^ k ≤ 2 ^ 30 := Nat.pow_le_pow_right (by omega) (by omega)
      have hab : a < 1073741824 := by have := hs3 ⟨p, kd, m⟩; rw [haH.out]; omega
      have hcb : c ≤ 1073741824 := by rw [hcH.out]; omega
      have ha0b : a0 < 1073741824 := by have := hs1 p; rw [ha0H.out]; omega
      have hdb : d < 2147483648 := by rw [hdH.out]; exact or_lt (n := 31) (by omega) (by omega)
      have hdw : (Lit.int .u64 (d : Int)).wf = true := WalkArith.wf_u64 ⟨by omega, by omega⟩
      have hsh : IntKind.u64.wrap (2 ^ k) = (c : Int) := by
        rw [IntKind.wrap_u64, show ((2 : Int) ^ k) = (c : Int) by rw [hcH.out]; simp]
        omega
      have hor : bits BinOp.or IntKind.u64 (a : Int) (c : Int) = (d : Int) := by rw [hdH.out]; exact bits_or_u64_nat a c (by omega) (by omega)
      have hla : nat_fn st.lat p = (a0 : Int) := by rw [ha0H.out]; rfl
      have hnext : Hid (d = st.next ⟨p, kd, m⟩) := by unfold Hid St.next; rw [hdH.out, haH.out, hcH.out, hlen.out]
      have hLn : Hid (put (nat_fn st.lat) p (d : Int) = nat_fn (stOf (l.take (k + 1))).lat) := by unfold Hid; rw [hst.out, nat_fn_put, hnext.out]; rfl
      have hne : ¬ w1.heap.size = w.heap.size := by omega
      have hne2 : ¬ w1.heap.size + 1 = w.heap.size := by omega
      have hfar : ∀ u, MapIs Try.prog ((wr.setCell ⟨w.heap.size, k, none⟩ u).alloc (.cells #[.int .i64 p, .int .i64 kd, .int .i64 m] 36)) 3 69 .u64 w1.heap.size k (nat_fn st.lat) := fun u => (hL.far (p := ⟨w.heap.size, k, none⟩) hne u).alloc _
      have hfar2 : ∀ u, MapIs Try.prog ((wr.setCell ⟨w.heap.size, k, none⟩ u).alloc (.cells #[.int .i64 p, .int .i64 kd, .int .i64 m] 36)) 3 69 .u64 (w1.heap.size + 1) k (nat_fn st.car) := fun u => (hC.far (p := ⟨w.heap.size, k, none⟩) hne2 u).alloc _
      have hR2 : Row ((wr.setCell ⟨w.heap.size, k, none⟩ (.int .u64 (a : Int))).alloc (.cells #[.int .i64 p, .int .i64 kd, .int .i64 m] 36)) w.heap.size 69 (words l (k + 1)) := by
        have := (hR.set k (.int .u64 (a : Int))).alloc (.cells #[.int .i64 p, .int .i64 kd, .int .i64 m] 36)
        rw [haH.out, hset.out, ← haH.out] at this
        exact this
      have hB2 : Below w.heap.size w ((wr.setCell ⟨w.heap.size, k, none⟩ (.int .u64 (a : Int))).alloc (.cells #[.int .i64 p, .int .i64 kd, .int .i64 m] 36)) := (hB.setCell (p := ⟨w.heap.size, k, none⟩) (Nat.le_refl _) _).alloc (by simp; have := hB.size; omega) _
      have hsz0 : ∀ {u : Value}, wr.heap.size = (wr.setCell ⟨w.heap.size, k, none⟩ u).heap.size := fun {u} => by simp
      have hsz1 : some wr.heap.size ≠ some w1.heap.size := by simp; omega
      have hfarH := Lib.hid hfar
      have hfar2H := Lib.hid hfar2
      have hs2' : ∀ m, st.car m < 1073741824 := fun m => by have := hs2 m; omega
      clear hfar hfar2 hs1 hs2 hs3 h2k h2k' hfit
      by_cases k3 : kd = 3
      · have v3 : (kd == 3) = true := by simp [k3]
        have v2 : (kd == 2) = false := by simp [k3]
        have hCn : Hid (nat_fn st.car = nat_fn (stOf (l.take (k + 1))).car) := by unfold Hid; rw [hst.out]; simp [St.step, k3]
        obtain ⟨a1, ha1H⟩ : ∃ a1 : Nat, Hid (a1 = st.car m) := ⟨_, rfl⟩
        have ha1b : a1 < 1073741824 := by have := hs2' m; rw [ha1H.out]; omega
        have hca : nat_fn st.car m = (a1 : Int) := by rw [ha1H.out]; rfl
        have hor1 : bits BinOp.or IntKind.u64 (a0 : Int) (a1 : Int) = (a : Int) := by
          rw [bits_or_u64_nat a0 a1 (by omega) (by omega), haH.out, ha0H.out, ha1H.out]; simp [St.past, k3]
        clear k3 hs2'
        go_wp2_with (first
          | (at_lookup; refine wpList_look rfl (.tmp 21) _ 75 rfl 3 69 .u64 Try.underlying3 Try.underlying75 Try.underlying69 (zero48 _) w1.heap.size k (nat_fn st.lat) p rfl (hL.alloc _) rfl hpw ?_; intro _)
          | (at_lookup; refine wpList_look rfl (.tmp 29) _ 75 rfl 3 69 .u64 Try.underlying3 Try.underlying75 Try.underlying69 (zero48 _) (w1.heap.size + 1) k (nat_fn st.car) m rfl (hC.alloc _) rfl hmw ?_; intro _)
          | (at_mapUpdate; refine wpList_put rfl (.tmp 42) _ _ 75 rfl 3 69 .u64 Try.underlying3 Try.underlying75 Try.underlying69 w1.heap.size k (nat_fn st.lat) p d rfl (hfarH.out _) (by unfold maxLen; omega) rfl rfl hpw hdw ?_; intro w2 hL2 hG2; have f1 : w2.cell? ⟨wr.heap.size, 1, none⟩ = some (.int .i64 kd) := hG2.cell (new3_1 _ _ _ _ hsz0) hsz1; have f2 : w2.cell? ⟨wr.heap.size, 2, none⟩ = some (.int .i64 m) := hG2.cell (new3_2 _ _ _ _ hsz0) hsz1))
        have hR3 := hR2.grown hG2 (by simp; omega)
        have hB3 := hB2.grown hG2 hB2.size (fun j hj => by cases hj; omega)
        have hC2 := (hfar2H.out (.int .u64 (a : Int))).kept hG2 (by simp)
        go_roundw
        case rel => exact ⟨k + 1, by omega, by go_num, hR3, hLn.out ▸ hL2, hCn.out ▸ hC2.mono (by omega), hB3⟩
        case measure => simp [intOf]; omega
      clear hs2'
      by_cases k2 : kd = 2
      · have v3 : (kd == 3) = false := by simp [k3]
        have v2 : (kd == 2) = true := by simp [k2]
        have hCn : Hid (put (nat_fn st.car) m (d : Int) = nat_fn (stOf (l.take (k + 1))).car) := by unfold Hid; rw [hst.out, nat_fn_put, hnext.out]; simp [St.step, k2]
        have ha : a = a0 := by rw [haH.out, ha0H.out]; simp [St.past, k3]
        obtain rfl : a = a0 := ha
        clear k3 k2
        go_wp2_with (first
          | (at_lookup; refine wpList_look rfl (.tmp 21) _ 75 rfl 3 69 .u64 Try.underlying3 Try.underlying75 Try.underlying69 (zero48 _) w1.heap.size k (nat_fn st.lat) p rfl (hL.alloc _) rfl hpw ?_; intro _)
          | (at_mapUpdate; refine wpList_put rfl (.tmp 42) _ _ 75 rfl 3 69 .u64 Try.underlying3 Try.underlying75 Try.underlying69 w1.heap.size k (nat_fn st.lat) p d rfl (hfarH.out _) (by unfold maxLen; omega) rfl rfl hpw hdw ?_; intro w2 hL2 hG2; have f1 : w2.cell? ⟨wr.heap.size, 1, none⟩ = some (.int .i64 kd) := hG2.cell (new3_1 _ _ _ _ hsz0) hsz1; have f2 : w2.cell? ⟨wr.heap.size, 2, none⟩ = some (.int .i64 m) := hG2.cell (new3_2 _ _ _ _ hsz0) hsz1)
          | (at_mapUpdate; refine wpList_put rfl (.tmp 49) _ _ 75 rfl 3 69 .u64 Try.underlying3 Try.underlying75 Try.underlying69 (w1.heap.size + 1) k (nat_fn st.car) m d rfl ((hfar2H.out _).kept hG2 (by simp)) (by unfold maxLen; omega) rfl rfl hmw hdw ?_; intro w3 hC3 hG3))
        have hR3 := (hR2.grown hG2 (by simp; omega)).grown hG3 (by simp; omega)
        have hB3 := (hB2.grown hG2 hB2.size (fun j hj => by cases hj; omega)).grown hG3 (by have := hG2.size; have := hB2.size; omega) (fun j hj => by cases hj; omega)
        have hL3 := hL2.kept hG3 (by simp)
        go_roundw
        case rel => exact ⟨k + 1, by omega, by go_num, hR3, hLn.out ▸ hL3, hCn.out ▸ hC3, hB3⟩
        case measure => simp [intOf]; omega
      · have v3 : (kd == 3) = false := by simp [k3]
        have v2 : (kd == 2) = false := by simp [k2]
        have hCn : Hid (nat_fn st.car = nat_fn (stOf (l.take (k + 1))).car) := by unfold Hid; rw [hst.out]; simp [St.step, k2]
        have ha : a = a0 := by rw [haH.out, ha0H.out]; simp [St.past, k3]
        obtain rfl : a = a0 := ha
        clear k3 k2
        go_wp2_with (first
          | (at_lookup; refine wpList_look rfl (.tmp 21) _ 75 rfl 3 69 .u64 Try.underlying3 Try.underlying75 Try.underlying69 (zero48 _) w1.heap.size k (nat_fn st.lat) p rfl (hL.alloc _) rfl hpw ?_; intro _)
          | (at_mapUpdate; refine wpList_put rfl (.tmp 42) _ _ 75 rfl 3 69 .u64 Try.underlying3 Try.underlying75 Try.underlying69 w1.heap.size k (nat_fn st.lat) p d rfl (hfarH.out _) (by unfold maxLen; omega) rfl rfl hpw hdw ?_; intro w2 hL2 hG2; have f1 : w2.cell? ⟨wr.heap.size, 1, none⟩ = some (.int .i64 kd) := hG2.cell (new3_1 _ _ _ _ hsz0) hsz1; have f2 : w2.cell? ⟨wr.heap.size, 2, none⟩ = some (.int .i64 m) := hG2.cell (new3_2 _ _ _ _ hsz0) hsz1))
        have hR3 := hR2.grown hG2 (by simp; omega)
        have hB3 := hB2.grown hG2 hB2.size (fun j hj => by cases hj; omega)
        have hC2 := (hfar2H.out (.int .u64 (a : Int))).kept hG2 (by simp)
        go_roundw
        case rel => exact ⟨k + 1, by omega, by go_num, hR3, hLn.out ▸ hL2, hCn.out ▸ hC2.mono (by omega), hB3⟩
        case measure => simp [intOf]; omega
    · have hkl : k = l.length := by omega
      subst hkl
      rw [words_end] at hR
      go_wp2
      go_ret
      exact ⟨rfl, hR, hB⟩

#print axioms pasts_any
end Go.Proofs.Ytpofmhlmaejmoaa
