/-
  The contract of snap.start.
-/
import Derived.Test.YtebighmddimnkaaSys
import Derived.Maps.OwnOps
namespace Go.Proofs.Ytebighmddimnkaa
open Go.RowKit Go.Maps

theorem infoPrc : (Try.prog.info? 61).map (fun i => (i.zero, i.size, i.bytes)) = some (some (.agg #[.int .i64 0, .bool false, .int .i64 0]), 3, 24) := by kernel_rfl
/-- Nothing is laid yet but 100 for the first h processes. -/
def iniS (h : Nat) : St := ⟨fun i => if i < h then 100 else 0, fun _ => false, fun _ => 0, fun _ _ => [], fun _ _ => false, fun _ _ => 0⟩
theorem made_at {n i c : Nat} (hi : i < n) (hc : c < 3) : (madeCells #[.int .i64 0, .bool false, .int .i64 0] (n * 3)).toList[i * 3 + c]? = #[Value.int .i64 0, .bool false, .int .i64 0].toList[c]? := by
  have h : i * 3 + c < n * 3 := by omega
  unfold madeCells
  rw [Array.toList_map, List.getElem?_map, Array.toList_range, List.getElem?_range h]
  have h2 : (i * 3 + c) % 3 = c := by omega
  simp only [Option.map_some]
  show some (#[Value.int .i64 0, .bool false, .int .i64 0][(i * 3 + c) % 3]!) = _
  rw [h2]
  have : c = 0 ∨ c = 1 ∨ c = 2 := by omega
  rcases this with rfl | rfl | rfl <;> rfl
theorem wpList_make_prc (w : World) {ops : Array Oper} {rest : List Oper} {o : Oper} {a : Act} {Q : Exit → Act → World → Prop}
    (hg : o.guard = none) (l c : Operand) (hop : o.op = Op.makeSlice 56 l c) (n : Nat) (hn : n ≤ 6) (hl : a.eval l = .int .i64 (n : Int)) (hc : a.eval c = .int .i64 (n : Int))
    (hK : ∀ w', Prc w' w.heap.size n (iniS 0) → w.grownBy w' none → wpList Try.prog ops Q rest (a.put o.dst (.slice (some ⟨w.heap.size, 0, none⟩) n n)) w') :
    wpList Try.prog ops Q (o :: rest) a w := by
  obtain ⟨i0, hi0, hz0, hz1, hz2⟩ := info_parts infoPrc
  refine wpList_make_full w hg l c _ hop w.heap.size 61 i0 _ 3 Try.underlying56 hi0 hz0 hz1 .i64 .i64 _ _ n hl hc rfl rfl (by rw [hz2]; omega) (by unfold maxLen; omega) (Nat.le_refl _) ?_
  intro w' hown hgrow
  rcases hown.2 with ⟨h', _⟩ | ⟨g', cap', cur, h', _, hb, _, _, hcs, htake⟩
  · simp at h'
  · simp only [Value.slice.injEq, Option.some.injEq, Addr.mk.injEq, and_true, true_and] at h'
    obtain ⟨rfl, rfl⟩ := h'
    rw [List.take_of_length_le (by rw [Array.length_toList, hcs]; exact Nat.le_refl _)] at htake
    refine hK w' ⟨cur.toList, by unfold Row; rw [hb], by rw [Array.length_toList]; exact hcs, fun i hi => ?_⟩ hgrow
    rw [htake]
    refine ⟨?_, ?_, ?_⟩
    · have := made_at hi (c := 0) (by omega)
      simpa [Value.cells, iniS] using this
    · have := made_at hi (c := 1) (by omega)
      simpa [Value.cells, iniS] using this
    · have := made_at hi (c := 2) (by omega)
      simpa [Value.cells, iniS] using this

/-- The channels that are there. -/
def Dm (n m k i j : Nat) : Prop := i < n ∧ j < n ∧ i ≠ j ∧ (i < m ∨ i = m ∧ j < k)
open Classical in
noncomputable def iniF (n m k : Nat) (ch : Nat → Nat → Nat) : Nat → Nat → Option Value := fun i j => if Dm n m k i j then some (.pointer (some ⟨ch i j, 0, none⟩)) else none
structure IniAt (w : World) (B s n P M m k h cnt : Nat) (ch : Nat → Nat → Nat) : Prop where
  sys : Row w s 59 [.slice (some ⟨P, 0, none⟩) n n, .map (some M)]
  prs : Prc w P n (iniS h)
  map : MapP w M cnt (iniF n m k ch)
  chn : ∀ i j, Dm n m k i j → Row w (ch i j) 64 [.slice none 0 0, .bool false, .int .i64 0]
  inj : ∀ i j a b, Dm n m k i j → Dm n m k a b → ¬ (i = a ∧ j = b) → ch i j ≠ ch a b
  lowS : B ≤ s
  lowP : B ≤ P
  lowM : B ≤ M
  lowC : ∀ i j, Dm n m k i j → B ≤ ch i j
section
variable {w w' : World} {B s n P M m k h cnt : Nat} {ch : Nat → Nat → Nat}
theorem IniAt.congr {m' k' : Nat} (hI : IniAt w B s n P M m k h cnt ch) (e : ∀ i j, Dm n m' k' i j ↔ Dm n m k i j) : IniAt w B s n P M m' k' h cnt ch := by
  have ef : iniF n m' k' ch = iniF n m k ch := by
    funext i j
    unfold iniF
    by_cases hd : Dm n m k i j
    · rw [if_pos hd, if_pos ((e i j).2 hd)]
    · rw [if_neg hd, if_neg (fun h => hd ((e i j).1 h))]
  exact ⟨hI.sys, hI.prs, by rw [ef]; exact hI.map, fun i j hd => hI.chn i j ((e i j).1 hd), fun i j a b h1 h2 h3 => hI.inj i j a b ((e i j).1 h1) ((e a b).1 h2) h3, hI.lowS, hI.lowP, hI.lowM, fun i j hd => hI.lowC i j ((e i j).1 hd)⟩
theorem IniAt.have_ (hI : IniAt w B s n P M m k h cnt ch) (hh : h < n) : IniAt (w.setCell ⟨P, h * 3, none⟩ (.int .i64 100)) B s n P M m k (h + 1) cnt ch := by
  obtain ⟨xs, hP, _⟩ := hI.prs
  have hsP : s ≠ P := hI.sys.ne hP (by decide)
  have hMP : M ≠ P := hI.map.ne_row hP
  refine ⟨hI.sys.far hsP _, hI.prs.set _ _ (by omega) fun a ha => ?_, hI.map.far hMP _, fun i j hd => (hI.chn i j hd).far ((hI.chn i j hd).ne hP (by decide)) _, hI.inj, hI.lowS, hI.lowP, hI.lowM, hI.lowC⟩
  refine ⟨?_, ?_, ?_⟩
  · by_cases e : a = h
    · subst e; rw [if_pos rfl]; simp [iniS]
    · rw [if_neg (by omega)]
      simp only [iniS]
      by_cases h1 : a < h
      · rw [if_pos h1, if_pos (by omega)]
      · rw [if_neg h1, if_neg (by omega)]
  · rw [if_neg (by omega)]; rfl
  · rw [if_neg (by omega)]; rfl
theorem IniAt.add (hI : IniAt w B s n P M m k h cnt ch) (hB : B ≤ w.heap.size) (hm : m < n) (hk : k < n) (hne : m ≠ k)
    (hM : MapP w' M (cnt + 1) (putP (iniF n m k ch) m k (.pointer (some ⟨w.heap.size, 0, none⟩)))) (hg : (w.alloc (.cells #[.slice none 0 0, .bool false, .int .i64 0] 64)).grownBy w' (some M)) :
    IniAt w' B s n P M m (k + 1) h (cnt + 1) (up2 ch m k w.heap.size) := by
  have hrow : ∀ {b : Nat} {t : TypeId} {xs : List Value}, Row w b t xs → Row w' b t xs := fun {b t xs} hr =>
    (hr.alloc _).grown hg (fun e => by injection e with e; exact hI.map.ne_row hr e.symm)
  have hnew : Row w' w.heap.size 64 [.slice none 0 0, .bool false, .int .i64 0] := (Row.made w 64 [.slice none 0 0, .bool false, .int .i64 0]).grown hg (fun e => by
    injection e with e
    have := hI.map.lt
    omega)
  have hstep : ∀ i j, Dm n m (k + 1) i j → (i = m ∧ j = k) ∨ (¬ (i = m ∧ j = k) ∧ Dm n m k i j) := fun i j hd => by
    unfold Dm at *
    omega
  have hold : ∀ i j, Dm n m k i j → ch i j < w.heap.size := fun i j hd => (hI.chn i j hd).lt
  have ef : iniF n m (k + 1) (up2 ch m k w.heap.size) = putP (iniF n m k ch) m k (.pointer (some ⟨w.heap.size, 0, none⟩)) := by
    funext i j
    by_cases e : i = m ∧ j = k
    · have h1 : putP (iniF n m k ch) m k (.pointer (some ⟨w.heap.size, 0, none⟩)) i j = some (.pointer (some ⟨w.heap.size, 0, none⟩)) := if_pos e
      rw [h1]
      unfold iniF up2
      rw [if_pos (by unfold Dm; omega), if_pos e]
    · have h1 : putP (iniF n m k ch) m k (.pointer (some ⟨w.heap.size, 0, none⟩)) i j = iniF n m k ch i j := if_neg e
      rw [h1]
      unfold iniF up2
      rw [if_neg e]
      by_cases hd : Dm n m k i j
      · rw [if_pos hd, if_pos (by unfold Dm at *; omega)]
      · rw [if_neg hd, if_neg (by unfold Dm at *; omega)]
  refine ⟨hrow hI.sys, ?_, by rw [ef]; exact hM, fun i j hd => ?_, fun i j a b h1 h2 h3 => ?_, hI.lowS, hI.lowP, hI.lowM, fun i j hd => ?_⟩
  · obtain ⟨xs, h1, h2⟩ := hI.prs
    exact ⟨xs, hrow h1, h2⟩
  · rcases hstep i j hd with ⟨rfl, rfl⟩ | ⟨e, hd'⟩
    · rw [up2_same]; exact hnew
    · rw [up2_other _ _ e]; exact hrow (hI.chn i j hd')
  · rcases hstep i j h1 with ⟨rfl, rfl⟩ | ⟨e, hd'⟩
    · rcases hstep a b h2 with ⟨rfl, rfl⟩ | ⟨e', hd''⟩
      · exact absurd ⟨rfl, rfl⟩ h3
      · rw [up2_same, up2_other _ _ e']
        have := hold a b hd''
        omega
    · rcases hstep a b h2 with ⟨rfl, rfl⟩ | ⟨e', hd''⟩
      · rw [up2_same, up2_other _ _ e]
        have := hold i j hd'
        omega
      · rw [up2_other _ _ e, up2_other _ _ e']
        exact hI.inj i j a b hd' hd'' h3
  · rcases hstep i j hd with ⟨rfl, rfl⟩ | ⟨e, hd'⟩
    · rw [up2_same]; exact hB
    · rw [up2_other _ _ e]; exact hI.lowC i j hd'
theorem MapP.mono {f : Nat → Nat → Option Value} {c c' : Nat} (hM : MapP w M c f) (hc : c ≤ c') : MapP w M c' f := by
  obtain ⟨D, h1, h2⟩ := hM
  exact ⟨D, h1.mono hc, h2⟩
theorem IniAt.done (hI : IniAt w B s n P M n 0 n cnt ch) (hc : cnt ≤ 100) : Sys w B s n P M ch St.begin := by
  have hd : ∀ i j, Chl n i j → Dm n n 0 i j := fun i j hc => ⟨hc.1, hc.2.1, hc.2.2, .inl hc.1⟩
  have ef : chF n ch = iniF n n 0 ch := by
    funext i j
    unfold chF iniF
    by_cases hd : Dm n n 0 i j
    · rw [if_pos hd, if_pos (by unfold Dm at hd; omega)]
    · rw [if_neg hd, if_neg (by unfold Dm at hd; omega)]
  refine ⟨fun _ _ => .slice none 0 0, hI.sys, hI.prs.congr (fun i hi => ?_) (fun _ _ => rfl) (fun _ _ => rfl), by rw [ef]; exact hI.map.mono hc, fun i j h => hI.chn i j (hd i j h), fun i j _ => Que.nil w B, fun i j a b h1 h2 h3 => hI.inj i j a b (hd i j h1) (hd a b h2) h3, fun _ _ _ _ _ _ _ => .inl rfl, hI.lowS, hI.lowP, hI.lowM, fun i j h => hI.lowC i j (hd i j h)⟩
  simp [iniS, St.begin, hi]
end

def StaRes (w : World) (n : Nat) (e : Ending) (w' : World) : Prop := ∃ s P M ch, e = .returned (.pointer (some ⟨s, 0, none⟩)) ∧ Sys w' w.heap.size s n P M ch St.begin ∧ Below w.heap.size w w'
def StaRel (w : World) (s n P M m k h : Nat) (wr : World) : Prop := ∃ cnt ch, IniAt wr w.heap.size s n P M m k h cnt ch ∧ cnt ≤ 6 * m + k ∧ Below w.heap.size w wr

set_option maxHeartbeats 4000000 in
theorem start_any (w : World) (n : Nat) (hn : n ≤ 6) : Calls Try.prog 14 #[.int .i64 (n : Int)] w (StaRes w n) := by
  have hmm := @run_makeMap Try.prog
  go_enter Try.func14, Try.ntmps14
  go_wp2_with (first
    | (at_make; refine wpList_make_prc _ rfl _ _ rfl n hn rfl rfl ?_; intro w1 hP1 hG1
       have hsz1 := hG1.size
       have hB1 : Below w.heap.size w w1 := (Below.refl w.heap.size w).grown hG1 (Nat.le_refl _) (by simp)
       have hM2 := MapP.made w1
       have hP2 := hP1.block (w' := w1.alloc (.map #[] 0)) (Below.heap_alloc w1 _ _ hP1.lt)
       have hP3 := hP2.block (w' := (w1.alloc (.map #[] 0)).alloc (.cells #[.slice (some ⟨w.heap.size, 0, none⟩) n n, .map (some w1.heap.size)] 59)) (Below.heap_alloc _ _ _ hP2.lt)
       have hM3 := hM2.alloc (.cells #[.slice (some ⟨w.heap.size, 0, none⟩) n n, .map (some w1.heap.size)] 59)
       have hR3 := Row.made (w1.alloc (.map #[] 0)) 59 [.slice (some ⟨w.heap.size, 0, none⟩) n n, .map (some w1.heap.size)]
       have hB3 := (hB1.alloc hsz1 (.map #[] 0)).alloc (by simp; omega) (.cells #[.slice (some ⟨w.heap.size, 0, none⟩) n n, .map (some w1.heap.size)] 59)
       have hz3 : (w1.alloc (.map #[] 0)).heap.size = w1.heap.size + 1 := (by simp)
       have hI3 : StaRel w (w1.alloc (.map #[] 0)).heap.size n w.heap.size w1.heap.size 0 0 0 ((w1.alloc (.map #[] 0)).alloc (.cells #[.slice (some ⟨w.heap.size, 0, none⟩) n n, .map (some w1.heap.size)] 59)) :=
         ⟨0, fun _ _ => 0, ⟨hR3, hP3, (by
           have ef : iniF n 0 0 (fun _ _ => 0) = fun _ _ => none := (by funext i j; unfold iniF; rw [if_neg (by unfold Dm; omega)])
           rw [ef]; exact hM3), fun i j hd => (by unfold Dm at hd; omega), fun i j a b hd => (by unfold Dm at hd; omega), (by omega), Nat.le_refl _, hsz1, fun i j hd => (by unfold Dm at hd; omega)⟩, Nat.le_refl _, hB3⟩
       clear hP1 hG1 hB1 hM2 hP2 hP3 hM3 hR3 hB3 hsz1))
  clear hmm
  rw [hz3] at hI3
  clear hz3
  generalize (w1.alloc (.map #[] 0)).alloc (.cells #[.slice (some ⟨w.heap.size, 0, none⟩) n n, .map (some w1.heap.size)] 59) = w3 at *
  generalize w1.heap.size + 1 = s at *
  generalize w1.heap.size = M at *
  go_loopw [16] (fun t wr => ∃ m : Nat, m ≤ n ∧ t = .int .i64 m ∧ StaRel w s n w.heap.size M m 0 m wr) (fun t _ => n - (intOf t).toNat)
  case atStart => exact ⟨0, Nat.zero_le _, rfl, hI3⟩
  case round =>
    clear hI3
    obtain ⟨m, hm, rfl, cnt, ch, hI, hcnt, hB⟩ := hrel
    rename World => w4
    have s0 := hI.sys.cell (i := 0) (by simp)
    have s1 := hI.sys.cell (i := 1) (by simp)
    simp only [List.getElem_cons_zero, List.getElem_cons_succ] at s0 s1
    by_cases hlt : m < n
    · have hmI : (m : Int) < (n : Int) := by omega
      obtain ⟨p0, _, _⟩ := hI.prs.cells hlt
      have pf := hI.prs.frozen (m * 3)
      have hI2 := hI.have_ hlt
      have hB2 : Below w.heap.size w (w4.setCell ⟨w.heap.size, m * 3, none⟩ (.int .i64 100)) := hB.setCell (p := ⟨w.heap.size, m * 3, none⟩) (Nat.le_refl _) _
      have hR2 : StaRel w s n w.heap.size M m 0 (m + 1) (w4.setCell ⟨w.heap.size, m * 3, none⟩ (.int .i64 100)) := ⟨cnt, ch, hI2, hcnt, hB2⟩
      clear hI hB hI2 hB2 hcnt
      go_wp2_with fail
      generalize w4.setCell ⟨w.heap.size, m * 3, none⟩ (.int .i64 100) = w5 at *
      clear s0 s1 p0 pf
      go_loopw [27] (fun t wr => ∃ k : Nat, k ≤ n ∧ t = .int .i64 k ∧ StaRel w s n w.heap.size M m k (m + 1) wr) (fun t _ => n - (intOf t).toNat)
      case atStart => exact ⟨0, Nat.zero_le _, rfl, hR2⟩
      case round =>
        clear hR2
        obtain ⟨k, hk, rfl, cnt, ch, hI, hcnt, hB⟩ := hrel
        have s1 := hI.sys.cell (i := 1) (by simp)
        simp only [List.getElem_cons_zero, List.getElem_cons_succ] at s1
        by_cases hkl : k < n
        · have hkI : (k : Int) < (n : Int) := by omega
          by_cases e : k = m
          · have v1 : ((k : Int) != (m : Int)) = false := by simp [e]
            have hR : Hid (StaRel w s n w.heap.size M m (k + 1) (m + 1) wr) := ⟨cnt, ch, hI.congr (fun i j => by unfold Dm; omega), by omega, hB⟩
            clear hI hB e
            go_wp2_with fail
            go_roundw
            case rel => exact ⟨k + 1, by omega, by go_num, hR.out⟩
            case measure => simp [intOf]; omega
          · have v1 : ((k : Int) != (m : Int)) = true := by simp; omega
            have hBa := hB.alloc hB.size (.cells #[.slice none 0 0, .bool false, .int .i64 0] 64)
            have hMa := hI.map.alloc (.cells #[.slice none 0 0, .bool false, .int .i64 0] 64)
            have hlowM := hI.lowM
            have hszB := hB.size
            have hIH := Lib.hid hI
            have eH := Lib.hid e
            clear hI hB e
            go_wp2_with (first
              | (at_mapUpdate; refine wpList_putP rfl _ _ _ rfl M cnt _ m k (by omega) (by omega) (.pointer (some ⟨wr.heap.size, 0, none⟩)) rfl hMa (by unfold maxLen; omega) rfl rfl ?_; intro w6 hM6 hG6
                 have hI6 := Lib.hid (hIH.out.add hszB hlt hkl (fun h => eH.out h.symm) hM6 hG6)
                 have hB6 := hBa.grown hG6 hBa.size (by simp; omega)
                 clear hM6 hG6 hMa hBa))
            go_roundw
            case rel => exact ⟨k + 1, by omega, by go_num, _, _, hI6.out, by omega, hB6⟩
            case measure => simp [intOf]; omega
        · have hkn : k = n := by omega
          subst hkn
          have hR : Hid (StaRel w s k w.heap.size M (m + 1) 0 (m + 1) wr) := ⟨cnt, ch, hI.congr (fun i j => by unfold Dm; omega), by omega, hB⟩
          clear hI hB
          go_wp2_with fail
          go_roundw
          case rel => exact ⟨m + 1, by omega, by go_num, hR.out⟩
          case measure => simp [intOf]; omega
    · have hmn : m = n := by omega
      subst hmn
      go_wp2_with fail
      go_ret
      exact ⟨_, _, _, _, rfl, hI.done (by omega), hB⟩

#print axioms start_any
end Go.Proofs.Ytebighmddimnkaa
