/-
  The contract of tick.followers.
-/
import Derived.Test.YtiokfehckhbnaaaNum
import Derived.Test.YtiokfehckhbnaaaStep
namespace Go.Proofs.Ytiokfehckhbnaaa
open Go.RowKit Go.Maps

theorem info23 : (Try.prog.info? 23).map (fun i => (i.zero, i.size, i.bytes)) = some (some (.slice none 0 0), 1, 24) := by kernel_rfl
theorem zero3 (w : World) : (zeroValue 3).run Try.prog w = .ok (.int .i64 0) w := by kernel_rfl

theorem news1 {w : World} {g : Nat} (x : Value) (t : TypeId) (h : g = w.heap.size) : ∀ j u, [x][j]? = some u → (w.alloc (.cells #[x] t)).cell? ((⟨g, 0, none⟩ : Addr).add j) = some u := by
  subst h
  exact World.news_of_block (cs := #[x]) (fr := (0, 0)) (heap_alloc_new w _)
theorem box0 {w : World} {g : Nat} (a b c : Value) (t : TypeId) (h : g = w.heap.size) : (w.alloc (.cells #[a, b, c] t)).cell? ⟨g, 0, none⟩ = some a := by subst h; simp [World.cell?_alloc_new]
theorem box1 {w : World} {g : Nat} (a b c : Value) (t : TypeId) (h : g = w.heap.size) : (w.alloc (.cells #[a, b, c] t)).cell? ⟨g, 1, none⟩ = some b := by subst h; simp [World.cell?_alloc_new]
theorem box2 {w : World} {g : Nat} (a b c : Value) (t : TypeId) (h : g = w.heap.size) : (w.alloc (.cells #[a, b, c] t)).cell? ⟨g, 2, none⟩ = some c := by subst h; simp [World.cell?_alloc_new]
theorem cell_alloc2 {w : World} {p : Addr} {v : Value} (o : Obj) (h : w.cell? p = some v) (hp : p.block < w.heap.size) : (w.alloc o).cell? p = some v := (World.cell?_alloc_lt w o p hp).trans h

def FolRel (l : List Ev) (w : World) (M k : Nat) (wr : World) : Prop :=
  ∃ vs, Lists wr w.heap.size w.heap.size l.length vs (folTo l k) ∧ MapO Try.prog wr 3 3 M k (latest l k) ∧ MapO Try.prog wr 3 3 (M + 1) k (sends l k) ∧ Below w.heap.size w wr

def FolRes (l : List Ev) (w : World) (e : Ending) (w' : World) : Prop :=
  ∃ vs, e = .returned (.slice (some ⟨w.heap.size, 0, none⟩) l.length l.length) ∧ Lists w' w.heap.size w.heap.size l.length vs (fol l) ∧ Below w.heap.size w w'

theorem lput_con1 {l : List Ev} {k i : Nat} (h : prev l k = some i) (x : Nat) : lput (folTo l k) i k x = folTo l k x ++ con1 l x k := by
  unfold lput con1
  by_cases e : x = i
  · subst e; rw [if_pos rfl, if_pos h]
  · rw [if_neg e, if_neg (by rw [h]; intro hh; injection hh with hh; exact e hh.symm), List.append_nil]
theorem none_con1 {l : List Ev} {k : Nat} (h : prev l k = none) (x : Nat) : folTo l k x = folTo l k x ++ con1 l x k := by
  unfold con1
  rw [if_neg (by rw [h]; intro hh; cases hh), List.append_nil]
theorem lput_con2 {l : List Ev} {k i : Nat} (h : sender l k = some i) (x : Nat) : lput (fun x => folTo l k x ++ con1 l x k) i k x = folTo l (k + 1) x := by
  rw [folTo]
  unfold lput con2
  by_cases e : x = i
  · subst e; rw [if_pos rfl, if_pos h]
  · rw [if_neg e, if_neg (by rw [h]; intro hh; injection hh with hh; exact e hh.symm), List.append_nil]
theorem none_con2 {l : List Ev} {k : Nat} (h : sender l k = none) (x : Nat) : folTo l k x ++ con1 l x k = folTo l (k + 1) x := by
  rw [folTo]
  unfold con2
  rw [if_neg (by rw [h]; intro hh; cases hh), List.append_nil]
theorem mid_len (l : List Ev) (k x : Nat) : (folTo l k x ++ con1 l x k).length ≤ 2 * k + 1 := by
  have h := folTo_len l k x
  have h1 : (con1 l x k).length ≤ 1 := by unfold con1; split <;> simp
  rw [List.length_append]
  omega
theorem putO_latest (l : List Ev) (k : Nat) (p : Int) (h : (ev l k).p = p) (x : Int) : putO (latest l k) p k x = latest l (k + 1) x := by
  rw [latest_succ, h]; rfl
theorem putO_sends (l : List Ev) (k : Nat) (m : Int) (h2 : (ev l k).k = 2) (h : (ev l k).m = m) (x : Int) : putO (sends l k) m k x = sends l (k + 1) x := by
  rw [sends_succ, h, h2]; unfold putO; simp
theorem same_sends (l : List Ev) (k : Nat) (h2 : ¬ (ev l k).k = 2) (x : Int) : sends l k x = sends l (k + 1) x := by
  rw [sends_succ, if_neg (fun h => h2 h.1)]

section
variable {W0 w2 : World} {B T c i k g cap : Nat} {vs : Nat → Value} {f : Nat → List Nat} {o : Obj} {u : Value}
theorem app_lists (h : Lists W0 B T c vs f) (hi : i < c) (hown : w2.ownsRow B 3 1 (.slice (some ⟨g, 0, none⟩) ((f i).length + 1) cap) ((f i).length + 1) (natVals (f i) ++ [.int .i64 (k : Int)]))
    (hg : (W0.alloc o).grownBy w2 (vs i).ownBlock) (hat : (vs i).ownBlock = some g ∨ g = (W0.alloc o).heap.size) :
    Lists (w2.setCell ⟨T, i, none⟩ (.slice (some ⟨g, 0, none⟩) ((f i).length + 1) cap)) B T c (vput vs i (.slice (some ⟨g, 0, none⟩) ((f i).length + 1) cap)) (lput f i k) :=
  (h.alloc o).push hi hown hg (by rcases hat with h | h; exact .inl h; exact .inr (by omega))
theorem app_slot (h : Lists W0 B T c vs f) (hi : i < c) (hg : (W0.alloc o).grownBy w2 (vs i).ownBlock) : w2.cell? ⟨T, i, none⟩ = some (vs i) := hg.cell ((h.alloc o).slot hi) (fun e => h.neTop hi e.symm)
theorem app_frozen (h : Lists W0 B T c vs f) (hi : i < c) (hg : (W0.alloc o).grownBy w2 (vs i).ownBlock) : w2.frozen? ⟨T, i, none⟩ = false :=
  (World.frozen?_of_block (hg.block T (h.alloc o).topLt (fun e => h.neTop hi e.symm))).trans ((h.alloc o).frozen i)
theorem app_map {P : Program} {K E : TypeId} {M n : Nat} {q : Int → Option Nat} (hM : MapO P W0 K E M n q) (h : Lists W0 B T c vs f) (hi : i < c) (hg : (W0.alloc o).grownBy w2 (vs i).ownBlock) (hne : M ≠ T) (u : Value) : MapO P (w2.setCell ⟨T, i, none⟩ u) K E M n q :=
  ((hM.alloc o).kept hg ((hM.alloc o).ne_own ((h.alloc o).row i hi))).far (p := ⟨T, i, none⟩) hne u
theorem app_cell {b x : Nat} {v : Value} (hg : (W0.alloc o).grownBy w2 (vs i).ownBlock) (hc : W0.cell? ⟨b, x, none⟩ = some v) (hb : b < W0.heap.size) (hne : some b ≠ (vs i).ownBlock) : w2.cell? ⟨b, x, none⟩ = some v :=
  hg.cell (cell_alloc2 o hc hb) hne
theorem app_below {w : World} (hB : Below w.heap.size w W0) (h : Lists W0 w.heap.size T c vs f) (hi : i < c) (hg : (W0.alloc o).grownBy w2 (vs i).ownBlock) (u : Value) : Below w.heap.size w (w2.setCell ⟨T, i, none⟩ u) :=
  ((hB.alloc hB.size o).grown hg (hB.alloc hB.size o).size (fun j hj => ((h.row i hi).lt j hj).1)).setCell (p := ⟨T, i, none⟩) h.low u
theorem app_size (hg : (W0.alloc o).grownBy w2 (vs i).ownBlock) (u : Value) : W0.heap.size < (w2.setCell ⟨T, i, none⟩ u).heap.size := by
  have := hg.size
  simp at this ⊢
  omega
end

set_option maxHeartbeats 4000000 in
set_option maxRecDepth 100000 in
theorem followers_any (A : Option Addr) (cap : Nat) (l : List Ev) (n : Int) (w : World) (hE : Evs w w.heap.size A l) (hF : Fits l) (h30 : l.length ≤ 30) (hg : Good n l) :
    Calls Try.prog 29 #[.slice A l.length cap] w (FolRes l w) := by
  have hmm := @run_makeMap Try.prog
  obtain ⟨i0, hi0, hz0, hz1, hz2⟩ := info_parts info23
  have hz2' : i0.bytes * l.length ≤ 281474976710656 := by rw [hz2]; omega
  have hHi := Lib.hid hi0; have hHz := Lib.hid hz0; have hHs := Lib.hid hz1
  clear hi0 hz0 hz1 hz2
  obtain ⟨j0, hj0, hy0, hy1, hy2⟩ := info_parts info3
  have hJi := Lib.hid hj0; have hJz := Lib.hid hy0; have hJs := Lib.hid hy1; have hJb := Lib.hid hy2
  clear hj0 hy0 hy1 hy2
  go_enter Try.func29, Try.ntmps29
  go_wp2_with (first
    | (at_make; refine wpList_make_row _ rfl _ _ 45 rfl 23 i0 (.slice none 0 0) Try.underlying45 hHi.out hHz.out hHs.out rfl .i64 .i64 _ _ l.length rfl rfl rfl rfl hz2' (by unfold maxLen; omega) ?_; intro w1 hR1 hG1))
  have hB1 : Below w.heap.size w w1 := (Below.refl _ _).grown hG1 (Nat.le_refl _) (by simp)
  have hlt1 := hR1.lt
  clear hmm
  go_loopw [18] (fun i wr => ∃ k : Nat, k ≤ l.length ∧ i = .int .i64 k ∧ FolRel l w w1.heap.size k wr) (fun i _ => l.length - (intOf i).toNat)
  case atStart =>
    refine ⟨0, Nat.zero_le _, rfl, fun _ => .slice none 0 0, ?_, ?_, ?_, ?_⟩
    · refine Lists.alloc (Lists.alloc ⟨⟨_, hR1, by simp, fun i hi => by simp [hi]⟩, fun i _ => World.ownsRow_nil _ _ _ _, fun _ _ _ _ _ => .inl rfl, Nat.le_refl _⟩ _) _
    · exact (MapO.made _ _ _ _).alloc _
    · have := MapO.made Try.prog (w1.alloc (.map #[] 0)) 3 3
      rw [show (w1.alloc (.map #[] 0)).heap.size = w1.heap.size + 1 by simp] at this
      exact this
    · exact (hB1.alloc hB1.size _).alloc (by simp; have := hB1.size; omega) _
  case round =>
    obtain ⟨k, hk, rfl, vs, hLs, hM, hS, hB⟩ := hrel
    by_cases hlt : k < l.length
    · obtain ⟨b, off, rfl, hb, hc⟩ := hE.below hB (by omega)
      obtain ⟨c0, c1, c2⟩ := hc k hlt
      clear hc
      have hfit := hF l[k] (List.getElem_mem hlt)
      have hev := Lib.hid (ev_get l hlt)
      have hTk : Hid ((ev l k).k = 3 → ∃ i, i < k ∧ sends l k (ev l k).m = some i) := fun h => hg.sends hlt h
      have hTop := hLs.topLt
      have hMl := hM.lt
      have hSl := hS.lt
      have hBs := hB.size
      generalize l[k] = e0 at *
      obtain ⟨p, kd, m⟩ := e0
      simp only at c0 c1 c2 hfit
      have hep : Hid ((ev l k).p = p) := by unfold Hid; rw [hev.out]
      have hek : Hid ((ev l k).k = kd) := by unfold Hid; rw [hev.out]
      have hem : Hid ((ev l k).m = m) := by unfold Hid; rw [hev.out]
      have hpw : (Lit.int .i64 p).wf = true := WalkArith.wf_i64 hfit.1
      have hmw : (Lit.int .i64 m).wf = true := WalkArith.wf_i64 hfit.2.2
      have hkw : (Lit.int .i64 (k : Int)).wf = true := WalkArith.wf_i64 ⟨by omega, by omega⟩
      clear hev hfit
      have hne1 : ¬ wr.heap.size = w.heap.size := by omega
      have hne2 : ¬ w.heap.size = wr.heap.size := by omega
      obtain ⟨f1, hf1⟩ : ∃ f1 : Nat → List Nat, Hid (∀ x, f1 x = folTo l k x ++ con1 l x k) := ⟨_, fun _ => rfl⟩
      have hLa := hLs.alloc (.cells #[.int .i64 p, .int .i64 kd, .int .i64 m] 37)
      have hMa := hM.alloc (.cells #[.int .i64 p, .int .i64 kd, .int .i64 m] 37)
      have hSa := hS.alloc (.cells #[.int .i64 p, .int .i64 kd, .int .i64 m] 37)
      have hBa := hB.alloc hBs (.cells #[.int .i64 p, .int .i64 kd, .int .i64 m] 37)
      have a0 := box0 (w := wr) (.int .i64 p) (.int .i64 kd) (.int .i64 m) 37 rfl
      have a1 := box1 (w := wr) (.int .i64 p) (.int .i64 kd) (.int .i64 m) 37 rfl
      have a2 := box2 (w := wr) (.int .i64 p) (.int .i64 kd) (.int .i64 m) 37 rfl
      have hsa : wr.heap.size < (wr.alloc (.cells #[.int .i64 p, .int .i64 kd, .int .i64 m] 37)).heap.size := by simp
      have hneM : w1.heap.size ≠ w.heap.size := by omega
      have hneS : w1.heap.size + 1 ≠ w.heap.size := by omega
      have hlat : Hid (∀ x, putO (latest l k) p k x = latest l (k + 1) x) := putO_latest l k p hep.out
      by_cases k2 : kd = 2
      · have v2 : (kd == 2) = true := by simp [k2]
        have hsn : Hid (∀ x, putO (sends l k) m k x = sends l (k + 1) x) := putO_sends l k m (by rw [hek.out]; exact k2) hem.out
        have hse : Hid (sender l k = none) := by unfold Hid sender; rw [if_neg (by rw [hek.out]; omega)]
        have hfin : Hid (∀ x, f1 x = folTo l (k + 1) x) := fun x => by rw [hf1.out]; exact none_con2 hse.out x
        clear k2 hTk
        rcases hpv : prev l k with _ | i
        · have hpH : Hid (latest l k p = none) := by unfold Hid; rw [← hep.out]; exact hpv
          have hpv' := Lib.hid hpv
          clear hpv
          have hL3 := hLa
          have hM3 := hMa
          have hS3 := hSa
          have hB3 := hBa
          have hz3 := hsa
          have b1 := a1
          have b2 := a2
          go_wp2_with (first
            | (at_lookup; refine wpList_lookOk rfl (.tmp 24) _ 61 rfl 3 3 Try.underlying3 Try.underlying61 Try.underlying3 (zero3 _) w1.heap.size k (latest l k) p none rfl hMa rfl hpw hpH.out ?_)
            | (at_mapUpdate; generalize wr.alloc (.cells #[.int .i64 p, .int .i64 kd, .int .i64 m] 37) = w3 at *; refine wpList_putO rfl (.tmp 41) _ _ 61 rfl 3 3 Try.underlying3 Try.underlying61 Try.underlying3 w1.heap.size k (latest l k) p k rfl hM3 (by unfold maxLen; omega) rfl rfl hpw hkw ?_; intro w4 hM4 hG4; obtain ⟨vs3, hL3'⟩ : ∃ vs3, Lists w3 w.heap.size w.heap.size l.length vs3 f1 := ⟨_, hL3.congr fun x _ => (none_con1 hpv'.out x).trans (hf1.out x).symm⟩; have d1 := hG4.cell b1 (by simp; omega); have d2 := hG4.cell b2 (by simp; omega); have hL4 := hL3'.kept hG4 (by simp; omega) (fun x hx => .inr (fun e => hM3.ne_own (hL3'.row x hx) e.symm)); have hS4 := hS3.kept hG4 (by simp); have hB4 := hB3.grown hG4 hB3.size (fun j hj => by cases hj; omega); have hz4 : wr.heap.size < w4.heap.size := (by have := hG4.size; omega); clear hL3 hL3' hM3 hS3 hB3 hG4 hz3 b1 b2)
            | (at_mapUpdate; refine wpList_putO rfl (.tmp 49) _ _ 61 rfl 3 3 Try.underlying3 Try.underlying61 Try.underlying3 (w1.heap.size + 1) k (sends l k) m k rfl hS4 (by unfold maxLen; omega) rfl rfl hmw hkw ?_; intro w5 hS5 hG5))
          have hL5 := hL4.kept hG5 (by simp; omega) (fun x hx => .inr (fun e => hS4.ne_own (hL4.row x hx) e.symm))
          have hM5 := hM4.kept hG5 (by simp)
          have hB5 := hB4.grown hG5 hB4.size (fun j hj => by cases hj; omega)
          go_roundw
          case rel => exact ⟨k + 1, by omega, by go_num, vs3, hL5.congr fun x _ => hfin.out x, hM5.congr hlat.out, hS5.congr hsn.out, hB5⟩
          case measure => simp [intOf]; omega
        · have hpH : Hid (latest l k p = some i) := by unfold Hid; rw [← hep.out]; exact hpv
          have hpv' := Lib.hid hpv
          have hik : i < k := (lastOf_some hpv).1
          clear hpv
          have hil : i < l.length := by omega
          have hfl := folTo_len l k i
          have hsl := hLs.slot hil
          have hnb : some wr.heap.size ≠ (vs i).ownBlock := fun e => by have := ((hLs.row i hil).lt _ e.symm).2; omega
          have hown2 := (hLa.alloc (.cells #[.int .i64 (k : Int)] 3)).row i hil
          have hnews := Lib.hid (news1 (g := wr.heap.size + 1) (.int .i64 (k : Int)) 3 (show wr.heap.size + 1 = (wr.alloc (.cells #[.int .i64 p, .int .i64 kd, .int .i64 m] 37)).heap.size by simp))
          have hbase : w.heap.size ≤ ((wr.alloc (.cells #[.int .i64 p, .int .i64 kd, .int .i64 m] 37)).alloc (.cells #[.int .i64 (k : Int)] 3)).heap.size := by simp; omega
          go_wp2_with (first
            | (at_lookup; refine wpList_lookOk rfl (.tmp 24) _ 61 rfl 3 3 Try.underlying3 Try.underlying61 Try.underlying3 (zero3 _) w1.heap.size k (latest l k) p (some i) rfl hMa rfl hpw hpH.out ?_)
            | (at_builtin; refine wpList_append_lies _ rfl (.tmp 36) (.tmp 38) 23 rfl w.heap.size 3 j0 (.int .i64 0) 1 8 Try.underlying23 hJi.out hJz.out hJs.out hJb.out rfl (by decide) (vs i) (folTo l k i).length (natVals (folTo l k i)) rfl hown2 ⟨wr.heap.size + 1, 0, none⟩ 1 1 [.int .i64 (k : Int)] rfl rfl hnews.out (by simp [Value.oneCell']) (by omega) (by unfold maxLen; omega) (by omega) hbase _ rfl ?_; intro g cap2 w2 hown hgrow hat hltg; have q1 := app_slot hLa hil hgrow; have q2 := app_frozen hLa hil hgrow; have r0 := app_cell hgrow a0 hsa hnb; have r1 := app_cell hgrow a1 hsa hnb; have r2 := app_cell hgrow a2 hsa hnb; have hL3 := app_lists hLa hil hown hgrow hat; have hM3 := app_map hMa hLa hil hgrow hneM (.slice (some ⟨g, 0, none⟩) ((folTo l k i).length + 1) cap2); have hS3 := app_map hSa hLa hil hgrow hneS (.slice (some ⟨g, 0, none⟩) ((folTo l k i).length + 1) cap2); have hB3 := app_below hBa hLa hil hgrow (.slice (some ⟨g, 0, none⟩) ((folTo l k i).length + 1) cap2); have hz3 := app_size (T := w.heap.size) (i := i) hgrow (.slice (some ⟨g, 0, none⟩) ((folTo l k i).length + 1) cap2); clear hown hgrow hat hltg)
            | (at_mapUpdate; have b1 := (World.cell?_setCell_other w2 ⟨w.heap.size, i, none⟩ ⟨wr.heap.size, 1, none⟩ (.slice (some ⟨g, 0, none⟩) ((folTo l k i).length + 1) cap2) (fun e => by injection e with e1; omega)).trans r1; have b2 := (World.cell?_setCell_other w2 ⟨w.heap.size, i, none⟩ ⟨wr.heap.size, 2, none⟩ (.slice (some ⟨g, 0, none⟩) ((folTo l k i).length + 1) cap2) (fun e => by injection e with e1; omega)).trans r2; generalize w2.setCell ⟨w.heap.size, i, none⟩ (.slice (some ⟨g, 0, none⟩) ((folTo l k i).length + 1) cap2) = w3 at *; refine wpList_putO rfl (.tmp 41) _ _ 61 rfl 3 3 Try.underlying3 Try.underlying61 Try.underlying3 w1.heap.size k (latest l k) p k rfl hM3 (by unfold maxLen; omega) rfl rfl hpw hkw ?_; intro w4 hM4 hG4; obtain ⟨vs3, hL3'⟩ : ∃ vs3, Lists w3 w.heap.size w.heap.size l.length vs3 f1 := ⟨_, hL3.congr fun x _ => (lput_con1 hpv'.out x).trans (hf1.out x).symm⟩; have d1 := hG4.cell b1 (by simp; omega); have d2 := hG4.cell b2 (by simp; omega); have hL4 := hL3'.kept hG4 (by simp; omega) (fun x hx => .inr (fun e => hM3.ne_own (hL3'.row x hx) e.symm)); have hS4 := hS3.kept hG4 (by simp); have hB4 := hB3.grown hG4 hB3.size (fun j hj => by cases hj; omega); have hz4 : wr.heap.size < w4.heap.size := (by have := hG4.size; omega); clear hL3 hL3' hM3 hS3 hB3 hG4 hz3 b1 b2)
            | (at_mapUpdate; refine wpList_putO rfl (.tmp 49) _ _ 61 rfl 3 3 Try.underlying3 Try.underlying61 Try.underlying3 (w1.heap.size + 1) k (sends l k) m k rfl hS4 (by unfold maxLen; omega) rfl rfl hmw hkw ?_; intro w5 hS5 hG5))
          have hL5 := hL4.kept hG5 (by simp; omega) (fun x hx => .inr (fun e => hS4.ne_own (hL4.row x hx) e.symm))
          have hM5 := hM4.kept hG5 (by simp)
          have hB5 := hB4.grown hG5 hB4.size (fun j hj => by cases hj; omega)
          go_roundw
          case rel => exact ⟨k + 1, by omega, by go_num, vs3, hL5.congr fun x _ => hfin.out x, hM5.congr hlat.out, hS5.congr hsn.out, hB5⟩
          case measure => simp [intOf]; omega
      have v2 : (kd == 2) = false := by simp [k2]
      have hsn : Hid (∀ x, sends l k x = sends l (k + 1) x) := same_sends l k (by rw [hek.out]; exact k2)
      by_cases k3 : kd = 3
      · have v3 : (kd == 3) = true := by simp [k3]
        obtain ⟨i2, hi2, hsd'⟩ := hTk.out (by rw [hek.out]; exact k3)
        have hsd : Hid (sends l k m = some i2) := by unfold Hid; rw [← hem.out]; exact hsd'
        have hse : Hid (sender l k = some i2) := by unfold Hid sender; rw [if_pos (by rw [hek.out]; exact k3)]; exact hsd'
        have hfin : Hid (∀ x, lput f1 i2 k x = folTo l (k + 1) x) := fun x => by rw [← lput_con2 hse.out]; unfold lput; rw [hf1.out, hf1.out]
        have hi2l : i2 < l.length := by omega
        have hf1l : (f1 i2).length ≤ 2 * k + 1 := by rw [hf1.out]; exact mid_len l k i2
        clear k2 k3 hTk hsd'
        rcases hpv : prev l k with _ | i
        · have hpH : Hid (latest l k p = none) := by unfold Hid; rw [← hep.out]; exact hpv
          have hpv' := Lib.hid hpv
          clear hpv
          have hL3 := hLa
          have hM3 := hMa
          have hS3 := hSa
          have hB3 := hBa
          have hz3 := hsa
          have b1 := a1
          have b2 := a2
          go_wp2_with (first
            | (at_lookup; refine wpList_lookOk rfl (.tmp 24) _ 61 rfl 3 3 Try.underlying3 Try.underlying61 Try.underlying3 (zero3 _) w1.heap.size k (latest l k) p none rfl hMa rfl hpw hpH.out ?_)
            | (at_mapUpdate; generalize wr.alloc (.cells #[.int .i64 p, .int .i64 kd, .int .i64 m] 37) = w3 at *; refine wpList_putO rfl (.tmp 41) _ _ 61 rfl 3 3 Try.underlying3 Try.underlying61 Try.underlying3 w1.heap.size k (latest l k) p k rfl hM3 (by unfold maxLen; omega) rfl rfl hpw hkw ?_; intro w4 hM4 hG4; obtain ⟨vs3, hL3'⟩ : ∃ vs3, Lists w3 w.heap.size w.heap.size l.length vs3 f1 := ⟨_, hL3.congr fun x _ => (none_con1 hpv'.out x).trans (hf1.out x).symm⟩; have d1 := hG4.cell b1 (by simp; omega); have d2 := hG4.cell b2 (by simp; omega); have hL4 := hL3'.kept hG4 (by simp; omega) (fun x hx => .inr (fun e => hM3.ne_own (hL3'.row x hx) e.symm)); have hS4 := hS3.kept hG4 (by simp); have hB4 := hB3.grown hG4 hB3.size (fun j hj => by cases hj; omega); have hz4 : wr.heap.size < w4.heap.size := (by have := hG4.size; omega); clear hL3 hL3' hM3 hS3 hB3 hG4 hz3 b1 b2; have hown4 := (hL4.alloc (.cells #[.int .i64 (k : Int)] 3)).row i2 hi2l; have hnews4 := Lib.hid (news1 (w := w4) (.int .i64 (k : Int)) 3 rfl); have hbase4 : w.heap.size ≤ (w4.alloc (.cells #[.int .i64 (k : Int)] 3)).heap.size := (by simp; omega); have sl4 := hL4.slot hi2l; have hT4 := hL4.topLt)
            | (at_lookup; refine wpList_lookO rfl (.tmp 55) _ 61 rfl 3 3 Try.underlying3 Try.underlying61 Try.underlying3 (zero3 _) (w1.heap.size + 1) k (sends l k) m i2 rfl hS4 rfl hmw hsd.out ?_)
            | (at_builtin; refine wpList_append_lies _ rfl (.tmp 64) (.tmp 66) 23 rfl w.heap.size 3 j0 (.int .i64 0) 1 8 Try.underlying23 hJi.out hJz.out hJs.out hJb.out rfl (by decide) (vs3 i2) (f1 i2).length (natVals (f1 i2)) rfl hown4 ⟨w4.heap.size, 0, none⟩ 1 1 [.int .i64 (k : Int)] rfl rfl hnews4.out (by simp [Value.oneCell']) (by omega) (by unfold maxLen; omega) (by omega) hbase4 _ rfl ?_; intro g5 cap5 w5 hown5 hgrow5 hat5 hltg5; have q5 := app_slot hL4 hi2l hgrow5; have q6 := app_frozen hL4 hi2l hgrow5; have hL5 := app_lists hL4 hi2l hown5 hgrow5 hat5; have hM5 := app_map hM4 hL4 hi2l hgrow5 hneM (.slice (some ⟨g5, 0, none⟩) ((f1 i2).length + 1) cap5); have hS5 := app_map hS4 hL4 hi2l hgrow5 hneS (.slice (some ⟨g5, 0, none⟩) ((f1 i2).length + 1) cap5); have hB5 := app_below hB4 hL4 hi2l hgrow5 (.slice (some ⟨g5, 0, none⟩) ((f1 i2).length + 1) cap5)))
          go_roundw
          case rel => exact ⟨k + 1, by omega, by go_num, _, hL5.congr fun x _ => hfin.out x, hM5.congr hlat.out, (hS5.mono (Nat.le_succ _)).congr hsn.out, hB5⟩
          case measure => simp [intOf]; omega
        · have hpH : Hid (latest l k p = some i) := by unfold Hid; rw [← hep.out]; exact hpv
          have hpv' := Lib.hid hpv
          have hik : i < k := (lastOf_some hpv).1
          clear hpv
          have hil : i < l.length := by omega
          have hfl := folTo_len l k i
          have hsl := hLs.slot hil
          have hnb : some wr.heap.size ≠ (vs i).ownBlock := fun e => by have := ((hLs.row i hil).lt _ e.symm).2; omega
          have hown2 := (hLa.alloc (.cells #[.int .i64 (k : Int)] 3)).row i hil
          have hnews := Lib.hid (news1 (g := wr.heap.size + 1) (.int .i64 (k : Int)) 3 (show wr.heap.size + 1 = (wr.alloc (.cells #[.int .i64 p, .int .i64 kd, .int .i64 m] 37)).heap.size by simp))
          have hbase : w.heap.size ≤ ((wr.alloc (.cells #[.int .i64 p, .int .i64 kd, .int .i64 m] 37)).alloc (.cells #[.int .i64 (k : Int)] 3)).heap.size := by simp; omega
          go_wp2_with (first
            | (at_lookup; refine wpList_lookOk rfl (.tmp 24) _ 61 rfl 3 3 Try.underlying3 Try.underlying61 Try.underlying3 (zero3 _) w1.heap.size k (latest l k) p (some i) rfl hMa rfl hpw hpH.out ?_)
            | (at_builtin; refine wpList_append_lies _ rfl (.tmp 36) (.tmp 38) 23 rfl w.heap.size 3 j0 (.int .i64 0) 1 8 Try.underlying23 hJi.out hJz.out hJs.out hJb.out rfl (by decide) (vs i) (folTo l k i).length (natVals (folTo l k i)) rfl hown2 ⟨wr.heap.size + 1, 0, none⟩ 1 1 [.int .i64 (k : Int)] rfl rfl hnews.out (by simp [Value.oneCell']) (by omega) (by unfold maxLen; omega) (by omega) hbase _ rfl ?_; intro g cap2 w2 hown hgrow hat hltg; have q1 := app_slot hLa hil hgrow; have q2 := app_frozen hLa hil hgrow; have r0 := app_cell hgrow a0 hsa hnb; have r1 := app_cell hgrow a1 hsa hnb; have r2 := app_cell hgrow a2 hsa hnb; have hL3 := app_lists hLa hil hown hgrow hat; have hM3 := app_map hMa hLa hil hgrow hneM (.slice (some ⟨g, 0, none⟩) ((folTo l k i).length + 1) cap2); have hS3 := app_map hSa hLa hil hgrow hneS (.slice (some ⟨g, 0, none⟩) ((folTo l k i).length + 1) cap2); have hB3 := app_below hBa hLa hil hgrow (.slice (some ⟨g, 0, none⟩) ((folTo l k i).length + 1) cap2); have hz3 := app_size (T := w.heap.size) (i := i) hgrow (.slice (some ⟨g, 0, none⟩) ((folTo l k i).length + 1) cap2); clear hown hgrow hat hltg)
            | (at_mapUpdate; have b1 := (World.cell?_setCell_other w2 ⟨w.heap.size, i, none⟩ ⟨wr.heap.size, 1, none⟩ (.slice (some ⟨g, 0, none⟩) ((folTo l k i).length + 1) cap2) (fun e => by injection e with e1; omega)).trans r1; have b2 := (World.cell?_setCell_other w2 ⟨w.heap.size, i, none⟩ ⟨wr.heap.size, 2, none⟩ (.slice (some ⟨g, 0, none⟩) ((folTo l k i).length + 1) cap2) (fun e => by injection e with e1; omega)).trans r2; generalize w2.setCell ⟨w.heap.size, i, none⟩ (.slice (some ⟨g, 0, none⟩) ((folTo l k i).length + 1) cap2) = w3 at *; refine wpList_putO rfl (.tmp 41) _ _ 61 rfl 3 3 Try.underlying3 Try.underlying61 Try.underlying3 w1.heap.size k (latest l k) p k rfl hM3 (by unfold maxLen; omega) rfl rfl hpw hkw ?_; intro w4 hM4 hG4; obtain ⟨vs3, hL3'⟩ : ∃ vs3, Lists w3 w.heap.size w.heap.size l.length vs3 f1 := ⟨_, hL3.congr fun x _ => (lput_con1 hpv'.out x).trans (hf1.out x).symm⟩; have d1 := hG4.cell b1 (by simp; omega); have d2 := hG4.cell b2 (by simp; omega); have hL4 := hL3'.kept hG4 (by simp; omega) (fun x hx => .inr (fun e => hM3.ne_own (hL3'.row x hx) e.symm)); have hS4 := hS3.kept hG4 (by simp); have hB4 := hB3.grown hG4 hB3.size (fun j hj => by cases hj; omega); have hz4 : wr.heap.size < w4.heap.size := (by have := hG4.size; omega); clear hL3 hL3' hM3 hS3 hB3 hG4 hz3 b1 b2; have hown4 := (hL4.alloc (.cells #[.int .i64 (k : Int)] 3)).row i2 hi2l; have hnews4 := Lib.hid (news1 (w := w4) (.int .i64 (k : Int)) 3 rfl); have hbase4 : w.heap.size ≤ (w4.alloc (.cells #[.int .i64 (k : Int)] 3)).heap.size := (by simp; omega); have sl4 := hL4.slot hi2l; have hT4 := hL4.topLt)
            | (at_lookup; refine wpList_lookO rfl (.tmp 55) _ 61 rfl 3 3 Try.underlying3 Try.underlying61 Try.underlying3 (zero3 _) (w1.heap.size + 1) k (sends l k) m i2 rfl hS4 rfl hmw hsd.out ?_)
            | (at_builtin; refine wpList_append_lies _ rfl (.tmp 64) (.tmp 66) 23 rfl w.heap.size 3 j0 (.int .i64 0) 1 8 Try.underlying23 hJi.out hJz.out hJs.out hJb.out rfl (by decide) (vs3 i2) (f1 i2).length (natVals (f1 i2)) rfl hown4 ⟨w4.heap.size, 0, none⟩ 1 1 [.int .i64 (k : Int)] rfl rfl hnews4.out (by simp [Value.oneCell']) (by omega) (by unfold maxLen; omega) (by omega) hbase4 _ rfl ?_; intro g5 cap5 w5 hown5 hgrow5 hat5 hltg5; have q5 := app_slot hL4 hi2l hgrow5; have q6 := app_frozen hL4 hi2l hgrow5; have hL5 := app_lists hL4 hi2l hown5 hgrow5 hat5; have hM5 := app_map hM4 hL4 hi2l hgrow5 hneM (.slice (some ⟨g5, 0, none⟩) ((f1 i2).length + 1) cap5); have hS5 := app_map hS4 hL4 hi2l hgrow5 hneS (.slice (some ⟨g5, 0, none⟩) ((f1 i2).length + 1) cap5); have hB5 := app_below hB4 hL4 hi2l hgrow5 (.slice (some ⟨g5, 0, none⟩) ((f1 i2).length + 1) cap5)))
          go_roundw
          case rel => exact ⟨k + 1, by omega, by go_num, _, hL5.congr fun x _ => hfin.out x, hM5.congr hlat.out, (hS5.mono (Nat.le_succ _)).congr hsn.out, hB5⟩
          case measure => simp [intOf]; omega
      have v3 : (kd == 3) = false := by simp [k3]
      have hse : Hid (sender l k = none) := by unfold Hid sender; rw [if_neg (by rw [hek.out]; exact k3)]
      have hfin : Hid (∀ x, f1 x = folTo l (k + 1) x) := fun x => by rw [hf1.out]; exact none_con2 hse.out x
      clear k2 k3 hTk
      rcases hpv : prev l k with _ | i
      · have hpH : Hid (latest l k p = none) := by unfold Hid; rw [← hep.out]; exact hpv
        have hpv' := Lib.hid hpv
        clear hpv
        have hL3 := hLa
        have hM3 := hMa
        have hS3 := hSa
        have hB3 := hBa
        have hz3 := hsa
        have b1 := a1
        have b2 := a2
        go_wp2_with (first
          | (at_lookup; refine wpList_lookOk rfl (.tmp 24) _ 61 rfl 3 3 Try.underlying3 Try.underlying61 Try.underlying3 (zero3 _) w1.heap.size k (latest l k) p none rfl hMa rfl hpw hpH.out ?_)
          | (at_mapUpdate; generalize wr.alloc (.cells #[.int .i64 p, .int .i64 kd, .int .i64 m] 37) = w3 at *; refine wpList_putO rfl (.tmp 41) _ _ 61 rfl 3 3 Try.underlying3 Try.underlying61 Try.underlying3 w1.heap.size k (latest l k) p k rfl hM3 (by unfold maxLen; omega) rfl rfl hpw hkw ?_; intro w4 hM4 hG4; obtain ⟨vs3, hL3'⟩ : ∃ vs3, Lists w3 w.heap.size w.heap.size l.length vs3 f1 := ⟨_, hL3.congr fun x _ => (none_con1 hpv'.out x).trans (hf1.out x).symm⟩; have d1 := hG4.cell b1 (by simp; omega); have d2 := hG4.cell b2 (by simp; omega); have hL4 := hL3'.kept hG4 (by simp; omega) (fun x hx => .inr (fun e => hM3.ne_own (hL3'.row x hx) e.symm)); have hS4 := hS3.kept hG4 (by simp); have hB4 := hB3.grown hG4 hB3.size (fun j hj => by cases hj; omega); have hz4 : wr.heap.size < w4.heap.size := (by have := hG4.size; omega); clear hL3 hL3' hM3 hS3 hB3 hG4 hz3 b1 b2))
        go_roundw
        case rel => exact ⟨k + 1, by omega, by go_num, vs3, hL4.congr fun x _ => hfin.out x, hM4.congr hlat.out, (hS4.mono (Nat.le_succ _)).congr hsn.out, hB4⟩
        case measure => simp [intOf]; omega
      · have hpH : Hid (latest l k p = some i) := by unfold Hid; rw [← hep.out]; exact hpv
        have hpv' := Lib.hid hpv
        have hik : i < k := (lastOf_some hpv).1
        clear hpv
        have hil : i < l.length := by omega
        have hfl := folTo_len l k i
        have hsl := hLs.slot hil
        have hnb : some wr.heap.size ≠ (vs i).ownBlock := fun e => by have := ((hLs.row i hil).lt _ e.symm).2; omega
        have hown2 := (hLa.alloc (.cells #[.int .i64 (k : Int)] 3)).row i hil
        have hnews := Lib.hid (news1 (g := wr.heap.size + 1) (.int .i64 (k : Int)) 3 (show wr.heap.size + 1 = (wr.alloc (.cells #[.int .i64 p, .int .i64 kd, .int .i64 m] 37)).heap.size by simp))
        have hbase : w.heap.size ≤ ((wr.alloc (.cells #[.int .i64 p, .int .i64 kd, .int .i64 m] 37)).alloc (.cells #[.int .i64 (k : Int)] 3)).heap.size := by simp; omega
        go_wp2_with (first
          | (at_lookup; refine wpList_lookOk rfl (.tmp 24) _ 61 rfl 3 3 Try.underlying3 Try.underlying61 Try.underlying3 (zero3 _) w1.heap.size k (latest l k) p (some i) rfl hMa rfl hpw hpH.out ?_)
          | (at_builtin; refine wpList_append_lies _ rfl (.tmp 36) (.tmp 38) 23 rfl w.heap.size 3 j0 (.int .i64 0) 1 8 Try.underlying23 hJi.out hJz.out hJs.out hJb.out rfl (by decide) (vs i) (folTo l k i).length (natVals (folTo l k i)) rfl hown2 ⟨wr.heap.size + 1, 0, none⟩ 1 1 [.int .i64 (k : Int)] rfl rfl hnews.out (by simp [Value.oneCell']) (by omega) (by unfold maxLen; omega) (by omega) hbase _ rfl ?_; intro g cap2 w2 hown hgrow hat hltg; have q1 := app_slot hLa hil hgrow; have q2 := app_frozen hLa hil hgrow; have r0 := app_cell hgrow a0 hsa hnb; have r1 := app_cell hgrow a1 hsa hnb; have r2 := app_cell hgrow a2 hsa hnb; have hL3 := app_lists hLa hil hown hgrow hat; have hM3 := app_map hMa hLa hil hgrow hneM (.slice (some ⟨g, 0, none⟩) ((folTo l k i).length + 1) cap2); have hS3 := app_map hSa hLa hil hgrow hneS (.slice (some ⟨g, 0, none⟩) ((folTo l k i).length + 1) cap2); have hB3 := app_below hBa hLa hil hgrow (.slice (some ⟨g, 0, none⟩) ((folTo l k i).length + 1) cap2); have hz3 := app_size (T := w.heap.size) (i := i) hgrow (.slice (some ⟨g, 0, none⟩) ((folTo l k i).length + 1) cap2); clear hown hgrow hat hltg)
          | (at_mapUpdate; have b1 := (World.cell?_setCell_other w2 ⟨w.heap.size, i, none⟩ ⟨wr.heap.size, 1, none⟩ (.slice (some ⟨g, 0, none⟩) ((folTo l k i).length + 1) cap2) (fun e => by injection e with e1; omega)).trans r1; have b2 := (World.cell?_setCell_other w2 ⟨w.heap.size, i, none⟩ ⟨wr.heap.size, 2, none⟩ (.slice (some ⟨g, 0, none⟩) ((folTo l k i).length + 1) cap2) (fun e => by injection e with e1; omega)).trans r2; generalize w2.setCell ⟨w.heap.size, i, none⟩ (.slice (some ⟨g, 0, none⟩) ((folTo l k i).length + 1) cap2) = w3 at *; refine wpList_putO rfl (.tmp 41) _ _ 61 rfl 3 3 Try.underlying3 Try.underlying61 Try.underlying3 w1.heap.size k (latest l k) p k rfl hM3 (by unfold maxLen; omega) rfl rfl hpw hkw ?_; intro w4 hM4 hG4; obtain ⟨vs3, hL3'⟩ : ∃ vs3, Lists w3 w.heap.size w.heap.size l.length vs3 f1 := ⟨_, hL3.congr fun x _ => (lput_con1 hpv'.out x).trans (hf1.out x).symm⟩; have d1 := hG4.cell b1 (by simp; omega); have d2 := hG4.cell b2 (by simp; omega); have hL4 := hL3'.kept hG4 (by simp; omega) (fun x hx => .inr (fun e => hM3.ne_own (hL3'.row x hx) e.symm)); have hS4 := hS3.kept hG4 (by simp); have hB4 := hB3.grown hG4 hB3.size (fun j hj => by cases hj; omega); have hz4 : wr.heap.size < w4.heap.size := (by have := hG4.size; omega); clear hL3 hL3' hM3 hS3 hB3 hG4 hz3 b1 b2))
        go_roundw
        case rel => exact ⟨k + 1, by omega, by go_num, vs3, hL4.congr fun x _ => hfin.out x, hM4.congr hlat.out, (hS4.mono (Nat.le_succ _)).congr hsn.out, hB4⟩
        case measure => simp [intOf]; omega
    · have hkl : k = l.length := by omega
      subst hkl
      go_wp2_with fail
      go_ret
      exact ⟨vs, rfl, hLs, hB⟩

#print axioms followers_any
end Go.Proofs.Ytiokfehckhbnaaa
