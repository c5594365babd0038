/-
  The law EchoAll, walked.
-/
import Derived.Test.YtjmkmfeibempjaaEpl
import Derived.Test.YtjmkmfeibempjaaLkd
import Derived.Test.YtjmkmfeibempjaaCpz
namespace Go.Proofs.Ytjmkmfeibempjaa
open Go.RowKit Go.Maps
set_option linter.unusedVariables false

set_option maxHeartbeats 1600000 in
theorem echoAll_law (w : World) (n : Int) (_hn : I64 n) (A : Option Addr) (cap : Nat) (l : List Lk) (hE : Lks w w.heap.size A l) (hF : LFits l) (hc : l.length ≤ cap) (hlm : l.length ≤ maxLen) (hl : l.length ≤ 17592186044416)
    (s : Int) (_hs : I64 s) (A2 : Option Addr) (cap2 : Nat) (o : List Int) (hE2 : Nums w w.heap.size A2 o) (hF2 : NumFits o) (hc2 : o.length ≤ cap2) (hom : o.length ≤ maxLen) (ho : o.length ≤ 17592186044416) :
    Calls Try.prog 6 #[.int .i64 n, .slice A l.length cap, .int .i64 s, .slice A2 o.length cap2] w fun e w' => e = .returned (.bool true) ∧ Below w.heap.size w w' := by
  by_cases h30 : 30 < o.length
  · have h30I : (30 : Int) < (o.length : Int) := by omega
    have v1 : decide ((o.length : Int) > 30) = true := decide_eq_true h30I
    have v1' : decide (30 < (o.length : Int)) = true := decide_eq_true h30I
    go_enter Try.func6, Try.ntmps6
    go_wp2_with fail
    go_ret
    exact ⟨rfl, Below.refl _ _⟩
  · have v1 : decide ((o.length : Int) > 30) = false := decide_eq_false (by omega)
    have v1' : decide (30 < (o.length : Int)) = false := decide_eq_false (by omega)
    obtain ⟨j0, hi0, hz0, hz1, hz2⟩ := info_parts infoInt
    have hJi := Lib.hid hi0; have hJz := Lib.hid hz0; have hJs := Lib.hid hz1; have hJb := Lib.hid hz2
    clear hi0 hz0 hz1 hz2
    have hB1 := (Below.refl w.heap.size w).alloc (Nat.le_refl _) (.cells #[] 3)
    have hW1 : (w.alloc (.cells #[] 3)).ownsRow w.heap.size 3 1 (.slice (some ⟨w.heap.size, 0, none⟩) 0 0) 0 [] := ⟨rfl, .inr ⟨w.heap.size, 0, #[], rfl, Nat.le_refl _, heap_alloc_new w _, Nat.le_refl _, Nat.zero_le _, rfl, rfl⟩⟩
    have hN1 := (hE2.below hB1).more hB1.size
    have hEH := Lib.hid hE
    have hB1H := Lib.hid hB1
    have hW1H := Lib.hid hW1
    have hN1H := Lib.hid hN1
    have hF2H := Lib.hid hF2
    clear hE hE2 hB1 hW1 hN1 hF2 hF
    go_enter Try.func6, Try.ntmps6
    go_wp2_with (first
      | (at_builtin; refine wpList_copyI rfl (.tmp 15) (.tmp 16) rfl j0 hJi.out hJz.out hJs.out hJb.out w.heap.size w.heap.size rfl hW1H.out A2 cap2 o rfl hN1H.out (by omega) (by simp) ?_; intro v5 w5 hW5 hG5
         have hsz5 : w.heap.size ≤ w5.heap.size := by have := hG5.size; simp at this; omega
         have hB5 := Lib.hid (hB1H.out.grown hG5 (by simp) (fun b hb => by injection hb with hb; omega))
         have hW5H := Lib.hid hW5
         clear hG5 hW5)
      | (at_builtin; refine wpList_append_zeros rfl (.tmp 17) (.const (.int .i64 30)) rfl j0 hJi.out hJz.out hJs.out hJb.out w.heap.size v5 o rfl rfl hW5H.out (by omega) hsz5 ?_; intro v6 w6 hW6 hG6))
    have hsz6 : w.heap.size ≤ w6.heap.size := Nat.le_trans hsz5 hG6.size
    have hB6 := Lib.hid (hB5.out.grown hG6 hsz5 (fun b hb => (World.ownsRow.lt hW5H.out b hb).1))
    obtain ⟨A6, cap6, rfl, -, -, hN6⟩ := hW6.nums
    have hll : (o ++ List.replicate 30 (0 : Int)).length = o.length + 30 := by simp
    have hoo : Hid (∃ p : List Int, p = o ++ List.replicate 30 0 ∧ NumFits p) := ⟨_, rfl, fun x hx => by
      rcases List.mem_append.1 hx with h | h
      · exact hF2H.out x h
      · rw [List.eq_of_mem_replicate h]; unfold I64; omega⟩
    have hN6H := Lib.hid hN6
    have hE6 := Lib.hid ((hEH.out.below hB6.out).more hsz6)
    clear hW6 hG6 hW5H hB5 hW1H hB1H hN1H hN6 hEH
    by_cases hz : ecode n l s (o ++ List.replicate 30 (0 : Int)).length = 0
    · obtain ⟨hsm, h60, hLO, hins, hOnce⟩ := ecode_zero hz
      obtain ⟨nn, rfl⟩ : ∃ k : Nat, n = (k : Int) := ⟨n.toNat, by unfold LargeL at hsm; omega⟩
      obtain ⟨ss, rfl⟩ : ∃ k : Nat, s = (k : Int) := ⟨s.toNat, by have := (inP_iff _ _).1 hins; omega⟩
      have hss : ss < nn := by have := (inP_iff _ _).1 hins; omega
      have h15 : l.length ≤ 15 := by unfold LargeL at hsm; omega
      have hdone : Hid (decide ((esAt (nbs l nn) ss (o ++ List.replicate 30 0) (o ++ List.replicate 30 (0 : Int)).length).took ss = (nbs l nn ss).length) = true) := by
        unfold Hid
        rw [hll]
        obtain ⟨g, d, q, h1, h2⟩ := all_taken hLO.lk hss h15 o
        exact decide_eq_true (h1.quiet (nbs_ok hLO.lk) h2)
      obtain ⟨_, rfl, hff⟩ := hoo.out
      have hcall := Lib.hid (play_ok A cap l A6 cap6 _ nn ss w6 hE6.out hc hN6H.out hff hz)
      have hlk := Lib.hid (fun w hE => linked_any A cap l (nn : Int) (ss : Int) (o ++ List.replicate 30 (0 : Int)).length w hE hc hl (by omega) true ⟨fun _ => hz, fun _ => rfl⟩)
      clear hoo hff hz hsm hLO hins hOnce
      have hbI : (o ++ List.replicate 30 (0 : Int)).length ≤ 1000 := by omega
      clear hll
      generalize o ++ List.replicate 30 (0 : Int) = p at *
      refine hcall.out.mono ?_
      rintro e w7 ⟨gc, T, rfl, hC7, hI7, hB7⟩
      rw [hdone.out]
      unfold echVal
      have hB8 := Lib.hid (hB6.out.trans (hB7.mono hsz6))
      have hsz8 := hB8.out.size
      generalize (esAt (nbs l nn) ss p p.length).sent = tt at *
      have hrow := Row.made w7 26 [.slice (some ⟨gc, 0, none⟩) p.length p.length, .slice (some ⟨T, 0, none⟩) nn nn, .bool true, .int .i64 (tt : Int)]
      have hlt8 := hrow.lt
      have hB9 := Lib.hid (hB8.out.alloc hsz8 (.cells #[.slice (some ⟨gc, 0, none⟩) p.length p.length, .slice (some ⟨T, 0, none⟩) nn nn, .bool true, .int .i64 (tt : Int)] 26))
      have hE9 := Lib.hid ((hE6.out.on hB7).alloc (.cells #[.slice (some ⟨gc, 0, none⟩) p.length p.length, .slice (some ⟨T, 0, none⟩) nn nn, .bool true, .int .i64 (tt : Int)] 26))
      have hlk9 := Lib.hid (hlk.out _ hE9.out)
      have hrowH := Lib.hid hrow
      clear hcall hlk hC7 hI7 hB7 hB8 hrow hE9 hE6
      go_wp2_with fail
      refine hlk9.out.mono ?_
      rintro e w10 ⟨rfl, hB10⟩
      have hr10 := hrowH.out.below hB10 hlt8
      have r0 := hr10.cell (i := 0) (by simp)
      have r2 := hr10.cell (i := 2) (by simp)
      simp only [List.getElem_cons_zero, List.getElem_cons_succ] at r0 r2
      have hB11 := Lib.hid (hB9.out.trans (hB10.mono hB9.out.size))
      have hpp : ((p.length : Int) == (p.length : Int)) = true := by simp
      clear hlk9 hrowH hB9 hB10 hr10
      go_wp2_with fail
      go_ret
      exact ⟨rfl, hB11.out⟩
    · have hnz : (ecode n l s (o ++ List.replicate 30 (0 : Int)).length != 0) = true := by simpa using hz
      have hcall := Lib.hid (play_no A cap l A6 cap6 (o ++ List.replicate 30 0) n s w6 hE6.out hc hl (by omega) hz)
      have hlk := Lib.hid (fun w hE => linked_any A cap l n s (o ++ List.replicate 30 (0 : Int)).length w hE hc hl (by omega) false ⟨(nomatch ·), fun h => absurd h hz⟩)
      clear hoo hz
      have hbI : (o ++ List.replicate 30 (0 : Int)).length ≤ 1000 := by omega
      clear hll
      generalize o ++ List.replicate 30 (0 : Int) = p at *
      refine hcall.out.mono ?_
      rintro e w7 ⟨rfl, hB7⟩
      have hB8 := Lib.hid (hB6.out.trans (hB7.mono hsz6))
      have hsz8 := hB8.out.size
      have hrow := Row.made w7 26 [.slice none 0 0, .slice none 0 0, .bool false, .int .i64 0]
      have hB9 := Lib.hid (hB8.out.alloc hsz8 (.cells #[.slice none 0 0, .slice none 0 0, .bool false, .int .i64 0] 26))
      have hE9 := Lib.hid ((hE6.out.on hB7).alloc (.cells #[.slice none 0 0, .slice none 0 0, .bool false, .int .i64 0] 26))
      have hlk9 := Lib.hid (hlk.out _ hE9.out)
      clear hcall hlk hB7 hB8 hrow hE9 hE6
      generalize ecode n l s p.length = C at *
      go_wp2_with fail
      refine hlk9.out.mono ?_
      rintro e w10 ⟨rfl, hB10⟩
      have hB11 := Lib.hid (hB9.out.trans (hB10.mono hB9.out.size))
      clear hlk9 hB9 hB10
      go_wp2_with fail
      go_ret
      exact ⟨rfl, hB11.out⟩
#print axioms echoAll_law
end Go.Proofs.Ytjmkmfeibempjaa
