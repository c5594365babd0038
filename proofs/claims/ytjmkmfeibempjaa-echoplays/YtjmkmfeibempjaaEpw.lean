/-
  The law EchoPlays, walked, over whatever contract of beaconryref.Echo.
-/
import Derived.Test.YtjmkmfeibempjaaEpl
import Derived.Test.YtjmkmfeibempjaaRlk
import Derived.Test.YtjmkmfeibempjaaEcl
namespace Go.Proofs.Ytjmkmfeibempjaa
open Go.RowKit Go.Maps
set_option linter.unusedVariables false

def EchoRef (w : World) (n s : Nat) (l : List Lk) (o : List Int) (e : Ending) (w' : World) : Prop :=
  ∃ A cap F, e = .returned (.agg #[.slice A o.length cap, .slice (some ⟨F, 0, none⟩) n n, .bool (decide ((esAt (nbs l n) s o o.length).took s = (nbs l n s).length)), .int .i64 ((esAt (nbs l n) s o o.length).sent : Int)]) ∧
    OwnC w' w.heap.size (.slice A o.length cap) ((List.range o.length).map (codeE (nbs l n) s o)) ∧ IntRow w' F n (esAt (nbs l n) s o o.length).par ∧ Below w.heap.size w w'

set_option maxRecDepth 20000 in
set_option maxHeartbeats 3200000 in
theorem echoPlays_walk (A : Option Addr) (cap : Nat) (l : List Lk) (A2 : Option Addr) (cap2 : Nat) (o : List Int) (n s : Int) (w : World) (hE : Lks w w.heap.size A l) (hc : l.length ≤ cap) (hl : l.length ≤ 17592186044416) (hE2 : Nums w w.heap.size A2 o) (hF2 : NumFits o) (ho : o.length ≤ 17592186044416)
    (href : ∀ (nn ss : Nat) (w : World), n = (nn : Int) → s = (ss : Int) → ecode n l s o.length = 0 → Lks w w.heap.size A l → Nums w w.heap.size A2 o → Calls Try.prog 10 #[.int .i64 n, .slice A l.length cap, .int .i64 s, .slice A2 o.length cap2] w (EchoRef w nn ss l o)) :
    Calls Try.prog 3 #[.int .i64 n, .slice A l.length cap, .int .i64 s, .slice A2 o.length cap2] w fun e w' => e = .returned (.bool true) ∧ Below w.heap.size w w' := by
  have hEH := Lib.hid hE
  have hE2H := Lib.hid hE2
  have hlc := Lib.hid (fun w hE => linkscheck_any A cap l n w hE hl)
  by_cases hz : ecode n l s o.length = 0
  · obtain ⟨hsm, h60, hLO, hins, hOnce⟩ := ecode_zero hz
    obtain ⟨nn, rfl⟩ : ∃ k : Nat, n = (k : Int) := ⟨n.toNat, by unfold LargeL at hsm; omega⟩
    obtain ⟨ss, rfl⟩ : ∃ k : Nat, s = (k : Int) := ⟨s.toNat, by have := (inP_iff _ _).1 hins; omega⟩
    have hcall := Lib.hid (play_ok A cap l A2 cap2 o nn ss w hE hc hE2 hF2 hz)
    have hrf := Lib.hid (fun w => href nn ss w rfl rfl hz)
    have hl0 : lcode (nn : Int) l = 0 := lcode_ok hsm hLO
    rw [hl0] at hlc
    have htw : Hid (∀ w, Lks w w.heap.size A l → Calls Try.prog 9 #[.slice A l.length cap] w fun e w' => e = .returned (.bool false) ∧ Below w.heap.size w w') := fun w hE => twice_any A cap l w hE hc hl false ⟨(nomatch ·), fun h => absurd hOnce h⟩
    have v1 : decide ((o.length : Int) > 60) = false := decide_eq_false (by omega)
    have v1' : decide (60 < (o.length : Int)) = false := decide_eq_false (by omega)
    have v2 : decide ((ss : Int) < 0) = false := decide_eq_false (by omega)
    have hss : ss < nn := by have := (inP_iff _ _).1 hins; omega
    have v3 : decide ((ss : Int) ≥ (nn : Int)) = false := decide_eq_false (by omega)
    have v3' : decide ((nn : Int) ≤ (ss : Int)) = false := decide_eq_false (by omega)
    have hn6 : nn ≤ 6 := by unfold LargeL at hsm; omega
    clear hz hsm hLO hins hOnce hl0 href hE hE2 hF2
    go_enter Try.func3, Try.ntmps3
    go_wp2_with fail
    refine hcall.out.mono ?_
    rintro e w7 ⟨gc, T, rfl, hC7, hI7, hB7⟩
    unfold echVal
    unfold EchoRef at hrf
    generalize (esAt (nbs l nn) ss o o.length).sent = tt at *
    generalize decide ((esAt (nbs l nn) ss o o.length).took ss = (nbs l nn ss).length) = dd at *
    generalize (esAt (nbs l nn) ss o o.length).par = par at *
    generalize codeE (nbs l nn) ss o = cf at *
    have hrow := Row.made w7 26 [.slice (some ⟨gc, 0, none⟩) o.length o.length, .slice (some ⟨T, 0, none⟩) nn nn, .bool dd, .int .i64 (tt : Int)]
    have hsz7 := hB7.size
    have hBa := (Below.refl w7.heap.size w7).alloc (Nat.le_refl _) (.cells #[.slice (some ⟨gc, 0, none⟩) o.length o.length, .slice (some ⟨T, 0, none⟩) nn nn, .bool dd, .int .i64 (tt : Int)] 26)
    have hB9 := Lib.hid (hB7.alloc hsz7 (.cells #[.slice (some ⟨gc, 0, none⟩) o.length o.length, .slice (some ⟨T, 0, none⟩) nn nn, .bool dd, .int .i64 (tt : Int)] 26))
    have hE9 := Lib.hid ((hEH.out.on hB7).alloc (.cells #[.slice (some ⟨gc, 0, none⟩) o.length o.length, .slice (some ⟨T, 0, none⟩) nn nn, .bool dd, .int .i64 (tt : Int)] 26))
    have hN9 : Hid (CodRow (w7.alloc (.cells #[.slice (some ⟨gc, 0, none⟩) o.length o.length, .slice (some ⟨T, 0, none⟩) nn nn, .bool dd, .int .i64 (tt : Int)] 26)) gc o.length cf) := Row.alloc hC7 _
    have hP9 : Hid (IntRow (w7.alloc (.cells #[.slice (some ⟨gc, 0, none⟩) o.length o.length, .slice (some ⟨T, 0, none⟩) nn nn, .bool dd, .int .i64 (tt : Int)] 26)) T nn par) := Row.alloc hI7 _
    have hQ9 := Lib.hid ((hE2H.out.below hB9.out).more hB9.out.size)
    have hlt8 := Lib.hid hrow.lt
    have hrowH := Lib.hid hrow
    have hlc9 := Lib.hid (hlc.out _ hE9.out)
    clear hcall hlc hC7 hI7 hB7 hrow hBa
    go_wp2_with fail
    refine hlc9.out.mono ?_
    rintro e w10 ⟨rfl, hB10⟩
    have hE10 := Lib.hid (hE9.out.on hB10)
    have hN10 := Lib.hid (show CodRow _ gc o.length cf from Row.below hN9.out hB10 (Row.lt hN9.out))
    have hP10 := Lib.hid (show IntRow _ T nn par from Row.below hP9.out hB10 (Row.lt hP9.out))
    have hQ10 := Lib.hid ((hQ9.out.below hB10).more hB10.size)
    have hr10 := Lib.hid (hrowH.out.below hB10 hlt8.out)
    have hB11 := Lib.hid (hB9.out.trans (hB10.mono hB9.out.size))
    have htw10 := Lib.hid (htw.out w10 hE10.out)
    clear hlc9 hE9 hN9 hP9 hQ9 hrowH hB9 hB10 htw hlt8
    generalize w7.heap.size = R at *
    go_wp2_with fail
    refine htw10.out.mono ?_
    rintro e w11 ⟨rfl, hB12⟩
    have hE11 := Lib.hid (hE10.out.on hB12)
    have hN11 := Lib.hid (show CodRow _ gc o.length cf from Row.below hN10.out hB12 (Row.lt hN10.out))
    have hP11 := Lib.hid (show IntRow _ T nn par from Row.below hP10.out hB12 (Row.lt hP10.out))
    have hQ11 := Lib.hid ((hQ10.out.below hB12).more hB12.size)
    have hr11 := Lib.hid (hr10.out.below hB12 hr10.out.lt)
    have hB13 := Lib.hid (hB11.out.trans (hB12.mono hB11.out.size))
    clear htw10 hE10 hN10 hP10 hQ10 hr10 hB11 hB12
    -- the document's answer
    have hBa := (Below.refl w11.heap.size w11).alloc (Nat.le_refl _) (.cells #[.slice none 0 0, .slice none 0 0, .bool false, .int .i64 0] 26)
    have hE12 := hE11.out.alloc (.cells #[.slice none 0 0, .slice none 0 0, .bool false, .int .i64 0] 26)
    have hQ12 := (hQ11.out.below hBa).more hBa.size
    have hrf12 := Lib.hid (hrf.out _ hE12 hQ12)
    have hN12 := Lib.hid (show CodRow _ gc o.length cf from Row.alloc hN11.out (.cells #[.slice none 0 0, .slice none 0 0, .bool false, .int .i64 0] 26))
    have hP12 := Lib.hid (show IntRow _ T nn par from Row.alloc hP11.out (.cells #[.slice none 0 0, .slice none 0 0, .bool false, .int .i64 0] 26))
    have hr12 := Lib.hid (hr11.out.alloc (.cells #[.slice none 0 0, .slice none 0 0, .bool false, .int .i64 0] 26))
    have hz12 := Lib.hid (Row.made w11 26 [.slice none 0 0, .slice none 0 0, .bool false, .int .i64 0])
    have hRZ : Hid (R < w11.heap.size) := hr11.out.lt
    have hB14 := Lib.hid (hB13.out.alloc hB13.out.size (.cells #[.slice none 0 0, .slice none 0 0, .bool false, .int .i64 0] 26))
    have hB13s := Lib.hid hB13.out.size
    clear hBa hE12 hQ12 hE11 hN11 hP11 hQ11 hr11 hB13 hrf
    go_wp2_with fail
    refine hrf12.out.mono ?_
    rintro e w13 ⟨A5, cap5, F5, rfl, hN5, hI5, hB15⟩
    have hz13 := hz12.out.below hB15 hz12.out.lt
    have hr13 := hr12.out.below hB15 hr12.out.lt
    have hN13 : CodRow w13 gc o.length cf := Row.below hN12.out hB15 (Row.lt hN12.out)
    have hP13 : IntRow w13 T nn par := Row.below hP12.out hB15 (Row.lt hP12.out)
    have hB16 := hB14.out.trans (hB15.mono hB14.out.size)
    have z0 := hz13.cell (i := 0) (by simp)
    have z1 := hz13.cell (i := 1) (by simp)
    have z2 := hz13.cell (i := 2) (by simp)
    have z3 := hz13.cell (i := 3) (by simp)
    have f0 := hz13.frozen 0
    have f1 := hz13.frozen 1
    have f2 := hz13.frozen 2
    have f3 := hz13.frozen 3
    simp only [List.getElem_cons_zero, List.getElem_cons_succ] at z0 z1 z2 z3
    have hZ9 := hz13
    have hRne : R ≠ w11.heap.size := by have := hRZ.out; omega
    have hblk : Hid (∀ g, g ≠ w11.heap.size → ((((w13.setCell ⟨w11.heap.size, 0, none⟩ (.slice A5 o.length cap5)).setCell ⟨w11.heap.size, 1, none⟩ (.slice (some ⟨F5, 0, none⟩) nn nn)).setCell ⟨w11.heap.size, 2, none⟩ (.bool dd)).setCell ⟨w11.heap.size, 3, none⟩ (.int .i64 (tt : Int))).heap[g]? = w13.heap[g]?) := fun g hg => by
      rw [Below.heap_setCell _ _ _ g hg, Below.heap_setCell _ _ _ g hg, Below.heap_setCell _ _ _ g hg, Below.heap_setCell _ _ _ g hg]
    have hzz := Lib.hid ((((hz13.set 0 (.slice A5 o.length cap5)).set 1 (.slice (some ⟨F5, 0, none⟩) nn nn)).set 2 (.bool dd)).set 3 (.int .i64 (tt : Int)))
    have hsz11 := hB13s.out
    have hB17 : Hid (Below w.heap.size w ((((w13.setCell ⟨w11.heap.size, 0, none⟩ (.slice A5 o.length cap5)).setCell ⟨w11.heap.size, 1, none⟩ (.slice (some ⟨F5, 0, none⟩) nn nn)).setCell ⟨w11.heap.size, 2, none⟩ (.bool dd)).setCell ⟨w11.heap.size, 3, none⟩ (.int .i64 (tt : Int)))) :=
      (((hB16.setCell (p := ⟨w11.heap.size, 0, none⟩) hsz11 _).setCell (p := ⟨w11.heap.size, 1, none⟩) hsz11 _).setCell (p := ⟨w11.heap.size, 2, none⟩) hsz11 _).setCell (p := ⟨w11.heap.size, 3, none⟩) hsz11 _
    have hneZ1 := row_ne hN13 hz13 (by decide)
    have hneZ2 := row_ne hP13 hz13 (by decide)
    have hneZ3 := row_ne hI5 hz13 (by decide)
    have hneZ4 := Lib.hid (fun g (e : (Value.slice A5 o.length cap5).ownBlock = some g) => (fun e' : g = w11.heap.size => owns_ne_row hN5 hz13 (by decide) (e.trans (congrArg some e'))))
    have hr14 : Row ((((w13.setCell ⟨w11.heap.size, 0, none⟩ (.slice A5 o.length cap5)).setCell ⟨w11.heap.size, 1, none⟩ (.slice (some ⟨F5, 0, none⟩) nn nn)).setCell ⟨w11.heap.size, 2, none⟩ (.bool dd)).setCell ⟨w11.heap.size, 3, none⟩ (.int .i64 (tt : Int))) R 26 [.slice (some ⟨gc, 0, none⟩) o.length o.length, .slice (some ⟨T, 0, none⟩) nn nn, .bool dd, .int .i64 (tt : Int)] := hr13.block (hblk.out R hRne)
    have r0 := hr14.cell (i := 0) (by simp)
    have r1 := hr14.cell (i := 1) (by simp)
    have r2 := hr14.cell (i := 2) (by simp)
    have r3 := hr14.cell (i := 3) (by simp)
    have y0 := hzz.out.cell (i := 0) (by simp)
    have y1 := hzz.out.cell (i := 1) (by simp)
    have y2 := hzz.out.cell (i := 2) (by simp)
    have y3 := hzz.out.cell (i := 3) (by simp)
    simp at r0 r1 r2 r3 y0 y1 y2 y3
    have hr14H := Lib.hid hr14
    have hN14 := Lib.hid (show CodRow ((((w13.setCell ⟨w11.heap.size, 0, none⟩ (.slice A5 o.length cap5)).setCell ⟨w11.heap.size, 1, none⟩ (.slice (some ⟨F5, 0, none⟩) nn nn)).setCell ⟨w11.heap.size, 2, none⟩ (.bool dd)).setCell ⟨w11.heap.size, 3, none⟩ (.int .i64 (tt : Int))) gc o.length cf from Row.block hN13 (hblk.out gc hneZ1))
    have hP14 := Lib.hid (show IntRow ((((w13.setCell ⟨w11.heap.size, 0, none⟩ (.slice A5 o.length cap5)).setCell ⟨w11.heap.size, 1, none⟩ (.slice (some ⟨F5, 0, none⟩) nn nn)).setCell ⟨w11.heap.size, 2, none⟩ (.bool dd)).setCell ⟨w11.heap.size, 3, none⟩ (.int .i64 (tt : Int))) T nn par from Row.block hP13 (hblk.out T hneZ2))
    have hI14 := Lib.hid (show IntRow ((((w13.setCell ⟨w11.heap.size, 0, none⟩ (.slice A5 o.length cap5)).setCell ⟨w11.heap.size, 1, none⟩ (.slice (some ⟨F5, 0, none⟩) nn nn)).setCell ⟨w11.heap.size, 2, none⟩ (.bool dd)).setCell ⟨w11.heap.size, 3, none⟩ (.int .i64 (tt : Int))) F5 nn par from Row.block hI5 (hblk.out F5 hneZ3))
    have hC14 := Lib.hid (show OwnC ((((w13.setCell ⟨w11.heap.size, 0, none⟩ (.slice A5 o.length cap5)).setCell ⟨w11.heap.size, 1, none⟩ (.slice (some ⟨F5, 0, none⟩) nn nn)).setCell ⟨w11.heap.size, 2, none⟩ (.bool dd)).setCell ⟨w11.heap.size, 3, none⟩ (.int .i64 (tt : Int))) _ (.slice A5 o.length cap5) ((List.range o.length).map cf) from owns_blk hN5 fun g e => hblk.out g (hneZ4.out g e))
    have hdd : (dd == dd) = true := by simp
    have htt : ((tt : Int) == (tt : Int)) = true := by simp
    clear hN5 hI5 hB15 hz13 hr13 hN13 hP13 hB16 hZ9 hr14 hblk hneZ1 hneZ2 hneZ3 hneZ4 hrf12 hN12 hP12 hr12 hz12 hB14
    go_wp2_with fail
    clear z0 z1 z2 z3 f0 f1 f2 f3 r0 r1 r2 r3 y0 y1 y2 y3
    generalize ((((w13.setCell ⟨w11.heap.size, 0, none⟩ (.slice A5 o.length cap5)).setCell ⟨w11.heap.size, 1, none⟩ (.slice (some ⟨F5, 0, none⟩) nn nn)).setCell ⟨w11.heap.size, 2, none⟩ (.bool dd)).setCell ⟨w11.heap.size, 3, none⟩ (.int .i64 (tt : Int))) = w14 at *
    generalize w11.heap.size = Z at *
    have hcc : Hid (∀ w', Below w14.heap.size w14 w' → Calls Try.prog 11 #[.slice (some ⟨gc, 0, none⟩) o.length o.length, .slice A5 o.length cap5] w' fun e w'' => e = .returned (.bool true) ∧ Below w'.heap.size w' w'') := fun w' hb => by
      obtain ⟨A6, cap6, hv6, -, -, hN6⟩ := hC14.out.shape
      have hl6 : ((List.range o.length).map cf).length = o.length := by simp
      rw [hl6] at hv6
      injection hv6 with e1 e2 e3
      subst e1 e3
      have := codes_same (some ⟨gc, 0, none⟩) A5 o.length cap5 ((List.range o.length).map cf) w' ((hN14.out.nums.below hb).more hb.size) ((hN6.below hb).more hb.size) (by simp; omega)
      rw [hl6] at this
      exact this
    have hii : Hid (∀ w', Below w14.heap.size w14 w' → Calls Try.prog 12 #[.slice (some ⟨T, 0, none⟩) nn nn, .slice (some ⟨F5, 0, none⟩) nn nn] w' fun e w'' => e = .returned (.bool true) ∧ Below w'.heap.size w' w'') := fun w' hb => by
      have hl6 : ((List.range nn).map par).length = nn := by simp
      have := ints_same (some ⟨T, 0, none⟩) (some ⟨F5, 0, none⟩) nn nn ((List.range nn).map par) w' ((hP14.out.nums.below hb).more hb.size) ((hI14.out.nums.below hb).more hb.size) (by simp; omega)
      rw [hl6] at this
      exact this
    have hb60 : o.length ≤ 60 := by omega
    refine (hcc.out w14 (Below.refl _ _)).mono ?_
    rintro e w15 ⟨rfl, hB18⟩
    have hr15 := hr14H.out.below hB18 hr14H.out.lt
    have hz15 := hzz.out.below hB18 hzz.out.lt
    have r1 := hr15.cell (i := 1) (by simp)
    have r2 := hr15.cell (i := 2) (by simp)
    have r3 := hr15.cell (i := 3) (by simp)
    have y1 := hz15.cell (i := 1) (by simp)
    have y2 := hz15.cell (i := 2) (by simp)
    have y3 := hz15.cell (i := 3) (by simp)
    simp at r1 r2 r3 y1 y2 y3
    have hi15 := Lib.hid (hii.out w15 hB18)
    have hr15H := Lib.hid hr15
    have hz15H := Lib.hid hz15
    have hB19 := Lib.hid (hB17.out.trans (hB18.mono hB17.out.size))
    clear hcc hii hB18 hr14H hzz hN14 hP14 hI14 hC14 hB17 hr15 hz15
    go_wp2_with fail
    refine hi15.out.mono ?_
    rintro e w16 ⟨rfl, hB20⟩
    have hr16 := hr15H.out.below hB20 hr15H.out.lt
    have hz16 := hz15H.out.below hB20 hz15H.out.lt
    clear r1 r2 r3 y1 y2 y3
    have r2 := hr16.cell (i := 2) (by simp)
    have r3 := hr16.cell (i := 3) (by simp)
    have y2 := hz16.cell (i := 2) (by simp)
    have y3 := hz16.cell (i := 3) (by simp)
    simp at r2 r3 y2 y3
    have hB21 := Lib.hid (hB19.out.trans (hB20.mono hB19.out.size))
    clear hi15 hB20 hr15H hz15H hB19 hr16 hz16
    go_wp2_with fail
    go_ret
    exact ⟨rfl, hB21.out⟩
  · have hcall := Lib.hid (play_no A cap l A2 cap2 o n s w hE hc hl ho hz)
    clear hE2 hF2 hE
    by_cases hL : LargeL n l
    · rw [lcode_large hL] at hlc
      rw [ecode_large (.inl hL)] at hcall
      clear hz hL href
      go_enter Try.func3, Try.ntmps3
      go_wp2_with fail
      refine hcall.out.mono ?_
      rintro e w7 ⟨rfl, hB7⟩
      have hrow := Lib.hid (Row.made w7 26 [.slice none 0 0, .slice none 0 0, .bool false, .int .i64 0])
      have hB9 := Lib.hid (hB7.alloc hB7.size (.cells #[.slice none 0 0, .slice none 0 0, .bool false, .int .i64 0] 26))
      have hE9 := Lib.hid ((hEH.out.on hB7).alloc (.cells #[.slice none 0 0, .slice none 0 0, .bool false, .int .i64 0] 26))
      have hlc9 := Lib.hid (hlc.out _ hE9.out)
      clear hcall hB7 hlc
      go_wp2_with fail
      refine hlc9.out.mono ?_
      rintro e w10 ⟨rfl, hB10⟩
      have hr10 := Lib.hid (hrow.out.below hB10 hrow.out.lt)
      have hB11 := Lib.hid (hB9.out.trans (hB10.mono hB9.out.size))
      have hE10 := Lib.hid (hE9.out.on hB10)
      clear hrow hB9 hB10 hE9 hlc9

      have hzW := Row.made w10 26 [.slice none 0 0, .slice none 0 0, .bool false, .int .i64 0]
      have hrW := (hr10.out).alloc (.cells #[.slice none 0 0, .slice none 0 0, .bool false, .int .i64 0] 26)
      have hBW := Lib.hid ((hB11.out).alloc (hB11.out).size (.cells #[.slice none 0 0, .slice none 0 0, .bool false, .int .i64 0] 26))
      have r0 := hrW.cell (i := 0) (by simp)
      have z0 := hzW.cell (i := 0) (by simp)
      simp only [List.getElem_cons_zero] at r0 z0
      have hzH := Lib.hid hzW
      have hrH := Lib.hid hrW
      clear hzW hrW
      go_wp2_with fail
      refine (codes_same none none 0 0 [] _ (fun h => absurd h (by simp)) (fun h => absurd h (by simp)) (by simp)).mono ?_
      rintro e w20 ⟨rfl, hB20⟩
      have hz20 := Lib.hid (hzH.out.below hB20 hzH.out.lt)
      have hr20 := Lib.hid (hrH.out.below hB20 hrH.out.lt)
      have hB21 := Lib.hid (hBW.out.trans (hB20.mono hBW.out.size))
      clear r0 z0 hB20 hzH hrH hBW
      have r1 := hr20.out.cell (i := 1) (by simp)
      have z1 := hz20.out.cell (i := 1) (by simp)
      simp only [List.getElem_cons_zero, List.getElem_cons_succ] at r1 z1
      go_wp2_with fail
      refine (ints_same none none 0 0 [] _ (fun h => absurd h (by simp)) (fun h => absurd h (by simp)) (by simp)).mono ?_
      rintro e w22 ⟨rfl, hB22⟩
      have hz22 := hz20.out.below hB22 hz20.out.lt
      have hr22 := hr20.out.below hB22 hr20.out.lt
      have hB23 := Lib.hid (hB21.out.trans (hB22.mono hB21.out.size))
      clear r1 z1 hB22 hz20 hr20 hB21
      have r2 := hr22.cell (i := 2) (by simp)
      have z2 := hz22.cell (i := 2) (by simp)
      have r3 := hr22.cell (i := 3) (by simp)
      have z3 := hz22.cell (i := 3) (by simp)
      simp only [List.getElem_cons_zero, List.getElem_cons_succ] at r2 z2 r3 z3
      clear hz22 hr22
      go_wp2_with fail
      go_ret
      exact ⟨rfl, hB23.out⟩
    · by_cases h60 : 60 < o.length
      · rw [ecode_large (.inr h60)] at hcall
        have v1 : decide ((o.length : Int) > 60) = true := decide_eq_true (by omega)
        have v1' : decide (60 < (o.length : Int)) = true := decide_eq_true (by omega)
        by_cases hLO : LOk n l
        · rw [lcode_ok hL hLO] at hlc
          clear hz hL href hLO h60
          go_enter Try.func3, Try.ntmps3
          go_wp2_with fail
          refine hcall.out.mono ?_
          rintro e w7 ⟨rfl, hB7⟩
          have hrow := Lib.hid (Row.made w7 26 [.slice none 0 0, .slice none 0 0, .bool false, .int .i64 0])
          have hB9 := Lib.hid (hB7.alloc hB7.size (.cells #[.slice none 0 0, .slice none 0 0, .bool false, .int .i64 0] 26))
          have hE9 := Lib.hid ((hEH.out.on hB7).alloc (.cells #[.slice none 0 0, .slice none 0 0, .bool false, .int .i64 0] 26))
          have hlc9 := Lib.hid (hlc.out _ hE9.out)
          clear hcall hB7 hlc
          go_wp2_with fail
          refine hlc9.out.mono ?_
          rintro e w10 ⟨rfl, hB10⟩
          have hr10 := Lib.hid (hrow.out.below hB10 hrow.out.lt)
          have hB11 := Lib.hid (hB9.out.trans (hB10.mono hB9.out.size))
          have hE10 := Lib.hid (hE9.out.on hB10)
          clear hrow hB9 hB10 hE9 hlc9

          have hzW := Row.made w10 26 [.slice none 0 0, .slice none 0 0, .bool false, .int .i64 0]
          have hrW := (hr10.out).alloc (.cells #[.slice none 0 0, .slice none 0 0, .bool false, .int .i64 0] 26)
          have hBW := Lib.hid ((hB11.out).alloc (hB11.out).size (.cells #[.slice none 0 0, .slice none 0 0, .bool false, .int .i64 0] 26))
          have r0 := hrW.cell (i := 0) (by simp)
          have z0 := hzW.cell (i := 0) (by simp)
          simp only [List.getElem_cons_zero] at r0 z0
          have hzH := Lib.hid hzW
          have hrH := Lib.hid hrW
          clear hzW hrW
          go_wp2_with fail
          refine (codes_same none none 0 0 [] _ (fun h => absurd h (by simp)) (fun h => absurd h (by simp)) (by simp)).mono ?_
          rintro e w20 ⟨rfl, hB20⟩
          have hz20 := Lib.hid (hzH.out.below hB20 hzH.out.lt)
          have hr20 := Lib.hid (hrH.out.below hB20 hrH.out.lt)
          have hB21 := Lib.hid (hBW.out.trans (hB20.mono hBW.out.size))
          clear r0 z0 hB20 hzH hrH hBW
          have r1 := hr20.out.cell (i := 1) (by simp)
          have z1 := hz20.out.cell (i := 1) (by simp)
          simp only [List.getElem_cons_zero, List.getElem_cons_succ] at r1 z1
          go_wp2_with fail
          refine (ints_same none none 0 0 [] _ (fun h => absurd h (by simp)) (fun h => absurd h (by simp)) (by simp)).mono ?_
          rintro e w22 ⟨rfl, hB22⟩
          have hz22 := hz20.out.below hB22 hz20.out.lt
          have hr22 := hr20.out.below hB22 hr20.out.lt
          have hB23 := Lib.hid (hB21.out.trans (hB22.mono hB21.out.size))
          clear r1 z1 hB22 hz20 hr20 hB21
          have r2 := hr22.cell (i := 2) (by simp)
          have z2 := hz22.cell (i := 2) (by simp)
          have r3 := hr22.cell (i := 3) (by simp)
          have z3 := hz22.cell (i := 3) (by simp)
          simp only [List.getElem_cons_zero, List.getElem_cons_succ] at r2 z2 r3 z3
          clear hz22 hr22
          go_wp2_with fail
          go_ret
          exact ⟨rfl, hB23.out⟩
        · rw [lcode_bad hL hLO] at hlc
          clear hz hL href hLO h60
          go_enter Try.func3, Try.ntmps3
          go_wp2_with fail
          refine hcall.out.mono ?_
          rintro e w7 ⟨rfl, hB7⟩
          have hrow := Lib.hid (Row.made w7 26 [.slice none 0 0, .slice none 0 0, .bool false, .int .i64 0])
          have hB9 := Lib.hid (hB7.alloc hB7.size (.cells #[.slice none 0 0, .slice none 0 0, .bool false, .int .i64 0] 26))
          have hE9 := Lib.hid ((hEH.out.on hB7).alloc (.cells #[.slice none 0 0, .slice none 0 0, .bool false, .int .i64 0] 26))
          have hlc9 := Lib.hid (hlc.out _ hE9.out)
          clear hcall hB7 hlc
          go_wp2_with fail
          refine hlc9.out.mono ?_
          rintro e w10 ⟨rfl, hB10⟩
          have hr10 := Lib.hid (hrow.out.below hB10 hrow.out.lt)
          have hB11 := Lib.hid (hB9.out.trans (hB10.mono hB9.out.size))
          have hE10 := Lib.hid (hE9.out.on hB10)
          clear hrow hB9 hB10 hE9 hlc9

          have hzW := Row.made w10 26 [.slice none 0 0, .slice none 0 0, .bool false, .int .i64 0]
          have hrW := (hr10.out).alloc (.cells #[.slice none 0 0, .slice none 0 0, .bool false, .int .i64 0] 26)
          have hBW := Lib.hid ((hB11.out).alloc (hB11.out).size (.cells #[.slice none 0 0, .slice none 0 0, .bool false, .int .i64 0] 26))
          have r0 := hrW.cell (i := 0) (by simp)
          have z0 := hzW.cell (i := 0) (by simp)
          simp only [List.getElem_cons_zero] at r0 z0
          have hzH := Lib.hid hzW
          have hrH := Lib.hid hrW
          clear hzW hrW
          go_wp2_with fail
          refine (codes_same none none 0 0 [] _ (fun h => absurd h (by simp)) (fun h => absurd h (by simp)) (by simp)).mono ?_
          rintro e w20 ⟨rfl, hB20⟩
          have hz20 := Lib.hid (hzH.out.below hB20 hzH.out.lt)
          have hr20 := Lib.hid (hrH.out.below hB20 hrH.out.lt)
          have hB21 := Lib.hid (hBW.out.trans (hB20.mono hBW.out.size))
          clear r0 z0 hB20 hzH hrH hBW
          have r1 := hr20.out.cell (i := 1) (by simp)
          have z1 := hz20.out.cell (i := 1) (by simp)
          simp only [List.getElem_cons_zero, List.getElem_cons_succ] at r1 z1
          go_wp2_with fail
          refine (ints_same none none 0 0 [] _ (fun h => absurd h (by simp)) (fun h => absurd h (by simp)) (by simp)).mono ?_
          rintro e w22 ⟨rfl, hB22⟩
          have hz22 := hz20.out.below hB22 hz20.out.lt
          have hr22 := hr20.out.below hB22 hr20.out.lt
          have hB23 := Lib.hid (hB21.out.trans (hB22.mono hB21.out.size))
          clear r1 z1 hB22 hz20 hr20 hB21
          have r2 := hr22.cell (i := 2) (by simp)
          have z2 := hz22.cell (i := 2) (by simp)
          have r3 := hr22.cell (i := 3) (by simp)
          have z3 := hz22.cell (i := 3) (by simp)
          simp only [List.getElem_cons_zero, List.getElem_cons_succ] at r2 z2 r3 z3
          clear hz22 hr22
          go_wp2_with fail
          go_ret
          exact ⟨rfl, hB23.out⟩
      · have v1 : decide ((o.length : Int) > 60) = false := decide_eq_false (by omega)
        have v1' : decide (60 < (o.length : Int)) = false := decide_eq_false (by omega)
        have hbig : ¬ (LargeL n l ∨ 60 < o.length) := fun h => by rcases h with h | h; exact hL h; exact h60 h
        by_cases hLO : LOk n l
        · rw [lcode_ok hL hLO] at hlc
          cases hP : inP n s with
          | false =>
            rw [ecode_start hbig hLO hP] at hcall
            by_cases hs0 : s < 0
            · have v2 : decide (s < 0) = true := decide_eq_true hs0
              clear hz hL href hLO h60 hbig hP hs0
              go_enter Try.func3, Try.ntmps3
              go_wp2_with fail
              refine hcall.out.mono ?_
              rintro e w7 ⟨rfl, hB7⟩
              have hrow := Lib.hid (Row.made w7 26 [.slice none 0 0, .slice none 0 0, .bool false, .int .i64 0])
              have hB9 := Lib.hid (hB7.alloc hB7.size (.cells #[.slice none 0 0, .slice none 0 0, .bool false, .int .i64 0] 26))
              have hE9 := Lib.hid ((hEH.out.on hB7).alloc (.cells #[.slice none 0 0, .slice none 0 0, .bool false, .int .i64 0] 26))
              have hlc9 := Lib.hid (hlc.out _ hE9.out)
              clear hcall hB7 hlc
              go_wp2_with fail
              refine hlc9.out.mono ?_
              rintro e w10 ⟨rfl, hB10⟩
              have hr10 := Lib.hid (hrow.out.below hB10 hrow.out.lt)
              have hB11 := Lib.hid (hB9.out.trans (hB10.mono hB9.out.size))
              have hE10 := Lib.hid (hE9.out.on hB10)
              clear hrow hB9 hB10 hE9 hlc9

              have hzW := Row.made w10 26 [.slice none 0 0, .slice none 0 0, .bool false, .int .i64 0]
              have hrW := (hr10.out).alloc (.cells #[.slice none 0 0, .slice none 0 0, .bool false, .int .i64 0] 26)
              have hBW := Lib.hid ((hB11.out).alloc (hB11.out).size (.cells #[.slice none 0 0, .slice none 0 0, .bool false, .int .i64 0] 26))
              have r0 := hrW.cell (i := 0) (by simp)
              have z0 := hzW.cell (i := 0) (by simp)
              simp only [List.getElem_cons_zero] at r0 z0
              have hzH := Lib.hid hzW
              have hrH := Lib.hid hrW
              clear hzW hrW
              go_wp2_with fail
              refine (codes_same none none 0 0 [] _ (fun h => absurd h (by simp)) (fun h => absurd h (by simp)) (by simp)).mono ?_
              rintro e w20 ⟨rfl, hB20⟩
              have hz20 := Lib.hid (hzH.out.below hB20 hzH.out.lt)
              have hr20 := Lib.hid (hrH.out.below hB20 hrH.out.lt)
              have hB21 := Lib.hid (hBW.out.trans (hB20.mono hBW.out.size))
              clear r0 z0 hB20 hzH hrH hBW
              have r1 := hr20.out.cell (i := 1) (by simp)
              have z1 := hz20.out.cell (i := 1) (by simp)
              simp only [List.getElem_cons_zero, List.getElem_cons_succ] at r1 z1
              go_wp2_with fail
              refine (ints_same none none 0 0 [] _ (fun h => absurd h (by simp)) (fun h => absurd h (by simp)) (by simp)).mono ?_
              rintro e w22 ⟨rfl, hB22⟩
              have hz22 := hz20.out.below hB22 hz20.out.lt
              have hr22 := hr20.out.below hB22 hr20.out.lt
              have hB23 := Lib.hid (hB21.out.trans (hB22.mono hB21.out.size))
              clear r1 z1 hB22 hz20 hr20 hB21
              have r2 := hr22.cell (i := 2) (by simp)
              have z2 := hz22.cell (i := 2) (by simp)
              have r3 := hr22.cell (i := 3) (by simp)
              have z3 := hz22.cell (i := 3) (by simp)
              simp only [List.getElem_cons_zero, List.getElem_cons_succ] at r2 z2 r3 z3
              clear hz22 hr22
              go_wp2_with fail
              go_ret
              exact ⟨rfl, hB23.out⟩
            · have v2 : decide (s < 0) = false := decide_eq_false hs0
              have hge : n ≤ s := by
                have h1 : ¬ inP n s = true := by rw [hP]; simp
                rw [inP_iff] at h1
                omega
              have v3 : decide (s ≥ n) = true := decide_eq_true hge
              have v3' : decide (n ≤ s) = true := decide_eq_true hge
              clear hz hL href hLO h60 hbig hP hs0 hge
              go_enter Try.func3, Try.ntmps3
              go_wp2_with fail
              refine hcall.out.mono ?_
              rintro e w7 ⟨rfl, hB7⟩
              have hrow := Lib.hid (Row.made w7 26 [.slice none 0 0, .slice none 0 0, .bool false, .int .i64 0])
              have hB9 := Lib.hid (hB7.alloc hB7.size (.cells #[.slice none 0 0, .slice none 0 0, .bool false, .int .i64 0] 26))
              have hE9 := Lib.hid ((hEH.out.on hB7).alloc (.cells #[.slice none 0 0, .slice none 0 0, .bool false, .int .i64 0] 26))
              have hlc9 := Lib.hid (hlc.out _ hE9.out)
              clear hcall hB7 hlc
              go_wp2_with fail
              refine hlc9.out.mono ?_
              rintro e w10 ⟨rfl, hB10⟩
              have hr10 := Lib.hid (hrow.out.below hB10 hrow.out.lt)
              have hB11 := Lib.hid (hB9.out.trans (hB10.mono hB9.out.size))
              have hE10 := Lib.hid (hE9.out.on hB10)
              clear hrow hB9 hB10 hE9 hlc9

              have hzW := Row.made w10 26 [.slice none 0 0, .slice none 0 0, .bool false, .int .i64 0]
              have hrW := (hr10.out).alloc (.cells #[.slice none 0 0, .slice none 0 0, .bool false, .int .i64 0] 26)
              have hBW := Lib.hid ((hB11.out).alloc (hB11.out).size (.cells #[.slice none 0 0, .slice none 0 0, .bool false, .int .i64 0] 26))
              have r0 := hrW.cell (i := 0) (by simp)
              have z0 := hzW.cell (i := 0) (by simp)
              simp only [List.getElem_cons_zero] at r0 z0
              have hzH := Lib.hid hzW
              have hrH := Lib.hid hrW
              clear hzW hrW
              go_wp2_with fail
              refine (codes_same none none 0 0 [] _ (fun h => absurd h (by simp)) (fun h => absurd h (by simp)) (by simp)).mono ?_
              rintro e w20 ⟨rfl, hB20⟩
              have hz20 := Lib.hid (hzH.out.below hB20 hzH.out.lt)
              have hr20 := Lib.hid (hrH.out.below hB20 hrH.out.lt)
              have hB21 := Lib.hid (hBW.out.trans (hB20.mono hBW.out.size))
              clear r0 z0 hB20 hzH hrH hBW
              have r1 := hr20.out.cell (i := 1) (by simp)
              have z1 := hz20.out.cell (i := 1) (by simp)
              simp only [List.getElem_cons_zero, List.getElem_cons_succ] at r1 z1
              go_wp2_with fail
              refine (ints_same none none 0 0 [] _ (fun h => absurd h (by simp)) (fun h => absurd h (by simp)) (by simp)).mono ?_
              rintro e w22 ⟨rfl, hB22⟩
              have hz22 := hz20.out.below hB22 hz20.out.lt
              have hr22 := hr20.out.below hB22 hr20.out.lt
              have hB23 := Lib.hid (hB21.out.trans (hB22.mono hB21.out.size))
              clear r1 z1 hB22 hz20 hr20 hB21
              have r2 := hr22.cell (i := 2) (by simp)
              have z2 := hz22.cell (i := 2) (by simp)
              have r3 := hr22.cell (i := 3) (by simp)
              have z3 := hz22.cell (i := 3) (by simp)
              simp only [List.getElem_cons_zero, List.getElem_cons_succ] at r2 z2 r3 z3
              clear hz22 hr22
              go_wp2_with fail
              go_ret
              exact ⟨rfl, hB23.out⟩
          | true =>
            have hpp := (inP_iff _ _).1 hP
            have v2 : decide (s < 0) = false := decide_eq_false (by omega)
            have v3 : decide (s ≥ n) = false := decide_eq_false (by omega)
            have v3' : decide (n ≤ s) = false := decide_eq_false (by omega)
            have hO : ¬ Once l := fun h => hz (ecode_ok hbig hLO hP h)
            rw [ecode_twice hbig hLO hP hO] at hcall
            have htw : Hid (∀ w, Lks w w.heap.size A l → Calls Try.prog 9 #[.slice A l.length cap] w fun e w' => e = .returned (.bool true) ∧ Below w.heap.size w w') := fun w hE => twice_any A cap l w hE hc hl true ⟨fun _ => hO, fun _ => rfl⟩
            clear hz hL href hLO h60 hbig hP hO hpp
            go_enter Try.func3, Try.ntmps3
            go_wp2_with fail
            refine hcall.out.mono ?_
            rintro e w7 ⟨rfl, hB7⟩
            have hrow := Lib.hid (Row.made w7 26 [.slice none 0 0, .slice none 0 0, .bool false, .int .i64 0])
            have hB9 := Lib.hid (hB7.alloc hB7.size (.cells #[.slice none 0 0, .slice none 0 0, .bool false, .int .i64 0] 26))
            have hE9 := Lib.hid ((hEH.out.on hB7).alloc (.cells #[.slice none 0 0, .slice none 0 0, .bool false, .int .i64 0] 26))
            have hlc9 := Lib.hid (hlc.out _ hE9.out)
            clear hcall hB7 hlc
            go_wp2_with fail
            refine hlc9.out.mono ?_
            rintro e w10 ⟨rfl, hB10⟩
            have hr10 := Lib.hid (hrow.out.below hB10 hrow.out.lt)
            have hB11 := Lib.hid (hB9.out.trans (hB10.mono hB9.out.size))
            have hE10 := Lib.hid (hE9.out.on hB10)
            clear hrow hB9 hB10 hE9 hlc9

            go_wp2_with fail
            refine (htw.out w10 hE10.out).mono ?_
            rintro e w12 ⟨rfl, hB12⟩
            have hr12 := Lib.hid (hr10.out.below hB12 hr10.out.lt)
            have hB13 := Lib.hid (hB11.out.trans (hB12.mono hB11.out.size))
            clear hr10 hB11 hE10 hB12 htw

            have hzW := Row.made w12 26 [.slice none 0 0, .slice none 0 0, .bool false, .int .i64 0]
            have hrW := (hr12.out).alloc (.cells #[.slice none 0 0, .slice none 0 0, .bool false, .int .i64 0] 26)
            have hBW := Lib.hid ((hB13.out).alloc (hB13.out).size (.cells #[.slice none 0 0, .slice none 0 0, .bool false, .int .i64 0] 26))
            have r0 := hrW.cell (i := 0) (by simp)
            have z0 := hzW.cell (i := 0) (by simp)
            simp only [List.getElem_cons_zero] at r0 z0
            have hzH := Lib.hid hzW
            have hrH := Lib.hid hrW
            clear hzW hrW
            go_wp2_with fail
            refine (codes_same none none 0 0 [] _ (fun h => absurd h (by simp)) (fun h => absurd h (by simp)) (by simp)).mono ?_
            rintro e w20 ⟨rfl, hB20⟩
            have hz20 := Lib.hid (hzH.out.below hB20 hzH.out.lt)
            have hr20 := Lib.hid (hrH.out.below hB20 hrH.out.lt)
            have hB21 := Lib.hid (hBW.out.trans (hB20.mono hBW.out.size))
            clear r0 z0 hB20 hzH hrH hBW
            have r1 := hr20.out.cell (i := 1) (by simp)
            have z1 := hz20.out.cell (i := 1) (by simp)
            simp only [List.getElem_cons_zero, List.getElem_cons_succ] at r1 z1
            go_wp2_with fail
            refine (ints_same none none 0 0 [] _ (fun h => absurd h (by simp)) (fun h => absurd h (by simp)) (by simp)).mono ?_
            rintro e w22 ⟨rfl, hB22⟩
            have hz22 := hz20.out.below hB22 hz20.out.lt
            have hr22 := hr20.out.below hB22 hr20.out.lt
            have hB23 := Lib.hid (hB21.out.trans (hB22.mono hB21.out.size))
            clear r1 z1 hB22 hz20 hr20 hB21
            have r2 := hr22.cell (i := 2) (by simp)
            have z2 := hz22.cell (i := 2) (by simp)
            have r3 := hr22.cell (i := 3) (by simp)
            have z3 := hz22.cell (i := 3) (by simp)
            simp only [List.getElem_cons_zero, List.getElem_cons_succ] at r2 z2 r3 z3
            clear hz22 hr22
            go_wp2_with fail
            go_ret
            exact ⟨rfl, hB23.out⟩
        · rw [lcode_bad hL hLO] at hlc
          rw [ecode_bad hbig hLO] at hcall
          clear hz hL href hLO h60 hbig
          go_enter Try.func3, Try.ntmps3
          go_wp2_with fail
          refine hcall.out.mono ?_
          rintro e w7 ⟨rfl, hB7⟩
          have hrow := Lib.hid (Row.made w7 26 [.slice none 0 0, .slice none 0 0, .bool false, .int .i64 0])
          have hB9 := Lib.hid (hB7.alloc hB7.size (.cells #[.slice none 0 0, .slice none 0 0, .bool false, .int .i64 0] 26))
          have hE9 := Lib.hid ((hEH.out.on hB7).alloc (.cells #[.slice none 0 0, .slice none 0 0, .bool false, .int .i64 0] 26))
          have hlc9 := Lib.hid (hlc.out _ hE9.out)
          clear hcall hB7 hlc
          go_wp2_with fail
          refine hlc9.out.mono ?_
          rintro e w10 ⟨rfl, hB10⟩
          have hr10 := Lib.hid (hrow.out.below hB10 hrow.out.lt)
          have hB11 := Lib.hid (hB9.out.trans (hB10.mono hB9.out.size))
          have hE10 := Lib.hid (hE9.out.on hB10)
          clear hrow hB9 hB10 hE9 hlc9

          have hzW := Row.made w10 26 [.slice none 0 0, .slice none 0 0, .bool false, .int .i64 0]
          have hrW := (hr10.out).alloc (.cells #[.slice none 0 0, .slice none 0 0, .bool false, .int .i64 0] 26)
          have hBW := Lib.hid ((hB11.out).alloc (hB11.out).size (.cells #[.slice none 0 0, .slice none 0 0, .bool false, .int .i64 0] 26))
          have r0 := hrW.cell (i := 0) (by simp)
          have z0 := hzW.cell (i := 0) (by simp)
          simp only [List.getElem_cons_zero] at r0 z0
          have hzH := Lib.hid hzW
          have hrH := Lib.hid hrW
          clear hzW hrW
          go_wp2_with fail
          refine (codes_same none none 0 0 [] _ (fun h => absurd h (by simp)) (fun h => absurd h (by simp)) (by simp)).mono ?_
          rintro e w20 ⟨rfl, hB20⟩
          have hz20 := Lib.hid (hzH.out.below hB20 hzH.out.lt)
          have hr20 := Lib.hid (hrH.out.below hB20 hrH.out.lt)
          have hB21 := Lib.hid (hBW.out.trans (hB20.mono hBW.out.size))
          clear r0 z0 hB20 hzH hrH hBW
          have r1 := hr20.out.cell (i := 1) (by simp)
          have z1 := hz20.out.cell (i := 1) (by simp)
          simp only [List.getElem_cons_zero, List.getElem_cons_succ] at r1 z1
          go_wp2_with fail
          refine (ints_same none none 0 0 [] _ (fun h => absurd h (by simp)) (fun h => absurd h (by simp)) (by simp)).mono ?_
          rintro e w22 ⟨rfl, hB22⟩
          have hz22 := hz20.out.below hB22 hz20.out.lt
          have hr22 := hr20.out.below hB22 hr20.out.lt
          have hB23 := Lib.hid (hB21.out.trans (hB22.mono hB21.out.size))
          clear r1 z1 hB22 hz20 hr20 hB21
          have r2 := hr22.cell (i := 2) (by simp)
          have z2 := hz22.cell (i := 2) (by simp)
          have r3 := hr22.cell (i := 3) (by simp)
          have z3 := hz22.cell (i := 3) (by simp)
          simp only [List.getElem_cons_zero, List.getElem_cons_succ] at r2 z2 r3 z3
          clear hz22 hr22
          go_wp2_with fail
          go_ret
          exact ⟨rfl, hB23.out⟩
#print axioms echoPlays_walk
end Go.Proofs.Ytjmkmfeibempjaa
