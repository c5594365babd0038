/-
  The walk of the law VectorJoin: joining is idempotent, commutative, associative, and no less than the first.
-/
import Derived.Test.YtngagfoikpjpmaaVJn
import Derived.Test.YtngagfoikpjpmaaVLs
import Derived.Test.YtngagfoikpjpmaaRVc
import Derived.Test.YtngagfoikpjpmaaInt
namespace Go.Proofs.Ytngagfoikpjpmaa
open Go.RowKit Go.Maps

set_option maxHeartbeats 4000000 in
set_option maxRecDepth 100000 in
theorem vjoin3_ok (w : World) (A1 A2 A3 : Option Addr) (c1 c2 c3 : Nat) (a b c : List Int) (h1 : Nums w w.heap.size A1 a) (h2 : Nums w w.heap.size A2 b) (h3 : Nums w w.heap.size A3 c) (hg : VGood a b) (hg' : VGood a c) :
    Calls Try.prog 8 #[.slice A1 a.length c1, .slice A2 b.length c2, .slice A3 c.length c3] w fun e w' => e = .returned (.bool true) ∧ Below w.heap.size w w' := by
  have z1 := Lib.hid ((vcode_ok a b).2 hg)
  have z2 := Lib.hid ((vcode_ok a c).2 hg')
  have g1 := Lib.hid hg
  have g2 := Lib.hid hg'
  have hl := hg.len
  have s2 := Lib.hid hg.same
  have s3 := Lib.hid hg'.same
  have l2 : b.length ≤ 17592186044416 := by have := s2.out; omega
  have l3 : c.length ≤ 17592186044416 := by have := s3.out; omega
  clear hg hg'
  go_enter Try.func8, Try.ntmps8
  go_wp2_with fail
  refine (vjoin_ok A1 A2 c1 c2 a b _ h1 h2 g1.out).mono ?_
  rintro e w1 ⟨gab, rfl, nab, hB1⟩
  have h1' := (h1.below hB1).more hB1.size
  have h2' := (h2.below hB1).more hB1.size
  have h3' := (h3.below hB1).more hB1.size
  clear h1 h2 h3
  go_wp2_with fail
  refine (rvcheck_any A1 A2 c1 c2 a b _ h1' h2' (by omega) l2).mono ?_
  rintro e w2 ⟨rfl, hB⟩
  rw [z1.out]
  have h1 := (h1'.below hB).more hB.size
  have h2 := (h2'.below hB).more hB.size
  have h3 := (h3'.below hB).more hB.size
  have nab' := (nab.below hB).more hB.size
  have hB2 := hB1.trans (hB.mono hB1.size)
  clear h1' h2' h3' nab hB hB1
  go_wp2_with fail
  refine (rvcheck_any A1 A3 c1 c3 a c _ h1 h3 (by omega) l3).mono ?_
  rintro e w3 ⟨rfl, hB⟩
  rw [z2.out]
  have h1' := (h1.below hB).more hB.size
  have h2' := (h2.below hB).more hB.size
  have h3' := (h3.below hB).more hB.size
  have nab := (nab'.below hB).more hB.size
  have hB3 := hB2.trans (hB.mono hB2.size)
  clear h1 h2 h3 nab' hB hB2
  go_wp2_with fail
  refine (vjoin_ok A2 A1 c2 c1 b a _ h2' h1' g1.out.swap).mono ?_
  rintro e w4 ⟨gba, rfl, nba, hB⟩
  have h1 := (h1'.below hB).more hB.size
  have h2 := (h2'.below hB).more hB.size
  have h3 := (h3'.below hB).more hB.size
  have nab' := (nab.below hB).more hB.size
  have hB4 := hB3.trans (hB.mono hB3.size)
  clear h1' h2' h3' nab hB hB3
  go_wp2_with fail
  refine (vjoin_ok A2 A3 c2 c3 b c _ h2 h3 (g1.out.via g2.out)).mono ?_
  rintro e w5 ⟨gbc, rfl, nbc, hB⟩
  have h1' := (h1.below hB).more hB.size
  have h3' := (h3.below hB).more hB.size
  have nab := (nab'.below hB).more hB.size
  have nba' := (nba.below hB).more hB.size
  have hB5 := hB4.trans (hB.mono hB4.size)
  clear h1 h2 h3 nab' nba hB hB4
  have gabc : Hid (VGood (vjoin a b) c) := (g1.out.join).via g2.out
  have gajc : Hid (VGood a (vjoin b c)) := ⟨g1.out.len, by rw [vjoin_len]; exact s2.out, g1.out.one, fun i hi => by
    have := g1.out.two i hi
    rw [vjoin_at b c (by have := s2.out; omega)]
    omega⟩
  have q1 := vjoin_ok (some ⟨gab, 0, none⟩) A3 a.length c3 (vjoin a b) c w5 nab h3' gabc.out
  rw [vjoin_len] at q1
  go_wp2_with fail
  refine q1.mono ?_
  clear q1
  rintro e w6 ⟨gx, rfl, nx, hB⟩
  rw [vjoin_len]
  have h1 := (h1'.below hB).more hB.size
  have nab' := (nab.below hB).more hB.size
  have nba := (nba'.below hB).more hB.size
  have nbc' := (nbc.below hB).more hB.size
  have hB6 := hB5.trans (hB.mono hB5.size)
  clear h1' h3' nab nba' nbc hB hB5
  have q1 := vjoin_ok A1 (some ⟨gbc, 0, none⟩) c1 b.length a (vjoin b c) w6 h1 nbc' gajc.out
  rw [vjoin_len] at q1
  go_wp2_with fail
  refine q1.mono ?_
  clear q1
  rintro e w7 ⟨gy, rfl, ny, hB⟩
  have h1' := (h1.below hB).more hB.size
  have nab := (nab'.below hB).more hB.size
  have nba' := (nba.below hB).more hB.size
  have nx' := (nx.below hB).more hB.size
  have hB7 := hB6.trans (hB.mono hB6.size)
  clear h1 nab' nba nbc' nx hB hB6
  go_wp2_with fail
  refine (vjoin_ok A1 A1 c1 c1 a a _ h1' h1' g1.out.self).mono ?_
  rintro e w8 ⟨gaa, rfl, naa, hB⟩
  have h1 := (h1'.below hB).more hB.size
  have nab' := (nab.below hB).more hB.size
  have nba := (nba'.below hB).more hB.size
  have nx := (nx'.below hB).more hB.size
  have ny' := (ny.below hB).more hB.size
  have hB8 := hB7.trans (hB.mono hB7.size)
  clear h1' nab nba' nx' ny hB hB7
  have q1 := vless_ok (some ⟨gab, 0, none⟩) A1 a.length c1 (vjoin a b) a w8 nab' h1 g1.out.join.swap false ⟨(nomatch ·), fun h => absurd h (not_less_join a b)⟩
  rw [vjoin_len] at q1
  go_wp2_with fail
  refine q1.mono ?_
  clear q1
  rintro e w9 ⟨rfl, hB⟩
  have h1' := (h1.below hB).more hB.size
  have nab := (nab'.below hB).more hB.size
  have nba' := (nba.below hB).more hB.size
  have nx' := (nx.below hB).more hB.size
  have ny := (ny'.below hB).more hB.size
  have naa' := (naa.below hB).more hB.size
  have hB9 := hB8.trans (hB.mono hB8.size)
  clear h1 nab' nba nx ny' naa hB hB8
  rw [← vjoin_comm s2.out] at nba'
  rw [vjoin_assoc s2.out] at nx'
  rw [vjoin_self] at naa'
  have q1 := ints_same (some ⟨gab, 0, none⟩) (some ⟨gba, 0, none⟩) a.length b.length (vjoin a b) w9 nab nba' (by rw [vjoin_len]; omega)
  rw [vjoin_len] at q1
  rw [s2.out] at q1 ⊢
  go_wp2_with fail
  refine q1.mono ?_
  clear q1
  rintro e w10 ⟨rfl, hB⟩
  have h1 := (h1'.below hB).more hB.size
  have nx := (nx'.below hB).more hB.size
  have ny' := (ny.below hB).more hB.size
  have naa := (naa'.below hB).more hB.size
  have hB10 := hB9.trans (hB.mono hB9.size)
  clear h1' nab nba' nx' ny naa' hB hB9
  have q1 := ints_same (some ⟨gx, 0, none⟩) (some ⟨gy, 0, none⟩) a.length a.length (vjoin a (vjoin b c)) w10 nx ny' (by rw [vjoin_len]; omega)
  rw [vjoin_len] at q1
  go_wp2_with fail
  refine q1.mono ?_
  clear q1
  rintro e w11 ⟨rfl, hB⟩
  have h1' := (h1.below hB).more hB.size
  have naa' := (naa.below hB).more hB.size
  have hB11 := hB10.trans (hB.mono hB10.size)
  clear h1 naa nx ny' hB hB10
  go_wp2_with fail
  refine (ints_same (some ⟨gaa, 0, none⟩) A1 a.length c1 a w11 naa' h1' (by omega)).mono ?_
  rintro e w12 ⟨rfl, hB⟩
  have hB12 := hB11.trans (hB.mono hB11.size)
  go_wp2_with fail
  go_ret
  exact ⟨rfl, hB12⟩

set_option maxHeartbeats 2000000 in
theorem vectorJoin_law (w : World) (A1 : Option Addr) (c1 : Nat) (a : List Int) (h1 : Nums w w.heap.size A1 a) (_hf1 : NumFits a) (_hc1 : a.length ≤ c1) (_hm1 : a.length ≤ maxLen) (hs1 : a.length ≤ 17592186044416) (A2 : Option Addr) (c2 : Nat) (b : List Int) (h2 : Nums w w.heap.size A2 b) (_hf2 : NumFits b) (_hc2 : b.length ≤ c2) (_hm2 : b.length ≤ maxLen) (hs2 : b.length ≤ 17592186044416) (A3 : Option Addr) (c3 : Nat) (c : List Int) (h3 : Nums w w.heap.size A3 c) (_hf3 : NumFits c) (_hc3 : c.length ≤ c3) (_hm3 : c.length ≤ maxLen) (hs3 : c.length ≤ 17592186044416) :
    Calls Try.prog 8 #[.slice A1 a.length c1, .slice A2 b.length c2, .slice A3 c.length c3] w fun e w' => e = .returned (.bool true) ∧ Below w.heap.size w w' := by
  by_cases h0 : vcode a b = 0
  · by_cases h0' : vcode a c = 0
    · exact vjoin3_ok w A1 A2 A3 c1 c2 c3 a b c h1 h2 h3 ((vcode_ok a b).1 h0) ((vcode_ok a c).1 h0')
    · have hr : (vcode a c != 0) = true := by simp [h0']
      have hg := Lib.hid ((vcode_ok a b).1 h0)
      have z1 := Lib.hid h0
      have z2 := Lib.hid h0'
      clear h0 h0'
      go_enter Try.func8, Try.ntmps8
      go_wp2_with fail
      refine (vjoin_ok A1 A2 c1 c2 a b _ h1 h2 hg.out).mono ?_
      rintro e w1 ⟨gab, rfl, nab, hB1⟩
      go_wp2_with fail
      refine (rvcheck_any A1 A2 c1 c2 a b _ ((h1.below hB1).more hB1.size) ((h2.below hB1).more hB1.size) hs1 hs2).mono ?_
      rintro e w2 ⟨rfl, hB⟩
      have hB2 := hB1.trans (hB.mono hB1.size)
      clear nab hB hB1
      rw [z1.out]
      go_wp2_with fail
      refine (rvcheck_any A1 A3 c1 c3 a c _ ((h1.below hB2).more hB2.size) ((h3.below hB2).more hB2.size) hs1 hs3).mono ?_
      rintro e w3 ⟨rfl, hB⟩
      have hB3 := hB2.trans (hB.mono hB2.size)
      go_wp2_with fail
      go_ret
      exact ⟨rfl, hB3⟩
  · have hr : (vcode a b != 0) = true := by simp [h0]
    have h0H := Lib.hid h0
    clear h0
    go_enter Try.func8, Try.ntmps8
    go_wp2_with fail
    refine (vjoin_no A1 A2 c1 c2 a b _ h1 h2 hs1 hs2 h0H.out).mono ?_
    rintro e w1 ⟨rfl, hB1⟩
    go_wp2_with fail
    refine (rvcheck_any A1 A2 c1 c2 a b _ ((h1.below hB1).more hB1.size) ((h2.below hB1).more hB1.size) hs1 hs2).mono ?_
    rintro e w2 ⟨rfl, hB2'⟩
    have hB2 := hB1.trans (hB2'.mono hB1.size)
    go_wp2_with fail
    go_ret
    exact ⟨rfl, hB2⟩

#print axioms vectorJoin_law
end Go.Proofs.Ytngagfoikpjpmaa
