/-
  Rearranged executions: plain. An order of the events gives an execution with the same happens-before relation just if it puts nothing ahead of what happens before it.
-/
import Derived.Test.YtpofmhlmaejmoaaPerms
import Derived.Test.YtpofmhlmaejmoaaValid
namespace Go.Proofs.Ytpofmhlmaejmoaa

theorem pairs_of {α : Type} {R S : α → α → Prop} {l : List α} (h : l.Pairwise R) (hi : ∀ a b, R a b → S a b) : l.Pairwise S := by
  rw [List.pairwise_iff_getElem] at h ⊢
  exact fun i j h1 h2 h3 => hi _ _ (h i j h1 h2 h3)

theorem permGo_iff (o : List Int) : ∀ seen : List Bool, permGo seen o = true ↔ (∀ x ∈ o, (0 ≤ x ∧ x < seen.length) ∧ seen.getD x.toNat true = false) ∧ o.Nodup := by
  induction o with
  | nil => intro seen; simp [permGo]
  | cons x r ih =>
    intro seen
    unfold permGo
    by_cases h : (0 ≤ x ∧ x < seen.length) ∧ seen.getD x.toNat true = false
    · rw [if_pos h, ih]
      constructor
      · rintro ⟨h1, h2⟩
        refine ⟨fun y hy => ?_, ?_⟩
        · rcases List.mem_cons.1 hy with rfl | hy
          · exact h
          · obtain ⟨h3, h4⟩ := h1 y hy
            rw [List.length_set] at h3
            refine ⟨h3, ?_⟩
            by_cases e : x.toNat = y.toNat
            · rw [← e]; exact h.2
            · rw [List.getD_eq_getElem?_getD, List.getElem?_set_ne e, ← List.getD_eq_getElem?_getD] at h4; exact h4
        · rw [List.nodup_cons]
          refine ⟨fun hx => ?_, h2⟩
          obtain ⟨h3, h4⟩ := h1 x hx
          rw [List.length_set] at h3
          rw [List.getD_eq_getElem?_getD, List.getElem?_set_self (by omega)] at h4
          simp at h4
      · rintro ⟨h1, h2⟩
        rw [List.nodup_cons] at h2
        refine ⟨fun y hy => ?_, h2.2⟩
        obtain ⟨h3, h4⟩ := h1 y (List.mem_cons_of_mem _ hy)
        rw [List.length_set]
        refine ⟨h3, ?_⟩
        have hne : x.toNat ≠ y.toNat := by
          intro e
          have : x = y := by omega
          subst this
          exact h2.1 hy
        rw [List.getD_eq_getElem?_getD, List.getElem?_set_ne hne, ← List.getD_eq_getElem?_getD]; exact h4
    · rw [if_neg h]
      constructor
      · intro h'; cases h'
      · rintro ⟨h1, _⟩
        exact absurd (h1 x List.mem_cons_self) h

theorem permB_iff (o : List Int) (c : Nat) : permB o c = true ↔ o.length = c ∧ (∀ x ∈ o, 0 ≤ x ∧ x < c) ∧ o.Nodup := by
  unfold permB
  by_cases h : o.length = c
  · rw [if_pos h, permGo_iff]
    constructor
    · rintro ⟨h1, h2⟩
      exact ⟨h, fun x hx => by have := (h1 x hx).1; rw [List.length_replicate] at this; exact this, h2⟩
    · rintro ⟨_, h1, h2⟩
      refine ⟨fun x hx => ?_, h2⟩
      have := h1 x hx
      rw [List.length_replicate]
      refine ⟨this, ?_⟩
      rw [List.getD_eq_getElem?_getD, List.getElem?_replicate, if_pos (by omega)]
      rfl
  · rw [if_neg h]
    constructor
    · intro h'; cases h'
    · rintro ⟨h1, _⟩; exact absurd h1 h

/-- The numbers 0 to below c, each once, in some order. -/
structure Perm (o : List Nat) (c : Nat) : Prop where
  len : o.length = c
  lt : ∀ x ∈ o, x < c
  once : o.Nodup

theorem perm_of {o : List Int} {c : Nat} (h : permB o c = true) : ∃ o' : List Nat, o = o'.map Int.ofNat ∧ Perm o' c := by
  rw [permB_iff] at h
  obtain ⟨h1, h2, h3⟩ := h
  have he : o = (o.map Int.toNat).map Int.ofNat := by
    rw [List.map_map]
    have : ∀ x ∈ o, (Int.ofNat ∘ Int.toNat) x = id x := fun x hx => by
      have := h2 x hx
      show ((x.toNat : Nat) : Int) = x
      omega
    rw [List.map_congr_left this, List.map_id]
  refine ⟨o.map Int.toNat, he, ⟨by simpa using h1, fun x hx => ?_, ?_⟩⟩
  · rw [List.mem_map] at hx
    obtain ⟨y, hy, rfl⟩ := hx
    have := h2 y hy
    omega
  · rw [he, List.Nodup, List.pairwise_map] at h3
    exact pairs_of h3 (fun a b hab e => hab (by rw [e]))

theorem of_perm {o : List Nat} {c : Nat} (h : Perm o c) : permB (o.map Int.ofNat) c = true := by
  rw [permB_iff]
  refine ⟨by rw [List.length_map]; exact h.len, fun x hx => ?_, ?_⟩
  · rw [List.mem_map] at hx
    obtain ⟨y, hy, rfl⟩ := hx
    have := h.lt y hy
    simp; omega
  · have := h.once
    rw [List.Nodup, List.pairwise_map]
    exact pairs_of this (fun a b hab e => hab (Int.ofNat.inj e))

theorem nodup_sub {α : Type} [BEq α] [LawfulBEq α] : ∀ (a b : List α), a.Nodup → (∀ x ∈ a, x ∈ b) → a.length ≤ b.length := by
  intro a
  induction a with
  | nil => intro b _ _; simp
  | cons x r ih =>
    intro b hn hs
    rw [List.nodup_cons] at hn
    have hx := hs x List.mem_cons_self
    have := ih (b.erase x) hn.2 (fun y hy => (List.mem_erase_of_ne (fun e => by subst e; exact hn.1 hy)).2 (hs y (List.mem_cons_of_mem _ hy)))
    rw [List.length_erase_of_mem hx] at this
    have := List.length_pos_of_mem hx
    simp
    omega

theorem Perm.all {o : List Nat} {c : Nat} (h : Perm o c) {i : Nat} (hi : i < c) : i ∈ o := by
  refine Classical.byContradiction fun hn => ?_
  have h1 := nodup_sub o ((List.range c).erase i) h.once (fun x hx => (List.mem_erase_of_ne (fun e => by subst e; exact hn hx)).2 (List.mem_range.2 (h.lt x hx)))
  rw [List.length_erase_of_mem (List.mem_range.2 hi), List.length_range, h.len] at h1
  omega

theorem Perm.at_ {o : List Nat} {c : Nat} (h : Perm o c) {i : Nat} (hi : i < c) : ∃ k, k < c ∧ o.getD k 0 = i := by
  obtain ⟨k, hk, e⟩ := List.getElem_of_mem (h.all hi)
  exact ⟨k, by rw [← h.len]; exact hk, by simp [hk, e]⟩
theorem Perm.get_lt {o : List Nat} {c : Nat} (h : Perm o c) {k : Nat} (hk : k < c) : o.getD k 0 < c := by
  have hk' : k < o.length := by rw [h.len]; exact hk
  have : o.getD k 0 = o[k] := by simp [hk']
  rw [this]; exact h.lt _ (List.getElem_mem hk')
theorem Perm.inj {o : List Nat} {c : Nat} (h : Perm o c) {i j : Nat} (hi : i < c) (hj : j < c) (e : o.getD i 0 = o.getD j 0) : i = j := by
  have hi' : i < o.length := by rw [h.len]; exact hi
  have hj' : j < o.length := by rw [h.len]; exact hj
  have e1 : o.getD i 0 = o[i] := by simp [hi']
  have e2 : o.getD j 0 = o[j] := by simp [hj']
  rw [e1, e2] at e
  have hpw := List.pairwise_iff_getElem.1 h.once
  rcases Nat.lt_trichotomy i j with h' | h' | h'
  · exact absurd e (hpw i j hi' hj' h')
  · exact h'
  · exact absurd e.symm (hpw j i hj' hi' h')

theorem mv_len (l : List Ev) (o : List Nat) : (mv l o).length = o.length := by simp [mv]
theorem ev_mv (l : List Ev) (o : List Nat) {k : Nat} (hk : k < o.length) : ev (mv l o) k = ev l (o.getD k 0) := by
  rw [ev_get _ (by rw [mv_len]; exact hk)]
  simp [mv, hk]

/-- Nothing is put ahead of what happens before it. -/
def Ext (l : List Ev) (o : List Nat) : Prop := ∀ a b, a < b → b < o.length → ¬ HB l (o.getD b 0) (o.getD a 0)

section
variable {n : Int} {l : List Ev} {o : List Nat}

theorem link_lt (g : Good n l) {x y : Nat} (hx : x < l.length) (hy : y < l.length) (hm : (ev l x).k = 2 ∧ (ev l y).k = 3 ∧ (ev l x).m = (ev l y).m) : x < y := by
  obtain ⟨i, hi, h1, h2⟩ := g.sent y hy hm.2.1
  have : i = x := by
    rcases Nat.lt_trichotomy i x with h | h | h
    · exact absurd (h2.trans hm.2.2.symm) (g.sole i x h hx h1 hm.1)
    · exact h
    · exact absurd (hm.2.2.trans h2.symm) (g.sole x i h (by omega) hm.1 h1)
  omega

theorem dir_mv (g : Good n l) (hp : Perm o l.length) (he : Ext l o) {m k : Nat} (hm : m < o.length) (hk : k < o.length) : Dir (mv l o) m k ↔ Dir l (o.getD m 0) (o.getD k 0) := by
  have hml : o.getD m 0 < l.length := hp.get_lt (by rw [← hp.len]; exact hm)
  have hkl : o.getD k 0 < l.length := hp.get_lt (by rw [← hp.len]; exact hk)
  have hmc : m < l.length := by rw [← hp.len]; exact hm
  have hkc : k < l.length := by rw [← hp.len]; exact hk
  constructor
  · rintro ⟨h1, _, h3⟩
    rw [ev_mv l o hm, ev_mv l o hk] at h3
    refine ⟨?_, hkl, h3⟩
    rcases h3 with h3 | h3
    · rcases Nat.lt_trichotomy (o.getD m 0) (o.getD k 0) with h | h | h
      · exact h
      · exact absurd (hp.inj hmc hkc h) (by omega)
      · exact absurd (HB.of ⟨h, hml, .inl h3.symm⟩) (he m k h1 hk)
    · exact link_lt g hml hkl h3
  · intro h
    have hb := HB.of h
    refine ⟨?_, by rw [mv_len]; exact hk, by rw [ev_mv l o hm, ev_mv l o hk]; exact h.2.2⟩
    rcases Nat.lt_trichotomy m k with h' | h' | h'
    · exact h'
    · subst h'; exact absurd h.1 (by omega)
    · exact absurd hb (he k m h' hm)

theorem hb_mv (g : Good n l) (hp : Perm o l.length) (he : Ext l o) {m k : Nat} (hm : m < o.length) (hk : k < o.length) : HB (mv l o) m k ↔ HB l (o.getD m 0) (o.getD k 0) := by
  constructor
  · intro h
    induction h with
    | single h => exact .single ((dir_mv g hp he hm hk).1 h)
    | @tail b c h1 h2 ih =>
      have hb : b < o.length := by have := h2.1; omega
      exact .tail (ih hb) ((dir_mv g hp he hb hk).1 h2)
  · have key : ∀ x y, HB l x y → ∀ m k, m < o.length → k < o.length → o.getD m 0 = x → o.getD k 0 = y → HB (mv l o) m k := by
      intro x y h
      induction h with
      | single h => intro m k hm hk e1 e2; subst e1 e2; exact .single ((dir_mv g hp he hm hk).2 h)
      | @tail b c h1 h2 ih =>
        intro m k hm hk e1 e2
        subst e1 e2
        obtain ⟨q, hq, e3⟩ := hp.at_ (i := b) (by have := h2.1; have := h2.2.1; omega)
        have hqo : q < o.length := by rw [hp.len]; exact hq
        refine .tail (ih m q hm hqo rfl e3) ((dir_mv g hp he hqo hk).2 (by rw [e3]; exact h2))
    intro h
    exact key _ _ h m k hm hk rfl rfl

theorem good_mv (g : Good n l) (hp : Perm o l.length) (he : Ext l o) : Good n (mv l o) := by
  have hlt : ∀ {k}, k < o.length → o.getD k 0 < l.length := fun {k} hk => hp.get_lt (by rw [← hp.len]; exact hk)
  have hc : ∀ {k}, k < o.length → k < l.length := fun {k} hk => by rw [← hp.len]; exact hk
  refine ⟨fun j hj => ?_, fun j hj => ?_, fun j hj => ?_, fun j hj hk i hi => ?_, fun j hj hk => ?_, fun j hj hk i hi => ?_⟩ <;> rw [mv_len] at hj
  · rw [ev_mv l o hj]; exact g.proc _ (hlt hj)
  · rw [ev_mv l o hj]; exact g.kind _ (hlt hj)
  · rw [ev_mv l o hj]; exact g.msg _ (hlt hj)
  · have hio : i < o.length := by omega
    rw [ev_mv l o hj] at hk ⊢
    rw [ev_mv l o hio]
    rintro ⟨h1, h2⟩
    rcases Nat.lt_trichotomy (o.getD i 0) (o.getD j 0) with h | h | h
    · exact g.send _ (hlt hj) hk _ h ⟨h1, h2⟩
    · exact absurd (hp.inj (hc hio) (hc hj) h) (by omega)
    · exact g.send _ (hlt hio) h1 _ h ⟨hk, h2.symm⟩
  · rw [ev_mv l o hj] at hk ⊢
    obtain ⟨x, hx, h1, h2⟩ := g.sent _ (hlt hj) hk
    have hxl : x < l.length := by have := hlt hj; omega
    obtain ⟨i, hi, e⟩ := hp.at_ hxl
    have hio : i < o.length := by rw [hp.len]; exact hi
    refine ⟨i, ?_, by rw [ev_mv l o hio, e]; exact h1, by rw [ev_mv l o hio, e]; exact h2⟩
    rcases Nat.lt_trichotomy i j with h | h | h
    · exact h
    · subst h; omega
    · exact absurd (HB.of ⟨by rw [e]; exact hx, hlt hj, .inr ⟨by rw [e]; exact h1, hk, by rw [e]; exact h2⟩⟩) (he j i h hio)
  · have hio : i < o.length := by omega
    rw [ev_mv l o hj] at hk ⊢
    rw [ev_mv l o hio]
    rintro ⟨h1, h2⟩
    rcases Nat.lt_trichotomy (o.getD i 0) (o.getD j 0) with h | h | h
    · exact g.take _ (hlt hj) hk _ h ⟨h1, h2⟩
    · exact absurd (hp.inj (hc hio) (hc hj) h) (by omega)
    · exact g.take _ (hlt hio) h1 _ h ⟨hk, h2.symm⟩

/-- The main fact. -/
theorem again_iff (h0 : checkCode n l = 0) (hp : Perm o l.length) :
    (checkCode n (mv l o) = 0 ∧ ∀ k m, k < o.length → m < o.length → bitAt l (o.getD m 0) (o.getD k 0) = bitAt (mv l o) m k) ↔ Ext l o := by
  have hgl := check_good.1 h0
  have hlt : ∀ {k}, k < o.length → o.getD k 0 < l.length := fun {k} hk => hp.get_lt (by rw [← hp.len]; exact hk)
  constructor
  · rintro ⟨h1, h2⟩ a b hab hb hh
    have ha : a < o.length := by omega
    have e := h2 a b ha hb
    rw [(bit_hb h0 _ (hlt ha)).2 hh] at e
    have := ((bit_hb h1 b (by rw [mv_len]; exact ha)).1 e.symm).lt
    omega
  · intro he
    have hg := good_mv hgl.2 hp he
    have hm0 : checkCode n (mv l o) = 0 := check_good.2 ⟨⟨hgl.1.1, hgl.1.2.1, by rw [mv_len, hp.len]; exact hgl.1.2.2⟩, hg⟩
    refine ⟨hm0, fun k m hk hm => ?_⟩
    rw [Bool.eq_iff_iff, bit_hb h0 _ (hlt hk), bit_hb hm0 _ (by rw [mv_len]; exact hk), hb_mv hgl.2 hp he hm hk]
end

#print axioms again_iff
end Go.Proofs.Ytpofmhlmaejmoaa
