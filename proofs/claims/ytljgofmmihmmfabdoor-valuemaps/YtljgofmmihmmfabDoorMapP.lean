import Derived.Test.YtljgofmmihmmfabDoorOrsP
import Derived.Test.YtljgofmmihmmfabDoorRwtP
/- ValueMaps: what With, Get and Without are to one another. -/
set_option linter.unusedSimpArgs false
set_option linter.unusedVariables false
namespace Go.Proofs.YtljgofmmihmmfabDoor
open Go.RowKit Go.Lib

theorem ent_set (D n y d lv : Nat) (g : Bool) (z : Nat) : (entF D n y d lv g z).1 = 0 ∨ (entF D n y d lv g z).1 = 20 ∨ (entF D n y d lv g z).1 = 21 ∨ (entF D n y d lv g z).1 = 22 ∨ (entF D n y d lv g z).1 = 23 := by
  unfold entF
  split
  · simp
  split
  · simp
  split
  · simp
  split <;> simp
theorem ent_ne (D n y d lv : Nat) (z : Nat) : ¬ (entF D n y d lv true z).1 = 20 := by
  unfold entF
  split
  · simp
  split
  · simp
  split
  · rename_i h; cases h
  split <;> simp
def InE (n : Nat) : Prop := n = 0 ∨ n = 20 ∨ n = 21 ∨ n = 22 ∨ n = 23
mutual
theorem chkV_set (D : Nat) : ∀ (v : V) (lv : Nat) (st : St), InE (chkV D v lv st).1
  | .mk k b i s l m, lv, st => by
    rw [chkV]
    simp only
    split
    · split
      · exact chkM_set D m (lv + 1) _
      · exact chkL_set D l (lv + 1) _
    · exact ent_set ..
theorem chkL_set (D : Nat) : ∀ (l : List V) (lv : Nat) (st : St), InE (chkL D l lv st).1
  | [], lv, st => by rw [chkL]; exact .inl rfl
  | x :: t, lv, st => by
    rw [chkL]
    split
    · exact chkL_set D t lv _
    · exact chkV_set D x lv st
theorem chkM_set (D : Nat) : ∀ (l : List Mem) (lv : Nat) (st : St), InE (chkM D l lv st).1
  | [], lv, st => by rw [chkM]; exact .inl rfl
  | (_, x) :: t, lv, st => by
    rw [chkM]
    split
    · exact chkM_set D t lv _
    · exact chkV_set D x lv st
end
mutual
theorem chkV_ne (D : Nat) : ∀ (v : V) (lv : Nat) (st : St), allG v → ¬ (chkV D v lv st).1 = 20
  | .mk k b i s l m, lv, st, h => by
    rw [allG] at h
    rw [chkV]
    simp only
    split
    · split
      · exact chkM_ne D m (lv + 1) _ h.2.2
      · exact chkL_ne D l (lv + 1) _ h.2.1
    · rw [h.1]; exact ent_ne _ _ _ _ _ _
theorem chkL_ne (D : Nat) : ∀ (l : List V) (lv : Nat) (st : St), allGL l → ¬ (chkL D l lv st).1 = 20
  | [], lv, st, h => by rw [chkL]; simp
  | x :: t, lv, st, h => by
    rw [allGL] at h
    rw [chkL]
    split
    · exact chkL_ne D t lv _ h.2
    · exact chkV_ne D x lv st h.1
theorem chkM_ne (D : Nat) : ∀ (l : List Mem) (lv : Nat) (st : St), allGM l → ¬ (chkM D l lv st).1 = 20
  | [], lv, st, h => by rw [chkM]; simp
  | (k, x) :: t, lv, st, h => by
    rw [allGM] at h
    rw [chkM]
    split
    · exact chkM_ne D t lv _ h.2
    · exact chkV_ne D x lv st h.1
end
mutual
theorem chkV_ge (D : Nat) : ∀ (v : V) (lv : Nat) (st : St), (chkV D v lv st).1 = 0 → st.1 ≤ (chkV D v lv st).2.1 ∧ st.2.1 ≤ (chkV D v lv st).2.2.1
  | .mk k b i s l m, lv, st, h => by
    rw [chkV] at h ⊢
    simp only at h ⊢
    by_cases h1 : (entF D st.1 st.2.1 st.2.2 lv (goodB k b i s l.length m) (s.size + keyB m)).1 = 0
    · have e1 := (ent_zero h1).1
      rw [if_pos h1] at h ⊢
      by_cases h2 : (chkL D l (lv + 1) (entF D st.1 st.2.1 st.2.2 lv (goodB k b i s l.length m) (s.size + keyB m)).2).1 = 0
      · rw [if_pos h2] at h ⊢
        have a1 := chkM_ge D m (lv + 1) _ h
        have a2 := chkL_ge D l (lv + 1) _ h2
        have a3 : st.1 ≤ (entF D st.1 st.2.1 st.2.2 lv (goodB k b i s l.length m) (s.size + keyB m)).2.1 := by rw [e1]; show st.1 ≤ st.1 + 1; omega
        have a4 : st.2.1 ≤ (entF D st.1 st.2.1 st.2.2 lv (goodB k b i s l.length m) (s.size + keyB m)).2.2.1 := by rw [e1]; show st.2.1 ≤ st.2.1 + _; omega
        omega
      · rw [if_neg h2] at h; exact absurd h h2
    · rw [if_neg h1] at h; exact absurd h h1
theorem chkL_ge (D : Nat) : ∀ (l : List V) (lv : Nat) (st : St), (chkL D l lv st).1 = 0 → st.1 ≤ (chkL D l lv st).2.1 ∧ st.2.1 ≤ (chkL D l lv st).2.2.1
  | [], lv, st, h => by rw [chkL]; exact ⟨Nat.le_refl _, Nat.le_refl _⟩
  | x :: t, lv, st, h => by
    rw [chkL] at h ⊢
    by_cases h1 : (chkV D x lv st).1 = 0
    · rw [if_pos h1] at h ⊢
      have a1 := chkL_ge D t lv _ h
      have a2 := chkV_ge D x lv st h1
      omega
    · rw [if_neg h1] at h; exact absurd h h1
theorem chkM_ge (D : Nat) : ∀ (l : List Mem) (lv : Nat) (st : St), (chkM D l lv st).1 = 0 → st.1 ≤ (chkM D l lv st).2.1 ∧ st.2.1 ≤ (chkM D l lv st).2.2.1
  | [], lv, st, h => by rw [chkM]; exact ⟨Nat.le_refl _, Nat.le_refl _⟩
  | (k, x) :: t, lv, st, h => by
    rw [chkM] at h ⊢
    by_cases h1 : (chkV D x lv st).1 = 0
    · rw [if_pos h1] at h ⊢
      have a1 := chkM_ge D t lv _ h
      have a2 := chkV_ge D x lv st h1
      omega
    · rw [if_neg h1] at h; exact absurd h h1
end
theorem chkM_sub {D lv : Nat} {l' l : List Mem} (hs : l'.Sublist l) : ∀ (st st' : St), (chkM D l lv st).1 = 0 → st'.1 ≤ st.1 → st'.2.1 ≤ st.2.1 → (chkM D l' lv st').1 = 0 := by
  induction hs with
  | slnil => intro st st' h _ _; rw [chkM]
  | cons x hs ih =>
    intro st st' h h1 h2
    obtain ⟨k, y⟩ := x
    rw [chkM] at h
    by_cases hx : (chkV D y lv st).1 = 0
    · rw [if_pos hx] at h
      have := chkV_ge D y lv st hx
      exact ih _ st' h (by omega) (by omega)
    · rw [if_neg hx] at h; exact absurd h hx
  | cons_cons x hs ih =>
    intro st st' h h1 h2
    obtain ⟨k, y⟩ := x
    rw [chkM] at h ⊢
    by_cases hx : (chkV D y lv st).1 = 0
    · rw [if_pos hx] at h
      have q := chkV_mono D y lv lv st st' hx (Nat.le_refl _) h1 h2
      rw [if_pos q.1]
      exact ih _ _ h q.2.1 q.2.2
    · rw [if_neg hx] at h; exact absurd h hx
theorem keyB_sub {l' l : List Mem} (hs : l'.Sublist l) : keyB l' ≤ keyB l := by
  induction hs with
  | slnil => exact Nat.le_refl _
  | cons x hs ih => simp only [keyB]; omega
  | cons_cons x hs ih => simp only [keyB]; omega
theorem rise_of {l : List Mem} (h : Srt l) (hu : ∀ y ∈ l, utfB y.1 = true) : riseB l = true := riseB_true fun j hj => by
  rw [okAt, keyAt_eq hj, hu _ (List.getElem_mem hj)]
  by_cases h0 : j = 0
  · simp [h0]
  · rw [keyAt_eq (show j - 1 < l.length by omega)]
    have := (List.pairwise_iff_getElem.1 h) (j - 1) j (by omega) hj (by omega)
    simp [this]
theorem good_map {m : List Mem} (h : riseB m = true) : goodB 5 false 0 ⟨#[]⟩ 0 m = true := by
  have e : plainB 5 false 0 ⟨#[]⟩ 0 m.length = true := by simp [plainB]
  have u : utfB ⟨#[]⟩ = true := by rw [utfB]; exact validD_nil
  rw [goodB, e, u, h]; rfl
theorem ok_rise {m : List Mem} (h : okV (V.mk 5 false 0 ⟨#[]⟩ [] m) = true) : riseB m = true := by
  have h1 := chkV_allG 40 _ 0 _ (okV_true h)
  rw [allG] at h1
  have hg := h1.1
  simp only [goodB, Bool.and_eq_true] at hg
  exact hg.2
theorem ok_sub {l' m : List Mem} (hs : l'.Sublist m) (h : okV (V.mk 5 false 0 ⟨#[]⟩ [] m) = true) : okV (V.mk 5 false 0 ⟨#[]⟩ [] l') = true := by
  have hr := ok_rise h
  have hr' : riseB l' = true := rise_of (List.Pairwise.sublist hs (srt_rise hr)) (fun y hy => rise_utf hr y (hs.subset hy))
  have h1 := okV_true h
  have hk := keyB_sub hs
  refine decide_eq_true ?_
  rw [chkV] at h1 ⊢
  simp only at h1 ⊢
  by_cases he : (entF 40 0 0 0 0 (goodB 5 false 0 ⟨#[]⟩ ([] : List V).length m) ((⟨#[]⟩ : ByteArray).size + keyB m)).1 = 0
  · rw [if_pos he, chkL] at h1
    obtain ⟨e1, _, _, _, e5⟩ := ent_zero he
    rw [e1] at h1
    simp only [if_true] at h1
    have e2 : entF 40 0 0 0 0 (goodB 5 false 0 ⟨#[]⟩ ([] : List V).length l') ((⟨#[]⟩ : ByteArray).size + keyB l') = (0, 0 + 1, 0 + ((⟨#[]⟩ : ByteArray).size + keyB l'), max 0 0) := by
      unfold entF
      rw [if_neg (by omega), if_neg (by omega), if_neg (by rw [show goodB 5 false 0 ⟨#[]⟩ ([] : List V).length l' = true from good_map hr']; simp), if_neg (by omega)]
    rw [e2, chkL]
    simp only [if_true]
    exact chkM_sub hs _ _ h1 (Nat.le_refl _) (by simp only; omega)
  · rw [if_neg he] at h1; exact absurd h1 he

theorem wout_eq {m : List Mem} {key : ByteArray} : woutM m key = m.take (posF m key) ++ m.drop (if keyIs key m[posF m key]? = true then posF m key + 1 else posF m key) := by
  rw [woutM]
  by_cases h : keyIs key m[posF m key]? = true
  · rw [if_pos h, if_pos h]
  · rw [if_neg h, if_neg h, List.take_append_drop]
theorem mem_with {m : List Mem} {key : ByteArray} {x : V} (h : Srt m) (y : Mem) : y ∈ withL m key x ↔ y = (key, x) ∨ (y ∈ m ∧ ¬ y.1.toList = key.toList) := by
  rw [← with_filter h]
  simp only [List.mem_append, List.mem_cons, List.mem_filter]
  constructor
  · rintro (⟨h1, h2⟩ | h1 | ⟨h1, h2⟩)
    · refine .inr ⟨h1, fun e => ?_⟩
      have : ltB y.1 key = true := h2
      rw [ltB_congr e rfl, ltB_irr] at this
      cases this
    · exact .inl h1
    · refine .inr ⟨h1, fun e => ?_⟩
      have : ltB key y.1 = true := h2
      rw [ltB_congr rfl e, ltB_irr] at this
      cases this
  · rintro (h1 | ⟨h1, h2⟩)
    · exact .inr (.inl h1)
    · cases hl : ltB y.1 key with
      | true => exact .inl ⟨h1, hl⟩
      | false => exact .inr (.inr ⟨h1, ltB_tri hl h2⟩)
theorem srt_with {m : List Mem} {key : ByteArray} {x : V} (h : Srt m) : Srt (withL m key x) := by
  rw [← with_filter h]
  refine List.pairwise_append.2 ⟨List.Pairwise.sublist List.filter_sublist h, List.pairwise_cons.2 ⟨fun y hy => (List.mem_filter.1 hy).2, List.Pairwise.sublist List.filter_sublist h⟩, fun a ha b hb => ?_⟩
  have h1 : ltB a.1 key = true := (List.mem_filter.1 ha).2
  rcases List.mem_cons.1 hb with rfl | hb
  · exact h1
  · exact ltB_trans h1 (List.mem_filter.1 hb).2
theorem at_mem {m : List Mem} {key : ByteArray} (h : Srt m) {y : Mem} (hy : y ∈ m) (he : y.1.toList = key.toList) : atKey m key = (y.2, true) := by
  obtain ⟨j, hj, rfl⟩ := List.getElem_of_mem hy
  exact at_hit h hj he
theorem at_none {m : List Mem} {key : ByteArray} (h : ∀ y ∈ m, ¬ y.1.toList = key.toList) : atKey m key = (nullV, false) := at_miss fun j hj => h _ (List.getElem_mem hj)
theorem at_with {m : List Mem} {key : ByteArray} {x : V} (h : Srt m) : atKey (withL m key x) key = (x, true) := at_mem (srt_with h) ((mem_with h (key, x)).2 (.inl rfl)) rfl
theorem at_other {m : List Mem} {key o : ByteArray} {x : V} (h : Srt m) (ho : ¬ o.toList = key.toList) : atKey (withL m key x) o = atKey m o := by
  by_cases hm : ∃ y ∈ m, y.1.toList = o.toList
  · obtain ⟨y, hy, he⟩ := hm
    rw [at_mem h hy he, at_mem (srt_with h) ((mem_with h y).2 (.inr ⟨hy, fun e => ho (he.symm.trans e)⟩)) he]
  · rw [at_none (fun y hy e => hm ⟨y, hy, e⟩), at_none]
    intro y hy e
    rcases (mem_with h y).1 hy with rfl | ⟨h1, _⟩
    · exact ho e.symm
    · exact hm ⟨y, h1, e⟩
theorem wout_with {m : List Mem} {key : ByteArray} {x : V} (h : Srt m) : woutM (withL m key x) key = woutM m key := by
  rw [← wout_filter (srt_with h), ← with_filter h, List.filter_append, List.filter_cons_of_neg (by simp [othKey])]
  have a : ∀ f : Mem → Bool, (∀ y, f y = true → othKey key y = true) → (m.filter f).filter (othKey key) = m.filter f := fun f hf => by
    rw [List.filter_eq_self]
    intro y hy
    exact hf y (List.mem_filter.1 hy).2
  rw [a (lessKey key) (fun y hy => ?_), a (moreKey key) (fun y hy => ?_)]
  · rw [filter_split (f := moreKey key) (fun j hj => more_pos h hj), (srt_filter (key := key) h).1, wout_eq]
    rfl
  · rw [othKey]
    simp only [Bool.not_eq_true', beq_eq_false_iff_ne]
    intro e
    have : ltB key y.1 = true := hy
    rw [ltB_congr rfl e, ltB_irr] at this
    cases this
  · rw [othKey]
    simp only [Bool.not_eq_true', beq_eq_false_iff_ne]
    intro e
    have : ltB y.1 key = true := hy
    rw [ltB_congr e rfl, ltB_irr] at this
    cases this
theorem at_gone {m : List Mem} {key : ByteArray} (h : Srt m) : atKey (woutM m key) key = (nullV, false) := at_none fun y hy => by
  rw [← wout_filter h] at hy
  have := (List.mem_filter.1 hy).2
  rw [othKey] at this
  simpa using this
theorem wout_sub {m : List Mem} {key : ByteArray} (h : Srt m) : (woutM m key).Sublist m := by rw [← wout_filter h]; exact List.filter_sublist
theorem with_same {m : List Mem} {o : ByteArray} (h : Srt m) (hk : (atKey m o).2 = true) : withL m o (atKey m o).1 = m := by
  have hh : keyIs o m[posF m o]? = true := by
    rw [atKey] at hk
    by_cases h1 : keyIs o m[posF m o]? = true
    · exact h1
    · rw [if_neg h1] at hk; cases hk
  obtain ⟨hp, he⟩ := key_hit hh
  have e1 := at_hit h hp he
  have e2 : (m[posF m o]).1 = o := bytes_eq he
  rw [e1, withL, if_pos hh]
  have e3 : (o, (m[posF m o]).2) = m[posF m o] := Prod.ext e2.symm rfl
  simp only
  rw [e3, ← List.drop_eq_getElem_cons hp, List.take_append_drop]
theorem wout_same {m : List Mem} {o : ByteArray} (hk : (atKey m o).2 = false) : woutM m o = m := by
  rw [woutM, if_neg]
  intro h
  rw [atKey, if_pos h] at hk
  cases hk
theorem at_ok {m : List Mem} {o : ByteArray} (h : okV (V.mk 5 false 0 ⟨#[]⟩ [] m) = true) (hk : (atKey m o).2 = true) : okV (atKey m o).1 = true := by
  have hh : keyIs o m[posF m o]? = true := by
    rw [atKey] at hk
    by_cases h1 : keyIs o m[posF m o]? = true
    · exact h1
    · rw [if_neg h1] at hk; cases hk
  obtain ⟨hp, he⟩ := key_hit hh
  rw [at_hit (srt_ok h) hp he]
  exact ok_mem h _ (List.getElem_mem hp)

theorem map_ok {m : List Mem} (h : okV (V.mk 5 false 0 ⟨#[]⟩ [] m) = true) : mapE m = 0 ∧ mapV m = V.mk 5 false 0 ⟨#[]⟩ [] m := by
  have h0 : mapE m = 0 := by rw [mapE, chkE40]; exact okV_true h
  exact ⟨h0, by rw [mapV, if_pos h0]⟩
theorem map_not {m : List Mem} (h : ¬ mapE m = 0) : mapV m = nullV := by rw [mapV, if_neg h]
theorem okV_map {m : List Mem} (h : mapE m = 0) : okV (V.mk 5 false 0 ⟨#[]⟩ [] m) = true := by
  rw [mapE, chkE40] at h
  exact decide_eq_true h
theorem with_set {v x : V} {key : ByteArray} : InE (withE v key x) := by
  obtain ⟨k, b, i, s, l, m⟩ := v
  rw [withE]
  split
  · rw [mapE, chkE40]; exact chkV_set ..
  · exact .inr (.inl rfl)
theorem with_null {v x : V} {key : ByteArray} (h : ¬ withE v key x = 0) : withV v key x = nullV := by
  obtain ⟨k, b, i, s, l, m⟩ := v
  rw [withE] at h
  rw [withV]
  split
  · rename_i hc
    rw [if_pos hc] at h
    exact map_not h
  · rfl
theorem with_bad20 {v x : V} {key : ByteArray} (h : mapB v = true ∧ okV x = true → False) : withE v key x = 20 := by
  obtain ⟨k, b, i, s, l, m⟩ := v
  rw [withE, if_neg]
  rintro ⟨hk, h1, h2⟩
  subst hk
  exact h ⟨by rw [mapB, h1]; rfl, h2⟩
theorem with_utf {v x : V} {key : ByteArray} (hv : mapB v = true) (hx : okV x = true) (h : withE v key x = 20) : utfB key = false := by
  obtain ⟨k, b, i, s, l, m⟩ := v
  obtain ⟨e, ho⟩ := map_is hv
  rw [e] at h ho
  rw [withE, if_pos ⟨rfl, ho, hx⟩] at h
  rw [Bool.eq_false_iff]
  intro hu
  have hs := srt_ok ho
  have hr := ok_rise ho
  have g1 : riseB (withL m key x) = true := rise_of (srt_with hs) fun y hy => by
    rcases (mem_with hs y).1 hy with rfl | ⟨h1, _⟩
    · exact hu
    · exact rise_utf hr y h1
  rw [mapE, chkE40] at h
  refine chkV_ne 40 _ 0 (0, 0, 0) ?_ h
  rw [allG]
  refine ⟨good_map g1, by rw [allGL]; trivial, ?_⟩
  have gm : ∀ l : List Mem, (∀ y ∈ l, allG y.2) → allGM l := fun l => by
    induction l with
    | nil => intro _; rw [allGM]; trivial
    | cons y t ih =>
      intro hy
      obtain ⟨ky, vy⟩ := y
      rw [allGM]
      exact ⟨hy _ (List.mem_cons_self ..), ih fun z hz => hy z (List.mem_cons_of_mem _ hz)⟩
  refine gm _ fun y hy => ?_
  rcases (mem_with hs y).1 hy with rfl | ⟨h1, _⟩
  · exact chkV_allG 40 _ 0 _ (okV_true hx)
  · exact chkV_allG 40 _ 0 _ (okV_true (ok_mem ho y h1))
theorem bv_one {key : ByteArray} {x : V} (h : utfB key = false) : bvV [(key, x)] = (nullV, 20) := by
  rw [bvV, if_neg]
  intro hf
  have := (hf.ok (key, x) (by simp)).2
  rw [h] at this
  cases this
/-- all that With, Get and Without of a map that is taken are to one another -/
structure MapF (v x : V) (key o : ByteArray) : Prop where
  good : mapB v = true
  good' : mapB (withV v key x) = true
  got : getV (withV v key x) key = (x, true)
  other : ¬ o.toList = key.toList → getV (withV v key x) o = getV v o
  wout : woutV (withV v key x) key = woutV v key
  gone : (getV (woutV v key) key).2 = false
  goodo : mapB (woutV v key) = true
  back : (getV v o).2 = true → withV v o (getV v o).1 = v ∧ withE v o (getV v o).1 = 0
  stay : (getV v o).2 = false → woutV v o = v
  awt : (getV v o).2 = true → (getV v o).1.wt ≤ 1114112
theorem mapB_ok {m : List Mem} (h : okV (V.mk 5 false 0 ⟨#[]⟩ [] m) = true) : mapB (V.mk 5 false 0 ⟨#[]⟩ [] m) = true := by rw [mapB, h]; rfl
theorem with_good {v x : V} {key : ByteArray} (o : ByteArray) (h : withE v key x = 0) : MapF v x key o := by
  have hg : mapB v = true ∧ okV x = true := by
    refine Classical.byContradiction fun hn => ?_
    rw [with_bad20 (fun h => hn h)] at h
    omega
  obtain ⟨k, b, i, s, l, m⟩ := v
  obtain ⟨e, ho⟩ := map_is hg.1
  have hm := hg.1
  rw [e] at h ho hm ⊢
  have hs := srt_ok ho
  rw [withE, if_pos ⟨rfl, ho, hg.2⟩] at h
  have hL := okV_map h
  have eW : withV (V.mk 5 false 0 ⟨#[]⟩ [] m) key x = V.mk 5 false 0 ⟨#[]⟩ [] (withL m key x) := by
    rw [withV, if_pos ⟨rfl, ho, hg.2⟩]; exact (map_ok hL).2
  have eG : ∀ {m' : List Mem} (q : ByteArray), okV (V.mk 5 false 0 ⟨#[]⟩ [] m') = true → getV (V.mk 5 false 0 ⟨#[]⟩ [] m') q = atKey m' q := fun {m'} q h' => by rw [getV, if_pos h']; rfl
  have eO : ∀ {m' : List Mem} (q : ByteArray), okV (V.mk 5 false 0 ⟨#[]⟩ [] m') = true → woutV (V.mk 5 false 0 ⟨#[]⟩ [] m') q = V.mk 5 false 0 ⟨#[]⟩ [] (woutM m' q) := fun {m'} q h' => by rw [woutV, if_pos h']
  have hW := ok_sub (wout_sub (key := key) hs) ho
  refine ⟨hm, by rw [eW]; exact mapB_ok hL, by rw [eW, eG key hL]; exact at_with hs, fun hne => by rw [eW, eG o hL, eG o ho]; exact at_other hs hne, by rw [eW, eO key hL, eO key ho, wout_with hs], by rw [eO key ho, eG key hW, at_gone hs], by rw [eO key ho]; exact mapB_ok hW, fun hk => ?_, fun hk => ?_, fun hk => ?_⟩
  · rw [eG o ho] at hk ⊢
    rw [withV, withE, if_pos ⟨rfl, ho, at_ok ho hk⟩, if_pos ⟨rfl, ho, at_ok ho hk⟩, with_same hs hk]
    exact ⟨(map_ok ho).2, (map_ok ho).1⟩
  · rw [eG o ho] at hk
    rw [eO o ho, wout_same hk]
  · rw [eG o ho] at hk ⊢
    exact wt_of_chk (okV_true (at_ok ho hk))
theorem map_wt {v : V} (h : mapB v = true) : v.wt ≤ 1114112 := by
  rw [mapB, Bool.and_eq_true] at h
  exact wt_of_chk (okV_true h.2)
end Go.Proofs.YtljgofmmihmmfabDoor
