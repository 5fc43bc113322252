import Derived.Test.YtolekldjbbjmjaaGreatDoorShoB
/- plain: the labels that short terms choose (layer 20). -/
set_option linter.unusedSimpArgs false
set_option linter.unusedVariables false
namespace Go.Proofs.YtolekldjbbjmjaaGreatDoor
open Go.RowKit Go.Lib
def vS (n : Nat) : ByteArray := ⟨(List.replicate n (118 : UInt8)).toArray⟩
def witT (s : List Trm) (oth : Nat → ByteArray) (i : Nat) : List Lab := match s[i]? with
  | none => []
  | some t => if t.2.1 = 1 then [(t.1, (match s[i + 1]? with | some u => if u.1 = t.1 then oth i else vS 1 | none => vS 1), 0)] else if t.2.1 = 3 then (match t.2.2 with | [] => [] | x :: _ => [(t.1, x, 0)]) else []
def witL (s : List Trm) (oth : Nat → ByteArray) : List Lab := (List.range s.length).flatMap (witT s oth)
/-- what a key's terms are -/
inductive Form (k : ByteArray) : List Trm → Prop where
  | no : Form k [(k, 2, [])]
  | inn (A : List ByteArray) : Form k [(k, 3, A)]
  | has : Form k [(k, 1, [])]
  | out (N : List ByteArray) : Form k [(k, 4, N)]
  | both (N : List ByteArray) : Form k [(k, 1, []), (k, 4, N)]
theorem form_of {l : List Trm} {k : ByteArray} {y : List Trm} (h : simpT l k = some y) (hne : y ≠ []) : Form k y := by
  rcases simpT_form h with ⟨_, rfl⟩ | ⟨_, _, rfl⟩ | ⟨_, _, rfl⟩
  · exact .no
  · exact .inn _
  · generalize gatV 4 l k = N at *
    generalize hasOp l k 1 = p at *
    cases p with
    | true =>
      by_cases h0 : N.length = 0
      · rw [if_pos h0]; exact .has
      · rw [if_neg h0]; exact .both _
    | false =>
      by_cases h0 : N.length = 0
      · rw [if_pos h0] at hne; exact absurd rfl hne
      · rw [if_neg h0]; exact .out _
theorem Form.key {k : ByteArray} {y : List Trm} (h : Form k y) : ∀ t ∈ y, t.1 = k := by
  cases h <;> (intro t ht; simp at ht; rcases ht with rfl | rfl <;> rfl)
/-- a Has and a NotIn of one key stand side by side -/
theorem adj {f : ByteArray → List Trm} : ∀ (ks : List ByteArray), ks.Nodup → (∀ k ∈ ks, Form k (f k)) → ∀ (i : Nat) (hi : i < (ks.flatMap f).length), ((ks.flatMap f)[i]).2.1 = 1 → (∃ t ∈ ks.flatMap f, t.1 = ((ks.flatMap f)[i]).1 ∧ t.2.1 = 4) → ∃ h : i + 1 < (ks.flatMap f).length, ((ks.flatMap f)[i + 1]).1 = ((ks.flatMap f)[i]).1 ∧ ((ks.flatMap f)[i + 1]).2.1 = 4
  | [], _, _, i, hi, _, _ => by simp at hi
  | k :: r, hn, hf, i, hi, h1, h4 => by
    rw [List.nodup_cons] at hn
    have ih := adj r hn.2 (fun q hq => hf q (List.mem_cons_of_mem _ hq))
    have hk := hf k (by simp)
    have e : (k :: r).flatMap f = f k ++ r.flatMap f := List.flatMap_cons
    simp only [e] at hi h1 h4 ⊢
    have hrest : ∀ t ∈ r.flatMap f, t.1 ≠ k := fun t ht e2 => by
      obtain ⟨q, hq, htq⟩ := List.mem_flatMap.1 ht
      have := (hf q (List.mem_cons_of_mem _ hq)).key t htq
      rw [e2] at this; rw [← this] at hq; exact hn.1 hq
    generalize hr : r.flatMap f = R at *
    generalize f k = y at *
    by_cases hiy : i < y.length
    · cases hk with
      | no => have : i = 0 := by simp at hiy; omega
              subst this; simp at h1
      | inn A => have : i = 0 := by simp at hiy; omega
                 subst this; simp at h1
      | out N => have : i = 0 := by simp at hiy; omega
                 subst this; simp at h1
      | has =>
        have : i = 0 := by simp at hiy; omega
        subst this
        obtain ⟨t, ht, e1, e4⟩ := h4
        have e1 : t.1 = k := e1
        rcases List.mem_append.1 ht with ht | ht
        · rw [List.mem_singleton.1 ht] at e4; cases e4
        · exact absurd e1 (hrest t ht)
      | both N =>
        have : i = 0 ∨ i = 1 := by simp at hiy; omega
        rcases this with rfl | rfl
        · exact ⟨by simp, rfl, rfl⟩
        · simp at h1
    · obtain ⟨j, rfl⟩ : ∃ j, i = y.length + j := ⟨i - y.length, by omega⟩
      have hj : j < R.length := by rw [List.length_append] at hi; omega
      have ei : (y ++ R)[y.length + j] = R[j] := by rw [List.getElem_append_right (by omega)]; congr 1; omega
      rw [ei] at h1 h4
      obtain ⟨t, ht, e1, e4⟩ := h4
      have htR : t ∈ R := by
        rcases List.mem_append.1 ht with ht | ht
        · exact absurd (e1.symm.trans (hk.key t ht)) (hrest _ (List.getElem_mem hj))
        · exact ht
      obtain ⟨h5, h6, h7⟩ := ih j hj h1 ⟨t, htR, e1, e4⟩
      have e2 : (y ++ R)[y.length + j + 1]'(by rw [List.length_append]; omega) = R[j + 1] := by rw [List.getElem_append_right (by omega)]; congr 1; omega
      exact ⟨by rw [List.length_append]; omega, by rw [e2, ei]; exact h6, by rw [e2]; exact h7⟩
theorem memV_lab {x : ByteArray} {a : Lab} (h : a.2.2 = 0) : isLab x (memV a) = true ↔ a.1 = x := by
  unfold memV isLab
  rw [if_pos h]
  simp only [Bool.and_eq_true, beq_iff_eq]
  constructor
  · rintro ⟨h1, _⟩; exact bytes_ext9 h1
  · intro h1; exact ⟨by rw [h1], rfl⟩
theorem labF_map {L : List Lab} (h0 : ∀ a ∈ L, a.2.2 = 0) (x : ByteArray) : ((labF (L.map memV) x).2 = true ↔ ∃ a ∈ L, a.1 = x) ∧ ((labF (L.map memV) x).2 = true → ∃ a ∈ L, a.1 = x ∧ (labF (L.map memV) x).1 = a.2.1) := by
  unfold labF
  cases hf : (L.map memV).find? (isLab x) with
  | none =>
    rw [List.find?_eq_none] at hf
    simp only [Bool.false_eq_true, false_iff, false_implies, and_true]
    rintro ⟨a, ha, e⟩
    exact hf _ (List.mem_map_of_mem ha) ((memV_lab (h0 a ha)).2 e)
  | some p =>
    have hp := List.mem_of_find?_eq_some hf
    have hi := List.find?_some hf
    obtain ⟨a, ha, rfl⟩ := List.mem_map.1 hp
    have e := (memV_lab (h0 a ha)).1 hi
    simp only [true_iff, true_implies]
    refine ⟨⟨a, ha, e⟩, a, ha, e, ?_⟩
    unfold memV
    rw [if_pos (h0 a ha)]
    rfl
theorem wit_zero {s : List Trm} {oth : Nat → ByteArray} : ∀ a ∈ witL s oth, a.2.2 = 0 := fun a ha => by
  obtain ⟨i, _, hi⟩ := List.mem_flatMap.1 ha
  unfold witT at hi
  split at hi
  · cases hi
  · split at hi
    · rw [List.mem_singleton.1 hi]
    · split at hi
      · split at hi
        · cases hi
        · rw [List.mem_singleton.1 hi]
      · cases hi
/-- a label of them: whose it is -/
theorem wit_mem {s : List Trm} {oth : Nat → ByteArray} {a : Lab} (h : a ∈ witL s oth) : ∃ (i : Nat) (hi : i < s.length), a.1 = (s[i]).1 ∧ (((s[i]).2.1 = 1 ∧ ∀ h2 : i + 1 < s.length, (s[i + 1]).1 = (s[i]).1 → a.2.1 = oth i) ∨ ((s[i]).2.1 = 3 ∧ a.2.1 ∈ (s[i]).2.2)) := by
  obtain ⟨i, hir, hi⟩ := List.mem_flatMap.1 h
  have hil := List.mem_range.1 hir
  unfold witT at hi
  rw [List.getElem?_eq_getElem hil] at hi
  simp only at hi
  split at hi
  · rename_i h1
    rw [List.mem_singleton.1 hi]
    refine ⟨i, hil, rfl, .inl ⟨h1, fun h2 e => ?_⟩⟩
    rw [List.getElem?_eq_getElem h2]
    simp only
    rw [if_pos e]
  · split at hi
    · rename_i h3
      split at hi
      · cases hi
      · rename_i x t hx
        rw [List.mem_singleton.1 hi]
        exact ⟨i, hil, rfl, .inr ⟨h3, by rw [hx]; simp⟩⟩
    · cases hi
theorem wit_has {s : List Trm} {oth : Nat → ByteArray} {i : Nat} (hi : i < s.length) (h : (s[i]).2.1 = 1 ∨ ((s[i]).2.1 = 3 ∧ (s[i]).2.2 ≠ [])) : ∃ a ∈ witL s oth, a.1 = (s[i]).1 := by
  have hw : ∀ a ∈ witT s oth i, a ∈ witL s oth := fun a ha => List.mem_flatMap.2 ⟨i, List.mem_range.2 hi, ha⟩
  unfold witT at hw
  rw [List.getElem?_eq_getElem hi] at hw
  simp only at hw
  rcases h with h | ⟨h, hne⟩
  · rw [if_pos h] at hw
    exact ⟨_, hw _ (List.mem_singleton.2 rfl), rfl⟩
  · rw [if_neg (by rw [h]; simp), if_pos h] at hw
    cases hv : (s[i]).2.2 with
    | nil => exact absurd hv hne
    | cons x t =>
      rw [hv] at hw
      exact ⟨_, hw _ (List.mem_singleton.2 rfl), rfl⟩
theorem wit_ok {l s : List Trm} (h : simplV l = some s) {oth : Nat → ByteArray} (ho : ∀ (i : Nat) (hi : i + 1 < s.length), (s[i]'(by omega)).2.1 = 1 → (s[i + 1]).1 = (s[i]'(by omega)).1 → oth i ∉ (s[i + 1]).2.2) : s.all (termB ((witL s oth).map memV)) = true := by
  have hgs := (simp_again h).2
  unfold simplV at h
  split at h
  · rename_i hg
    have hgt := List.all_eq_true.1 hg
    obtain ⟨h1, h2⟩ := simpW_parts l _ _ _ h
    rw [List.nil_append] at h2
    have hform : ∀ k ∈ keysV l, Form k ((simpT l k).getD []) := fun k hk => by
      obtain ⟨y, hy⟩ := h1 k hk
      rw [hy]
      exact form_of hy (simpT_ne hgt hk hy)
    have hadj := adj (f := fun k => (simpT l k).getD []) (keysV l) (ris_nodup (keysV_ris l)) hform
    rw [← h2] at hadj
    have hpart : ∀ t ∈ s, t.1 ∈ keysV l ∧ t ∈ (simpT l t.1).getD [] := fun t ht => by
      rw [h2] at ht
      obtain ⟨q, hq, htq⟩ := List.mem_flatMap.1 ht
      have := (hform q hq).key t htq
      rw [this]; exact ⟨hq, htq⟩
    rw [List.all_eq_true]
    intro t ht
    have hgd := List.all_eq_true.1 hgs t ht
    rw [tmB_is (good_ops hgd)]
    obtain ⟨hk, hty⟩ := hpart t ht
    obtain ⟨hl1, hl2⟩ := labF_map (wit_zero (s := s) (oth := oth)) t.1
    generalize (labF ((witL s oth).map memV) t.1).2 = th at *
    generalize (labF ((witL s oth).map memV) t.1).1 = x at *
    have hfk := hform t.1 hk
    -- whose label it is
    have hwho : th = true → ∃ (i : Nat) (hi : i < s.length), (s[i]).1 = t.1 ∧ s[i] ∈ (simpT l t.1).getD [] ∧ (((s[i]).2.1 = 1 ∧ ∀ h2 : i + 1 < s.length, (s[i + 1]).1 = (s[i]).1 → x = oth i) ∨ ((s[i]).2.1 = 3 ∧ x ∈ (s[i]).2.2)) := fun e => by
      obtain ⟨a, ha, e1, e2⟩ := hl2 e
      obtain ⟨i, hi, e3, e4⟩ := wit_mem ha
      have e5 : (s[i]).1 = t.1 := by rw [← e3, e1]
      have := (hpart _ (List.getElem_mem hi)).2
      rw [e5] at this
      exact ⟨i, hi, e5, this, by rw [e2]; exact e4⟩
    obtain ⟨j, hj, hjt⟩ := List.mem_iff_getElem.1 ht
    refine ⟨fun h => hl1.2 ?_, fun h => ?_, fun h => ?_, fun h => ?_⟩
    · obtain ⟨a, ha, e⟩ := wit_has (oth := oth) hj (.inl (by rw [hjt]; exact h))
      exact ⟨a, ha, by rw [e, hjt]⟩
    · cases th with
      | false => rfl
      | true =>
        obtain ⟨i, hi, _, hm, e4⟩ := hwho rfl
        generalize (simpT l t.1).getD [] = y at *
        cases hfk with
        | no => rw [List.mem_singleton.1 hm] at e4; rcases e4 with ⟨e, _⟩ | ⟨e, _⟩ <;> cases e
        | inn A => rw [List.mem_singleton.1 hty] at h; cases h
        | has => rw [List.mem_singleton.1 hty] at h; cases h
        | out N => rw [List.mem_singleton.1 hty] at h; cases h
        | both N => simp at hty; rcases hty with e | e <;> (rw [e] at h; cases h)
    · have hne : t.2.2 ≠ [] := by
        obtain ⟨key, op, vs⟩ := t
        rcases good_op hgd with ho | ho | ⟨_, hl⟩
        · have : op = 3 := h; omega
        · have : op = 3 := h; omega
        · exact fun e => by have e : vs = [] := e; rw [e] at hl; simp at hl
      have hth : th = true := hl1.2 (by
        obtain ⟨a, ha, e⟩ := wit_has (oth := oth) hj (.inr ⟨by rw [hjt]; exact h, by rw [hjt]; exact hne⟩)
        exact ⟨a, ha, by rw [e, hjt]⟩)
      refine ⟨hth, ?_⟩
      obtain ⟨i, hi, _, hm, e4⟩ := hwho hth
      generalize (simpT l t.1).getD [] = y at *
      cases hfk with
      | no => rw [List.mem_singleton.1 hty] at h; cases h
      | inn A =>
        rw [List.mem_singleton.1 hm] at e4
        rw [List.mem_singleton.1 hty]
        rcases e4 with ⟨e, _⟩ | ⟨_, e⟩
        · cases e
        · exact e
      | has => rw [List.mem_singleton.1 hty] at h; cases h
      | out N => rw [List.mem_singleton.1 hty] at h; cases h
      | both N => simp at hty; rcases hty with e | e <;> (rw [e] at h; cases h)
    · cases th with
      | false => exact .inl rfl
      | true =>
        right
        obtain ⟨i, hi, ek, hm, e4⟩ := hwho rfl
        have hop1 : (s[i]).2.1 = 1 := by
          rcases e4 with ⟨e, _⟩ | ⟨e, _⟩
          · exact e
          · generalize (simpT l t.1).getD [] = y at *
            cases hfk with
            | no => rw [List.mem_singleton.1 hty] at h; cases h
            | inn A => rw [List.mem_singleton.1 hty] at h; cases h
            | has => rw [List.mem_singleton.1 hty] at h; cases h
            | out N => rw [List.mem_singleton.1 hm] at e; cases e
            | both N => simp at hm; rcases hm with e5 | e5 <;> (rw [e5] at e; cases e)
        obtain ⟨h5, h6, h7⟩ := hadj i hi hop1 ⟨t, ht, ek.symm, h⟩
        have hx : x = oth i := by
          rcases e4 with ⟨_, e⟩ | ⟨e, _⟩
          · exact e h5 h6
          · rw [hop1] at e; cases e
        have hm2 := (hpart _ (List.getElem_mem h5)).2
        rw [h6, ek] at hm2
        have he : s[i + 1] = t := by
          generalize (simpT l t.1).getD [] = y at *
          cases hfk with
          | no => rw [List.mem_singleton.1 hty] at h; cases h
          | inn A => rw [List.mem_singleton.1 hty] at h; cases h
          | has => rw [List.mem_singleton.1 hty] at h; cases h
          | out N => rw [List.mem_singleton.1 hm2]; exact (List.mem_singleton.1 hty).symm
          | both N =>
            simp at hm2 hty
            rcases hm2 with e5 | e5
            · rw [e5] at h7; cases h7
            · rcases hty with e6 | e6
              · rw [e6] at h; cases h
              · rw [e5, ← e6]
        rw [hx, ← he]
        exact ho i h5 hop1 h6
  · cases h
end Go.Proofs.YtolekldjbbjmjaaGreatDoor
