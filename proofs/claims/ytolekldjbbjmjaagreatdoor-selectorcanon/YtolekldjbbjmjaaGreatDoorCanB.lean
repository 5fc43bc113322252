import Derived.Test.YtolekldjbbjmjaaGreatDoorBakB
/- what is read may be, and weighs no more than so; a fault's place lies in the text: plain. -/
set_option linter.unusedSimpArgs false
set_option linter.unusedVariables false
namespace Go.Proofs.YtolekldjbbjmjaaGreatDoor
open Go.RowKit Go.Lib
theorem wrd_ok {l : List UInt8} {least k k1 : Nat} {x : ByteArray} (h : wrdF l least k = some (x, k1)) (hk : k ≤ l.length) : k + 1 ≤ k1 ∧ k1 ≤ l.length ∧ wordB x = true ∧ least ≤ x.size := by
  have hE : ∀ {y : List UInt8} {j : Nat}, wrdE l least y j = some (x, k1) → j ≤ l.length → j ≤ k1 ∧ k1 ≤ l.length ∧ wordB x = true ∧ least ≤ x.size := by
    intro y j h hj
    unfold wrdE at h
    split at h
    · rename_i c
      have e := Option.some.inj h
      have e1 := congrArg Prod.fst e
      have e2 := congrArg Prod.snd e
      simp only at e1 e2
      subst e1 e2
      exact ⟨skp_ge l j, skp_le hj, c.2, by rw [ofB_size]; exact c.1⟩
    · cases h
  unfold wrdF at h
  split at h
  · split at h
    · rename_i h0
      have h1 := Q.unqAll_inv l (k : Int)
      have h2 := h1.2 h0
      have := hE h h1.1
      exact ⟨by omega, this.2⟩
    · cases h
  · rename_i hp
    have h1 := plnT_le l k
    have h3 : 1 ≤ (plnT l k).length := by
      cases hh : plnT l k with
      | nil => exact absurd hh hp
      | cons _ _ => simp
    have := hE h (by omega)
    exact ⟨by omega, this.2⟩
theorem word64 {x : ByteArray} (h : wordB x = true) : x.size ≤ 64 := by
  unfold wordB at h
  rw [Bool.and_eq_true] at h
  exact of_decide_eq_true h.1
theorem next_le {l p : List UInt8} {k : Nat} (h : tkB l k p = true) (h0 : 0 < p.length) : k + 1 ≤ skp l (k + p.length) ∧ skp l (k + p.length) ≤ l.length := by
  have h1 := skp_ge l (k + p.length)
  exact ⟨by omega, skp_le (tkB_le h h0)⟩
theorem next_one {l : List UInt8} {c : UInt8} {k : Nat} (h : tkB l k [c] = true) : k + 1 ≤ skp l (k + 1) ∧ skp l (k + 1) ≤ l.length := next_le h (by simp)
theorem tkN_le {l : List UInt8} {k : Nat} (hk : k ≤ l.length) : k ≤ tkN l k [33] ∧ tkN l k [33] ≤ l.length := by
  unfold tkN
  split
  · rename_i c
    have := next_le c (by decide)
    exact ⟨by omega, this.2⟩
  · exact ⟨Nat.le_refl _, hk⟩
/-- values that may be, and what they weigh against how far their text goes -/
def GV (vs : List ByteArray) (k k2 : Nat) : Prop := valsB vs = true ∧ 0 < vs.length ∧ wtS vs + 65 * k ≤ 65 * k2
theorem GV.ge {vs : List ByteArray} {k j k2 : Nat} (h : GV vs k k2) (hj : j ≤ k) : GV vs j k2 := ⟨h.1, h.2.1, by have := h.2.2; omega⟩
theorem one_ok {l : List UInt8} {k : Nat} (hk : k ≤ l.length) : (oneF l k).2 ≤ l.length ∧ ∀ vs, (oneF l k).1 = some vs → GV vs k (oneF l k).2 := by
  unfold oneF
  cases h : wrdF l 0 k with
  | none => exact ⟨hk, fun vs e => by cases e⟩
  | some y =>
    obtain ⟨x, k1⟩ := y
    obtain ⟨h1, h2, h3, _⟩ := wrd_ok h hk
    have h4 := word64 h3
    refine ⟨h2, fun vs e => ?_⟩
    obtain rfl : [x] = vs := Option.some.inj e
    exact ⟨vals_of (List.pairwise_singleton _ _) (fun y hy => by simp at hy; rw [hy]; exact h3), by simp, by simp only [wtS]; omega⟩
theorem man_ok {l : List UInt8} : ∀ (f k : Nat) (acc : List ByteArray), k ≤ l.length → (manF f l k acc).2 ≤ l.length ∧ ∀ vs, (manF f l k acc).1 = some vs → (∀ y ∈ acc, wordB y = true) → valsB vs = true ∧ 0 < vs.length ∧ wtS vs + 65 * k ≤ wtS acc + 65 * (manF f l k acc).2
  | 0, k, acc, hk => ⟨hk, fun vs e => by cases e⟩
  | f + 1, k, acc, hk => by
    cases h : wrdF l 0 k with
    | none => rw [manF_no h]; exact ⟨hk, fun vs e => by cases e⟩
    | some y =>
      obtain ⟨x, k1⟩ := y
      obtain ⟨h1, h2, h3, _⟩ := wrd_ok h hk
      have h4 := word64 h3
      have hw : wtS (acc ++ [x]) = wtS acc + (1 + x.size) := by rw [wtS_app]; simp [wtS]
      have hgood (ha : ∀ y ∈ acc, wordB y = true) : ∀ y ∈ acc ++ [x], wordB y = true := fun y hy => by
        rcases List.mem_append.1 hy with q | q
        · exact ha y q
        · simp at q; rw [q]; exact h3
      cases ha : tkB l k1 [41] with
      | true =>
        rw [manF_end h ha]
        have hn := next_one ha
        refine ⟨hn.2, fun vs e hacc => ?_⟩
        obtain rfl : compB (sortB (acc ++ [x])) = vs := Option.some.inj e
        have hr := comp_sort_ris (acc ++ [x])
        have hm := comp_sort_mem (acc ++ [x])
        have hs := wtS_sub (ris_nodup hr) (fun y hy => (hm y).1 hy)
        refine ⟨vals_of hr (fun y hy => hgood hacc y ((hm y).1 hy)), ?_, ?_⟩
        · exact List.length_pos_of_mem ((hm x).2 (by simp))
        · simp only
          omega
      | false =>
        cases hb : tkB l k1 [44] with
        | true =>
          rw [manF_next h ha hb]
          have hn := next_one hb
          have ih := man_ok (l := l) f (skp l (k1 + 1)) (acc ++ [x]) hn.2
          refine ⟨ih.1, fun vs e hacc => ?_⟩
          obtain ⟨a, b, c⟩ := ih.2 vs e (hgood hacc)
          exact ⟨a, b, by omega⟩
        | false => rw [manF_stop h ha hb]; exact ⟨h2, fun vs e => by cases e⟩
theorem many_ok {l : List UInt8} {k : Nat} (hk : k ≤ l.length) : (manyF l k).2 ≤ l.length ∧ ∀ vs, (manyF l k).1 = some vs → GV vs k (manyF l k).2 := by
  unfold manyF
  split
  · rename_i c
    have hn := next_one c
    have h := man_ok (l := l) (l.length + 1) (skp l (k + 1)) [] hn.2
    refine ⟨h.1, fun vs e => ?_⟩
    obtain ⟨a, b, c⟩ := h.2 vs e (fun y hy => by cases hy)
    simp only [wtS] at c
    exact ⟨a, b, by omega⟩
  · exact ⟨hk, fun vs e => by cases e⟩
theorem op_tk {l p : List UInt8} {k : Nat} (h : opS l k = ⟨p.toArray⟩) : tkB l k p = true := by
  have inj : ∀ q : List UInt8, (⟨q.toArray⟩ : ByteArray) = ⟨p.toArray⟩ → q = p := fun q e => by
    have := congrArg (fun b : ByteArray => b.data.toList) e
    simpa using this
  unfold opS at h
  split at h
  · rename_i c; rw [← inj [61, 61] h]; exact c
  · split at h
    · rename_i c; rw [← inj [61] h]; exact c
    · split at h
      · rename_i c; rw [← inj [33, 61] h]; exact c
      · rw [← inj _ h]
        unfold tkB hasPrefix plnT
        exact List.isPrefixOf_iff_prefix.2 (List.takeWhile_prefix _)
theorem withO_ok {n op : Int} {len k : Nat} {R : Option (List ByteArray) × Nat} (hop : op = 3 ∨ op = 4) (h : R.2 ≤ len ∧ ∀ vs, R.1 = some vs → GV vs k R.2) : (withO op R).2 ≤ len ∧ ∀ o vs, (withO op R).1 = some (o, vs) → opB o vs = true ∧ wtS vs + 65 * k ≤ 65 * (withO op R).2 := by
  rw [withO_two]
  refine ⟨h.1, fun o vs e => ?_⟩
  unfold withO at e
  split at e
  · rename_i l hl
    have e := Option.some.inj e
    obtain rfl : op = o := congrArg Prod.fst e
    obtain rfl : l = vs := congrArg Prod.snd e
    obtain ⟨a, b, c⟩ := h.2 l hl
    refine ⟨?_, c⟩
    unfold opB
    rw [if_neg (by omega), if_pos hop, a, decide_eq_true b]
    rfl
  · cases e
theorem cond_ok {l : List UInt8} {k : Nat} (hk : k ≤ l.length) : (condF l k).2 ≤ l.length ∧ ∀ op vs, (condF l k).1 = some (op, vs) → opB op vs = true ∧ wtS vs + 65 * k ≤ 65 * (condF l k).2 := by
  have hone {p : List UInt8} (h : opS l k = ⟨p.toArray⟩) (h0 : 0 < p.length) : (oneF l (skp l (k + p.length))).2 ≤ l.length ∧ ∀ vs, (oneF l (skp l (k + p.length))).1 = some vs → GV vs k (oneF l (skp l (k + p.length))).2 := by
    have hn := next_le (op_tk h) h0
    have h1 := one_ok hn.2
    exact ⟨h1.1, fun vs e => (h1.2 vs e).ge (by omega)⟩
  have hmany {p : List UInt8} (h : opS l k = ⟨p.toArray⟩) (h0 : 0 < p.length) : (manyF l (skp l (k + p.length))).2 ≤ l.length ∧ ∀ vs, (manyF l (skp l (k + p.length))).1 = some vs → GV vs k (manyF l (skp l (k + p.length))).2 := by
    have hn := next_le (op_tk h) h0
    have h1 := many_ok hn.2
    exact ⟨h1.1, fun vs e => (h1.2 vs e).ge (by omega)⟩
  unfold condF
  split
  · rename_i c; exact withO_ok (n := 0) (.inr rfl) (hone (p := [33, 61]) c (by decide))
  · split
    · rename_i c; exact withO_ok (n := 0) (.inl rfl) (hone (p := [61]) c (by decide))
    · split
      · rename_i c; exact withO_ok (n := 0) (.inl rfl) (hone (p := [61, 61]) c (by decide))
      · split
        · rename_i c; exact withO_ok (n := 0) (.inr rfl) (hmany (p := [110, 111, 116, 105, 110]) c (by decide))
        · split
          · rename_i c; exact withO_ok (n := 0) (.inl rfl) (hmany (p := [105, 110]) c (by decide))
          · refine ⟨hk, fun op vs e => ?_⟩
            have e := Option.some.inj e
            obtain rfl : 1 = op := congrArg Prod.fst e
            obtain rfl : [] = vs := congrArg Prod.snd e
            exact ⟨rfl, by simp only [wtS]; omega⟩
theorem term_ok {l : List UInt8} {k : Nat} (hk : k ≤ l.length) : (termF l k).2 ≤ l.length ∧ ∀ t, (termF l k).1 = some t → goodB t = true ∧ 1 + t.1.size + wtS t.2.2 + 65 * k ≤ 65 * (termF l k).2 := by
  obtain ⟨h0, h1⟩ := tkN_le hk
  cases h : wrdF l 1 (tkN l k [33]) with
  | none => rw [termF_none h]; exact ⟨h1, fun t e => by cases e⟩
  | some y =>
    obtain ⟨x, k2⟩ := y
    obtain ⟨a1, a2, a3, a4⟩ := wrd_ok h h1
    have h4 := word64 a3
    cases ht : tkB l k [33] with
    | true =>
      rw [termF_not h ht]
      refine ⟨a2, fun t e => ?_⟩
      obtain rfl : (x, 2, []) = t := Option.some.inj e
      refine ⟨?_, by simp only [wtS]; omega⟩
      rw [goodB_is, decide_eq_true (by omega : 0 < x.size), a3]
      rfl
    | false =>
      obtain ⟨c1, c2⟩ := cond_ok a2
      cases hc : (condF l k2).1 with
      | none => rw [termF_bad h ht hc]; exact ⟨c1, fun t e => by cases e⟩
      | some z =>
        obtain ⟨op, vs⟩ := z
        rw [termF_some h ht hc]
        refine ⟨c1, fun t e => ?_⟩
        obtain rfl : (x, op, vs) = t := Option.some.inj e
        obtain ⟨d1, d2⟩ := c2 op vs hc
        refine ⟨?_, by simp only; omega⟩
        rw [goodB_is, decide_eq_true (by omega : 0 < x.size), a3, d1]
        rfl
theorem ter_ok {l : List UInt8} : ∀ (f k : Nat) (acc : List Trm), k ≤ l.length → (terF f l k acc).2 ≤ l.length ∧ ∀ ts, (terF f l k acc).1 = some ts → (∀ t ∈ acc, goodB t = true) → (∀ t ∈ ts, goodB t = true) ∧ wtT ts + 65 * k ≤ wtT acc + 65 * (terF f l k acc).2
  | 0, k, acc, hk => ⟨hk, fun ts e => by cases e⟩
  | f + 1, k, acc, hk => by
    obtain ⟨h1, h2⟩ := term_ok hk
    cases h : (termF l k).1 with
    | none => rw [terF_no h]; exact ⟨h1, fun ts e => by cases e⟩
    | some t =>
      obtain ⟨g, hw⟩ := h2 t h
      have hwt : wtT (acc ++ [t]) = wtT acc + (1 + t.1.size + wtS t.2.2) := by rw [wtT_app]; simp [wtT]
      have hgood (ha : ∀ y ∈ acc, goodB y = true) : ∀ y ∈ acc ++ [t], goodB y = true := fun y hy => by
        rcases List.mem_append.1 hy with q | q
        · exact ha y q
        · simp at q; rw [q]; exact g
      by_cases he : (termF l k).2 = l.length
      · rw [terF_end h he]
        refine ⟨h1, fun ts e hacc => ?_⟩
        obtain rfl : acc ++ [t] = ts := Option.some.inj e
        exact ⟨hgood hacc, by simp only; omega⟩
      · cases hb : tkB l (termF l k).2 [44] with
        | true =>
          rw [terF_next h he hb]
          have hn := next_one hb
          have ih := ter_ok (l := l) f (skp l ((termF l k).2 + 1)) (acc ++ [t]) hn.2
          refine ⟨ih.1, fun ts e hacc => ?_⟩
          obtain ⟨a, b⟩ := ih.2 ts e (hgood hacc)
          exact ⟨a, by omega⟩
        | false => rw [terF_stop h he hb]; exact ⟨h1, fun ts e => by cases e⟩
theorem par_ok (l : List UInt8) : (parF l).2 ≤ l.length ∧ (parF l).2 ≤ 1048576 ∧ ∀ ts, (parF l).1 = some ts → ts.all goodB = true ∧ wtT ts ≤ 68157440 ∧ l.length ≤ 1048576 := by
  unfold parF
  split
  · rename_i c
    exact ⟨by simp only; omega, Nat.le_refl _, fun ts e => by cases e⟩
  · rename_i c
    have h0 := skp_le (l := l) (k := 0) (Nat.zero_le _)
    unfold tersF
    split
    · refine ⟨h0, by simp only; omega, fun ts e => ?_⟩
      obtain rfl : [] = ts := Option.some.inj e
      exact ⟨rfl, by simp [wtT], by omega⟩
    · have h := ter_ok (l := l) (l.length + 1) (skp l 0) [] h0
      refine ⟨h.1, by omega, fun ts e => ?_⟩
      obtain ⟨a, b⟩ := h.2 ts e (fun t ht => by cases ht)
      simp only [wtT] at b
      exact ⟨List.all_eq_true.2 a, by omega, by omega⟩
end Go.Proofs.YtolekldjbbjmjaaGreatDoor
