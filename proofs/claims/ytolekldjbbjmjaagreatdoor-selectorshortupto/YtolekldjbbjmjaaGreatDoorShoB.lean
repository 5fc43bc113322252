import Derived.Test.YtolekldjbbjmjaaGreatDoorShoA
/- plain: what Simplify answers may be, is no longer, and is as short as it gets (layer 20). -/
set_option linter.unusedSimpArgs false
set_option linter.unusedVariables false
namespace Go.Proofs.YtolekldjbbjmjaaGreatDoor
open Go.RowKit Go.Lib
theorem vals_word {l : List ByteArray} (h : valsB l = true) {x : ByteArray} (hx : x ∈ l) : wordB x = true := by
  obtain ⟨k, hk, rfl⟩ := List.mem_iff_getElem.1 hx
  unfold valsB at h
  rw [List.all_eq_true] at h
  have h1 := h k (List.mem_range.2 hk)
  cases k with
  | zero => rw [valB_zero hk] at h1; exact h1
  | succ k => rw [valB_succ hk, Bool.and_eq_true] at h1; exact h1.1
theorem vals_of {l : List ByteArray} (hr : Ris l) (hw : ∀ x ∈ l, wordB x = true) : valsB l = true := by
  refine valsB_yes fun k hk => ?_
  cases k with
  | zero => rw [valB_zero hk]; exact hw _ (List.getElem_mem hk)
  | succ k =>
    rw [valB_succ hk, Bool.and_eq_true]
    exact ⟨hw _ (List.getElem_mem hk), ris_lt hr hk (by omega)⟩
theorem simpT_form {l : List Trm} {k : ByteArray} {y : List Trm} (h : simpT l k = some y) :
    (hasOp l k 2 = true ∧ y = [(k, 2, [])]) ∨ (hasOp l k 3 = true ∧ (allowV l k (gatV 4 l k) l).length ≠ 0 ∧ y = [(k, 3, allowV l k (gatV 4 l k) l)]) ∨ (hasOp l k 2 = false ∧ hasOp l k 3 = false ∧ y = (if hasOp l k 1 then [(k, 1, [])] else []) ++ (if (gatV 4 l k).length = 0 then [] else [(k, 4, gatV 4 l k)])) := by
  unfold simpT at h
  split at h
  · rename_i h2
    split at h
    · cases h
    · cases h; exact .inl ⟨h2, rfl⟩
  · rename_i h2
    split at h
    · rename_i h3
      split at h
      · cases h
      · rename_i h4
        cases h; exact .inr (.inl ⟨h3, h4, rfl⟩)
    · rename_i h3
      cases h; exact .inr (.inr ⟨by simpa using h2, by simpa using h3, rfl⟩)
theorem good_key {t : Trm} (h : goodB t = true) : 0 < t.1.size ∧ wordB t.1 = true := by
  obtain ⟨key, op, vs⟩ := t
  rw [goodB_is, Bool.and_eq_true, Bool.and_eq_true, decide_eq_true_eq] at h
  exact h.1
theorem simpT_good {l : List Trm} (hg : ∀ t ∈ l, goodB t = true) {k : ByteArray} (hk : k ∈ keysV l) {y : List Trm} (h : simpT l k = some y) : ∀ t ∈ y, goodB t = true := by
  obtain ⟨t0, ht0, e0⟩ := keysV_mem.1 hk
  have hkg := good_key (hg t0 ht0)
  rw [e0] at hkg
  have hN : ∀ x ∈ gatV 4 l k, wordB x = true := fun x hx => by
    obtain ⟨t, ht, _, hxt⟩ := gatV_mem.1 hx
    exact vals_word (good_vals (hg t ht)) hxt
  have hA : ∀ x ∈ allowV l k (gatV 4 l k) l, wordB x = true := fun x hx => by
    obtain ⟨⟨t, ht, _, hxt⟩, _⟩ := allowV_mem.1 hx
    exact vals_word (good_vals (hg t ht)) hxt
  have hb : ∀ (op : Int) (vs : List ByteArray), opB op vs = true → goodB (k, op, vs) = true := fun op vs ho => by
    rw [goodB_is, Bool.and_eq_true, Bool.and_eq_true, decide_eq_true_eq]
    exact ⟨hkg, ho⟩
  rcases simpT_form h with ⟨_, rfl⟩ | ⟨_, hne, rfl⟩ | ⟨_, _, rfl⟩
  · intro t ht; rw [List.mem_singleton.1 ht]; exact hb _ _ rfl
  · intro t ht; rw [List.mem_singleton.1 ht]
    refine hb _ _ ?_
    unfold opB
    rw [if_neg (by simp), if_pos (by simp), vals_of (allowV_ris _ _ _) hA]
    simp; omega
  · intro t ht
    rcases List.mem_append.1 ht with ht | ht
    · split at ht
      · rw [List.mem_singleton.1 ht]; exact hb _ _ rfl
      · cases ht
    · split at ht
      · cases ht
      · rename_i hne
        rw [List.mem_singleton.1 ht]
        refine hb _ _ ?_
        unfold opB
        rw [if_neg (by simp), if_pos (by simp), vals_of (gatV_ris _ _ _) hN]
        simp; omega
theorem simpT_ne {l : List Trm} (hg : ∀ t ∈ l, goodB t = true) {k : ByteArray} (hk : k ∈ keysV l) {y : List Trm} (h : simpT l k = some y) : y ≠ [] := by
  obtain ⟨t, ht, e⟩ := keysV_mem.1 hk
  rcases simpT_form h with ⟨_, rfl⟩ | ⟨_, hne, rfl⟩ | ⟨h2, h3, rfl⟩
  · simp
  · simp
  · obtain ⟨key, op, vs⟩ := t
    have e : key = k := e
    rcases good_op (hg _ ht) with ho | ho | ⟨ho | ho, hl⟩
    · have : hasOp l k 1 = true := hasOp_iff.2 ⟨_, ht, isOp_is.2 ⟨e, ho⟩⟩
      rw [this]; simp
    · have : hasOp l k 2 = true := hasOp_iff.2 ⟨_, ht, isOp_is.2 ⟨e, ho⟩⟩
      rw [this] at h2; cases h2
    · have : hasOp l k 3 = true := hasOp_iff.2 ⟨_, ht, isOp_is.2 ⟨e, ho⟩⟩
      rw [this] at h3; cases h3
    · have : (vs[0]'hl) ∈ gatV 4 l k := gatV_mem.2 ⟨_, ht, isOp_is.2 ⟨e, ho⟩, List.getElem_mem hl⟩
      have hne : (gatV 4 l k).length ≠ 0 := fun h0 => by
        rw [List.length_eq_zero_iff.1 h0] at this; cases this
      rw [if_neg hne]
      simp
/- no longer -/
theorem two_len {α : Type} {l : List α} {a b : α} (ha : a ∈ l) (hb : b ∈ l) (hne : a ≠ b) : 2 ≤ l.length := by
  cases l with
  | nil => cases ha
  | cons x t =>
    cases t with
    | nil => rw [List.mem_singleton.1 ha, List.mem_singleton.1 hb] at hne; exact absurd rfl hne
    | cons y r => simp
theorem simpT_count {l : List Trm} {k : ByteArray} {y : List Trm} (h : simpT l k = some y) : y.length ≤ (l.filter (isKey k)).length := by
  have hop : ∀ op, hasOp l k op = true → ∃ t ∈ l.filter (isKey k), t.2.1 = op := fun op ho => by
    obtain ⟨t, ht, hi⟩ := hasOp_iff.1 ho
    obtain ⟨h1, h2⟩ := isOp_is.1 hi
    exact ⟨t, List.mem_filter.2 ⟨ht, isKey_iff.2 h1⟩, h2⟩
  have hpos : ∀ {t : Trm}, t ∈ l.filter (isKey k) → 1 ≤ (l.filter (isKey k)).length := fun ht => List.length_pos_of_mem ht
  rcases simpT_form h with ⟨h2, rfl⟩ | ⟨h3, hne, rfl⟩ | ⟨h2, h3, rfl⟩
  · obtain ⟨t, ht, _⟩ := hop 2 h2; exact hpos ht
  · obtain ⟨t, ht, _⟩ := hop 3 h3; exact hpos ht
  · have h4 : (gatV 4 l k).length ≠ 0 → ∃ t ∈ l.filter (isKey k), t.2.1 = 4 := fun hne => by
      obtain ⟨x, hx⟩ := List.exists_mem_of_ne_nil _ (fun e => hne (by rw [e]; rfl) : gatV 4 l k ≠ [])
      obtain ⟨t, ht, hi, _⟩ := gatV_mem.1 hx
      obtain ⟨h5, h6⟩ := isOp_is.1 hi
      exact ⟨t, List.mem_filter.2 ⟨ht, isKey_iff.2 h5⟩, h6⟩
    rw [List.length_append]
    cases h1 : hasOp l k 1 with
    | true =>
      obtain ⟨t1, ht1, e1⟩ := hop 1 h1
      by_cases hN : (gatV 4 l k).length = 0
      · rw [if_pos hN]; simpa using hpos ht1
      · obtain ⟨t4, ht4, e4⟩ := h4 hN
        rw [if_neg hN]
        have := two_len ht1 ht4 (fun e => by rw [e, e4] at e1; cases e1)
        simpa using this
    | false =>
      by_cases hN : (gatV 4 l k).length = 0
      · rw [if_pos hN]; simp
      · obtain ⟨t4, ht4, e4⟩ := h4 hN
        rw [if_neg hN]
        simpa using hpos ht4
theorem count_keys : ∀ (ks : List ByteArray) (l : List Trm), ks.Nodup → (ks.map (fun k => (l.filter (isKey k)).length)).sum ≤ l.length
  | [], l, _ => by simp
  | k :: t, l, h => by
    rw [List.nodup_cons] at h
    have ih := count_keys t (l.filter (fun x => !(isKey k x))) h.2
    have e : t.map (fun q => (l.filter (isKey q)).length) = t.map (fun q => ((l.filter (fun x => !(isKey k x))).filter (isKey q)).length) := by
      refine List.map_congr_left fun q hq => ?_
      rw [List.filter_filter]
      congr 1
      refine List.filter_congr fun x _ => ?_
      cases hx : isKey q x with
      | false => simp
      | true =>
        have : isKey k x = false := by
          cases hk : isKey k x with
          | false => rfl
          | true => exact absurd (by rw [← isKey_iff.1 hk, isKey_iff.1 hx]; exact hq) h.1
        simp [this]
    have hs : (l.filter (isKey k)).length + (l.filter (fun x => !(isKey k x))).length = l.length := by
      have := List.length_eq_countP_add_countP (isKey k) (l := l)
      rw [List.countP_eq_length_filter, List.countP_eq_length_filter] at this
      have e2 : (fun a => decide ¬isKey k a = true) = (fun x => !(isKey k x)) := by funext x; cases isKey k x <;> rfl
      rw [e2] at this
      exact this.symm
    rw [List.map_cons, List.sum_cons, e]
    omega
theorem simp_shorter {l s : List Trm} (h : simplV l = some s) : s.length ≤ l.length := by
  unfold simplV at h
  split at h
  · rename_i hg
    obtain ⟨h1, h2⟩ := simpW_parts l _ _ _ h
    rw [List.nil_append] at h2
    have hc := count_keys (keysV l) l (ris_nodup (keysV_ris l))
    rw [h2, List.length_flatMap]
    refine Nat.le_trans ?_ hc
    have : ∀ (ks : List ByteArray), (∀ k ∈ ks, ∃ y, simpT l k = some y) → (ks.map (fun k => ((simpT l k).getD []).length)).sum ≤ (ks.map (fun k => (l.filter (isKey k)).length)).sum := by
      intro ks
      induction ks with
      | nil => intro _; exact Nat.le_refl _
      | cons k t ih =>
        intro hk
        obtain ⟨y, hy⟩ := hk k (by simp)
        have a1 := simpT_count hy
        have a2 := ih (fun q hq => hk q (List.mem_cons_of_mem _ hq))
        rw [List.map_cons, List.sum_cons, List.map_cons, List.sum_cons, hy]
        simp only [Option.getD_some]
        omega
    exact this _ h1
  · cases h
/- as short as it gets -/
theorem simpW_some {l : List Trm} {f : ByteArray → List Trm} : ∀ (ks : List ByteArray) (acc : List Trm), (∀ k ∈ ks, simpT l k = some (f k)) → ks.foldl (simpS l) (some acc) = some (acc ++ ks.flatMap f)
  | [], acc, _ => by simp
  | k :: t, acc, h => by
    rw [simpW_cons, h k (by simp)]
    simp only
    rw [simpW_some t (acc ++ f k) (fun q hq => h q (List.mem_cons_of_mem _ hq)), List.flatMap_cons, List.append_assoc]
theorem simpT_again {l s : List Trm} {k : ByteArray} {y : List Trm} (hy : simpT l k = some y) (hs : ∀ t, (t ∈ s ∧ t.1 = k) ↔ t ∈ y) : simpT s k = some y := by
  have hop : ∀ op, hasOp s k op = true ↔ ∃ t ∈ y, t.2.1 = op := fun op => by
    rw [hasOp_iff]
    constructor
    · rintro ⟨t, ht, hi⟩
      obtain ⟨h1, h2⟩ := isOp_is.1 hi
      exact ⟨t, (hs t).1 ⟨ht, h1⟩, h2⟩
    · rintro ⟨t, ht, h2⟩
      obtain ⟨h1, h3⟩ := (hs t).2 ht
      exact ⟨t, h1, isOp_is.2 ⟨h3, h2⟩⟩
  have hno : ∀ op, (∀ t ∈ y, t.2.1 ≠ op) → hasOp s k op = false := fun op h => by
    cases ho : hasOp s k op with
    | false => rfl
    | true =>
      obtain ⟨t, ht, e⟩ := (hop op).1 ho
      exact absurd e (h t ht)
  have hg : ∀ x, x ∈ gatV 4 s k ↔ ∃ t ∈ y, t.2.1 = 4 ∧ x ∈ t.2.2 := fun x => by
    rw [gatV_mem]
    constructor
    · rintro ⟨t, ht, hi, hx⟩
      obtain ⟨h1, h2⟩ := isOp_is.1 hi
      exact ⟨t, (hs t).1 ⟨ht, h1⟩, h2, hx⟩
    · rintro ⟨t, ht, h2, hx⟩
      obtain ⟨h1, h3⟩ := (hs t).2 ht
      exact ⟨t, h1, isOp_is.2 ⟨h3, h2⟩, hx⟩
  have h3s : ∀ t, (t ∈ s ∧ isOp k 3 t = true) ↔ (t ∈ y ∧ t.2.1 = 3) := fun t => by
    rw [isOp_is]
    constructor
    · rintro ⟨h1, h2, h3⟩; exact ⟨(hs t).1 ⟨h1, h2⟩, h3⟩
    · rintro ⟨h1, h2⟩; obtain ⟨h3, h4⟩ := (hs t).2 h1; exact ⟨h3, h4, h2⟩
  rcases simpT_form hy with ⟨_, rfl⟩ | ⟨_, hne, rfl⟩ | ⟨h2, h3, rfl⟩
  · have e2 : hasOp s k 2 = true := (hop 2).2 ⟨_, List.mem_singleton.2 rfl, rfl⟩
    have e1 : hasOp s k 1 = false := hno 1 (fun t ht => by rw [List.mem_singleton.1 ht]; simp)
    have e3 : hasOp s k 3 = false := hno 3 (fun t ht => by rw [List.mem_singleton.1 ht]; simp)
    unfold simpT
    rw [e2, e1, e3]
    rfl
  · generalize hA : allowV l k (gatV 4 l k) l = A at *
    have hrA : Ris A := by rw [← hA]; exact allowV_ris _ _ _
    have e2 : hasOp s k 2 = false := hno 2 (fun t ht => by rw [List.mem_singleton.1 ht]; simp)
    have e3 : hasOp s k 3 = true := (hop 3).2 ⟨_, List.mem_singleton.2 rfl, rfl⟩
    have eA : allowV s k (gatV 4 s k) s = A := by
      refine ris_uniq (allowV_ris _ _ _) hrA fun x => ?_
      rw [allowV_mem]
      constructor
      · rintro ⟨⟨t, ht, hi, hx⟩, _⟩
        have := ((h3s t).1 ⟨ht, hi⟩).1
        rw [List.mem_singleton.1 this] at hx
        exact hx
      · intro hx
        obtain ⟨h5, h6⟩ := (h3s (k, 3, A)).2 ⟨List.mem_singleton.2 rfl, rfl⟩
        refine ⟨⟨_, h5, h6, hx⟩, fun hn => ?_, fun t ht hi => ?_⟩
        · obtain ⟨t, ht, e, _⟩ := (hg x).1 hn
          rw [List.mem_singleton.1 ht] at e; cases e
        · have := ((h3s t).1 ⟨ht, hi⟩).1
          rw [List.mem_singleton.1 this]; exact hx
    unfold simpT
    rw [e2, e3, eA, if_neg (by simp), if_pos rfl, if_neg hne]
  · generalize hN : gatV 4 l k = N at *
    have hrN : Ris N := by rw [← hN]; exact gatV_ris _ _ _
    generalize hasOp l k 1 = p at *
    have hmem : ∀ t, t ∈ (if p = true then [((k, 1, []) : Trm)] else []) ++ (if N.length = 0 then [] else [(k, 4, N)]) ↔ (p = true ∧ t = (k, 1, [])) ∨ (N.length ≠ 0 ∧ t = (k, 4, N)) := fun t => by
      rw [List.mem_append]
      refine or_congr ?_ ?_
      · cases p <;> simp
      · by_cases h0 : N.length = 0
        · rw [if_pos h0]; simp [h0]
        · rw [if_neg h0]; simp [h0]
    have e2 : hasOp s k 2 = false := hno 2 (fun t ht => by rcases (hmem t).1 ht with ⟨_, rfl⟩ | ⟨_, rfl⟩ <;> simp)
    have e3 : hasOp s k 3 = false := hno 3 (fun t ht => by rcases (hmem t).1 ht with ⟨_, rfl⟩ | ⟨_, rfl⟩ <;> simp)
    have e1 : hasOp s k 1 = p := by
      cases p with
      | true => exact (hop 1).2 ⟨(k, 1, []), (hmem _).2 (.inl ⟨rfl, rfl⟩), rfl⟩
      | false => exact hno 1 (fun t ht => by
          rcases (hmem t).1 ht with ⟨h, _⟩ | ⟨_, rfl⟩
          · cases h
          · simp)
    have eN : gatV 4 s k = N := by
      refine ris_uniq (gatV_ris _ _ _) hrN fun x => ?_
      rw [hg x]
      constructor
      · rintro ⟨t, ht, e, hx⟩
        rcases (hmem t).1 ht with ⟨_, rfl⟩ | ⟨_, rfl⟩
        · cases hx
        · exact hx
      · intro hx
        have hne : N.length ≠ 0 := fun h0 => by rw [List.length_eq_zero_iff.1 h0] at hx; cases hx
        exact ⟨_, (hmem _).2 (.inr ⟨hne, rfl⟩), rfl, hx⟩
    unfold simpT
    rw [e1, e2, e3, eN, if_neg (by simp), if_neg (by simp)]
theorem simp_again {l s : List Trm} (h : simplV l = some s) : simplV s = some s ∧ s.all goodB = true := by
  have h0 := h
  unfold simplV at h
  split at h
  · rename_i hg
    have hgt := List.all_eq_true.1 hg
    obtain ⟨h1, h2⟩ := simpW_parts l _ _ _ h
    rw [List.nil_append] at h2
    have hgs : s.all goodB = true := by
      rw [List.all_eq_true]
      intro t ht
      rw [h2] at ht
      obtain ⟨k, hk, htk⟩ := List.mem_flatMap.1 ht
      obtain ⟨y, hy⟩ := h1 k hk
      rw [hy] at htk
      exact simpT_good hgt hk hy t htk
    have hpart : ∀ k ∈ keysV l, ∀ t, (t ∈ s ∧ t.1 = k) ↔ t ∈ (simpT l k).getD [] := fun k hk t => by
      constructor
      · rintro ⟨ht, e⟩
        rw [h2] at ht
        obtain ⟨q, hq, htq⟩ := List.mem_flatMap.1 ht
        obtain ⟨y, hy⟩ := h1 q hq
        have := (simpT_terms hy t (by rw [hy] at htq; exact htq)).1
        rw [e] at this
        rw [this]; exact htq
      · intro ht
        obtain ⟨y, hy⟩ := h1 k hk
        refine ⟨by rw [h2]; exact List.mem_flatMap.2 ⟨k, hk, ht⟩, ?_⟩
        rw [hy] at ht
        exact (simpT_terms hy t ht).1
    have hks : keysV s = keysV l := by
      refine ris_uniq (keysV_ris _) (keysV_ris _) fun x => ?_
      rw [keysV_mem]
      constructor
      · rintro ⟨t, ht, e⟩
        rw [h2] at ht
        obtain ⟨q, hq, htq⟩ := List.mem_flatMap.1 ht
        obtain ⟨y, hy⟩ := h1 q hq
        have := (simpT_terms hy t (by rw [hy] at htq; exact htq)).1
        rw [← e, this]; exact hq
      · intro hx
        obtain ⟨y, hy⟩ := h1 x hx
        obtain ⟨t, ht⟩ := List.exists_mem_of_ne_nil _ (simpT_ne hgt hx hy)
        exact ⟨t, by rw [h2]; exact List.mem_flatMap.2 ⟨x, hx, by rw [hy]; exact ht⟩, (simpT_terms hy t ht).1⟩
    refine ⟨?_, hgs⟩
    unfold simplV
    rw [hgs, if_pos rfl, hks]
    have := simpW_some (l := s) (f := fun k => (simpT l k).getD []) (keysV l) [] (fun k hk => by
      obtain ⟨y, hy⟩ := h1 k hk
      rw [simpT_again hy (fun t => by rw [hpart k hk t, hy]; rfl), hy]; rfl)
    unfold simpW
    rw [this, List.nil_append, ← h2]
  · cases h
end Go.Proofs.YtolekldjbbjmjaaGreatDoor
