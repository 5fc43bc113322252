import Derived.Test.YtolekldjbbjmjaaGreatDoorSimO
/- plain: what Simplify answers chooses just what the selector chooses (layer 20). -/
set_option linter.unusedSimpArgs false
set_option linter.unusedVariables false
namespace Go.Proofs.YtolekldjbbjmjaaGreatDoor
open Go.RowKit Go.Lib
theorem good_ops {t : Trm} (h : goodB t = true) : t.2.1 = 1 ∨ t.2.1 = 2 ∨ t.2.1 = 3 ∨ t.2.1 = 4 := by
  obtain ⟨key, op, vs⟩ := t
  rcases good_op h with h | h | ⟨h | h, _⟩
  · exact .inl h
  · exact .inr (.inl h)
  · exact .inr (.inr (.inl h))
  · exact .inr (.inr (.inr h))
theorem isOp_is {k : ByteArray} {op : Int} {t : Trm} : isOp k op t = true ↔ t.1 = k ∧ t.2.1 = op := by
  rw [isOp_key, Bool.and_eq_true, isKey_iff, beq_iff_eq]
theorem okS_iff {l : List Trm} {k : ByteArray} {no : List ByteArray} {x : ByteArray} : okS l k no x = true ↔ x ∉ no ∧ ∀ t ∈ l, isOp k 3 t = true → x ∈ t.2.2 := by
  unfold okS
  rw [Bool.and_eq_true, List.all_eq_true]
  refine and_congr ?_ (forall_congr' fun t => forall_congr' fun ht => ?_)
  · rw [Bool.not_eq_true', ← Bool.not_eq_true, amongB_iff]
  · unfold letQ
    cases h3 : isOp k 3 t with
    | true => simp [amongB_iff]
    | false => simp
theorem allowV_mem {l : List Trm} {k x : ByteArray} {no : List ByteArray} : x ∈ allowV l k no l ↔ (∃ t ∈ l, isOp k 3 t = true ∧ x ∈ t.2.2) ∧ x ∉ no ∧ ∀ t ∈ l, isOp k 3 t = true → x ∈ t.2.2 := by
  have := (allowV_spec l k no l [] List.Pairwise.nil).2 x
  unfold allowV
  rw [this, okS_iff]
  simp
theorem allowV_ris (l : List Trm) (k : ByteArray) (no : List ByteArray) : Ris (allowV l k no l) := (allowV_spec l k no l [] List.Pairwise.nil).1
/-- a term of a key, of what the labels tell of it -/
def tmB (th : Bool) (x : ByteArray) (t : Trm) : Prop := (t.2.1 = 1 → th = true) ∧ (t.2.1 = 2 → th = false) ∧ (t.2.1 = 3 → th = true ∧ x ∈ t.2.2) ∧ (t.2.1 = 4 → th = false ∨ x ∉ t.2.2)
theorem tmB_is {m : List Mem} {t : Trm} (h : t.2.1 = 1 ∨ t.2.1 = 2 ∨ t.2.1 = 3 ∨ t.2.1 = 4) : termB m t = true ↔ tmB (labF m t.1).2 (labF m t.1).1 t := by
  unfold termB holdsB tmB
  have ha : amongB t.2.2 (labF m t.1).1 = true ↔ (labF m t.1).1 ∈ t.2.2 := amongB_iff
  generalize (labF m t.1).2 = th at *
  generalize (labF m t.1).1 = x at *
  generalize amongB t.2.2 x = hit at *
  rcases h with h | h | h | h
  · rw [h]; simp
  · rw [h]; simp
  · rw [h, ← ha]; simp
  · rw [h, ← ha]; cases th <;> cases hit <;> simp
/-- what all terms of one key ask -/
def keyB (l : List Trm) (k : ByteArray) (th : Bool) (x : ByteArray) : Prop := (hasOp l k 1 = true → th = true) ∧ (hasOp l k 2 = true → th = false) ∧ (hasOp l k 3 = true → th = true) ∧ (∀ t ∈ l, isOp k 3 t = true → x ∈ t.2.2) ∧ (th = false ∨ x ∉ gatV 4 l k)
theorem keyB_is {l : List Trm} (hg : ∀ t ∈ l, goodB t = true) (k : ByteArray) (th : Bool) (x : ByteArray) : (∀ t ∈ l, t.1 = k → tmB th x t) ↔ keyB l k th x := by
  constructor
  · intro h
    have hop : ∀ op, hasOp l k op = true → ∃ t ∈ l, t.1 = k ∧ t.2.1 = op := fun op ho => by
      obtain ⟨t, ht, hi⟩ := hasOp_iff.1 ho
      exact ⟨t, ht, isOp_is.1 hi⟩
    refine ⟨fun ho => ?_, fun ho => ?_, fun ho => ?_, fun t ht hi => ?_, ?_⟩
    · obtain ⟨t, ht, h1, h2⟩ := hop 1 ho; exact (h t ht h1).1 h2
    · obtain ⟨t, ht, h1, h2⟩ := hop 2 ho; exact (h t ht h1).2.1 h2
    · obtain ⟨t, ht, h1, h2⟩ := hop 3 ho; exact ((h t ht h1).2.2.1 h2).1
    · obtain ⟨h1, h2⟩ := isOp_is.1 hi; exact ((h t ht h1).2.2.1 h2).2
    · cases th with
      | false => exact .inl rfl
      | true =>
        right
        intro hx
        obtain ⟨t, ht, hi, hxt⟩ := gatV_mem.1 hx
        obtain ⟨h1, h2⟩ := isOp_is.1 hi
        rcases (h t ht h1).2.2.2 h2 with h3 | h3
        · cases h3
        · exact h3 hxt
  · rintro ⟨h1, h2, h3, h4, h5⟩ t ht hk
    refine ⟨fun ho => h1 (hasOp_iff.2 ⟨t, ht, isOp_is.2 ⟨hk, ho⟩⟩), fun ho => h2 (hasOp_iff.2 ⟨t, ht, isOp_is.2 ⟨hk, ho⟩⟩), fun ho => ⟨h3 (hasOp_iff.2 ⟨t, ht, isOp_is.2 ⟨hk, ho⟩⟩), h4 t ht (isOp_is.2 ⟨hk, ho⟩)⟩, fun ho => ?_⟩
    exact h5.imp id (fun h hx => h (gatV_mem.2 ⟨t, ht, isOp_is.2 ⟨hk, ho⟩, hx⟩))
def simpA (y : Option (List Trm)) (th : Bool) (x : ByteArray) : Prop := match y with
  | none => False
  | some y => ∀ t ∈ y, tmB th x t
theorem simpA_is (l : List Trm) (k : ByteArray) (th : Bool) (x : ByteArray) : keyB l k th x ↔ simpA (simpT l k) th x := by
  have hal : ∀ z, z ∈ allowV l k (gatV 4 l k) l ↔ (∃ t ∈ l, isOp k 3 t = true ∧ z ∈ t.2.2) ∧ z ∉ gatV 4 l k ∧ ∀ t ∈ l, isOp k 3 t = true → z ∈ t.2.2 := fun z => allowV_mem
  have h3e : hasOp l k 3 = true ↔ ∃ t ∈ l, isOp k 3 t = true := hasOp_iff
  unfold simpT
  unfold keyB
  generalize allowV l k (gatV 4 l k) l = A at *
  generalize gatV 4 l k = N at *
  have D : ∀ {a b : Int} {P : Prop}, a ≠ b → a = b → P := fun h e => absurd e h
  cases h2 : hasOp l k 2 with
  | true =>
    rw [if_pos rfl]
    cases h1 : hasOp l k 1 with
    | true =>
      simp only [Bool.true_or, if_true, simpA, iff_false]
      rintro ⟨a, b, _⟩
      have a := a trivial
      rw [b trivial] at a; cases a
    | false =>
      cases h3 : hasOp l k 3 with
      | true =>
        simp only [Bool.false_or, if_true, simpA, iff_false]
        rintro ⟨_, b, a, _⟩
        have a := a trivial
        rw [b trivial] at a; cases a
      | false =>
        have hno : ∀ t ∈ l, ¬ isOp k 3 t = true := fun t ht hi => by
          have := h3e.2 ⟨t, ht, hi⟩; rw [h3] at this; cases this
        rw [Bool.or_self, if_neg (by simp)]
        constructor
        · rintro ⟨_, h, _⟩ t ht
          rw [List.mem_singleton.1 ht]
          exact ⟨D (by simp), fun _ => h rfl, D (by simp), D (by simp)⟩
        · intro h
          have h' := (h _ (List.mem_singleton.2 rfl)).2.1 rfl
          exact ⟨fun h => by (cases h), fun _ => h', fun h => by (cases h), fun t ht hi => absurd hi (hno t ht), .inl h'⟩
  | false =>
    rw [if_neg (by simp)]
    cases h3 : hasOp l k 3 with
    | true =>
      obtain ⟨t0, ht0, hi0⟩ := h3e.1 h3
      rw [if_pos rfl]
      by_cases hA : A.length = 0
      · rw [if_pos hA]
        have hA0 : A = [] := List.length_eq_zero_iff.1 hA
        simp only [simpA, iff_false]
        rintro ⟨_, _, h, h4, h5⟩
        have : x ∈ A := (hal x).2 ⟨⟨t0, ht0, hi0, h4 t0 ht0 hi0⟩, h5.resolve_left (by rw [h trivial]; simp), h4⟩
        rw [hA0] at this; cases this
      · rw [if_neg hA]
        constructor
        · rintro ⟨_, _, h, h4, h5⟩ t ht
          rw [List.mem_singleton.1 ht]
          exact ⟨D (by simp), D (by simp), fun _ => ⟨h rfl, (hal x).2 ⟨⟨t0, ht0, hi0, h4 t0 ht0 hi0⟩, h5.resolve_left (by rw [h rfl]; simp), h4⟩⟩, D (by simp)⟩
        · intro h
          obtain ⟨h', hx⟩ := (h _ (List.mem_singleton.2 rfl)).2.2.1 rfl
          obtain ⟨_, h6, h7⟩ := (hal x).1 hx
          exact ⟨fun _ => h', fun h => by (cases h), fun _ => h', h7, .inr h6⟩
    | false =>
      have hno : ∀ t ∈ l, ¬ isOp k 3 t = true := fun t ht hi => by
        have := h3e.2 ⟨t, ht, hi⟩; rw [h3] at this; cases this
      rw [if_neg (by simp)]
      constructor
      · rintro ⟨h1, _, _, _, h5⟩ t ht
        rcases List.mem_append.1 ht with ht | ht
        · split at ht
          · rename_i hh
            rw [List.mem_singleton.1 ht]
            exact ⟨fun _ => h1 hh, D (by simp), D (by simp), D (by simp)⟩
          · cases ht
        · split at ht
          · cases ht
          · rw [List.mem_singleton.1 ht]
            exact ⟨D (by simp), D (by simp), D (by simp), fun _ => h5⟩
      · intro h
        refine ⟨fun hh => ?_, fun h => by (cases h), fun h => by (cases h), fun t ht hi => absurd hi (hno t ht), ?_⟩
        · have := h (k, 1, []) (List.mem_append_left _ (by rw [if_pos hh]; simp))
          exact this.1 rfl
        · by_cases hN : N.length = 0
          · right
            rw [List.length_eq_zero_iff.1 hN]; simp
          · have := h (k, 4, N) (List.mem_append_right _ (by rw [if_neg hN]; simp))
            exact this.2.2.2 rfl
/-- of what keys the terms are, and what they are -/
theorem simpT_terms {l : List Trm} {k : ByteArray} {y : List Trm} (h : simpT l k = some y) : ∀ t ∈ y, t.1 = k ∧ (t.2.1 = 1 ∨ t.2.1 = 2 ∨ t.2.1 = 3 ∨ t.2.1 = 4) := by
  unfold simpT at h
  split at h
  · split at h
    · cases h
    · cases h; intro t ht; rw [List.mem_singleton.1 ht]; exact ⟨rfl, .inr (.inl rfl)⟩
  · split at h
    · split at h
      · cases h
      · cases h; intro t ht; rw [List.mem_singleton.1 ht]; exact ⟨rfl, .inr (.inr (.inl rfl))⟩
    · cases h
      intro t ht
      rcases List.mem_append.1 ht with ht | ht
      · split at ht
        · rw [List.mem_singleton.1 ht]; exact ⟨rfl, .inl rfl⟩
        · cases ht
      · split at ht
        · cases ht
        · rw [List.mem_singleton.1 ht]; exact ⟨rfl, .inr (.inr (.inr rfl))⟩
theorem simpW_cons (l : List Trm) (k : ByteArray) (t : List ByteArray) (acc : List Trm) : (k :: t).foldl (simpS l) (some acc) = match simpT l k with
    | none => none
    | some y => t.foldl (simpS l) (some (acc ++ y)) := by
  rw [List.foldl_cons]
  unfold simpS
  cases simpT l k with
  | none => exact simpS_none l t
  | some y => rfl
/-- the whole is the parts, one behind the other -/
theorem simpW_parts (l : List Trm) : ∀ (ks : List ByteArray) (acc s : List Trm), ks.foldl (simpS l) (some acc) = some s → (∀ k ∈ ks, ∃ y, simpT l k = some y) ∧ s = acc ++ ks.flatMap (fun k => (simpT l k).getD [])
  | [], acc, s, h => by
    simp only [List.foldl_nil, Option.some.injEq] at h
    exact ⟨fun k hk => (by cases hk), by rw [h]; simp⟩
  | k :: t, acc, s, h => by
    rw [simpW_cons] at h
    cases hk : simpT l k with
    | none => rw [hk] at h; cases h
    | some y =>
      rw [hk] at h
      obtain ⟨h1, h2⟩ := simpW_parts l t (acc ++ y) s h
      refine ⟨fun q hq => ?_, by rw [h2, List.flatMap_cons, hk]; simp⟩
      rcases List.mem_cons.1 hq with rfl | hq
      · exact ⟨y, hk⟩
      · exact h1 q hq
theorem simpW_none (l : List Trm) : ∀ (ks : List ByteArray) (acc : List Trm), ks.foldl (simpS l) (some acc) = none → ∃ k ∈ ks, simpT l k = none
  | [], acc, h => by cases h
  | k :: t, acc, h => by
    rw [simpW_cons] at h
    cases hk : simpT l k with
    | none => exact ⟨k, by simp, hk⟩
    | some y =>
      rw [hk] at h
      obtain ⟨q, hq, e⟩ := simpW_none l t _ h
      exact ⟨q, List.mem_cons_of_mem _ hq, e⟩
theorem all_keys {l : List Trm} {m : List Mem} (hg : ∀ t ∈ l, goodB t = true) : l.all (termB m) = true ↔ ∀ k ∈ keysV l, simpA (simpT l k) (labF m k).2 (labF m k).1 := by
  rw [List.all_eq_true]
  constructor
  · intro h k hk
    rw [← simpA_is, ← keyB_is hg]
    intro t ht e
    have := h t ht
    rw [tmB_is (good_ops (hg t ht)), e] at this
    exact this
  · intro h t ht
    have := h t.1 (keysV_mem.2 ⟨t, ht, rfl⟩)
    rw [← simpA_is, ← keyB_is hg] at this
    rw [tmB_is (good_ops (hg t ht))]
    exact this t ht rfl
theorem simp_no {l : List Trm} (m : List Mem) (h : simplV l = none) : matchB l m = false := by
  unfold matchB
  cases hg : l.all goodB with
  | false => rfl
  | true =>
    rw [Bool.true_and]
    have hgt := List.all_eq_true.1 hg
    unfold simplV at h
    rw [hg, if_pos rfl] at h
    obtain ⟨k, hk, e⟩ := simpW_none l _ _ h
    cases ha : l.all (termB m) with
    | false => rfl
    | true =>
      have := (all_keys hgt).1 ha k hk
      rw [e] at this
      exact this.elim
theorem simp_terms {l s : List Trm} {m : List Mem} (h : simplV l = some s) : l.all goodB = true ∧ (l.all (termB m) = s.all (termB m)) := by
  unfold simplV at h
  split at h
  · rename_i hg
    refine ⟨hg, ?_⟩
    obtain ⟨h1, h2⟩ := simpW_parts l _ _ _ h
    rw [List.nil_append] at h2
    have hgt := List.all_eq_true.1 hg
    rw [Bool.eq_iff_iff, all_keys hgt, List.all_eq_true, h2]
    constructor
    · intro ha t ht
      obtain ⟨k, hk, htk⟩ := List.mem_flatMap.1 ht
      obtain ⟨y, hy⟩ := h1 k hk
      rw [hy] at htk
      have := ha k hk
      rw [hy] at this
      obtain ⟨e, hop⟩ := simpT_terms hy t htk
      rw [tmB_is hop, e]
      exact this t htk
    · intro ha k hk
      obtain ⟨y, hy⟩ := h1 k hk
      rw [hy]
      intro t ht
      obtain ⟨e, hop⟩ := simpT_terms hy t ht
      have := ha t (List.mem_flatMap.2 ⟨k, hk, by rw [hy]; exact ht⟩)
      rw [tmB_is hop, e] at this
      exact this
  · cases h
end Go.Proofs.YtolekldjbbjmjaaGreatDoor
