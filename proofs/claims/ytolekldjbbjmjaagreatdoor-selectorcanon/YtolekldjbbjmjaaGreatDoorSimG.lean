import Derived.Test.YtolekldjbbjmjaaGreatDoorG21
import Derived.Sort.Walk0
import Derived.Lib.SlicesCompact
import Derived.Sort.KeysCollected
/- plain: rows of texts that rise; what the document's rows hold; what the program gathers of a key (layer 20). -/
set_option linter.unusedSimpArgs false
set_option linter.unusedVariables false
namespace Go.Proofs.YtolekldjbbjmjaaGreatDoor
open Go.RowKit Go.Lib
abbrev ltS (a b : ByteArray) : Prop := Op.bytesLess a.toList b.toList = true
def Ris (l : List ByteArray) : Prop := l.Pairwise ltS
theorem ris_lt {l : List ByteArray} (h : Ris l) {i k : Nat} (hk : k < l.length) (hi : i < k) : Op.bytesLess (l[i]'(by omega)).toList (l[k]).toList = true := List.pairwise_iff_getElem.1 h i k _ hk hi
theorem ris_search {l : List ByteArray} (h : Ris l) (x : ByteArray) (t : Nat) (ht : t < l.length) : Op.bytesLess (l[t]).toList x.toList = decide (t < putI l x) := by
  by_cases h1 : t < putI l x
  · rw [decide_eq_true h1]; exact putI_lt h1
  · rw [decide_eq_false h1]
    have h2 := putI_stop (l := l) (x := x) (by omega)
    by_cases e : t = putI l x
    · simp only [e]; exact h2
    · cases hb : Op.bytesLess (l[t]).toList x.toList with
      | false => rfl
      | true =>
        have h3 := less_trans (ris_lt h ht (i := putI l x) (by omega)) hb
        rw [h2] at h3
        cases h3
theorem ris_hit {l : List ByteArray} (h : Ris l) (x : ByteArray) : hitS l (putI l x) x = amongB l x := by
  rw [Bool.eq_iff_iff, amongB_iff]
  unfold hitS
  constructor
  · intro h1
    split at h1
    · rename_i s hs
      rw [beq_iff_eq] at h1
      have := bytes_ext9 h1
      subst this
      exact List.mem_of_getElem? hs
    · cases h1
  · intro hx
    obtain ⟨i, hi, rfl⟩ := List.mem_iff_getElem.1 hx
    have h1 := ris_search h l[i] i hi
    rw [less_self] at h1
    have h1 : ¬ i < putI l l[i] := of_decide_eq_false h1.symm
    have h2 : ¬ putI l l[i] < i := fun hlt => by
      have a1 := ris_lt h hi hlt
      have a2 := putI_stop (l := l) (x := l[i]) (by omega)
      rw [a2] at a1
      cases a1
    have e : putI l l[i] = i := by omega
    rw [e, List.getElem?_eq_getElem hi]
    simp
theorem ris_vals {l : List ByteArray} (h : valsB l = true) : Ris l := List.pairwise_iff_getElem.2 fun i j hi hj hij => vals_lt h hj hij
theorem ltS_ne {a b : ByteArray} (h : ltS a b) : a ≠ b := fun e => by
  subst e
  have := less_self a.toList
  unfold ltS at h
  rw [this] at h; cases h
theorem ris_nodup {l : List ByteArray} (h : Ris l) : l.Nodup := h.imp fun h => ltS_ne h
theorem ris_uniq {a b : List ByteArray} (h1 : Ris a) (h2 : Ris b) (hm : ∀ x, x ∈ a ↔ x ∈ b) : a = b := by
  refine List.Perm.eq_of_pairwise (le := ltS) (fun x y _ _ q1 q2 => ?_) h1 h2 ((List.perm_ext_iff_of_nodup (ris_nodup h1) (ris_nodup h2)).2 hm)
  exact absurd rfl (ltS_ne (less_trans q1 q2))
theorem ris_filter {l : List ByteArray} (h : Ris l) (p : ByteArray → Bool) : Ris (l.filter p) := h.filter p
theorem not_less {a b : ByteArray} (h : Op.bytesLess a.toList b.toList = false) (hne : b ≠ a) : ltS b a := by
  have h1 := less_turn b.toList a.toList
  rw [h] at h1
  have h2 : (b.toList == a.toList) = false := by rw [beq_eq_false_iff_ne]; exact fun e => hne (bytes_ext9 e)
  rw [h2, Bool.or_false] at h1
  exact h1
theorem addV_memI {l : List ByteArray} {s x : ByteArray} : x ∈ addV l s ↔ x ∈ l ∨ x = s := by
  refine ⟨addV_mem, fun h => ?_⟩
  unfold addV
  split
  · rename_i ha
    rcases h with h | h
    · exact h
    · rw [h]; exact amongB_iff.1 ha
  · rw [List.mem_append, List.mem_append]
    rcases h with h | h
    · rw [← List.take_append_drop (addI l s) l, List.mem_append] at h
      exact h.elim (fun h => .inl (.inl h)) .inr
    · exact .inl (.inr (by rw [h]; simp))
theorem addV_ris {l : List ByteArray} (h : Ris l) (s : ByteArray) : Ris (addV l s) := by
  unfold addV
  split
  · exact h
  · rename_i ha
    have hns : s ∉ l := fun hs => ha (amongB_iff.2 hs)
    have hd : ∀ x ∈ l.drop (addI l s), ltS s x := fun x hx => by
      obtain ⟨k, hk, rfl⟩ := List.mem_iff_getElem.1 hx
      rw [List.length_drop] at hk
      have h1 := addI_stop (l := l) (s := s) (by omega)
      rw [List.getElem_drop]
      by_cases e : k = 0
      · subst e; simpa using h1
      · exact less_trans h1 (ris_lt h (k := addI l s + k) (by omega) (by omega))
    have ht : ∀ x ∈ l.take (addI l s), ltS x s := fun x hx => by
      obtain ⟨k, hk, rfl⟩ := List.mem_iff_getElem.1 hx
      rw [List.length_take] at hk
      rw [List.getElem_take]
      refine not_less (addI_lt (by omega)) (fun e => hns ?_)
      rw [← e]; exact List.getElem_mem _
    refine List.pairwise_append.2 ⟨List.pairwise_append.2 ⟨h.sublist (List.take_sublist _ _), List.pairwise_singleton _ _, ?_⟩, h.sublist (List.drop_sublist _ _), ?_⟩
    · intro x hx y hy
      rw [List.mem_singleton.1 hy]; exact ht x hx
    · intro x hx y hy
      rcases List.mem_append.1 hx with hx | hx
      · exact less_trans (ht x hx) (hd y hy)
      · rw [List.mem_singleton.1 hx]; exact hd y hy
theorem addsV_ris : ∀ {vs acc : List ByteArray}, Ris acc → Ris (addsV acc vs)
  | [], _, h => h
  | x :: t, acc, h => addsV_ris (vs := t) (acc := addV acc x) (addV_ris h x)
theorem addsV_mem : ∀ {vs acc : List ByteArray} {x : ByteArray}, x ∈ addsV acc vs ↔ x ∈ acc ∨ x ∈ vs
  | [], acc, x => by simp [addsV]
  | y :: t, acc, x => by
    have e : addsV acc (y :: t) = addsV (addV acc y) t := rfl
    rw [e, addsV_mem, addV_memI, List.mem_cons, or_assoc]
theorem keysV_ris (l : List Trm) : Ris (keysV l) := addsV_ris List.Pairwise.nil
theorem keysV_mem {l : List Trm} {x : ByteArray} : x ∈ keysV l ↔ ∃ t ∈ l, t.1 = x := by
  unfold keysV
  rw [addsV_mem]
  simp
theorem gatV_spec (op : Int) (key : ByteArray) : ∀ (l : List Trm) (acc : List ByteArray), Ris acc → Ris (l.foldl (fun acc t => if isOp key op t then addsV acc t.2.2 else acc) acc) ∧ ∀ x, x ∈ l.foldl (fun acc t => if isOp key op t then addsV acc t.2.2 else acc) acc ↔ x ∈ acc ∨ ∃ t ∈ l, isOp key op t = true ∧ x ∈ t.2.2
  | [], acc, h => ⟨h, fun x => by simp⟩
  | t :: r, acc, h => by
    simp only [List.foldl_cons]
    cases ht : isOp key op t with
    | true =>
      have ih := gatV_spec op key r (addsV acc t.2.2) (addsV_ris h)
      refine ⟨by simpa using ih.1, fun x => ?_⟩
      have := ih.2 x
      rw [if_pos rfl, this, addsV_mem]
      simp [ht, or_assoc]
    | false =>
      have ih := gatV_spec op key r acc h
      refine ⟨by simpa using ih.1, fun x => ?_⟩
      have := ih.2 x
      rw [if_neg (by simp), this]
      simp [ht]
theorem gatV_ris (op : Int) (l : List Trm) (key : ByteArray) : Ris (gatV op l key) := (gatV_spec op key l [] List.Pairwise.nil).1
theorem gatV_mem {op : Int} {l : List Trm} {key x : ByteArray} : x ∈ gatV op l key ↔ ∃ t ∈ l, isOp key op t = true ∧ x ∈ t.2.2 := by
  have := (gatV_spec op key l [] List.Pairwise.nil).2 x
  unfold gatV
  rw [this]; simp
theorem pickL_spec (l : List Trm) (key : ByteArray) (no : List ByteArray) : ∀ (vs acc : List ByteArray), Ris acc → Ris (pickL l key no acc vs) ∧ ∀ x, x ∈ pickL l key no acc vs ↔ x ∈ acc ∨ (x ∈ vs ∧ okS l key no x = true)
  | [], acc, h => ⟨h, fun x => by simp [pickL]⟩
  | s :: r, acc, h => by
    have e : pickL l key no acc (s :: r) = pickL l key no (if okS l key no s then addV acc s else acc) r := rfl
    rw [e]
    cases ht : okS l key no s with
    | true =>
      have ih := pickL_spec l key no r (addV acc s) (addV_ris h s)
      refine ⟨by simpa using ih.1, fun x => ?_⟩
      rw [if_pos rfl, ih.2 x, addV_memI, List.mem_cons]
      constructor
      · rintro ((h | h) | h)
        · exact .inl h
        · exact .inr ⟨.inl h, by rw [h]; exact ht⟩
        · exact .inr ⟨.inr h.1, h.2⟩
      · rintro (h | ⟨h | h, h2⟩)
        · exact .inl (.inl h)
        · exact .inl (.inr h)
        · exact .inr ⟨h, h2⟩
    | false =>
      have ih := pickL_spec l key no r acc h
      refine ⟨by simpa using ih.1, fun x => ?_⟩
      rw [if_neg (by simp), ih.2 x, List.mem_cons]
      constructor
      · rintro (h | h)
        · exact .inl h
        · exact .inr ⟨.inr h.1, h.2⟩
      · rintro (h | ⟨h | h, h2⟩)
        · exact .inl h
        · rw [h, ht] at h2; cases h2
        · exact .inr ⟨h, h2⟩
theorem allowV_spec (l : List Trm) (key : ByteArray) (no : List ByteArray) : ∀ (k : List Trm) (acc : List ByteArray), Ris acc → Ris (k.foldl (fun acc t => if isOp key 3 t then pickL l key no acc t.2.2 else acc) acc) ∧ ∀ x, x ∈ k.foldl (fun acc t => if isOp key 3 t then pickL l key no acc t.2.2 else acc) acc ↔ x ∈ acc ∨ ((∃ t ∈ k, isOp key 3 t = true ∧ x ∈ t.2.2) ∧ okS l key no x = true)
  | [], acc, h => ⟨h, fun x => by simp⟩
  | t :: r, acc, h => by
    simp only [List.foldl_cons]
    cases ht : isOp key 3 t with
    | true =>
      have hp := pickL_spec l key no t.2.2 acc h
      have ih := allowV_spec l key no r (pickL l key no acc t.2.2) hp.1
      refine ⟨by simpa using ih.1, fun x => ?_⟩
      rw [if_pos rfl, ih.2 x, hp.2 x]
      constructor
      · rintro ((h | h) | h)
        · exact .inl h
        · exact .inr ⟨⟨t, by simp, ht, h.1⟩, h.2⟩
        · obtain ⟨⟨u, h1, h2, h3⟩, h4⟩ := h
          exact .inr ⟨⟨u, List.mem_cons_of_mem _ h1, h2, h3⟩, h4⟩
      · rintro (h | ⟨⟨u, h1, h2, h3⟩, h4⟩)
        · exact .inl (.inl h)
        · rcases List.mem_cons.1 h1 with rfl | h1
          · exact .inl (.inr ⟨h3, h4⟩)
          · exact .inr ⟨⟨u, h1, h2, h3⟩, h4⟩
    | false =>
      have ih := allowV_spec l key no r acc h
      refine ⟨by simpa using ih.1, fun x => ?_⟩
      rw [if_neg (by simp), ih.2 x]
      constructor
      · rintro (h | ⟨⟨u, h1, h2, h3⟩, h4⟩)
        · exact .inl h
        · exact .inr ⟨⟨u, List.mem_cons_of_mem _ h1, h2, h3⟩, h4⟩
      · rintro (h | ⟨⟨u, h1, h2, h3⟩, h4⟩)
        · exact .inl h
        · rcases List.mem_cons.1 h1 with rfl | h1
          · rw [ht] at h2; cases h2
          · exact .inr ⟨⟨u, h1, h2, h3⟩, h4⟩
/- what the program gathers of a key -/
structure Pd where
  h : Bool
  hn : Bool
  i : Bool
  s : List ByteArray
  n : List ByteArray
def pdZ : Pd := ⟨false, false, false, [], []⟩
def Pd.add (d : Pd) (t : Trm) : Pd := if t.2.1 = 1 then ⟨true, d.hn, d.i, d.s, d.n⟩ else if t.2.1 = 2 then ⟨d.h, true, d.i, d.s, d.n⟩ else if t.2.1 = 3 then ⟨d.h, d.hn, true, if d.i then d.s.filter (amongB t.2.2) else t.2.2, d.n⟩ else if t.2.1 = 4 then ⟨d.h, d.hn, d.i, d.s, d.n ++ t.2.2⟩ else d
def isKey (k : ByteArray) (t : Trm) : Bool := t.1.toList == k.toList
def pdF (k : ByteArray) (d : Pd) (l : List Trm) : Pd := l.foldl (fun d t => if isKey k t then d.add t else d) d
def pdOf (l : List Trm) (k : ByteArray) : Pd := pdF k pdZ l
theorem pdOf_next {l : List Trm} {j : Nat} (h : j < l.length) (k : ByteArray) : pdOf (l.take (j + 1)) k = if isKey k l[j] then (pdOf (l.take j) k).add l[j] else pdOf (l.take j) k := by
  unfold pdOf pdF
  rw [List.take_succ_eq_append_getElem h, List.foldl_append]
  rfl
theorem isOp_key {k : ByteArray} {op : Int} {t : Trm} : isOp k op t = (isKey k t && (t.2.1 == op)) := rfl
theorem op_neq {a b : Int} (h : a ≠ b) : (a == b) = false := by rw [beq_eq_false_iff_ne]; exact h
structure PdSpec (k : ByteArray) (d : Pd) (l : List Trm) : Prop where
  h : (pdF k d l).h = (d.h || hasOp l k 1)
  hn : (pdF k d l).hn = (d.hn || hasOp l k 2)
  i : (pdF k d l).i = (d.i || hasOp l k 3)
  n : ∀ x, x ∈ (pdF k d l).n ↔ x ∈ d.n ∨ ∃ t ∈ l, isOp k 4 t = true ∧ x ∈ t.2.2
  s : ∀ x, x ∈ (pdF k d l).s ↔ ((d.i = true ∧ x ∈ d.s) ∨ (d.i = false ∧ hasOp l k 3 = true)) ∧ ∀ t ∈ l, isOp k 3 t = true → x ∈ t.2.2
  r : Ris (pdF k d l).s
theorem hasOp_cons (t : Trm) (l : List Trm) (k : ByteArray) (op : Int) : hasOp (t :: l) k op = (isOp k op t || hasOp l k op) := by unfold hasOp; rw [List.any_cons]
theorem pd_spec (k : ByteArray) : ∀ (l : List Trm) (d : Pd), Ris d.s → (d.i = false → d.s = []) → (∀ t ∈ l, valsB t.2.2 = true) → PdSpec k d l
  | [], d, h1, h2, _ => ⟨by simp [pdF, hasOp], by simp [pdF, hasOp], by simp [pdF, hasOp], fun x => by simp [pdF], fun x => by
      cases hi : d.i with
      | true => simp [pdF, hasOp]
      | false => simp [pdF, hasOp, h2 hi], h1⟩
  | t :: l, d, h1, h2, hv => by
    have hvt := hv t (by simp)
    have hvl : ∀ t ∈ l, valsB t.2.2 = true := fun u hu => hv u (List.mem_cons_of_mem _ hu)
    cases hk : isKey k t with
    | false =>
      have e : pdF k d (t :: l) = pdF k d l := by unfold pdF; rw [List.foldl_cons, hk]; rfl
      have ih := pd_spec k l d h1 h2 hvl
      have hno : ∀ op, isOp k op t = false := fun op => by rw [isOp_key, hk, Bool.false_and]
      refine ⟨?_, ?_, ?_, fun x => ?_, fun x => ?_, ?_⟩
      · rw [e, ih.h, hasOp_cons, hno, Bool.false_or]
      · rw [e, ih.hn, hasOp_cons, hno, Bool.false_or]
      · rw [e, ih.i, hasOp_cons, hno, Bool.false_or]
      · rw [e, ih.n x]; simp [hno]
      · rw [e, ih.s x, hasOp_cons, hno, Bool.false_or]; simp [hno]
      · rw [e]; exact ih.r
    | true =>
      have e : pdF k d (t :: l) = pdF k (d.add t) l := by unfold pdF; rw [List.foldl_cons, hk]; rfl
      have ho : ∀ op, isOp k op t = (t.2.1 == op) := fun op => by rw [isOp_key, hk, Bool.true_and]
      by_cases c3 : t.2.1 = 3
      · have ea : d.add t = ⟨d.h, d.hn, true, if d.i then d.s.filter (amongB t.2.2) else t.2.2, d.n⟩ := by unfold Pd.add; rw [if_neg (by omega), if_neg (by omega), if_pos c3]
        have hr : Ris (d.add t).s := by
          rw [ea]
          show Ris (if d.i then _ else _)
          split
          · exact ris_filter h1 _
          · exact ris_vals hvt
        have ih := pd_spec k l (d.add t) hr (fun h => by rw [ea] at h; cases h) hvl
        have o1 : isOp k 1 t = false := by rw [ho, c3]; rfl
        have o2 : isOp k 2 t = false := by rw [ho, c3]; rfl
        have o3 : isOp k 3 t = true := by rw [ho, c3]; rfl
        have o4 : isOp k 4 t = false := by rw [ho, c3]; rfl
        refine ⟨?_, ?_, ?_, fun x => ?_, fun x => ?_, ?_⟩
        · rw [e, ih.h, hasOp_cons, o1, Bool.false_or, ea]
        · rw [e, ih.hn, hasOp_cons, o2, Bool.false_or, ea]
        · rw [e, ih.i, hasOp_cons, o3, ea]; simp
        · rw [e, ih.n x, ea]; simp [o4]
        · rw [e, ih.s x, hasOp_cons, o3, ea]
          have hx : x ∈ (if d.i then d.s.filter (amongB t.2.2) else t.2.2) ↔ (d.i = true ∧ x ∈ d.s ∨ d.i = false) ∧ x ∈ t.2.2 := by
            cases hi : d.i with
            | true => simp [amongB_iff]
            | false => simp
          simp only [true_and, hx, List.mem_cons, forall_eq_or_imp, o3, Bool.true_or, and_true, true_implies]
          constructor
          · rintro ⟨(h | h), h3⟩
            · exact ⟨h.1, h.2, h3⟩
            · cases h.1
          · rintro ⟨h, h3, h4⟩
            exact ⟨.inl ⟨h, h3⟩, h4⟩
        · rw [e]; exact ih.r
      · have es : (d.add t).s = d.s ∧ (d.add t).i = d.i := by
          unfold Pd.add
          split
          · exact ⟨rfl, rfl⟩
          · split
            · exact ⟨rfl, rfl⟩
            · (try rw [if_neg c3])
              split <;> exact ⟨rfl, rfl⟩
        have ih := pd_spec k l (d.add t) (by rw [es.1]; exact h1) (by rw [es.1, es.2]; exact h2) hvl
        have o3 : isOp k 3 t = false := by rw [ho]; exact op_neq c3
        have e1 : (d.add t).h = (d.h || isOp k 1 t) := by
          rw [ho]; unfold Pd.add
          split
          · rename_i h; rw [h]; simp
          · rename_i h; rw [op_neq h, Bool.or_false]; (try rw [if_neg c3])
            split
            · rfl
            · split <;> rfl
        have e2 : (d.add t).hn = (d.hn || isOp k 2 t) := by
          rw [ho]; unfold Pd.add
          split
          · rename_i h; rw [h]; simp
          · split
            · rename_i h; rw [h]; simp
            · rename_i h; rw [op_neq h, Bool.or_false]; (try rw [if_neg c3]); split <;> rfl
        have e4 : ∀ x, x ∈ (d.add t).n ↔ x ∈ d.n ∨ (isOp k 4 t = true ∧ x ∈ t.2.2) := fun x => by
          rw [ho]; unfold Pd.add
          split
          · rename_i h; rw [h]; simp
          · split
            · rename_i h; rw [h]; simp
            · (try rw [if_neg c3])
              split
              · rename_i h; rw [h]; simp
              · rename_i h; simp [op_neq h]
        refine ⟨?_, ?_, ?_, fun x => ?_, fun x => ?_, ?_⟩
        · rw [e, ih.h, e1, hasOp_cons, Bool.or_assoc]
        · rw [e, ih.hn, e2, hasOp_cons, Bool.or_assoc]
        · rw [e, ih.i, es.2, hasOp_cons, o3, Bool.false_or]
        · rw [e, ih.n x, e4 x]; simp [or_assoc]
        · rw [e, ih.s x, es.1, es.2, hasOp_cons, o3, Bool.false_or]; simp [o3]
        · rw [e]; exact ih.r
theorem hasOp_iff {l : List Trm} {k : ByteArray} {op : Int} : hasOp l k op = true ↔ ∃ t ∈ l, isOp k op t = true := by unfold hasOp; rw [List.any_eq_true]
theorem pd_of {l : List Trm} (hg : l.all goodB = true) (k : ByteArray) : PdSpec k pdZ l := pd_spec k l pdZ List.Pairwise.nil (fun _ => rfl) (fun t ht => good_vals (List.all_eq_true.1 hg t ht))
/-- a key's demand, settled, is what the document tells of it -/
theorem pd_none {l : List Trm} (hg : l.all goodB = true) (k : ByteArray) {n' : List ByteArray} (hr : Ris n') (hm : ∀ x, x ∈ n' ↔ x ∈ (pdOf l k).n) : n' = gatV 4 l k := by
  refine ris_uniq hr (gatV_ris _ _ _) fun x => ?_
  rw [hm x, gatV_mem]
  have := (pd_of hg k).n x
  unfold pdOf
  rw [this]; simp [pdZ]
theorem pd_some {l : List Trm} (hg : l.all goodB = true) (k : ByteArray) : (pdOf l k).s.filter (fun x => !(amongB (gatV 4 l k) x)) = allowV l k (gatV 4 l k) l := by
  have hs := allowV_spec l k (gatV 4 l k) l [] List.Pairwise.nil
  have hp := pd_of hg k
  refine ris_uniq (ris_filter hp.r _) hs.1 fun x => ?_
  have h1 := hs.2 x
  unfold allowV
  rw [h1, List.mem_filter]
  have h2 := hp.s x
  unfold pdOf
  rw [h2]
  have hok : okS l k (gatV 4 l k) x = true ↔ (!(amongB (gatV 4 l k) x)) = true ∧ ∀ t ∈ l, isOp k 3 t = true → x ∈ t.2.2 := by
    unfold okS
    rw [Bool.and_eq_true, List.all_eq_true]
    refine and_congr Iff.rfl (forall_congr' fun t => forall_congr' fun ht => ?_)
    unfold letQ
    cases h3 : isOp k 3 t with
    | true => simp [amongB_iff]
    | false => simp
  rw [hok]
  simp only [pdZ, Bool.false_eq_true, false_and, true_and, false_or, List.not_mem_nil, hasOp_iff]
  constructor
  · rintro ⟨⟨⟨t, h1, h2⟩, h3⟩, h4⟩
    exact ⟨⟨t, h1, h2, h3 t h1 h2⟩, h4, h3⟩
  · rintro ⟨⟨t, h1, h2, _⟩, h4, h3⟩
    exact ⟨⟨⟨t, h1, h2⟩, h3⟩, h4⟩
/-- what is told of a key, of its settled demand -/
def tellV (k : ByteArray) (d : Pd) : List Trm := if d.hn then [(k, 2, [])] else if d.i then [(k, 3, d.s)] else (if d.h then [(k, 1, [])] else []) ++ (if d.n.length = 0 then [] else [(k, 4, d.n)])
def canB (d : Pd) : Bool := if d.hn then !d.h && !d.i else !d.i || decide (0 < d.s.length)
def pdS (l : List Trm) (k : ByteArray) : Pd := ⟨hasOp l k 1, hasOp l k 2, hasOp l k 3, allowV l k (gatV 4 l k) l, gatV 4 l k⟩
theorem simpT_is (l : List Trm) (k : ByteArray) : simpT l k = if canB (pdS l k) then some (tellV k (pdS l k)) else none := by
  unfold simpT canB tellV pdS
  dsimp only
  generalize allowV l k (gatV 4 l k) l = so
  generalize gatV 4 l k = no
  generalize hasOp l k 1 = p1
  generalize hasOp l k 2 = p2
  generalize hasOp l k 3 = p3
  cases p2 <;> cases p1 <;> cases p3 <;> simp
  all_goals (cases so <;> simp)
end Go.Proofs.YtolekldjbbjmjaaGreatDoor
