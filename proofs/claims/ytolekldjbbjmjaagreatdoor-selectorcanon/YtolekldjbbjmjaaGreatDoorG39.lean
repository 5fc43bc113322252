/- joined: ShoB PrnD PrnE BakA ShoF -/
import Derived.Test.YtolekldjbbjmjaaGreatDoorSimO
import Derived.Laws.Concat
import Derived.Test.YtolekldjbbjmjaaGreatDoorParI
/- plain: what Simplify answers may be, is no longer, and is as short as it gets (layer 20). -/
set_option linter.unusedSimpArgs false
set_option linter.unusedVariables false
namespace Go.Proofs.YtolekldjbbjmjaaGreatDoor
open Go.RowKit Go.Lib
theorem vals_word {l : List ByteArray} (h : valsB l = true) {x : ByteArray} (hx : x ∈ l) : wordB x = true := by
  obtain ⟨k, hk, rfl⟩ := List.mem_iff_getElem.1 hx
  unfold valsB at h
  rw [List.all_eq_true] at h
  have h1 := h k (List.mem_range.2 hk)
  cases k with
  | zero => rw [valB_zero hk] at h1; exact h1
  | succ k => rw [valB_succ hk, Bool.and_eq_true] at h1; exact h1.1
theorem vals_of {l : List ByteArray} (hr : Ris l) (hw : ∀ x ∈ l, wordB x = true) : valsB l = true := by
  refine valsB_yes fun k hk => ?_
  cases k with
  | zero => rw [valB_zero hk]; exact hw _ (List.getElem_mem hk)
  | succ k =>
    rw [valB_succ hk, Bool.and_eq_true]
    exact ⟨hw _ (List.getElem_mem hk), ris_lt hr hk (by omega)⟩
theorem good_key {t : Trm} (h : goodB t = true) : 0 < t.1.size ∧ wordB t.1 = true := by
  obtain ⟨key, op, vs⟩ := t
  rw [goodB_is, Bool.and_eq_true, Bool.and_eq_true, decide_eq_true_eq] at h
  exact h.1
/- no longer -/
/- as short as it gets -/
end Go.Proofs.YtolekldjbbjmjaaGreatDoor
/- the document's text of a term. -/
namespace Go.Proofs.YtolekldjbbjmjaaGreatDoor
open Go.RowKit Go.Lib
abbrev bsP (l : List UInt8) : ByteArray := ⟨l.toArray⟩
theorem bs_size (l : List UInt8) : (bsP l).size = l.length := by show (List.toArray l).size = _; simp
/-- the first i values, each behind a comma but the first -/
def joinI (l : List ByteArray) : Nat → List UInt8
  | 0 => []
  | i + 1 => joinI l i ++ (if 0 < i then [44] else []) ++ (match l[i]? with | some x => wordL x | none => [])
theorem joinI_next {l : List ByteArray} {i : Nat} (h : i < l.length) : joinI l (i + 1) = joinI l i ++ (if 0 < i then [44] else []) ++ wordL l[i] := by
  rw [joinI, List.getElem?_eq_getElem h]
def Fine (l : List ByteArray) : Prop := ∀ x ∈ l, x.size ≤ 64 ∧ utfB x = true
theorem joinI_len {l : List ByteArray} (h : Fine l) : ∀ i, i ≤ l.length → (joinI l i).length ≤ 401 * i
  | 0, _ => by simp [joinI]
  | i + 1, hi => by
    have h1 := joinI_len h i (by omega)
    have h2 := wordL_len (h _ (List.getElem_mem (show i < l.length by omega))).1
    rw [joinI_next (by omega), List.length_append, List.length_append]
    have h3 : (if 0 < i then [44] else ([] : List UInt8)).length ≤ 1 := by split <;> simp
    omega
def signL (op : Int) : List UInt8 := if op = 4 then [33, 61] else [61]
def nameL (op : Int) : List UInt8 := if op = 4 then [32, 110, 111, 116, 105, 110, 32, 40] else [32, 105, 110, 32, 40]
def termL (t : Trm) : List UInt8 :=
  if t.2.1 = 1 then wordL t.1 else if t.2.1 = 2 then [33] ++ wordL t.1
  else if t.2.2.length = 1 then wordL t.1 ++ signL t.2.1 ++ joinI t.2.2 1 else wordL t.1 ++ nameL t.2.1 ++ joinI t.2.2 t.2.2.length ++ [41]
end Go.Proofs.YtolekldjbbjmjaaGreatDoor
/- the document's Print. -/
namespace Go.Proofs.YtolekldjbbjmjaaGreatDoor
open Go.RowKit Go.Lib
theorem good_fine {t : Trm} (h : goodB t = true) : (t.1.size ≤ 64 ∧ utfB t.1 = true) ∧ Fine t.2.2 := by
  have hv := good_vals h
  unfold goodB at h
  rw [Bool.and_eq_true, Bool.and_eq_true] at h
  have hw := h.1.2
  unfold wordB at hw
  rw [Bool.and_eq_true, decide_eq_true_eq] at hw
  refine ⟨hw, fun x hx => ?_⟩
  obtain ⟨k, hk, rfl⟩ := List.mem_iff_getElem.1 hx
  unfold valsB at hv
  rw [List.all_eq_true] at hv
  have h1 := hv k (List.mem_range.2 hk)
  have h2 : wordB t.2.2[k] = true := by
    cases k with
    | zero => rw [valB_zero hk] at h1; exact h1
    | succ q => rw [valB_succ hk, Bool.and_eq_true] at h1; exact h1.1
  unfold wordB at h2
  rw [Bool.and_eq_true, decide_eq_true_eq] at h2
  exact h2
theorem termL_len {t : Trm} (h : goodB t = true) : (termL t).length ≤ 411 * (1 + t.2.2.length) := by
  obtain ⟨h1, h2⟩ := good_fine h
  have hk := wordL_len h1.1
  have hj := joinI_len h2 t.2.2.length (Nat.le_refl _)
  have hs : (signL t.2.1).length ≤ 2 := by unfold signL; split <;> simp
  have hn : (nameL t.2.1).length ≤ 8 := by unfold nameL; split <;> simp
  unfold termL
  split
  · omega
  · split
    · rw [List.length_append]; simp only [List.length_singleton]; omega
    · split
      · rename_i hl
        have hj1 := joinI_len h2 1 (by omega)
        rw [List.length_append, List.length_append]; omega
      · rw [List.length_append, List.length_append, List.length_append]; simp only [List.length_singleton]; omega
def printI (l : List Trm) : Nat → List UInt8
  | 0 => []
  | i + 1 => printI l i ++ (if 0 < i then [44] else []) ++ (match l[i]? with | some x => termL x | none => [])
theorem printI_next {l : List Trm} {i : Nat} (h : i < l.length) : printI l (i + 1) = printI l i ++ (if 0 < i then [44] else []) ++ termL l[i] := by
  rw [printI, List.getElem?_eq_getElem h]
theorem printI_len {l : List Trm} (h : ∀ t ∈ l, goodB t = true) : ∀ i, i ≤ l.length → (printI l i).length ≤ 412 * wtT (l.take i)
  | 0, _ => by simp [printI, wtT]
  | i + 1, hi => by
    have h1 := printI_len h i (by omega)
    have h2 := termL_len (h _ (List.getElem_mem (show i < l.length by omega)))
    have h3 := wtS_len (l[i]'(by omega)).2.2
    rw [printI_next (by omega), wtT_take (by omega), List.length_append, List.length_append]
    have h4 : (if 0 < i then [44] else ([] : List UInt8)).length ≤ 1 := by split <;> simp
    omega
theorem wtT_take_le (l : List Trm) (i : Nat) (hi : i ≤ l.length) : wtT (l.take i) ≤ wtT l := by
  have : ∀ k, i + k ≤ l.length → wtT (l.take i) ≤ wtT (l.take (i + k)) := by
    intro k
    induction k with
    | zero => intro _; exact Nat.le_refl _
    | succ k ih =>
      intro hk
      have h1 := ih (by omega)
      have h2 := wtT_take (show i + k < l.length by omega)
      rw [← Nat.add_assoc, h2]
      omega
  have h := this (l.length - i) (by omega)
  rw [show i + (l.length - i) = l.length by omega, List.take_length] at h
  exact h
def textL (l : List Trm) : ByteArray := if l.all goodB then bsP (printI l l.length) else ⟨#[]⟩
def errN (l : List Trm) : Int := if l.all goodB then 0 else 200
def PnPost (l : List Trm) (w : World) (e : Ending) (w' : World) : Prop := e = .returned (.tuple #[.string (textL l), .int .i64 (errN l)]) ∧ Below w.heap.size w w'
end Go.Proofs.YtolekldjbbjmjaaGreatDoor
/- a selector's text is read as that selector: plain. -/
namespace Go.Proofs.YtolekldjbbjmjaaGreatDoor
open Go.RowKit Go.Lib
/-- what stands at a place, up to the end -/
def At (l : List UInt8) (k : Nat) (u : List UInt8) : Prop := k ≤ l.length ∧ l.drop k = u
theorem At.step {l p u : List UInt8} {k n : Nat} (h : At l k (p ++ u)) (hn : n = k + p.length) : At l n u := by
  subst hn
  have hl := congrArg List.length h.2
  rw [List.length_drop, List.length_append] at hl
  have := h.1
  refine ⟨by omega, ?_⟩
  rw [← List.drop_drop, h.2, List.drop_left]
theorem At.one {l u : List UInt8} {c : UInt8} {k : Nat} (h : At l k (c :: u)) : At l (k + 1) u := At.step (p := [c]) h rfl
theorem At.len {l u : List UInt8} {k : Nat} (h : At l k u) : k + u.length = l.length := by
  have hl := congrArg List.length h.2
  rw [List.length_drop] at hl
  have := h.1
  omega
theorem At.split {l u : List UInt8} {k : Nat} (h : At l k u) : l = l.take k ++ u ∧ (l.take k).length = k := by
  refine ⟨?_, by rw [List.length_take]; have := h.1; omega⟩
  conv => lhs; rw [← List.take_append_drop k l, h.2]
theorem skp_none {l u : List UInt8} {k : Nat} (h : At l k u) (hn : u.head? ≠ some 32) : skp l k = k := by
  unfold skp gapN
  rw [h.2]
  cases u with
  | nil => rfl
  | cons x t =>
    have hx : x ≠ 32 := fun e => hn (by rw [e]; rfl)
    rw [List.takeWhile_cons_of_neg (by simp [hx])]
    rfl
theorem skp_one {l u : List UInt8} {k : Nat} (h : At l k (32 :: u)) : skp l k = skp l (k + 1) := by
  unfold skp gapN
  rw [h.2, h.one.2, List.takeWhile_cons_of_pos (by simp)]
  simp only [List.length_cons]
  omega
theorem tk_at {l u : List UInt8} {k : Nat} (h : At l k u) (p : List UInt8) : tkB l k p = hasPrefix u p := by unfold tkB; rw [h.2]
theorem pln_at {l u : List UInt8} {k : Nat} (h : At l k u) : plnT l k = u.takeWhile (fun c => plainN c.toNat) := by unfold plnT; rw [h.2]
/-- the first byte of a word's text -/
theorem wordL_head (x : ByteArray) : ∃ c t, wordL x = c :: t ∧ (plainN c.toNat = true ∨ c = 34) := by
  unfold wordL
  split
  · rename_i h
    unfold plainW allPlain at h
    rw [Bool.and_eq_true] at h
    have h0 : 0 < x.data.toList.length := by have := of_decide_eq_true h.2; simpa using this
    cases hd : x.data.toList with
    | nil => rw [hd] at h0; cases h0
    | cons c t =>
      refine ⟨c, t, rfl, .inl ?_⟩
      rw [hd, List.all_cons, Bool.and_eq_true] at h
      exact h.1.1
  · exact ⟨34, _, rfl, .inr rfl⟩
theorem head_ne {c : UInt8} (h : plainN c.toNat = true ∨ c = 34) (d : UInt8) (hd : plainN d.toNat = false) (hq : d ≠ 34) : c ≠ d := fun e => by
  subst e
  rcases h with h | h
  · rw [h] at hd; cases hd
  · exact hq h
def NoP (u : List UInt8) : Prop := ∀ c, u.head? = some c → plainN c.toNat = false
theorem noP_cons {c : UInt8} {u : List UInt8} (h : plainN c.toNat = false) : NoP (c :: u) := fun d e => by cases e; exact h
theorem noP_nil : NoP [] := fun d e => by cases e
theorem tw_noP {u : List UInt8} (h : NoP u) : u.takeWhile (fun c => plainN c.toNat) = [] := by
  cases u with
  | nil => rfl
  | cons c t => rw [List.takeWhile_cons_of_neg (by rw [h c rfl]; simp)]
theorem bytes_back (x : ByteArray) : (⟨x.data.toList.toArray⟩ : ByteArray) = x := by cases x; simp
theorem wrd_at {l u : List UInt8} {k least : Nat} {x : ByteArray} (h : At l k (wordL x ++ u)) (hw : wordB x = true) (hl : least ≤ x.size) (hu : NoP u) :
    wrdF l least k = some (x, skp l (k + (wordL x).length)) := by
  have hlen : x.data.toList.length = x.size := by simp
  have hE (n : Nat) : wrdE l least x.data.toList n = some (x, skp l n) := by
    unfold wrdE
    rw [if_pos ⟨by omega, by rw [bytes_back]; exact hw⟩, bytes_back]
  unfold wrdF
  rw [pln_at h]
  cases hp : plainW x with
  | true =>
    have hx : wordL x = x.data.toList := by unfold wordL; rw [if_pos hp]
    unfold plainW allPlain at hp
    rw [Bool.and_eq_true] at hp
    have h0 := of_decide_eq_true hp.2
    rw [hx, List.takeWhile_append_of_pos (fun a ha => List.all_eq_true.1 hp.1 a ha), tw_noP hu, List.append_nil, if_neg (fun e => by rw [e] at hlen; simp at hlen; omega), hE]
  | false =>
    have hx : wordL x = Q.qt x.data.toList := by unfold wordL; rw [if_neg (by rw [hp]; simp)]
    have hv : validD x.data.toList = true := by
      unfold wordB at hw
      rw [Bool.and_eq_true] at hw
      exact hw.2
    obtain ⟨e1, e2⟩ := h.split
    have hq := Q.unq_back x.data.toList (l.take k) u hv
    rw [hx] at e1 ⊢
    rw [← e1, e2] at hq
    have htw : (Q.qt x.data.toList ++ u).takeWhile (fun c => plainN c.toNat) = [] := List.takeWhile_cons_of_neg (by decide)
    rw [htw, if_pos rfl, hq]
    simp only [if_true]
    rw [hE]
theorem ris_comp {vs : List ByteArray} (h : valsB vs = true) : compB (sortB vs) = vs := ris_uniq (comp_sort_ris vs) (ris_vals h) (comp_sort_mem vs)
/-- values, each behind a comma -/
def comL (r : List ByteArray) : List UInt8 := r.flatMap (fun y => 44 :: wordL y)
theorem joinI_take (x : ByteArray) (r : List ByteArray) : ∀ i, i ≤ r.length → joinI (x :: r) (i + 1) = wordL x ++ comL (r.take i)
  | 0, _ => by simp [joinI, comL]
  | i + 1, hi => by
    have e : comL (r.take i ++ [r[i]]) = comL (r.take i) ++ 44 :: wordL r[i] := by unfold comL; rw [List.flatMap_append]; simp only [List.flatMap_cons, List.flatMap_nil, List.append_nil]
    rw [joinI_next (by simp; omega), joinI_take x r i (by omega), if_pos (by omega), List.take_succ_eq_append_getElem (by omega), e]
    simp only [List.getElem_cons_succ, List.append_assoc, List.singleton_append]
theorem joinI_all (x : ByteArray) (r : List ByteArray) : joinI (x :: r) (r.length + 1) = wordL x ++ comL r := by rw [joinI_take x r r.length (Nat.le_refl _), List.take_length]
theorem comL_len (r : List ByteArray) : r.length ≤ (comL r).length := by
  induction r with
  | nil => exact Nat.zero_le _
  | cons y t ih =>
    have : comL (y :: t) = 44 :: wordL y ++ comL t := rfl
    rw [this, List.length_append, List.length_cons, List.length_cons]
    omega
theorem man_back {l u : List UInt8} : ∀ (r : List ByteArray) (x : ByteArray) (f k : Nat) (acc : List ByteArray), r.length + 1 ≤ f → (∀ y ∈ x :: r, wordB y = true) → At l k (wordL x ++ (comL r ++ 41 :: u)) →
    manF f l k acc = (some (compB (sortB (acc ++ x :: r))), skp l (k + (wordL x).length + (comL r).length + 1))
  | [], x, f + 1, k, acc, _, hw, h => by
    have h1 := wrd_at (least := 0) h (hw x (by simp)) (Nat.zero_le _) (noP_cons (by decide))
    have h2 := h.step rfl
    rw [skp_none h2 (by simp [comL])] at h1
    have h3 : tkB l (k + (wordL x).length) [41] = true := by rw [tk_at h2]; rfl
    rw [manF_end h1 h3]
    rfl
  | y :: r, x, f + 1, k, acc, hf, hw, h => by
    have e : comL (y :: r) = 44 :: (wordL y ++ comL r) := by simp [comL]
    rw [e] at h ⊢
    have h1 := wrd_at (least := 0) h (hw x (by simp)) (Nat.zero_le _) (noP_cons (by decide))
    have h2 := h.step rfl
    rw [skp_none h2 (by simp)] at h1
    have h3 : tkB l (k + (wordL x).length) [41] = false := by rw [tk_at h2]; rfl
    have h4 : tkB l (k + (wordL x).length) [44] = true := by rw [tk_at h2]; rfl
    have h5 : At l (k + (wordL x).length + 1) (wordL y ++ (comL r ++ 41 :: u)) := by have h6 := At.one h2; rw [show (wordL y ++ comL r).append (41 :: u) = wordL y ++ (comL r ++ 41 :: u) from List.append_assoc _ _ _] at h6; exact h6
    obtain ⟨c, t, hc, hh⟩ := wordL_head y
    rw [manF_next h1 h3 h4, skp_none h5 (by rw [hc]; intro q; exact head_ne hh 32 (by decide) (by decide) (Option.some.inj q)),
      man_back r y f _ (acc ++ [x]) (by simp at hf; omega) (fun z hz => hw z (List.mem_cons_of_mem _ hz)) h5]
    simp only [List.append_assoc, List.singleton_append, List.length_cons, List.length_append]
    refine Prod.ext rfl ?_
    simp only
    congr 1
    omega
theorem many_back {l u : List UInt8} {k : Nat} {x : ByteArray} {r : List ByteArray} (hw : ∀ y ∈ x :: r, wordB y = true) (h : At l k (40 :: (wordL x ++ (comL r ++ 41 :: u)))) :
    manyF l k = (some (compB (sortB (x :: r))), skp l (k + 1 + (wordL x).length + (comL r).length + 1)) := by
  have h1 : tkB l k [40] = true := by rw [tk_at h]; rfl
  have h2 := h.one
  obtain ⟨c, t, hc, hh⟩ := wordL_head x
  have h3 := h2.len
  rw [List.length_append, List.length_append] at h3
  have h4 := comL_len r
  unfold manyF
  rw [if_pos h1, skp_none h2 (by rw [hc]; intro q; exact head_ne hh 32 (by decide) (by decide) (Option.some.inj q)), man_back r x _ _ [] (by omega) hw h2]
  rfl
end Go.Proofs.YtolekldjbbjmjaaGreatDoor
/- plain: what Simplify answers weighs no more (layer 20). -/
namespace Go.Proofs.YtolekldjbbjmjaaGreatDoor
open Go.RowKit Go.Lib
theorem wtS_app : ∀ a b : List ByteArray, wtS (a ++ b) = wtS a + wtS b
  | [], b => by simp [wtS]
  | x :: t, b => by have := wtS_app t b; simp only [wtS, List.cons_append]; omega
theorem wtT_app : ∀ a b : List Trm, wtT (a ++ b) = wtT a + wtT b
  | [], b => by simp [wtT]
  | x :: t, b => by have := wtT_app t b; simp only [wtT, List.cons_append]; omega
theorem wtS_sub : ∀ {A B : List ByteArray}, A.Nodup → (∀ x ∈ A, x ∈ B) → wtS A ≤ wtS B
  | [], B, _, _ => by simp [wtS]
  | x :: t, B, hn, hs => by
    rw [List.nodup_cons] at hn
    obtain ⟨p, q, rfl⟩ := List.append_of_mem (hs x (by simp))
    have ih := wtS_sub (A := t) (B := p ++ q) hn.2 (fun y hy => by
      have h1 := hs y (List.mem_cons_of_mem _ hy)
      rw [List.mem_append, List.mem_cons] at h1
      rw [List.mem_append]
      rcases h1 with h1 | rfl | h1
      · exact .inl h1
      · exact absurd hy hn.1
      · exact .inr h1)
    rw [wtS_app] at ih ⊢
    simp only [wtS]
    omega
end Go.Proofs.YtolekldjbbjmjaaGreatDoor
