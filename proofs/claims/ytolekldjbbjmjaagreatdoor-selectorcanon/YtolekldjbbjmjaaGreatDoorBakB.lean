import Derived.Test.YtolekldjbbjmjaaGreatDoorPrnG
/- a selector's text is read as that selector: terms. -/
set_option linter.unusedSimpArgs false
set_option linter.unusedVariables false
namespace Go.Proofs.YtolekldjbbjmjaaGreatDoor
open Go.RowKit Go.Lib
theorem one_back {l u : List UInt8} {k : Nat} {x : ByteArray} (h : At l k (wordL x ++ u)) (hw : wordB x = true) (hu : NoP u) : oneF l k = (some [x], skp l (k + (wordL x).length)) := by
  unfold oneF
  rw [wrd_at h hw (Nat.zero_le _) hu]
/-- behind a term: nothing, or a comma -/
def EndT (u : List UInt8) : Prop := u = [] ∨ ∃ v, u = 44 :: v
theorem EndT.noP {u : List UInt8} (h : EndT u) : NoP u := by
  rcases h with rfl | ⟨v, rfl⟩
  · exact noP_nil
  · exact noP_cons (by decide)
theorem EndT.nob {u : List UInt8} (h : EndT u) : u.head? ≠ some 32 := by
  rcases h with rfl | ⟨v, rfl⟩
  · simp
  · simp
theorem word_nob (x : ByteArray) (u : List UInt8) : (wordL x ++ u).head? ≠ some 32 := by
  obtain ⟨c, t, hc, hh⟩ := wordL_head x
  rw [hc]
  intro q
  exact head_ne hh 32 (by decide) (by decide) (Option.some.inj q)
theorem cond_end {l u : List UInt8} {k : Nat} (h : At l k u) (hu : EndT u) : condF l k = (some (1, []), k) := by
  have h1 : tkB l k [61, 61] = false := by rw [tk_at h]; rcases hu with rfl | ⟨v, rfl⟩ <;> rfl
  have h2 : tkB l k [61] = false := by rw [tk_at h]; rcases hu with rfl | ⟨v, rfl⟩ <;> rfl
  have h3 : tkB l k [33, 61] = false := by rw [tk_at h]; rcases hu with rfl | ⟨v, rfl⟩ <;> rfl
  have h4 : opS l k = ⟨#[]⟩ := by
    unfold opS
    rw [h1, h2, h3, pln_at h, tw_noP hu.noP]
    rfl
  unfold condF
  rw [h4, if_neg (by decide), if_neg (by decide), if_neg (by decide), if_neg (by decide), if_neg (by decide)]
theorem cond_is {l u : List UInt8} {k : Nat} {x : ByteArray} (h : At l k (61 :: (wordL x ++ u))) (hw : wordB x = true) (hu : EndT u) : condF l k = (some (3, [x]), k + 1 + (wordL x).length) := by
  obtain ⟨c, t, hc, hh⟩ := wordL_head x
  have hne := head_ne hh 61 (by decide) (by decide)
  have h1 : tkB l k [61, 61] = false := by rw [tk_at h, hc]; simp [hasPrefix, List.isPrefixOf, Ne.symm hne]
  have h2 : tkB l k [61] = true := by rw [tk_at h]; simp [hasPrefix, List.isPrefixOf]
  have h4 : opS l k = ⟨#[61]⟩ := by
    unfold opS
    rw [h1, h2]
    rfl
  have h5 := h.one
  have h6 := one_back h5 hw hu.noP
  rw [skp_none (h5.step rfl) hu.nob] at h6
  unfold condF
  rw [h4, if_neg (by decide), if_pos rfl, skp_none h5 (word_nob x u), h6]
  rfl
theorem cond_not {l u : List UInt8} {k : Nat} {x : ByteArray} (h : At l k (33 :: 61 :: (wordL x ++ u))) (hw : wordB x = true) (hu : EndT u) : condF l k = (some (4, [x]), k + 2 + (wordL x).length) := by
  have h1 : tkB l k [61, 61] = false := by rw [tk_at h]; rfl
  have h2 : tkB l k [61] = false := by rw [tk_at h]; rfl
  have h3 : tkB l k [33, 61] = true := by rw [tk_at h]; simp [hasPrefix, List.isPrefixOf]
  have h4 : opS l k = ⟨#[33, 61]⟩ := by
    unfold opS
    rw [h1, h2, h3]
    rfl
  have h5 : At l (k + 2) (wordL x ++ u) := h.one.one
  have h6 := one_back h5 hw hu.noP
  rw [skp_none (h5.step rfl) hu.nob] at h6
  unfold condF
  rw [h4, if_pos rfl, skp_none h5 (word_nob x u), h6]
  rfl
theorem cond_in {l u : List UInt8} {k : Nat} {x : ByteArray} {r : List ByteArray} (h : At l k (105 :: 110 :: 32 :: 40 :: (wordL x ++ (comL r ++ 41 :: u)))) (hw : ∀ y ∈ x :: r, wordB y = true) (hv : valsB (x :: r) = true) (hu : EndT u) :
    condF l k = (some (3, x :: r), k + 4 + (wordL x).length + (comL r).length + 1) := by
  have h1 : tkB l k [61, 61] = false := by rw [tk_at h]; rfl
  have h2 : tkB l k [61] = false := by rw [tk_at h]; rfl
  have h3 : tkB l k [33, 61] = false := by rw [tk_at h]; rfl
  have h4 : opS l k = ⟨#[105, 110]⟩ := by
    unfold opS
    rw [h1, h2, h3, pln_at h, List.takeWhile_cons_of_pos (by decide), List.takeWhile_cons_of_pos (by decide), List.takeWhile_cons_of_neg (by decide)]
    rfl
  have h5 : At l (k + 2) (32 :: 40 :: (wordL x ++ (comL r ++ 41 :: u))) := h.one.one
  have h6 := many_back hw h5.one
  have h7 : At l (k + 4) (wordL x ++ (comL r ++ 41 :: u)) := h5.one.one
  have h8 : At l (k + 4 + (wordL x).length + (comL r).length) (41 :: u) := (h7.step rfl).step rfl
  have h9 := h8.one
  rw [show k + 2 + 1 + 1 + (wordL x).length + (comL r).length + 1 = k + 4 + (wordL x).length + (comL r).length + 1 by omega, skp_none h9 hu.nob, ris_comp hv] at h6
  unfold condF
  rw [h4, if_neg (by decide), if_neg (by decide), if_neg (by decide), if_neg (by decide), if_pos rfl, skp_one h5, skp_none h5.one (by simp), h6]
  rfl
theorem cond_notin {l u : List UInt8} {k : Nat} {x : ByteArray} {r : List ByteArray} (h : At l k (110 :: 111 :: 116 :: 105 :: 110 :: 32 :: 40 :: (wordL x ++ (comL r ++ 41 :: u)))) (hw : ∀ y ∈ x :: r, wordB y = true) (hv : valsB (x :: r) = true) (hu : EndT u) :
    condF l k = (some (4, x :: r), k + 7 + (wordL x).length + (comL r).length + 1) := by
  have h1 : tkB l k [61, 61] = false := by rw [tk_at h]; rfl
  have h2 : tkB l k [61] = false := by rw [tk_at h]; rfl
  have h3 : tkB l k [33, 61] = false := by rw [tk_at h]; rfl
  have h4 : opS l k = ⟨#[110, 111, 116, 105, 110]⟩ := by
    unfold opS
    rw [h1, h2, h3, pln_at h, List.takeWhile_cons_of_pos (by decide), List.takeWhile_cons_of_pos (by decide), List.takeWhile_cons_of_pos (by decide), List.takeWhile_cons_of_pos (by decide), List.takeWhile_cons_of_pos (by decide), List.takeWhile_cons_of_neg (by decide)]
    rfl
  have h5 : At l (k + 5) (32 :: 40 :: (wordL x ++ (comL r ++ 41 :: u))) := h.one.one.one.one.one
  have h6 := many_back hw h5.one
  have h7 : At l (k + 7) (wordL x ++ (comL r ++ 41 :: u)) := h5.one.one
  have h8 : At l (k + 7 + (wordL x).length + (comL r).length) (41 :: u) := (h7.step rfl).step rfl
  have h9 := h8.one
  rw [show k + 5 + 1 + 1 + (wordL x).length + (comL r).length + 1 = k + 7 + (wordL x).length + (comL r).length + 1 by omega, skp_none h9 hu.nob, ris_comp hv] at h6
  unfold condF
  rw [h4, if_neg (by decide), if_neg (by decide), if_neg (by decide), if_pos rfl, skp_one h5, skp_none h5.one (by simp), h6]
  rfl
theorem key_noP {op : Int} (hop : op = 3 ∨ op = 4) (u : List UInt8) : NoP (signL op ++ u) ∧ (signL op ++ u).head? ≠ some 32 := by
  rcases hop with rfl | rfl
  · exact ⟨noP_cons (by decide), by simp [signL]⟩
  · exact ⟨noP_cons (by decide), by simp [signL]⟩
/-- a term's text is read as that term -/
theorem term_back {l u : List UInt8} {k : Nat} {t : Trm} (hg : goodB t = true) (h : At l k (termL t ++ u)) (hu : EndT u) : termF l k = (some t, k + (termL t).length) := by
  obtain ⟨key, op, vs⟩ := t
  obtain ⟨hk0, hkw⟩ := good_key hg
  have hv := good_vals hg
  have hno {v : List UInt8} {n : Nat} (h : At l n (wordL key ++ v)) : tkB l n [33] = false := by
    obtain ⟨c, t, hc, hh⟩ := wordL_head key
    have hne := head_ne hh 33 (by decide) (by decide)
    rw [tk_at h, hc]
    simp [hasPrefix, List.isPrefixOf, Ne.symm hne]
  have hno2 {v : List UInt8} {n : Nat} (h : At l n (wordL key ++ v)) : tkN l n [33] = n := by
    unfold tkN
    rw [hno h]
    rfl
  rcases good_opP hg with ⟨h12, h0⟩ | ⟨h34, h0⟩
  · obtain rfl : vs = [] := List.eq_nil_of_length_eq_zero h0
    rcases h12 with rfl | rfl
    · have e : termL (key, 1, []) = wordL key := by unfold termL; rw [if_pos rfl]
      rw [e] at h ⊢
      have h1 := wrd_at (least := 1) h hkw hk0 hu.noP
      have h2 := h.step rfl
      rw [skp_none h2 hu.nob] at h1
      have h3 := cond_end h2 hu
      rw [termF_some (by rw [hno2 h]; exact h1) (hno h) (by rw [h3]), h3]
    · have e : termL (key, 2, []) = 33 :: wordL key := by unfold termL; rw [if_neg (by simp only; omega), if_pos rfl]; rfl
      rw [e] at h ⊢
      have h0 : tkB l k [33] = true := by rw [tk_at h]; simp [hasPrefix, List.isPrefixOf]
      have h4 : At l (k + 1) (wordL key ++ u) := At.one h
      have h1 := wrd_at (least := 1) h4 hkw hk0 hu.noP
      have h2 := h4.step rfl
      rw [skp_none h2 hu.nob] at h1
      have h5 : tkN l k [33] = k + 1 := by
        unfold tkN
        rw [h0, if_pos rfl]
        exact skp_none h4 (word_nob key u)
      rw [termF_not (by rw [h5]; exact h1) h0]
      refine Prod.ext rfl ?_
      simp only [List.length_cons]
      omega
  · simp only at h34 h0
    cases vs with
    | nil => cases h0
    | cons x r =>
      have hw : ∀ y ∈ x :: r, wordB y = true := fun y hy => vals_word hv hy
      cases r with
      | nil =>
        have e : termL (key, op, [x]) = wordL key ++ (signL op ++ wordL x) := by
          unfold termL
          rw [if_neg (by simp only; omega), if_neg (by simp only; omega), if_pos (by rfl)]
          simp [joinI]
        rw [e, List.append_assoc, List.append_assoc] at h
        obtain ⟨k1, k2⟩ := key_noP h34 (wordL x ++ u)
        have h1 := wrd_at (least := 1) h hkw hk0 k1
        have h2 := h.step rfl
        rw [skp_none h2 k2] at h1
        have h3 : condF l (k + (wordL key).length) = (some (op, [x]), k + (wordL key).length + (signL op).length + (wordL x).length) := by
          rcases h34 with rfl | rfl
          · exact cond_is h2 (hw x (by simp)) hu
          · exact cond_not h2 (hw x (by simp)) hu
        rw [termF_some (by rw [hno2 h]; exact h1) (hno h) (by rw [h3]), h3, e]
        refine Prod.ext rfl ?_
        simp only [List.length_append]
        omega
      | cons y r =>
        have e : termL (key, op, x :: y :: r) = wordL key ++ (nameL op ++ (wordL x ++ (comL (y :: r) ++ [41]))) := by
          unfold termL
          rw [if_neg (by simp only; omega), if_neg (by simp only; omega), if_neg (by simp)]
          simp only [List.length_cons, joinI_take x (y :: r) (y :: r).length (Nat.le_refl _), List.take_length, List.append_assoc]
          have := joinI_all x (y :: r)
          simp only [List.length_cons] at this
          rw [this]
          simp only [List.append_assoc]
        rw [e] at h
        simp only [List.append_assoc, List.singleton_append] at h
        have hn : ∃ q, nameL op = 32 :: q := by
          rcases h34 with rfl | rfl
          · exact ⟨_, rfl⟩
          · exact ⟨_, rfl⟩
        obtain ⟨q, hq⟩ := hn
        rw [hq] at h
        have h1 := wrd_at (least := 1) h hkw hk0 (noP_cons (by decide))
        have h2 : At l (k + (wordL key).length) (32 :: (q ++ (wordL x ++ (comL (y :: r) ++ 41 :: u)))) := h.step rfl
        have h4 := h2.one
        have hqb : (q ++ (wordL x ++ (comL (y :: r) ++ 41 :: u))).head? ≠ some 32 := by
          rcases h34 with rfl | rfl
          · obtain rfl : [105, 110, 32, 40] = q := (List.cons.inj hq).2
            simp
          · obtain rfl : [110, 111, 116, 105, 110, 32, 40] = q := (List.cons.inj hq).2
            simp
        rw [skp_one h2, skp_none h4 hqb] at h1
        have h3 : condF l (k + (wordL key).length + 1) = (some (op, x :: y :: r), k + (wordL key).length + 1 + q.length + (wordL x).length + (comL (y :: r)).length + 1) := by
          rcases h34 with rfl | rfl
          · obtain rfl : [105, 110, 32, 40] = q := (List.cons.inj hq).2
            exact cond_in h4 hw hv hu
          · obtain rfl : [110, 111, 116, 105, 110, 32, 40] = q := (List.cons.inj hq).2
            exact cond_notin h4 hw hv hu
        rw [termF_some (by rw [hno2 h]; exact h1) (hno h) (by rw [h3]), h3, e, hq]
        refine Prod.ext rfl ?_
        simp only [List.length_append, List.length_cons, List.length_nil]
        omega
/-- terms, each behind a comma -/
def comT (r : List Trm) : List UInt8 := r.flatMap (fun y => 44 :: termL y)
theorem printI_take (x : Trm) (r : List Trm) : ∀ i, i ≤ r.length → printI (x :: r) (i + 1) = termL x ++ comT (r.take i)
  | 0, _ => by simp [printI, comT]
  | i + 1, hi => by
    have e : comT (r.take i ++ [r[i]]) = comT (r.take i) ++ 44 :: termL r[i] := by unfold comT; rw [List.flatMap_append]; simp only [List.flatMap_cons, List.flatMap_nil, List.append_nil]
    rw [printI_next (by simp; omega), printI_take x r i (by omega), if_pos (by omega), List.take_succ_eq_append_getElem (by omega), e]
    simp only [List.getElem_cons_succ, List.append_assoc, List.singleton_append]
theorem printI_all (x : Trm) (r : List Trm) : printI (x :: r) (r.length + 1) = termL x ++ comT r := by rw [printI_take x r r.length (Nat.le_refl _), List.take_length]
theorem comT_len (r : List Trm) : r.length ≤ (comT r).length := by
  induction r with
  | nil => exact Nat.zero_le _
  | cons y t ih =>
    have : comT (y :: t) = 44 :: termL y ++ comT t := rfl
    rw [this, List.length_append, List.length_cons, List.length_cons]
    omega
theorem term_nob {t : Trm} (u : List UInt8) : (termL t ++ u).head? ≠ some 32 := by
  have hk (v : List UInt8) := word_nob t.1 v
  unfold termL
  split
  · exact hk _
  · split
    · simp
    · split
      · simp only [List.append_assoc]; exact hk _
      · simp only [List.append_assoc]; exact hk _
theorem terms_back {l : List UInt8} : ∀ (r : List Trm) (t : Trm) (f k : Nat) (acc : List Trm), r.length + 1 ≤ f → (∀ y ∈ t :: r, goodB y = true) → At l k (termL t ++ comT r) → terF f l k acc = (some (acc ++ t :: r), l.length)
  | [], t, f + 1, k, acc, _, hg, h => by
    have h1 := term_back (hg t (by simp)) h (.inl rfl)
    have h2 := (h.step rfl).len
    have e : (comT ([] : List Trm)).length = 0 := rfl
    rw [e, Nat.add_zero] at h2
    rw [terF_end (by rw [h1]) (by rw [h1]; exact h2), h1, h2]
  | y :: r, t, f + 1, k, acc, hf, hg, h => by
    have e : comT (y :: r) = 44 :: (termL y ++ comT r) := by simp [comT]
    rw [e] at h
    have h1 := term_back (hg t (by simp)) h (.inr ⟨_, rfl⟩)
    have h2 := h.step rfl
    have h3 := h2.len
    rw [List.length_cons] at h3
    have h4 : tkB l (k + (termL t).length) [44] = true := by rw [tk_at h2]; simp [hasPrefix, List.isPrefixOf]
    have h5 := h2.one
    rw [terF_next (by rw [h1]) (by rw [h1]; simp only; omega) (by rw [h1]; exact h4), h1]
    simp only
    rw [skp_none h5 (term_nob _), terms_back r y f _ _ (by simp at hf; omega) (fun z hz => hg z (List.mem_cons_of_mem _ hz)) h5]
    simp
theorem par_back {l : List Trm} (hg : l.all goodB = true) (hs : (printI l l.length).length ≤ 1048576) : parF (printI l l.length) = (some l, (printI l l.length).length) := by
  cases l with
  | nil => rfl
  | cons t r =>
    have e : printI (t :: r) (t :: r).length = termL t ++ comT r := printI_all t r
    rw [e] at hs ⊢
    have h0 : At (termL t ++ comT r) 0 (termL t ++ comT r) := ⟨Nat.zero_le _, rfl⟩
    have hne : (termL t ++ comT r).length ≠ 0 := by
      intro q
      have h1 := term_back (List.all_eq_true.1 hg t (by simp)) h0 (by cases r with | nil => exact .inl rfl | cons y r => exact .inr ⟨_, rfl⟩)
      rw [List.eq_nil_of_length_eq_zero q] at h1
      revert h1
      have e2 : termF [] 0 = (none, 0) := by decide +kernel
      rw [e2]
      intro q2
      cases congrArg Prod.fst q2
    have hl := comT_len r
    unfold parF
    rw [if_neg (by omega)]
    unfold tersF
    rw [skp_none h0 (term_nob _), if_neg (Ne.symm hne), terms_back r t _ 0 [] (by rw [List.length_append]; omega) (fun y hy => List.all_eq_true.1 hg y hy) h0]
    rfl
theorem text_back {l : List Trm} (hg : l.all goodB = true) (hs : (textL l).size ≤ 1048576) : parF (textL l).data.toList = (some l, (textL l).size) := by
  have e : textL l = bsP (printI l l.length) := by unfold textL; rw [if_pos hg]
  rw [e, bs_size] at hs
  rw [e, bs_size]
  exact par_back hg hs
end Go.Proofs.YtolekldjbbjmjaaGreatDoor
