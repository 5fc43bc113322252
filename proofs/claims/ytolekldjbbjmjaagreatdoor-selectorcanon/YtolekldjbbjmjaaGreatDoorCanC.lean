import Derived.Test.YtolekldjbbjmjaaGreatDoorCanB
/- blanks ahead and behind change nothing: plain. -/
set_option linter.unusedSimpArgs false
set_option linter.unusedVariables false
namespace Go.Proofs.YtolekldjbbjmjaaGreatDoor
open Go.RowKit Go.Lib
/-- two places with the same rest, but that a blank ends the second; or both at the end -/
def Sh (l l' : List UInt8) (k k' : Nat) : Prop := (∃ u, u ≠ [] ∧ At l k u ∧ At l' k' (u ++ [32])) ∨ (At l k [] ∧ At l' k' [])
structure Two (l l' : List UInt8) : Prop where
  len : l'.length = l.length + 2
theorem skp_sh {l l' : List UInt8} : ∀ (u : List UInt8) (k k' : Nat), At l k u → At l' k' (u ++ [32]) → Sh l l' (skp l k) (skp l' k')
  | [], k, k', h, h' => by
    have h2 := At.one (c := 32) (u := []) h'
    rw [skp_none h (by simp), skp_one (u := []) h', skp_none h2 (by simp)]
    exact .inr ⟨h, h2⟩
  | c :: t, k, k', h, h' => by
    by_cases hc : c = 32
    · subst hc
      have h2 : At l' k' (32 :: (t ++ [32])) := by rw [← List.cons_append]; exact h'
      have e' : skp l' k' = skp l' (k' + 1) := skp_one h2
      rw [skp_one h, e']
      exact skp_sh t (k + 1) (k' + 1) h.one h2.one
    · rw [skp_none h (by simpa using hc), skp_none h' (by simpa using hc)]
      exact .inl ⟨c :: t, by simp, h, h'⟩
theorem pre_blank : ∀ (p u : List UInt8), (∀ c ∈ p, c ≠ 32) → hasPrefix (u ++ [32]) p = hasPrefix u p
  | [], u, _ => by simp [hasPrefix, List.isPrefixOf]
  | c :: p, [], h => by
    have := h c (by simp)
    simp [hasPrefix, List.isPrefixOf, this]
  | c :: p, x :: u, h => by
    have ih := pre_blank p u (fun y hy => h y (List.mem_cons_of_mem _ hy))
    unfold hasPrefix at ih ⊢
    rw [List.cons_append, List.isPrefixOf, List.isPrefixOf, ih]
theorem Sh.tk {l l' : List UInt8} {k k' : Nat} (h : Sh l l' k k') (p : List UInt8) (hp : ∀ c ∈ p, c ≠ 32) : tkB l' k' p = tkB l k p := by
  rcases h with ⟨u, _, h1, h2⟩ | ⟨h1, h2⟩
  · rw [tk_at h1, tk_at h2, pre_blank p u hp]
  · rw [tk_at h1, tk_at h2]
theorem Sh.next {l l' : List UInt8} {k k' : Nat} (h : Sh l l' k k') {p : List UInt8} (h0 : p ≠ []) (ht : tkB l k p = true) : Sh l l' (skp l (k + p.length)) (skp l' (k' + p.length)) := by
  rcases h with ⟨u, _, h1, h2⟩ | ⟨h1, h2⟩
  · rw [tk_at h1] at ht
    obtain ⟨v, hv⟩ := List.isPrefixOf_iff_prefix.1 ht
    subst hv
    rw [List.append_assoc] at h2
    exact skp_sh v _ _ (h1.step rfl) (h2.step rfl)
  · rw [tk_at h1] at ht
    obtain ⟨v, hv⟩ := List.isPrefixOf_iff_prefix.1 ht
    exact absurd (List.append_eq_nil_iff.1 hv).1 h0
theorem tw_blank (u : List UInt8) : (u ++ [32]).takeWhile (fun c => plainN c.toNat) = u.takeWhile (fun c => plainN c.toNat) := by
  induction u with
  | nil => rfl
  | cons c t ih =>
    rw [List.cons_append]
    cases h : plainN c.toNat with
    | true => rw [List.takeWhile_cons_of_pos (p := fun c : UInt8 => plainN c.toNat) h, List.takeWhile_cons_of_pos (p := fun c : UInt8 => plainN c.toNat) h, ih]
    | false => rw [List.takeWhile_cons_of_neg (p := fun c : UInt8 => plainN c.toNat) (by simp [h]), List.takeWhile_cons_of_neg (p := fun c : UInt8 => plainN c.toNat) (by simp [h])]
theorem Sh.pln {l l' : List UInt8} {k k' : Nat} (h : Sh l l' k k') : plnT l' k' = plnT l k := by
  rcases h with ⟨u, _, h1, h2⟩ | ⟨h1, h2⟩
  · rw [pln_at h1, pln_at h2, tw_blank]
  · rw [pln_at h1, pln_at h2]
theorem Sh.op {l l' : List UInt8} {k k' : Nat} (h : Sh l l' k k') : opS l' k' = opS l k := by
  unfold opS
  rw [h.tk [61, 61] (by decide), h.tk [61] (by decide), h.tk [33, 61] (by decide), h.pln]
theorem wrd_sh {l l' : List UInt8} (T : Two l l') {k k' least k1 : Nat} {x : ByteArray} (h : Sh l l' k k') (hw : wrdF l least k = some (x, k1)) : ∃ k1', wrdF l' least k' = some (x, k1') ∧ Sh l l' k1 k1' := by
  have hp := h.pln
  rcases h with ⟨u, hu, h1, h2⟩ | ⟨h1, h2⟩
  · have hE : ∀ (y : List UInt8) (j : Nat) (v : List UInt8) (j' : Nat), At l j v → At l' j' (v ++ [32]) → wrdE l least y j = some (x, k1) → ∃ k1', wrdE l' least y j' = some (x, k1') ∧ Sh l l' k1 k1' := by
      intro y j v j' a1 a2 e
      unfold wrdE at e ⊢
      split at e
      · rename_i c
        have e := Option.some.inj e
        have e1 := congrArg Prod.fst e
        have e2 := congrArg Prod.snd e
        simp only at e1 e2
        rw [if_pos c, e1, ← e2]
        exact ⟨_, rfl, skp_sh v j j' a1 a2⟩
      · cases e
    unfold wrdF at hw ⊢
    rw [hp]
    by_cases c : plnT l k = []
    · rw [if_pos c] at hw
      rw [if_pos c]
      by_cases c0 : (Q.unqAll l (k : Int)).2.2 = 0
      · rw [if_pos c0] at hw
        have hl1 := h1.len
        have hl2 := h2.len
        rw [List.length_append] at hl2
        simp only [List.length_cons, List.length_nil] at hl2
        have hT := T.len
        have e := unqAll_app h1 h2 (by omega) (by omega) c0
        have hv := (Q.unqAll_inv l (k : Int))
        have hv2 := hv.2 c0
        rw [e]
        simp only [if_true]
        obtain ⟨n, hn⟩ : ∃ n, (Q.unqAll l (k : Int)).2.1 = k + n := ⟨(Q.unqAll l (k : Int)).2.1 - k, by omega⟩
        have hlen := hv.1
        rw [hn] at hw hlen ⊢
        have hnu : n ≤ u.length := by omega
        have a1 : At l (k + n) (u.drop n) := by
          refine At.step (p := u.take n) (by rw [List.take_append_drop]; exact h1) (by rw [List.length_take]; omega)
        have a2 : At l' (k + n + (k' - k)) (u.drop n ++ [32]) := by
          refine At.step (p := u.take n) (k := k') (by rw [← List.append_assoc, List.take_append_drop]; exact h2) (by rw [List.length_take]; omega)
        exact hE _ _ _ _ a1 a2 hw
      · rw [if_neg c0] at hw; cases hw
    · rw [if_neg c] at hw
      rw [if_neg c]
      have hpl : plnT l k = u.takeWhile (fun c => plainN c.toNat) := pln_at h1
      have hsp : plnT l k ++ u.dropWhile (fun c => plainN c.toNat) = u := by rw [hpl]; exact List.takeWhile_append_dropWhile
      generalize plnT l k = y at *
      refine hE _ _ (u.dropWhile (fun c => plainN c.toNat)) _ (At.step (p := y) (by rw [hsp]; exact h1) rfl) (At.step (p := y) (by rw [← List.append_assoc, hsp]; exact h2) rfl) hw
  · exfalso
    unfold wrdF at hw
    have h3 : plnT l k = [] := by rw [pln_at h1]; rfl
    have h4 : (Q.unqAll l (k : Int)).2.2 ≠ 0 := by
      have hl := h1.len
      unfold Q.unqAll
      rw [if_neg (by simp at hl; omega), Int.toNat_natCast, h1.2, if_neg (by simp)]
      simp
    rw [if_pos h3, if_neg h4] at hw
    cases hw
theorem one_sh {l l' : List UInt8} (T : Two l l') {k k' : Nat} {vs : List ByteArray} (h : Sh l l' k k') (hw : (oneF l k).1 = some vs) : (oneF l' k').1 = some vs ∧ Sh l l' (oneF l k).2 (oneF l' k').2 := by
  unfold oneF at hw ⊢
  cases e : wrdF l 0 k with
  | none => rw [e] at hw; cases hw
  | some y =>
    obtain ⟨x, k1⟩ := y
    rw [e] at hw
    obtain ⟨k1', e', h'⟩ := wrd_sh T h e
    rw [e']
    exact ⟨hw, h'⟩
theorem man_sh {l l' : List UInt8} (T : Two l l') : ∀ (f f' k k' : Nat) (acc vs : List ByteArray), f ≤ f' → Sh l l' k k' → (manF f l k acc).1 = some vs → (manF f' l' k' acc).1 = some vs ∧ Sh l l' (manF f l k acc).2 (manF f' l' k' acc).2
  | 0, f', k, k', acc, vs, hf, h, hw => by cases hw
  | f + 1, 0, k, k', acc, vs, hf, h, hw => by omega
  | f + 1, f' + 1, k, k', acc, vs, hf, h, hw => by
    cases e : wrdF l 0 k with
    | none => rw [manF_no e] at hw; cases hw
    | some y =>
      obtain ⟨x, k1⟩ := y
      obtain ⟨k1', e', h'⟩ := wrd_sh T h e
      have t1 := h'.tk [41] (by decide)
      have t2 := h'.tk [44] (by decide)
      cases ha : tkB l k1 [41] with
      | true =>
        rw [ha] at t1
        rw [manF_end e ha] at hw
        rw [manF_end e ha, manF_end e' t1]
        exact ⟨hw, h'.next (p := [41]) (by simp) ha⟩
      | false =>
        rw [ha] at t1
        cases hb : tkB l k1 [44] with
        | true =>
          rw [hb] at t2
          rw [manF_next e ha hb] at hw
          rw [manF_next e ha hb, manF_next e' t1 t2]
          exact man_sh T f f' _ _ _ vs (by omega) (h'.next (p := [44]) (by simp) hb) hw
        | false => rw [manF_stop e ha hb] at hw; cases hw
theorem many_sh {l l' : List UInt8} (T : Two l l') {k k' : Nat} {vs : List ByteArray} (h : Sh l l' k k') (hw : (manyF l k).1 = some vs) : (manyF l' k').1 = some vs ∧ Sh l l' (manyF l k).2 (manyF l' k').2 := by
  unfold manyF at hw ⊢
  rw [h.tk [40] (by decide)]
  by_cases c : tkB l k [40] = true
  · rw [if_pos c] at hw
    rw [if_pos c, if_pos c]
    exact man_sh T _ _ _ _ _ vs (by have := T.len; omega) (h.next (p := [40]) (by simp) c) hw
  · rw [if_neg c] at hw; cases hw
theorem withO_sh {l l' : List UInt8} {op o : Int} {vs : List ByteArray} {R R' : Option (List ByteArray) × Nat} (h : ∀ vs, R.1 = some vs → R'.1 = some vs ∧ Sh l l' R.2 R'.2) (hw : (withO op R).1 = some (o, vs)) : (withO op R').1 = some (o, vs) ∧ Sh l l' (withO op R).2 (withO op R').2 := by
  rw [withO_two, withO_two]
  unfold withO at hw
  split at hw
  · rename_i y hy
    obtain ⟨a, b⟩ := h y hy
    refine ⟨?_, b⟩
    unfold withO
    rw [a]
    exact hw
  · cases hw
theorem cond_sh {l l' : List UInt8} (T : Two l l') {k k' : Nat} {op : Int} {vs : List ByteArray} (h : Sh l l' k k') (hw : (condF l k).1 = some (op, vs)) : (condF l' k').1 = some (op, vs) ∧ Sh l l' (condF l k).2 (condF l' k').2 := by
  have hone {p : List UInt8} (c : opS l k = ⟨p.toArray⟩) (h0 : p ≠ []) : ∀ vs, (oneF l (skp l (k + p.length))).1 = some vs → (oneF l' (skp l' (k' + p.length))).1 = some vs ∧ Sh l l' (oneF l (skp l (k + p.length))).2 (oneF l' (skp l' (k' + p.length))).2 :=
    fun vs e => one_sh T (h.next h0 (op_tk c)) e
  have hmany {p : List UInt8} (c : opS l k = ⟨p.toArray⟩) (h0 : p ≠ []) : ∀ vs, (manyF l (skp l (k + p.length))).1 = some vs → (manyF l' (skp l' (k' + p.length))).1 = some vs ∧ Sh l l' (manyF l (skp l (k + p.length))).2 (manyF l' (skp l' (k' + p.length))).2 :=
    fun vs e => many_sh T (h.next h0 (op_tk c)) e
  have ho := h.op
  unfold condF at hw ⊢
  rw [ho]
  by_cases c1 : opS l k = ⟨#[33, 61]⟩
  · rw [if_pos c1] at hw
    rw [if_pos c1, if_pos c1]
    exact withO_sh (hone (p := [33, 61]) c1 (by simp)) hw
  rw [if_neg c1] at hw
  rw [if_neg c1, if_neg c1]
  by_cases c2 : opS l k = ⟨#[61]⟩
  · rw [if_pos c2] at hw
    rw [if_pos c2, if_pos c2]
    exact withO_sh (hone (p := [61]) c2 (by simp)) hw
  rw [if_neg c2] at hw
  rw [if_neg c2, if_neg c2]
  by_cases c3 : opS l k = ⟨#[61, 61]⟩
  · rw [if_pos c3] at hw
    rw [if_pos c3, if_pos c3]
    exact withO_sh (hone (p := [61, 61]) c3 (by simp)) hw
  rw [if_neg c3] at hw
  rw [if_neg c3, if_neg c3]
  by_cases c4 : opS l k = ⟨#[110, 111, 116, 105, 110]⟩
  · rw [if_pos c4] at hw
    rw [if_pos c4, if_pos c4]
    exact withO_sh (hmany (p := [110, 111, 116, 105, 110]) c4 (by simp)) hw
  rw [if_neg c4] at hw
  rw [if_neg c4, if_neg c4]
  by_cases c5 : opS l k = ⟨#[105, 110]⟩
  · rw [if_pos c5] at hw
    rw [if_pos c5, if_pos c5]
    exact withO_sh (hmany (p := [105, 110]) c5 (by simp)) hw
  rw [if_neg c5] at hw
  rw [if_neg c5, if_neg c5]
  exact ⟨hw, h⟩
theorem term_sh {l l' : List UInt8} (T : Two l l') {k k' : Nat} {t : Trm} (h : Sh l l' k k') (hw : (termF l k).1 = some t) : (termF l' k').1 = some t ∧ Sh l l' (termF l k).2 (termF l' k').2 := by
  have t0 := h.tk [33] (by decide)
  have hN : Sh l l' (tkN l k [33]) (tkN l' k' [33]) := by
    unfold tkN
    rw [t0]
    by_cases c : tkB l k [33] = true
    · rw [if_pos c, if_pos c]; exact h.next (p := [33]) (by simp) c
    · rw [if_neg c, if_neg c]; exact h
  cases e : wrdF l 1 (tkN l k [33]) with
  | none => rw [termF_none e] at hw; cases hw
  | some y =>
    obtain ⟨x, k2⟩ := y
    obtain ⟨k2', e', h'⟩ := wrd_sh T hN e
    cases ht : tkB l k [33] with
    | true =>
      rw [ht] at t0
      rw [termF_not e ht] at hw
      rw [termF_not e ht, termF_not e' t0]
      exact ⟨hw, h'⟩
    | false =>
      rw [ht] at t0
      cases hc : (condF l k2).1 with
      | none => rw [termF_bad e ht hc] at hw; cases hw
      | some z =>
        obtain ⟨op, vs⟩ := z
        obtain ⟨hc', h2⟩ := cond_sh T h' hc
        rw [termF_some e ht hc] at hw
        rw [termF_some e ht hc, termF_some e' t0 hc']
        exact ⟨hw, h2⟩
theorem Sh.ends {l l' : List UInt8} {k k' : Nat} (h : Sh l l' k k') : k = l.length ↔ k' = l'.length := by
  rcases h with ⟨u, hu, h1, h2⟩ | ⟨h1, h2⟩
  · have a := h1.len
    have b := h2.len
    rw [List.length_append] at b
    simp only [List.length_cons, List.length_nil] at b
    have c : 0 < u.length := List.length_pos_iff.2 hu
    omega
  · have a := h1.len
    have b := h2.len
    simp only [List.length_nil] at a b
    omega
theorem ter_sh {l l' : List UInt8} (T : Two l l') : ∀ (f f' k k' : Nat) (acc ts : List Trm), f ≤ f' → Sh l l' k k' → (terF f l k acc).1 = some ts → (terF f' l' k' acc).1 = some ts
  | 0, f', k, k', acc, ts, hf, h, hw => by cases hw
  | f + 1, 0, k, k', acc, ts, hf, h, hw => by omega
  | f + 1, f' + 1, k, k', acc, ts, hf, h, hw => by
    cases e : (termF l k).1 with
    | none => rw [terF_no e] at hw; cases hw
    | some t =>
      obtain ⟨e', h'⟩ := term_sh T h e
      have t2 := h'.tk [44] (by decide)
      by_cases c : (termF l k).2 = l.length
      · rw [terF_end e c] at hw
        rw [terF_end e' (h'.ends.1 c)]
        exact hw
      · have c' : (termF l' k').2 ≠ l'.length := fun q => c (h'.ends.2 q)
        cases hb : tkB l (termF l k).2 [44] with
        | true =>
          rw [hb] at t2
          rw [terF_next e c hb] at hw
          rw [terF_next e' c' t2]
          exact ter_sh T f f' _ _ _ ts (by omega) (h'.next (p := [44]) (by simp) hb) hw
        | false => rw [terF_stop e c hb] at hw; cases hw
/-- with a blank ahead and a blank behind the same is read -/
theorem par_sh {l : List UInt8} {ts : List Trm} (h : (parF l).1 = some ts) (hs : l.length + 2 ≤ 1048576) : (parF (32 :: (l ++ [32]))).1 = some ts := by
  have T : Two l (32 :: (l ++ [32])) := ⟨by simp⟩
  have a1 : At l 0 l := ⟨Nat.zero_le _, rfl⟩
  have a2 : At (32 :: (l ++ [32])) 0 (32 :: (l ++ [32])) := ⟨Nat.zero_le _, rfl⟩
  have hsh := skp_sh l 0 1 a1 a2.one
  rw [← skp_one a2] at hsh
  unfold parF at h ⊢
  rw [if_neg (by omega)] at h
  rw [if_neg (by have := T.len; omega)]
  unfold tersF at h ⊢
  by_cases c : skp l 0 = l.length
  · rw [if_pos c] at h
    rw [if_pos (hsh.ends.1 c)]
    exact h
  · rw [if_neg c] at h
    rw [if_neg (fun q => c (hsh.ends.2 q))]
    exact ter_sh T _ _ _ _ [] ts (by have := T.len; omega) hsh h
end Go.Proofs.YtolekldjbbjmjaaGreatDoor
