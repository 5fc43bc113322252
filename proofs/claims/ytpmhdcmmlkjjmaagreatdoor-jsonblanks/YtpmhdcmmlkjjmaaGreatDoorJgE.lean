import Derived.Test.YtpmhdcmmlkjjmaaGreatDoorG42
/- what is written is read as what it was (plain). -/
set_option linter.unusedSimpArgs false
set_option linter.unusedVariables false
set_option maxRecDepth 100000
namespace Go.Proofs.YtpmhdcmmlkjjmaaGreatDoor
open Go.RowKit Go.Lib
/-- the first byte of a text -/
theorem txt_head (v : V) : ∃ c r, txtV v = c :: r ∧ isBl c = false ∧ c ≠ 93 ∧ c ≠ 125 := by
  obtain ⟨k, b, i, s, l, m⟩ := v
  rw [txtV]
  have num : ∃ c r, itoa i = c :: r ∧ isBl c = false ∧ c ≠ 93 ∧ c ≠ 125 := by
    have hne : itoa i ≠ [] := by
      unfold itoa
      split
      · simp
      · exact dec_ne _
    obtain ⟨c, t, ht⟩ := List.exists_cons_of_ne_nil hne
    have hn := itoa_num i c (by rw [ht]; exact List.mem_cons_self ..)
    refine ⟨c, t, ht, ?_, ?_, ?_⟩
    · cases hb : isBl c
      · rfl
      · exfalso
        unfold isBl at hb
        simp at hb
        rcases hb with ((rfl | rfl) | rfl) | rfl <;> revert hn <;> decide
    · rintro rfl; revert hn; decide
    · rintro rfl; revert hn; decide
  split
  · split
    · exact ⟨_, _, rfl, by decide, by decide, by decide⟩
    · exact ⟨_, _, rfl, by decide, by decide, by decide⟩
  · split
    · exact num
    · split
      · exact ⟨_, _, rfl, by decide, by decide, by decide⟩
      · split
        · exact ⟨_, _, rfl, by decide, by decide, by decide⟩
        · split
          · exact ⟨_, _, rfl, by decide, by decide, by decide⟩
          · exact ⟨_, _, rfl, by decide, by decide, by decide⟩
theorem txt_ent {v : V} {c : UInt8} {r : List UInt8} {D n o k : Nat} (h : txtV v = c :: r) (hn : n + ndV v ≤ 65536) (ho : okD D v o) : entJ c D n o k = .ok (n + 1) := by
  obtain ⟨kk, b, i, s, l, m⟩ := v
  rw [okD] at ho
  rw [ndV] at hn
  refine entD_ok ?_ (by omega) (by omega)
  rw [txtV] at h
  split at h
  · split at h
    · injection h with h _; subst h; decide
    · injection h with h _; subst h; decide
  · split at h
    · have := itoa_num i c (by rw [h]; exact List.mem_cons_self ..)
      exact .inr (.inr (.inr (.inr (.inr (.inr this)))))
    · split at h
      · injection h with h _; subst h; decide
      · split at h
        · injection h with h _; subst h; decide
        · split at h
          · injection h with h _; subst h; decide
          · injection h with h _; subst h; decide
theorem emp_of {s : ByteArray} (h : s.toList.isEmpty = true) : s = ⟨#[]⟩ := by
  rw [toList_data] at h
  refine key_eq ?_
  rw [List.isEmpty_iff.1 h]
theorem stop44 (s : List UInt8) : stopB (44 :: s) := fun c h => by obtain rfl := Option.some.inj h; decide
theorem stop93 (s : List UInt8) : stopB (93 :: s) := fun c h => by obtain rfl := Option.some.inj h; decide
theorem stop125 (s : List UInt8) : stopB (125 :: s) := fun c h => by obtain rfl := Option.some.inj h; decide
theorem stop0 : stopB [] := fun c h => by cases h
theorem joinB_cons2 (x y : List UInt8) (t : List (List UInt8)) : joinB (x :: y :: t) = x ++ 44 :: joinB (y :: t) := by simp [joinB]
theorem goes_comma {l r : List UInt8} {k : Nat} {c d : UInt8} (h : l.drop k = 44 :: d :: r) (hd : isBl d = false) : goesJ l k c = .ok (true, k + 1) := by
  have hb := blk_at h (by decide)
  obtain ⟨_, _, h2⟩ := drop_cons h
  rw [goesJ_more (by rw [hb, tk_at h]; simp), hb, blk_at h2 hd]
theorem goes_close {l r : List UInt8} {k : Nat} {c : UInt8} (h : l.drop k = c :: r) (hb : isBl c = false) (hc : c ≠ 44) : goesJ l k c = .ok (false, k + 1) := by
  have hb := blk_at h hb
  rw [goesJ_end (by rw [hb, tk_at h]; simp [hc]) (by rw [hb]; exact must_at h)]
theorem sorted_rise {m : List Mem} (h : riseB m = true) : sortM m = m ∧ (keysM m).Nodup ∧ ∀ x ∈ m, validD x.1.data.toList = true := by
  have hat : ∀ j (hj : j < m.length), validD (m[j]).1.data.toList = true ∧ (0 < j → cmpS (m[j - 1]'(by omega)).1 (m[j]).1 < 0) := fun j hj => by
    have h1 := List.all_eq_true.1 h j (by simpa using hj)
    rw [okAt, Bool.and_eq_true, Bool.or_eq_true] at h1
    refine ⟨by have := h1.1; rwa [keyAt_eq hj] at this, fun h0 => ?_⟩
    rcases h1.2 with q | q
    · simp at q; omega
    · rw [keyAt_eq hj, keyAt_eq (show j - 1 < m.length by omega), ltB, less_k, decide_eq_true_iff] at q
      exact q
  have hlt : ∀ d i (hi : i + d + 1 < m.length), cmpS (m[i]'(by omega)).1 (m[i + d + 1]).1 < 0 := by
    intro d
    induction d with
    | zero =>
      intro i hi
      have := (hat (i + 1) hi).2 (by omega)
      simpa using this
    | succ d ih =>
      intro i hi
      have h1 := ih i (by omega)
      have h2 := (hat (i + (d + 1) + 1) hi).2 (by omega)
      have e : i + (d + 1) + 1 - 1 = i + d + 1 := by omega
      simp only [e] at h2
      exact k_trans h1 h2
  have hlt2 : ∀ i j (hi : i < m.length) (hj : j < m.length), i < j → cmpS (m[i]).1 (m[j]).1 < 0 := fun i j hi hj hij => by
    have := hlt (j - i - 1) i (by omega)
    have e : i + (j - i - 1) + 1 = j := by omega
    simp only [e] at this
    exact this
  have hnd : (keysM m).Nodup := List.pairwise_iff_getElem.2 fun i j hi hj hij => by
    simp only [keysM, List.getElem_map]
    intro e
    have := hlt2 i j (by simpa [keysM] using hi) (by simpa [keysM] using hj) hij
    rw [key_eq e, k_self] at this
    omega
  refine ⟨(sort_one hnd (List.Perm.refl _) (List.pairwise_iff_getElem.2 fun i j hi hj hij => ?_)).symm, hnd, fun x hx => ?_⟩
  · have h1 := hlt2 i j hi hj hij
    have h2 := k_anti (m[i]).1 (m[j]).1
    show ¬ _ < 0
    omega
  · obtain ⟨j, hj, rfl⟩ := List.getElem_of_mem hx
    exact (hat j hj).1
/-- what is written is read as what it was -/
theorem back_all (l : List UInt8) (D : Nat) : ∀ F : Nat,
    (∀ v o k n s, okD D v o → n + ndV v ≤ 65536 → 2 * (l.length - k) + 1 ≤ F → l.drop k = txtV v ++ s → stopB s → valJ l D F o k n = .ok (v, k + (txtV v).length, n + ndV v)) ∧
    (∀ xs o k n acc s, xs ≠ [] → (∀ x ∈ xs, okD D x o) → n + ndL xs ≤ 65536 → 2 * (l.length - k) + 2 ≤ F → l.drop k = joinB (txtL xs) ++ 93 :: s → lisJ l D F o true k n acc = .ok (acc ++ xs, k + (joinB (txtL xs)).length + 1, n + ndL xs)) ∧
    (∀ xs o k n acc s, xs ≠ [] → (∀ x ∈ xs, okD D x.2 o ∧ validD x.1.data.toList = true) → (keysM (acc ++ xs)).Nodup → n + ndM xs ≤ 65536 → 2 * (l.length - k) + 2 ≤ F → l.drop k = joinB (txtM xs) ++ 125 :: s → memJ l D F o true k n acc = .ok (acc ++ xs, k + (joinB (txtM xs)).length + 1, n + ndM xs))
  | 0 => by
    refine ⟨?_, ?_, ?_⟩
    · intro v o k n s _ _ h; omega
    · intro xs o k n acc s _ _ _ h; omega
    · intro xs o k n acc s _ _ _ _ h; omega
  | F + 1 => by
    obtain ⟨hV, hL, hM⟩ := back_all l D F
    refine ⟨?_, ?_, ?_⟩
    · intro v o k n s ho hn hF hd hs
      obtain ⟨c, r, hc, hbl, _, _⟩ := txt_head v
      have hd0 := hd
      rw [hc, List.cons_append] at hd0
      obtain ⟨hk, hlc, hd1⟩ := drop_cons hd0
      have he := txt_ent (k := k) hc hn ho
      rw [valJ_in hk (by rw [hlc]; exact he), hlc]
      obtain ⟨kk, b, i, x, xs, ms⟩ := v
      rw [okD] at ho
      obtain ⟨hoD, hg, hi, hol, hom⟩ := ho
      rw [goodB, Bool.and_eq_true, Bool.and_eq_true] at hg
      obtain ⟨⟨hp, hu⟩, hr⟩ := hg
      rw [plainB, decide_eq_true_iff] at hp
      obtain ⟨hk0, hk5, p1, p2, p3, p4, p5⟩ := hp
      have hndv : ndV (V.mk kk b i x xs ms) = 1 + ndL xs + ndM ms := by rw [ndV]
      rw [hndv] at hn ⊢
      rcases (show kk = 0 ∨ kk = 1 ∨ kk = 2 ∨ kk = 3 ∨ kk = 4 ∨ kk = 5 by omega) with rfl | rfl | rfl | rfl | rfl | rfl
      · obtain rfl : b = false := p1.resolve_left (by decide)
        obtain rfl : i = 0 := p2.resolve_left (by decide)
        obtain rfl := emp_of (p3.resolve_left (by decide))
        obtain rfl : xs = [] := List.length_eq_zero_iff.1 (p4.resolve_left (by decide))
        obtain rfl : ms = [] := List.length_eq_zero_iff.1 (p5.resolve_left (by decide))
        have ht : txtV (V.mk 0 false 0 ⟨#[]⟩ [] []) = [110, 117, 108, 108] := by rw [txtV]; simp
        rw [ht] at hc hd ⊢
        injection hc with hc _
        subst hc
        rw [swJ, if_pos rfl, word_back hd]
        rfl
      · obtain rfl : i = 0 := p2.resolve_left (by decide)
        obtain rfl := emp_of (p3.resolve_left (by decide))
        obtain rfl : xs = [] := List.length_eq_zero_iff.1 (p4.resolve_left (by decide))
        obtain rfl : ms = [] := List.length_eq_zero_iff.1 (p5.resolve_left (by decide))
        cases b with
        | true =>
          have ht : txtV (V.mk 1 true 0 ⟨#[]⟩ [] []) = [116, 114, 117, 101] := by rw [txtV]; simp
          rw [ht] at hc hd ⊢
          injection hc with hc _
          subst hc
          rw [swJ, if_neg (by decide), if_pos rfl, word_back hd]
          rfl
        | false =>
          have ht : txtV (V.mk 1 false 0 ⟨#[]⟩ [] []) = [102, 97, 108, 115, 101] := by rw [txtV]; simp
          rw [ht] at hc hd ⊢
          injection hc with hc _
          subst hc
          rw [swJ, if_neg (by decide), if_neg (by decide), if_pos rfl, word_back hd]
          rfl
      · obtain rfl : b = false := p1.resolve_left (by decide)
        obtain rfl := emp_of (p3.resolve_left (by decide))
        obtain rfl : xs = [] := List.length_eq_zero_iff.1 (p4.resolve_left (by decide))
        obtain rfl : ms = [] := List.length_eq_zero_iff.1 (p5.resolve_left (by decide))
        have ht : txtV (V.mk 2 false i ⟨#[]⟩ [] []) = itoa i := by rw [txtV]; simp
        rw [ht] at hc hd ⊢
        have hnum := itoa_num i c (by rw [hc]; exact List.mem_cons_self ..)
        have hx : ∀ d : UInt8, numC d = false → ¬ c = d := fun d hd e => by rw [e, hd] at hnum; cases hnum
        rw [swJ, if_neg (hx _ (by decide)), if_neg (hx _ (by decide)), if_neg (hx _ (by decide)), if_neg (hx _ (by decide)), if_neg (hx _ (by decide)), if_neg (hx _ (by decide)), num_back hd hs hi]
        rfl
      · obtain rfl : b = false := p1.resolve_left (by decide)
        obtain rfl : i = 0 := p2.resolve_left (by decide)
        obtain rfl : xs = [] := List.length_eq_zero_iff.1 (p4.resolve_left (by decide))
        obtain rfl : ms = [] := List.length_eq_zero_iff.1 (p5.resolve_left (by decide))
        have ht : txtV (V.mk 3 false 0 x [] []) = Q.qt x.data.toList := by rw [txtV]; simp
        rw [ht] at hc hd ⊢
        have hc34 : c = 34 := by rw [Q.qt] at hc; injection hc with hc _; exact hc.symm
        subst hc34
        rw [swJ, if_neg (by decide), if_neg (by decide), if_neg (by decide), if_pos rfl, quo_back hd (by omega) hu]
        rfl
      · obtain rfl : b = false := p1.resolve_left (by decide)
        obtain rfl : i = 0 := p2.resolve_left (by decide)
        obtain rfl := emp_of (p3.resolve_left (by decide))
        obtain rfl : ms = [] := List.length_eq_zero_iff.1 (p5.resolve_left (by decide))
        have ht : txtV (V.mk 4 false 0 ⟨#[]⟩ xs []) = 91 :: (joinB (txtL xs) ++ [93]) := by rw [txtV]; simp
        rw [ht] at hc hd ⊢
        injection hc with hc _
        subst hc
        rw [swJ, if_neg (by decide), if_neg (by decide), if_neg (by decide), if_neg (by decide), if_pos rfl]
        rw [List.cons_append, List.append_assoc] at hd
        obtain ⟨_, _, hd2⟩ := drop_cons hd
        by_cases hx0 : xs = []
        · subst hx0
          rw [txtL, joinB, List.nil_append] at hd2
          have hd3 : l.drop (k + 1) = 93 :: s := hd2
          have hb : blk l (k + 1) = k + 1 := blk_at hd3 (by decide)
          have hbg : begunJ l k 93 = (false, k + 1 + 1) := by rw [begunJ, hb, tk_at hd3]; rfl
          obtain ⟨F', rfl⟩ : ∃ F', F = F' + 1 := ⟨F - 1, by omega⟩
          rw [hbg, lisJ_end]
          rfl
        · obtain ⟨y, t, rfl⟩ := List.exists_cons_of_ne_nil hx0
          obtain ⟨c2, r2, hc2, hb2, hn93, _⟩ := txt_head y
          have hj : ∃ q, joinB (txtL (y :: t)) = c2 :: q := by rw [txtL, joinB, hc2]; exact ⟨_, rfl⟩
          obtain ⟨q, hq⟩ := hj
          have hd3 : l.drop (k + 1) = c2 :: (q ++ 93 :: s) := by rw [hd2, hq]; rfl
          have hb : blk l (k + 1) = k + 1 := blk_at hd3 hb2
          have hbg : begunJ l k 93 = (true, k + 1) := by rw [begunJ, hb, tk_at hd3]; simp [hn93]
          have hL1 := hL (y :: t) (o + 1) (k + 1) (n + 1) [] s hx0 (okDL_iff.1 hol) (by omega) (by omega) hd2
          rw [hbg]
          dsimp only
          rw [hL1]
          dsimp only
          rw [List.nil_append, List.length_cons, List.length_append, ndM]
          congr 3
          · simp; omega
          · omega
      · obtain rfl : b = false := p1.resolve_left (by decide)
        obtain rfl : i = 0 := p2.resolve_left (by decide)
        obtain rfl := emp_of (p3.resolve_left (by decide))
        obtain rfl : xs = [] := List.length_eq_zero_iff.1 (p4.resolve_left (by decide))
        have ht : txtV (V.mk 5 false 0 ⟨#[]⟩ [] ms) = 123 :: (joinB (txtM ms) ++ [125]) := by rw [txtV]; simp
        rw [ht] at hc hd ⊢
        injection hc with hc _
        subst hc
        rw [swJ, if_neg (by decide), if_neg (by decide), if_neg (by decide), if_neg (by decide), if_neg (by decide), if_pos rfl]
        rw [List.cons_append, List.append_assoc] at hd
        obtain ⟨_, _, hd2⟩ := drop_cons hd
        obtain ⟨hsrt, hnd, hval⟩ := sorted_rise hr
        by_cases hx0 : ms = []
        · subst hx0
          rw [txtM, joinB, List.nil_append] at hd2
          have hd3 : l.drop (k + 1) = 125 :: s := hd2
          have hb : blk l (k + 1) = k + 1 := blk_at hd3 (by decide)
          have hbg : begunJ l k 125 = (false, k + 1 + 1) := by rw [begunJ, hb, tk_at hd3]; rfl
          obtain ⟨F', rfl⟩ : ∃ F', F = F' + 1 := ⟨F - 1, by omega⟩
          rw [hbg, memJ_end]
          rfl
        · obtain ⟨y, t, rfl⟩ := List.exists_cons_of_ne_nil hx0
          have hj : ∃ q, joinB (txtM (y :: t)) = 34 :: q := by rw [txtM_eq, List.map_cons, joinB, txtE, Q.qt]; exact ⟨_, rfl⟩
          obtain ⟨q, hq⟩ := hj
          have hd3 : l.drop (k + 1) = 34 :: (q ++ 125 :: s) := by rw [hd2, hq]; rfl
          have hb : blk l (k + 1) = k + 1 := blk_at hd3 (by decide)
          have hbg : begunJ l k 125 = (true, k + 1) := by rw [begunJ, hb, tk_at hd3]; rfl
          have hM1 := hM (y :: t) (o + 1) (k + 1) (n + 1) [] s hx0 (fun z hz => ⟨okDM_iff.1 hom z hz, hval z hz⟩) (by rw [List.nil_append]; exact hnd) (by omega) (by omega) hd2
          rw [hbg]
          dsimp only
          rw [hM1]
          dsimp only
          rw [List.nil_append, hsrt, List.length_cons, List.length_append, ndL]
          congr 3
          · simp; omega
          · omega
    · intro xs o k n acc s hne hok hn hF hd
      obtain ⟨y, t, rfl⟩ := List.exists_cons_of_ne_nil hne
      rw [ndL] at hn
      by_cases ht : t = []
      · subst ht
        rw [txtL, txtL, joinB_one] at hd ⊢
        have hv := hV y o k n (93 :: s) (hok y (List.mem_cons_self ..)) (by omega) (by omega) hd (stop93 s)
        have hd2 := drop_app hd
        obtain ⟨F', rfl⟩ : ∃ F', F = F' + 1 := ⟨F - 1, by omega⟩
        rw [lisJ_on hv (goes_close hd2 (by decide) (by decide)), lisJ_end, ndL, ndL]
        rfl
      · obtain ⟨z, t', rfl⟩ := List.exists_cons_of_ne_nil ht
        rw [txtL, txtL, joinB_cons2, ← txtL] at hd ⊢
        rw [List.append_assoc, List.cons_append] at hd
        have hv := hV y o k n _ (hok y (List.mem_cons_self ..)) (by omega) (by omega) hd (stop44 _)
        have hd2 := drop_app hd
        obtain ⟨c2, r2, hc2, hb2, _, _⟩ := txt_head z
        have hj : ∃ q, joinB (txtL (z :: t')) = c2 :: q := by rw [txtL, joinB, hc2]; exact ⟨_, rfl⟩
        obtain ⟨q, hq⟩ := hj
        obtain ⟨hkk, _, hd3⟩ := drop_cons hd2
        have hg : goesJ l (k + (txtV y).length) 93 = .ok (true, k + (txtV y).length + 1) := goes_comma (d := c2) (r := q ++ 93 :: s) (by rw [hd2, hq]; rfl) hb2
        obtain ⟨c1, r1, hc1, _⟩ := txt_head y
        have hlen : 1 ≤ (txtV y).length := by rw [hc1]; simp
        have hL1 := hL (z :: t') o (k + (txtV y).length + 1) (n + ndV y) (acc ++ [y]) s (by simp) (fun x hx => hok x (List.mem_cons_of_mem _ hx)) (by omega) (by omega) hd3
        rw [lisJ_on hv hg]
        dsimp only
        rw [hL1]
        rw [List.append_assoc, show ndL (y :: z :: t') = ndV y + ndL (z :: t') by rw [ndL]]
        congr 3
        · simp; omega
        · omega
    · intro xs o k n acc s hne hok hnd hn hF hd
      obtain ⟨⟨key, y⟩, t, rfl⟩ := List.exists_cons_of_ne_nil hne
      rw [ndM] at hn
      have hkv := (hok (key, y) (List.mem_cons_self ..)).2
      have hyo := (hok (key, y) (List.mem_cons_self ..)).1
      dsimp only at hkv hyo
      have hni : key.data.toList ∉ (acc.map fun x => x.1.data.toList) := fun hm => by
        rw [keysM, List.map_append] at hnd
        exact (List.nodup_append.1 hnd).2.2 _ hm _ (by rw [List.map_cons]; exact List.mem_cons_self ..) rfl
      obtain ⟨c2, r2, hc2, hb2, _, _⟩ := txt_head y
      have hlenq : (Q.qt key.data.toList).length = 2 + Q.sz key.data.toList := Q.qt_length _
      have hkey : ∀ rest, l.drop k = (Q.qt key.data.toList ++ 58 :: txtV y) ++ rest → keyJ l k (acc.map fun x => x.1.data.toList) = .ok (key, k + (Q.qt key.data.toList).length + 1) ∧ l.drop (k + (Q.qt key.data.toList).length + 1) = txtV y ++ rest := fun rest h => by
        rw [List.append_assoc, List.cons_append] at h
        have h34 : ∃ q, Q.qt key.data.toList = 34 :: q := ⟨_, rfl⟩
        obtain ⟨q, hq⟩ := h34
        have h0 := h
        rw [hq, List.cons_append] at h0
        obtain ⟨hk, e, _⟩ := drop_cons h0
        have hd2 := drop_app h
        obtain ⟨_, _, hd3⟩ := drop_cons hd2
        have hd4 := hd3
        rw [hc2, List.cons_append] at hd4
        have hbk := blk_at hd2 (by decide)
        rw [keyJ_ok hk e (quo_back h (by omega) hkv) hni (by rw [hbk]; exact must_at hd2), blk_at hd4 hb2]
        exact ⟨rfl, hd3⟩
      by_cases ht : t = []
      · subst ht
        rw [txtM, txtM, joinB_one] at hd ⊢
        obtain ⟨hkj, hdv⟩ := hkey _ hd
        have hv := hV y o _ n (125 :: s) hyo (by omega) (by omega) hdv (stop125 s)
        have hd2 := drop_app hdv
        obtain ⟨F', rfl⟩ : ∃ F', F = F' + 1 := ⟨F - 1, by omega⟩
        rw [memJ_on hkj hv (goes_close hd2 (by decide) (by decide)), memJ_end, ndM, ndM]
        congr 3
        simp; omega
      · obtain ⟨z, t', rfl⟩ := List.exists_cons_of_ne_nil ht
        have hj : joinB (txtM ((key, y) :: z :: t')) = (Q.qt key.data.toList ++ 58 :: txtV y) ++ 44 :: joinB (txtM (z :: t')) := by rw [txtM_eq, txtM_eq, List.map_cons, List.map_cons, joinB_cons2]; rfl
        rw [hj, List.append_assoc] at hd
        rw [hj]
        obtain ⟨hkj, hdv⟩ := hkey _ hd
        rw [List.cons_append] at hdv
        have hv := hV y o _ n _ hyo (by omega) (by omega) hdv (stop44 _)
        have hd2 := drop_app hdv
        have hj2 : ∃ q, joinB (txtM (z :: t')) = 34 :: q := by rw [txtM_eq, List.map_cons, joinB, txtE, Q.qt]; exact ⟨_, rfl⟩
        obtain ⟨q, hq⟩ := hj2
        obtain ⟨hkk, _, hd3⟩ := drop_cons hd2
        have hg := goes_comma (c := 125) (d := 34) (r := q ++ 125 :: s) (l := l) (by rw [hd2, hq]; rfl) (by decide)
        have hM1 := hM (z :: t') o _ (n + ndV y) (acc ++ [(key, y)]) s (by simp) (fun x hx => hok x (List.mem_cons_of_mem _ hx)) (by rw [List.append_assoc]; exact hnd) (by omega) (by omega) hd3
        rw [memJ_on hkj hv hg]
        dsimp only
        rw [hM1]
        rw [List.append_assoc, show ndM ((key, y) :: z :: t') = ndV y + ndM (z :: t') by rw [ndM]]
        congr 3
        · simp; omega
        · omega
theorem who_back {v : V} {D : Nat} (ho : okD D v 0) (hn : ndV v ≤ 65536) : whoJ (txtV v) D (2 * (txtV v).length + 1) = .ok v := by
  obtain ⟨c, r, hc, hb, _, _⟩ := txt_head v
  have h0 : blk (txtV v) 0 = 0 := blk_at (c := c) (r := r) (by rw [List.drop_zero]; exact hc) hb
  have := (back_all (txtV v) D (2 * (txtV v).length + 1)).1 v 0 0 0 [] ho (by omega) (by omega) (by rw [List.drop_zero, List.append_nil]) stop0
  rw [whoJ_ok (x := (v, 0 + (txtV v).length, 0 + ndV v)) (by rw [h0]; exact this)]
  dsimp only
  rw [blk_end (by omega)]
  omega
end Go.Proofs.YtpmhdcmmlkjjmaaGreatDoor
