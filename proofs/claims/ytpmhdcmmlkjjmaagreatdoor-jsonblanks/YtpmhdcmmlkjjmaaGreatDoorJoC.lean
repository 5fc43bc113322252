import Derived.Test.YtpmhdcmmlkjjmaaGreatDoorG45
/- a text that is cut off is refused: the values, the lists, the maps (plain). -/
set_option linter.unusedSimpArgs false
set_option linter.unusedVariables false
set_option maxRecDepth 100000
namespace Go.Proofs.YtpmhdcmmlkjjmaaGreatDoor
open Go.RowKit Go.Lib
def V.kind : V → Int
  | .mk k _ _ _ _ _ => k
/-- a number that is cut off -/
theorem num_cut {L l : List UInt8} {cut : Nat} (hl : l = L.take cut) (hc : cut ≤ L.length) {s : List UInt8} {k : Nat} {i : Int} (h : L.drop k = itoa i ++ s) (hi : In64 i) (h1 : k < cut) (h2 : cut < k + (itoa i).length) :
    (∃ i', numJ l k = .ok (i', cut)) ∨ (∃ f, numJ l k = .error f ∧ Early L cut f) := by
  have hd : l.drop k = (itoa i).take (cut - k) := by rw [cut_drop hl hc, h, List.take_append_of_le_length (by omega)]
  have hr : runJ l k = (itoa i).take (cut - k) := by
    have := List.takeWhile_append_of_pos (p := numC) (l₁ := (itoa i).take (cut - k)) (l₂ := []) (fun c hc' => itoa_num i c (List.mem_of_mem_take hc'))
    rw [runJ, hd]
    simpa using this
  rcases itoa_take i hi (cut - k) (by omega) (by omega) with ⟨i', hi', e⟩ | ⟨hj, e, hn⟩
  · left
    refine ⟨i', ?_⟩
    rw [numJ_yes (v := i') (by rw [hr, e]; exact int_back i' hi'), hr, List.length_take]
    congr 2
    omega
  · right
    refine ⟨(k, 33), numJ_no (by rw [hr, e]; exact hn), by show k ≤ cut; omega, .inr (.inr (.inr (.inr ⟨rfl, by omega, by show k = cut - 1; omega, ?_⟩)))⟩
    have hk : cut - 1 = k := by omega
    rw [hk]
    have h0 : (L.drop k)[0]? = some 45 := by
      rw [h]
      rw [hj] at e
      cases hq : itoa i with
      | nil => rw [hq] at e; simp at e
      | cons c r =>
        rw [hq, List.take_succ_cons] at e
        injection e with e _
        rw [e]; rfl
    rw [List.getElem?_drop] at h0
    simpa using h0
theorem cut_all (L l : List UInt8) (cut : Nat) (hl : l = L.take cut) (hc : cut ≤ L.length) (D : Nat) : ∀ F : Nat,
    (∀ v o k n s, okD D v o → n + ndV v ≤ 65536 → 2 * (l.length - k) + 1 ≤ F → L.drop k = txtV v ++ s → k ≤ cut → cut < k + (txtV v).length → (∃ f, valJ l D F o k n = .error f ∧ Early L cut f) ∨ (v.kind = 2 ∧ ∃ x n', valJ l D F o k n = .ok (x, cut, n'))) ∧
    (∀ xs o k n acc s, xs ≠ [] → (∀ x ∈ xs, okD D x o) → n + ndL xs ≤ 65536 → 2 * (l.length - k) + 2 ≤ F → L.drop k = joinB (txtL xs) ++ 93 :: s → k ≤ cut → cut < k + (joinB (txtL xs)).length + 1 → ∃ f, lisJ l D F o true k n acc = .error f ∧ Early L cut f) ∧
    (∀ xs o k n acc s, xs ≠ [] → (∀ x ∈ xs, okD D x.2 o ∧ validD x.1.data.toList = true) → (keysM (acc ++ xs)).Nodup → n + ndM xs ≤ 65536 → 2 * (l.length - k) + 2 ≤ F → L.drop k = joinB (txtM xs) ++ 125 :: s → k ≤ cut → cut < k + (joinB (txtM xs)).length + 1 → ∃ f, memJ l D F o true k n acc = .error f ∧ Early L cut f)
  | 0 => by
    refine ⟨?_, ?_, ?_⟩
    · intro v o k n s _ _ h; omega
    · intro xs o k n acc s _ _ _ h; omega
    · intro xs o k n acc s _ _ _ _ h; omega
  | F + 1 => by
    obtain ⟨hV, hL, hM⟩ := cut_all L l cut hl hc D F
    have hVb := (back_all l D F).1
    have hlen := cut_len hl hc
    refine ⟨?_, ?_, ?_⟩
    · intro v o k n s ho hn hF hd h1 h2
      by_cases hkc : ¬ k < cut
      · obtain rfl : k = cut := by omega
        exact .inl ⟨_, valJ_end (by omega), cut_end L k⟩
      replace hkc : k < cut := by omega
      obtain ⟨c, r, hcv, hbl, _, _⟩ := txt_head v
      have hd0 := hd
      rw [hcv, List.cons_append] at hd0
      have hd1 := cut_cons hl hc hd0 hkc
      obtain ⟨hk, hlc, _⟩ := drop_cons hd1
      have he := txt_ent (k := k) hcv hn ho
      rw [valJ_in hk (by rw [hlc]; exact he), hlc]
      obtain ⟨kk, b, i, x, xs, ms⟩ := v
      rw [okD] at ho
      obtain ⟨hoD, hg, hi, hol, hom⟩ := ho
      rw [goodB, Bool.and_eq_true, Bool.and_eq_true] at hg
      obtain ⟨⟨hp, hu⟩, hr⟩ := hg
      rw [plainB, decide_eq_true_iff] at hp
      obtain ⟨hk0, hk5, p1, p2, p3, p4, p5⟩ := hp
      have hndv : ndV (V.mk kk b i x xs ms) = 1 + ndL xs + ndM ms := by rw [ndV]
      rw [hndv] at hn
      rcases (show kk = 0 ∨ kk = 1 ∨ kk = 2 ∨ kk = 3 ∨ kk = 4 ∨ kk = 5 by omega) with rfl | rfl | rfl | rfl | rfl | rfl
      · have ht : txtV (V.mk 0 b i x xs ms) = [110, 117, 108, 108] := by rw [txtV]; simp
        rw [ht] at hcv hd h2
        injection hcv with hcv _
        subst hcv
        rw [swJ, if_pos rfl, cut_word hl hc hd h1 h2]
        exact .inl ⟨_, rfl, cut_end L cut⟩
      · cases b with
        | true =>
          have ht : txtV (V.mk 1 true i x xs ms) = [116, 114, 117, 101] := by rw [txtV]; simp
          rw [ht] at hcv hd h2
          injection hcv with hcv _
          subst hcv
          rw [swJ, if_neg (by decide), if_pos rfl, cut_word hl hc hd h1 h2]
          exact .inl ⟨_, rfl, cut_end L cut⟩
        | false =>
          have ht : txtV (V.mk 1 false i x xs ms) = [102, 97, 108, 115, 101] := by rw [txtV]; simp
          rw [ht] at hcv hd h2
          injection hcv with hcv _
          subst hcv
          rw [swJ, if_neg (by decide), if_neg (by decide), if_pos rfl, cut_word hl hc hd h1 h2]
          exact .inl ⟨_, rfl, cut_end L cut⟩
      · have ht : txtV (V.mk 2 b i x xs ms) = itoa i := by rw [txtV]; simp
        rw [ht] at hcv hd h2
        have hnum := itoa_num i c (by rw [hcv]; exact List.mem_cons_self ..)
        have hx : ∀ d : UInt8, numC d = false → ¬ c = d := fun d hd e => by rw [e, hd] at hnum; cases hnum
        rw [swJ, if_neg (hx _ (by decide)), if_neg (hx _ (by decide)), if_neg (hx _ (by decide)), if_neg (hx _ (by decide)), if_neg (hx _ (by decide)), if_neg (hx _ (by decide))]
        rcases num_cut hl hc hd hi hkc h2 with ⟨i', e⟩ | ⟨f, e, hf⟩
        · rw [e]; exact .inr ⟨rfl, _, _, rfl⟩
        · rw [e]; exact .inl ⟨f, rfl, hf⟩
      · have ht : txtV (V.mk 3 b i x xs ms) = Q.qt x.data.toList := by rw [txtV]; simp
        rw [ht] at hcv hd h2
        have hc34 : c = 34 := by rw [Q.qt] at hcv; injection hcv with hcv _; exact hcv.symm
        subst hc34
        obtain ⟨f, e, hf1, hf2⟩ := quo_cut hd hu hl hc hkc h2
        rw [swJ, if_neg (by decide), if_neg (by decide), if_neg (by decide), if_pos rfl, e]
        exact .inl ⟨f, rfl, hf1, by rcases hf2 with q | q | q <;> simp [q]⟩
      · obtain rfl : ms = [] := List.length_eq_zero_iff.1 (p5.resolve_left (by decide))
        have ht : txtV (V.mk 4 b i x xs []) = 91 :: (joinB (txtL xs) ++ [93]) := by rw [txtV]; simp
        rw [ht] at hcv hd h2
        injection hcv with hcv _
        subst hcv
        rw [swJ, if_neg (by decide), if_neg (by decide), if_neg (by decide), if_neg (by decide), if_pos rfl]
        rw [List.cons_append, List.append_assoc] at hd
        obtain ⟨_, _, hd2⟩ := drop_cons hd
        rw [List.length_cons, List.length_append] at h2
        simp only [List.length_cons, List.length_nil] at h2
        by_cases hx0 : xs = []
        · subst hx0
          have hj0 : (joinB (txtL [])).length = 0 := by rw [txtL, joinB]; rfl
          obtain rfl : cut = k + 1 := by omega
          have hb : blk l (k + 1) = k + 1 := blk_end (by omega)
          have hbg : begunJ l k 93 = (true, k + 1) := by rw [begunJ, hb, tkJ, List.getElem?_eq_none (by omega)]; rfl
          obtain ⟨F', rfl⟩ : ∃ F', F = F' + 1 := ⟨F - 1, by omega⟩
          obtain ⟨F'', rfl⟩ : ∃ F'', F' = F'' + 1 := ⟨F' - 1, by omega⟩
          rw [hbg, lisJ_val (valJ_end (by omega))]
          exact .inl ⟨_, rfl, cut_end L (k + 1)⟩
        · obtain ⟨y, t, rfl⟩ := List.exists_cons_of_ne_nil hx0
          obtain ⟨c2, r2, hc2, hb2, hn93, _⟩ := txt_head y
          have hj : ∃ q, joinB (txtL (y :: t)) = c2 :: q := by rw [txtL, joinB, hc2]; exact ⟨_, rfl⟩
          obtain ⟨q, hq⟩ := hj
          have hd3 : L.drop (k + 1) = c2 :: (q ++ 93 :: s) := by rw [hd2, hq]; rfl
          have hb : blk l (k + 1) = k + 1 := cut_blk hl hc hd3 hb2 (by omega)
          have hbg : begunJ l k 93 = (true, k + 1) := by
            have ht : tkJ l (k + 1) 93 = false := by
              rcases Nat.lt_or_ge (k + 1) cut with z | z
              · rw [tk_at (cut_cons hl hc hd3 z)]; simp [hn93]
              · rw [tkJ, List.getElem?_eq_none (by omega)]; rfl
            rw [begunJ, hb, ht]; rfl
          obtain ⟨f, e, hf⟩ := hL (y :: t) (o + 1) (k + 1) (n + 1) [] s hx0 (okDL_iff.1 hol) (by omega) (by omega) hd2 (by omega) (by omega)
          rw [hbg]
          dsimp only
          rw [e]
          exact .inl ⟨f, rfl, hf⟩
      · obtain rfl : xs = [] := List.length_eq_zero_iff.1 (p4.resolve_left (by decide))
        have ht : txtV (V.mk 5 b i x [] ms) = 123 :: (joinB (txtM ms) ++ [125]) := by rw [txtV]; simp
        rw [ht] at hcv hd h2
        injection hcv with hcv _
        subst hcv
        rw [swJ, if_neg (by decide), if_neg (by decide), if_neg (by decide), if_neg (by decide), if_neg (by decide), if_pos rfl]
        rw [List.cons_append, List.append_assoc] at hd
        obtain ⟨_, _, hd2⟩ := drop_cons hd
        rw [List.length_cons, List.length_append] at h2
        simp only [List.length_cons, List.length_nil] at h2
        obtain ⟨hsrt, hnd, hval⟩ := sorted_rise hr
        by_cases hx0 : ms = []
        · subst hx0
          have hj0 : (joinB (txtM [])).length = 0 := by rw [txtM, joinB]; rfl
          obtain rfl : cut = k + 1 := by omega
          have hb : blk l (k + 1) = k + 1 := blk_end (by omega)
          have hbg : begunJ l k 125 = (true, k + 1) := by rw [begunJ, hb, tkJ, List.getElem?_eq_none (by omega)]; rfl
          obtain ⟨F', rfl⟩ : ∃ F', F = F' + 1 := ⟨F - 1, by omega⟩
          rw [hbg, memJ_key (keyJ_end (by omega))]
          exact .inl ⟨_, rfl, cut_end L (k + 1)⟩
        · obtain ⟨y, t, rfl⟩ := List.exists_cons_of_ne_nil hx0
          have hj : ∃ q, joinB (txtM (y :: t)) = 34 :: q := by rw [txtM_eq, List.map_cons, joinB, txtE, Q.qt]; exact ⟨_, rfl⟩
          obtain ⟨q, hq⟩ := hj
          have hd3 : L.drop (k + 1) = 34 :: (q ++ 125 :: s) := by rw [hd2, hq]; rfl
          have hb : blk l (k + 1) = k + 1 := cut_blk hl hc hd3 (by decide) (by omega)
          have hbg : begunJ l k 125 = (true, k + 1) := by
            have ht : tkJ l (k + 1) 125 = false := by
              rcases Nat.lt_or_ge (k + 1) cut with z | z
              · rw [tk_at (cut_cons hl hc hd3 z)]; rfl
              · rw [tkJ, List.getElem?_eq_none (by omega)]; rfl
            rw [begunJ, hb, ht]; rfl
          obtain ⟨f, e, hf⟩ := hM (y :: t) (o + 1) (k + 1) (n + 1) [] s hx0 (fun z hz => ⟨okDM_iff.1 hom z hz, hval z hz⟩) (by rw [List.nil_append]; exact hnd) (by omega) (by omega) hd2 (by omega) (by omega)
          rw [hbg]
          dsimp only
          rw [e]
          exact .inl ⟨f, rfl, hf⟩
    · intro xs o k n acc s hne hok hn hF hd h1 h2
      obtain ⟨y, t, rfl⟩ := List.exists_cons_of_ne_nil hne
      rw [ndL] at hn
      have hyo := hok y (List.mem_cons_self ..)
      obtain ⟨c1, r1, hc1, _⟩ := txt_head y
      have hlen1 : 1 ≤ (txtV y).length := by rw [hc1]; simp
      obtain ⟨rest, hrest, hstop⟩ : ∃ rest, joinB (txtL (y :: t)) ++ 93 :: s = txtV y ++ rest ∧ stopB rest := by
        by_cases ht : t = []
        · subst ht
          rw [txtL, txtL, joinB_one]
          exact ⟨_, rfl, stop93 s⟩
        · obtain ⟨z, t', rfl⟩ := List.exists_cons_of_ne_nil ht
          rw [txtL, txtL, joinB_cons2, ← txtL, List.append_assoc, List.cons_append]
          exact ⟨_, rfl, stop44 _⟩
      have hdy := hd
      rw [hrest] at hdy
      by_cases hcy : cut < k + (txtV y).length
      · rcases hV y o k n rest hyo (by omega) (by omega) hdy h1 hcy with ⟨f, e, hf⟩ | ⟨_, x, n', e⟩
        · exact ⟨f, lisJ_val e, hf⟩
        · exact ⟨_, lisJ_goes e (cut_goes hl hc), cut_end L cut⟩
      · have hv := hVb y o k n _ hyo (by omega) (by omega) (cut_app hl hc hdy (by omega)) (cut_stop _ hstop)
        by_cases hq : ¬ (k + (txtV y).length) < cut
        · have e : k + (txtV y).length = cut := by omega
          rw [e] at hv
          exact ⟨_, lisJ_goes hv (cut_goes hl hc), cut_end L cut⟩
        replace hq : (k + (txtV y).length) < cut := by omega
        by_cases ht : t = []
        · subst ht
          rw [txtL, txtL, joinB_one] at h2
          omega
        · obtain ⟨z, t', rfl⟩ := List.exists_cons_of_ne_nil ht
          rw [txtL, txtL, joinB_cons2, ← txtL] at hd h2
          rw [List.append_assoc, List.cons_append] at hd
          have hd2 := drop_app hd
          obtain ⟨c2, r2, hc2, hb2, _, _⟩ := txt_head z
          have hj : ∃ q, joinB (txtL (z :: t')) = c2 :: q := by rw [txtL, joinB, hc2]; exact ⟨_, rfl⟩
          obtain ⟨q, hq2⟩ := hj
          obtain ⟨hkk, _, hd3⟩ := drop_cons hd2
          have hd4 := hd3
          rw [hq2, List.cons_append] at hd4
          have hd5 := cut_cons hl hc hd2 hq
          have hg : goesJ l (k + (txtV y).length) 93 = .ok (true, k + (txtV y).length + 1) := by
            have hb := blk_at hd5 (by decide)
            rw [goesJ_more (by rw [hb, tk_at hd5]; simp), hb, cut_blk hl hc hd4 hb2 (by omega)]
          rw [List.length_append, List.length_cons] at h2
          obtain ⟨f, e, hf⟩ := hL (z :: t') o (k + (txtV y).length + 1) (n + ndV y) (acc ++ [y]) s (by simp) (fun x hx => hok x (List.mem_cons_of_mem _ hx)) (by omega) (by omega) hd3 (by omega) (by omega)
          refine ⟨f, ?_, hf⟩
          rw [lisJ_on hv hg]
          exact e
    · intro xs o k n acc s hne hok hnd hn hF hd h1 h2
      obtain ⟨⟨key, y⟩, t, rfl⟩ := List.exists_cons_of_ne_nil hne
      rw [ndM] at hn
      have hkv := (hok (key, y) (List.mem_cons_self ..)).2
      have hyo := (hok (key, y) (List.mem_cons_self ..)).1
      dsimp only at hkv hyo
      have hni : key.data.toList ∉ (acc.map fun x => x.1.data.toList) := fun hm => by
        rw [keysM, List.map_append] at hnd
        exact (List.nodup_append.1 hnd).2.2 _ hm _ (by rw [List.map_cons]; exact List.mem_cons_self ..) rfl
      obtain ⟨c2, r2, hc2, hb2, _, _⟩ := txt_head y
      have hlen1 : 1 ≤ (txtV y).length := by rw [hc2]; simp
      obtain ⟨rest, hrest, hstop⟩ : ∃ rest, joinB (txtM ((key, y) :: t)) ++ 125 :: s = Q.qt key.data.toList ++ 58 :: (txtV y ++ rest) ∧ stopB rest := by
        by_cases ht : t = []
        · subst ht
          rw [txtM, txtM, joinB_one, List.append_assoc, List.cons_append]
          exact ⟨_, rfl, stop125 s⟩
        · obtain ⟨z, t', rfl⟩ := List.exists_cons_of_ne_nil ht
          have hj : joinB (txtM ((key, y) :: z :: t')) = (Q.qt key.data.toList ++ 58 :: txtV y) ++ 44 :: joinB (txtM (z :: t')) := by rw [txtM_eq, txtM_eq, List.map_cons, List.map_cons, joinB_cons2]; rfl
          rw [hj, List.append_assoc, List.append_assoc, List.cons_append, List.cons_append]
          exact ⟨_, rfl, stop44 _⟩
      have hdy := hd
      rw [hrest] at hdy
      by_cases hkc : ¬ k < cut
      · obtain rfl : k = cut := by omega
        exact ⟨_, memJ_key (keyJ_end (by omega)), cut_end L k⟩
      replace hkc : k < cut := by omega
      have h34 : ∃ q, Q.qt key.data.toList = 34 :: q := ⟨_, rfl⟩
      obtain ⟨q0, hq0⟩ := h34
      have hd0 := hdy
      rw [hq0, List.cons_append] at hd0
      obtain ⟨hk, e34, _⟩ := drop_cons (cut_cons hl hc hd0 hkc)
      by_cases hck : cut < k + (Q.qt key.data.toList).length
      · obtain ⟨f, e, hf1, hf2⟩ := quo_cut hdy hkv hl hc hkc hck
        exact ⟨f, memJ_key (keyJ_quo hk e34 e), hf1, by rcases hf2 with q | q | q <;> simp [q]⟩
      have hqb := quo_back (cut_app hl hc hdy (by omega)) (by omega) hkv
      have hd2 := drop_app hdy
      by_cases hk1 : ¬ (k + (Q.qt key.data.toList).length) < cut
      · have e : k + (Q.qt key.data.toList).length = cut := by omega
        rw [e] at hqb
        have hb : blk l cut = cut := blk_end (by omega)
        exact ⟨_, memJ_key (keyJ_colon hk e34 hqb hni (by rw [hb]; exact cut_must hl hc)), cut_end L cut⟩
      replace hk1 : (k + (Q.qt key.data.toList).length) < cut := by omega
      have hd5 := cut_cons hl hc hd2 hk1
      obtain ⟨_, _, hd3⟩ := drop_cons hd2
      have hd4 := hd3
      rw [hc2, List.cons_append] at hd4
      have hbk := blk_at hd5 (by decide)
      have hkj : keyJ l k (acc.map fun x => x.1.data.toList) = .ok (key, k + (Q.qt key.data.toList).length + 1) := by
        rw [keyJ_ok hk e34 hqb hni (by rw [hbk]; exact must_at hd5), cut_blk hl hc hd4 hb2 (by omega)]
      by_cases hcy : cut < k + (Q.qt key.data.toList).length + 1 + (txtV y).length
      · rcases hV y o _ n rest hyo (by omega) (by omega) hd3 (by omega) hcy with ⟨f, e, hf⟩ | ⟨_, x, n', e⟩
        · exact ⟨f, memJ_val hkj e, hf⟩
        · exact ⟨_, memJ_goes hkj e (cut_goes hl hc), cut_end L cut⟩
      · have hv := hVb y o _ n _ hyo (by omega) (by omega) (cut_app hl hc hd3 (by omega)) (cut_stop _ hstop)
        by_cases hq : ¬ (k + (Q.qt key.data.toList).length + 1 + (txtV y).length) < cut
        · have e : k + (Q.qt key.data.toList).length + 1 + (txtV y).length = cut := by omega
          rw [e] at hv
          exact ⟨_, memJ_goes hkj hv (cut_goes hl hc), cut_end L cut⟩
        replace hq : (k + (Q.qt key.data.toList).length + 1 + (txtV y).length) < cut := by omega
        by_cases ht : t = []
        · subst ht
          rw [txtM, txtM, joinB_one, List.length_append, List.length_cons] at h2
          omega
        · obtain ⟨z, t', rfl⟩ := List.exists_cons_of_ne_nil ht
          have hj : joinB (txtM ((key, y) :: z :: t')) = (Q.qt key.data.toList ++ 58 :: txtV y) ++ 44 :: joinB (txtM (z :: t')) := by rw [txtM_eq, txtM_eq, List.map_cons, List.map_cons, joinB_cons2]; rfl
          rw [hj] at hd h2
          rw [List.append_assoc, List.append_assoc, List.cons_append] at hd
          have hd2' := drop_app hd
          obtain ⟨_, _, hd3'⟩ := drop_cons hd2'
          rw [List.cons_append] at hd3'
          have hd6 := drop_app hd3'
          have hj2 : ∃ q, joinB (txtM (z :: t')) = 34 :: q := by rw [txtM_eq, List.map_cons, joinB, txtE, Q.qt]; exact ⟨_, rfl⟩
          obtain ⟨q, hq2⟩ := hj2
          obtain ⟨hkk, _, hd7⟩ := drop_cons hd6
          have hd8 := hd7
          rw [hq2, List.cons_append] at hd8
          have hd9 := cut_cons hl hc hd6 hq
          have hg : goesJ l (k + (Q.qt key.data.toList).length + 1 + (txtV y).length) 125 = .ok (true, k + (Q.qt key.data.toList).length + 1 + (txtV y).length + 1) := by
            have hb := blk_at hd9 (by decide)
            rw [goesJ_more (by rw [hb, tk_at hd9]; simp), hb, cut_blk hl hc hd8 (by decide) (by omega)]
          rw [List.length_append, List.length_append, List.length_cons, List.length_cons] at h2
          obtain ⟨f, e, hf⟩ := hM (z :: t') o _ (n + ndV y) (acc ++ [(key, y)]) s (by simp) (fun x hx => hok x (List.mem_cons_of_mem _ hx)) (by rw [List.append_assoc]; exact hnd) (by omega) (by omega) hd7 (by omega) (by omega)
          refine ⟨f, ?_, hf⟩
          rw [memJ_on hkj hv hg]
          exact e
/-- each shorter beginning of the text of a string, a list, a map is refused -/
theorem par_cut {v : V} {cut : Nat} (ho : okD 32 v 0) (hn : ndV v ≤ 65536) (hl : (txtV v).length ≤ 1048576) (hk : v.kind ≠ 2) (hcut : cut < (txtV v).length) :
    ∃ f : Flt, parJ ((txtV v).take cut) 32 = (nulV, (f.1 : Int), (f.2 : Int)) ∧ Early (txtV v) cut f := by
  have hlen : ((txtV v).take cut).length = cut := by rw [List.length_take]; omega
  obtain ⟨c, r, hc, hb, _, _⟩ := txt_head v
  have h0 : blk ((txtV v).take cut) 0 = 0 := cut_blk rfl (by omega) (k := 0) (c := c) (r := r) (by rw [List.drop_zero]; exact hc) hb (by omega)
  rcases (cut_all (txtV v) _ cut rfl (by omega) 32 (2 * ((txtV v).take cut).length + 1)).1 v 0 0 0 [] ho (by omega) (by omega) (by rw [List.drop_zero, List.append_nil]) (by omega) (by omega) with ⟨f, e, hf⟩ | ⟨q, _⟩
  · refine ⟨f, parJ_bad (by omega) (by omega) ?_, hf⟩
    exact whoJ_val (by rw [h0]; exact e)
  · exact absurd q hk
end Go.Proofs.YtpmhdcmmlkjjmaaGreatDoor
