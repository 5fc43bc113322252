/- joined: JmI JmJ -/
import Derived.Test.YtpmhdcmmlkjjmaaGreatDoorG46
/- a text that is deeper than asked for is told so, inside it: plain. -/
set_option linter.unusedSimpArgs false
set_option linter.unusedVariables false
set_option maxRecDepth 100000
namespace Go.Proofs.YtpmhdcmmlkjjmaaGreatDoor
open Go.RowKit Go.Lib
theorem deep_all (l : List UInt8) (D E : Nat) : ∀ F : Nat,
    (∀ v o k n s, okD E v o → D < o + htV v → n + ndV v ≤ 65536 → 2 * (l.length - k) + 1 ≤ F → l.drop k = txtV v ++ s → stopB s → ∃ p, valJ l D F o k n = .error (p, 21) ∧ k ≤ p ∧ p < k + (txtV v).length ∧ (o ≤ D → k < p)) ∧
    (∀ xs o k n acc s, (∃ x ∈ xs, D < o + htV x) → (∀ x ∈ xs, okD E x o) → n + ndL xs ≤ 65536 → 2 * (l.length - k) + 2 ≤ F → l.drop k = joinB (txtL xs) ++ 93 :: s → ∃ p, lisJ l D F o true k n acc = .error (p, 21) ∧ k ≤ p ∧ p < k + (joinB (txtL xs)).length) ∧
    (∀ xs o k n acc s, (∃ x ∈ xs, D < o + htV x.2) → (∀ x ∈ xs, okD E x.2 o ∧ validD x.1.data.toList = true) → (keysM (acc ++ xs)).Nodup → n + ndM xs ≤ 65536 → 2 * (l.length - k) + 2 ≤ F → l.drop k = joinB (txtM xs) ++ 125 :: s → ∃ p, memJ l D F o true k n acc = .error (p, 21) ∧ k ≤ p ∧ p < k + (joinB (txtM xs)).length)
  | 0 => by
    refine ⟨?_, ?_, ?_⟩
    · intro v o k n s _ _ _ h; omega
    · intro xs o k n acc s _ _ _ h; omega
    · intro xs o k n acc s _ _ _ _ h; omega
  | F + 1 => by
    obtain ⟨hV, hL, hM⟩ := deep_all l D E F
    have hVb := (back_all l D F).1
    refine ⟨?_, ?_, ?_⟩
    · intro v o k n s ho hdp hn hF hd hs
      obtain ⟨c, r, hc, hbl, _, _⟩ := txt_head v
      have hd0 := hd
      rw [hc, List.cons_append] at hd0
      obtain ⟨hk, hlc, hd1⟩ := drop_cons hd0
      have he := txt_ent (k := k) hc hn ho
      by_cases hoD : D < o
      · refine ⟨k, valJ_ent hk (by rw [hlc]; exact ent_deep he hoD), Nat.le_refl _, by rw [hc]; simp, fun h => absurd hoD (by omega)⟩
      rw [valJ_in hk (by rw [hlc]; exact ent_same he hoD), hlc]
      obtain ⟨kk, b, i, x, xs, ms⟩ := v
      rw [okD] at ho
      obtain ⟨_, hg, hi, hol, hom⟩ := ho
      rw [htV] at hdp
      rw [goodB, Bool.and_eq_true, Bool.and_eq_true] at hg
      obtain ⟨⟨hp, hu⟩, hr⟩ := hg
      rw [plainB, decide_eq_true_iff] at hp
      obtain ⟨hk0, hk5, p1, p2, p3, p4, p5⟩ := hp
      have hndv : ndV (V.mk kk b i x xs ms) = 1 + ndL xs + ndM ms := by rw [ndV]
      rw [hndv] at hn
      by_cases h4 : kk = 4
      · subst h4
        obtain rfl : b = false := p1.resolve_left (by decide)
        obtain rfl : i = 0 := p2.resolve_left (by decide)
        obtain rfl := emp_of (p3.resolve_left (by decide))
        obtain rfl : ms = [] := List.length_eq_zero_iff.1 (p5.resolve_left (by decide))
        have ht : txtV (V.mk 4 false 0 ⟨#[]⟩ xs []) = 91 :: (joinB (txtL xs) ++ [93]) := by rw [txtV]; simp
        rw [ht] at hc hd ⊢
        injection hc with hc _
        subst hc
        rw [swJ, if_neg (by decide), if_neg (by decide), if_neg (by decide), if_neg (by decide), if_pos rfl]
        rw [List.cons_append, List.append_assoc] at hd
        obtain ⟨_, _, hd2⟩ := drop_cons hd
        rw [htM] at hdp
        obtain ⟨y0, hy0, hdy⟩ := htL_ex (D := D) (o := o) (l := xs) (by omega) (by omega)
        have hx0 : xs ≠ [] := List.ne_nil_of_mem hy0
        have hex : ∃ x ∈ xs, D < (o + 1) + htV x := ⟨y0, hy0, hdy⟩
        obtain ⟨y, t, rfl⟩ := List.exists_cons_of_ne_nil hx0
        obtain ⟨c2, r2, hc2, hb2, hn93, _⟩ := txt_head y
        have hj : ∃ q, joinB (txtL (y :: t)) = c2 :: q := by rw [txtL, joinB, hc2]; exact ⟨_, rfl⟩
        obtain ⟨q, hq⟩ := hj
        have hd3 : l.drop (k + 1) = c2 :: (q ++ 93 :: s) := by rw [hd2, hq]; rfl
        have hb : blk l (k + 1) = k + 1 := blk_at hd3 hb2
        have hbg : begunJ l k 93 = (true, k + 1) := by rw [begunJ, hb, tk_at hd3]; simp [hn93]
        obtain ⟨p, e1, e2, e3⟩ := hL (y :: t) (o + 1) (k + 1) (n + 1) [] s hex (okDL_iff.1 hol) (by omega) (by omega) hd2
        rw [hbg]
        dsimp only
        rw [e1]
        refine ⟨p, rfl, by omega, ?_, fun _ => by omega⟩
        rw [List.length_cons, List.length_append]
        simp only [List.length_cons, List.length_nil]
        omega
      · by_cases h5 : kk = 5
        · subst h5
          obtain rfl : b = false := p1.resolve_left (by decide)
          obtain rfl : i = 0 := p2.resolve_left (by decide)
          obtain rfl := emp_of (p3.resolve_left (by decide))
          obtain rfl : xs = [] := List.length_eq_zero_iff.1 (p4.resolve_left (by decide))
          have ht : txtV (V.mk 5 false 0 ⟨#[]⟩ [] ms) = 123 :: (joinB (txtM ms) ++ [125]) := by rw [txtV]; simp
          rw [ht] at hc hd ⊢
          injection hc with hc _
          subst hc
          rw [swJ, if_neg (by decide), if_neg (by decide), if_neg (by decide), if_neg (by decide), if_neg (by decide), if_pos rfl]
          rw [List.cons_append, List.append_assoc] at hd
          obtain ⟨_, _, hd2⟩ := drop_cons hd
          obtain ⟨hsrt, hnd, hval⟩ := sorted_rise hr
          rw [htL] at hdp
          obtain ⟨y0, hy0, hdy⟩ := htM_ex (D := D) (o := o) (l := ms) (by omega) (by omega)
          have hx0 : ms ≠ [] := List.ne_nil_of_mem hy0
          have hex : ∃ x ∈ ms, D < (o + 1) + htV x.2 := ⟨y0, hy0, hdy⟩
          obtain ⟨y, t, rfl⟩ := List.exists_cons_of_ne_nil hx0
          have hj : ∃ q, joinB (txtM (y :: t)) = 34 :: q := by rw [txtM_eq, List.map_cons, joinB, txtE, Q.qt]; exact ⟨_, rfl⟩
          obtain ⟨q, hq⟩ := hj
          have hd3 : l.drop (k + 1) = 34 :: (q ++ 125 :: s) := by rw [hd2, hq]; rfl
          have hb : blk l (k + 1) = k + 1 := blk_at hd3 (by decide)
          have hbg : begunJ l k 125 = (true, k + 1) := by rw [begunJ, hb, tk_at hd3]; rfl
          obtain ⟨p, e1, e2, e3⟩ := hM (y :: t) (o + 1) (k + 1) (n + 1) [] s hex (fun z hz => ⟨okDM_iff.1 hom z hz, hval z hz⟩) (by rw [List.nil_append]; exact hnd) (by omega) (by omega) hd2
          rw [hbg]
          dsimp only
          rw [e1]
          refine ⟨p, rfl, by omega, ?_, fun _ => by omega⟩
          rw [List.length_cons, List.length_append]
          simp only [List.length_cons, List.length_nil]
          omega
        · exfalso
          obtain rfl : xs = [] := List.length_eq_zero_iff.1 (p4.resolve_left h4)
          obtain rfl : ms = [] := List.length_eq_zero_iff.1 (p5.resolve_left h5)
          rw [htL, htM] at hdp
          omega
    · intro xs o k n acc s hex hok hn hF hd
      obtain ⟨y0, hy0, hdy⟩ := hex
      obtain ⟨y, t, rfl⟩ := List.exists_cons_of_ne_nil (List.ne_nil_of_mem hy0)
      rw [ndL] at hn
      obtain ⟨c1, r1, hc1, _⟩ := txt_head y
      have hlen : 1 ≤ (txtV y).length := by rw [hc1]; simp
      by_cases hyd : D < o + htV y
      · have hst : ∃ s', l.drop k = txtV y ++ s' ∧ stopB s' := by
          by_cases ht : t = []
          · subst ht
            rw [txtL, txtL, joinB_one] at hd
            exact ⟨_, hd, stop93 s⟩
          · obtain ⟨z, t', rfl⟩ := List.exists_cons_of_ne_nil ht
            rw [txtL, txtL, joinB_cons2, ← txtL, List.append_assoc, List.cons_append] at hd
            exact ⟨_, hd, stop44 _⟩
        obtain ⟨s', hd', hs'⟩ := hst
        obtain ⟨p, e1, e2, e3, _⟩ := hV y o k n s' (hok y (List.mem_cons_self ..)) hyd (by omega) (by omega) hd' hs'
        refine ⟨p, lisJ_val e1, e2, ?_⟩
        have : (txtV y).length ≤ (joinB (txtL (y :: t))).length := by rw [txtL, joinB, List.length_append]; omega
        omega
      · have hyok : okD D y o := ok_less (hok y (List.mem_cons_self ..)) (by omega)
        have hmt : y0 ∈ t := by
          rcases List.mem_cons.1 hy0 with rfl | h
          · exact absurd hdy hyd
          · exact h
        obtain ⟨z, t', rfl⟩ := List.exists_cons_of_ne_nil (List.ne_nil_of_mem hmt)
        rw [txtL, txtL, joinB_cons2, ← txtL] at hd ⊢
        rw [List.append_assoc, List.cons_append] at hd
        have hv := hVb y o k n _ hyok (by omega) (by omega) hd (stop44 _)
        have hd2 := drop_app hd
        obtain ⟨c2, r2, hc2, hb2, _, _⟩ := txt_head z
        have hj : ∃ q, joinB (txtL (z :: t')) = c2 :: q := by rw [txtL, joinB, hc2]; exact ⟨_, rfl⟩
        obtain ⟨q, hq⟩ := hj
        obtain ⟨hkk, _, hd3⟩ := drop_cons hd2
        have hg : goesJ l (k + (txtV y).length) 93 = .ok (true, k + (txtV y).length + 1) := goes_comma (d := c2) (r := q ++ 93 :: s) (by rw [hd2, hq]; rfl) hb2
        obtain ⟨p, e1, e2, e3⟩ := hL (z :: t') o (k + (txtV y).length + 1) (n + ndV y) (acc ++ [y]) s ⟨y0, hmt, hdy⟩ (fun x hx => hok x (List.mem_cons_of_mem _ hx)) (by omega) (by omega) hd3
        rw [lisJ_on hv hg]
        dsimp only
        refine ⟨p, e1, by omega, ?_⟩
        rw [List.length_append, List.length_cons]
        omega
    · intro xs o k n acc s hex hok hnd hn hF hd
      obtain ⟨y0, hy0, hdy⟩ := hex
      obtain ⟨⟨key, y⟩, t, rfl⟩ := List.exists_cons_of_ne_nil (List.ne_nil_of_mem hy0)
      rw [ndM] at hn
      have hkv := (hok (key, y) (List.mem_cons_self ..)).2
      have hyo := (hok (key, y) (List.mem_cons_self ..)).1
      dsimp only at hkv hyo
      have hni : key.data.toList ∉ (acc.map fun x => x.1.data.toList) := fun hm => by
        rw [keysM, List.map_append] at hnd
        exact (List.nodup_append.1 hnd).2.2 _ hm _ (by rw [List.map_cons]; exact List.mem_cons_self ..) rfl
      obtain ⟨c2, r2, hc2, hb2, _, _⟩ := txt_head y
      have hlenq : (Q.qt key.data.toList).length = 2 + Q.sz key.data.toList := Q.qt_length _
      have hkey : ∀ rest, l.drop k = (Q.qt key.data.toList ++ 58 :: txtV y) ++ rest → keyJ l k (acc.map fun x => x.1.data.toList) = .ok (key, k + (Q.qt key.data.toList).length + 1) ∧ l.drop (k + (Q.qt key.data.toList).length + 1) = txtV y ++ rest := fun rest h => by
        rw [List.append_assoc, List.cons_append] at h
        have h34 : ∃ q, Q.qt key.data.toList = 34 :: q := ⟨_, rfl⟩
        obtain ⟨q, hq⟩ := h34
        have h0 := h
        rw [hq, List.cons_append] at h0
        obtain ⟨hk, e, _⟩ := drop_cons h0
        have hd2 := drop_app h
        obtain ⟨_, _, hd3⟩ := drop_cons hd2
        have hd4 := hd3
        rw [hc2, List.cons_append] at hd4
        have hbk := blk_at hd2 (by decide)
        rw [keyJ_ok hk e (quo_back h (by omega) hkv) hni (by rw [hbk]; exact must_at hd2), blk_at hd4 hb2]
        exact ⟨rfl, hd3⟩
      have hj0 : ∃ rest, joinB (txtM ((key, y) :: t)) ++ 125 :: s = (Q.qt key.data.toList ++ 58 :: txtV y) ++ rest ∧ stopB rest ∧ (Q.qt key.data.toList ++ 58 :: txtV y).length ≤ (joinB (txtM ((key, y) :: t))).length := by
        by_cases ht : t = []
        · subst ht
          rw [txtM, txtM, joinB_one]
          exact ⟨_, rfl, stop125 s, Nat.le_refl _⟩
        · obtain ⟨z, t', rfl⟩ := List.exists_cons_of_ne_nil ht
          have hj : joinB (txtM ((key, y) :: z :: t')) = (Q.qt key.data.toList ++ 58 :: txtV y) ++ 44 :: joinB (txtM (z :: t')) := by rw [txtM_eq, txtM_eq, List.map_cons, List.map_cons, joinB_cons2]; rfl
          rw [hj, List.append_assoc]
          exact ⟨_, rfl, by rw [List.cons_append]; exact stop44 _, by rw [List.length_append (bs := 44 :: _)]; omega⟩
      obtain ⟨rest, hr1, hr2, hr3⟩ := hj0
      have hd' := hd
      rw [hr1] at hd'
      obtain ⟨hkj, hdv⟩ := hkey _ hd'
      by_cases hyd : D < o + htV y
      · obtain ⟨p, e1, e2, e3, _⟩ := hV y o _ n rest hyo hyd (by omega) (by omega) hdv hr2
        refine ⟨p, memJ_val hkj e1, by omega, ?_⟩
        rw [List.length_append, List.length_cons] at hr3
        omega
      · have hyok : okD D y o := ok_less hyo (by omega)
        have hmt : y0 ∈ t := by
          rcases List.mem_cons.1 hy0 with rfl | h
          · exact absurd hdy hyd
          · exact h
        obtain ⟨z, t', rfl⟩ := List.exists_cons_of_ne_nil (List.ne_nil_of_mem hmt)
        have hj : joinB (txtM ((key, y) :: z :: t')) = (Q.qt key.data.toList ++ 58 :: txtV y) ++ 44 :: joinB (txtM (z :: t')) := by rw [txtM_eq, txtM_eq, List.map_cons, List.map_cons, joinB_cons2]; rfl
        rw [hj, List.append_assoc] at hd
        rw [hj]
        obtain ⟨_, hdv⟩ := hkey _ hd
        rw [List.cons_append] at hdv
        have hv := hVb y o _ n _ hyok (by omega) (by omega) hdv (stop44 _)
        have hd2 := drop_app hdv
        have hj2 : ∃ q, joinB (txtM (z :: t')) = 34 :: q := by rw [txtM_eq, List.map_cons, joinB, txtE, Q.qt]; exact ⟨_, rfl⟩
        obtain ⟨q, hq⟩ := hj2
        obtain ⟨hkk, _, hd3⟩ := drop_cons hd2
        have hg := goes_comma (c := 125) (d := 34) (r := q ++ 125 :: s) (l := l) (by rw [hd2, hq]; rfl) (by decide)
        obtain ⟨p, e1, e2, e3⟩ := hM (z :: t') o _ (n + ndV y) (acc ++ [(key, y)]) s ⟨y0, hmt, hdy⟩ (fun x hx => hok x (List.mem_cons_of_mem _ hx)) (by rw [List.append_assoc]; exact hnd) (by omega) (by omega) hd3
        rw [memJ_on hkj hv hg]
        dsimp only
        refine ⟨p, e1, by omega, ?_⟩
        rw [List.length_append, List.length_append, List.length_cons, List.length_cons]
        omega
end Go.Proofs.YtpmhdcmmlkjjmaaGreatDoor
/- JsonBack's plain part. -/
set_option maxRecDepth 100000
namespace Go.Proofs.YtpmhdcmmlkjjmaaGreatDoor
open Go.RowKit Go.Lib
mutual
theorem chk_deep (D E : Nat) : ∀ (v : V) (lv : Nat) (st : St), okD E v lv → D < lv + htV v → st.1 + ndV v ≤ 65536 → st.2.1 + byV v ≤ 1048576 → (chkV D v lv st).1 = 21
  | .mk k b i s l m, lv, st, h, hd, hn, hy => by
    rw [okD] at h
    rw [ndV] at hn
    rw [byV] at hy
    rw [htV] at hd
    by_cases hlv : D < lv
    · have e : entF D st.1 st.2.1 st.2.2 lv (goodB k b i s l.length m) (s.size + keyB m) = (21, st.1, st.2.1, st.2.2) := by rw [entF, if_neg (by omega), if_pos hlv]
      rw [chkV, e]
      dsimp only
      rw [if_neg (by decide)]
    · have e : entF D st.1 st.2.1 st.2.2 lv (goodB k b i s l.length m) (s.size + keyB m) = (0, st.1 + 1, st.2.1 + (s.size + keyB m), max st.2.2 lv) := by
        rw [entF, if_neg (by omega), if_neg (by omega), if_neg (by rw [h.2.1]; simp), if_neg (by omega)]
      rw [chkV, e]
      dsimp only
      rw [if_pos rfl]
      by_cases hl : D < lv + htL l
      · have a1 := chkl_deep D E l lv (st.1 + 1, st.2.1 + (s.size + keyB m), max st.2.2 lv) h.2.2.2.1 hl (by omega) (by dsimp only; omega) (by dsimp only; omega)
        rw [if_neg (by rw [a1]; decide), a1]
      · have a1 := chkl_ok D l (lv + 1) (st.1 + 1, st.2.1 + (s.size + keyB m), max st.2.2 lv) (ok_lessL h.2.2.2.1 (by omega)) (by dsimp only; omega) (by dsimp only; omega)
        rw [if_pos a1.1]
        exact chkm_deep D E m lv _ h.2.2.2.2 (by omega) (by omega) (by rw [a1.2.1]; dsimp only; omega) (by rw [a1.2.2]; dsimp only; omega)
theorem chkl_deep (D E : Nat) : ∀ (l : List V) (lv : Nat) (st : St), okDL E l (lv + 1) → D < lv + htL l → lv ≤ D → st.1 + ndL l ≤ 65536 → st.2.1 + byL l ≤ 1048576 → (chkL D l (lv + 1) st).1 = 21
  | [], lv, st, h, hd, hlv, hn, hy => by rw [htL] at hd; omega
  | x :: t, lv, st, h, hd, hlv, hn, hy => by
    rw [okDL] at h
    rw [ndL] at hn
    rw [byL] at hy
    rw [htL] at hd
    by_cases hx : D < (lv + 1) + htV x
    · have a1 := chk_deep D E x (lv + 1) st h.1 hx (by omega) (by omega)
      rw [chkL, if_neg (by rw [a1]; decide), a1]
    · have a1 := chk_ok D x (lv + 1) st (ok_less h.1 (by omega)) (by omega) (by omega)
      rw [chkL, if_pos a1.1]
      exact chkl_deep D E t lv _ h.2 (by omega) hlv (by rw [a1.2.1]; omega) (by rw [a1.2.2]; omega)
theorem chkm_deep (D E : Nat) : ∀ (l : List Mem) (lv : Nat) (st : St), okDM E l (lv + 1) → D < lv + htM l → lv ≤ D → st.1 + ndM l ≤ 65536 → st.2.1 + byM l ≤ 1048576 → (chkM D l (lv + 1) st).1 = 21
  | [], lv, st, h, hd, hlv, hn, hy => by rw [htM] at hd; omega
  | (k, x) :: t, lv, st, h, hd, hlv, hn, hy => by
    rw [okDM] at h
    rw [ndM] at hn
    rw [byM] at hy
    rw [htM] at hd
    by_cases hx : D < (lv + 1) + htV x
    · have a1 := chk_deep D E x (lv + 1) st h.1 hx (by omega) (by omega)
      rw [chkM, if_neg (by rw [a1]; decide), a1]
    · have a1 := chk_ok D x (lv + 1) st (ok_less h.1 (by omega)) (by omega) (by omega)
      rw [chkM, if_pos a1.1]
      exact chkm_deep D E t lv _ h.2 (by omega) hlv (by rw [a1.2.1]; omega) (by rw [a1.2.2]; omega)
end
theorem par_deep {v : V} {E D : Nat} (ho : okD E v 0) (hd : D < htV v) (hD : D ≤ 40) (hn : ndV v ≤ 65536) (hl : (txtV v).length ≤ 1048576) : ∃ p : Nat, parJ (txtV v) (D : Int) = (nulV, (p : Int), 21) ∧ 0 < p ∧ p < (txtV v).length := by
  obtain ⟨c, r, hc, hb, _, _⟩ := txt_head v
  have h0 : blk (txtV v) 0 = 0 := blk_at (c := c) (r := r) (by rw [List.drop_zero]; exact hc) hb
  obtain ⟨p, e1, e2, e3, e4⟩ := (deep_all (txtV v) D E (2 * (txtV v).length + 1)).1 v 0 0 0 [] ho (by omega) (by omega) (by omega) (by rw [List.drop_zero, List.append_nil]) stop0
  refine ⟨p, ?_, e4 (Nat.zero_le _), by omega⟩
  exact parJ_bad (f := (p, 21)) (by omega) (by omega) (by rw [Int.toNat_natCast]; exact whoJ_val (by rw [h0]; exact e1))
mutual
theorem eqB_of : ∀ {a b : V}, V.eqB a b = true → a = b
  | .mk k b i s l m, .mk k' b' i' s' l' m', h => by
    rw [V.eqB] at h
    simp only [Bool.and_eq_true, decide_eq_true_eq, beq_iff_eq] at h
    obtain ⟨⟨⟨⟨⟨⟨⟨h1, h2⟩, h3⟩, h4⟩, h5⟩, h6⟩, h7⟩, h8⟩ := h
    rw [h1, h2, h3, bytes_eqA h4, eqL_of h5 h7, eqM_of h6 h8]
theorem eqL_of : ∀ {a b : List V}, a.length = b.length → eqL a b = true → a = b
  | [], [], _, _ => rfl
  | [], _ :: _, h, _ => by simp at h
  | _ :: _, [], h, _ => by simp at h
  | x :: t, y :: u, hl, h => by
    rw [eqL, Bool.and_eq_true] at h
    rw [eqB_of h.1, eqL_of (by simpa using hl) h.2]
theorem eqM_of : ∀ {a b : List Mem}, a.length = b.length → eqM a b = true → a = b
  | [], [], _, _ => rfl
  | [], _ :: _, h, _ => by simp at h
  | _ :: _, [], h, _ => by simp at h
  | (k, x) :: t, (k', y) :: u, hl, h => by
    rw [eqM, Bool.and_eq_true, Bool.and_eq_true, beq_iff_eq] at h
    rw [bytes_eqA h.1.1, eqB_of h.1.2, eqM_of (by simpa using hl) h.2]
end
/-- two good values have one text just if they are the same -/
theorem txt_one {D : Nat} {a b : V} (ha : okD D a 0) (hb : okD D b 0) (hna : ndV a ≤ 65536) (hnb : ndV b ≤ 65536) : decide (txtV a = txtV b) = V.eqB a b := by
  by_cases h : txtV a = txtV b
  · have e1 := who_back ha hna
    have e2 := who_back hb hnb
    rw [h, e2] at e1
    injection e1 with e1
    subst e1
    rw [V.eqB_refl]; simp
  · rw [decide_eq_false h]
    cases he : V.eqB a b with
    | false => rfl
    | true => exact absurd (by rw [eqB_of he]) h
end Go.Proofs.YtpmhdcmmlkjjmaaGreatDoor
