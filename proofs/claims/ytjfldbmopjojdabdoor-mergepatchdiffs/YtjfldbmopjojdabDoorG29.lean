/- joined: DifQ DifR -/
import Derived.Test.YtjfldbmopjojdabDoorG28
set_option linter.unusedSimpArgs false
set_option linter.unusedVariables false
namespace Go.Proofs.YtjfldbmopjojdabDoor
open Go Go.RowKit Go.Lib Go.Shelf
theorem key_eq {a b : ByteArray} (h : a.toList = b.toList) : a = b := by
 rw [ByteArray.toList_eq, ByteArray.toList_eq] at h
 exact ByteArray.ext (Array.toList_inj.1 h)
theorem two_ind {P : List Mem → List Mem → Prop} (h0 : P [] [])
 (hA : ∀ k x a b, Srt a → Srt b → (∀ y ∈ a, ltB k y.1 = true) → (∀ y ∈ b, ltB k y.1 = true) → P a b → P ((k, x) :: a) b)
 (hB : ∀ k x a b, Srt a → Srt b → (∀ y ∈ a, ltB k y.1 = true) → (∀ y ∈ b, ltB k y.1 = true) → P a b → P a ((k, x) :: b))
 (hE : ∀ k x z a b, Srt a → Srt b → (∀ y ∈ a, ltB k y.1 = true) → (∀ y ∈ b, ltB k y.1 = true) → P a b → P ((k, x) :: a) ((k, z) :: b)) :
 ∀ a b, Srt a → Srt b → P a b
 | [], [], _, _ => h0
 | (k, x) :: a, [], ha, hb => hA k x a [] (srt_tail ha).1 hb (srt_tail ha).2 (fun y hy => by cases hy) (two_ind h0 hA hB hE a [] (srt_tail ha).1 hb)
 | [], (k, x) :: b, ha, hb => hB k x [] b ha (srt_tail hb).1 (fun y hy => by cases hy) (srt_tail hb).2 (two_ind h0 hA hB hE [] b ha (srt_tail hb).1)
 | (ka, xa) :: a, (kb, xb) :: b, ha, hb => by
  by_cases h1 : ltB ka kb = true
  ·refine hA ka xa a ((kb, xb) :: b) (srt_tail ha).1 hb (srt_tail ha).2 (fun y hy => ?_) (two_ind h0 hA hB hE a ((kb, xb) :: b) (srt_tail ha).1 hb)
   rcases List.mem_cons.1 hy with rfl | hy
   ·exact h1
   ·exact ltB_trans h1 ((srt_tail hb).2 y hy)
  ·by_cases h2 : ltB kb ka = true
   ·refine hB kb xb ((ka, xa) :: a) b ha (srt_tail hb).1 (fun y hy => ?_) (srt_tail hb).2 (two_ind h0 hA hB hE ((ka, xa) :: a) b ha (srt_tail hb).1)
    rcases List.mem_cons.1 hy with rfl | hy
    ·exact h2
    ·exact ltB_trans h2 ((srt_tail ha).2 y hy)
   ·have e : ka = kb := by
     apply key_eq
     apply Classical.byContradiction
     intro hn
     exact h2 (ltB_tri ka kb (by simpa using h1) hn)
    subst e
    exact hE ka xa xb a b (srt_tail ha).1 (srt_tail hb).1 (srt_tail ha).2 (srt_tail hb).2 (two_ind h0 hA hB hE a b (srt_tail ha).1 (srt_tail hb).1)
termination_by a b => a.length + b.length
theorem gm_tail {k : ByteArray} {x : V} {t : List Mem} (h : GM ((k, x) :: t)) : GM t ∧ allG x ∧ utfB k = true ∧ ∀ y ∈ t, ltB k y.1 = true :=
 ⟨⟨fun y hy => h.g y (List.mem_cons_of_mem _ hy), (srt_tail h.s).1, fun y hy => h.u y (List.mem_cons_of_mem _ hy)⟩, h.g (k, x) (List.mem_cons_self ..), h.u (k, x) (List.mem_cons_self ..), (srt_tail h.s).2⟩
theorem gm_cons {k : ByteArray} {x : V} {t : List Mem} (h : GM t) (hx : allG x) (hk : utfB k = true) (hl : ∀ y ∈ t, ltB k y.1 = true) : GM ((k, x) :: t) :=
 ⟨fun y hy => by rcases List.mem_cons.1 hy with rfl | hy; exact hx; exact h.g y hy, List.pairwise_cons.2 ⟨hl, h.s⟩, fun y hy => by rcases List.mem_cons.1 hy with rfl | hy; exact hk; exact h.u y hy⟩
theorem tg_l {k : ByteArray} {x : V} {a b : List Mem} (h : ∀ y ∈ b, ltB k y.1 = true) : tgR (bare ((k, x) :: a)) (bare b) = pA ((k, x), []) :: tgR (bare a) (bare b) := by
 cases b with
 | nil => show tgR (((k, x), []) :: bare a) [] = _; rw [tgR]; rfl
 | cons z t =>
  show tgR (((k, x), []) :: bare a) ((z, []) :: bare t) = _
  rw [tgR]
  show (if ltB k z.1 = true then _ else _) = _
  rw [if_pos (h z (List.mem_cons_self ..))]
  rfl
theorem tg_r {k : ByteArray} {x : V} {a b : List Mem} (h : ∀ y ∈ a, ltB k y.1 = true) : tgR (bare a) (bare ((k, x) :: b)) = pB ((k, x), []) :: tgR (bare a) (bare b) := by
 cases a with
 | nil => show tgR [] (((k, x), []) :: bare b) = _; rw [tgR]; rfl
 | cons z t =>
  have hz := h z (List.mem_cons_self ..)
  show tgR ((z, []) :: bare t) (((k, x), []) :: bare b) = _
  rw [tgR]
  show (if ltB z.1 k = true then _ else if ltB k z.1 = true then _ else _) = _
  rw [if_neg (by rw [lt_asym hz]; simp), if_pos hz]
  rfl
theorem tg_e {k : ByteArray} {x z : V} {a b : List Mem} : tgR (bare ((k, x) :: a)) (bare ((k, z) :: b)) = pAB ((k, x), []) ((k, z), []) :: tgR (bare a) (bare b) := by
 show tgR (((k, x), []) :: bare a) (((k, z), []) :: bare b) = _
 rw [tgR]
 show (if ltB k k = true then _ else if ltB k k = true then _ else _) = _
 rw [if_neg (by rw [lt_irr]; simp), if_neg (by rw [lt_irr]; simp)]
theorem mrg_r {f : V → V → V} {k : ByteArray} {x : V} {a q : List Mem} (h : ∀ y ∈ a, ltB k y.1 = true) : mrgM f a ((k, x) :: q) = if kindOf x = 0 then mrgM f a q else (k, f nullV x) :: mrgM f a q := by
 cases a with
 | nil => rw [mrgM]
 | cons z t =>
  obtain ⟨ka, xa⟩ := z
  have hz := h (ka, xa) (List.mem_cons_self ..)
  rw [mrgM, if_neg (by rw [lt_asym hz]; simp), if_pos hz]
theorem mrg_e {f : V → V → V} {k : ByteArray} {x z : V} {a q : List Mem} : mrgM f ((k, x) :: a) ((k, z) :: q) = if kindOf z = 0 then mrgM f a q else (k, f x z) :: mrgM f a q := by
 rw [mrgM, if_neg (by rw [lt_irr]; simp), if_neg (by rw [lt_irr]; simp)]
theorem stDs_cons {f : List Mem → List Mem → Option (List Mem)} {x : Pr} {t : List Pr} {ms : List Mem} (h : stDs f (x :: t) = some ms) : ∃ a b, stD f x = some a ∧ stDs f t = some b ∧ ms = a ++ b := by
 rw [stDs] at h
 cases hx : stD f x with
 | none => rw [hx] at h; cases h
 | some a =>
  rw [hx] at h
  simp only at h
  cases ht : stDs f t with
  | none => rw [ht] at h; cases h
  | some b => rw [ht] at h; simp only at h; cases h; exact ⟨a, b, rfl, rfl, rfl⟩
theorem stD_A (f : List Mem → List Mem → Option (List Mem)) (k : ByteArray) (x : V) : stD f (pA ((k, x), [])) = some [(k, nullV)] := by rw [stD, if_pos (show (pA ((k, x), [])).g = false from rfl)]; rfl
theorem stD_B (f : List Mem → List Mem → Option (List Mem)) (k : ByteArray) (x : V) : stD f (pB ((k, x), [])) = if clnB x = true then some [(k, x)] else none := by
 rw [stD, if_neg (show ¬ (pB ((k, x), [])).g = false from by intro h; cases h), if_neg (show ¬ (kindOf (pB ((k, x), [])).va = 5 ∧ kindOf (pB ((k, x), [])).vb = 5) from fun h => absurd h.1 (show ¬ kindOf nullV = 5 from by decide)), if_neg (show ¬ ((pB ((k, x), [])).f = true ∧ eqlV (pB ((k, x), [])).va (pB ((k, x), [])).vb = true) from fun h => by cases h.1)]
 rfl
theorem stD_E (f : List Mem → List Mem → Option (List Mem)) (k : ByteArray) (x z : V) : stD f (pAB ((k, x), []) ((k, z), [])) = if kindOf x = 5 ∧ kindOf z = 5 then (match f (memsOf x) (memsOf z) with | none => none | some [] => some [] | some (y :: t) => some [(k, mapV (y :: t))]) else if eqlV x z = true then some [] else if clnB z = true then some [(k, z)] else none := by
 rw [stD, if_neg (show ¬ (pAB ((k, x), []) ((k, z), [])).g = false from by intro h; cases h)]
 show (if kindOf x = 5 ∧ kindOf z = 5 then _ else if true = true ∧ eqlV x z = true then _ else _) = _
 by_cases h : kindOf x = 5 ∧ kindOf z = 5
 ·rw [if_pos h, if_pos h]; rfl
 ·rw [if_neg h, if_neg h]
  by_cases h2 : eqlV x z = true
  ·rw [if_pos h2, if_pos ⟨rfl, h2⟩]
  ·rw [if_neg h2, if_neg (fun h => h2 h.2)]; rfl
theorem map_is {v : V} (h : allG v) (hk : kindOf v = 5) : v = mapV (memsOf v) := by
 obtain ⟨k, b, i, s, l, m⟩ := v
 change k = 5 at hk
 subst hk
 rw [allG] at h
 have h1 := h.1
 simp only [goodB, Bool.and_eq_true, plainB, decide_eq_true_iff] at h1
 obtain ⟨⟨⟨_, _, pb, pi, ps, pl, _⟩, _⟩, _⟩ := h1
 have eb : b = false := by rcases pb with h | h; omega; exact h
 have ei : i = 0 := by rcases pi with h | h; omega; exact h
 have es : s = ⟨#[]⟩ := by
  rcases ps with h | h
  ·omega
  ·apply key_eq
   rw [List.isEmpty_iff] at h
   rw [h]; kernel_rfl
 have el : l = [] := by rcases pl with h | h; omega; exact List.length_eq_zero_iff.1 (by omega)
 rw [eb, ei, es, el]
 rfl
theorem no_mem {v : V} (h : allG v) (hk : ¬ kindOf v = 5) : memsOf v = [] := by
 have := opt_mems h
 rw [if_neg hk] at this
 exact this.symm
theorem pch_flat {t x : V} (h : ¬ kindOf x = 5) : pchV t x = x := by
 obtain ⟨k, b, i, s, l, m⟩ := x
 rw [pchV, if_neg (show ¬ k = 5 from h)]
theorem cln_kind {v : V} (h : clnB v = true) : ¬ kindOf v = 0 := by
 obtain ⟨k, b, i, s, l, m⟩ := v
 rw [clnB] at h
 simp only [Bool.and_eq_true] at h
 intro e
 change k = 0 at e
 rw [e] at h
 simp at h
theorem clnM_mem : ∀ {m : List Mem}, clnM m = true → ∀ y ∈ m, clnB y.2 = true
 | [], _, y, hy => by cases hy
 | (k, x) :: t, h, y, hy => by
  rw [clnM, Bool.and_eq_true] at h
  rcases List.mem_cons.1 hy with rfl | hy
  ·exact h.1
  ·exact clnM_mem h.2 y hy
theorem cln_flat {v : V} (h : allG v) (h5 : ¬ kindOf v = 5) (h0 : ¬ kindOf v = 0) : clnB v = true := by
 have hm := no_mem h h5
 obtain ⟨k, b, i, s, l, m⟩ := v
 change m = [] at hm
 change ¬ k = 0 at h0
 rw [clnB, hm, clnM]
 simp [h0]
theorem mrg_same {f : V → V → V} : ∀ {m : List Mem}, (∀ y ∈ m, ¬ kindOf y.2 = 0 ∧ f nullV y.2 = y.2) → mrgM f [] m = m
 | [], _ => by rw [mrgM]
 | (k, x) :: t, h => by
  have hx := h (k, x) (List.mem_cons_self ..)
  rw [mrgM, if_neg hx.1, hx.2, mrg_same fun y hy => h y (List.mem_cons_of_mem _ hy)]
theorem cln_pch (v : V) : allG v → clnB v = true → ∀ t, (¬ kindOf t = 5 ∨ ¬ kindOf v = 5) → pchV t v = v := by
 refine V.ind_v (P := fun v => allG v → clnB v = true → ∀ t, (¬ kindOf t = 5 ∨ ¬ kindOf v = 5) → pchV t v = v) ?_ v
 intro k b i s l m _ hm hg hc t ht
 by_cases hk : k = 5
 ·subst hk
  have ht : ¬ kindOf t = 5 := by rcases ht with h | h; exact h; exact absurd rfl h
  have gm := gm_mems hg
  rw [pchV, if_pos rfl, if_neg ht, pch_mrg (q := m) gm.s (show Srt [] from List.Pairwise.nil)]
  rw [clnB, Bool.and_eq_true] at hc
  rw [mrg_same (m := m) (fun y hy => ⟨cln_kind (clnM_mem hc.2 y hy), hm y hy (gm.g y hy) (clnM_mem hc.2 y hy) nullV (.inl (by decide))⟩)]
  exact (map_is hg rfl).symm
 ·exact pch_flat (x := .mk k b i s l m) hk
theorem cmpI_zero {a b : Int} (h : cmpI a b = 0) : a = b := by
 unfold cmpI at h
 split at h
 ·omega
 ·split at h <;> omega
theorem cmpB_zero {a b : Bool} (h : cmpB a b = 0) : a = b := by
 unfold cmpB at h
 split at h
 ·assumption
 ·split at h <;> omega
theorem cmpS_eq {a b : ByteArray} (h : cmpS a b = 0) : a = b := ByteArray.ext (Array.toList_inj.1 ((cmp_zero _ _).1 h))
mutual
theorem ordV_eq : ∀ v u : V, allG v → allG u → ordV v u = 0 → v = u
 | .mk k b i s l m, .mk k' b' i' s' l' m', hv, hu, h => by
  rw [allG] at hv hu
  obtain ⟨g, gl, gm⟩ := hv
  obtain ⟨g', gl', gm'⟩ := hu
  simp only [goodB, Bool.and_eq_true, plainB, decide_eq_true_iff] at g g'
  obtain ⟨⟨⟨q1, q2, pb, pi, ps, pl, pm⟩, _⟩, _⟩ := g
  obtain ⟨⟨⟨_, _, pb', pi', ps', pl', pm'⟩, _⟩, _⟩ := g'
  rw [ordV] at h
  by_cases hk : k = k'
  ·subst hk
   rw [if_pos rfl] at h
   have eS : ∀ {x : ByteArray}, x.toList.isEmpty = true → x = ⟨#[]⟩ := fun {x} hx => by
    apply key_eq
    rw [List.isEmpty_iff] at hx
    rw [hx]; kernel_rfl
   have hb : b = b' := by
    by_cases h1 : k = 1
    ·rw [if_pos h1] at h; exact cmpB_zero h
    ·rw [pb.resolve_left h1, pb'.resolve_left h1]
   have hi : i = i' := by
    by_cases h2 : k = 2
    ·rw [if_neg (by omega), if_pos h2] at h; exact cmpI_zero h
    ·rw [pi.resolve_left h2, pi'.resolve_left h2]
   have hs : s = s' := by
    by_cases h3 : k = 3
    ·rw [if_neg (by omega), if_neg (by omega), if_pos h3] at h; exact cmpS_eq h
    ·rw [eS (ps.resolve_left h3), eS (ps'.resolve_left h3)]
   have hl : l = l' := by
    by_cases h4 : k = 4
    ·rw [if_neg (by omega), if_neg (by omega), if_neg (by omega), if_pos h4] at h; exact ordL_eq l l' gl gl' h
    ·have e1 := pl.resolve_left h4
     have e2 := pl'.resolve_left h4
     rw [List.length_eq_zero_iff.1 (by omega : l.length = 0), List.length_eq_zero_iff.1 (by omega : l'.length = 0)]
   have hm : m = m' := by
    by_cases h5 : k = 5
    ·rw [if_neg (by omega), if_neg (by omega), if_neg (by omega), if_neg (by omega), if_pos h5] at h; exact ordM_eq m m' gm gm' h
    ·have e1 := pm.resolve_left h5
     have e2 := pm'.resolve_left h5
     rw [List.length_eq_zero_iff.1 (by omega : m.length = 0), List.length_eq_zero_iff.1 (by omega : m'.length = 0)]
   rw [hb, hi, hs, hl, hm]
  ·rw [if_neg hk] at h
   exact absurd (cmpI_zero h) hk
theorem ordL_eq : ∀ l l' : List V, allGL l → allGL l' → ordL l l' = 0 → l = l'
 | [], [], _, _, _ => rfl
 | [], _ :: _, _, _, h => by rw [ordL] at h; omega
 | _ :: _, [], _, _, h => by rw [ordL] at h; omega
 | x :: t, y :: u, hl, hl', h => by
  rw [allGL] at hl hl'
  rw [ordL] at h
  by_cases hx : ordV x y = 0
  ·rw [if_pos hx] at h
   rw [ordV_eq x y hl.1 hl'.1 hx, ordL_eq t u hl.2 hl'.2 h]
  ·rw [if_neg hx] at h
   exact absurd h hx
theorem ordM_eq : ∀ l l' : List Mem, allGM l → allGM l' → ordM l l' = 0 → l = l'
 | [], [], _, _, _ => rfl
 | [], _ :: _, _, _, h => by rw [ordM] at h; omega
 | _ :: _, [], _, _, h => by rw [ordM] at h; omega
 | (k, x) :: t, (k', y) :: u, hl, hl', h => by
  rw [allGM] at hl hl'
  rw [ordM] at h
  by_cases hk : k.toList = k'.toList
  ·rw [if_pos hk] at h
   by_cases hx : ordV x y = 0
   ·rw [if_pos hx] at h
    rw [key_eq hk, ordV_eq x y hl.1 hl'.1 hx, ordM_eq t u hl.2 hl'.2 h]
   ·rw [if_neg hx] at h
    exact absurd h hx
  ·rw [if_neg hk] at h
   by_cases hc : cmpS k k' = 0
   ·exact absurd (by rw [cmpS_eq hc]) hk
   ·rw [if_neg hc] at h
    exact absurd h hc
end
theorem eql_same {v u : V} (hv : allG v) (hu : allG u) (h : eqlV v u = true) : v = u := by
 rw [eqlV, Bool.and_eq_true, Bool.and_eq_true, decide_eq_true_iff] at h
 exact ordV_eq v u hv hu h.2.2
mutual
theorem ordV_refl : ∀ v : V, ordV v v = 0
 | .mk k b i s l m => by
  rw [ordV, if_pos rfl]
  have h1 : cmpB b b = 0 := by rw [cmpB, if_pos rfl]
  have h2 : cmpI i i = 0 := by unfold cmpI; rw [if_neg (by omega), if_neg (by omega)]
  have h3 : cmpS s s = 0 := (cmp_zero _ _).2 rfl
  rw [h1, h2, h3, ordL_refl l, ordM_refl m]
  simp
theorem ordL_refl : ∀ l : List V, ordL l l = 0
 | [] => by rw [ordL]
 | x :: t => by rw [ordL, ordV_refl x, if_pos rfl, ordL_refl t]
theorem ordM_refl : ∀ l : List Mem, ordM l l = 0
 | [] => by rw [ordM]
 | (k, x) :: t => by rw [ordM, if_pos rfl, ordV_refl x, if_pos rfl, ordM_refl t]
end
theorem eql_refl {v : V} (h : Ok v) : eqlV v v = true := by
 rw [eqlV, h.ok, ordV_refl]; rfl
end Go.Proofs.YtjfldbmopjojdabDoor
namespace Go.Proofs.YtjfldbmopjojdabDoor
open Go Go.RowKit Go.Lib Go.Shelf
structure Led (a b ms : List Mem) : Prop where
 m : mrgM pchV a ms = b
 g : GM ms
 k : ∀ K, (∀ y ∈ a, ltB K y.1 = true) → (∀ y ∈ b, ltB K y.1 = true) → ∀ y ∈ ms, ltB K y.1 = true
 d : dpM ms ≤ max (dpM a) (dpM b)
theorem dp_null : dpV nullV = 0 := by rw [nullV, dpV, dpL, dpM]; rfl
theorem dp_map (m : List Mem) : dpV (mapV m) = dpM m := by rw [mapV, dpV, dpL]; exact Nat.max_eq_right (Nat.zero_le _)
theorem null_kind : kindOf nullV = 0 := rfl
theorem led_null {k : ByteArray} {x : V} {a b t : List Mem} (L : Led a b t) (hk : utfB k = true) (ka : ∀ y ∈ a, ltB k y.1 = true) (kb : ∀ y ∈ b, ltB k y.1 = true) : Led ((k, x) :: a) b ((k, nullV) :: t) := by
 refine ⟨?_, gm_cons L.g null_good hk (L.k k ka kb), ?_, ?_⟩
 ·rw [mrg_e, if_pos null_kind]; exact L.m
 ·intro K h1 h2 y hy
  rcases List.mem_cons.1 hy with rfl | hy
  ·exact h1 (k, x) (List.mem_cons_self ..)
  ·exact L.k K (fun y hy => h1 y (List.mem_cons_of_mem _ hy)) h2 y hy
 ·have := L.d
  rw [dpM, dpM, dp_null]
  omega
theorem led_skip {k : ByteArray} {x : V} {a b t : List Mem} (L : Led a b t) (ka : ∀ y ∈ a, ltB k y.1 = true) (kb : ∀ y ∈ b, ltB k y.1 = true) : Led ((k, x) :: a) ((k, x) :: b) t := by
 refine ⟨?_, L.g, ?_, ?_⟩
 ·rw [mrg_head (L.k k ka kb), L.m]
 ·intro K h1 h2 y hy
  exact L.k K (fun y hy => h1 y (List.mem_cons_of_mem _ hy)) (fun y hy => h2 y (List.mem_cons_of_mem _ hy)) y hy
 ·have := L.d
  rw [dpM, dpM]
  omega
theorem led_put {k : ByteArray} {x z p : V} {a b t : List Mem} (L : Led a b t) (hk : utfB k = true) (ka : ∀ y ∈ a, ltB k y.1 = true) (kb : ∀ y ∈ b, ltB k y.1 = true) (hp : allG p) (h0 : ¬ kindOf p = 0) (he : pchV x p = z) (hd : dpV p ≤ max (dpV x) (dpV z)) : Led ((k, x) :: a) ((k, z) :: b) ((k, p) :: t) := by
 refine ⟨?_, gm_cons L.g hp hk (L.k k ka kb), ?_, ?_⟩
 ·rw [mrg_e, if_neg h0, he, L.m]
 ·intro K h1 h2 y hy
  rcases List.mem_cons.1 hy with rfl | hy
  ·exact h1 (k, x) (List.mem_cons_self ..)
  ·exact L.k K (fun y hy => h1 y (List.mem_cons_of_mem _ hy)) (fun y hy => h2 y (List.mem_cons_of_mem _ hy)) y hy
 ·have := L.d
  rw [dpM, dpM, dpM]
  omega
theorem led_all (f : List Mem → List Mem → Option (List Mem)) (hf : ∀ a b ms, GM a → GM b → f a b = some ms → Led a b ms) : ∀ a b, Srt a → Srt b → GM a → GM b → ∀ ms, stDs f (tgR (bare a) (bare b)) = some ms → Led a b ms := by
 refine two_ind ?_ ?_ ?_ ?_
 ·intro _ _ ms h
  have h : stDs f (tgR [] []) = some ms := h
  rw [tgR, stDs] at h
  cases h
  exact ⟨by rw [mrgM], gm_nil, fun K _ _ y hy => (by cases hy), by rw [dpM]; omega⟩
 ·intro k x a b sa sb ka kb ih ga gb ms h
  rw [tg_l kb] at h
  obtain ⟨r, t, hr, ht, rfl⟩ := stDs_cons h
  rw [stD_A] at hr
  cases hr
  have g1 := gm_tail ga
  exact led_null (ih g1.1 gb t ht) g1.2.2.1 ka kb
 ·intro k x a b sa sb ka kb ih ga gb ms h
  rw [tg_r ka] at h
  obtain ⟨r, t, hr, ht, rfl⟩ := stDs_cons h
  rw [stD_B] at hr
  have g1 := gm_tail gb
  by_cases hc : clnB x = true
  ·rw [if_pos hc] at hr
   cases hr
   have L := ih ga g1.1 t ht
   refine ⟨?_, gm_cons L.g g1.2.1 g1.2.2.1 (L.k k ka kb), ?_, ?_⟩
   ·show mrgM pchV a ((k, x) :: t) = _
    rw [mrg_r ka, if_neg (cln_kind hc), cln_pch x g1.2.1 hc nullV (.inl (by decide)), L.m]
   ·intro K h1 h2 y hy
    rcases List.mem_cons.1 hy with rfl | hy
    ·exact h2 (k, x) (List.mem_cons_self ..)
    ·exact L.k K h1 (fun y hy => h2 y (List.mem_cons_of_mem _ hy)) y hy
   ·have := L.d
    show dpM ((k, x) :: t) ≤ _
    rw [dpM, dpM]
    omega
  ·rw [if_neg hc] at hr
   cases hr
 ·intro k x z a b sa sb ka kb ih ga gb ms h
  rw [tg_e] at h
  obtain ⟨r, t, hr, ht, rfl⟩ := stDs_cons h
  rw [stD_E] at hr
  have g1 := gm_tail ga
  have g2 := gm_tail gb
  have L := ih g1.1 g2.1 t ht
  by_cases hk : kindOf x = 5 ∧ kindOf z = 5
  ·rw [if_pos hk] at hr
   cases hq : f (memsOf x) (memsOf z) with
   | none => rw [hq] at hr; cases hr
   | some l =>
    rw [hq] at hr
    have M := hf _ _ _ (gm_mems g1.2.1) (gm_mems g2.2.1) hq
    cases l with
    | nil =>
     cases hr
     have e : x = z := by
      have := M.m
      rw [mrgM] at this
      rw [map_is g1.2.1 hk.1, map_is g2.2.1 hk.2, this]
     subst e
     exact led_skip L ka kb
    | cons y s =>
     cases hr
     refine led_put L g1.2.2.1 ka kb (gm_map M.g) (by show ¬ (5 : Int) = 0; omega) ?_ ?_
     ·show pchV x (.mk 5 false 0 ⟨#[]⟩ [] (y :: s)) = z
      rw [pch_map g1.2.1 (gm_map M.g), M.m]
      exact (map_is g2.2.1 hk.2).symm
     ·have := M.d
      have := dpM_mems x
      have := dpM_mems z
      rw [dp_map]
      omega
  ·rw [if_neg hk] at hr
   by_cases he : eqlV x z = true
   ·rw [if_pos he] at hr
    cases hr
    have e := eql_same g1.2.1 g2.2.1 he
    subst e
    exact led_skip L ka kb
   ·rw [if_neg he] at hr
    by_cases hc : clnB z = true
    ·rw [if_pos hc] at hr
     cases hr
     refine led_put L g1.2.2.1 ka kb g2.2.1 (cln_kind hc) (cln_pch z g2.2.1 hc x ?_) (by omega)
     by_cases h5 : kindOf x = 5
     ·exact .inr fun h => hk ⟨h5, h⟩
     ·exact .inl h5
    ·rw [if_neg hc] at hr
     cases hr
theorem led_btw : ∀ (n : Nat) (a b ms : List Mem), GM a → GM b → btwM n a b = some ms → Led a b ms
 | 0, a, b, ms, _, _, h => by rw [btwM] at h; cases h
 | n + 1, a, b, ms, ga, gb, h => by
  rw [btwM] at h
  exact led_all (btwM n) (led_btw n) a b ga.s gb.s ga gb ms h
def Less (r q : List Mem) : Prop := ∀ μ α c, Mu μ α c → smM (fun k x => α k + μ x) r ≤ smM (fun k x => α k + μ x) q
def Fnd (f : List Mem → List Mem → Option (List Mem)) (a q : List Mem) : Prop := ∃ r, stDs f (tgR (bare a) (bare (mrgM pchV a q))) = some r ∧ Less r q
end Go.Proofs.YtjfldbmopjojdabDoor
