import Derived.Test.YtjfldbmopjojdaaDoorDifQ
set_option linter.unusedSimpArgs false
set_option linter.unusedVariables false
namespace Go.Proofs.YtjfldbmopjojdaaDoor
open Go Go.RowKit Go.Lib Go.Shelf
structure Led (a b ms : List Mem) : Prop where
 m : mrgM pchV a ms = b
 g : GM ms
 k : ∀ K, (∀ y ∈ a, ltB K y.1 = true) → (∀ y ∈ b, ltB K y.1 = true) → ∀ y ∈ ms, ltB K y.1 = true
 d : dpM ms ≤ max (dpM a) (dpM b)
theorem dp_null : dpV nullV = 0 := by rw [nullV, dpV, dpL, dpM]; rfl
theorem dp_map (m : List Mem) : dpV (mapV m) = dpM m := by rw [mapV, dpV, dpL]; exact Nat.max_eq_right (Nat.zero_le _)
theorem null_kind : kindOf nullV = 0 := rfl
theorem led_null {k : ByteArray} {x : V} {a b t : List Mem} (L : Led a b t) (hk : utfB k = true) (ka : ∀ y ∈ a, ltB k y.1 = true) (kb : ∀ y ∈ b, ltB k y.1 = true) : Led ((k, x) :: a) b ((k, nullV) :: t) := by
 refine ⟨?_, gm_cons L.g null_good hk (L.k k ka kb), ?_, ?_⟩
 ·rw [mrg_e, if_pos null_kind]; exact L.m
 ·intro K h1 h2 y hy
  rcases List.mem_cons.1 hy with rfl | hy
  ·exact h1 (k, x) (List.mem_cons_self ..)
  ·exact L.k K (fun y hy => h1 y (List.mem_cons_of_mem _ hy)) h2 y hy
 ·have := L.d
  rw [dpM, dpM, dp_null]
  omega
theorem led_skip {k : ByteArray} {x : V} {a b t : List Mem} (L : Led a b t) (ka : ∀ y ∈ a, ltB k y.1 = true) (kb : ∀ y ∈ b, ltB k y.1 = true) : Led ((k, x) :: a) ((k, x) :: b) t := by
 refine ⟨?_, L.g, ?_, ?_⟩
 ·rw [mrg_head (L.k k ka kb), L.m]
 ·intro K h1 h2 y hy
  exact L.k K (fun y hy => h1 y (List.mem_cons_of_mem _ hy)) (fun y hy => h2 y (List.mem_cons_of_mem _ hy)) y hy
 ·have := L.d
  rw [dpM, dpM]
  omega
theorem led_put {k : ByteArray} {x z p : V} {a b t : List Mem} (L : Led a b t) (hk : utfB k = true) (ka : ∀ y ∈ a, ltB k y.1 = true) (kb : ∀ y ∈ b, ltB k y.1 = true) (hp : allG p) (h0 : ¬ kindOf p = 0) (he : pchV x p = z) (hd : dpV p ≤ max (dpV x) (dpV z)) : Led ((k, x) :: a) ((k, z) :: b) ((k, p) :: t) := by
 refine ⟨?_, gm_cons L.g hp hk (L.k k ka kb), ?_, ?_⟩
 ·rw [mrg_e, if_neg h0, he, L.m]
 ·intro K h1 h2 y hy
  rcases List.mem_cons.1 hy with rfl | hy
  ·exact h1 (k, x) (List.mem_cons_self ..)
  ·exact L.k K (fun y hy => h1 y (List.mem_cons_of_mem _ hy)) (fun y hy => h2 y (List.mem_cons_of_mem _ hy)) y hy
 ·have := L.d
  rw [dpM, dpM, dpM]
  omega
theorem led_all (f : List Mem → List Mem → Option (List Mem)) (hf : ∀ a b ms, GM a → GM b → f a b = some ms → Led a b ms) : ∀ a b, Srt a → Srt b → GM a → GM b → ∀ ms, stDs f (tgR (bare a) (bare b)) = some ms → Led a b ms := by
 refine two_ind ?_ ?_ ?_ ?_
 ·intro _ _ ms h
  have h : stDs f (tgR [] []) = some ms := h
  rw [tgR, stDs] at h
  cases h
  exact ⟨by rw [mrgM], gm_nil, fun K _ _ y hy => (by cases hy), by rw [dpM]; omega⟩
 ·intro k x a b sa sb ka kb ih ga gb ms h
  rw [tg_l kb] at h
  obtain ⟨r, t, hr, ht, rfl⟩ := stDs_cons h
  rw [stD_A] at hr
  cases hr
  have g1 := gm_tail ga
  exact led_null (ih g1.1 gb t ht) g1.2.2.1 ka kb
 ·intro k x a b sa sb ka kb ih ga gb ms h
  rw [tg_r ka] at h
  obtain ⟨r, t, hr, ht, rfl⟩ := stDs_cons h
  rw [stD_B] at hr
  have g1 := gm_tail gb
  by_cases hc : clnB x = true
  ·rw [if_pos hc] at hr
   cases hr
   have L := ih ga g1.1 t ht
   refine ⟨?_, gm_cons L.g g1.2.1 g1.2.2.1 (L.k k ka kb), ?_, ?_⟩
   ·show mrgM pchV a ((k, x) :: t) = _
    rw [mrg_r ka, if_neg (cln_kind hc), cln_pch x g1.2.1 hc nullV (.inl (by decide)), L.m]
   ·intro K h1 h2 y hy
    rcases List.mem_cons.1 hy with rfl | hy
    ·exact h2 (k, x) (List.mem_cons_self ..)
    ·exact L.k K h1 (fun y hy => h2 y (List.mem_cons_of_mem _ hy)) y hy
   ·have := L.d
    show dpM ((k, x) :: t) ≤ _
    rw [dpM, dpM]
    omega
  ·rw [if_neg hc] at hr
   cases hr
 ·intro k x z a b sa sb ka kb ih ga gb ms h
  rw [tg_e] at h
  obtain ⟨r, t, hr, ht, rfl⟩ := stDs_cons h
  rw [stD_E] at hr
  have g1 := gm_tail ga
  have g2 := gm_tail gb
  have L := ih g1.1 g2.1 t ht
  by_cases hk : kindOf x = 5 ∧ kindOf z = 5
  ·rw [if_pos hk] at hr
   cases hq : f (memsOf x) (memsOf z) with
   | none => rw [hq] at hr; cases hr
   | some l =>
    rw [hq] at hr
    have M := hf _ _ _ (gm_mems g1.2.1) (gm_mems g2.2.1) hq
    cases l with
    | nil =>
     cases hr
     have e : x = z := by
      have := M.m
      rw [mrgM] at this
      rw [map_is g1.2.1 hk.1, map_is g2.2.1 hk.2, this]
     subst e
     exact led_skip L ka kb
    | cons y s =>
     cases hr
     refine led_put L g1.2.2.1 ka kb (gm_map M.g) (by show ¬ (5 : Int) = 0; omega) ?_ ?_
     ·show pchV x (.mk 5 false 0 ⟨#[]⟩ [] (y :: s)) = z
      rw [pch_map g1.2.1 (gm_map M.g), M.m]
      exact (map_is g2.2.1 hk.2).symm
     ·have := M.d
      have := dpM_mems x
      have := dpM_mems z
      rw [dp_map]
      omega
  ·rw [if_neg hk] at hr
   by_cases he : eqlV x z = true
   ·rw [if_pos he] at hr
    cases hr
    have e := eql_same g1.2.1 g2.2.1 he
    subst e
    exact led_skip L ka kb
   ·rw [if_neg he] at hr
    by_cases hc : clnB z = true
    ·rw [if_pos hc] at hr
     cases hr
     refine led_put L g1.2.2.1 ka kb g2.2.1 (cln_kind hc) (cln_pch z g2.2.1 hc x ?_) (by omega)
     by_cases h5 : kindOf x = 5
     ·exact .inr fun h => hk ⟨h5, h⟩
     ·exact .inl h5
    ·rw [if_neg hc] at hr
     cases hr
theorem led_btw : ∀ (n : Nat) (a b ms : List Mem), GM a → GM b → btwM n a b = some ms → Led a b ms
 | 0, a, b, ms, _, _, h => by rw [btwM] at h; cases h
 | n + 1, a, b, ms, ga, gb, h => by
  rw [btwM] at h
  exact led_all (btwM n) (led_btw n) a b ga.s gb.s ga gb ms h
theorem led_val {n : Nat} {a b d : V} (ga : allG a) (gb : allG b) (h : btwV n a b = some d) : pchV a d = b ∧ allG d ∧ dpV d ≤ max (dpV a) (dpV b) := by
 unfold btwV at h
 by_cases hk : kindOf a = 5 ∧ kindOf b = 5
 ·rw [if_pos hk] at h
  cases hm : btwM n (memsOf a) (memsOf b) with
  | none => rw [hm] at h; cases h
  | some ms =>
   rw [hm] at h
   cases h
   have M := led_btw n _ _ _ (gm_mems ga) (gm_mems gb) hm
   refine ⟨?_, gm_map M.g, ?_⟩
   ·show pchV a (.mk 5 false 0 ⟨#[]⟩ [] ms) = b
    rw [pch_map ga (gm_map M.g), M.m]
    exact (map_is gb hk.2).symm
   ·have := M.d
    have := dpM_mems a
    have := dpM_mems b
    rw [dp_map]
    omega
 ·rw [if_neg hk] at h
  by_cases h0 : kindOf b = 0
  ·rw [if_pos h0] at h
   cases h
   exact ⟨pch_flat (by omega), gb, by omega⟩
  ·rw [if_neg h0] at h
   by_cases hc : clnB b = true
   ·rw [if_pos hc] at h
    cases h
    refine ⟨cln_pch b gb hc a ?_, gb, by omega⟩
    by_cases h5 : kindOf a = 5
    ·exact .inr fun h => hk ⟨h5, h⟩
    ·exact .inl h5
   ·rw [if_neg hc] at h
    cases h
def Less (r q : List Mem) : Prop := ∀ μ α c, Mu μ α c → smM (fun k x => α k + μ x) r ≤ smM (fun k x => α k + μ x) q
theorem less_nil {r : List Mem} (h : Less r []) : r = [] := by
 have h1 := h ndV (fun _ => 0) 1 mu_nd
 cases r with
 | nil => rfl
 | cons y t =>
  obtain ⟨k, x⟩ := y
  rw [smM, smM] at h1
  have := nd_pos x
  omega
theorem less_more {r q : List Mem} {k : ByteArray} {x : V} (h : Less r q) : Less r ((k, x) :: q) := fun μ α c hm => by
 have := h μ α c hm
 rw [smM]
 omega
theorem less_cons {r q : List Mem} {k : ByteArray} {x z : V} (h : Less r q) (hx : ∀ μ α c, Mu μ α c → μ z ≤ μ x) : Less ((k, z) :: r) ((k, x) :: q) := fun μ α c hm => by
 have := h μ α c hm
 have := hx μ α c hm
 rw [smM, smM]
 omega
theorem mu_pch {μ : V → Nat} {α : ByteArray → Nat} {c : Nat} (hm : Mu μ α c) (x : V) : μ (pchV nullV x) ≤ μ x := by
 have := pch_mu hm nullV x
 have e : smM (fun k x => α k + μ x) (memsOf nullV) = 0 := by rw [show memsOf nullV = [] from rfl, smM]
 omega
theorem mu_map {μ : V → Nat} {α : ByteArray → Nat} {c : Nat} (hm : Mu μ α c) {r : List Mem} {x : V} (h : smM (fun k x => α k + μ x) r ≤ smM (fun k x => α k + μ x) (memsOf x)) : μ (mapV r) ≤ μ x := by
 obtain ⟨k, b, i, s, l, m⟩ := x
 have := hm.u k b i s l m
 have e := hm.m r
 show μ (.mk 5 false 0 ⟨#[]⟩ [] r) ≤ _
 rw [e]
 have h : smM (fun k x => α k + μ x) r ≤ smM (fun k x => α k + μ x) m := h
 omega
theorem null_is {v : V} (h : allG v) (hk : kindOf v = 0) : v = nullV := by
 obtain ⟨k, b, i, s, l, m⟩ := v
 change k = 0 at hk
 subst hk
 rw [allG] at h
 have h1 := h.1
 simp only [goodB, Bool.and_eq_true, plainB, decide_eq_true_iff] at h1
 obtain ⟨⟨⟨_, _, pb, pi, ps, pl, pm⟩, _⟩, _⟩ := h1
 have eb : b = false := by rcases pb with h | h; omega; exact h
 have ei : i = 0 := by rcases pi with h | h; omega; exact h
 have es : s = ⟨#[]⟩ := by
  rcases ps with h | h
  ·omega
  ·apply key_eq
   rw [List.isEmpty_iff] at h
   rw [h]; kernel_rfl
 have el : l = [] := by rcases pl with h | h; omega; exact List.length_eq_zero_iff.1 (by omega)
 have em : m = [] := by rcases pm with h | h; omega; exact List.length_eq_zero_iff.1 (by omega)
 rw [eb, ei, es, el, em]
 rfl
def Fnd (f : List Mem → List Mem → Option (List Mem)) (a q : List Mem) : Prop := ∃ r, stDs f (tgR (bare a) (bare (mrgM pchV a q))) = some r ∧ Less r q
theorem fnd_step (f : List Mem → List Mem → Option (List Mem)) (n : Nat) (hf : ∀ v p, kindOf v = 5 → Ok v → dpV v < n → GM p → ∃ r, f (memsOf v) (mrgM pchV (memsOf v) p) = some r ∧ Less r p) :
 ∀ a q, Srt a → Srt q → GM a → GM q → (∀ y ∈ a, Ok y.2) → (∀ y ∈ a, dpV y.2 < n) → Fnd f a q := by
 refine two_ind ?_ ?_ ?_ ?_
 ·intro _ _ _ _
  refine ⟨[], ?_, fun μ α c _ => Nat.le_refl _⟩
  rw [mrgM]
  show stDs f (tgR [] []) = _
  rw [tgR, stDs]
 ·intro k x a q sa sq ka kq ih ga gq ho hd
  have g1 := gm_tail ga
  obtain ⟨r, hr, hl⟩ := ih g1.1 gq (fun y hy => ho y (List.mem_cons_of_mem _ hy)) (fun y hy => hd y (List.mem_cons_of_mem _ hy))
  have ox : Ok x := ho (k, x) (List.mem_cons_self ..)
  have dx : dpV x < n := hd (k, x) (List.mem_cons_self ..)
  refine ⟨r, ?_, hl⟩
  rw [mrg_head kq, tg_e]
  have hs : stD f (pAB ((k, x), []) ((k, x), [])) = some [] := by
   rw [stD_E]
   by_cases h5 : kindOf x = 5
   ·rw [if_pos ⟨h5, h5⟩]
    obtain ⟨r', h1, h2⟩ := hf x [] h5 ox dx gm_nil
    rw [mrgM] at h1
    rw [h1, less_nil h2]
   ·rw [if_neg (fun h => h5 h.1), if_pos (eql_refl ox)]
  have := stDs_mk hs hr
  rw [List.nil_append] at this
  exact this
 ·intro k x a q sa sq ka kq ih ga gq ho hd
  have g1 := gm_tail gq
  obtain ⟨r, hr, hl⟩ := ih ga g1.1 ho hd
  by_cases h0 : kindOf x = 0
  ·refine ⟨r, ?_, less_more hl⟩
   rw [mrg_r ka, if_pos h0]
   exact hr
  ·refine ⟨[(k, pchV nullV x)] ++ r, ?_, less_cons hl fun μ α c hm => mu_pch hm x⟩
   rw [mrg_r ka, if_neg h0, tg_r ka]
   refine stDs_mk ?_ hr
   rw [stD_B, if_pos (pch_clean x g1.2.1 h0 nullV (by decide))]
 ·intro k x z a q sa sq ka kq ih ga gq ho hd
  have g1 := gm_tail ga
  have g2 := gm_tail gq
  obtain ⟨r, hr, hl⟩ := ih g1.1 g2.1 (fun y hy => ho y (List.mem_cons_of_mem _ hy)) (fun y hy => hd y (List.mem_cons_of_mem _ hy))
  have ox : Ok x := ho (k, x) (List.mem_cons_self ..)
  have dx : dpV x < n := hd (k, x) (List.mem_cons_self ..)
  by_cases h0 : kindOf z = 0
  ·rw [Fnd, mrg_e, if_pos h0, tg_l (mrg_keys (P := fun y => ltB k y = true) a q ka kq)]
   refine ⟨[(k, nullV)] ++ r, stDs_mk (stD_A f k x) hr, ?_⟩
   rw [null_is g2.2.1 h0]
   exact less_cons hl fun μ α c hm => Nat.le_refl _
  ·rw [Fnd, mrg_e, if_neg h0, tg_e]
   have kz : kindOf (pchV x z) = kindOf z := kind_pch x z
   by_cases h5 : kindOf x = 5 ∧ kindOf z = 5
   ·obtain ⟨r', h1, h2⟩ := hf x (memsOf z) h5.1 ox dx (gm_mems g2.2.1)
    have em : memsOf (pchV x z) = mrgM pchV (memsOf x) (memsOf z) := by
     obtain ⟨zk, zb, zi, zs, zl, zm⟩ := z
     obtain rfl : zk = 5 := h5.2
     rw [pch_map g1.2.1 g2.2.1]
     rfl
    cases r' with
    | nil =>
     refine ⟨[] ++ r, stDs_mk ?_ hr, less_more hl⟩
     rw [stD_E, if_pos ⟨h5.1, kz.trans h5.2⟩, em, h1]
    | cons y t =>
     refine ⟨[(k, mapV (y :: t))] ++ r, stDs_mk ?_ hr, less_cons hl fun μ α c hm => mu_map hm (h2 μ α c hm)⟩
     rw [stD_E, if_pos ⟨h5.1, kz.trans h5.2⟩, em, h1]
   ·have h5' : ¬ (kindOf x = 5 ∧ kindOf (pchV x z) = 5) := by rw [kz]; exact h5
    by_cases he : eqlV x (pchV x z) = true
    ·refine ⟨[] ++ r, stDs_mk ?_ hr, less_more hl⟩
     rw [stD_E, if_neg h5', if_pos he]
    ·refine ⟨[(k, pchV x z)] ++ r, stDs_mk ?_ hr, less_cons hl fun μ α c hm => ?_⟩
     ·rw [stD_E, if_neg h5', if_neg he, if_pos]
      by_cases hz : kindOf z = 5
      ·exact pch_clean z g2.2.1 h0 x fun h => h5 ⟨h, hz⟩
      ·rw [pch_flat hz]
       exact cln_flat g2.2.1 hz h0
     ·by_cases hz : kindOf z = 5
      ·rw [pch_none (fun h => h5 ⟨h, hz⟩)]
       exact mu_pch hm z
      ·rw [pch_flat hz]
       exact Nat.le_refl _
theorem fnd_btw : ∀ (n : Nat) (a q : List Mem), GM a → GM q → (∀ y ∈ a, Ok y.2) → (∀ y ∈ a, dpV y.2 < n) → Fnd (btwM n) a q
 | 0, a, q, ga, gq, ho, hd => fnd_step (btwM 0) 0 (fun v p _ _ h _ => absurd h (Nat.not_lt_zero _)) a q ga.s gq.s ga gq ho hd
 | n + 1, a, q, ga, gq, ho, hd => by
  refine fnd_step (btwM (n + 1)) (n + 1) ?_ a q ga.s gq.s ga gq ho hd
  intro v p h5 ov dv gp
  have := fnd_btw n (memsOf v) p (gm_mems ov.g) gp ?_ ?_
  ·obtain ⟨r, h1, h2⟩ := this
   exact ⟨r, by rw [btwM]; exact h1, h2⟩
  ·intro y hy
   obtain ⟨vk, vb, vi, vs, vl, vm⟩ := v
   exact ov.mem hy
  ·intro y hy
   obtain ⟨vk, vb, vi, vs, vl, vm⟩ := v
   have := memNd (m := vm) hy
   rw [dpV] at dv
   omega
theorem fnd_val {a q : V} (ha : chkE a 32 = 0) (hq : chkE q 32 = 0) (hc : chkE (pchV a q) 32 = 0) : ∃ r, btwV 41 a (pchV a q) = some r ∧ chkE r 32 = 0 ∧ ndV r ≤ ndV q := by
 have ca := (chk32 a).1 ha
 have cq := (chk32 q).1 hq
 have cc := (chk32 (pchV a q)).1 hc
 have oa : Ok a := ok_chk (D := 32) (by omega) ha
 have kz : kindOf (pchV a q) = kindOf q := kind_pch a q
 by_cases h5 : kindOf a = 5 ∧ kindOf q = 5
 ·have em : memsOf (pchV a q) = mrgM pchV (memsOf a) (memsOf q) := by
   obtain ⟨zk, zb, zi, zs, zl, zm⟩ := q
   obtain rfl : zk = 5 := h5.2
   rw [pch_map ca.1 cq.1]
   rfl
  obtain ⟨r, h1, h2⟩ := fnd_btw 40 (memsOf a) (memsOf q) (gm_mems ca.1) (gm_mems cq.1) (fun y hy => by
   obtain ⟨vk, vb, vi, vs, vl, vm⟩ := a
   exact oa.mem hy) (fun y hy => by
   have hd := ca.2.1
   obtain ⟨vk, vb, vi, vs, vl, vm⟩ := a
   have := memNd (m := vm) hy
   rw [dpV] at hd
   omega)
  have hb : btwV 41 a (pchV a q) = some (mapV r) := by
   rw [btwV, if_pos ⟨h5.1, kz.trans h5.2⟩, em, btwM, h1]
   rfl
  have L := led_val ca.1 cc.1 hb
  have n1 := mu_map mu_nd (x := q) (h2 _ _ _ mu_nd)
  have n2 := mu_map mu_by (x := q) (h2 _ _ _ mu_by)
  refine ⟨mapV r, hb, (chk32 _).2 ⟨L.2.1, by have := L.2.2; omega, by omega, by omega⟩, n1⟩
 ·have h5' : ¬ (kindOf a = 5 ∧ kindOf (pchV a q) = 5) := by rw [kz]; exact h5
  refine ⟨pchV a q, ?_, hc, ?_⟩
  ·rw [btwV, if_neg h5']
   by_cases h0 : kindOf q = 0
   ·rw [if_pos (kz.trans h0)]
   ·rw [if_neg (by rw [kz]; exact h0), if_pos]
    by_cases hz : kindOf q = 5
    ·exact pch_clean q cq.1 h0 a fun h => h5 ⟨h, hz⟩
    ·rw [pch_flat hz]
     exact cln_flat cq.1 hz h0
  ·by_cases hz : kindOf q = 5
   ·rw [pch_none (fun h => h5 ⟨h, hz⟩)]
    exact mu_pch mu_nd q
   ·rw [pch_flat hz]
    exact Nat.le_refl _
theorem self_val {a : V} (ha : chkE a 32 = 0) : btwV 41 a a = some (if kindOf a = 5 then mapV [] else a) := by
 have ca := (chk32 a).1 ha
 have oa : Ok a := ok_chk (D := 32) (by omega) ha
 by_cases h5 : kindOf a = 5
 ·rw [if_pos h5, btwV, if_pos ⟨h5, h5⟩, btwM]
  obtain ⟨r, h1, h2⟩ := fnd_btw 40 (memsOf a) [] (gm_mems ca.1) gm_nil (fun y hy => by
   obtain ⟨vk, vb, vi, vs, vl, vm⟩ := a
   exact oa.mem hy) (fun y hy => by
   have hd := ca.2.1
   obtain ⟨vk, vb, vi, vs, vl, vm⟩ := a
   have := memNd (m := vm) hy
   rw [dpV] at hd
   omega)
  rw [mrgM] at h1
  rw [h1, less_nil h2]
  rfl
 ·rw [if_neg h5, btwV, if_neg (fun h => h5 h.1)]
  by_cases h0 : kindOf a = 0
  ·rw [if_pos h0]
  ·rw [if_neg h0, if_pos (cln_flat ca.1 h5 h0)]
end Go.Proofs.YtjfldbmopjojdaaDoor
