/- joined: MovE TwoP MovD MovF -/
import Derived.Test.YtgnofbigggmilaaGreatDoorG36
set_option linter.unusedSimpArgs false
set_option linter.unusedVariables false
namespace Go.Proofs.YtgnofbigggmilaaGreatDoor
open Go.RowKit Go.Lib
theorem ndL_app : ∀ a b : List V, ndL (a ++ b) = ndL a + ndL b
 | [], b => by simp [ndL]
 | x :: t, b => by have := ndL_app t b; simp only [ndL, List.cons_append]; omega
theorem ndM_app : ∀ a b : List Mem, ndM (a ++ b) = ndM a + ndM b
 | [], b => by simp [ndM]
 | (k, x) :: t, b => by have := ndM_app t b; simp only [ndM, List.cons_append]; omega
theorem byL_app : ∀ a b : List V, byL (a ++ b) = byL a + byL b
 | [], b => by simp [byL]
 | x :: t, b => by have := byL_app t b; simp only [byL, List.cons_append]; omega
theorem byM_app : ∀ a b : List Mem, byM (a ++ b) = byM a + byM b
 | [], b => by simp [byM]
 | (k, x) :: t, b => by have := byM_app t b; simp only [byM, List.cons_append]; omega
theorem dpL_app : ∀ a b : List V, dpL (a ++ b) = max (dpL a) (dpL b)
 | [], b => by simp [dpL]
 | x :: t, b => by have := dpL_app t b; simp only [dpL, List.cons_append]; omega
theorem dpM_app : ∀ a b : List Mem, dpM (a ++ b) = max (dpM a) (dpM b)
 | [], b => by simp [dpM]
 | (k, x) :: t, b => by have := dpM_app t b; simp only [dpM, List.cons_append]; omega
theorem cut3 {α : Type} {l : List α} {j : Nat} (h : j < l.length) : l = l.take j ++ ([l[j]] ++ l.drop (j + 1)) := by
 conv => lhs; rw [← List.take_append_drop j l, List.drop_eq_getElem_cons h]
 rfl
theorem out_list {l : List V} {j : Nat} (h : j < l.length) : ndL (outL l j) + ndV l[j] = ndL l ∧ byL (outL l j) + byV l[j] = byL l ∧ dpL (outL l j) ≤ dpL l := by
 have e := cut3 h
 have a1 : ndL l = ndL (l.take j) + (ndV l[j] + 0 + ndL (l.drop (j + 1))) := by conv => lhs; rw [e, ndL_app, ndL_app, ndL, ndL]
 have a2 : byL l = byL (l.take j) + (byV l[j] + 0 + byL (l.drop (j + 1))) := by conv => lhs; rw [e, byL_app, byL_app, byL, byL]
 have a3 : dpL l = max (dpL (l.take j)) (max (max (dpV l[j] + 1) 0) (dpL (l.drop (j + 1)))) := by conv => lhs; rw [e, dpL_app, dpL_app, dpL, dpL]
 rw [outL, ndL_app, byL_app, dpL_app]
 exact ⟨by omega, by omega, by omega⟩
theorem out_mems {l : List Mem} {j : Nat} (h : j < l.length) : ndM (outL l j) + ndV (l[j]).2 = ndM l ∧ byM (outL l j) + byV (l[j]).2 = byM l ∧ dpM (outL l j) ≤ dpM l := by
 have e := cut3 h
 have o1 : ndM [l[j]] = ndV (l[j]).2 + 0 := by rcases l[j] with ⟨k, x⟩; rw [ndM, ndM]
 have o2 : byM [l[j]] = byV (l[j]).2 + 0 := by rcases l[j] with ⟨k, x⟩; rw [byM, byM]
 have a1 : ndM l = ndM (l.take j) + (ndV (l[j]).2 + 0 + ndM (l.drop (j + 1))) := by conv => lhs; rw [e, ndM_app, ndM_app, o1]
 have a2 : byM l = byM (l.take j) + (byV (l[j]).2 + 0 + byM (l.drop (j + 1))) := by conv => lhs; rw [e, byM_app, byM_app, o2]
 have a3 : dpM l = max (dpM (l.take j)) (max (dpM [l[j]]) (dpM (l.drop (j + 1)))) := by conv => lhs; rw [e, dpM_app, dpM_app]
 rw [outL, ndM_app, byM_app, dpM_app]
 exact ⟨by omega, by omega, by omega⟩
theorem rem_cnt {v : V} {j : Nat} (hj : kidAt v j) : ndV (remV v j) + ndV (kid v j) = ndV v ∧ byV (remV v j) ≤ byV v ∧ dpV (remV v j) ≤ dpV v := by
 obtain ⟨k, b, i, s, l, m⟩ := v
 rcases hj with ⟨hk, hj⟩ | ⟨hk, hj⟩
 ·have hk' : k = 4 := hk
  subst hk'
  have hj' : j < l.length := hj
  obtain ⟨a, c, d⟩ := out_list hj'
  show ndV (.mk 4 b i s (outL l j) m) + _ = _ ∧ byV (.mk 4 b i s (outL l j) m) ≤ _ ∧ dpV (.mk 4 b i s (outL l j) m) ≤ _
  rw [kid_list hj', ndV, ndV, byV, byV, dpV, dpV]
  exact ⟨by omega, by omega, by omega⟩
 ·have hk' : k = 5 := hk
  subst hk'
  have hj' : j < m.length := hj
  obtain ⟨a, c, d⟩ := out_mems hj'
  have hkb := keyB_sub (outL_sub m j)
  show ndV (.mk 5 b i s l (outL m j)) + _ = _ ∧ byV (.mk 5 b i s l (outL m j)) ≤ _ ∧ dpV (.mk 5 b i s l (outL m j)) ≤ _
  rw [kid_map hj', ndV, ndV, byV, byV, dpV, dpV]
  exact ⟨by omega, by omega, by omega⟩
theorem ins_list (l : List V) (j : Nat) (x : V) : ndL (insL l j x) = ndL l + ndV x ∧ byL (insL l j x) = byL l + byV x ∧ dpL (insL l j x) = max (dpL l) (dpV x + 1) := by
 have a1 : ndL l = ndL (l.take j) + ndL (l.drop j) := by conv => lhs; rw [← List.take_append_drop j l, ndL_app]
 have a2 : byL l = byL (l.take j) + byL (l.drop j) := by conv => lhs; rw [← List.take_append_drop j l, byL_app]
 have a3 : dpL l = max (dpL (l.take j)) (dpL (l.drop j)) := by conv => lhs; rw [← List.take_append_drop j l, dpL_app]
 rw [insL, ndL_app, ndL_app, byL_app, byL_app, dpL_app, dpL_app, ndL, ndL, byL, byL, dpL, dpL]
 exact ⟨by omega, by omega, by omega⟩
theorem ins_mems (l : List Mem) (j : Nat) (t : ByteArray) (x : V) : ndM (insL l j (t, x)) = ndM l + ndV x ∧ byM (insL l j (t, x)) = byM l + byV x ∧ dpM (insL l j (t, x)) = max (dpM l) (dpV x + 1) ∧ keyB (insL l j (t, x)) = keyB l + t.size := by
 have a1 : ndM l = ndM (l.take j) + ndM (l.drop j) := by conv => lhs; rw [← List.take_append_drop j l, ndM_app]
 have a2 : byM l = byM (l.take j) + byM (l.drop j) := by conv => lhs; rw [← List.take_append_drop j l, byM_app]
 have a3 : dpM l = max (dpM (l.take j)) (dpM (l.drop j)) := by conv => lhs; rw [← List.take_append_drop j l, dpM_app]
 have a4 : keyB l = keyB (l.take j) + keyB (l.drop j) := by conv => lhs; rw [← List.take_append_drop j l, keyB_app]
 rw [insL, ndM_app, ndM_app, byM_app, byM_app, dpM_app, dpM_app, keyB_app, keyB_app, ndM, ndM, byM, byM, dpM, dpM, keyB, keyB]
 exact ⟨by omega, by omega, by omega, by simp only; omega⟩
theorem ins_mem {α : Type} {l : List α} {j : Nat} {x y : α} (h : y ∈ insL l j x) : y = x ∨ y ∈ l := by
 rw [insL] at h
 rcases List.mem_append.1 h with h | h
 ·exact .inr (List.mem_of_mem_take h)
 ·rcases List.mem_append.1 h with h | h
  ·exact .inl (List.mem_singleton.1 h)
  ·exact .inr (List.mem_of_mem_drop h)
theorem all_insL {b : Bool} {i : Int} {s : ByteArray} {l : List V} {m : List Mem} (h : allG (.mk 4 b i s l m)) {x : V} (hx : allG x) (j : Nat) : allG (.mk 4 b i s (insL l j x) m) := by
 rw [allG] at h ⊢
 refine ⟨?_, (allGL_iff _).2 fun y hy => ?_, h.2.2⟩
 ·have h := h.1
  simp only [goodB, Bool.and_eq_true, plainB, decide_eq_true_iff] at h ⊢
  exact ⟨⟨⟨h.1.1.1, h.1.1.2.1, h.1.1.2.2.1, h.1.1.2.2.2.1, h.1.1.2.2.2.2.1, .inl trivial, h.1.1.2.2.2.2.2.2⟩, h.1.2⟩, h.2⟩
 ·rcases ins_mem hy with rfl | hy
  ·exact hx
  ·exact (allGL_iff _).1 h.2.1 y hy
theorem cmp_tri : ∀ a b : List UInt8, ¬ compareBytes a b = -1 → ¬ a = b → compareBytes b a = -1
 | [], [], _, h => absurd rfl h
 | [], _ :: _, h, _ => absurd (by simp [compareBytes]) h
 | _ :: _, [], _, _ => by simp [compareBytes]
 | x :: t, y :: u, h, hne => by
  rw [compareBytes] at h ⊢
  by_cases h1 : x < y
  ·rw [if_pos h1] at h; exact absurd rfl h
  ·rw [if_neg h1] at h
   by_cases h2 : y < x
   ·rw [if_pos h2]
   ·rw [if_neg h2] at h ⊢
    rw [if_neg h1]
    have e := u8_tri x y h1 h2
    subst e
    exact cmp_tri t u h (fun e => hne (by rw [e]))
theorem ltB_tri (a b : ByteArray) (h1 : ltB a b = false) (h2 : ¬ a.toList = b.toList) : ltB b a = true := by
 rw [ltB_cmp]
 have h3 : ¬ cmpS a b = -1 := fun h => by rw [(ltB_cmp a b).2 h] at h1; cases h1
 rw [toList_data, toList_data] at h2
 exact cmp_tri _ _ h3 h2
theorem srt_ins {m : List Mem} {t : ByteArray} {x : V} (h : Srt m) (hk : ¬ keyIs t m[posF m t]? = true) : Srt (insL m (posF m t) (t, x)) := by
 have hle := pos_le m t
 have h0 : List.Pairwise (fun a b => ltB a.1 b.1 = true) (m.take (posF m t) ++ m.drop (posF m t)) := by rw [List.take_append_drop]; exact h
 obtain ⟨p1, p2, p3⟩ := List.pairwise_append.1 h0
 have q1 : ∀ y ∈ m.take (posF m t), ltB y.1 t = true := fun y hy => by
  obtain ⟨j, hj, rfl⟩ := List.getElem_of_mem hy
  rw [List.length_take] at hj
  rw [List.getElem_take, pos_less h (show j < m.length by omega)]
  exact decide_eq_true (by omega)
 have q2 : ∀ y ∈ m.drop (posF m t), ltB t y.1 = true := fun y hy => by
  obtain ⟨j, hj, rfl⟩ := List.getElem_of_mem hy
  rw [List.length_drop] at hj
  have hjl : posF m t + j < m.length := by omega
  rw [List.getElem_drop]
  have e1 : ltB (m[posF m t + j]).1 t = false := by rw [pos_less h hjl]; exact decide_eq_false (by omega)
  by_cases h00 : j = 0
  ·subst h00
   refine ltB_tri _ _ e1 (fun e => hk ?_)
   rw [List.getElem?_eq_getElem (by omega)]
   simpa [keyIs] using e
  ·have hlt := (List.pairwise_iff_getElem.1 h) (posF m t) (posF m t + j) (by omega) hjl (by omega)
   have e0 : ltB (m[posF m t]'(by omega)).1 t = false := by rw [pos_less h (by omega)]; exact decide_eq_false (by omega)
   have e2 := ltB_tri _ _ e0 (fun e => hk (by rw [List.getElem?_eq_getElem (by omega)]; simpa [keyIs] using e))
   exact ltB_trans e2 hlt
 show List.Pairwise _ (m.take (posF m t) ++ ([(t, x)] ++ m.drop (posF m t)))
 refine List.pairwise_append.2 ⟨p1, ?_, fun a ha b hb => ?_⟩
 ·exact List.pairwise_cons.2 ⟨fun b hb => q2 b hb, p2⟩
 ·rcases List.mem_append.1 hb with hb | hb
  ·rw [List.mem_singleton.1 hb]; exact q1 a ha
  ·exact p3 a ha b hb
theorem all_insM {b : Bool} {i : Int} {s : ByteArray} {l : List V} {m : List Mem} (h : allG (.mk 5 b i s l m)) {t : ByteArray} (ht : utfB t = true) {x : V} (hx : allG x) (hk : ¬ keyIs t m[posF m t]? = true) : allG (.mk 5 b i s l (insL m (posF m t) (t, x))) := by
 rw [allG] at h ⊢
 refine ⟨?_, h.2.1, (allGM_iff _).2 fun y hy => ?_⟩
 ·have h := h.1
  simp only [goodB, Bool.and_eq_true, plainB, decide_eq_true_iff] at h ⊢
  refine ⟨⟨⟨h.1.1.1, h.1.1.2.1, h.1.1.2.2.1, h.1.1.2.2.2.1, h.1.1.2.2.2.2.1, h.1.1.2.2.2.2.2.1, .inl trivial⟩, h.1.2⟩, rise_of (srt_ins (srt_rise h.2) hk) (fun y hy => ?_)⟩
  rcases ins_mem hy with rfl | hy
  ·exact ht
  ·exact rise_utf h.2 y hy
 ·rcases ins_mem hy with rfl | hy
  ·exact hx
  ·exact (allGM_iff _).1 h.2.2 y hy
theorem une_esp : ∀ t : List UInt8, une (esp t) = some t
 | [] => une_nil
 | x :: t => by
  rw [esp]
  by_cases h : x = 126
  ·rw [if_pos h]
   show une (126 :: 48 :: esp t) = _
   rw [une_tilde, if_pos rfl, une_esp t, h]
   rfl
  ·rw [if_neg h]
   by_cases h2 : x = 47
   ·rw [if_pos h2]
    show une (126 :: 49 :: esp t) = _
    rw [une_tilde, if_neg (by decide), if_pos rfl, une_esp t, h2]
    rfl
   ·rw [if_neg h2]
    show une (x :: esp t) = _
    rw [une_plain _ h, une_esp t]
    rfl
theorem esp_no : ∀ t : List UInt8, 47 ∉ esp t
 | [] => by simp [esp]
 | x :: t => by
  rw [esp]
  intro h
  rcases List.mem_append.1 h with h | h
  ·by_cases h1 : x = 126
   ·rw [if_pos h1] at h; simp at h
   ·rw [if_neg h1] at h
    by_cases h2 : x = 47
    ·rw [if_pos h2] at h; simp at h
    ·rw [if_neg h2] at h
     exact h2 (List.mem_singleton.1 h).symm
  ·exact esp_no t h
theorem prT_cons (t : List UInt8) (l : List (List UInt8)) : prT (t :: l) = 47 :: (esp t ++ prT l) := by simp [prT]
theorem spl_prT : ∀ (l : List (List UInt8)) (t : List UInt8), spl 47 (esp t ++ prT l) = esp t :: l.map esp
 | [], t => by
  rw [show prT [] = [] from rfl, List.append_nil, spl_miss 47 _ (esp_no t)]
  rfl
 | u :: us, t => by
  rw [prT_cons, spl_hit 47 _ _ (esp_no t), spl_prT us u]
  rfl
theorem unes_esp : ∀ l : List (List UInt8), unes (l.map esp) = some l
 | [] => rfl
 | t :: l => by
  rw [List.map_cons, unes, une_esp t, unes_esp l]
  rfl
theorem par_pr (l : List (List UInt8)) (h : l.all validD = true) : parF (prT l) = some l := by
 cases l with
 | nil => rfl
 | cons t ts =>
  rw [prT_cons, parF]
  have hv : validD (47 :: (esp t ++ prT ts)) = true := by
   rw [validD_cons 47 _ (by decide), valid_spl 47 (by decide) _ _ (Nat.le_refl _), spl_prT]
   have := unes_valid _ _ (unes_esp (t :: ts))
   rw [List.map_cons] at this
   rw [this]
   exact h
  rw [if_pos ⟨rfl, hv⟩, spl_prT]
  exact unes_esp (t :: ts)
theorem prT_nil (l : List (List UInt8)) : prT l = [] ↔ l = [] := by
 cases l with
 | nil => simp [prT]
 | cons t ts => simp [prT_cons]
structure Place (v : V) (p : ByteArray) (ts : List ByteArray) : Prop where
 p : p.data.toList = prT (dat ts)
 u : (dat ts).all validD = true
 r : (rgW v ts).2 = 0
theorem dat_back (ts : List ByteArray) : (dat ts).map (fun t => (⟨t.toArray⟩ : ByteArray)) = ts := by
 rw [dat, List.map_map]
 conv => rhs; rw [← List.map_id ts]
 exact List.map_congr_left fun x _ => by simp
theorem toks_pr {p : ByteArray} {ts : List ByteArray} (hp : p.data.toList = prT (dat ts)) (hu : (dat ts).all validD = true) : parF p.data.toList = some (dat ts) ∧ toksOf p = ts := by
 have h : parF p.data.toList = some (dat ts) := by rw [hp]; exact par_pr _ hu
 refine ⟨h, ?_⟩
 rw [toksOf, h, Option.getD_some, dat_back]
theorem get_place {v : V} {p : ByteArray} {ts : List ByteArray} (hc : chkE v 40 = 0) (h : Place v p ts) : getF v p = ((rgW v ts).1, 0) := by
 obtain ⟨h1, h2⟩ := toks_pr h.p h.u
 rw [get_rg, rgetF, if_pos (rd_ok hc h1), h2]
 exact Prod.ext rfl h.r
theorem set_place {v : V} {p : ByteArray} {ts : List ByteArray} {x : V} (hc : chkE v 40 = 0) (hx : chkE x 40 = 0) (h : Place v p ts) (hw : chkE (updV v ts x) 40 = 0) : setF v p x = (updV v ts x, 0) := by
 obtain ⟨h1, h2⟩ := toks_pr h.p h.u
 have hr : rd2F v p x = 0 := by rw [rd2F, if_pos (rd_ok hc h1), hx]; rfl
 rw [setF, if_pos hr, h2, wk_const x ts v h.r]
 exact nwe_ok hw
theorem place_upd {v : V} {p : ByteArray} {ts : List ByteArray} (h : Place v p ts) (y : V) : Place (updV v ts y) p ts := ⟨h.p, h.u, by rw [rg_upd y ts v h.r]⟩
theorem place_apart {v : V} {p q : ByteArray} {ts us : List ByteArray} (h : Place v p ts) (k : Place v q us) (ha : Apart ts us) (y : V) : Place (updV v ts y) q us ∧ (rgW (updV v ts y) us).1 = (rgW v us).1 := by
 have e := rg_apart y ts us v h.r k.r ha
 exact ⟨⟨k.p, k.u, by rw [e]; exact k.r⟩, by rw [e]⟩
theorem snoc_p {p : ByteArray} {ts : List ByteArray} {t q : ByteArray} (hp : p.data.toList = prT (dat ts)) (hq : q.data.toList = p.data.toList ++ 47 :: esp t.data.toList) : q.data.toList = prT (dat (ts ++ [t])) := by
 have e : dat (ts ++ [t]) = dat ts ++ [t.data.toList] := by simp [dat]
 rw [e, prT_snoc, hq, hp]
 simp
theorem snoc_u {ts : List ByteArray} {t : ByteArray} (hu : (dat ts).all validD = true) (ht : validD t.data.toList = true) : (dat (ts ++ [t])).all validD = true := by
 have e : dat (ts ++ [t]) = dat ts ++ [t.data.toList] := by simp [dat]
 rw [e, List.all_append, hu]
 simp [ht]
theorem rg_snoc (t : ByteArray) : ∀ (ts : List ByteArray) (v : V), (rgW v ts).2 = 0 → rgW v (ts ++ [t]) = rgW (rgW v ts).1 [t]
 | [], v, _ => rfl
 | u :: ts, v, h => by
  obtain ⟨h0, h1, h2⟩ := rg_cons h
  rw [List.cons_append, rgW, if_pos h0, h2]
  exact rg_snoc t ts _ h1
theorem rg_one {v : V} {t : ByteArray} (h : (ledF v t).2 = 0) : rgW v [t] = (kid v (ledF v t).1, 0) := by rw [rgW, if_pos h, rgW]
theorem last_snoc (ts : List ByteArray) (t : ByteArray) : lastT (ts ++ [t]) = t := by simp [lastT]
theorem add_place {v : V} {p q : ByteArray} {ts : List ByteArray} {t : ByteArray} {x : V} (hc : chkE v 40 = 0) (hx : chkE x 40 = 0) (h : Place v p ts) (hq : q.data.toList = p.data.toList ++ 47 :: esp t.data.toList) (ht : validD t.data.toList = true) :
 addPF v q x = if (addF (rgW v ts).1 t x).2 = 0 then nweF (updV v ts (addF (rgW v ts).1 t x).1) 0 else (nullV, (addF (rgW v ts).1 t x).2) := by
 obtain ⟨h1, h2⟩ := toks_pr (snoc_p h.p hq) (snoc_u h.u ht)
 have hr : rd2F v q x = 0 := by rw [rd2F, if_pos (rd_ok hc h1), hx]; rfl
 have w := wk_at (fun w => addF w t x) ts v h.r
 rw [addPF, if_pos hr, h2, if_neg (by simp), last_snoc, List.dropLast_concat, w.1]
 by_cases e : (addF (rgW v ts).1 t x).2 = 0
 ·rw [if_pos e, w.2.1 e, e]
 ·rw [if_neg e, nweF, if_neg e]
theorem tak_place {v : V} {p q : ByteArray} {ts : List ByteArray} {t : ByteArray} (hc : chkE v 40 = 0) (h : Place v p ts) (hq : q.data.toList = p.data.toList ++ 47 :: esp t.data.toList) (ht : validD t.data.toList = true) (hl : (ledF (rgW v ts).1 t).2 = 0) :
 takF v q = (updV v ts (remV (rgW v ts).1 (ledF (rgW v ts).1 t).1), kid (rgW v ts).1 (ledF (rgW v ts).1 t).1, 0) := by
 obtain ⟨h1, h2⟩ := toks_pr (snoc_p h.p hq) (snoc_u h.u ht)
 have hr : rdF v q = 0 := rd_ok hc h1
 have hg : allG v := rd_allG hr
 have w := wk_at (takFn t) ts v h.r
 have e1 : (takFn t (rgW v ts).1) = (remV (rgW v ts).1 (ledF (rgW v ts).1 t).1, 0) := by rw [takFn, if_pos hl]
 rw [e1] at w
 have hj := led_kid hl
 have hg2 := all_rg ts v hg h.r
 have hck := (chk_iff v 40 (Nat.le_refl _)).1 hc
 have hrem : chkE (remV (rgW v ts).1 (ledF (rgW v ts).1 t).1) 40 = 0 := sub_chk (sub_rem hj) (chk40_of hg2 (by have := dp_rg ts v h.r; omega) (by have := nd_rg ts v h.r; omega) (by have := by_rg ts v h.r; omega))
 have hkk : chkE (kid (rgW v ts).1 (ledF (rgW v ts).1 t).1) 40 = 0 := chk_kid (chk40_of hg2 (by have := dp_rg ts v h.r; omega) (by have := nd_rg ts v h.r; omega) (by have := by_rg ts v h.r; omega)) hj
 have hrc := rem_cnt hj
 have hkp := nd_pos (kid (rgW v ts).1 (ledF (rgW v ts).1 t).1)
 have hgr := ((chk_iff _ 40 (Nat.le_refl _)).1 hrem).1
 have hu : chkE (updV v ts (remV (rgW v ts).1 (ledF (rgW v ts).1 t).1)) 40 = 0 := by
  have a1 := nd_upd (remV (rgW v ts).1 (ledF (rgW v ts).1 t).1) ts v h.r
  have a2 := by_upd (remV (rgW v ts).1 (ledF (rgW v ts).1 t).1) ts v h.r
  have a3 := dp_upd (remV (rgW v ts).1 (ledF (rgW v ts).1 t).1) ts v h.r
  have a4 := dp_rg ts v h.r
  exact chk40_of (all_upd hgr ts v hg h.r) (by omega) (by omega) (by omega)
 have ew : wasF t (some (rgW v ts).1) = kid (rgW v ts).1 (ledF (rgW v ts).1 t).1 := by
  show (if (ledF (rgW v ts).1 t).2 = 0 then kid (rgW v ts).1 (ledF (rgW v ts).1 t).1 else nullV) = _
  rw [if_pos hl]
 rw [takF, if_pos hr, h2, if_neg (by simp), last_snoc, List.dropLast_concat, w.1, w.2.1 rfl, w.2.2, nwe_ok hu, ew, cln_of hkk]
theorem chk_upd {v : V} {ts : List ByteArray} {y : V} {n c : Nat} (hg : allG v) (hd : dpV v ≤ 38) (h : (rgW v ts).2 = 0) (hy : allG y) (hdy : dpV y ≤ dpV (rgW v ts).1 + 1) (hn : ndV v + ndV y ≤ 65536 + ndV (rgW v ts).1) (hb : byV v + byV y ≤ 1048576 + byV (rgW v ts).1) : chkE (updV v ts y) 40 = 0 := by
 have a1 := nd_upd y ts v h
 have a2 := by_upd y ts v h
 have a3 := dp_upd y ts v h
 have a4 := dp_rg ts v h
 exact chk40_of (all_upd hy ts v hg h) (by omega) (by omega) (by omega)
structure Mv (v x : V) (key : ByteArray) : Prop where
 g : allG v
 d : dpV v ≤ 38
 n : ndV v ≤ 3000
 gx : allG x
 dx : dpV x = 0
 nx : ndV x = 1
 b : byV v + byV x + key.size ≤ 1000000
theorem nd_of_dp : ∀ {v : V}, dpV v = 0 → ndV v = 1
 | .mk k b i s l m, h => by
  rw [dpV] at h
  have h1 : l = [] := by
   cases l with
   | nil => rfl
   | cons x t => rw [dpL] at h; omega
  have h2 : m = [] := by
   cases m with
   | nil => rfl
   | cons x t => obtain ⟨k', x⟩ := x; rw [dpM] at h; omega
  rw [h1, h2, ndV, ndL, ndM]
theorem mv_of {v x : V} {key : ByteArray} (hv : chkE v 38 = 0) (hx : chkE x 0 = 0) (hn : ndV v ≤ 3000) (hb : byV v + byV x + key.size ≤ 1000000) : Mv v x key := by
 have a := (chk_iff v 38 (by omega)).1 hv
 have c := (chk_iff x 0 (by omega)).1 hx
 have hd : dpV x = 0 := by have := c.2.1; omega
 exact ⟨a.1, a.2.1, hn, c.1, hd, nd_of_dp hd, hb⟩
section
variable {v x : V} {key p : ByteArray} {ts : List ByteArray}
theorem Mv.cv (h : Mv v x key) : chkE v 40 = 0 := chk40_of h.g (by have := h.d; omega) (by have := h.n; omega) (by have := h.b; omega)
theorem Mv.cx (h : Mv v x key) : chkE x 40 = 0 := chk40_of h.gx (by have := h.dx; omega) (by have := h.nx; omega) (by have := h.b; omega)
theorem Mv.co (h : Mv v x key) (hp : Place v p ts) : chkE (rgW v ts).1 40 = 0 :=
 chk40_of (all_rg ts v h.g hp.r) (by have := dp_rg ts v hp.r; have := h.d; omega) (by have := nd_rg ts v hp.r; have := h.n; omega) (by have := by_rg ts v hp.r; have := h.b; omega)
theorem Mv.cu (h : Mv v x key) (hp : Place v p ts) : chkE (updV v ts x) 40 = 0 :=
 chk_upd (n := 0) (c := 0) h.g h.d hp.r h.gx (by have := h.dx; omega) (by have := h.nx; have := h.n; omega) (by have := h.b; omega)
theorem mv_set (h : Mv v x key) (hp : Place v p ts) : getF v p = ((rgW v ts).1, 0) ∧ setF v p x = (updV v ts x, 0) ∧ getF (updV v ts x) p = (x, 0) ∧ setF (updV v ts x) p (rgW v ts).1 = (v, 0) := by
 have e := upd_upd x (rgW v ts).1 ts v hp.r
 rw [upd_self ts v hp.r] at e
 refine ⟨get_place h.cv hp, set_place h.cv h.cx hp (h.cu hp), ?_, ?_⟩
 ·rw [get_place (h.cu hp) (place_upd hp x), rg_upd x ts v hp.r]
 ·rw [set_place (h.cu hp) (h.co hp) (place_upd hp x) (by rw [e]; exact h.cv), e]
theorem mv_other (h : Mv v x key) (hp : Place v p ts) {q : ByteArray} {us : List ByteArray} (hq : Place v q us) (ha : Apart ts us) : getF v q = ((rgW v us).1, 0) ∧ getF (updV v ts x) q = ((rgW v us).1, 0) := by
 obtain ⟨k1, k2⟩ := place_apart hp hq ha x
 exact ⟨get_place h.cv hq, by rw [get_place (h.cu hp) k1, k2]⟩
theorem mv_ins (h : Mv v x key) (hp : Place v p ts) {b : Bool} {i : Int} {s : ByteArray} {l : List V} {m : List Mem} (ho : (rgW v ts).1 = .mk 4 b i s l m) (j : Nat) : chkE (updV v ts (.mk 4 b i s (insL l j x) m)) 40 = 0 := by
 have hgo := all_rg ts v h.g hp.r
 rw [ho] at hgo
 obtain ⟨a1, a2, a3⟩ := ins_list l j x
 have e1 : ndV (.mk 4 b i s (insL l j x) m) = ndV (rgW v ts).1 + 1 := by rw [ho, ndV, ndV, a1, h.nx]; omega
 have e2 : byV (.mk 4 b i s (insL l j x) m) = byV (rgW v ts).1 + byV x := by rw [ho, byV, byV, a2]; omega
 have e3 : dpV (.mk 4 b i s (insL l j x) m) ≤ dpV (rgW v ts).1 + 1 := by rw [ho, dpV, dpV, a3, h.dx]; omega
 exact chk_upd (n := 0) (c := 0) h.g h.d hp.r (all_insL hgo h.gx j) e3 (by have := h.n; omega) (by have := h.b; omega)
theorem mv_add (h : Mv v x key) (hp : Place v p ts) {q t : ByteArray} {j : Nat} {b : Bool} {i : Int} {s : ByteArray} {l : List V} {m : List Mem} (ho : (rgW v ts).1 = .mk 4 b i s l m) (hq : q.data.toList = p.data.toList ++ 47 :: esp t.data.toList) (ht : validD t.data.toList = true) (hg : gapF t l.length = some j) :
 addPF v q x = (updV v ts (.mk 4 b i s (insL l j x) m), 0) ∧ getF (updV v ts (.mk 4 b i s (insL l j x) m)) p = (.mk 4 b i s (insL l j x) m, 0) := by
 have e : addF (rgW v ts).1 t x = (.mk 4 b i s (insL l j x) m, 0) := by
  rw [ho, addF, if_neg (by decide), if_pos rfl, hg]
  rfl
 have hc := mv_ins h hp ho j
 refine ⟨?_, ?_⟩
 ·rw [add_place h.cv h.cx hp hq ht, e, if_pos rfl, nwe_ok hc]
 ·rw [get_place hc (place_upd hp _), rg_upd _ ts v hp.r]
end
theorem valid_ascii : ∀ l : List UInt8, (∀ c ∈ l, c.toNat < 128) → validD l = true
 | [], _ => by kernel_rfl
 | x :: t, h => by
  rw [validD_cons x t (h x (List.mem_cons_self ..))]
  exact valid_ascii t (fun c hc => h c (List.mem_cons_of_mem _ hc))
theorem esp_plain : ∀ l : List UInt8, (∀ c ∈ l, c ≠ 126 ∧ c ≠ 47) → esp l = l
 | [], _ => rfl
 | x :: t, h => by
  have h0 := h x (List.mem_cons_self ..)
  rw [esp, if_neg h0.1, if_neg h0.2, esp_plain t (fun c hc => h c (List.mem_cons_of_mem _ hc))]
  rfl
end Go.Proofs.YtgnofbigggmilaaGreatDoor
