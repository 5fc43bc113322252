import Derived.Test.YtjfldbmopjojdabDoorG30
set_option linter.unusedSimpArgs false
set_option linter.unusedVariables false
namespace Go.Proofs.YtjfldbmopjojdabDoor
open Go Go.RowKit Go.Lib Go.Shelf
def ldS (o : Option V) (x : V) : Bool := match o with
 | none => clnB x
 | some y => eqlV y x || (ldV y x && !(kindOf x == 0))
theorem ldM_cons (o : List Mem) (k : ByteArray) (x : V) (t : List Mem) : ldM o ((k, x) :: t) = (ldS (lk o k) x && ldM o t) := by
 rw [ldM, has_lk, get_lk]
 cases lk o k with
 | none => rfl
 | some y => rfl
theorem ldM_same {o o' : List Mem} : ∀ {b : List Mem}, (∀ y ∈ b, lk o y.1 = lk o' y.1) → ldM o b = ldM o' b
 | [], _ => by rw [ldM, ldM]
 | (k, x) :: t, h => by
  rw [ldM_cons, ldM_cons, h (k, x) (List.mem_cons_self ..), ldM_same fun y hy => h y (List.mem_cons_of_mem _ hy)]
theorem ldV_flat {a b : V} (h : ¬ kindOf b = 5) : ldV a b = true := by
 obtain ⟨k, x, i, s, l, m⟩ := b
 rw [ldV, if_neg (show ¬ k = 5 from h)]
theorem ldV_map {a b : V} (ha : kindOf a = 5) (hb : kindOf b = 5) : ldV a b = ldM (memsOf a) (memsOf b) := by
 obtain ⟨k, x, i, s, l, m⟩ := b
 rw [ldV, if_pos (show k = 5 from hb), if_pos ha]
 rfl
theorem ldV_new {a b : V} (ha : ¬ kindOf a = 5) (hb : kindOf b = 5) : ldV a b = clnB b := by
 obtain ⟨k, x, i, s, l, m⟩ := b
 rw [ldV, if_pos (show k = 5 from hb), if_neg ha]
theorem bwV_flat {a b : V} (h : ¬ (kindOf a = 5 ∧ kindOf b = 5)) : bwV a b = b := by
 obtain ⟨k, x, i, s, l, m⟩ := b
 rw [bwV, if_neg (show ¬ (kindOf a = 5 ∧ k = 5) from h)]
theorem bwV_map {a b : V} (h : kindOf a = 5 ∧ kindOf b = 5) : bwV a b = mapV (bwM (memsOf a) (memsOf b) (nulM (memsOf a) (memsOf b) [])) := by
 obtain ⟨k, x, i, s, l, m⟩ := b
 rw [bwV, if_pos (show kindOf a = 5 ∧ k = 5 from h)]
 rfl
theorem st_some (f : List Mem → List Mem → Option (List Mem)) (P : V → Prop) (hf : ∀ v u, P v → Ok u → kindOf v = 5 → kindOf u = 5 → (f (memsOf v) (memsOf u)).isSome = ldM (memsOf v) (memsOf u)) (hP : ∀ v, P v → Ok v) :
 ∀ a b, Srt a → Srt b → GM a → GM b → (∀ y ∈ a, P y.2) → (∀ y ∈ b, Ok y.2) → (stDs f (tgR (bare a) (bare b))).isSome = ldM a b := by
 refine two_ind ?_ ?_ ?_ ?_
 ·intro _ _ _ _
  rw [ldM]
  show (stDs f (tgR [] [])).isSome = true
  rw [tgR, stDs]
  rfl
 ·intro k x a b sa sb ka kb ih ga gb ha hb
  rw [tg_l kb, stDs, stD_A]
  have ih := ih (gm_tail ga).1 gb (fun y hy => ha y (List.mem_cons_of_mem _ hy)) hb
  rw [ldM_same (o' := a) fun y hy => lk_no (fun e => lt_ne (kb y hy) e), ← ih]
  cases stDs f (tgR (bare a) (bare b)) <;> rfl
 ·intro k x a b sa sb ka kb ih ga gb ha hb
  rw [tg_r ka, stDs, stD_B, ldM_cons, lk_lt ka]
  have ih := ih ga (gm_tail gb).1 ha (fun y hy => hb y (List.mem_cons_of_mem _ hy))
  rw [← ih]
  show _ = (clnB x && _)
  cases clnB x <;> cases stDs f (tgR (bare a) (bare b)) <;> rfl
 ·intro k x z a b sa sb ka kb ih ga gb ha hb
  have g1 := gm_tail ga
  have g2 := gm_tail gb
  rw [tg_e, stDs, stD_E, ldM_cons, lk_hit rfl]
  have ih := ih g1.1 g2.1 (fun y hy => ha y (List.mem_cons_of_mem _ hy)) (fun y hy => hb y (List.mem_cons_of_mem _ hy))
  rw [ldM_same (o' := a) fun y hy => lk_no (fun e => lt_ne (kb y hy) e), ← ih]
  have px : P x := ha (k, x) (List.mem_cons_self ..)
  have ox : Ok x := hP x px
  have oz : Ok z := hb (k, z) (List.mem_cons_self ..)
  have key : ldS (some x) z = (if kindOf x = 5 ∧ kindOf z = 5 then (match f (memsOf x) (memsOf z) with | none => none | some [] => some [] | some (y :: t) => some [(k, mapV (y :: t))]) else if eqlV x z = true then some [] else if clnB z = true then some [(k, z)] else none).isSome := by
   show (eqlV x z || (ldV x z && !(kindOf z == 0))) = _
   by_cases h5 : kindOf x = 5 ∧ kindOf z = 5
   ·rw [if_pos h5]
    have h1 := hf x z px oz h5.1 h5.2
    have h2 : (match f (memsOf x) (memsOf z) with | none => none | some [] => some [] | some (y :: t) => some [(k, mapV (y :: t))]).isSome = (f (memsOf x) (memsOf z)).isSome := by
     cases f (memsOf x) (memsOf z) with
     | none => rfl
     | some l => cases l <;> rfl
    rw [h2, h1, ldV_map h5.1 h5.2]
    have h0 : (kindOf z == 0) = false := by rw [h5.2]; rfl
    rw [h0, Bool.not_false, Bool.and_true]
    cases he : eqlV x z with
    | false => rw [Bool.false_or]
    | true =>
     have e := eql_same g1.2.1 g2.2.1 he
     subst e
     rw [Bool.true_or]
     symm
     have : ∀ (o m : List Mem), (∀ y ∈ m, lk o y.1 = some y.2) → (∀ y ∈ m, Ok y.2) → ldM o m = true := by
      intro o m
      induction m with
      | nil => intro _ _; rw [ldM]
      | cons y t ih =>
       intro h1 h2
       obtain ⟨ky, y⟩ := y
       rw [ldM_cons, h1 (ky, y) (List.mem_cons_self ..), ih (fun z hz => h1 z (List.mem_cons_of_mem _ hz)) (fun z hz => h2 z (List.mem_cons_of_mem _ hz))]
       show ((eqlV y y || _) && true) = true
       rw [eql_refl (h2 (ky, y) (List.mem_cons_self ..))]
       rfl
     refine this _ _ ?_ ?_
     ·have hs := (gm_mems g1.2.1).s
      generalize memsOf x = m at hs
      intro y hy
      induction m with
      | nil => cases hy
      | cons z t ih =>
       obtain ⟨kz, z⟩ := z
       obtain ⟨s1, l1⟩ := srt_tail hs
       rcases List.mem_cons.1 hy with rfl | hy
       ·exact lk_hit rfl
       ·rw [lk_no (fun e => lt_ne (l1 y hy) e)]
        exact ih s1 hy
     ·intro y hy
      obtain ⟨vk, vb, vi, vs, vl, vm⟩ := x
      exact ox.mem hy
   ·rw [if_neg h5]
    by_cases he : eqlV x z = true
    ·rw [if_pos he, he]; rfl
    ·rw [if_neg he]
     have he' : eqlV x z = false := by simpa using he
     rw [he', Bool.false_or]
     by_cases hz : kindOf z = 5
     ·rw [ldV_new (fun h => h5 ⟨h, hz⟩) hz]
      have h0 : (kindOf z == 0) = false := by rw [hz]; rfl
      rw [h0, Bool.not_false, Bool.and_true]
      cases clnB z <;> rfl
     ·rw [ldV_flat hz, Bool.true_and]
      by_cases h0 : kindOf z = 0
      ·have : clnB z = false := by
        rw [Bool.eq_false_iff]
        intro h
        exact cln_kind h h0
       rw [this, h0]; rfl
      ·rw [cln_flat g2.2.1 hz h0, beq_eq_false_iff_ne.2 h0]; rfl
  rw [key]
  generalize (if kindOf x = 5 ∧ kindOf z = 5 then (match f (memsOf x) (memsOf z) with | none => none | some [] => some [] | some (y :: t) => some [(k, mapV (y :: t))]) else if eqlV x z = true then some [] else if clnB z = true then some [(k, z)] else none : Option (List Mem)) = Q
  cases Q with
  | none => rfl
  | some q => cases stDs f (tgR (bare a) (bare b)) <;> rfl
theorem some_btw : ∀ (n : Nat) (a b : List Mem), GM a → GM b → (∀ y ∈ a, Ok y.2 ∧ dpV y.2 < n) → (∀ y ∈ b, Ok y.2) → (stDs (btwM n) (tgR (bare a) (bare b))).isSome = ldM a b
 | 0, a, b, ga, gb, ha, hb => st_some (btwM 0) (fun v => Ok v ∧ dpV v < 0) (fun v u h _ _ _ => absurd h.2 (Nat.not_lt_zero _)) (fun v h => h.1) a b ga.s gb.s ga gb ha hb
 | n + 1, a, b, ga, gb, ha, hb => by
  refine st_some (btwM (n + 1)) (fun v => Ok v ∧ dpV v < n + 1) ?_ (fun v h => h.1) a b ga.s gb.s ga gb ha hb
  intro v u hv hu _ _
  rw [btwM]
  refine some_btw n _ _ (gm_mems hv.1.g) (gm_mems hu.g) ?_ ?_
  ·intro y hy
   obtain ⟨vk, vb, vi, vs, vl, vm⟩ := v
   have := memNd (m := vm) hy
   have h2 := hv.2
   rw [dpV] at h2
   exact ⟨hv.1.mem hy, by omega⟩
  ·intro y hy
   obtain ⟨vk, vb, vi, vs, vl, vm⟩ := u
   exact hu.mem hy
theorem st_find {f : List Mem → List Mem → Option (List Mem)} : ∀ a b, Srt a → Srt b → ∀ ms, stDs f (tgR (bare a) (bare b)) = some ms → ∀ key x z, lk a key = some x → lk b key = some z → kindOf x = 5 ∧ kindOf z = 5 → ¬ f (memsOf x) (memsOf z) = none := by
 refine two_ind ?_ ?_ ?_ ?_
 ·intro ms h key x z ha; cases ha
 ·intro k x a b sa sb ka kb ih ms h key u v hu hv h5
  rw [tg_l kb] at h
  obtain ⟨r, t, hr, ht, rfl⟩ := stDs_cons h
  by_cases hk : k.toList = key.toList
  ·rw [← key_eq hk, lk_lt kb] at hv; cases hv
  ·rw [lk_no hk] at hu; exact ih t ht key u v hu hv h5
 ·intro k x a b sa sb ka kb ih ms h key u v hu hv h5
  rw [tg_r ka] at h
  obtain ⟨r, t, hr, ht, rfl⟩ := stDs_cons h
  by_cases hk : k.toList = key.toList
  ·rw [← key_eq hk, lk_lt ka] at hu; cases hu
  ·rw [lk_no hk] at hv; exact ih t ht key u v hu hv h5
 ·intro k x z a b sa sb ka kb ih ms h key u v hu hv h5
  rw [tg_e] at h
  obtain ⟨r, t, hr, ht, rfl⟩ := stDs_cons h
  by_cases hk : k.toList = key.toList
  ·rw [lk_hit hk] at hu hv
   cases hu
   cases hv
   rw [stD_E, if_pos h5] at hr
   intro e
   rw [e] at hr
   cases hr
  ·rw [lk_no hk] at hu hv; exact ih t ht key u v hu hv h5
theorem lk_P {P : V → Prop} {l : List Mem} (h : ∀ y ∈ l, P y.2) {k : ByteArray} {x : V} (e : lk l k = some x) : P x := by
 obtain ⟨y, hy, rfl⟩ := lk_mem e
 exact h y hy
theorem self_nil : ∀ (n : Nat) (m l : List Mem), GM m → (∀ y ∈ m, Ok y.2) → btwM n m m = some l → l = []
 | 0, m, l, _, _, h => by rw [btwM] at h; cases h
 | n + 1, m, l, gm, om, h => by
  rw [btwM] at h
  have hl : ∀ key, lk l key = none := fun key => by
   rw [lk_st (btwM n) m m gm.s gm.s l h key]
   cases hx : lk m key with
   | none => rfl
   | some x =>
    have gx : allG x := lk_P gm.g hx
    have ox : Ok x := lk_P om hx
    show (if kindOf x = 5 ∧ kindOf x = 5 then _ else _) = _
    by_cases h5 : kindOf x = 5 ∧ kindOf x = 5
    ·rw [if_pos h5]
     cases hq : btwM n (memsOf x) (memsOf x) with
     | none => rfl
     | some q =>
      have := self_nil n _ _ (gm_mems gx) (fun y hy => by
       obtain ⟨vk, vb, vi, vs, vl, vm⟩ := x
       exact ox.mem hy) hq
      rw [this]
    ·rw [if_neg h5, if_pos (eql_refl ox)]
  cases l with
  | nil => rfl
  | cons y t =>
   obtain ⟨k, x⟩ := y
   have := hl k
   rw [lk_hit rfl] at this
   cases this
theorem btw_doc : ∀ (n : Nat) (a b ms : List Mem), GM a → GM b → (∀ y ∈ a, Ok y.2) → (∀ y ∈ b, Ok y.2) → btwM n a b = some ms → ms = bwM a b (nulM a b [])
 | 0, a, b, ms, _, _, _, _, h => by rw [btwM] at h; cases h
 | n + 1, a, b, ms, ga, gb, oa, ob, h => by
  have L := led_btw (n + 1) a b ms ga gb h
  rw [btwM] at h
  refine srt_ext _ _ L.g.s (bw_srt b a _ (nul_srt a b [] List.Pairwise.nil)) fun key => ?_
  rw [lk_st (btwM n) a b ga.s gb.s ms h key, lk_bw b a _ key gb.s, lk_nul, has_lk]
  cases ha : lk a key with
  | none =>
   cases hb : lk b key with
   | none => rfl
   | some z => rfl
  | some x =>
   cases hb : lk b key with
   | none => rfl
   | some z =>
    have gx : allG x := lk_P ga.g ha
    have gz : allG z := lk_P gb.g hb
    have ox : Ok x := lk_P oa ha
    have oz : Ok z := lk_P ob hb
    show sk (btwM n) (some x) (some z) = if eqlV x z = true then (if (some x).isSome = true ∧ (some z).isSome = false then some nullV else lk [] key) else some (bwV x z)
    rw [if_neg (show ¬ ((some x).isSome = true ∧ (some z).isSome = false) from fun h => by cases h.2)]
    show (if kindOf x = 5 ∧ kindOf z = 5 then _ else _) = _
    by_cases h5 : kindOf x = 5 ∧ kindOf z = 5
    ·rw [if_pos h5]
     cases hq : btwM n (memsOf x) (memsOf z) with
     | none =>
      have : lk ms key = none := by rw [lk_st (btwM n) a b ga.s gb.s ms h key, ha, hb, sk, if_pos h5, hq]
      exfalso
      exact st_find a b ga.s gb.s ms h key x z ha hb h5 hq
     | some l =>
      have e := btw_doc n _ _ _ (gm_mems gx) (gm_mems gz) (fun y hy => by
       obtain ⟨vk, vb, vi, vs, vl, vm⟩ := x
       exact ox.mem hy) (fun y hy => by
       obtain ⟨vk, vb, vi, vs, vl, vm⟩ := z
       exact oz.mem hy) hq
      have M := led_btw n _ _ _ (gm_mems gx) (gm_mems gz) hq
      cases l with
      | nil =>
       have e2 : x = z := by
        have := M.m
        rw [mrgM] at this
        rw [map_is gx h5.1, map_is gz h5.2, this]
       subst e2
       rw [if_pos (eql_refl ox)]
       rfl
      | cons u t =>
       rw [if_neg]
       ·show some (mapV (u :: t)) = _
        rw [bwV_map h5, ← e]
       ·intro he
        have e2 := eql_same gx gz he
        subst e2
        have := self_nil n _ _ (gm_mems gx) (fun y hy => by
         obtain ⟨vk, vb, vi, vs, vl, vm⟩ := x
         exact ox.mem hy) hq
        cases this
    ·rw [if_neg h5, bwV_flat h5]
     split <;> rfl
end Go.Proofs.YtjfldbmopjojdabDoor
