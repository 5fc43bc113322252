/- joined: NdX LwxP -/
import Derived.Test.YtjfldbmopjojdaaDoorDifR
set_option linter.unusedSimpArgs false
set_option linter.unusedVariables false
namespace Go.Proofs.YtjfldbmopjojdaaDoor
open Go Go.RowKit Go.Lib Go.Shelf
set_option maxHeartbeats 8000000 in
set_option maxRecDepth 100000 in
theorem nodes_ok (R : Bool) (v : V) (hok : Ok v) (S : Nat → Prop) (cs : List Value) (w : World) (t : Tb w) (hl : v.lies R w S cs) (hS : ∀ b, S b → b < w.heap.size) (hwt : v.wt ≤ 1099511627776) :
 Calls Tryd.prog 23 #[.agg cs.toArray] w (NPost (ndV v) w) := by
 obtain ⟨k, b, i, s, al, nl, cl, am, nm, cm, rfl⟩ := V.ten hl
 have ga : w.grownBy ((w.alloc (.cells #[.int .i64 k, .bool b, .int .i64 i, .string s, .slice al nl cl, .slice am nm cm] 25)).alloc (.cells #[.int .i64 40, .int .i64 0, .int .i64 0, .int .i64 0] 65)) none := grown_alloc (World.grownBy_alloc _ _ _) _
 have hk : ∀ x, S x → ((w.alloc (.cells #[.int .i64 k, .bool b, .int .i64 i, .string s, .slice al nl cl, .slice am nm cm] 25)).alloc (.cells #[.int .i64 40, .int .i64 0, .int .i64 0, .int .i64 0] 65)).heap[x]? = w.heap[x]? := fun x hx => ga.block x (hS x hx) (by simp)
 have c := visit_wide v R (w.heap.size + 1) 40 0 (0, 0, 0) S _ _ (t.grown ga (fun r e => by cases e)) (V.lies_keep (fun h => h) hk (fun _ h => h) _ hl) (fun x hx => ⟨by have := hS x hx; omega, Nat.lt_of_lt_of_le (hS x hx) ga.size⟩) ⟨alloc2_new w _ _⟩ (by have := t.z; omega) (by omega) ⟨by simp, by simp, by simp⟩ (by omega) (by omega)
 have ho := hok.ok
 have h0 : (chkV 40 v 0 (0, 0, 0)).1 = 0 := of_decide_eq_true ho
 have hn : (chkV 40 v 0 (0, 0, 0)).2.1 = ndV v := by have := (cntV 40 v 0 (0, 0, 0) h0).1; omega
 clear ho
 have HN := hmk hn
 clear hn
 generalize chkV 40 v 0 (0, 0, 0) = z at *
 obtain ⟨z1, z2, z3, z4⟩ := z
 simp only at HN h0 c
 go_enter Tryd.func23, Tryd.ntmps23
 go_wp2_with fail
 refine c.mono ?_
 rintro e w1 ⟨rfl, h1, g1⟩
 have h2 := h1.b
 have d1 : w1.cell? ⟨w.heap.size + 1, 1, none⟩ = some (.int .i64 (z2 : Int)) := by rw [cell_of_block h2]; rfl
 have y1 : ((z1 : Nat) : Int) = 0 := by omega
 clear h1 h2
 go_wp2_with fail
 go_ret
 rw [← HN.out]
 exact ⟨rfl, (below_of_grown ga).grown g1 ga.size (fun r e => by cases e; omega)⟩
theorem emp_lies (W : World) (S : Nat → Prop) : (mapV []).lies false W S [.int .i64 5, .bool false, .int .i64 0, .string ⟨#[]⟩, .slice none 0 0, .slice none 0 0] :=
 lies_S (by constructor <;> omega) (by constructor <;> omega) (by decide) headed_nil headed_nil (by rw [liesL]; trivial) (by rw [liesM]; trivial)
end Go.Proofs.YtjfldbmopjojdaaDoor
namespace Go.Proofs.YtjfldbmopjojdaaDoor
open Go Go.RowKit Go.Lib Go.Shelf
theorem both_zero {a b : V} (ha : chkE a 32 = 0) (hb : chkE b 32 = 0) : bothE a b = 0 := by rw [bothE, if_pos ha]; exact hb
theorem dff_some {a b d : V} (ha : chkE a 32 = 0) (hb : chkE b 32 = 0) (h : btwV 41 a b = some d) (hd : chkE d 32 = 0) : dffF a b = (d, true, 0) := by
 have e : dffF a b = ((finF d).1, ((finF d).2 == 0), (finF d).2) := by rw [dffF, if_pos (both_zero ha hb), h]
 rw [e, finF, if_pos hd]
 rfl
theorem dff_none {a b : V} (ha : chkE a 32 = 0) (hb : chkE b 32 = 0) (h : btwV 41 a b = none) : dffF a b = (nullV, false, 0) := by
 rw [dffF, if_pos (both_zero ha hb), h]
theorem dff_bad {a b : V} (h : ¬ bothE a b = 0) : dffF a b = (nullV, false, (bothE a b : Int)) := by rw [dffF, if_neg h]
theorem dff_cases {a b : V} (ha : chkE a 32 = 0) (hb : chkE b 32 = 0) :
 (∃ p, dffF a b = (p, true, 0) ∧ chkE p 32 = 0 ∧ pchV a p = b) ∨ dffF a b = (nullV, false, 0) ∨ dffF a b = (nullV, false, 22) ∨ dffF a b = (nullV, false, 23) := by
 have ca := (chk32 a).1 ha
 have cb := (chk32 b).1 hb
 cases h : btwV 41 a b with
 | none => exact .inr (.inl (dff_none ha hb h))
 | some p =>
  have L := led_val ca.1 cb.1 h
  by_cases hp : chkE p 32 = 0
  ·exact .inl ⟨p, dff_some ha hb h hp, hp, L.1⟩
  ·have hc : C3 (chkE p 32) := by
    have := codV 32 p 0 (0, 0, 0) L.2.1 (by have := L.2.2; omega)
    rw [chkE, if_neg (by omega)]
    exact this
   have e : dffF a b = (nullV, false, (chkE p 32 : Int)) := by
    have e : dffF a b = ((finF p).1, ((finF p).2 == 0), (finF p).2) := by rw [dffF, if_pos (both_zero ha hb), h]
    rw [e, finF, if_neg hp]
    have : ((chkE p 32 : Int) == 0) = false := by rw [beq_eq_false_iff_ne]; omega
    show (nullV, ((chkE p 32 : Int) == 0), (chkE p 32 : Int)) = _
    rw [this]
   rcases hc with h0 | h0 | h0
   ·exact absurd h0 hp
   ·rw [h0] at e; exact .inr (.inr (.inl e))
   ·rw [h0] at e; exact .inr (.inr (.inr e))
theorem emp_chk : chkE (mapV []) 32 = 0 := by kernel_rfl
theorem cln_idem {v : V} (h : chkE v 32 = 0) : pchV nullV (pchV nullV v) = pchV nullV v := by
 have cv := (chk32 v).1 h
 have g := pch_good nullV v null_good cv.1
 by_cases h0 : kindOf v = 0
 ·rw [pch_flat (x := v) (by omega), pch_flat (x := v) (by omega)]
 ·exact cln_pch _ g (pch_clean v cv.1 h0 nullV (by decide)) nullV (.inl (by decide))
theorem dff_null {v : V} (h : chkE v 32 = 0) : ∃ x, dffF nullV v = (x, (kindOf v == 0 || clnB v), 0) := by
 have e : btwV 41 nullV v = if kindOf v = 0 then some v else if clnB v = true then some v else none := by
  rw [btwV, if_neg (fun h => absurd h.1 (by decide))]
 by_cases h0 : kindOf v = 0
 ·rw [if_pos h0] at e
  refine ⟨v, ?_⟩
  rw [dff_some chk_null h e h, h0]
  rfl
 ·rw [if_neg h0] at e
  have h0' : (kindOf v == 0) = false := beq_eq_false_iff_ne.2 h0
  cases hc : clnB v with
  | true => rw [if_pos hc] at e; exact ⟨v, by rw [dff_some chk_null h e h, h0']; rfl⟩
  | false => rw [if_neg (by rw [hc]; simp)] at e; exact ⟨nullV, by rw [dff_none chk_null h e, h0']; rfl⟩
theorem stDs_right (f : List Mem → List Mem → Option (List Mem)) : ∀ m : List Mem, stDs f (tgR (bare []) (bare m)) = if clnM m = true then some m else none
 | [] => by rw [clnM, if_pos rfl]; show stDs f (tgR [] []) = _; rw [tgR, stDs]
 | (k, x) :: t => by
  rw [tg_r (a := []) (fun y hy => by cases hy), stDs, stD_B, stDs_right f t, clnM]
  cases clnB x <;> cases clnM t <;> rfl
theorem dff_emp {v : V} (h : chkE v 32 = 0) : ∃ x, dffF (mapV []) v = (x, (kindOf v == 0 || clnB v), 0) := by
 have cv := (chk32 v).1 h
 by_cases h5 : kindOf v = 5
 ·have e : btwV 41 (mapV []) v = if clnM (memsOf v) = true then some v else none := by
   rw [btwV, if_pos ⟨rfl, h5⟩, btwM]
   show Option.map mapV (stDs (btwM 40) (tgR (bare []) (bare (memsOf v)))) = _
   rw [stDs_right]
   by_cases hc : clnM (memsOf v) = true
   ·rw [if_pos hc, if_pos hc, Option.map_some, ← map_is cv.1 h5]
   ·rw [if_neg hc, if_neg hc]; rfl
  have hb : (kindOf v == 0 || clnB v) = clnM (memsOf v) := by
   obtain ⟨k, b, i, s, l, m⟩ := v
   obtain rfl : k = 5 := h5
   rw [clnB]
   show ((5 : Int) == 0 || (!((5 : Int) == 0) && clnM m)) = clnM m
   simp
  rw [hb]
  cases hc : clnM (memsOf v) with
  | true => rw [if_pos hc] at e; exact ⟨v, dff_some emp_chk h e h⟩
  | false => rw [if_neg (by rw [hc]; simp)] at e; exact ⟨nullV, dff_none emp_chk h e⟩
 ·have e : btwV 41 (mapV []) v = if kindOf v = 0 then some v else if clnB v = true then some v else none := by
   rw [btwV, if_neg (fun h => absurd h.2 h5)]
  by_cases h0 : kindOf v = 0
  ·rw [if_pos h0] at e
   refine ⟨v, ?_⟩
   rw [dff_some emp_chk h e h, h0]
   rfl
  ·rw [if_neg h0] at e
   have h0' : (kindOf v == 0) = false := beq_eq_false_iff_ne.2 h0
   cases hc : clnB v with
   | true => rw [if_pos hc] at e; exact ⟨v, by rw [dff_some emp_chk h e h, h0']; rfl⟩
   | false => rw [if_neg (by rw [hc]; simp)] at e; exact ⟨nullV, by rw [dff_none emp_chk h e, h0']; rfl⟩
theorem eqB_eq {v u : V} (hv : allG v) (hu : allG u) (h : V.eqB v u = true) : v = u := by
 have : ∀ v u : V, V.eqB v u = true → v = u := by
  intro v
  refine V.ind_v (P := fun v => ∀ u, V.eqB v u = true → v = u) ?_ v
  intro k b i s l m hl hm u h
  obtain ⟨k', b', i', s', l', m'⟩ := u
  rw [V.eqB] at h
  simp only [Bool.and_eq_true, decide_eq_true_iff, beq_iff_eq] at h
  have eL : ∀ (l l' : List V), (∀ x ∈ l, ∀ u, V.eqB x u = true → x = u) → l.length = l'.length → eqL l l' = true → l = l' := by
   intro l
   induction l with
   | nil => intro l' _ hn h; exact (List.length_eq_zero_iff.1 hn.symm).symm
   | cons x t ih => intro l' hx hn h; cases l' with
    | nil => cases hn
    | cons y u =>
     rw [eqL, Bool.and_eq_true] at h
     rw [hx x (List.mem_cons_self ..) y h.1, ih u (fun z hz => hx z (List.mem_cons_of_mem _ hz)) (by simpa using hn) h.2]
  have eM : ∀ (l l' : List Mem), (∀ x ∈ l, ∀ u, V.eqB x.2 u = true → x.2 = u) → l.length = l'.length → eqM l l' = true → l = l' := by
   intro l
   induction l with
   | nil => intro l' _ hn h; exact (List.length_eq_zero_iff.1 hn.symm).symm
   | cons x t ih => intro l' hx hn h; obtain ⟨kx, x⟩ := x; cases l' with
    | nil => cases hn
    | cons y u =>
     obtain ⟨ky, y⟩ := y
     rw [eqM, Bool.and_eq_true, Bool.and_eq_true, beq_iff_eq] at h
     have e1 : x = y := hx (kx, x) (List.mem_cons_self ..) y h.1.2
     rw [key_eq h.1.1, e1, ih u (fun z hz => hx z (List.mem_cons_of_mem _ hz)) (by simpa using hn) h.2]
  obtain ⟨⟨⟨⟨⟨⟨⟨h1, h2⟩, h3⟩, h4⟩, h5⟩, h6⟩, h7⟩, h8⟩ := h
  rw [h1, h2, h3, key_eq h4, eL l l' hl h5 h7, eM m m' hm h6 h8]
 exact this v u h
theorem cln_iff {v : V} (h : chkE v 32 = 0) (h5 : kindOf v = 5) : (kindOf v == 0 || clnB v) = V.eqB (pchV nullV v) v := by
 have cv := (chk32 v).1 h
 have g := pch_good nullV v null_good cv.1
 have h0 : (kindOf v == 0) = false := by rw [h5]; rfl
 rw [h0, Bool.false_or]
 cases hc : clnB v with
 | true =>
  rw [cln_pch v cv.1 hc nullV (.inl (by decide)), V.eqB_refl]
 | false =>
  symm
  rw [Bool.eq_false_iff]
  intro he
  have e := eqB_eq g cv.1 he
  have := pch_clean v cv.1 (by omega) nullV (by decide)
  rw [e, hc] at this
  cases this
theorem cln_other {v : V} (h : chkE v 32 = 0) (h5 : ¬ kindOf v = 5) : (kindOf v == 0 || clnB v) = true := by
 have cv := (chk32 v).1 h
 by_cases h0 : kindOf v = 0
 ·rw [h0]; rfl
 ·rw [cln_flat cv.1 h5 h0, Bool.or_true]
end Go.Proofs.YtjfldbmopjojdaaDoor
