import Derived.Test.YtjfldbmopjojdaaDoorG15
set_option linter.unusedSimpArgs false
set_option linter.unusedVariables false
namespace Go.Proofs.YtjfldbmopjojdaaDoor
open Go Go.RowKit Go.Lib Go.Shelf
structure PrG (m : List Mem) (w : World) (S : Nat → Prop) (x : Pr) : Prop where
 k : x.key.size ≤ maxLen
 a : x.va.lies false w S x.a
 b : x.vb.lies false w S x.b
 oa : Ok x.va
 ob : Ok x.vb
 mem : x.g = true → ∃ y ∈ m, y.2 = x.vb
theorem prg_a {t : V} {m : List Mem} {w : World} {S : Nat → Prop} {qa : List (Mem × List Value)} (ot : Ok t) (pm : ∀ q ∈ qa, PM w S q) (e : qa.map (fun q => q.1) = memsOf t) {y : Mem × List Value} (hy : y ∈ qa) : PrG m w S (pA y) := by
 obtain ⟨cs, e0, e1, e2⟩ := pm y hy
 have hm : y.1 ∈ memsOf t := by rw [← e]; exact List.mem_map.2 ⟨y, hy, rfl⟩
 obtain ⟨k, b, i, s, l, mm⟩ := t
 exact ⟨e1, by rw [pA]; simp only; rw [e0]; exact e2, null_lies _ _, ot.mem hm, null_ok, fun h => by cases h⟩
theorem prg_b {b : Bool} {i : Int} {s : ByteArray} {l : List V} {m : List Mem} {w : World} {S : Nat → Prop} {qb : List (Mem × List Value)} (op : Ok (.mk 5 b i s l m)) (pm : ∀ q ∈ qb, PM w S q) (e : qb.map (fun q => q.1) = m) {z : Mem × List Value} (hz : z ∈ qb) : PrG m w S (pB z) := by
 obtain ⟨cs, e0, e1, e2⟩ := pm z hz
 have hm : z.1 ∈ m := by rw [← e]; exact List.mem_map.2 ⟨z, hz, rfl⟩
 exact ⟨e1, null_lies _ _, by rw [pB]; simp only; rw [e0]; exact e2, null_ok, op.mem hm, fun _ => ⟨z.1, hm, rfl⟩⟩
theorem prg_ab {t : V} {b : Bool} {i : Int} {s : ByteArray} {l : List V} {m : List Mem} {w : World} {S : Nat → Prop} {qa qb : List (Mem × List Value)} (ot : Ok t) (op : Ok (.mk 5 b i s l m)) (pma : ∀ q ∈ qa, PM w S q) (pmb : ∀ q ∈ qb, PM w S q) (ea : qa.map (fun q => q.1) = memsOf t) (eb : qb.map (fun q => q.1) = m) {y z : Mem × List Value} (hy : y ∈ qa) (hz : z ∈ qb) : PrG m w S (pAB y z) := by
 have h1 := prg_a (m := m) ot pma ea hy
 have h2 := prg_b op pmb eb hz
 exact ⟨h2.k, h1.a, h2.b, h1.oa, h2.ob, h2.mem⟩
theorem mems_seg {t : V} {w : World} {S : Nat → Prop} {k i : Int} {b : Bool} {s : ByteArray} {al am : Option Addr} {nl cl nm cm : Nat} (h : t.lies false w S [.int .i64 k, .bool b, .int .i64 i, .string s, .slice al nl cl, .slice am nm cm]) :
 ∃ b o, ∃ qs : List (Mem × List Value), Headed am nm cm b o ∧ qs.map (fun q => q.1) = memsOf t ∧ qs.length = nm ∧ RowsOf w b o 7 (qs.map (fun q => q.2)) ∧ (∀ q ∈ qs, PM w S q) ∧ (0 < qs.length → S b) := by
 obtain ⟨k', b', i', s', l, m⟩ := t
 rw [V.lies] at h
 obtain ⟨al', cl', bl, ol, am', cm', bm, om, e, _, _, _, _, h4, _, h6, _⟩ := h
 injection e with e1 e
 injection e with e2 e
 injection e with e3 e
 injection e with e4 e
 injection e with e5 e
 injection e with e6 e
 injection e6 with e7 e8 e9
 subst e7 e8 e9
 obtain ⟨ps, h1, h2, h3, h5⟩ := segM h6
 exact ⟨bm, om, ps, h4, h1, by rw [← h1, List.length_map], h2, h3, h5⟩
theorem rows_below {w w' : World} {S : Nat → Prop} {b o : Nat} {qs : List (Mem × List Value)} (hS : ∀ y, S y → y < w.heap.size) (hi : 0 < qs.length → S b) (h : RowsOf w b o 7 (qs.map (fun q => q.2))) (hb : Below w.heap.size w w') : RowsOf w' b o 7 (qs.map (fun q => q.2)) :=
 ⟨h.len, h.one, fun j hj => (h.row j hj).keep (hb.block b (hS b (hi (by simp at hj; omega))))⟩
theorem pm_six {w : World} {S : Nat → Prop} {qs : List (Mem × List Value)} (h : ∀ q ∈ qs, PM w S q) : ∀ z ∈ qs, ∃ ek eb ei es eal enl ecl eam enm ecm, z.2 = .string z.1.1 :: [.int .i64 ek, .bool eb, .int .i64 ei, .string es, .slice eal enl ecl, .slice eam enm ecm] := fun z hz => by
 obtain ⟨cs, e0, e1, e2⟩ := h z hz
 obtain ⟨k, b, i, s, al, nl, cl, am, nm, cm, e⟩ := V.ten e2
 exact ⟨k, b, i, s, al, nl, cl, am, nm, cm, by rw [e0, e]⟩
theorem stys_snoc (f : V → V → V) (l : List Pr) (x : Pr) : stys f (l ++ [x]) = stys f l ++ sty f x := by
 rw [stys, List.flatMap_append]; simp [stys]
theorem sty_len (f : V → V → V) (x : Pr) : (sty f x).length ≤ 1 := by
 unfold sty
 split
 ·simp
 ·split <;> simp
theorem stys_len (f : V → V → V) : ∀ l : List Pr, (stys f l).length ≤ l.length
 | [] => by simp [stys]
 | x :: t => by
  have h1 := stys_len f t
  have h2 := sty_len f x
  rw [stys, List.flatMap_cons, List.length_append, List.length_cons]
  rw [stys] at h1
  omega
theorem own_ne {B : Nat} {v : Value} {css : List (List Value)} {w : World} {x : Nat} {c : Array Value} {t : TypeId} (h : OwnC B 57 7 v css w) (hx : w.heap[x]? = some (.cells c t)) (ht : t ≠ 57) : v.ownBlock ≠ some x := fun e => by
 rcases h.2 with ⟨rfl, _⟩ | ⟨g, cap, cur, rfl, _, hg, _⟩
 ·cases e
 ·have e' : g = x := Option.some.inj e
  rw [e', hx] at hg
  injection hg with hg
  injection hg with _ h2
  exact ht h2
theorem frozen_other {w w' : World} {g : Nat} (h : w'.heap[g]? = w.heap[g]?) (i : Nat) : w'.frozen? ⟨g, i, none⟩ = w.frozen? ⟨g, i, none⟩ := by
 simp [World.frozen?, h]
attribute [local go_sem] Oper.semAt_some
set_option maxHeartbeats 8000000 in
set_option maxRecDepth 100000 in
theorem patched_any (p : V) : ∀ (t : V) (S : Nat → Prop) (cs ds : List Value) (w : World), Ok t → Ok p → t.lies false w S cs → p.lies false w S ds → (∀ b, S b → b < w.heap.size) → Calls Tryd.prog 34 #[.agg cs.toArray, .agg ds.toArray] w (RpPost (pchV t p) S w) := by
 induction p using V.ind_v with
 | h k b i s l m ihl ihm =>
 intro t S cs ds w ot op hv hx hS
 obtain ⟨tk, tb, ti, ts, tal, tnl, tcl, tam, tnm, tcm, rfl⟩ := V.ten hv
 have hx0 := hx
 rw [V.lies] at hx
 obtain ⟨al, cl, bl, ol, am, cm, bm, om, rfl, ik, ii, is, hal, ham, hl, hm, _⟩ := hx
 by_cases hk : k = 5
 rotate_left
 ·have HP : Hid (pchV t (.mk k b i s l m) = .mk k b i s l m) := by show _ = _; rw [pchV, if_neg hk]
  have yk : (k == 5) = false := beq_eq_false_iff_ne.2 hk
  obtain ⟨htw3, hpw3, hzw3⟩ := three_allocs w (.cells #[.int .i64 tk, .bool tb, .int .i64 ti, .string ts, .slice tal tnl tcl, .slice tam tnm tcm] 25) (.cells #[.int .i64 k, .bool b, .int .i64 i, .string s, .slice al l.length cl, .slice am m.length cm] 25) (.cells #[.int .i64 0, .bool false, .int .i64 0, .string ⟨#[]⟩, .slice none 0 0, .slice none 0 0] 25)
  have b3 : Below w.heap.size w (((w.alloc (.cells #[.int .i64 tk, .bool tb, .int .i64 ti, .string ts, .slice tal tnl tcl, .slice tam tnm tcm] 25)).alloc (.cells #[.int .i64 k, .bool b, .int .i64 i, .string s, .slice al l.length cl, .slice am m.length cm] 25)).alloc (.cells #[.int .i64 0, .bool false, .int .i64 0, .string ⟨#[]⟩, .slice none 0 0, .slice none 0 0] 25)) := three_below w _ _ _
  have hz3 : (((w.alloc (.cells #[.int .i64 tk, .bool tb, .int .i64 ti, .string ts, .slice tal tnl tcl, .slice tam tnm tcm] 25)).alloc (.cells #[.int .i64 k, .bool b, .int .i64 i, .string s, .slice al l.length cl, .slice am m.length cm] 25)).alloc (.cells #[.int .i64 0, .bool false, .int .i64 0, .string ⟨#[]⟩, .slice none 0 0, .slice none 0 0] 25)).heap.size = w.heap.size + 3 := by rw [alloc_size, alloc_size, alloc_size]
  obtain ⟨cp0, cp1, cp2, cp3, cp4, cp5⟩ := sixC hpw3
  refine (callsIn_wide (n := 3)).1 ?_
  refine callsIn_of_wp_marks Tryd.func34 rfl trivial ?_ rfl
  simp only [Tryd.ntmps34, List.size_toArray, List.length_cons, List.length_nil, Nat.reduceAdd, Nat.reduceSub, Array.replicate_succ, Array.replicate_zero, List.push_toArray, List.append_toArray, List.nil_append, List.cons_append]
  gi_wp2
  refine ⟨.agg #[.int .i64 k, .bool b, .int .i64 i, .string s, .slice al l.length cl, .slice am m.length cm], by rw [results_cell1 rfl]; go_simp, ?_⟩
  rw [HP.out]
  exact ⟨[.int .i64 k, .bool b, .int .i64 i, .string s, .slice al l.length cl, .slice am m.length cm], rfl, V.lies_keep (fun h => h) (fun x hx => (three_below w _ _ _).block x (hS x hx)) (fun x hx => .inl hx) _ hx0, three_below w _ _ _⟩
 ·subst hk
  obtain ⟨ba, oa, qa, haH, eqa, lqa, rowa, pma, insa⟩ := mems_seg hv
  obtain ⟨bb, ob, qb, hbH, eqb, lqb, rowb, pmb, insb⟩ := mems_seg hx0
  subst lqa
  rw [← lqb] at hbH ⊢
  have hv0 := hv
  have hqa : qa.length ≤ 1114112 := by have := ot.wt; have := mems_wt t; have := wtM_len (memsOf t); have q2 := congrArg List.length eqa; rw [List.length_map] at q2; omega
  have hqb : qb.length ≤ 1114112 := by have := op.wt; have := mems_wt (.mk 5 b i s l m); have := wtM_len (memsOf (.mk 5 b i s l m)); have q2 := congrArg List.length eqb; rw [List.length_map] at q2; omega
  have eqm : qb.map (fun q => q.1) = m := eqb
  have HALL := tg_all (G := PrG m w S) qa qb (fun y hy => prg_a ot pma eqa hy) (fun z hz => prg_b op pmb eqm hz) (fun y hy z hz => prg_ab ot op pma pmb eqa eqm hy hz)
  have HEQ : Hid (qa.map (fun q => q.1) = memsOf t ∧ qb.map (fun q => q.1) = m) := ⟨eqa, eqm⟩
  clear lqb eqa eqb eqm
  obtain ⟨htw3, hpw3, hzw3⟩ := three_allocs w (.cells #[.int .i64 tk, .bool tb, .int .i64 ti, .string ts, .slice tal tnl tcl, .slice tam qa.length tcm] 25) (.cells #[.int .i64 5, .bool b, .int .i64 i, .string s, .slice al l.length cl, .slice am qb.length cm] 25) (.cells #[.int .i64 0, .bool false, .int .i64 0, .string ⟨#[]⟩, .slice none 0 0, .slice none 0 0] 25)
  have b3 : Below w.heap.size w (((w.alloc (.cells #[.int .i64 tk, .bool tb, .int .i64 ti, .string ts, .slice tal tnl tcl, .slice tam qa.length tcm] 25)).alloc (.cells #[.int .i64 5, .bool b, .int .i64 i, .string s, .slice al l.length cl, .slice am qb.length cm] 25)).alloc (.cells #[.int .i64 0, .bool false, .int .i64 0, .string ⟨#[]⟩, .slice none 0 0, .slice none 0 0] 25)) := three_below w _ _ _
  have hz3 : (((w.alloc (.cells #[.int .i64 tk, .bool tb, .int .i64 ti, .string ts, .slice tal tnl tcl, .slice tam qa.length tcm] 25)).alloc (.cells #[.int .i64 5, .bool b, .int .i64 i, .string s, .slice al l.length cl, .slice am qb.length cm] 25)).alloc (.cells #[.int .i64 0, .bool false, .int .i64 0, .string ⟨#[]⟩, .slice none 0 0, .slice none 0 0] 25)).heap.size = w.heap.size + 3 := by rw [alloc_size, alloc_size, alloc_size]
  have cp0 : (((w.alloc (.cells #[.int .i64 tk, .bool tb, .int .i64 ti, .string ts, .slice tal tnl tcl, .slice tam qa.length tcm] 25)).alloc (.cells #[.int .i64 5, .bool b, .int .i64 i, .string s, .slice al l.length cl, .slice am qb.length cm] 25)).alloc (.cells #[.int .i64 0, .bool false, .int .i64 0, .string ⟨#[]⟩, .slice none 0 0, .slice none 0 0] 25)).cell? ⟨w.heap.size + 1, 0, none⟩ = some (.int .i64 5) := by rw [cell_of_block hpw3]; rfl
  have n4 := heap_alloc_new (((w.alloc (.cells #[.int .i64 tk, .bool tb, .int .i64 ti, .string ts, .slice tal tnl tcl, .slice tam qa.length tcm] 25)).alloc (.cells #[.int .i64 5, .bool b, .int .i64 i, .string s, .slice al l.length cl, .slice am qb.length cm] 25)).alloc (.cells #[.int .i64 0, .bool false, .int .i64 0, .string ⟨#[]⟩, .slice none 0 0, .slice none 0 0] 25)) (.cells #[.int .i64 5, .bool false, .int .i64 0, .string ⟨#[]⟩, .slice none 0 0, .slice none 0 0] 25)
  rw [hz3] at n4
  have B4 : Below (((w.alloc (.cells #[.int .i64 tk, .bool tb, .int .i64 ti, .string ts, .slice tal tnl tcl, .slice tam qa.length tcm] 25)).alloc (.cells #[.int .i64 5, .bool b, .int .i64 i, .string s, .slice al l.length cl, .slice am qb.length cm] 25)).alloc (.cells #[.int .i64 0, .bool false, .int .i64 0, .string ⟨#[]⟩, .slice none 0 0, .slice none 0 0] 25)).heap.size (((w.alloc (.cells #[.int .i64 tk, .bool tb, .int .i64 ti, .string ts, .slice tal tnl tcl, .slice tam qa.length tcm] 25)).alloc (.cells #[.int .i64 5, .bool b, .int .i64 i, .string s, .slice al l.length cl, .slice am qb.length cm] 25)).alloc (.cells #[.int .i64 0, .bool false, .int .i64 0, .string ⟨#[]⟩, .slice none 0 0, .slice none 0 0] 25)) ((((w.alloc (.cells #[.int .i64 tk, .bool tb, .int .i64 ti, .string ts, .slice tal tnl tcl, .slice tam qa.length tcm] 25)).alloc (.cells #[.int .i64 5, .bool b, .int .i64 i, .string s, .slice al l.length cl, .slice am qb.length cm] 25)).alloc (.cells #[.int .i64 0, .bool false, .int .i64 0, .string ⟨#[]⟩, .slice none 0 0, .slice none 0 0] 25)).alloc (.cells #[.int .i64 5, .bool false, .int .i64 0, .string ⟨#[]⟩, .slice none 0 0, .slice none 0 0] 25)) := (Below.refl _ _).alloc (Nat.le_refl _) _
  have hz4 : ((((w.alloc (.cells #[.int .i64 tk, .bool tb, .int .i64 ti, .string ts, .slice tal tnl tcl, .slice tam qa.length tcm] 25)).alloc (.cells #[.int .i64 5, .bool b, .int .i64 i, .string s, .slice al l.length cl, .slice am qb.length cm] 25)).alloc (.cells #[.int .i64 0, .bool false, .int .i64 0, .string ⟨#[]⟩, .slice none 0 0, .slice none 0 0] 25)).alloc (.cells #[.int .i64 5, .bool false, .int .i64 0, .string ⟨#[]⟩, .slice none 0 0, .slice none 0 0] 25)).heap.size = w.heap.size + 4 := by rw [alloc_size, hz3]
  have ht4 := (B4.block w.heap.size (by omega)).trans htw3
  have hp4 := (B4.block (w.heap.size + 1) (by omega)).trans hpw3
  have hr4 := (B4.block (w.heap.size + 2) (by omega)).trans hzw3
  have bw4 := b3.trans (B4.mono (by omega))
  have ct5 : ((((w.alloc (.cells #[.int .i64 tk, .bool tb, .int .i64 ti, .string ts, .slice tal tnl tcl, .slice tam qa.length tcm] 25)).alloc (.cells #[.int .i64 5, .bool b, .int .i64 i, .string s, .slice al l.length cl, .slice am qb.length cm] 25)).alloc (.cells #[.int .i64 0, .bool false, .int .i64 0, .string ⟨#[]⟩, .slice none 0 0, .slice none 0 0] 25)).alloc (.cells #[.int .i64 5, .bool false, .int .i64 0, .string ⟨#[]⟩, .slice none 0 0, .slice none 0 0] 25)).cell? ⟨w.heap.size, 5, none⟩ = some (.slice tam qa.length tcm) := by rw [cell_of_block ht4]; rfl
  have cp5 : ((((w.alloc (.cells #[.int .i64 tk, .bool tb, .int .i64 ti, .string ts, .slice tal tnl tcl, .slice tam qa.length tcm] 25)).alloc (.cells #[.int .i64 5, .bool b, .int .i64 i, .string s, .slice al l.length cl, .slice am qb.length cm] 25)).alloc (.cells #[.int .i64 0, .bool false, .int .i64 0, .string ⟨#[]⟩, .slice none 0 0, .slice none 0 0] 25)).alloc (.cells #[.int .i64 5, .bool false, .int .i64 0, .string ⟨#[]⟩, .slice none 0 0, .slice none 0 0] 25)).cell? ⟨w.heap.size + 1, 5, none⟩ = some (.slice am qb.length cm) := by rw [cell_of_block hp4]; rfl
  refine (callsIn_wide (n := 3)).1 ?_
  refine callsIn_of_wp_marks Tryd.func34 rfl trivial ?_ rfl
  simp only [Tryd.ntmps34, List.size_toArray, List.length_cons, List.length_nil, Nat.reduceAdd, Nat.reduceSub, Array.replicate_succ, Array.replicate_zero, List.push_toArray, List.append_toArray, List.nil_append, List.cons_append]
  gi_wp2
  clear htw3 hpw3 hzw3 b3 hz3 cp0 B4 ht4 hp4 ct5 cp5
  generalize ((((w.alloc (.cells #[.int .i64 tk, .bool tb, .int .i64 ti, .string ts, .slice tal tnl tcl, .slice tam qa.length tcm] 25)).alloc (.cells #[.int .i64 5, .bool b, .int .i64 i, .string s, .slice al l.length cl, .slice am qb.length cm] 25)).alloc (.cells #[.int .i64 0, .bool false, .int .i64 0, .string ⟨#[]⟩, .slice none 0 0, .slice none 0 0] 25)).alloc (.cells #[.int .i64 5, .bool false, .int .i64 0, .string ⟨#[]⟩, .slice none 0 0, .slice none 0 0] 25)) = w4 at *
  refine ⟨trivial, (callsIn_wide.2 (together_any tam am qa.length qb.length tcm cm w4)).mono ?_⟩
  rintro e w6 ⟨rfl, hw6⟩
  rw [hz4]
  have b46 : Below w4.heap.size w4 w6 := by rw [hw6]; exact two_belowS w4 _ _
  have h6 : w6.heap.size = w.heap.size + 6 := by rw [hw6, alloc_size, alloc_size, hz4]
  have cA1 : w6.cell? ⟨w.heap.size + 4, 0, none⟩ = some (.slice tam qa.length tcm) := by
   have h := (Below.heap_alloc (w4.alloc (.cells #[.slice tam qa.length tcm] 23)) (.cells #[.slice am qb.length cm] 23) w4.heap.size (by rw [alloc_size]; omega)).trans (heap_alloc_new w4 _)
   rw [← hw6, hz4] at h
   rw [cell_of_block h]; rfl
  have cA2 : w6.cell? ⟨w.heap.size + 5, 0, none⟩ = some (.slice am qb.length cm) := by
   have h := heap_alloc_new (w4.alloc (.cells #[.slice tam qa.length tcm] 23)) (.cells #[.slice am qb.length cm] 23)
   rw [← hw6, alloc_size, hz4] at h
   rw [cell_of_block h]; rfl
  have v6 := (b46.block (w.heap.size + 3) (by omega)).trans n4
  have r6 := (b46.block (w.heap.size + 2) (by omega)).trans hr4
  have bw6 := bw4.trans (b46.mono (by omega))
  clear hw6 b46 n4 hr4 bw4 hz4 w4
  have HS := tog_seq qa qb (withG (tgR qa qb) HALL) (withG_map _ _) (3 - 1) (w.heap.size + 6) (w.heap.size + 3) (w.heap.size + 4) (w.heap.size + 5) ba oa bb ob tcm cm tam am w6 cA1 cA2 (by omega) (by omega) (by omega) (by omega) (by omega)
   (fun h => ⟨haH.at_.resolve_left (by omega), by have := hS ba (insa h); omega, by have := hS ba (insa h); omega⟩) (fun h => ⟨hbH.at_.resolve_left (by omega), by have := hS bb (insb h); omega, by have := hS bb (insb h); omega⟩)
   (rows_below hS insa rowa bw6) (rows_below hS insb rowb bw6) (by omega) (by omega) (pm_six pma) (pm_six pmb)
  gi_wp2
  refine wpIn_rangeFunc_ownH rfl (by decide) (gf := 64) (lb := #[.pointer (some ⟨w.heap.size + 4, 0, none⟩), .pointer (some ⟨w.heap.size + 5, 0, none⟩)]) rfl trivial (enters_of Tryd.func64 (by kernel_rfl) rfl) HS (fun h k => h.trans k) (fun W l o o' hl h h1 h2 => kx_of (belowK_b (w := w6) (by omega) W l o o' hl h h1 h2)) (Below.refl _ _) (fun _ => rfl)
   (fun (pre : List {x : Pr // PrG m w S x}) (W : World) => ∃ sl, W.heap[w.heap.size + 3]? = some (.cells #[.int .i64 5, .bool false, .int .i64 0, .string ⟨#[]⟩, .slice none 0 0, sl] 25) ∧ AccK S (w.heap.size + 6) (stys pchV (pre.map (fun x => x.1))) sl W ∧ Below (w.heap.size + 3) w6 W) (fun _ _ _ => False) ?hI (fun _ _ _ _ _ h _ _ => h) ⟨_, v6, AccK.nil S _ w6, Below.refl _ _⟩ (fun (x : {x : Pr // PrG m w S x}) (a : Act) (W : World) => ∃ Bx, w.heap.size + 6 ≤ Bx ∧ W.heap[Bx]? = some (.cells (x.1.a ++ x.1.b ++ [Value.bool x.1.f, Value.bool x.1.g]).toArray 73) ∧ a = { tmps := #[.agg #[.int .i64 tk, .bool tb, .int .i64 ti, .string ts, .slice tal tnl tcl, .slice tam qa.length tcm], .agg #[.int .i64 5, .bool b, .int .i64 i, .string s, .slice al l.length cl, .slice am qb.length cm], .pointer (some ⟨w.heap.size, 0, none⟩), .pointer (some ⟨w.heap.size + 1, 0, none⟩), .pointer (some ⟨w.heap.size + 1 + 1, 0, none⟩), .pointer (some ⟨w.heap.size + 3, 0, none⟩), .string x.1.key, .pointer (some ⟨Bx, 0, none⟩), .pointer (some ⟨w.heap.size + 1, 0, none⟩), .int .i64 5, .bool false, undef, .agg #[.int .i64 5, .bool false, .int .i64 0, .string ⟨#[]⟩, .slice none 0 0, .slice none 0 0], .pointer (some ⟨w.heap.size, 5, none⟩), .slice tam qa.length tcm, .pointer (some ⟨w.heap.size + 1, 5, none⟩), .slice am qb.length cm, .func (.func 64) #[] #[.pointer (some ⟨w.heap.size + 4, 0, none⟩), .pointer (some ⟨w.heap.size + 5, 0, none⟩)], .string x.1.key, .agg (x.1.a ++ x.1.b ++ [Value.bool x.1.f, Value.bool x.1.g]).toArray, undef, undef, undef, undef, undef, undef, undef, undef, undef, undef, undef, undef, undef, undef, undef, undef, undef, undef, undef, undef, undef, undef, undef, undef, undef, undef, undef, undef, undef, undef, undef, undef, undef, undef, undef], defers := [] }) ?hAx ?assign ?body ?done ?stop
  case hI =>
   rintro pre A B row ⟨sl, h1, h2, h3⟩ hg hr
   have hz := h3.size
   exact ⟨sl, (hg.block _ (by omega) (fun h => by have := (hr _ h.symm).1; omega)).trans h1, h2.own (fun y hy => by have := hS y hy; omega) hg (fun r h => (hr r h).2), h3.grown hg (by omega) (fun q h => by have := (hr q h).1; omega)⟩
  case hAx =>
   rintro x a' _ A B row ⟨Bx, h1, h2, h3⟩ hg hr
   refine ⟨Bx, h1, (hg.block _ (Array.getElem?_eq_some_iff.1 h2).1 (fun h => ?_)).trans h2, h3⟩
   obtain ⟨_, o, h4, h5⟩ := hr _ h.symm
   rw [h2] at h4
   cases h4
   cases h5
  case assign =>
   rintro lp pre x W K ⟨sl, v1, acc, bW⟩ hK
   have hzW := bW.size
   obtain ⟨⟨key, va, vb, xa, xb, xf, xg⟩, hG⟩ := x
   obtain ⟨yk, yb, yi, ys, yal, ynl, ycl, yam, ynm, ycm, ea⟩ := V.ten hG.a
   obtain ⟨zk, zb, zi, zs, zal, znl, zcl, zam, znm, zcm, eb⟩ := V.ten hG.b
   simp only at ea eb
   subst ea eb
   have hK' := hK { tmps := #[.agg #[.int .i64 tk, .bool tb, .int .i64 ti, .string ts, .slice tal tnl tcl, .slice tam qa.length tcm], .agg #[.int .i64 5, .bool b, .int .i64 i, .string s, .slice al l.length cl, .slice am qb.length cm], .pointer (some ⟨w.heap.size, 0, none⟩), .pointer (some ⟨w.heap.size + 1, 0, none⟩), .pointer (some ⟨w.heap.size + 1 + 1, 0, none⟩), .pointer (some ⟨w.heap.size + 3, 0, none⟩), .string key, .pointer (some ⟨W.heap.size, 0, none⟩), .pointer (some ⟨w.heap.size + 1, 0, none⟩), .int .i64 5, .bool false, undef, .agg #[.int .i64 5, .bool false, .int .i64 0, .string ⟨#[]⟩, .slice none 0 0, .slice none 0 0], .pointer (some ⟨w.heap.size, 5, none⟩), .slice tam qa.length tcm, .pointer (some ⟨w.heap.size + 1, 5, none⟩), .slice am qb.length cm, .func (.func 64) #[] #[.pointer (some ⟨w.heap.size + 4, 0, none⟩), .pointer (some ⟨w.heap.size + 5, 0, none⟩)], .string key, .agg #[.int .i64 yk, .bool yb, .int .i64 yi, .string ys, .slice yal ynl ycl, .slice yam ynm ycm, .int .i64 zk, .bool zb, .int .i64 zi, .string zs, .slice zal znl zcl, .slice zam znm zcm, .bool xf, .bool xg], undef, undef, undef, undef, undef, undef, undef, undef, undef, undef, undef, undef, undef, undef, undef, undef, undef, undef, undef, undef, undef, undef, undef, undef, undef, undef, undef, undef, undef, undef, undef, undef, undef, undef, undef], defers := [] } (W.alloc (.cells #[.int .i64 yk, .bool yb, .int .i64 yi, .string ys, .slice yal ynl ycl, .slice yam ynm ycm, .int .i64 zk, .bool zb, .int .i64 zi, .string zs, .slice zal znl zcl, .slice zam znm zcm, .bool xf, .bool xg] 73)) ((KeepsOthers.alloc _ _).from _) (kx_of ((Below.refl _ W).alloc (by omega) _)) ⟨sl, (Below.heap_alloc W _ _ (by omega)).trans v1, acc.keep (fun y hy => Below.heap_alloc W _ y (by rcases hy with hy | hy <;> first | omega | (have := hS y hy; omega))) (by rw [alloc_size]; omega), bW.alloc (by omega) _⟩ ⟨W.heap.size, by omega, heap_alloc_new W _, rfl⟩
   clear hK
   simp only [Pr.enc]
   gi_wp2
   exact hK'
  case body =>
   rintro lp pre x a' W hlp ⟨r, hr⟩ ⟨sl, v1, acc, bW⟩ ⟨Bx, hBx, bX, rfl⟩ hlt
   have hzW := bW.size
   obtain ⟨⟨key, va, vb, xa, xb, xf, xg⟩, hG⟩ := x
   obtain ⟨yk, yb, yi, ys, yal, ynl, ycl, yam, ynm, ycm, ea⟩ := V.ten hG.a
   obtain ⟨zk, zb, zi, zs, zal, znl, zcl, zam, znm, zcm, eb⟩ := V.ten hG.b
   simp only at ea eb
   subst ea eb
   have hkb : kindOf vb = zk := kind_lies hG.b
   simp only [List.cons_append, List.nil_append] at bX ⊢
   have hBxs : Bx < W.heap.size := (Array.getElem?_eq_some_iff.1 bX).1
   have hkW : ∀ y, S y → W.heap[y]? = w.heap[y]? := fun y hy => by have := hS y hy; exact (bW.block y (by omega)).trans (bw6.block y this)
   have hlen : (stys pchV (pre.map (fun x => x.1))).length ≤ 3000000 := by
    have q1 := stys_len pchV (pre.map (fun x => x.1))
    have q2 := tg_len qa qb
    have q3 := congrArg List.length (withG_map (tgR qa qb) HALL)
    rw [List.length_map] at q1 q3
    omega
   have hsn := stys_snoc pchV (pre.map (fun x => x.1)) (⟨key, va, vb, [.int .i64 yk, .bool yb, .int .i64 yi, .string ys, .slice yal ynl ycl, .slice yam ynm ycm], [.int .i64 zk, .bool zb, .int .i64 zi, .string zs, .slice zal znl zcl, .slice zam znm zcm], xf, xg⟩ : Pr)
   obtain ⟨z0, z1, z2, z3, z4, z5, z6, z7, z8, z9, z10, z11, z12, z13⟩ := cells14 bX
   cases xg
   ·have hst : sty pchV (⟨key, va, vb, [.int .i64 yk, .bool yb, .int .i64 yi, .string ys, .slice yal ynl ycl, .slice yam ynm ycm], [.int .i64 zk, .bool zb, .int .i64 zi, .string zs, .slice zal znl zcl, .slice zam znm zcm], xf, false⟩ : Pr) = [(key, va)] := rfl
    rw [hst] at hsn
    obtain ⟨ps, sa, sc, rfl, eps, ho, hp⟩ := acc.open
    rw [← eps, List.length_map] at hlen
    have hown : ∀ r, (Value.slice sa ps.length sc).ownBlock = some r → w.heap.size + 6 ≤ r ∧ r < W.heap.size := World.ownsRow.lt ho
    have hBxo : (Value.slice sa ps.length sc).ownBlock ≠ some Bx := own_ne ho bX (by decide)
    have hfin : ∀ We, (KeepsFrom (w.heap.size + 6) W We ∧ Kx (w.heap.size + 6) (w.heap.size + 3) W We ∧ ∃ sl', We.heap[w.heap.size + 3]? = some (.cells #[.int .i64 5, .bool false, .int .i64 0, .string ⟨#[]⟩, .slice none 0 0, sl'] 25) ∧ AccK S (w.heap.size + 6) (ps.map (fun q => q.1) ++ [(key, va)]) sl' We ∧ Below (w.heap.size + 3) w6 We) → KeepsFrom w6.heap.size W We ∧ Kx (w.heap.size + 6) (w.heap.size + 3) W We ∧ ∃ sl, We.heap[w.heap.size + 3]? = some (.cells #[.int .i64 5, .bool false, .int .i64 0, .string ⟨#[]⟩, .slice none 0 0, sl] 25) ∧ AccK S (w.heap.size + 6) (stys pchV ((pre ++ [(⟨⟨key, va, vb, [.int .i64 yk, .bool yb, .int .i64 yi, .string ys, .slice yal ynl ycl, .slice yam ynm ycm], [.int .i64 zk, .bool zb, .int .i64 zi, .string zs, .slice zal znl zcl, .slice zam znm zcm], xf, false⟩, hG⟩ : {x : Pr // PrG m w S x})]).map (fun x => x.1))) sl We ∧ Below (w.heap.size + 3) w6 We := fun We h => by
     rw [h6, List.map_append]
     obtain ⟨a1, a2, sl', a3, a4, a5⟩ := h
     refine ⟨a1, a2, sl', a3, ?_, a5⟩
     rw [show List.map (fun x : {x : Pr // PrG m w S x} => x.1) [⟨(⟨key, va, vb, [.int .i64 yk, .bool yb, .int .i64 yi, .string ys, .slice yal ynl ycl, .slice yam ynm ycm], [.int .i64 zk, .bool zb, .int .i64 zi, .string zs, .slice zal znl zcl, .slice zam znm zcm], xf, false⟩ : Pr), hG⟩] = [(⟨key, va, vb, [.int .i64 yk, .bool yb, .int .i64 yi, .string ys, .slice yal ynl ycl, .slice yam ynm ycm], [.int .i64 zk, .bool zb, .int .i64 zi, .string zs, .slice zal znl zcl, .slice zam znm zcm], xf, false⟩ : Pr)] from rfl, hsn, ← eps]
     exact a4
    have c3 : W.cell? ⟨w.heap.size + 3, 5, none⟩ = some (.slice sa ps.length sc) := by rw [cell_of_block v1]; rfl
    have c3a : ∀ o, (W.alloc o).cell? ⟨w.heap.size + 3, 5, none⟩ = some (.slice sa ps.length sc) := fun o => (World.cell?_of_block (w := W) (a := ⟨w.heap.size + 3, 5, none⟩) (Below.heap_alloc W o (w.heap.size + 3) (by omega))).trans c3
    clear hsn
    gi_wp2
    refine round_held_drew (S := fun W => W.heap[Bx]? = some (.cells #[.int .i64 yk, .bool yb, .int .i64 yi, .string ys, .slice yal ynl ycl, .slice yam ynm ycm, .int .i64 zk, .bool zb, .int .i64 zi, .string zs, .slice zal znl zcl, .slice zam znm zcm, .bool xf, .bool false] 73)) (by kernel_rfl) (by kernel_rfl) (by rintro ⟨_, _, h⟩; exact h) bX (fun hHeld => ?_)
    (refine tjA 0 ?_; (try simp only [Act.put, zA, zB, zC]))
    (refine tjA 2 ?_; (try simp only [Act.put, zA, zB, zC]))
    (refine tjA 3 ?_; (try simp only [Act.put, zA, zB, zC]))
    (refine tkA 4 ?_ ?_ ?_; rotate_left 1; (intro W0 hSw; (obtain ⟨z0, z1, z2, z3, z4, z5, z6, z7, z8, z9, z10, z11, z12, z13⟩ := cells14 hSw); go_simp; (try with_reducible rfl)); (try simp only [Act.put, zA, zB, zC]))
    (refine tjA 5 ?_; (try simp only [Act.put, zA, zB, zC]))
    have hb2 : Below W.heap.size W (W.alloc (.cells #[.string ⟨#[]⟩, .int .i64 0, .bool false, .int .i64 0, .string ⟨#[]⟩, .slice none 0 0, .slice none 0 0] 57)).drew := (one_belowG W _).drew
    have hz2 : (W.alloc (.cells #[.string ⟨#[]⟩, .int .i64 0, .bool false, .int .i64 0, .string ⟨#[]⟩, .slice none 0 0, .slice none 0 0] 57)).drew.heap.size = W.heap.size + 1 := alloc_size _ _
    have nb : (W.alloc (.cells #[.string ⟨#[]⟩, .int .i64 0, .bool false, .int .i64 0, .string ⟨#[]⟩, .slice none 0 0, .slice none 0 0] 57)).drew.heap[W.heap.size]? = some (.cells #[.string ⟨#[]⟩, .int .i64 0, .bool false, .int .i64 0, .string ⟨#[]⟩, .slice none 0 0, .slice none 0 0] 57) := heap_alloc_new W _
    have hX2 := (hb2.block Bx hBxs).trans bX
    have hv2 := (hb2.block (w.heap.size + 3) (by omega)).trans v1
    have ho2 := ho.below hb2
    unfold OwnC at ho2
    rw [List.length_map] at ho2
    have hx2 : PM (W.alloc (.cells #[.string ⟨#[]⟩, .int .i64 0, .bool false, .int .i64 0, .string ⟨#[]⟩, .slice none 0 0, .slice none 0 0] 57)).drew (fun y => S y ∨ (W.heap.size ≤ y ∧ y < (W.alloc (.cells #[.string ⟨#[]⟩, .int .i64 0, .bool false, .int .i64 0, .string ⟨#[]⟩, .slice none 0 0, .slice none 0 0] 57)).drew.heap.size)) ((key, va), [.string key, .int .i64 yk, .bool yb, .int .i64 yi, .string ys, .slice yal ynl ycl, .slice yam ynm ycm]) := ⟨_, rfl, hG.k, V.lies_keep (fun h => h) (fun y hy => (hb2.block y (by have := hS y hy; omega)).trans (hkW y hy)) (fun y hy => .inl hy) _ hG.a⟩
    refine ryA [1, 7] ?_
    refine rA2 (fun K hK => ?_) fun K hK => ?_
    ·go_simp
     refine hK.out _ _ bX (fun hHeld => ?_)
     clear hK K
     (try simp only [Act.put, zA, zB, zC])
     (refine tjA 6 ?_; (try simp only [Act.put, zA, zB, zC]))
     refine ryA [7] ?_
     refine rA1 fun K hK => ?_
     go_simp
     refine hK.out _ _ hX2 (fun hHeld => ?_)
     clear hK K
     (try simp only [Act.put, zA, zB, zC])
     generalize (W.alloc (.cells #[.string ⟨#[]⟩, .int .i64 0, .bool false, .int .i64 0, .string ⟨#[]⟩, .slice none 0 0, .slice none 0 0] 57)).drew = W2 at *
     refine ryA [8] ?_
     refine rA1 fun K hK => ?_
     refine step_blank rfl (.tmp 25) (.tmp 31) rfl (w.heap.size + 6) (.slice sa ps.length sc) ps.length _ rfl ho2 W.heap.size rfl nb (by omega) (by omega) ?_
     intro g cap w5 h5 g5 l5
     have hX5 : w5.heap[Bx]? = some (.cells #[.int .i64 yk, .bool yb, .int .i64 yi, .string ys, .slice yal ynl ycl, .slice yam ynm ycm, .int .i64 zk, .bool zb, .int .i64 zi, .string zs, .slice zal znl zcl, .slice zam znm zcm, .bool xf, .bool false] 73) := (g5.block Bx (by omega) (fun h => hBxo h.symm)).trans hX2
     refine hK.out _ _ hX5 (fun hHeld => ?_)
     clear hK K
     (try simp only [Act.put, zA, zB, zC])
     have hgn : g ≠ w.heap.size + 3 := by have := (World.ownsRow.lt h5 g rfl).1; omega
     have hgx : Bx ≠ g := fun h => by
      rcases l5 with l5 | l5
      ·exact hBxo (by rw [h]; exact l5)
      ·omega
     have yN : (ps.length : Int) < ((ps.length + 1 : Nat) : Int) := by omega
     have yN2 : (ps.length : Int) < (ps.length : Int) + 1 := by omega
     (refine tjA 9 ?_; (try simp only [Act.put, zA, zB, zC]))
     (refine tjA 11 ?_; (try simp only [Act.put, zA, zB, zC]))
     have hv5 : w5.heap[w.heap.size + 3]? = some (.cells #[.int .i64 5, .bool false, .int .i64 0, .string ⟨#[]⟩, .slice none 0 0, .slice sa ps.length sc] 25) := (g5.block _ (by omega) (fun h => by have := (hown _ h.symm).1; omega)).trans hv2
     have c5 : w5.cell? ⟨w.heap.size + 3, 5, none⟩ = some (.slice sa ps.length sc) := by rw [cell_of_block hv5]; rfl
     have f5 : w5.frozen? ⟨w.heap.size + 3, 5, none⟩ = false := frozen_of_block hv5 5
     obtain ⟨bc, bf⟩ := blank_cells h5 ho2.1
     have b0 : w5.cell? ⟨g, ps.length * 7, none⟩ = some (.string ⟨#[]⟩) := bc 0 _ rfl
     have b1 : w5.cell? ⟨g, ps.length * 7 + 1, none⟩ = some (.int .i64 0) := bc 1 _ rfl
     have b2 : w5.cell? ⟨g, ps.length * 7 + 2, none⟩ = some (.bool false) := bc 2 _ rfl
     have b3 : w5.cell? ⟨g, ps.length * 7 + 3, none⟩ = some (.int .i64 0) := bc 3 _ rfl
     have b4 : w5.cell? ⟨g, ps.length * 7 + 4, none⟩ = some (.string ⟨#[]⟩) := bc 4 _ rfl
     have b5 : w5.cell? ⟨g, ps.length * 7 + 5, none⟩ = some (.slice none 0 0) := bc 5 _ rfl
     have b6 : w5.cell? ⟨g, ps.length * 7 + 6, none⟩ = some (.slice none 0 0) := bc 6 _ rfl
     have E1 := end1 (n := ps.length) hgn hv5 (.slice (some ⟨g, 0, none⟩) (ps.length + 1) cap) (.string key) (.int .i64 yk) (.bool yb) (.int .i64 yi) (.string ys) (.slice yal ynl ycl) (.slice yam ynm ycm)
     have E2 := end2 (n := ps.length) hgn hv5 (.slice (some ⟨g, 0, none⟩) (ps.length + 1) cap) (.string key) (.int .i64 yk) (.bool yb) (.int .i64 yi) (.string ys) (.slice yal ynl ycl) (.slice yam ynm ycm)
     have oA : ∀ z, z ≠ g → (((((((w5.setCell ⟨g, ps.length * 7, none⟩ (.string key)).setCell ⟨g, ps.length * 7 + 1, none⟩ (.int .i64 yk)).setCell ⟨g, ps.length * 7 + 2, none⟩ (.bool yb)).setCell ⟨g, ps.length * 7 + 3, none⟩ (.int .i64 yi)).setCell ⟨g, ps.length * 7 + 4, none⟩ (.string ys)).setCell ⟨g, ps.length * 7 + 5, none⟩ (.slice yal ynl ycl)).setCell ⟨g, ps.length * 7 + 6, none⟩ (.slice yam ynm ycm)).heap[z]? = w5.heap[z]? := fun z hz => sets7_o w5 g ps.length (.string key) (.int .i64 yk) (.bool yb) (.int .i64 yi) (.string ys) (.slice yal ynl ycl) (.slice yam ynm ycm) z hz
     have oM : ∀ z, z ≠ w.heap.size + 3 → (w5.setCell ⟨w.heap.size + 3, 5, none⟩ (.slice (some ⟨g, 0, none⟩) (ps.length + 1) cap)).heap[z]? = w5.heap[z]? := fun z hz => set_other hz
     have a5 : (((((((w5.setCell ⟨g, ps.length * 7, none⟩ (.string key)).setCell ⟨g, ps.length * 7 + 1, none⟩ (.int .i64 yk)).setCell ⟨g, ps.length * 7 + 2, none⟩ (.bool yb)).setCell ⟨g, ps.length * 7 + 3, none⟩ (.int .i64 yi)).setCell ⟨g, ps.length * 7 + 4, none⟩ (.string ys)).setCell ⟨g, ps.length * 7 + 5, none⟩ (.slice yal ynl ycl)).setCell ⟨g, ps.length * 7 + 6, none⟩ (.slice yam ynm ycm)).cell? ⟨w.heap.size + 3, 5, none⟩ = some (.slice sa ps.length sc) := (World.cell?_of_block (w := w5) (a := ⟨w.heap.size + 3, 5, none⟩) (oA _ (fun h => hgn h.symm))).trans c5
     have af : (((((((w5.setCell ⟨g, ps.length * 7, none⟩ (.string key)).setCell ⟨g, ps.length * 7 + 1, none⟩ (.int .i64 yk)).setCell ⟨g, ps.length * 7 + 2, none⟩ (.bool yb)).setCell ⟨g, ps.length * 7 + 3, none⟩ (.int .i64 yi)).setCell ⟨g, ps.length * 7 + 4, none⟩ (.string ys)).setCell ⟨g, ps.length * 7 + 5, none⟩ (.slice yal ynl ycl)).setCell ⟨g, ps.length * 7 + 6, none⟩ (.slice yam ynm ycm)).frozen? ⟨w.heap.size + 3, 5, none⟩ = false := frozen_of_block ((oA _ (fun h => hgn h.symm)).trans hv5) 5
     have mf : ∀ ii, (w5.setCell ⟨w.heap.size + 3, 5, none⟩ (.slice (some ⟨g, 0, none⟩) (ps.length + 1) cap)).frozen? ⟨g, ii, none⟩ = false := fun ii => (frozen_other (oM g hgn) ii).trans (bf ii)
     have m0 : (w5.setCell ⟨w.heap.size + 3, 5, none⟩ (.slice (some ⟨g, 0, none⟩) (ps.length + 1) cap)).cell? ⟨g, ps.length * 7, none⟩ = some (.string ⟨#[]⟩) := (World.cell?_of_block (w := w5) (a := ⟨g, ps.length * 7, none⟩) (oM g hgn)).trans b0
     have m1 : (w5.setCell ⟨w.heap.size + 3, 5, none⟩ (.slice (some ⟨g, 0, none⟩) (ps.length + 1) cap)).cell? ⟨g, ps.length * 7 + 1, none⟩ = some (.int .i64 0) := (World.cell?_of_block (w := w5) (a := ⟨g, ps.length * 7 + 1, none⟩) (oM g hgn)).trans b1
     have m2 : (w5.setCell ⟨w.heap.size + 3, 5, none⟩ (.slice (some ⟨g, 0, none⟩) (ps.length + 1) cap)).cell? ⟨g, ps.length * 7 + 2, none⟩ = some (.bool false) := (World.cell?_of_block (w := w5) (a := ⟨g, ps.length * 7 + 2, none⟩) (oM g hgn)).trans b2
     have m3 : (w5.setCell ⟨w.heap.size + 3, 5, none⟩ (.slice (some ⟨g, 0, none⟩) (ps.length + 1) cap)).cell? ⟨g, ps.length * 7 + 3, none⟩ = some (.int .i64 0) := (World.cell?_of_block (w := w5) (a := ⟨g, ps.length * 7 + 3, none⟩) (oM g hgn)).trans b3
     have m4 : (w5.setCell ⟨w.heap.size + 3, 5, none⟩ (.slice (some ⟨g, 0, none⟩) (ps.length + 1) cap)).cell? ⟨g, ps.length * 7 + 4, none⟩ = some (.string ⟨#[]⟩) := (World.cell?_of_block (w := w5) (a := ⟨g, ps.length * 7 + 4, none⟩) (oM g hgn)).trans b4
     have m5 : (w5.setCell ⟨w.heap.size + 3, 5, none⟩ (.slice (some ⟨g, 0, none⟩) (ps.length + 1) cap)).cell? ⟨g, ps.length * 7 + 5, none⟩ = some (.slice none 0 0) := (World.cell?_of_block (w := w5) (a := ⟨g, ps.length * 7 + 5, none⟩) (oM g hgn)).trans b5
     have m6 : (w5.setCell ⟨w.heap.size + 3, 5, none⟩ (.slice (some ⟨g, 0, none⟩) (ps.length + 1) cap)).cell? ⟨g, ps.length * 7 + 6, none⟩ = some (.slice none 0 0) := (World.cell?_of_block (w := w5) (a := ⟨g, ps.length * 7 + 6, none⟩) (oM g hgn)).trans b6
     refine ryA [10, 12] ?_
     refine rA2 (fun K hK => ?_) fun K hK => ?_
     ·go_simp
      refine hK.out _ _ ((oA Bx hgx).trans hX5) (fun hHeld => ?_)
      clear hK K
      (try simp only [Act.put, zA, zB, zC])
      refine ryA [12] ?_
      refine rA1 fun K hK => ?_
      go_simp
      refine hK.out _ _ ((E1.o_ Bx hgx (by omega)).trans hX5) (fun hHeld => ?_)
      clear hK K
      (try simp only [Act.put, zA, zB, zC])
      refine wpAnyH_done (by kernel_rfl) ?_ _
      have R1 := round_end hS h6 bW rfl rfl ho hp hb2 hx2 h5 g5 l5 E1
      gi_wp2
      exact hfin _ R1
     ·go_simp
      refine hK.out _ _ ((oM Bx (by omega)).trans hX5) (fun hHeld => ?_)
      clear hK K
      (try simp only [Act.put, zA, zB, zC])
      refine ryA [10] ?_
      refine rA1 fun K hK => ?_
      go_simp
      refine hK.out _ _ ((E2.o_ Bx hgx (by omega)).trans hX5) (fun hHeld => ?_)
      clear hK K
      (try simp only [Act.put, zA, zB, zC])
      refine wpAnyH_done (by kernel_rfl) ?_ _
      have R1 := round_end hS h6 bW rfl rfl ho hp hb2 hx2 h5 g5 l5 E2
      gi_wp2
      exact hfin _ R1
    ·go_simp
     refine hK.out _ _ hX2 (fun hHeld => ?_)
     clear hK K
     (try simp only [Act.put, zA, zB, zC])
     refine ryA [1] ?_
     refine rA1 fun K hK => ?_
     go_simp
     refine hK.out _ _ hX2 (fun hHeld => ?_)
     clear hK K
     (try simp only [Act.put, zA, zB, zC])
     (refine tjA 6 ?_; (try simp only [Act.put, zA, zB, zC]))
     generalize (W.alloc (.cells #[.string ⟨#[]⟩, .int .i64 0, .bool false, .int .i64 0, .string ⟨#[]⟩, .slice none 0 0, .slice none 0 0] 57)).drew = W2 at *
     refine ryA [8] ?_
     refine rA1 fun K hK => ?_
     refine step_blank rfl (.tmp 25) (.tmp 31) rfl (w.heap.size + 6) (.slice sa ps.length sc) ps.length _ rfl ho2 W.heap.size rfl nb (by omega) (by omega) ?_
     intro g cap w5 h5 g5 l5
     have hX5 : w5.heap[Bx]? = some (.cells #[.int .i64 yk, .bool yb, .int .i64 yi, .string ys, .slice yal ynl ycl, .slice yam ynm ycm, .int .i64 zk, .bool zb, .int .i64 zi, .string zs, .slice zal znl zcl, .slice zam znm zcm, .bool xf, .bool false] 73) := (g5.block Bx (by omega) (fun h => hBxo h.symm)).trans hX2
     refine hK.out _ _ hX5 (fun hHeld => ?_)
     clear hK K
     (try simp only [Act.put, zA, zB, zC])
     have hgn : g ≠ w.heap.size + 3 := by have := (World.ownsRow.lt h5 g rfl).1; omega
     have hgx : Bx ≠ g := fun h => by
      rcases l5 with l5 | l5
      ·exact hBxo (by rw [h]; exact l5)
      ·omega
     have yN : (ps.length : Int) < ((ps.length + 1 : Nat) : Int) := by omega
     have yN2 : (ps.length : Int) < (ps.length : Int) + 1 := by omega
     (refine tjA 9 ?_; (try simp only [Act.put, zA, zB, zC]))
     (refine tjA 11 ?_; (try simp only [Act.put, zA, zB, zC]))
     have hv5 : w5.heap[w.heap.size + 3]? = some (.cells #[.int .i64 5, .bool false, .int .i64 0, .string ⟨#[]⟩, .slice none 0 0, .slice sa ps.length sc] 25) := (g5.block _ (by omega) (fun h => by have := (hown _ h.symm).1; omega)).trans hv2
     have c5 : w5.cell? ⟨w.heap.size + 3, 5, none⟩ = some (.slice sa ps.length sc) := by rw [cell_of_block hv5]; rfl
     have f5 : w5.frozen? ⟨w.heap.size + 3, 5, none⟩ = false := frozen_of_block hv5 5
     obtain ⟨bc, bf⟩ := blank_cells h5 ho2.1
     have b0 : w5.cell? ⟨g, ps.length * 7, none⟩ = some (.string ⟨#[]⟩) := bc 0 _ rfl
     have b1 : w5.cell? ⟨g, ps.length * 7 + 1, none⟩ = some (.int .i64 0) := bc 1 _ rfl
     have b2 : w5.cell? ⟨g, ps.length * 7 + 2, none⟩ = some (.bool false) := bc 2 _ rfl
     have b3 : w5.cell? ⟨g, ps.length * 7 + 3, none⟩ = some (.int .i64 0) := bc 3 _ rfl
     have b4 : w5.cell? ⟨g, ps.length * 7 + 4, none⟩ = some (.string ⟨#[]⟩) := bc 4 _ rfl
     have b5 : w5.cell? ⟨g, ps.length * 7 + 5, none⟩ = some (.slice none 0 0) := bc 5 _ rfl
     have b6 : w5.cell? ⟨g, ps.length * 7 + 6, none⟩ = some (.slice none 0 0) := bc 6 _ rfl
     have E1 := end1 (n := ps.length) hgn hv5 (.slice (some ⟨g, 0, none⟩) (ps.length + 1) cap) (.string key) (.int .i64 yk) (.bool yb) (.int .i64 yi) (.string ys) (.slice yal ynl ycl) (.slice yam ynm ycm)
     have E2 := end2 (n := ps.length) hgn hv5 (.slice (some ⟨g, 0, none⟩) (ps.length + 1) cap) (.string key) (.int .i64 yk) (.bool yb) (.int .i64 yi) (.string ys) (.slice yal ynl ycl) (.slice yam ynm ycm)
     have oA : ∀ z, z ≠ g → (((((((w5.setCell ⟨g, ps.length * 7, none⟩ (.string key)).setCell ⟨g, ps.length * 7 + 1, none⟩ (.int .i64 yk)).setCell ⟨g, ps.length * 7 + 2, none⟩ (.bool yb)).setCell ⟨g, ps.length * 7 + 3, none⟩ (.int .i64 yi)).setCell ⟨g, ps.length * 7 + 4, none⟩ (.string ys)).setCell ⟨g, ps.length * 7 + 5, none⟩ (.slice yal ynl ycl)).setCell ⟨g, ps.length * 7 + 6, none⟩ (.slice yam ynm ycm)).heap[z]? = w5.heap[z]? := fun z hz => sets7_o w5 g ps.length (.string key) (.int .i64 yk) (.bool yb) (.int .i64 yi) (.string ys) (.slice yal ynl ycl) (.slice yam ynm ycm) z hz
     have oM : ∀ z, z ≠ w.heap.size + 3 → (w5.setCell ⟨w.heap.size + 3, 5, none⟩ (.slice (some ⟨g, 0, none⟩) (ps.length + 1) cap)).heap[z]? = w5.heap[z]? := fun z hz => set_other hz
     have a5 : (((((((w5.setCell ⟨g, ps.length * 7, none⟩ (.string key)).setCell ⟨g, ps.length * 7 + 1, none⟩ (.int .i64 yk)).setCell ⟨g, ps.length * 7 + 2, none⟩ (.bool yb)).setCell ⟨g, ps.length * 7 + 3, none⟩ (.int .i64 yi)).setCell ⟨g, ps.length * 7 + 4, none⟩ (.string ys)).setCell ⟨g, ps.length * 7 + 5, none⟩ (.slice yal ynl ycl)).setCell ⟨g, ps.length * 7 + 6, none⟩ (.slice yam ynm ycm)).cell? ⟨w.heap.size + 3, 5, none⟩ = some (.slice sa ps.length sc) := (World.cell?_of_block (w := w5) (a := ⟨w.heap.size + 3, 5, none⟩) (oA _ (fun h => hgn h.symm))).trans c5
     have af : (((((((w5.setCell ⟨g, ps.length * 7, none⟩ (.string key)).setCell ⟨g, ps.length * 7 + 1, none⟩ (.int .i64 yk)).setCell ⟨g, ps.length * 7 + 2, none⟩ (.bool yb)).setCell ⟨g, ps.length * 7 + 3, none⟩ (.int .i64 yi)).setCell ⟨g, ps.length * 7 + 4, none⟩ (.string ys)).setCell ⟨g, ps.length * 7 + 5, none⟩ (.slice yal ynl ycl)).setCell ⟨g, ps.length * 7 + 6, none⟩ (.slice yam ynm ycm)).frozen? ⟨w.heap.size + 3, 5, none⟩ = false := frozen_of_block ((oA _ (fun h => hgn h.symm)).trans hv5) 5
     have mf : ∀ ii, (w5.setCell ⟨w.heap.size + 3, 5, none⟩ (.slice (some ⟨g, 0, none⟩) (ps.length + 1) cap)).frozen? ⟨g, ii, none⟩ = false := fun ii => (frozen_other (oM g hgn) ii).trans (bf ii)
     have m0 : (w5.setCell ⟨w.heap.size + 3, 5, none⟩ (.slice (some ⟨g, 0, none⟩) (ps.length + 1) cap)).cell? ⟨g, ps.length * 7, none⟩ = some (.string ⟨#[]⟩) := (World.cell?_of_block (w := w5) (a := ⟨g, ps.length * 7, none⟩) (oM g hgn)).trans b0
     have m1 : (w5.setCell ⟨w.heap.size + 3, 5, none⟩ (.slice (some ⟨g, 0, none⟩) (ps.length + 1) cap)).cell? ⟨g, ps.length * 7 + 1, none⟩ = some (.int .i64 0) := (World.cell?_of_block (w := w5) (a := ⟨g, ps.length * 7 + 1, none⟩) (oM g hgn)).trans b1
     have m2 : (w5.setCell ⟨w.heap.size + 3, 5, none⟩ (.slice (some ⟨g, 0, none⟩) (ps.length + 1) cap)).cell? ⟨g, ps.length * 7 + 2, none⟩ = some (.bool false) := (World.cell?_of_block (w := w5) (a := ⟨g, ps.length * 7 + 2, none⟩) (oM g hgn)).trans b2
     have m3 : (w5.setCell ⟨w.heap.size + 3, 5, none⟩ (.slice (some ⟨g, 0, none⟩) (ps.length + 1) cap)).cell? ⟨g, ps.length * 7 + 3, none⟩ = some (.int .i64 0) := (World.cell?_of_block (w := w5) (a := ⟨g, ps.length * 7 + 3, none⟩) (oM g hgn)).trans b3
     have m4 : (w5.setCell ⟨w.heap.size + 3, 5, none⟩ (.slice (some ⟨g, 0, none⟩) (ps.length + 1) cap)).cell? ⟨g, ps.length * 7 + 4, none⟩ = some (.string ⟨#[]⟩) := (World.cell?_of_block (w := w5) (a := ⟨g, ps.length * 7 + 4, none⟩) (oM g hgn)).trans b4
     have m5 : (w5.setCell ⟨w.heap.size + 3, 5, none⟩ (.slice (some ⟨g, 0, none⟩) (ps.length + 1) cap)).cell? ⟨g, ps.length * 7 + 5, none⟩ = some (.slice none 0 0) := (World.cell?_of_block (w := w5) (a := ⟨g, ps.length * 7 + 5, none⟩) (oM g hgn)).trans b5
     have m6 : (w5.setCell ⟨w.heap.size + 3, 5, none⟩ (.slice (some ⟨g, 0, none⟩) (ps.length + 1) cap)).cell? ⟨g, ps.length * 7 + 6, none⟩ = some (.slice none 0 0) := (World.cell?_of_block (w := w5) (a := ⟨g, ps.length * 7 + 6, none⟩) (oM g hgn)).trans b6
     refine ryA [10, 12] ?_
     refine rA2 (fun K hK => ?_) fun K hK => ?_
     ·go_simp
      refine hK.out _ _ ((oA Bx hgx).trans hX5) (fun hHeld => ?_)
      clear hK K
      (try simp only [Act.put, zA, zB, zC])
      refine ryA [12] ?_
      refine rA1 fun K hK => ?_
      go_simp
      refine hK.out _ _ ((E1.o_ Bx hgx (by omega)).trans hX5) (fun hHeld => ?_)
      clear hK K
      (try simp only [Act.put, zA, zB, zC])
      refine wpAnyH_done (by kernel_rfl) ?_ _
      have R1 := round_end hS h6 bW rfl rfl ho hp hb2 hx2 h5 g5 l5 E1
      gi_wp2
      exact hfin _ R1
     ·go_simp
      refine hK.out _ _ ((oM Bx (by omega)).trans hX5) (fun hHeld => ?_)
      clear hK K
      (try simp only [Act.put, zA, zB, zC])
      refine ryA [10] ?_
      refine rA1 fun K hK => ?_
      go_simp
      refine hK.out _ _ ((E2.o_ Bx hgx (by omega)).trans hX5) (fun hHeld => ?_)
      clear hK K
      (try simp only [Act.put, zA, zB, zC])
      refine wpAnyH_done (by kernel_rfl) ?_ _
      have R1 := round_end hS h6 bW rfl rfl ho hp hb2 hx2 h5 g5 l5 E2
      gi_wp2
      exact hfin _ R1
   ·by_cases hzk : zk = 0
    ·subst hzk
     have hst : sty pchV (⟨key, va, vb, [.int .i64 yk, .bool yb, .int .i64 yi, .string ys, .slice yal ynl ycl, .slice yam ynm ycm], [.int .i64 0, .bool zb, .int .i64 zi, .string zs, .slice zal znl zcl, .slice zam znm zcm], xf, true⟩ : Pr) = [] := by rw [sty]; simp [hkb]
     rw [hst, List.append_nil] at hsn
     have R1 : KeepsFrom w6.heap.size W W ∧ Kx (w.heap.size + 6) (w.heap.size + 3) W W ∧ ∃ sl, W.heap[w.heap.size + 3]? = some (.cells #[.int .i64 5, .bool false, .int .i64 0, .string ⟨#[]⟩, .slice none 0 0, sl] 25) ∧ AccK S (w.heap.size + 6) (stys pchV ((pre ++ [(⟨⟨key, va, vb, [.int .i64 yk, .bool yb, .int .i64 yi, .string ys, .slice yal ynl ycl, .slice yam ynm ycm], [.int .i64 0, .bool zb, .int .i64 zi, .string zs, .slice zal znl zcl, .slice zam znm zcm], xf, true⟩, hG⟩ : {x : Pr // PrG m w S x})]).map (fun x => x.1))) sl W ∧ Below (w.heap.size + 3) w6 W := by
      refine ⟨KeepsFrom.refl _ _, Kx.refl _ _ _, sl, v1, ?_, bW⟩
      rw [List.map_append, show List.map (fun x : {x : Pr // PrG m w S x} => x.1) [⟨(⟨key, va, vb, [.int .i64 yk, .bool yb, .int .i64 yi, .string ys, .slice yal ynl ycl, .slice yam ynm ycm], [.int .i64 0, .bool zb, .int .i64 zi, .string zs, .slice zal znl zcl, .slice zam znm zcm], xf, true⟩ : Pr), hG⟩] = [(⟨key, va, vb, [.int .i64 yk, .bool yb, .int .i64 yi, .string ys, .slice yal ynl ycl, .slice yam ynm ycm], [.int .i64 0, .bool zb, .int .i64 zi, .string zs, .slice zal znl zcl, .slice zam znm zcm], xf, true⟩ : Pr)] from rfl, hsn]
      exact acc
     clear hsn hst hkb
     gi_wp2
     exact R1
    ·have hkz : ¬ kindOf vb = 0 := by rw [hkb]; exact hzk
     have yz : (zk == 0) = false := beq_eq_false_iff_ne.2 hzk
     have hst : sty pchV (⟨key, va, vb, [.int .i64 yk, .bool yb, .int .i64 yi, .string ys, .slice yal ynl ycl, .slice yam ynm ycm], [.int .i64 zk, .bool zb, .int .i64 zi, .string zs, .slice zal znl zcl, .slice zam znm zcm], xf, true⟩ : Pr) = [(key, pchV va vb)] := by rw [sty]; simp [hkz]
     rw [hst] at hsn
     obtain ⟨ps, sa, sc, rfl, eps, ho, hp⟩ := acc.open
     rw [← eps, List.length_map] at hlen
     have hown : ∀ r, (Value.slice sa ps.length sc).ownBlock = some r → w.heap.size + 6 ≤ r ∧ r < W.heap.size := World.ownsRow.lt ho
     have hBxo : (Value.slice sa ps.length sc).ownBlock ≠ some Bx := own_ne ho bX (by decide)
     have hfin : ∀ We, (KeepsFrom (w.heap.size + 6) W We ∧ Kx (w.heap.size + 6) (w.heap.size + 3) W We ∧ ∃ sl', We.heap[w.heap.size + 3]? = some (.cells #[.int .i64 5, .bool false, .int .i64 0, .string ⟨#[]⟩, .slice none 0 0, sl'] 25) ∧ AccK S (w.heap.size + 6) (ps.map (fun q => q.1) ++ [(key, pchV va vb)]) sl' We ∧ Below (w.heap.size + 3) w6 We) → KeepsFrom w6.heap.size W We ∧ Kx (w.heap.size + 6) (w.heap.size + 3) W We ∧ ∃ sl, We.heap[w.heap.size + 3]? = some (.cells #[.int .i64 5, .bool false, .int .i64 0, .string ⟨#[]⟩, .slice none 0 0, sl] 25) ∧ AccK S (w.heap.size + 6) (stys pchV ((pre ++ [(⟨⟨key, va, vb, [.int .i64 yk, .bool yb, .int .i64 yi, .string ys, .slice yal ynl ycl, .slice yam ynm ycm], [.int .i64 zk, .bool zb, .int .i64 zi, .string zs, .slice zal znl zcl, .slice zam znm zcm], xf, true⟩, hG⟩ : {x : Pr // PrG m w S x})]).map (fun x => x.1))) sl We ∧ Below (w.heap.size + 3) w6 We := fun We h => by
      rw [h6, List.map_append]
      obtain ⟨a1, a2, sl', a3, a4, a5⟩ := h
      refine ⟨a1, a2, sl', a3, ?_, a5⟩
      rw [show List.map (fun x : {x : Pr // PrG m w S x} => x.1) [⟨(⟨key, va, vb, [.int .i64 yk, .bool yb, .int .i64 yi, .string ys, .slice yal ynl ycl, .slice yam ynm ycm], [.int .i64 zk, .bool zb, .int .i64 zi, .string zs, .slice zal znl zcl, .slice zam znm zcm], xf, true⟩ : Pr), hG⟩] = [(⟨key, va, vb, [.int .i64 yk, .bool yb, .int .i64 yi, .string ys, .slice yal ynl ycl, .slice yam ynm ycm], [.int .i64 zk, .bool zb, .int .i64 zi, .string zs, .slice zal znl zcl, .slice zam znm zcm], xf, true⟩ : Pr)] from rfl, hsn, ← eps]
      exact a4
     have c3 : W.cell? ⟨w.heap.size + 3, 5, none⟩ = some (.slice sa ps.length sc) := by rw [cell_of_block v1]; rfl
     have c3a : ∀ o, (W.alloc o).cell? ⟨w.heap.size + 3, 5, none⟩ = some (.slice sa ps.length sc) := fun o => (World.cell?_of_block (w := W) (a := ⟨w.heap.size + 3, 5, none⟩) (Below.heap_alloc W o (w.heap.size + 3) (by omega))).trans c3
     obtain ⟨ym, hym, eym⟩ := hG.mem rfl
     have HIH : Hid (∀ X, Below W.heap.size W X → Calls Tryd.prog 34 #[.agg #[.int .i64 yk, .bool yb, .int .i64 yi, .string ys, .slice yal ynl ycl, .slice yam ynm ycm], .agg #[.int .i64 zk, .bool zb, .int .i64 zi, .string zs, .slice zal znl zcl, .slice zam znm zcm]] X (RpPost (pchV va vb) S X)) := fun X hb => by
      have hkX : ∀ y, S y → X.heap[y]? = w.heap[y]? := fun y hy => (hb.block y (by have := hS y hy; omega)).trans (hkW y hy)
      have h := ihm ym hym va S _ _ X hG.oa (by rw [eym]; exact hG.ob) (V.lies_keep (fun h => h) hkX (fun _ h => h) _ hG.a) (by rw [eym]; exact V.lies_keep (fun h => h) hkX (fun _ h => h) _ hG.b) (fun y hy => by have := hS y hy; have := hb.size; omega)
      rw [eym] at h
      exact h
     clear hkb hkz eym hym
     clear hsn
     gi_wp2
     refine round_held_drew (S := fun W => W.heap[Bx]? = some (.cells #[.int .i64 yk, .bool yb, .int .i64 yi, .string ys, .slice yal ynl ycl, .slice yam ynm ycm, .int .i64 zk, .bool zb, .int .i64 zi, .string zs, .slice zal znl zcl, .slice zam znm zcm, .bool xf, .bool true] 73)) (by kernel_rfl) (by kernel_rfl) (by rintro ⟨_, _, h⟩; exact h) bX (fun hHeld => ?_)
     (refine tjA 0 ?_; (try simp only [Act.put, zA, zB, zC]))
     (refine tjA 2 ?_; (try simp only [Act.put, zA, zB, zC]))
     (refine tjA 3 ?_; (try simp only [Act.put, zA, zB, zC]))
     (refine tkA 4 ?_ ?_ ?_; rotate_left 1; (intro W0 hSw; (obtain ⟨z0, z1, z2, z3, z4, z5, z6, z7, z8, z9, z10, z11, z12, z13⟩ := cells14 hSw); go_simp; (try with_reducible rfl)); (try simp only [Act.put, zA, zB, zC]))
     (refine tjA 5 ?_; (try simp only [Act.put, zA, zB, zC]))
     (refine tkA 6 ?_ ?_ ?_; rotate_left 1; (intro W0 hSw; (obtain ⟨z0, z1, z2, z3, z4, z5, z6, z7, z8, z9, z10, z11, z12, z13⟩ := cells14 hSw); go_simp; (try with_reducible rfl)); (try simp only [Act.put, zA, zB, zC]))
     have hb_Wd : Below W.heap.size W W.drew := (Below.refl _ W).drew
     generalize W.drew = Wd at *
     have hX_Wd := (hb_Wd.block Bx hBxs).trans bX
     have c_Wd := (World.cell?_of_block (w := W) (a := ⟨w.heap.size + 3, 5, none⟩) (hb_Wd.block (w.heap.size + 3) (by omega))).trans c3
     have hz_Wd := hb_Wd.size
     refine ryA [1, 7, 10] ?_
     refine rA3 (fun K hK => ?_) (fun K hK => ?_) fun K hK => ?_
     ·go_simp
      refine hK.out _ _ hX_Wd (fun hHeld => ?_)
      clear hK K
      (try simp only [Act.put, zA, zB, zC])
      (refine tjA 9 ?_; (try simp only [Act.put, zA, zB, zC]))
      refine ryA [7, 10] ?_
      refine rA2 (fun K hK => ?_) fun K hK => ?_
      ·go_simp
       refine (HIH.out Wd hb_Wd).mono ?_
       rintro e_ Wdc ⟨cu, rfl, hu, bu⟩
       obtain ⟨uk, ub, ui, us, ual, unl, ucl, uam, unm, ucm, rfl⟩ := V.ten hu
       have hb_Wdc := hb_Wd.trans (bu.mono (by omega))
       have hu_Wdc := V.lies_keep (S' := fun y => S y ∨ (W.heap.size ≤ y ∧ y < Wdc.heap.size)) (fun h => h) (fun _ _ => rfl) (fun y hy => hy.elim .inl (fun h => .inr ⟨by have := h.1; omega, h.2⟩)) _ hu
       clear hu
       clear bu
       refine hK.out _ _ ((hb_Wdc.block Bx hBxs).trans bX) (fun hHeld => ?_)
       clear hK K
       (try simp only [Act.put, zA, zB, zC])
       (refine tjA 8 ?_; (try simp only [Act.put, zA, zB, zC]))
       have hX_Wdc := (hb_Wdc.block Bx hBxs).trans bX
       have c_Wdc := (World.cell?_of_block (w := W) (a := ⟨w.heap.size + 3, 5, none⟩) (hb_Wdc.block (w.heap.size + 3) (by omega))).trans c3
       have hz_Wdc := hb_Wdc.size
       refine ryA [10] ?_
       refine rA1 fun K hK => ?_
       ·have hb_Wdcn : Below W.heap.size W (Wdc.alloc (.cells #[.string ⟨#[]⟩, .int .i64 0, .bool false, .int .i64 0, .string ⟨#[]⟩, .slice none 0 0, .slice none 0 0] 57)) := hb_Wdc.trans ((one_belowG Wdc _).mono (by omega))
        have nb := heap_alloc_new Wdc (.cells #[.string ⟨#[]⟩, .int .i64 0, .bool false, .int .i64 0, .string ⟨#[]⟩, .slice none 0 0, .slice none 0 0] 57)
        have hY_ := (hb_Wdcn.block Bx hBxs).trans bX
        have hu_Wdcn := V.lies_keep (S' := fun y => S y ∨ (W.heap.size ≤ y ∧ y < (Wdc.alloc (.cells #[.string ⟨#[]⟩, .int .i64 0, .bool false, .int .i64 0, .string ⟨#[]⟩, .slice none 0 0, .slice none 0 0] 57)).heap.size)) (fun h => h) (fun y hy => Below.heap_alloc Wdc (.cells #[.string ⟨#[]⟩, .int .i64 0, .bool false, .int .i64 0, .string ⟨#[]⟩, .slice none 0 0, .slice none 0 0] 57) y (by rcases hy with hy | hy <;> first | omega | (have := hS y hy; omega))) (fun y hy => hy.elim .inl (fun h => .inr ⟨h.1, by rw [alloc_size]; omega⟩)) _ hu_Wdc
        go_simp
        refine hK.out _ _ hY_ (fun hHeld => ?_)
        clear hK K
        (try simp only [Act.put, zA, zB, zC])
        clear hY_
        generalize (Wdc.alloc (.cells #[.string ⟨#[]⟩, .int .i64 0, .bool false, .int .i64 0, .string ⟨#[]⟩, .slice none 0 0, .slice none 0 0] 57)) = Wdcn at *
        have hb2 := hb_Wdcn
        have hz2 := hb2.size
        have hX2 := (hb2.block Bx hBxs).trans bX
        have hv2 := (hb2.block (w.heap.size + 3) (by omega)).trans v1
        have ho2 := ho.below hb2
        unfold OwnC at ho2
        rw [List.length_map] at ho2
        have hx2 : PM Wdcn (fun y => S y ∨ (W.heap.size ≤ y ∧ y < Wdcn.heap.size)) ((key, pchV va vb), [.string key, .int .i64 uk, .bool ub, .int .i64 ui, .string us, .slice ual unl ucl, .slice uam unm ucm]) := ⟨_, rfl, hG.k, hu_Wdcn⟩
        refine ryA [11] ?_
        refine rA1 fun K hK => ?_
        refine step_blank rfl (.tmp 41) (.tmp 50) rfl (w.heap.size + 6) (.slice sa ps.length sc) ps.length _ rfl ho2 Wdc.heap.size rfl nb (by omega) (by omega) ?_
        intro g cap w5 h5 g5 l5
        have hX5 : w5.heap[Bx]? = some (.cells #[.int .i64 yk, .bool yb, .int .i64 yi, .string ys, .slice yal ynl ycl, .slice yam ynm ycm, .int .i64 zk, .bool zb, .int .i64 zi, .string zs, .slice zal znl zcl, .slice zam znm zcm, .bool xf, .bool true] 73) := (g5.block Bx (by omega) (fun h => hBxo h.symm)).trans hX2
        refine hK.out _ _ hX5 (fun hHeld => ?_)
        clear hK K
        (try simp only [Act.put, zA, zB, zC])
        have hgn : g ≠ w.heap.size + 3 := by have := (World.ownsRow.lt h5 g rfl).1; omega
        have hgx : Bx ≠ g := fun h => by
         rcases l5 with l5 | l5
         ·exact hBxo (by rw [h]; exact l5)
         ·omega
        have yN : (ps.length : Int) < ((ps.length + 1 : Nat) : Int) := by omega
        have yN2 : (ps.length : Int) < (ps.length : Int) + 1 := by omega
        (refine tjA 12 ?_; (try simp only [Act.put, zA, zB, zC]))
        (refine tjA 14 ?_; (try simp only [Act.put, zA, zB, zC]))
        have hv5 : w5.heap[w.heap.size + 3]? = some (.cells #[.int .i64 5, .bool false, .int .i64 0, .string ⟨#[]⟩, .slice none 0 0, .slice sa ps.length sc] 25) := (g5.block _ (by omega) (fun h => by have := (hown _ h.symm).1; omega)).trans hv2
        have c5 : w5.cell? ⟨w.heap.size + 3, 5, none⟩ = some (.slice sa ps.length sc) := by rw [cell_of_block hv5]; rfl
        have f5 : w5.frozen? ⟨w.heap.size + 3, 5, none⟩ = false := frozen_of_block hv5 5
        obtain ⟨bc, bf⟩ := blank_cells h5 ho2.1
        have b0 : w5.cell? ⟨g, ps.length * 7, none⟩ = some (.string ⟨#[]⟩) := bc 0 _ rfl
        have b1 : w5.cell? ⟨g, ps.length * 7 + 1, none⟩ = some (.int .i64 0) := bc 1 _ rfl
        have b2 : w5.cell? ⟨g, ps.length * 7 + 2, none⟩ = some (.bool false) := bc 2 _ rfl
        have b3 : w5.cell? ⟨g, ps.length * 7 + 3, none⟩ = some (.int .i64 0) := bc 3 _ rfl
        have b4 : w5.cell? ⟨g, ps.length * 7 + 4, none⟩ = some (.string ⟨#[]⟩) := bc 4 _ rfl
        have b5 : w5.cell? ⟨g, ps.length * 7 + 5, none⟩ = some (.slice none 0 0) := bc 5 _ rfl
        have b6 : w5.cell? ⟨g, ps.length * 7 + 6, none⟩ = some (.slice none 0 0) := bc 6 _ rfl
        have E1 := end1 (n := ps.length) hgn hv5 (.slice (some ⟨g, 0, none⟩) (ps.length + 1) cap) (.string key) (.int .i64 uk) (.bool ub) (.int .i64 ui) (.string us) (.slice ual unl ucl) (.slice uam unm ucm)
        have E2 := end2 (n := ps.length) hgn hv5 (.slice (some ⟨g, 0, none⟩) (ps.length + 1) cap) (.string key) (.int .i64 uk) (.bool ub) (.int .i64 ui) (.string us) (.slice ual unl ucl) (.slice uam unm ucm)
        have oA : ∀ z, z ≠ g → (((((((w5.setCell ⟨g, ps.length * 7, none⟩ (.string key)).setCell ⟨g, ps.length * 7 + 1, none⟩ (.int .i64 uk)).setCell ⟨g, ps.length * 7 + 2, none⟩ (.bool ub)).setCell ⟨g, ps.length * 7 + 3, none⟩ (.int .i64 ui)).setCell ⟨g, ps.length * 7 + 4, none⟩ (.string us)).setCell ⟨g, ps.length * 7 + 5, none⟩ (.slice ual unl ucl)).setCell ⟨g, ps.length * 7 + 6, none⟩ (.slice uam unm ucm)).heap[z]? = w5.heap[z]? := fun z hz => sets7_o w5 g ps.length (.string key) (.int .i64 uk) (.bool ub) (.int .i64 ui) (.string us) (.slice ual unl ucl) (.slice uam unm ucm) z hz
        have oM : ∀ z, z ≠ w.heap.size + 3 → (w5.setCell ⟨w.heap.size + 3, 5, none⟩ (.slice (some ⟨g, 0, none⟩) (ps.length + 1) cap)).heap[z]? = w5.heap[z]? := fun z hz => set_other hz
        have a5 : (((((((w5.setCell ⟨g, ps.length * 7, none⟩ (.string key)).setCell ⟨g, ps.length * 7 + 1, none⟩ (.int .i64 uk)).setCell ⟨g, ps.length * 7 + 2, none⟩ (.bool ub)).setCell ⟨g, ps.length * 7 + 3, none⟩ (.int .i64 ui)).setCell ⟨g, ps.length * 7 + 4, none⟩ (.string us)).setCell ⟨g, ps.length * 7 + 5, none⟩ (.slice ual unl ucl)).setCell ⟨g, ps.length * 7 + 6, none⟩ (.slice uam unm ucm)).cell? ⟨w.heap.size + 3, 5, none⟩ = some (.slice sa ps.length sc) := (World.cell?_of_block (w := w5) (a := ⟨w.heap.size + 3, 5, none⟩) (oA _ (fun h => hgn h.symm))).trans c5
        have af : (((((((w5.setCell ⟨g, ps.length * 7, none⟩ (.string key)).setCell ⟨g, ps.length * 7 + 1, none⟩ (.int .i64 uk)).setCell ⟨g, ps.length * 7 + 2, none⟩ (.bool ub)).setCell ⟨g, ps.length * 7 + 3, none⟩ (.int .i64 ui)).setCell ⟨g, ps.length * 7 + 4, none⟩ (.string us)).setCell ⟨g, ps.length * 7 + 5, none⟩ (.slice ual unl ucl)).setCell ⟨g, ps.length * 7 + 6, none⟩ (.slice uam unm ucm)).frozen? ⟨w.heap.size + 3, 5, none⟩ = false := frozen_of_block ((oA _ (fun h => hgn h.symm)).trans hv5) 5
        have mf : ∀ ii, (w5.setCell ⟨w.heap.size + 3, 5, none⟩ (.slice (some ⟨g, 0, none⟩) (ps.length + 1) cap)).frozen? ⟨g, ii, none⟩ = false := fun ii => (frozen_other (oM g hgn) ii).trans (bf ii)
        have m0 : (w5.setCell ⟨w.heap.size + 3, 5, none⟩ (.slice (some ⟨g, 0, none⟩) (ps.length + 1) cap)).cell? ⟨g, ps.length * 7, none⟩ = some (.string ⟨#[]⟩) := (World.cell?_of_block (w := w5) (a := ⟨g, ps.length * 7, none⟩) (oM g hgn)).trans b0
        have m1 : (w5.setCell ⟨w.heap.size + 3, 5, none⟩ (.slice (some ⟨g, 0, none⟩) (ps.length + 1) cap)).cell? ⟨g, ps.length * 7 + 1, none⟩ = some (.int .i64 0) := (World.cell?_of_block (w := w5) (a := ⟨g, ps.length * 7 + 1, none⟩) (oM g hgn)).trans b1
        have m2 : (w5.setCell ⟨w.heap.size + 3, 5, none⟩ (.slice (some ⟨g, 0, none⟩) (ps.length + 1) cap)).cell? ⟨g, ps.length * 7 + 2, none⟩ = some (.bool false) := (World.cell?_of_block (w := w5) (a := ⟨g, ps.length * 7 + 2, none⟩) (oM g hgn)).trans b2
        have m3 : (w5.setCell ⟨w.heap.size + 3, 5, none⟩ (.slice (some ⟨g, 0, none⟩) (ps.length + 1) cap)).cell? ⟨g, ps.length * 7 + 3, none⟩ = some (.int .i64 0) := (World.cell?_of_block (w := w5) (a := ⟨g, ps.length * 7 + 3, none⟩) (oM g hgn)).trans b3
        have m4 : (w5.setCell ⟨w.heap.size + 3, 5, none⟩ (.slice (some ⟨g, 0, none⟩) (ps.length + 1) cap)).cell? ⟨g, ps.length * 7 + 4, none⟩ = some (.string ⟨#[]⟩) := (World.cell?_of_block (w := w5) (a := ⟨g, ps.length * 7 + 4, none⟩) (oM g hgn)).trans b4
        have m5 : (w5.setCell ⟨w.heap.size + 3, 5, none⟩ (.slice (some ⟨g, 0, none⟩) (ps.length + 1) cap)).cell? ⟨g, ps.length * 7 + 5, none⟩ = some (.slice none 0 0) := (World.cell?_of_block (w := w5) (a := ⟨g, ps.length * 7 + 5, none⟩) (oM g hgn)).trans b5
        have m6 : (w5.setCell ⟨w.heap.size + 3, 5, none⟩ (.slice (some ⟨g, 0, none⟩) (ps.length + 1) cap)).cell? ⟨g, ps.length * 7 + 6, none⟩ = some (.slice none 0 0) := (World.cell?_of_block (w := w5) (a := ⟨g, ps.length * 7 + 6, none⟩) (oM g hgn)).trans b6
        refine ryA [13, 15] ?_
        refine rA2 (fun K hK => ?_) fun K hK => ?_
        ·go_simp
         refine hK.out _ _ ((oA Bx hgx).trans hX5) (fun hHeld => ?_)
         clear hK K
         (try simp only [Act.put, zA, zB, zC])
         refine ryA [15] ?_
         refine rA1 fun K hK => ?_
         go_simp
         refine hK.out _ _ ((E1.o_ Bx hgx (by omega)).trans hX5) (fun hHeld => ?_)
         clear hK K
         (try simp only [Act.put, zA, zB, zC])
         refine wpAnyH_done (by kernel_rfl) ?_ _
         have R1 := round_end hS h6 bW rfl rfl ho hp hb2 hx2 h5 g5 l5 E1
         gi_wp2
         exact hfin _ R1
        ·go_simp
         refine hK.out _ _ ((oM Bx (by omega)).trans hX5) (fun hHeld => ?_)
         clear hK K
         (try simp only [Act.put, zA, zB, zC])
         refine ryA [13] ?_
         refine rA1 fun K hK => ?_
         go_simp
         refine hK.out _ _ ((E2.o_ Bx hgx (by omega)).trans hX5) (fun hHeld => ?_)
         clear hK K
         (try simp only [Act.put, zA, zB, zC])
         refine wpAnyH_done (by kernel_rfl) ?_ _
         have R1 := round_end hS h6 bW rfl rfl ho hp hb2 hx2 h5 g5 l5 E2
         gi_wp2
         exact hfin _ R1
      ·have hb_Wdn : Below W.heap.size W (Wd.alloc (.cells #[.string ⟨#[]⟩, .int .i64 0, .bool false, .int .i64 0, .string ⟨#[]⟩, .slice none 0 0, .slice none 0 0] 57)) := hb_Wd.trans ((one_belowG Wd _).mono (by omega))
       have nb := heap_alloc_new Wd (.cells #[.string ⟨#[]⟩, .int .i64 0, .bool false, .int .i64 0, .string ⟨#[]⟩, .slice none 0 0, .slice none 0 0] 57)
       have hY_ := (hb_Wdn.block Bx hBxs).trans bX
       go_simp
       refine hK.out _ _ hY_ (fun hHeld => ?_)
       clear hK K
       (try simp only [Act.put, zA, zB, zC])
       clear hY_
       generalize (Wd.alloc (.cells #[.string ⟨#[]⟩, .int .i64 0, .bool false, .int .i64 0, .string ⟨#[]⟩, .slice none 0 0, .slice none 0 0] 57)) = Wdn at *
       have hX_Wdn := (hb_Wdn.block Bx hBxs).trans bX
       have c_Wdn := (World.cell?_of_block (w := W) (a := ⟨w.heap.size + 3, 5, none⟩) (hb_Wdn.block (w.heap.size + 3) (by omega))).trans c3
       have hz_Wdn := hb_Wdn.size
       refine ryA [7] ?_
       refine rA1 fun K hK => ?_
       ·go_simp
        refine (HIH.out Wdn hb_Wdn).mono ?_
        rintro e_ Wdnc ⟨cu, rfl, hu, bu⟩
        obtain ⟨uk, ub, ui, us, ual, unl, ucl, uam, unm, ucm, rfl⟩ := V.ten hu
        have hb_Wdnc := hb_Wdn.trans (bu.mono (by omega))
        have hu_Wdnc := V.lies_keep (S' := fun y => S y ∨ (W.heap.size ≤ y ∧ y < Wdnc.heap.size)) (fun h => h) (fun _ _ => rfl) (fun y hy => hy.elim .inl (fun h => .inr ⟨by have := h.1; omega, h.2⟩)) _ hu
        clear hu
        have nb := (bu.block _ (by have := (Array.getElem?_eq_some_iff.1 nb).1; omega)).trans nb
        clear bu
        refine hK.out _ _ ((hb_Wdnc.block Bx hBxs).trans bX) (fun hHeld => ?_)
        clear hK K
        (try simp only [Act.put, zA, zB, zC])
        (refine tjA 8 ?_; (try simp only [Act.put, zA, zB, zC]))
        have hb2 := hb_Wdnc
        have hz2 := hb2.size
        have hX2 := (hb2.block Bx hBxs).trans bX
        have hv2 := (hb2.block (w.heap.size + 3) (by omega)).trans v1
        have ho2 := ho.below hb2
        unfold OwnC at ho2
        rw [List.length_map] at ho2
        have hx2 : PM Wdnc (fun y => S y ∨ (W.heap.size ≤ y ∧ y < Wdnc.heap.size)) ((key, pchV va vb), [.string key, .int .i64 uk, .bool ub, .int .i64 ui, .string us, .slice ual unl ucl, .slice uam unm ucm]) := ⟨_, rfl, hG.k, hu_Wdnc⟩
        refine ryA [11] ?_
        refine rA1 fun K hK => ?_
        refine step_blank rfl (.tmp 41) (.tmp 50) rfl (w.heap.size + 6) (.slice sa ps.length sc) ps.length _ rfl ho2 Wd.heap.size rfl nb (by omega) (by omega) ?_
        intro g cap w5 h5 g5 l5
        have hX5 : w5.heap[Bx]? = some (.cells #[.int .i64 yk, .bool yb, .int .i64 yi, .string ys, .slice yal ynl ycl, .slice yam ynm ycm, .int .i64 zk, .bool zb, .int .i64 zi, .string zs, .slice zal znl zcl, .slice zam znm zcm, .bool xf, .bool true] 73) := (g5.block Bx (by omega) (fun h => hBxo h.symm)).trans hX2
        refine hK.out _ _ hX5 (fun hHeld => ?_)
        clear hK K
        (try simp only [Act.put, zA, zB, zC])
        have hgn : g ≠ w.heap.size + 3 := by have := (World.ownsRow.lt h5 g rfl).1; omega
        have hgx : Bx ≠ g := fun h => by
         rcases l5 with l5 | l5
         ·exact hBxo (by rw [h]; exact l5)
         ·omega
        have yN : (ps.length : Int) < ((ps.length + 1 : Nat) : Int) := by omega
        have yN2 : (ps.length : Int) < (ps.length : Int) + 1 := by omega
        (refine tjA 12 ?_; (try simp only [Act.put, zA, zB, zC]))
        (refine tjA 14 ?_; (try simp only [Act.put, zA, zB, zC]))
        have hv5 : w5.heap[w.heap.size + 3]? = some (.cells #[.int .i64 5, .bool false, .int .i64 0, .string ⟨#[]⟩, .slice none 0 0, .slice sa ps.length sc] 25) := (g5.block _ (by omega) (fun h => by have := (hown _ h.symm).1; omega)).trans hv2
        have c5 : w5.cell? ⟨w.heap.size + 3, 5, none⟩ = some (.slice sa ps.length sc) := by rw [cell_of_block hv5]; rfl
        have f5 : w5.frozen? ⟨w.heap.size + 3, 5, none⟩ = false := frozen_of_block hv5 5
        obtain ⟨bc, bf⟩ := blank_cells h5 ho2.1
        have b0 : w5.cell? ⟨g, ps.length * 7, none⟩ = some (.string ⟨#[]⟩) := bc 0 _ rfl
        have b1 : w5.cell? ⟨g, ps.length * 7 + 1, none⟩ = some (.int .i64 0) := bc 1 _ rfl
        have b2 : w5.cell? ⟨g, ps.length * 7 + 2, none⟩ = some (.bool false) := bc 2 _ rfl
        have b3 : w5.cell? ⟨g, ps.length * 7 + 3, none⟩ = some (.int .i64 0) := bc 3 _ rfl
        have b4 : w5.cell? ⟨g, ps.length * 7 + 4, none⟩ = some (.string ⟨#[]⟩) := bc 4 _ rfl
        have b5 : w5.cell? ⟨g, ps.length * 7 + 5, none⟩ = some (.slice none 0 0) := bc 5 _ rfl
        have b6 : w5.cell? ⟨g, ps.length * 7 + 6, none⟩ = some (.slice none 0 0) := bc 6 _ rfl
        have E1 := end1 (n := ps.length) hgn hv5 (.slice (some ⟨g, 0, none⟩) (ps.length + 1) cap) (.string key) (.int .i64 uk) (.bool ub) (.int .i64 ui) (.string us) (.slice ual unl ucl) (.slice uam unm ucm)
        have E2 := end2 (n := ps.length) hgn hv5 (.slice (some ⟨g, 0, none⟩) (ps.length + 1) cap) (.string key) (.int .i64 uk) (.bool ub) (.int .i64 ui) (.string us) (.slice ual unl ucl) (.slice uam unm ucm)
        have oA : ∀ z, z ≠ g → (((((((w5.setCell ⟨g, ps.length * 7, none⟩ (.string key)).setCell ⟨g, ps.length * 7 + 1, none⟩ (.int .i64 uk)).setCell ⟨g, ps.length * 7 + 2, none⟩ (.bool ub)).setCell ⟨g, ps.length * 7 + 3, none⟩ (.int .i64 ui)).setCell ⟨g, ps.length * 7 + 4, none⟩ (.string us)).setCell ⟨g, ps.length * 7 + 5, none⟩ (.slice ual unl ucl)).setCell ⟨g, ps.length * 7 + 6, none⟩ (.slice uam unm ucm)).heap[z]? = w5.heap[z]? := fun z hz => sets7_o w5 g ps.length (.string key) (.int .i64 uk) (.bool ub) (.int .i64 ui) (.string us) (.slice ual unl ucl) (.slice uam unm ucm) z hz
        have oM : ∀ z, z ≠ w.heap.size + 3 → (w5.setCell ⟨w.heap.size + 3, 5, none⟩ (.slice (some ⟨g, 0, none⟩) (ps.length + 1) cap)).heap[z]? = w5.heap[z]? := fun z hz => set_other hz
        have a5 : (((((((w5.setCell ⟨g, ps.length * 7, none⟩ (.string key)).setCell ⟨g, ps.length * 7 + 1, none⟩ (.int .i64 uk)).setCell ⟨g, ps.length * 7 + 2, none⟩ (.bool ub)).setCell ⟨g, ps.length * 7 + 3, none⟩ (.int .i64 ui)).setCell ⟨g, ps.length * 7 + 4, none⟩ (.string us)).setCell ⟨g, ps.length * 7 + 5, none⟩ (.slice ual unl ucl)).setCell ⟨g, ps.length * 7 + 6, none⟩ (.slice uam unm ucm)).cell? ⟨w.heap.size + 3, 5, none⟩ = some (.slice sa ps.length sc) := (World.cell?_of_block (w := w5) (a := ⟨w.heap.size + 3, 5, none⟩) (oA _ (fun h => hgn h.symm))).trans c5
        have af : (((((((w5.setCell ⟨g, ps.length * 7, none⟩ (.string key)).setCell ⟨g, ps.length * 7 + 1, none⟩ (.int .i64 uk)).setCell ⟨g, ps.length * 7 + 2, none⟩ (.bool ub)).setCell ⟨g, ps.length * 7 + 3, none⟩ (.int .i64 ui)).setCell ⟨g, ps.length * 7 + 4, none⟩ (.string us)).setCell ⟨g, ps.length * 7 + 5, none⟩ (.slice ual unl ucl)).setCell ⟨g, ps.length * 7 + 6, none⟩ (.slice uam unm ucm)).frozen? ⟨w.heap.size + 3, 5, none⟩ = false := frozen_of_block ((oA _ (fun h => hgn h.symm)).trans hv5) 5
        have mf : ∀ ii, (w5.setCell ⟨w.heap.size + 3, 5, none⟩ (.slice (some ⟨g, 0, none⟩) (ps.length + 1) cap)).frozen? ⟨g, ii, none⟩ = false := fun ii => (frozen_other (oM g hgn) ii).trans (bf ii)
        have m0 : (w5.setCell ⟨w.heap.size + 3, 5, none⟩ (.slice (some ⟨g, 0, none⟩) (ps.length + 1) cap)).cell? ⟨g, ps.length * 7, none⟩ = some (.string ⟨#[]⟩) := (World.cell?_of_block (w := w5) (a := ⟨g, ps.length * 7, none⟩) (oM g hgn)).trans b0
        have m1 : (w5.setCell ⟨w.heap.size + 3, 5, none⟩ (.slice (some ⟨g, 0, none⟩) (ps.length + 1) cap)).cell? ⟨g, ps.length * 7 + 1, none⟩ = some (.int .i64 0) := (World.cell?_of_block (w := w5) (a := ⟨g, ps.length * 7 + 1, none⟩) (oM g hgn)).trans b1
        have m2 : (w5.setCell ⟨w.heap.size + 3, 5, none⟩ (.slice (some ⟨g, 0, none⟩) (ps.length + 1) cap)).cell? ⟨g, ps.length * 7 + 2, none⟩ = some (.bool false) := (World.cell?_of_block (w := w5) (a := ⟨g, ps.length * 7 + 2, none⟩) (oM g hgn)).trans b2
        have m3 : (w5.setCell ⟨w.heap.size + 3, 5, none⟩ (.slice (some ⟨g, 0, none⟩) (ps.length + 1) cap)).cell? ⟨g, ps.length * 7 + 3, none⟩ = some (.int .i64 0) := (World.cell?_of_block (w := w5) (a := ⟨g, ps.length * 7 + 3, none⟩) (oM g hgn)).trans b3
        have m4 : (w5.setCell ⟨w.heap.size + 3, 5, none⟩ (.slice (some ⟨g, 0, none⟩) (ps.length + 1) cap)).cell? ⟨g, ps.length * 7 + 4, none⟩ = some (.string ⟨#[]⟩) := (World.cell?_of_block (w := w5) (a := ⟨g, ps.length * 7 + 4, none⟩) (oM g hgn)).trans b4
        have m5 : (w5.setCell ⟨w.heap.size + 3, 5, none⟩ (.slice (some ⟨g, 0, none⟩) (ps.length + 1) cap)).cell? ⟨g, ps.length * 7 + 5, none⟩ = some (.slice none 0 0) := (World.cell?_of_block (w := w5) (a := ⟨g, ps.length * 7 + 5, none⟩) (oM g hgn)).trans b5
        have m6 : (w5.setCell ⟨w.heap.size + 3, 5, none⟩ (.slice (some ⟨g, 0, none⟩) (ps.length + 1) cap)).cell? ⟨g, ps.length * 7 + 6, none⟩ = some (.slice none 0 0) := (World.cell?_of_block (w := w5) (a := ⟨g, ps.length * 7 + 6, none⟩) (oM g hgn)).trans b6
        refine ryA [13, 15] ?_
        refine rA2 (fun K hK => ?_) fun K hK => ?_
        ·go_simp
         refine hK.out _ _ ((oA Bx hgx).trans hX5) (fun hHeld => ?_)
         clear hK K
         (try simp only [Act.put, zA, zB, zC])
         refine ryA [15] ?_
         refine rA1 fun K hK => ?_
         go_simp
         refine hK.out _ _ ((E1.o_ Bx hgx (by omega)).trans hX5) (fun hHeld => ?_)
         clear hK K
         (try simp only [Act.put, zA, zB, zC])
         refine wpAnyH_done (by kernel_rfl) ?_ _
         have R1 := round_end hS h6 bW rfl rfl ho hp hb2 hx2 h5 g5 l5 E1
         gi_wp2
         exact hfin _ R1
        ·go_simp
         refine hK.out _ _ ((oM Bx (by omega)).trans hX5) (fun hHeld => ?_)
         clear hK K
         (try simp only [Act.put, zA, zB, zC])
         refine ryA [13] ?_
         refine rA1 fun K hK => ?_
         go_simp
         refine hK.out _ _ ((E2.o_ Bx hgx (by omega)).trans hX5) (fun hHeld => ?_)
         clear hK K
         (try simp only [Act.put, zA, zB, zC])
         refine wpAnyH_done (by kernel_rfl) ?_ _
         have R1 := round_end hS h6 bW rfl rfl ho hp hb2 hx2 h5 g5 l5 E2
         gi_wp2
         exact hfin _ R1
     ·go_simp
      refine (HIH.out Wd hb_Wd).mono ?_
      rintro e_ Wdc ⟨cu, rfl, hu, bu⟩
      obtain ⟨uk, ub, ui, us, ual, unl, ucl, uam, unm, ucm, rfl⟩ := V.ten hu
      have hb_Wdc := hb_Wd.trans (bu.mono (by omega))
      have hu_Wdc := V.lies_keep (S' := fun y => S y ∨ (W.heap.size ≤ y ∧ y < Wdc.heap.size)) (fun h => h) (fun _ _ => rfl) (fun y hy => hy.elim .inl (fun h => .inr ⟨by have := h.1; omega, h.2⟩)) _ hu
      clear hu
      clear bu
      refine hK.out _ _ ((hb_Wdc.block Bx hBxs).trans bX) (fun hHeld => ?_)
      clear hK K
      (try simp only [Act.put, zA, zB, zC])
      (refine tjA 8 ?_; (try simp only [Act.put, zA, zB, zC]))
      have hX_Wdc := (hb_Wdc.block Bx hBxs).trans bX
      have c_Wdc := (World.cell?_of_block (w := W) (a := ⟨w.heap.size + 3, 5, none⟩) (hb_Wdc.block (w.heap.size + 3) (by omega))).trans c3
      have hz_Wdc := hb_Wdc.size
      refine ryA [1, 10] ?_
      refine rA2 (fun K hK => ?_) fun K hK => ?_
      ·go_simp
       refine hK.out _ _ hX_Wdc (fun hHeld => ?_)
       clear hK K
       (try simp only [Act.put, zA, zB, zC])
       (refine tjA 9 ?_; (try simp only [Act.put, zA, zB, zC]))
       refine ryA [10] ?_
       refine rA1 fun K hK => ?_
       ·have hb_Wdcn : Below W.heap.size W (Wdc.alloc (.cells #[.string ⟨#[]⟩, .int .i64 0, .bool false, .int .i64 0, .string ⟨#[]⟩, .slice none 0 0, .slice none 0 0] 57)) := hb_Wdc.trans ((one_belowG Wdc _).mono (by omega))
        have nb := heap_alloc_new Wdc (.cells #[.string ⟨#[]⟩, .int .i64 0, .bool false, .int .i64 0, .string ⟨#[]⟩, .slice none 0 0, .slice none 0 0] 57)
        have hY_ := (hb_Wdcn.block Bx hBxs).trans bX
        have hu_Wdcn := V.lies_keep (S' := fun y => S y ∨ (W.heap.size ≤ y ∧ y < (Wdc.alloc (.cells #[.string ⟨#[]⟩, .int .i64 0, .bool false, .int .i64 0, .string ⟨#[]⟩, .slice none 0 0, .slice none 0 0] 57)).heap.size)) (fun h => h) (fun y hy => Below.heap_alloc Wdc (.cells #[.string ⟨#[]⟩, .int .i64 0, .bool false, .int .i64 0, .string ⟨#[]⟩, .slice none 0 0, .slice none 0 0] 57) y (by rcases hy with hy | hy <;> first | omega | (have := hS y hy; omega))) (fun y hy => hy.elim .inl (fun h => .inr ⟨h.1, by rw [alloc_size]; omega⟩)) _ hu_Wdc
        go_simp
        refine hK.out _ _ hY_ (fun hHeld => ?_)
        clear hK K
        (try simp only [Act.put, zA, zB, zC])
        clear hY_
        generalize (Wdc.alloc (.cells #[.string ⟨#[]⟩, .int .i64 0, .bool false, .int .i64 0, .string ⟨#[]⟩, .slice none 0 0, .slice none 0 0] 57)) = Wdcn at *
        have hb2 := hb_Wdcn
        have hz2 := hb2.size
        have hX2 := (hb2.block Bx hBxs).trans bX
        have hv2 := (hb2.block (w.heap.size + 3) (by omega)).trans v1
        have ho2 := ho.below hb2
        unfold OwnC at ho2
        rw [List.length_map] at ho2
        have hx2 : PM Wdcn (fun y => S y ∨ (W.heap.size ≤ y ∧ y < Wdcn.heap.size)) ((key, pchV va vb), [.string key, .int .i64 uk, .bool ub, .int .i64 ui, .string us, .slice ual unl ucl, .slice uam unm ucm]) := ⟨_, rfl, hG.k, hu_Wdcn⟩
        refine ryA [11] ?_
        refine rA1 fun K hK => ?_
        refine step_blank rfl (.tmp 41) (.tmp 50) rfl (w.heap.size + 6) (.slice sa ps.length sc) ps.length _ rfl ho2 Wdc.heap.size rfl nb (by omega) (by omega) ?_
        intro g cap w5 h5 g5 l5
        have hX5 : w5.heap[Bx]? = some (.cells #[.int .i64 yk, .bool yb, .int .i64 yi, .string ys, .slice yal ynl ycl, .slice yam ynm ycm, .int .i64 zk, .bool zb, .int .i64 zi, .string zs, .slice zal znl zcl, .slice zam znm zcm, .bool xf, .bool true] 73) := (g5.block Bx (by omega) (fun h => hBxo h.symm)).trans hX2
        refine hK.out _ _ hX5 (fun hHeld => ?_)
        clear hK K
        (try simp only [Act.put, zA, zB, zC])
        have hgn : g ≠ w.heap.size + 3 := by have := (World.ownsRow.lt h5 g rfl).1; omega
        have hgx : Bx ≠ g := fun h => by
         rcases l5 with l5 | l5
         ·exact hBxo (by rw [h]; exact l5)
         ·omega
        have yN : (ps.length : Int) < ((ps.length + 1 : Nat) : Int) := by omega
        have yN2 : (ps.length : Int) < (ps.length : Int) + 1 := by omega
        (refine tjA 12 ?_; (try simp only [Act.put, zA, zB, zC]))
        (refine tjA 14 ?_; (try simp only [Act.put, zA, zB, zC]))
        have hv5 : w5.heap[w.heap.size + 3]? = some (.cells #[.int .i64 5, .bool false, .int .i64 0, .string ⟨#[]⟩, .slice none 0 0, .slice sa ps.length sc] 25) := (g5.block _ (by omega) (fun h => by have := (hown _ h.symm).1; omega)).trans hv2
        have c5 : w5.cell? ⟨w.heap.size + 3, 5, none⟩ = some (.slice sa ps.length sc) := by rw [cell_of_block hv5]; rfl
        have f5 : w5.frozen? ⟨w.heap.size + 3, 5, none⟩ = false := frozen_of_block hv5 5
        obtain ⟨bc, bf⟩ := blank_cells h5 ho2.1
        have b0 : w5.cell? ⟨g, ps.length * 7, none⟩ = some (.string ⟨#[]⟩) := bc 0 _ rfl
        have b1 : w5.cell? ⟨g, ps.length * 7 + 1, none⟩ = some (.int .i64 0) := bc 1 _ rfl
        have b2 : w5.cell? ⟨g, ps.length * 7 + 2, none⟩ = some (.bool false) := bc 2 _ rfl
        have b3 : w5.cell? ⟨g, ps.length * 7 + 3, none⟩ = some (.int .i64 0) := bc 3 _ rfl
        have b4 : w5.cell? ⟨g, ps.length * 7 + 4, none⟩ = some (.string ⟨#[]⟩) := bc 4 _ rfl
        have b5 : w5.cell? ⟨g, ps.length * 7 + 5, none⟩ = some (.slice none 0 0) := bc 5 _ rfl
        have b6 : w5.cell? ⟨g, ps.length * 7 + 6, none⟩ = some (.slice none 0 0) := bc 6 _ rfl
        have E1 := end1 (n := ps.length) hgn hv5 (.slice (some ⟨g, 0, none⟩) (ps.length + 1) cap) (.string key) (.int .i64 uk) (.bool ub) (.int .i64 ui) (.string us) (.slice ual unl ucl) (.slice uam unm ucm)
        have E2 := end2 (n := ps.length) hgn hv5 (.slice (some ⟨g, 0, none⟩) (ps.length + 1) cap) (.string key) (.int .i64 uk) (.bool ub) (.int .i64 ui) (.string us) (.slice ual unl ucl) (.slice uam unm ucm)
        have oA : ∀ z, z ≠ g → (((((((w5.setCell ⟨g, ps.length * 7, none⟩ (.string key)).setCell ⟨g, ps.length * 7 + 1, none⟩ (.int .i64 uk)).setCell ⟨g, ps.length * 7 + 2, none⟩ (.bool ub)).setCell ⟨g, ps.length * 7 + 3, none⟩ (.int .i64 ui)).setCell ⟨g, ps.length * 7 + 4, none⟩ (.string us)).setCell ⟨g, ps.length * 7 + 5, none⟩ (.slice ual unl ucl)).setCell ⟨g, ps.length * 7 + 6, none⟩ (.slice uam unm ucm)).heap[z]? = w5.heap[z]? := fun z hz => sets7_o w5 g ps.length (.string key) (.int .i64 uk) (.bool ub) (.int .i64 ui) (.string us) (.slice ual unl ucl) (.slice uam unm ucm) z hz
        have oM : ∀ z, z ≠ w.heap.size + 3 → (w5.setCell ⟨w.heap.size + 3, 5, none⟩ (.slice (some ⟨g, 0, none⟩) (ps.length + 1) cap)).heap[z]? = w5.heap[z]? := fun z hz => set_other hz
        have a5 : (((((((w5.setCell ⟨g, ps.length * 7, none⟩ (.string key)).setCell ⟨g, ps.length * 7 + 1, none⟩ (.int .i64 uk)).setCell ⟨g, ps.length * 7 + 2, none⟩ (.bool ub)).setCell ⟨g, ps.length * 7 + 3, none⟩ (.int .i64 ui)).setCell ⟨g, ps.length * 7 + 4, none⟩ (.string us)).setCell ⟨g, ps.length * 7 + 5, none⟩ (.slice ual unl ucl)).setCell ⟨g, ps.length * 7 + 6, none⟩ (.slice uam unm ucm)).cell? ⟨w.heap.size + 3, 5, none⟩ = some (.slice sa ps.length sc) := (World.cell?_of_block (w := w5) (a := ⟨w.heap.size + 3, 5, none⟩) (oA _ (fun h => hgn h.symm))).trans c5
        have af : (((((((w5.setCell ⟨g, ps.length * 7, none⟩ (.string key)).setCell ⟨g, ps.length * 7 + 1, none⟩ (.int .i64 uk)).setCell ⟨g, ps.length * 7 + 2, none⟩ (.bool ub)).setCell ⟨g, ps.length * 7 + 3, none⟩ (.int .i64 ui)).setCell ⟨g, ps.length * 7 + 4, none⟩ (.string us)).setCell ⟨g, ps.length * 7 + 5, none⟩ (.slice ual unl ucl)).setCell ⟨g, ps.length * 7 + 6, none⟩ (.slice uam unm ucm)).frozen? ⟨w.heap.size + 3, 5, none⟩ = false := frozen_of_block ((oA _ (fun h => hgn h.symm)).trans hv5) 5
        have mf : ∀ ii, (w5.setCell ⟨w.heap.size + 3, 5, none⟩ (.slice (some ⟨g, 0, none⟩) (ps.length + 1) cap)).frozen? ⟨g, ii, none⟩ = false := fun ii => (frozen_other (oM g hgn) ii).trans (bf ii)
        have m0 : (w5.setCell ⟨w.heap.size + 3, 5, none⟩ (.slice (some ⟨g, 0, none⟩) (ps.length + 1) cap)).cell? ⟨g, ps.length * 7, none⟩ = some (.string ⟨#[]⟩) := (World.cell?_of_block (w := w5) (a := ⟨g, ps.length * 7, none⟩) (oM g hgn)).trans b0
        have m1 : (w5.setCell ⟨w.heap.size + 3, 5, none⟩ (.slice (some ⟨g, 0, none⟩) (ps.length + 1) cap)).cell? ⟨g, ps.length * 7 + 1, none⟩ = some (.int .i64 0) := (World.cell?_of_block (w := w5) (a := ⟨g, ps.length * 7 + 1, none⟩) (oM g hgn)).trans b1
        have m2 : (w5.setCell ⟨w.heap.size + 3, 5, none⟩ (.slice (some ⟨g, 0, none⟩) (ps.length + 1) cap)).cell? ⟨g, ps.length * 7 + 2, none⟩ = some (.bool false) := (World.cell?_of_block (w := w5) (a := ⟨g, ps.length * 7 + 2, none⟩) (oM g hgn)).trans b2
        have m3 : (w5.setCell ⟨w.heap.size + 3, 5, none⟩ (.slice (some ⟨g, 0, none⟩) (ps.length + 1) cap)).cell? ⟨g, ps.length * 7 + 3, none⟩ = some (.int .i64 0) := (World.cell?_of_block (w := w5) (a := ⟨g, ps.length * 7 + 3, none⟩) (oM g hgn)).trans b3
        have m4 : (w5.setCell ⟨w.heap.size + 3, 5, none⟩ (.slice (some ⟨g, 0, none⟩) (ps.length + 1) cap)).cell? ⟨g, ps.length * 7 + 4, none⟩ = some (.string ⟨#[]⟩) := (World.cell?_of_block (w := w5) (a := ⟨g, ps.length * 7 + 4, none⟩) (oM g hgn)).trans b4
        have m5 : (w5.setCell ⟨w.heap.size + 3, 5, none⟩ (.slice (some ⟨g, 0, none⟩) (ps.length + 1) cap)).cell? ⟨g, ps.length * 7 + 5, none⟩ = some (.slice none 0 0) := (World.cell?_of_block (w := w5) (a := ⟨g, ps.length * 7 + 5, none⟩) (oM g hgn)).trans b5
        have m6 : (w5.setCell ⟨w.heap.size + 3, 5, none⟩ (.slice (some ⟨g, 0, none⟩) (ps.length + 1) cap)).cell? ⟨g, ps.length * 7 + 6, none⟩ = some (.slice none 0 0) := (World.cell?_of_block (w := w5) (a := ⟨g, ps.length * 7 + 6, none⟩) (oM g hgn)).trans b6
        refine ryA [13, 15] ?_
        refine rA2 (fun K hK => ?_) fun K hK => ?_
        ·go_simp
         refine hK.out _ _ ((oA Bx hgx).trans hX5) (fun hHeld => ?_)
         clear hK K
         (try simp only [Act.put, zA, zB, zC])
         refine ryA [15] ?_
         refine rA1 fun K hK => ?_
         go_simp
         refine hK.out _ _ ((E1.o_ Bx hgx (by omega)).trans hX5) (fun hHeld => ?_)
         clear hK K
         (try simp only [Act.put, zA, zB, zC])
         refine wpAnyH_done (by kernel_rfl) ?_ _
         have R1 := round_end hS h6 bW rfl rfl ho hp hb2 hx2 h5 g5 l5 E1
         gi_wp2
         exact hfin _ R1
        ·go_simp
         refine hK.out _ _ ((oM Bx (by omega)).trans hX5) (fun hHeld => ?_)
         clear hK K
         (try simp only [Act.put, zA, zB, zC])
         refine ryA [13] ?_
         refine rA1 fun K hK => ?_
         go_simp
         refine hK.out _ _ ((E2.o_ Bx hgx (by omega)).trans hX5) (fun hHeld => ?_)
         clear hK K
         (try simp only [Act.put, zA, zB, zC])
         refine wpAnyH_done (by kernel_rfl) ?_ _
         have R1 := round_end hS h6 bW rfl rfl ho hp hb2 hx2 h5 g5 l5 E2
         gi_wp2
         exact hfin _ R1
      ·have hb_Wdcn : Below W.heap.size W (Wdc.alloc (.cells #[.string ⟨#[]⟩, .int .i64 0, .bool false, .int .i64 0, .string ⟨#[]⟩, .slice none 0 0, .slice none 0 0] 57)) := hb_Wdc.trans ((one_belowG Wdc _).mono (by omega))
       have nb := heap_alloc_new Wdc (.cells #[.string ⟨#[]⟩, .int .i64 0, .bool false, .int .i64 0, .string ⟨#[]⟩, .slice none 0 0, .slice none 0 0] 57)
       have hY_ := (hb_Wdcn.block Bx hBxs).trans bX
       have hu_Wdcn := V.lies_keep (S' := fun y => S y ∨ (W.heap.size ≤ y ∧ y < (Wdc.alloc (.cells #[.string ⟨#[]⟩, .int .i64 0, .bool false, .int .i64 0, .string ⟨#[]⟩, .slice none 0 0, .slice none 0 0] 57)).heap.size)) (fun h => h) (fun y hy => Below.heap_alloc Wdc (.cells #[.string ⟨#[]⟩, .int .i64 0, .bool false, .int .i64 0, .string ⟨#[]⟩, .slice none 0 0, .slice none 0 0] 57) y (by rcases hy with hy | hy <;> first | omega | (have := hS y hy; omega))) (fun y hy => hy.elim .inl (fun h => .inr ⟨h.1, by rw [alloc_size]; omega⟩)) _ hu_Wdc
       go_simp
       refine hK.out _ _ hY_ (fun hHeld => ?_)
       clear hK K
       (try simp only [Act.put, zA, zB, zC])
       clear hY_
       generalize (Wdc.alloc (.cells #[.string ⟨#[]⟩, .int .i64 0, .bool false, .int .i64 0, .string ⟨#[]⟩, .slice none 0 0, .slice none 0 0] 57)) = Wdcn at *
       have hX_Wdcn := (hb_Wdcn.block Bx hBxs).trans bX
       have c_Wdcn := (World.cell?_of_block (w := W) (a := ⟨w.heap.size + 3, 5, none⟩) (hb_Wdcn.block (w.heap.size + 3) (by omega))).trans c3
       have hz_Wdcn := hb_Wdcn.size
       refine ryA [1] ?_
       refine rA1 fun K hK => ?_
       ·go_simp
        refine hK.out _ _ hX_Wdcn (fun hHeld => ?_)
        clear hK K
        (try simp only [Act.put, zA, zB, zC])
        (refine tjA 9 ?_; (try simp only [Act.put, zA, zB, zC]))
        have hb2 := hb_Wdcn
        have hz2 := hb2.size
        have hX2 := (hb2.block Bx hBxs).trans bX
        have hv2 := (hb2.block (w.heap.size + 3) (by omega)).trans v1
        have ho2 := ho.below hb2
        unfold OwnC at ho2
        rw [List.length_map] at ho2
        have hx2 : PM Wdcn (fun y => S y ∨ (W.heap.size ≤ y ∧ y < Wdcn.heap.size)) ((key, pchV va vb), [.string key, .int .i64 uk, .bool ub, .int .i64 ui, .string us, .slice ual unl ucl, .slice uam unm ucm]) := ⟨_, rfl, hG.k, hu_Wdcn⟩
        refine ryA [11] ?_
        refine rA1 fun K hK => ?_
        refine step_blank rfl (.tmp 41) (.tmp 50) rfl (w.heap.size + 6) (.slice sa ps.length sc) ps.length _ rfl ho2 Wdc.heap.size rfl nb (by omega) (by omega) ?_
        intro g cap w5 h5 g5 l5
        have hX5 : w5.heap[Bx]? = some (.cells #[.int .i64 yk, .bool yb, .int .i64 yi, .string ys, .slice yal ynl ycl, .slice yam ynm ycm, .int .i64 zk, .bool zb, .int .i64 zi, .string zs, .slice zal znl zcl, .slice zam znm zcm, .bool xf, .bool true] 73) := (g5.block Bx (by omega) (fun h => hBxo h.symm)).trans hX2
        refine hK.out _ _ hX5 (fun hHeld => ?_)
        clear hK K
        (try simp only [Act.put, zA, zB, zC])
        have hgn : g ≠ w.heap.size + 3 := by have := (World.ownsRow.lt h5 g rfl).1; omega
        have hgx : Bx ≠ g := fun h => by
         rcases l5 with l5 | l5
         ·exact hBxo (by rw [h]; exact l5)
         ·omega
        have yN : (ps.length : Int) < ((ps.length + 1 : Nat) : Int) := by omega
        have yN2 : (ps.length : Int) < (ps.length : Int) + 1 := by omega
        (refine tjA 12 ?_; (try simp only [Act.put, zA, zB, zC]))
        (refine tjA 14 ?_; (try simp only [Act.put, zA, zB, zC]))
        have hv5 : w5.heap[w.heap.size + 3]? = some (.cells #[.int .i64 5, .bool false, .int .i64 0, .string ⟨#[]⟩, .slice none 0 0, .slice sa ps.length sc] 25) := (g5.block _ (by omega) (fun h => by have := (hown _ h.symm).1; omega)).trans hv2
        have c5 : w5.cell? ⟨w.heap.size + 3, 5, none⟩ = some (.slice sa ps.length sc) := by rw [cell_of_block hv5]; rfl
        have f5 : w5.frozen? ⟨w.heap.size + 3, 5, none⟩ = false := frozen_of_block hv5 5
        obtain ⟨bc, bf⟩ := blank_cells h5 ho2.1
        have b0 : w5.cell? ⟨g, ps.length * 7, none⟩ = some (.string ⟨#[]⟩) := bc 0 _ rfl
        have b1 : w5.cell? ⟨g, ps.length * 7 + 1, none⟩ = some (.int .i64 0) := bc 1 _ rfl
        have b2 : w5.cell? ⟨g, ps.length * 7 + 2, none⟩ = some (.bool false) := bc 2 _ rfl
        have b3 : w5.cell? ⟨g, ps.length * 7 + 3, none⟩ = some (.int .i64 0) := bc 3 _ rfl
        have b4 : w5.cell? ⟨g, ps.length * 7 + 4, none⟩ = some (.string ⟨#[]⟩) := bc 4 _ rfl
        have b5 : w5.cell? ⟨g, ps.length * 7 + 5, none⟩ = some (.slice none 0 0) := bc 5 _ rfl
        have b6 : w5.cell? ⟨g, ps.length * 7 + 6, none⟩ = some (.slice none 0 0) := bc 6 _ rfl
        have E1 := end1 (n := ps.length) hgn hv5 (.slice (some ⟨g, 0, none⟩) (ps.length + 1) cap) (.string key) (.int .i64 uk) (.bool ub) (.int .i64 ui) (.string us) (.slice ual unl ucl) (.slice uam unm ucm)
        have E2 := end2 (n := ps.length) hgn hv5 (.slice (some ⟨g, 0, none⟩) (ps.length + 1) cap) (.string key) (.int .i64 uk) (.bool ub) (.int .i64 ui) (.string us) (.slice ual unl ucl) (.slice uam unm ucm)
        have oA : ∀ z, z ≠ g → (((((((w5.setCell ⟨g, ps.length * 7, none⟩ (.string key)).setCell ⟨g, ps.length * 7 + 1, none⟩ (.int .i64 uk)).setCell ⟨g, ps.length * 7 + 2, none⟩ (.bool ub)).setCell ⟨g, ps.length * 7 + 3, none⟩ (.int .i64 ui)).setCell ⟨g, ps.length * 7 + 4, none⟩ (.string us)).setCell ⟨g, ps.length * 7 + 5, none⟩ (.slice ual unl ucl)).setCell ⟨g, ps.length * 7 + 6, none⟩ (.slice uam unm ucm)).heap[z]? = w5.heap[z]? := fun z hz => sets7_o w5 g ps.length (.string key) (.int .i64 uk) (.bool ub) (.int .i64 ui) (.string us) (.slice ual unl ucl) (.slice uam unm ucm) z hz
        have oM : ∀ z, z ≠ w.heap.size + 3 → (w5.setCell ⟨w.heap.size + 3, 5, none⟩ (.slice (some ⟨g, 0, none⟩) (ps.length + 1) cap)).heap[z]? = w5.heap[z]? := fun z hz => set_other hz
        have a5 : (((((((w5.setCell ⟨g, ps.length * 7, none⟩ (.string key)).setCell ⟨g, ps.length * 7 + 1, none⟩ (.int .i64 uk)).setCell ⟨g, ps.length * 7 + 2, none⟩ (.bool ub)).setCell ⟨g, ps.length * 7 + 3, none⟩ (.int .i64 ui)).setCell ⟨g, ps.length * 7 + 4, none⟩ (.string us)).setCell ⟨g, ps.length * 7 + 5, none⟩ (.slice ual unl ucl)).setCell ⟨g, ps.length * 7 + 6, none⟩ (.slice uam unm ucm)).cell? ⟨w.heap.size + 3, 5, none⟩ = some (.slice sa ps.length sc) := (World.cell?_of_block (w := w5) (a := ⟨w.heap.size + 3, 5, none⟩) (oA _ (fun h => hgn h.symm))).trans c5
        have af : (((((((w5.setCell ⟨g, ps.length * 7, none⟩ (.string key)).setCell ⟨g, ps.length * 7 + 1, none⟩ (.int .i64 uk)).setCell ⟨g, ps.length * 7 + 2, none⟩ (.bool ub)).setCell ⟨g, ps.length * 7 + 3, none⟩ (.int .i64 ui)).setCell ⟨g, ps.length * 7 + 4, none⟩ (.string us)).setCell ⟨g, ps.length * 7 + 5, none⟩ (.slice ual unl ucl)).setCell ⟨g, ps.length * 7 + 6, none⟩ (.slice uam unm ucm)).frozen? ⟨w.heap.size + 3, 5, none⟩ = false := frozen_of_block ((oA _ (fun h => hgn h.symm)).trans hv5) 5
        have mf : ∀ ii, (w5.setCell ⟨w.heap.size + 3, 5, none⟩ (.slice (some ⟨g, 0, none⟩) (ps.length + 1) cap)).frozen? ⟨g, ii, none⟩ = false := fun ii => (frozen_other (oM g hgn) ii).trans (bf ii)
        have m0 : (w5.setCell ⟨w.heap.size + 3, 5, none⟩ (.slice (some ⟨g, 0, none⟩) (ps.length + 1) cap)).cell? ⟨g, ps.length * 7, none⟩ = some (.string ⟨#[]⟩) := (World.cell?_of_block (w := w5) (a := ⟨g, ps.length * 7, none⟩) (oM g hgn)).trans b0
        have m1 : (w5.setCell ⟨w.heap.size + 3, 5, none⟩ (.slice (some ⟨g, 0, none⟩) (ps.length + 1) cap)).cell? ⟨g, ps.length * 7 + 1, none⟩ = some (.int .i64 0) := (World.cell?_of_block (w := w5) (a := ⟨g, ps.length * 7 + 1, none⟩) (oM g hgn)).trans b1
        have m2 : (w5.setCell ⟨w.heap.size + 3, 5, none⟩ (.slice (some ⟨g, 0, none⟩) (ps.length + 1) cap)).cell? ⟨g, ps.length * 7 + 2, none⟩ = some (.bool false) := (World.cell?_of_block (w := w5) (a := ⟨g, ps.length * 7 + 2, none⟩) (oM g hgn)).trans b2
        have m3 : (w5.setCell ⟨w.heap.size + 3, 5, none⟩ (.slice (some ⟨g, 0, none⟩) (ps.length + 1) cap)).cell? ⟨g, ps.length * 7 + 3, none⟩ = some (.int .i64 0) := (World.cell?_of_block (w := w5) (a := ⟨g, ps.length * 7 + 3, none⟩) (oM g hgn)).trans b3
        have m4 : (w5.setCell ⟨w.heap.size + 3, 5, none⟩ (.slice (some ⟨g, 0, none⟩) (ps.length + 1) cap)).cell? ⟨g, ps.length * 7 + 4, none⟩ = some (.string ⟨#[]⟩) := (World.cell?_of_block (w := w5) (a := ⟨g, ps.length * 7 + 4, none⟩) (oM g hgn)).trans b4
        have m5 : (w5.setCell ⟨w.heap.size + 3, 5, none⟩ (.slice (some ⟨g, 0, none⟩) (ps.length + 1) cap)).cell? ⟨g, ps.length * 7 + 5, none⟩ = some (.slice none 0 0) := (World.cell?_of_block (w := w5) (a := ⟨g, ps.length * 7 + 5, none⟩) (oM g hgn)).trans b5
        have m6 : (w5.setCell ⟨w.heap.size + 3, 5, none⟩ (.slice (some ⟨g, 0, none⟩) (ps.length + 1) cap)).cell? ⟨g, ps.length * 7 + 6, none⟩ = some (.slice none 0 0) := (World.cell?_of_block (w := w5) (a := ⟨g, ps.length * 7 + 6, none⟩) (oM g hgn)).trans b6
        refine ryA [13, 15] ?_
        refine rA2 (fun K hK => ?_) fun K hK => ?_
        ·go_simp
         refine hK.out _ _ ((oA Bx hgx).trans hX5) (fun hHeld => ?_)
         clear hK K
         (try simp only [Act.put, zA, zB, zC])
         refine ryA [15] ?_
         refine rA1 fun K hK => ?_
         go_simp
         refine hK.out _ _ ((E1.o_ Bx hgx (by omega)).trans hX5) (fun hHeld => ?_)
         clear hK K
         (try simp only [Act.put, zA, zB, zC])
         refine wpAnyH_done (by kernel_rfl) ?_ _
         have R1 := round_end hS h6 bW rfl rfl ho hp hb2 hx2 h5 g5 l5 E1
         gi_wp2
         exact hfin _ R1
        ·go_simp
         refine hK.out _ _ ((oM Bx (by omega)).trans hX5) (fun hHeld => ?_)
         clear hK K
         (try simp only [Act.put, zA, zB, zC])
         refine ryA [13] ?_
         refine rA1 fun K hK => ?_
         go_simp
         refine hK.out _ _ ((E2.o_ Bx hgx (by omega)).trans hX5) (fun hHeld => ?_)
         clear hK K
         (try simp only [Act.put, zA, zB, zC])
         refine wpAnyH_done (by kernel_rfl) ?_ _
         have R1 := round_end hS h6 bW rfl rfl ho hp hb2 hx2 h5 g5 l5 E2
         gi_wp2
         exact hfin _ R1
     ·have hb_Wdn : Below W.heap.size W (Wd.alloc (.cells #[.string ⟨#[]⟩, .int .i64 0, .bool false, .int .i64 0, .string ⟨#[]⟩, .slice none 0 0, .slice none 0 0] 57)) := hb_Wd.trans ((one_belowG Wd _).mono (by omega))
      have nb := heap_alloc_new Wd (.cells #[.string ⟨#[]⟩, .int .i64 0, .bool false, .int .i64 0, .string ⟨#[]⟩, .slice none 0 0, .slice none 0 0] 57)
      have hY_ := (hb_Wdn.block Bx hBxs).trans bX
      go_simp
      refine hK.out _ _ hY_ (fun hHeld => ?_)
      clear hK K
      (try simp only [Act.put, zA, zB, zC])
      clear hY_
      generalize (Wd.alloc (.cells #[.string ⟨#[]⟩, .int .i64 0, .bool false, .int .i64 0, .string ⟨#[]⟩, .slice none 0 0, .slice none 0 0] 57)) = Wdn at *
      have hX_Wdn := (hb_Wdn.block Bx hBxs).trans bX
      have c_Wdn := (World.cell?_of_block (w := W) (a := ⟨w.heap.size + 3, 5, none⟩) (hb_Wdn.block (w.heap.size + 3) (by omega))).trans c3
      have hz_Wdn := hb_Wdn.size
      refine ryA [1, 7] ?_
      refine rA2 (fun K hK => ?_) fun K hK => ?_
      ·go_simp
       refine hK.out _ _ hX_Wdn (fun hHeld => ?_)
       clear hK K
       (try simp only [Act.put, zA, zB, zC])
       (refine tjA 9 ?_; (try simp only [Act.put, zA, zB, zC]))
       refine ryA [7] ?_
       refine rA1 fun K hK => ?_
       ·go_simp
        refine (HIH.out Wdn hb_Wdn).mono ?_
        rintro e_ Wdnc ⟨cu, rfl, hu, bu⟩
        obtain ⟨uk, ub, ui, us, ual, unl, ucl, uam, unm, ucm, rfl⟩ := V.ten hu
        have hb_Wdnc := hb_Wdn.trans (bu.mono (by omega))
        have hu_Wdnc := V.lies_keep (S' := fun y => S y ∨ (W.heap.size ≤ y ∧ y < Wdnc.heap.size)) (fun h => h) (fun _ _ => rfl) (fun y hy => hy.elim .inl (fun h => .inr ⟨by have := h.1; omega, h.2⟩)) _ hu
        clear hu
        have nb := (bu.block _ (by have := (Array.getElem?_eq_some_iff.1 nb).1; omega)).trans nb
        clear bu
        refine hK.out _ _ ((hb_Wdnc.block Bx hBxs).trans bX) (fun hHeld => ?_)
        clear hK K
        (try simp only [Act.put, zA, zB, zC])
        (refine tjA 8 ?_; (try simp only [Act.put, zA, zB, zC]))
        have hb2 := hb_Wdnc
        have hz2 := hb2.size
        have hX2 := (hb2.block Bx hBxs).trans bX
        have hv2 := (hb2.block (w.heap.size + 3) (by omega)).trans v1
        have ho2 := ho.below hb2
        unfold OwnC at ho2
        rw [List.length_map] at ho2
        have hx2 : PM Wdnc (fun y => S y ∨ (W.heap.size ≤ y ∧ y < Wdnc.heap.size)) ((key, pchV va vb), [.string key, .int .i64 uk, .bool ub, .int .i64 ui, .string us, .slice ual unl ucl, .slice uam unm ucm]) := ⟨_, rfl, hG.k, hu_Wdnc⟩
        refine ryA [11] ?_
        refine rA1 fun K hK => ?_
        refine step_blank rfl (.tmp 41) (.tmp 50) rfl (w.heap.size + 6) (.slice sa ps.length sc) ps.length _ rfl ho2 Wd.heap.size rfl nb (by omega) (by omega) ?_
        intro g cap w5 h5 g5 l5
        have hX5 : w5.heap[Bx]? = some (.cells #[.int .i64 yk, .bool yb, .int .i64 yi, .string ys, .slice yal ynl ycl, .slice yam ynm ycm, .int .i64 zk, .bool zb, .int .i64 zi, .string zs, .slice zal znl zcl, .slice zam znm zcm, .bool xf, .bool true] 73) := (g5.block Bx (by omega) (fun h => hBxo h.symm)).trans hX2
        refine hK.out _ _ hX5 (fun hHeld => ?_)
        clear hK K
        (try simp only [Act.put, zA, zB, zC])
        have hgn : g ≠ w.heap.size + 3 := by have := (World.ownsRow.lt h5 g rfl).1; omega
        have hgx : Bx ≠ g := fun h => by
         rcases l5 with l5 | l5
         ·exact hBxo (by rw [h]; exact l5)
         ·omega
        have yN : (ps.length : Int) < ((ps.length + 1 : Nat) : Int) := by omega
        have yN2 : (ps.length : Int) < (ps.length : Int) + 1 := by omega
        (refine tjA 12 ?_; (try simp only [Act.put, zA, zB, zC]))
        (refine tjA 14 ?_; (try simp only [Act.put, zA, zB, zC]))
        have hv5 : w5.heap[w.heap.size + 3]? = some (.cells #[.int .i64 5, .bool false, .int .i64 0, .string ⟨#[]⟩, .slice none 0 0, .slice sa ps.length sc] 25) := (g5.block _ (by omega) (fun h => by have := (hown _ h.symm).1; omega)).trans hv2
        have c5 : w5.cell? ⟨w.heap.size + 3, 5, none⟩ = some (.slice sa ps.length sc) := by rw [cell_of_block hv5]; rfl
        have f5 : w5.frozen? ⟨w.heap.size + 3, 5, none⟩ = false := frozen_of_block hv5 5
        obtain ⟨bc, bf⟩ := blank_cells h5 ho2.1
        have b0 : w5.cell? ⟨g, ps.length * 7, none⟩ = some (.string ⟨#[]⟩) := bc 0 _ rfl
        have b1 : w5.cell? ⟨g, ps.length * 7 + 1, none⟩ = some (.int .i64 0) := bc 1 _ rfl
        have b2 : w5.cell? ⟨g, ps.length * 7 + 2, none⟩ = some (.bool false) := bc 2 _ rfl
        have b3 : w5.cell? ⟨g, ps.length * 7 + 3, none⟩ = some (.int .i64 0) := bc 3 _ rfl
        have b4 : w5.cell? ⟨g, ps.length * 7 + 4, none⟩ = some (.string ⟨#[]⟩) := bc 4 _ rfl
        have b5 : w5.cell? ⟨g, ps.length * 7 + 5, none⟩ = some (.slice none 0 0) := bc 5 _ rfl
        have b6 : w5.cell? ⟨g, ps.length * 7 + 6, none⟩ = some (.slice none 0 0) := bc 6 _ rfl
        have E1 := end1 (n := ps.length) hgn hv5 (.slice (some ⟨g, 0, none⟩) (ps.length + 1) cap) (.string key) (.int .i64 uk) (.bool ub) (.int .i64 ui) (.string us) (.slice ual unl ucl) (.slice uam unm ucm)
        have E2 := end2 (n := ps.length) hgn hv5 (.slice (some ⟨g, 0, none⟩) (ps.length + 1) cap) (.string key) (.int .i64 uk) (.bool ub) (.int .i64 ui) (.string us) (.slice ual unl ucl) (.slice uam unm ucm)
        have oA : ∀ z, z ≠ g → (((((((w5.setCell ⟨g, ps.length * 7, none⟩ (.string key)).setCell ⟨g, ps.length * 7 + 1, none⟩ (.int .i64 uk)).setCell ⟨g, ps.length * 7 + 2, none⟩ (.bool ub)).setCell ⟨g, ps.length * 7 + 3, none⟩ (.int .i64 ui)).setCell ⟨g, ps.length * 7 + 4, none⟩ (.string us)).setCell ⟨g, ps.length * 7 + 5, none⟩ (.slice ual unl ucl)).setCell ⟨g, ps.length * 7 + 6, none⟩ (.slice uam unm ucm)).heap[z]? = w5.heap[z]? := fun z hz => sets7_o w5 g ps.length (.string key) (.int .i64 uk) (.bool ub) (.int .i64 ui) (.string us) (.slice ual unl ucl) (.slice uam unm ucm) z hz
        have oM : ∀ z, z ≠ w.heap.size + 3 → (w5.setCell ⟨w.heap.size + 3, 5, none⟩ (.slice (some ⟨g, 0, none⟩) (ps.length + 1) cap)).heap[z]? = w5.heap[z]? := fun z hz => set_other hz
        have a5 : (((((((w5.setCell ⟨g, ps.length * 7, none⟩ (.string key)).setCell ⟨g, ps.length * 7 + 1, none⟩ (.int .i64 uk)).setCell ⟨g, ps.length * 7 + 2, none⟩ (.bool ub)).setCell ⟨g, ps.length * 7 + 3, none⟩ (.int .i64 ui)).setCell ⟨g, ps.length * 7 + 4, none⟩ (.string us)).setCell ⟨g, ps.length * 7 + 5, none⟩ (.slice ual unl ucl)).setCell ⟨g, ps.length * 7 + 6, none⟩ (.slice uam unm ucm)).cell? ⟨w.heap.size + 3, 5, none⟩ = some (.slice sa ps.length sc) := (World.cell?_of_block (w := w5) (a := ⟨w.heap.size + 3, 5, none⟩) (oA _ (fun h => hgn h.symm))).trans c5
        have af : (((((((w5.setCell ⟨g, ps.length * 7, none⟩ (.string key)).setCell ⟨g, ps.length * 7 + 1, none⟩ (.int .i64 uk)).setCell ⟨g, ps.length * 7 + 2, none⟩ (.bool ub)).setCell ⟨g, ps.length * 7 + 3, none⟩ (.int .i64 ui)).setCell ⟨g, ps.length * 7 + 4, none⟩ (.string us)).setCell ⟨g, ps.length * 7 + 5, none⟩ (.slice ual unl ucl)).setCell ⟨g, ps.length * 7 + 6, none⟩ (.slice uam unm ucm)).frozen? ⟨w.heap.size + 3, 5, none⟩ = false := frozen_of_block ((oA _ (fun h => hgn h.symm)).trans hv5) 5
        have mf : ∀ ii, (w5.setCell ⟨w.heap.size + 3, 5, none⟩ (.slice (some ⟨g, 0, none⟩) (ps.length + 1) cap)).frozen? ⟨g, ii, none⟩ = false := fun ii => (frozen_other (oM g hgn) ii).trans (bf ii)
        have m0 : (w5.setCell ⟨w.heap.size + 3, 5, none⟩ (.slice (some ⟨g, 0, none⟩) (ps.length + 1) cap)).cell? ⟨g, ps.length * 7, none⟩ = some (.string ⟨#[]⟩) := (World.cell?_of_block (w := w5) (a := ⟨g, ps.length * 7, none⟩) (oM g hgn)).trans b0
        have m1 : (w5.setCell ⟨w.heap.size + 3, 5, none⟩ (.slice (some ⟨g, 0, none⟩) (ps.length + 1) cap)).cell? ⟨g, ps.length * 7 + 1, none⟩ = some (.int .i64 0) := (World.cell?_of_block (w := w5) (a := ⟨g, ps.length * 7 + 1, none⟩) (oM g hgn)).trans b1
        have m2 : (w5.setCell ⟨w.heap.size + 3, 5, none⟩ (.slice (some ⟨g, 0, none⟩) (ps.length + 1) cap)).cell? ⟨g, ps.length * 7 + 2, none⟩ = some (.bool false) := (World.cell?_of_block (w := w5) (a := ⟨g, ps.length * 7 + 2, none⟩) (oM g hgn)).trans b2
        have m3 : (w5.setCell ⟨w.heap.size + 3, 5, none⟩ (.slice (some ⟨g, 0, none⟩) (ps.length + 1) cap)).cell? ⟨g, ps.length * 7 + 3, none⟩ = some (.int .i64 0) := (World.cell?_of_block (w := w5) (a := ⟨g, ps.length * 7 + 3, none⟩) (oM g hgn)).trans b3
        have m4 : (w5.setCell ⟨w.heap.size + 3, 5, none⟩ (.slice (some ⟨g, 0, none⟩) (ps.length + 1) cap)).cell? ⟨g, ps.length * 7 + 4, none⟩ = some (.string ⟨#[]⟩) := (World.cell?_of_block (w := w5) (a := ⟨g, ps.length * 7 + 4, none⟩) (oM g hgn)).trans b4
        have m5 : (w5.setCell ⟨w.heap.size + 3, 5, none⟩ (.slice (some ⟨g, 0, none⟩) (ps.length + 1) cap)).cell? ⟨g, ps.length * 7 + 5, none⟩ = some (.slice none 0 0) := (World.cell?_of_block (w := w5) (a := ⟨g, ps.length * 7 + 5, none⟩) (oM g hgn)).trans b5
        have m6 : (w5.setCell ⟨w.heap.size + 3, 5, none⟩ (.slice (some ⟨g, 0, none⟩) (ps.length + 1) cap)).cell? ⟨g, ps.length * 7 + 6, none⟩ = some (.slice none 0 0) := (World.cell?_of_block (w := w5) (a := ⟨g, ps.length * 7 + 6, none⟩) (oM g hgn)).trans b6
        refine ryA [13, 15] ?_
        refine rA2 (fun K hK => ?_) fun K hK => ?_
        ·go_simp
         refine hK.out _ _ ((oA Bx hgx).trans hX5) (fun hHeld => ?_)
         clear hK K
         (try simp only [Act.put, zA, zB, zC])
         refine ryA [15] ?_
         refine rA1 fun K hK => ?_
         go_simp
         refine hK.out _ _ ((E1.o_ Bx hgx (by omega)).trans hX5) (fun hHeld => ?_)
         clear hK K
         (try simp only [Act.put, zA, zB, zC])
         refine wpAnyH_done (by kernel_rfl) ?_ _
         have R1 := round_end hS h6 bW rfl rfl ho hp hb2 hx2 h5 g5 l5 E1
         gi_wp2
         exact hfin _ R1
        ·go_simp
         refine hK.out _ _ ((oM Bx (by omega)).trans hX5) (fun hHeld => ?_)
         clear hK K
         (try simp only [Act.put, zA, zB, zC])
         refine ryA [13] ?_
         refine rA1 fun K hK => ?_
         go_simp
         refine hK.out _ _ ((E2.o_ Bx hgx (by omega)).trans hX5) (fun hHeld => ?_)
         clear hK K
         (try simp only [Act.put, zA, zB, zC])
         refine wpAnyH_done (by kernel_rfl) ?_ _
         have R1 := round_end hS h6 bW rfl rfl ho hp hb2 hx2 h5 g5 l5 E2
         gi_wp2
         exact hfin _ R1
      ·go_simp
       refine (HIH.out Wdn hb_Wdn).mono ?_
       rintro e_ Wdnc ⟨cu, rfl, hu, bu⟩
       obtain ⟨uk, ub, ui, us, ual, unl, ucl, uam, unm, ucm, rfl⟩ := V.ten hu
       have hb_Wdnc := hb_Wdn.trans (bu.mono (by omega))
       have hu_Wdnc := V.lies_keep (S' := fun y => S y ∨ (W.heap.size ≤ y ∧ y < Wdnc.heap.size)) (fun h => h) (fun _ _ => rfl) (fun y hy => hy.elim .inl (fun h => .inr ⟨by have := h.1; omega, h.2⟩)) _ hu
       clear hu
       have nb := (bu.block _ (by have := (Array.getElem?_eq_some_iff.1 nb).1; omega)).trans nb
       clear bu
       refine hK.out _ _ ((hb_Wdnc.block Bx hBxs).trans bX) (fun hHeld => ?_)
       clear hK K
       (try simp only [Act.put, zA, zB, zC])
       (refine tjA 8 ?_; (try simp only [Act.put, zA, zB, zC]))
       have hX_Wdnc := (hb_Wdnc.block Bx hBxs).trans bX
       have c_Wdnc := (World.cell?_of_block (w := W) (a := ⟨w.heap.size + 3, 5, none⟩) (hb_Wdnc.block (w.heap.size + 3) (by omega))).trans c3
       have hz_Wdnc := hb_Wdnc.size
       refine ryA [1] ?_
       refine rA1 fun K hK => ?_
       ·go_simp
        refine hK.out _ _ hX_Wdnc (fun hHeld => ?_)
        clear hK K
        (try simp only [Act.put, zA, zB, zC])
        (refine tjA 9 ?_; (try simp only [Act.put, zA, zB, zC]))
        have hb2 := hb_Wdnc
        have hz2 := hb2.size
        have hX2 := (hb2.block Bx hBxs).trans bX
        have hv2 := (hb2.block (w.heap.size + 3) (by omega)).trans v1
        have ho2 := ho.below hb2
        unfold OwnC at ho2
        rw [List.length_map] at ho2
        have hx2 : PM Wdnc (fun y => S y ∨ (W.heap.size ≤ y ∧ y < Wdnc.heap.size)) ((key, pchV va vb), [.string key, .int .i64 uk, .bool ub, .int .i64 ui, .string us, .slice ual unl ucl, .slice uam unm ucm]) := ⟨_, rfl, hG.k, hu_Wdnc⟩
        refine ryA [11] ?_
        refine rA1 fun K hK => ?_
        refine step_blank rfl (.tmp 41) (.tmp 50) rfl (w.heap.size + 6) (.slice sa ps.length sc) ps.length _ rfl ho2 Wd.heap.size rfl nb (by omega) (by omega) ?_
        intro g cap w5 h5 g5 l5
        have hX5 : w5.heap[Bx]? = some (.cells #[.int .i64 yk, .bool yb, .int .i64 yi, .string ys, .slice yal ynl ycl, .slice yam ynm ycm, .int .i64 zk, .bool zb, .int .i64 zi, .string zs, .slice zal znl zcl, .slice zam znm zcm, .bool xf, .bool true] 73) := (g5.block Bx (by omega) (fun h => hBxo h.symm)).trans hX2
        refine hK.out _ _ hX5 (fun hHeld => ?_)
        clear hK K
        (try simp only [Act.put, zA, zB, zC])
        have hgn : g ≠ w.heap.size + 3 := by have := (World.ownsRow.lt h5 g rfl).1; omega
        have hgx : Bx ≠ g := fun h => by
         rcases l5 with l5 | l5
         ·exact hBxo (by rw [h]; exact l5)
         ·omega
        have yN : (ps.length : Int) < ((ps.length + 1 : Nat) : Int) := by omega
        have yN2 : (ps.length : Int) < (ps.length : Int) + 1 := by omega
        (refine tjA 12 ?_; (try simp only [Act.put, zA, zB, zC]))
        (refine tjA 14 ?_; (try simp only [Act.put, zA, zB, zC]))
        have hv5 : w5.heap[w.heap.size + 3]? = some (.cells #[.int .i64 5, .bool false, .int .i64 0, .string ⟨#[]⟩, .slice none 0 0, .slice sa ps.length sc] 25) := (g5.block _ (by omega) (fun h => by have := (hown _ h.symm).1; omega)).trans hv2
        have c5 : w5.cell? ⟨w.heap.size + 3, 5, none⟩ = some (.slice sa ps.length sc) := by rw [cell_of_block hv5]; rfl
        have f5 : w5.frozen? ⟨w.heap.size + 3, 5, none⟩ = false := frozen_of_block hv5 5
        obtain ⟨bc, bf⟩ := blank_cells h5 ho2.1
        have b0 : w5.cell? ⟨g, ps.length * 7, none⟩ = some (.string ⟨#[]⟩) := bc 0 _ rfl
        have b1 : w5.cell? ⟨g, ps.length * 7 + 1, none⟩ = some (.int .i64 0) := bc 1 _ rfl
        have b2 : w5.cell? ⟨g, ps.length * 7 + 2, none⟩ = some (.bool false) := bc 2 _ rfl
        have b3 : w5.cell? ⟨g, ps.length * 7 + 3, none⟩ = some (.int .i64 0) := bc 3 _ rfl
        have b4 : w5.cell? ⟨g, ps.length * 7 + 4, none⟩ = some (.string ⟨#[]⟩) := bc 4 _ rfl
        have b5 : w5.cell? ⟨g, ps.length * 7 + 5, none⟩ = some (.slice none 0 0) := bc 5 _ rfl
        have b6 : w5.cell? ⟨g, ps.length * 7 + 6, none⟩ = some (.slice none 0 0) := bc 6 _ rfl
        have E1 := end1 (n := ps.length) hgn hv5 (.slice (some ⟨g, 0, none⟩) (ps.length + 1) cap) (.string key) (.int .i64 uk) (.bool ub) (.int .i64 ui) (.string us) (.slice ual unl ucl) (.slice uam unm ucm)
        have E2 := end2 (n := ps.length) hgn hv5 (.slice (some ⟨g, 0, none⟩) (ps.length + 1) cap) (.string key) (.int .i64 uk) (.bool ub) (.int .i64 ui) (.string us) (.slice ual unl ucl) (.slice uam unm ucm)
        have oA : ∀ z, z ≠ g → (((((((w5.setCell ⟨g, ps.length * 7, none⟩ (.string key)).setCell ⟨g, ps.length * 7 + 1, none⟩ (.int .i64 uk)).setCell ⟨g, ps.length * 7 + 2, none⟩ (.bool ub)).setCell ⟨g, ps.length * 7 + 3, none⟩ (.int .i64 ui)).setCell ⟨g, ps.length * 7 + 4, none⟩ (.string us)).setCell ⟨g, ps.length * 7 + 5, none⟩ (.slice ual unl ucl)).setCell ⟨g, ps.length * 7 + 6, none⟩ (.slice uam unm ucm)).heap[z]? = w5.heap[z]? := fun z hz => sets7_o w5 g ps.length (.string key) (.int .i64 uk) (.bool ub) (.int .i64 ui) (.string us) (.slice ual unl ucl) (.slice uam unm ucm) z hz
        have oM : ∀ z, z ≠ w.heap.size + 3 → (w5.setCell ⟨w.heap.size + 3, 5, none⟩ (.slice (some ⟨g, 0, none⟩) (ps.length + 1) cap)).heap[z]? = w5.heap[z]? := fun z hz => set_other hz
        have a5 : (((((((w5.setCell ⟨g, ps.length * 7, none⟩ (.string key)).setCell ⟨g, ps.length * 7 + 1, none⟩ (.int .i64 uk)).setCell ⟨g, ps.length * 7 + 2, none⟩ (.bool ub)).setCell ⟨g, ps.length * 7 + 3, none⟩ (.int .i64 ui)).setCell ⟨g, ps.length * 7 + 4, none⟩ (.string us)).setCell ⟨g, ps.length * 7 + 5, none⟩ (.slice ual unl ucl)).setCell ⟨g, ps.length * 7 + 6, none⟩ (.slice uam unm ucm)).cell? ⟨w.heap.size + 3, 5, none⟩ = some (.slice sa ps.length sc) := (World.cell?_of_block (w := w5) (a := ⟨w.heap.size + 3, 5, none⟩) (oA _ (fun h => hgn h.symm))).trans c5
        have af : (((((((w5.setCell ⟨g, ps.length * 7, none⟩ (.string key)).setCell ⟨g, ps.length * 7 + 1, none⟩ (.int .i64 uk)).setCell ⟨g, ps.length * 7 + 2, none⟩ (.bool ub)).setCell ⟨g, ps.length * 7 + 3, none⟩ (.int .i64 ui)).setCell ⟨g, ps.length * 7 + 4, none⟩ (.string us)).setCell ⟨g, ps.length * 7 + 5, none⟩ (.slice ual unl ucl)).setCell ⟨g, ps.length * 7 + 6, none⟩ (.slice uam unm ucm)).frozen? ⟨w.heap.size + 3, 5, none⟩ = false := frozen_of_block ((oA _ (fun h => hgn h.symm)).trans hv5) 5
        have mf : ∀ ii, (w5.setCell ⟨w.heap.size + 3, 5, none⟩ (.slice (some ⟨g, 0, none⟩) (ps.length + 1) cap)).frozen? ⟨g, ii, none⟩ = false := fun ii => (frozen_other (oM g hgn) ii).trans (bf ii)
        have m0 : (w5.setCell ⟨w.heap.size + 3, 5, none⟩ (.slice (some ⟨g, 0, none⟩) (ps.length + 1) cap)).cell? ⟨g, ps.length * 7, none⟩ = some (.string ⟨#[]⟩) := (World.cell?_of_block (w := w5) (a := ⟨g, ps.length * 7, none⟩) (oM g hgn)).trans b0
        have m1 : (w5.setCell ⟨w.heap.size + 3, 5, none⟩ (.slice (some ⟨g, 0, none⟩) (ps.length + 1) cap)).cell? ⟨g, ps.length * 7 + 1, none⟩ = some (.int .i64 0) := (World.cell?_of_block (w := w5) (a := ⟨g, ps.length * 7 + 1, none⟩) (oM g hgn)).trans b1
        have m2 : (w5.setCell ⟨w.heap.size + 3, 5, none⟩ (.slice (some ⟨g, 0, none⟩) (ps.length + 1) cap)).cell? ⟨g, ps.length * 7 + 2, none⟩ = some (.bool false) := (World.cell?_of_block (w := w5) (a := ⟨g, ps.length * 7 + 2, none⟩) (oM g hgn)).trans b2
        have m3 : (w5.setCell ⟨w.heap.size + 3, 5, none⟩ (.slice (some ⟨g, 0, none⟩) (ps.length + 1) cap)).cell? ⟨g, ps.length * 7 + 3, none⟩ = some (.int .i64 0) := (World.cell?_of_block (w := w5) (a := ⟨g, ps.length * 7 + 3, none⟩) (oM g hgn)).trans b3
        have m4 : (w5.setCell ⟨w.heap.size + 3, 5, none⟩ (.slice (some ⟨g, 0, none⟩) (ps.length + 1) cap)).cell? ⟨g, ps.length * 7 + 4, none⟩ = some (.string ⟨#[]⟩) := (World.cell?_of_block (w := w5) (a := ⟨g, ps.length * 7 + 4, none⟩) (oM g hgn)).trans b4
        have m5 : (w5.setCell ⟨w.heap.size + 3, 5, none⟩ (.slice (some ⟨g, 0, none⟩) (ps.length + 1) cap)).cell? ⟨g, ps.length * 7 + 5, none⟩ = some (.slice none 0 0) := (World.cell?_of_block (w := w5) (a := ⟨g, ps.length * 7 + 5, none⟩) (oM g hgn)).trans b5
        have m6 : (w5.setCell ⟨w.heap.size + 3, 5, none⟩ (.slice (some ⟨g, 0, none⟩) (ps.length + 1) cap)).cell? ⟨g, ps.length * 7 + 6, none⟩ = some (.slice none 0 0) := (World.cell?_of_block (w := w5) (a := ⟨g, ps.length * 7 + 6, none⟩) (oM g hgn)).trans b6
        refine ryA [13, 15] ?_
        refine rA2 (fun K hK => ?_) fun K hK => ?_
        ·go_simp
         refine hK.out _ _ ((oA Bx hgx).trans hX5) (fun hHeld => ?_)
         clear hK K
         (try simp only [Act.put, zA, zB, zC])
         refine ryA [15] ?_
         refine rA1 fun K hK => ?_
         go_simp
         refine hK.out _ _ ((E1.o_ Bx hgx (by omega)).trans hX5) (fun hHeld => ?_)
         clear hK K
         (try simp only [Act.put, zA, zB, zC])
         refine wpAnyH_done (by kernel_rfl) ?_ _
         have R1 := round_end hS h6 bW rfl rfl ho hp hb2 hx2 h5 g5 l5 E1
         gi_wp2
         exact hfin _ R1
        ·go_simp
         refine hK.out _ _ ((oM Bx (by omega)).trans hX5) (fun hHeld => ?_)
         clear hK K
         (try simp only [Act.put, zA, zB, zC])
         refine ryA [13] ?_
         refine rA1 fun K hK => ?_
         go_simp
         refine hK.out _ _ ((E2.o_ Bx hgx (by omega)).trans hX5) (fun hHeld => ?_)
         clear hK K
         (try simp only [Act.put, zA, zB, zC])
         refine wpAnyH_done (by kernel_rfl) ?_ _
         have R1 := round_end hS h6 bW rfl rfl ho hp hb2 hx2 h5 g5 l5 E2
         gi_wp2
         exact hfin _ R1
  case done =>
   rintro D ys W hD rfl ⟨sl, v1, acc, bW⟩ hK
   have hzW := bW.size
   have hD6 : w.heap.size + 6 ≤ D := by omega
   rw [withG_map, stys_tg, HEQ.out.1, HEQ.out.2] at acc
   have HP : Hid (pchV t (.mk 5 b i s l m) = .mk 5 false 0 ⟨#[]⟩ [] (mrgM pchV (memsOf t) m)) := pch_map ot.g op.g
   obtain ⟨sa, sc, rfl⟩ := acc.len
   have r1 := (bW.block (w.heap.size + 2) (by omega)).trans r6
   have FP := fin_put r1 (by omega) hK (.int .i64 5) (.bool false) (.int .i64 0) (.string ⟨#[]⟩) (.slice none 0 0) (.slice sa (mrgM pchV (memsOf t) m).length sc)
   have HE := hmk (pch_fin hS bw6 h6 bW acc hD6 hK FP.2)
   generalize (mrgM pchV (memsOf t) m).length = nn at *
   obtain ⟨cv0, cv1, cv2, cv3, cv4, cv5⟩ := sixC v1
   obtain ⟨cr0, cr1, cr2, cr3, cr4, cr5⟩ := sixC r1
   have fr := frozen_of_block r1
   clear acc v1
   gi_wp2
   refine ⟨by simp, .inl ⟨_, _, rfl, run_takeDeferred FP.1, ?_⟩⟩
   have cf0 := (cell_of_block FP.2.g_ 0)
   have cf1 := (cell_of_block FP.2.g_ 1)
   have cf2 := (cell_of_block FP.2.g_ 2)
   have cf3 := (cell_of_block FP.2.g_ 3)
   have cf4 := (cell_of_block FP.2.g_ 4)
   have cf5 := (cell_of_block FP.2.g_ 5)
   refine ⟨.agg #[.int .i64 5, .bool false, .int .i64 0, .string ⟨#[]⟩, .slice none 0 0, .slice sa nn sc], ?_, ?_⟩
   ·rw [results_cell1 rfl]
    go_simp
   ·rw [HP.out]
    exact ⟨_, rfl, HE.out.1, HE.out.2⟩
  case stop =>
   rintro D c pre W _ _ h _
   exact h.elim
end Go.Proofs.YtjfldbmopjojdaaDoor
