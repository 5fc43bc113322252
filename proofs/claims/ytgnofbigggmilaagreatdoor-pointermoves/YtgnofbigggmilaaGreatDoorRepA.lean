import Derived.Test.YtgnofbigggmilaaGreatDoorRepP
set_option linter.unusedSimpArgs false
set_option linter.unusedVariables false
namespace Go.Proofs.YtgnofbigggmilaaGreatDoor
open Go.RowKit Go.Lib
def replV : V → Nat → V → V
 | .mk k b i s l m, j, y => if k = 4 then .mk k b i s (l.set j y) m else .mk k b i s l (m.set j ((m.getD j (⟨#[]⟩, nullV)).1, y))
def OrNew (S : Nat → Prop) (w w' : World) (x : Nat) : Prop := S x ∨ New w w' x
def RpPost (x : V) (S : Nat → Prop) (w : World) (e : Ending) (w' : World) : Prop := ∃ cs : List Value, e = .returned (.agg cs.toArray) ∧ x.lies false w' (OrNew S w w') cs ∧ Below w.heap.size w w'
theorem liesL_setG {w Wf : World} {S : Nat → Prop} {g j : Nat} {css : List (List Value)} {l : List V} {y : V} {ds : List Value} (hcl : css.length = l.length) (hlies : ∀ (q : Nat) (h : q < l.length) (h' : q < css.length), (l[q]).lies false w S css[q]) (hy : y.lies false w S ds)
 (h1 : ∀ (q : Nat) (h : q < css.length), q ≠ j → rowAt Wf g (0 + q * 6) css[q]) (h2 : rowAt Wf g (0 + j * 6) ds) (h3 : ∀ x, S x → Wf.heap[x]? = w.heap[x]?) (h4 : w.heap.size ≤ g) (h5 : g < Wf.heap.size) : liesL false Wf (OrNew S w Wf) (l.set j y) g 0 := by
 refine liesL_mk fun q hq => ⟨.inr ⟨h4, h5⟩, ?_⟩
 have hq' : q < l.length := by simpa using hq
 by_cases e : q = j
 ·subst e
  exact ⟨ds, h2, by rw [List.getElem_set_self]; exact V.lies_keep (fun h => h) h3 (fun x hx => .inl hx) _ hy⟩
 ·exact ⟨css[q], h1 q (by omega) e, by rw [List.getElem_set_ne (fun h => e h.symm)]; exact V.lies_keep (fun h => h) h3 (fun x hx => .inl hx) _ (hlies q hq' (by omega))⟩
theorem liesM_setG {w Wf : World} {S : Nat → Prop} {g j : Nat} {css : List (List Value)} {l : List Mem} {y : V} {ds : List Value} (hcl : css.length = l.length) (hlies : ∀ (q : Nat) (h : q < l.length) (h' : q < css.length), ∃ cs, css[q] = .string (l[q]).1 :: cs ∧ (l[q]).1.size ≤ maxLen ∧ (l[q]).2.lies false w S cs) (hy : y.lies false w S ds) (hj : j < l.length)
 (h1 : ∀ (q : Nat) (h : q < css.length), q ≠ j → rowAt Wf g (0 + q * 7) css[q]) (h2 : rowAt Wf g (0 + j * 7) (.string (l[j]).1 :: ds)) (h3 : ∀ x, S x → Wf.heap[x]? = w.heap[x]?) (h4 : w.heap.size ≤ g) (h5 : g < Wf.heap.size) : liesM false Wf (OrNew S w Wf) (l.set j ((l.getD j (⟨#[]⟩, nullV)).1, y)) g 0 := by
 have hk : (l.getD j (⟨#[]⟩, nullV)).1 = (l[j]).1 := by rw [List.getD_eq_getElem?_getD, List.getElem?_eq_getElem hj]; rfl
 rw [hk]
 refine liesM_mk fun q hq => ⟨.inr ⟨h4, h5⟩, ?_⟩
 have hq' : q < l.length := by simpa using hq
 obtain ⟨cs, e1, e2, e3⟩ := hlies q hq' (by omega)
 by_cases e : q = j
 ·subst e
  rw [List.getElem_set_self]
  exact ⟨e2, ds, h2, V.lies_keep (fun h => h) h3 (fun x hx => .inl hx) _ hy⟩
 ·rw [List.getElem_set_ne (fun h => e h.symm)]
  refine ⟨e2, cs, ?_, V.lies_keep (fun h => h) h3 (fun x hx => .inl hx) _ e3⟩
  rw [← e1]
  exact h1 q (by omega) e
theorem set6_far {w : World} {g o : Nat} {arr : Array Value} {ty : TypeId} (h : w.heap[g]? = some (.cells arr ty (0, 0))) (c0 c1 c2 c3 c4 c5 : Value) (p : Nat) (hp : p < o ∨ o + 6 ≤ p) :
 ((((((w.setCell ⟨g, o, none⟩ c0).setCell ⟨g, o + 1, none⟩ c1).setCell ⟨g, o + 2, none⟩ c2).setCell ⟨g, o + 3, none⟩ c3).setCell ⟨g, o + 4, none⟩ c4).setCell ⟨g, o + 5, none⟩ c5).cell? ⟨g, p, none⟩ = arr[p]? := by
 rw [cell_of_block (set_block (set_block (set_block (set_block (set_block (set_block h o c0) (o + 1) c1) (o + 2) c2) (o + 3) c3) (o + 4) c4) (o + 5) c5)]
 simp only [Array.getElem?_setIfInBounds]
 repeat (rw [if_neg (by omega)])
theorem stores_end {w w0 w1 : World} {S : Nat → Prop} {g cap ty c o : Nat} {css : List (List Value)} {cur : Array Value} (hN : NewRows w0 w1 g cap ty c css cur) (hg : w.heap.size + 3 ≤ g) (B1 : Below w.heap.size w w1) (hS : ∀ b, S b → b < w.heap.size) (ho : o + 6 ≤ cur.size) (i0 : Nat) (u c0 c1 c2 c3 c4 c5 z0 z1 z2 z3 z4 z5 : Value) :
 ∃ Wf, Wf = (((((((((((((w1.setCell ⟨w.heap.size, i0, none⟩ u).setCell ⟨g, o, none⟩ c0).setCell ⟨g, o + 1, none⟩ c1).setCell ⟨g, o + 2, none⟩ c2).setCell ⟨g, o + 3, none⟩ c3).setCell ⟨g, o + 4, none⟩ c4).setCell ⟨g, o + 5, none⟩ c5).setCell ⟨w.heap.size + 1 + 1, 0, none⟩ z0).setCell ⟨w.heap.size + 1 + 1, 1, none⟩ z1).setCell ⟨w.heap.size + 1 + 1, 2, none⟩ z2).setCell ⟨w.heap.size + 1 + 1, 3, none⟩ z3).setCell ⟨w.heap.size + 1 + 1, 4, none⟩ z4).setCell ⟨w.heap.size + 1 + 1, 5, none⟩ z5) ∧
  (∃ arr', Wf.heap[g]? = some (.cells arr' ty (0, 0)) ∧ (∀ p, p < o ∨ o + 6 ≤ p → arr'[p]? = cur[p]?)) ∧ rowAt Wf g o [c0, c1, c2, c3, c4, c5] ∧ (∀ x, S x → Wf.heap[x]? = w.heap[x]?) ∧ g < Wf.heap.size ∧ Below w.heap.size w Wf := by
 have hs0 : (w1.setCell ⟨w.heap.size, i0, none⟩ u).heap[g]? = some (.cells cur ty (0, 0)) := by rw [set_other (show g ≠ w.heap.size by omega)]; exact hN.blk
 obtain ⟨arr', e1, e2, _, e4, e5, e6⟩ := set6_row hs0 ho c0 c1 c2 c3 c4 c5
 have e3 := set6_far (o := o) hs0 c0 c1 c2 c3 c4 c5
 have bB := Below.set6 (Below.set6 (B1.setCell (Nat.le_refl _) (p := ⟨w.heap.size, i0, none⟩) u) (show w.heap.size ≤ g by omega) o (o + 1) (o + 2) (o + 3) (o + 4) (o + 5) c0 c1 c2 c3 c4 c5) (show w.heap.size ≤ w.heap.size + 1 + 1 by omega) 0 1 2 3 4 5 z0 z1 z2 z3 z4 z5
 refine ⟨_, rfl, ?_⟩
 have hz : (w1.setCell ⟨w.heap.size, i0, none⟩ u).heap.size = w1.heap.size := size_set1 _ _ _ _
 generalize (w1.setCell ⟨w.heap.size, i0, none⟩ u) = ws at *
 generalize ((((((ws.setCell ⟨g, o, none⟩ c0).setCell ⟨g, o + 1, none⟩ c1).setCell ⟨g, o + 2, none⟩ c2).setCell ⟨g, o + 3, none⟩ c3).setCell ⟨g, o + 4, none⟩ c4).setCell ⟨g, o + 5, none⟩ c5) = W7 at *
 have hgb : ((((((W7.setCell ⟨w.heap.size + 1 + 1, 0, none⟩ z0).setCell ⟨w.heap.size + 1 + 1, 1, none⟩ z1).setCell ⟨w.heap.size + 1 + 1, 2, none⟩ z2).setCell ⟨w.heap.size + 1 + 1, 3, none⟩ z3).setCell ⟨w.heap.size + 1 + 1, 4, none⟩ z4).setCell ⟨w.heap.size + 1 + 1, 5, none⟩ z5).heap[g]? = W7.heap[g]? := by
  repeat (rw [set_other (show g ≠ w.heap.size + 1 + 1 by omega)])
 have hzf : ((((((W7.setCell ⟨w.heap.size + 1 + 1, 0, none⟩ z0).setCell ⟨w.heap.size + 1 + 1, 1, none⟩ z1).setCell ⟨w.heap.size + 1 + 1, 2, none⟩ z2).setCell ⟨w.heap.size + 1 + 1, 3, none⟩ z3).setCell ⟨w.heap.size + 1 + 1, 4, none⟩ z4).setCell ⟨w.heap.size + 1 + 1, 5, none⟩ z5).heap.size = W7.heap.size := by simp only [size_set1]
 generalize ((((((W7.setCell ⟨w.heap.size + 1 + 1, 0, none⟩ z0).setCell ⟨w.heap.size + 1 + 1, 1, none⟩ z1).setCell ⟨w.heap.size + 1 + 1, 2, none⟩ z2).setCell ⟨w.heap.size + 1 + 1, 3, none⟩ z3).setCell ⟨w.heap.size + 1 + 1, 4, none⟩ z4).setCell ⟨w.heap.size + 1 + 1, 5, none⟩ z5) = Wf at *
 refine ⟨⟨arr', hgb.trans e1, fun p hp => by rw [← e3 p hp, cell_of_block e1]⟩, e4.keep hgb, fun x hx => bB.block x (hS x hx), ?_, bB⟩
 have := hN.hi
 omega
theorem row_kept {w0 w1 Wf : World} {g cap ty c : Nat} {css : List (List Value)} {cur arr' : Array Value} (hN : NewRows w0 w1 g cap ty c css cur) (h : Wf.heap[g]? = some (.cells arr' ty (0, 0))) (q : Nat) (hq : q < css.length) (e : ∀ r, r < c → arr'[0 + q * c + r]? = cur[0 + q * c + r]?) : rowAt Wf g (0 + q * c) css[q] := fun r u hu => by
 have hr : r < c := by
  rcases Nat.lt_or_ge r c with h | h
  ·exact h
  ·rw [List.getElem?_eq_none (by rw [hN.rows.len _ (List.getElem_mem hq)]; exact h)] at hu; cases hu
 have := hN.rows.row q hq r u hu
 rw [cell_of_block hN.blk] at this
 rw [cell_of_block h, e r hr]
 exact this
set_option maxHeartbeats 8000000 in
set_option maxRecDepth 100000 in
theorem replaced_any (v y : V) (j : Nat) (S : Nat → Prop) (cs ds : List Value) (w : World) (hv : v.lies false w S cs) (hy : y.lies false w S ds) (hS : ∀ b, S b → b < w.heap.size) (hwt : v.wt ≤ 1099511627776) (hj : kidAt v j) :
 Calls Tryz.prog 63 #[.agg cs.toArray, .int .i64 (j : Int), .agg ds.toArray] w (RpPost (replV v j y) S w) := by
 obtain ⟨k, b, i, s, l, m⟩ := v
 rw [V.lies] at hv
 obtain ⟨al, cl, bl, ol, am, cm, bm, om, rfl, ik, ii, is, hal, ham, hl, hm, _⟩ := hv
 obtain ⟨ek, eb, ei, es, eal, enl, ecl, eam, enm, ecm, rfl⟩ := V.ten hy
 have hml : m.length ≤ 1099511627776 := by have := wtM_len m; simp only [V.wt] at hwt; omega
 have hll : l.length ≤ 1099511627776 := by have := wtL_len l; simp only [V.wt] at hwt; omega
 have HY := hmk hy
 clear hy hwt
 rcases hj with ⟨hk, hj⟩ | ⟨hk, hj⟩
 ·obtain rfl : k = 4 := hk
  have hj' : j < l.length := hj
  obtain rfl : al = some ⟨bl, ol, none⟩ := hal.at_.resolve_left (by omega)
  obtain ⟨css, hcl, hrows, hlies⟩ := rowsL_of hl
  have y1 : (j : Int) < l.length := by omega
  have HC : Hid (∀ W, (∀ x, S x → W.heap[x]? = w.heap[x]?) → Calls Tryz.prog 81 #[.slice (some ⟨bl, ol, none⟩) l.length cl] W fun e w' => ∃ g cap cur, e = .returned (.slice (some ⟨g, 0, none⟩) l.length cap) ∧ NewRows W w' g cap 25 6 css cur ∧ Below W.heap.size W w') := fun W hW => by
   rw [← hcl]
   refine vclone_any css bl ol cl W ⟨hrows.len, hrows.one, fun q hq => ?_⟩ (by omega)
   have hSb := (liesL_get hl 0 (by omega)).1
   exact (hrows.row q hq).keep (hW _ hSb)
  clear hl hrows
  have HB : Hid (Below w.heap.size w (((w.alloc (.cells #[.int .i64 4, .bool b, .int .i64 i, .string s, .slice (some ⟨bl, ol, none⟩) l.length cl, .slice am m.length cm] 25)).alloc (.cells #[.int .i64 ek, .bool eb, .int .i64 ei, .string es, .slice eal enl ecl, .slice eam enm ecm] 25)).alloc (.cells #[.int .i64 0, .bool false, .int .i64 0, .string ⟨#[]⟩, .slice none 0 0, .slice none 0 0] 25))) := (two_below w _ _).alloc (by rw [alloc_size, alloc_size]; omega) _
  have hz3 : (((w.alloc (.cells #[.int .i64 4, .bool b, .int .i64 i, .string s, .slice (some ⟨bl, ol, none⟩) l.length cl, .slice am m.length cm] 25)).alloc (.cells #[.int .i64 ek, .bool eb, .int .i64 ei, .string es, .slice eal enl ecl, .slice eam enm ecm] 25)).alloc (.cells #[.int .i64 0, .bool false, .int .i64 0, .string ⟨#[]⟩, .slice none 0 0, .slice none 0 0] 25)).heap.size = w.heap.size + 3 := by rw [alloc_size, alloc_size, alloc_size]
  obtain ⟨p0, p1, p2⟩ := three_allocs w (.cells #[.int .i64 4, .bool b, .int .i64 i, .string s, .slice (some ⟨bl, ol, none⟩) l.length cl, .slice am m.length cm] 25) (.cells #[.int .i64 ek, .bool eb, .int .i64 ei, .string es, .slice eal enl ecl, .slice eam enm ecm] 25) (.cells #[.int .i64 0, .bool false, .int .i64 0, .string ⟨#[]⟩, .slice none 0 0, .slice none 0 0] 25)
  have hcl := HC.out (((w.alloc (.cells #[.int .i64 4, .bool b, .int .i64 i, .string s, .slice (some ⟨bl, ol, none⟩) l.length cl, .slice am m.length cm] 25)).alloc (.cells #[.int .i64 ek, .bool eb, .int .i64 ei, .string es, .slice eal enl ecl, .slice eam enm ecm] 25)).alloc (.cells #[.int .i64 0, .bool false, .int .i64 0, .string ⟨#[]⟩, .slice none 0 0, .slice none 0 0] 25)) (fun x hx => HB.out.block x (hS x hx))
  go_enter Tryz.func63, Tryz.ntmps63
  go_wp2_with fail
  generalize (((w.alloc (.cells #[.int .i64 4, .bool b, .int .i64 i, .string s, .slice (some ⟨bl, ol, none⟩) l.length cl, .slice am m.length cm] 25)).alloc (.cells #[.int .i64 ek, .bool eb, .int .i64 ei, .string es, .slice eal enl ecl, .slice eam enm ecm] 25)).alloc (.cells #[.int .i64 0, .bool false, .int .i64 0, .string ⟨#[]⟩, .slice none 0 0, .slice none 0 0] 25)) = w0 at *
  refine hcl.mono ?_
  rintro e w1 ⟨g, cap, cur, rfl, hN, b1⟩
  have hg3 : w.heap.size + 3 ≤ g := by have := hN.lo; omega
  have B1 := HB.out.trans (b1.mono (by omega))
  have t0 := (b1.block w.heap.size (by omega)).trans p0
  have t1 := (b1.block (w.heap.size + 1) (by omega)).trans p1
  have t2 := (b1.block (w.heap.size + 2) (by omega)).trans p2
  have t2' : w1.heap[w.heap.size + 1 + 1]? = _ := t2
  clear p0 p1 p2 HC hcl HB
  have a0 : w1.cell? ⟨w.heap.size, 0, none⟩ = some (.int .i64 4) := by rw [cell_of_block t0]; rfl
  have a1 : w1.cell? ⟨w.heap.size, 1, none⟩ = some (.bool b) := by rw [cell_of_block t0]; rfl
  have a2 : w1.cell? ⟨w.heap.size, 2, none⟩ = some (.int .i64 i) := by rw [cell_of_block t0]; rfl
  have a3 : w1.cell? ⟨w.heap.size, 3, none⟩ = some (.string s) := by rw [cell_of_block t0]; rfl
  have a4 : w1.cell? ⟨w.heap.size, 4, none⟩ = some (.slice (some ⟨bl, ol, none⟩) l.length cl) := by rw [cell_of_block t0]; rfl
  have a5 : w1.cell? ⟨w.heap.size, 5, none⟩ = some (.slice am m.length cm) := by rw [cell_of_block t0]; rfl
  have c0 : w1.cell? ⟨w.heap.size + 1, 0, none⟩ = some (.int .i64 ek) := by rw [cell_of_block t1]; rfl
  have c1 : w1.cell? ⟨w.heap.size + 1, 1, none⟩ = some (.bool eb) := by rw [cell_of_block t1]; rfl
  have c2 : w1.cell? ⟨w.heap.size + 1, 2, none⟩ = some (.int .i64 ei) := by rw [cell_of_block t1]; rfl
  have c3 : w1.cell? ⟨w.heap.size + 1, 3, none⟩ = some (.string es) := by rw [cell_of_block t1]; rfl
  have c4 : w1.cell? ⟨w.heap.size + 1, 4, none⟩ = some (.slice eal enl ecl) := by rw [cell_of_block t1]; rfl
  have c5 : w1.cell? ⟨w.heap.size + 1, 5, none⟩ = some (.slice eam enm ecm) := by rw [cell_of_block t1]; rfl
  have d0 : w1.cell? ⟨w.heap.size + 1 + 1, 0, none⟩ = some (.int .i64 0) := by rw [cell_of_block t2']; rfl
  have d1 : w1.cell? ⟨w.heap.size + 1 + 1, 1, none⟩ = some (.bool false) := by rw [cell_of_block t2']; rfl
  have d2 : w1.cell? ⟨w.heap.size + 1 + 1, 2, none⟩ = some (.int .i64 0) := by rw [cell_of_block t2']; rfl
  have d3 : w1.cell? ⟨w.heap.size + 1 + 1, 3, none⟩ = some (.string ⟨#[]⟩) := by rw [cell_of_block t2']; rfl
  have d4 : w1.cell? ⟨w.heap.size + 1 + 1, 4, none⟩ = some (.slice none 0 0) := by rw [cell_of_block t2']; rfl
  have d5 : w1.cell? ⟨w.heap.size + 1 + 1, 5, none⟩ = some (.slice none 0 0) := by rw [cell_of_block t2']; rfl
  have f0 := frozen_of_block t0
  have f2 := frozen_of_block t2'
  have fg := frozen_of_block hN.blk
  have HNR := hmk hN
  have hsz := hN.size
  have hn0 : ¬ g = w.heap.size := by omega
  have hn1 : ¬ g = w.heap.size + 1 := by omega
  have hn2 : ¬ g = w.heap.size + 1 + 1 := by omega
  have hcz : j * 6 + 6 ≤ cur.size := by omega
  obtain ⟨v0, k0⟩ : ∃ v, w1.cell? ⟨g, j * 6, none⟩ = some v := ⟨_, by rw [cell_of_block hN.blk]; exact Array.getElem?_eq_getElem (by omega)⟩
  obtain ⟨v1, k1⟩ : ∃ v, w1.cell? ⟨g, j * 6 + 1, none⟩ = some v := ⟨_, by rw [cell_of_block hN.blk]; exact Array.getElem?_eq_getElem (by omega)⟩
  obtain ⟨v2, k2⟩ : ∃ v, w1.cell? ⟨g, j * 6 + 2, none⟩ = some v := ⟨_, by rw [cell_of_block hN.blk]; exact Array.getElem?_eq_getElem (by omega)⟩
  obtain ⟨v3, k3⟩ : ∃ v, w1.cell? ⟨g, j * 6 + 3, none⟩ = some v := ⟨_, by rw [cell_of_block hN.blk]; exact Array.getElem?_eq_getElem (by omega)⟩
  obtain ⟨v4, k4⟩ : ∃ v, w1.cell? ⟨g, j * 6 + 4, none⟩ = some v := ⟨_, by rw [cell_of_block hN.blk]; exact Array.getElem?_eq_getElem (by omega)⟩
  obtain ⟨v5, k5⟩ : ∃ v, w1.cell? ⟨g, j * 6 + 5, none⟩ = some v := ⟨_, by rw [cell_of_block hN.blk]; exact Array.getElem?_eq_getElem (by omega)⟩
  obtain ⟨Wf, hWf, HE⟩ := stores_end (o := j * 6) hN hg3 B1 hS hcz 4 (.slice (some ⟨g, 0, none⟩) l.length cap) (.int .i64 ek) (.bool eb) (.int .i64 ei) (.string es) (.slice eal enl ecl) (.slice eam enm ecm) (.int .i64 4) (.bool b) (.int .i64 i) (.string s) (.slice (some ⟨g, 0, none⟩) l.length cap) (.slice am m.length cm)
  have HE' := hmk HE
  have HM := hmk hm
  clear hN HE hm
  go_wp2_with fail
  (try simp only [Exit.inBlock, Exit.then])
  refine bodyPost_ret (v := .agg #[.int .i64 4, .bool b, .int .i64 i, .string s, .slice (some ⟨g, 0, none⟩) l.length cap, .slice am m.length cm]) ?_ rfl ?_
  rotate_left
  ·rw [← hWf]
   obtain ⟨⟨arr', q1, q2⟩, q3, q4, q5, q6⟩ := HE'.out
   refine ⟨[.int .i64 4, .bool b, .int .i64 i, .string s, .slice (some ⟨g, 0, none⟩) l.length cap, .slice am m.length cm], rfl, ?_, q6⟩
   show (V.mk 4 b i s (l.set j y) m).lies false Wf _ _
   refine lies_S ik ii is ⟨by have := HNR.out.le; omega, HNR.out.max, .inr rfl, (fun h => by cases h)⟩ ham (liesL_setG hcl hlies HY.out (fun q hq hne => row_kept HNR.out q1 q hq (fun r hr => q2 _ ?_)) (by rw [Nat.zero_add]; exact q3) q4 (by omega) q5) (liesM_keep (fun h => h) q4 (fun x hx => .inl hx) _ HM.out) (by simp) rfl
   rcases Nat.lt_or_gt_of_ne hne with h | h
   ·left; have : (q + 1) * 6 ≤ j * 6 := Nat.mul_le_mul_right 6 h; omega
   ·right; have : (j + 1) * 6 ≤ q * 6 := Nat.mul_le_mul_right 6 h; omega
  ·rw [results_cell1 rfl]
   go_simp
 ·obtain rfl : k = 5 := hk
  have hj' : j < m.length := hj
  obtain rfl : am = some ⟨bm, om, none⟩ := ham.at_.resolve_left (by omega)
  obtain ⟨css, hcl, hrows, hlies⟩ := rowsM_of hm
  have y1 : (j : Int) < m.length := by omega
  have HC : Hid (∀ W, (∀ x, S x → W.heap[x]? = w.heap[x]?) → Calls Tryz.prog 82 #[.slice (some ⟨bm, om, none⟩) m.length cm] W fun e w' => ∃ g cap cur, e = .returned (.slice (some ⟨g, 0, none⟩) m.length cap) ∧ NewRows W w' g cap 64 7 css cur ∧ Below W.heap.size W w') := fun W hW => by
   rw [← hcl]
   refine mclone_any css bm om cm W ⟨hrows.len, hrows.one, fun q hq => ?_⟩ (by omega)
   have hSb := (liesM_get hm 0 (by omega)).1
   exact (hrows.row q hq).keep (hW _ hSb)
  clear hm hrows
  have HB : Hid (Below w.heap.size w (((w.alloc (.cells #[.int .i64 5, .bool b, .int .i64 i, .string s, .slice al l.length cl, .slice (some ⟨bm, om, none⟩) m.length cm] 25)).alloc (.cells #[.int .i64 ek, .bool eb, .int .i64 ei, .string es, .slice eal enl ecl, .slice eam enm ecm] 25)).alloc (.cells #[.int .i64 0, .bool false, .int .i64 0, .string ⟨#[]⟩, .slice none 0 0, .slice none 0 0] 25))) := (two_below w _ _).alloc (by rw [alloc_size, alloc_size]; omega) _
  have hz3 : (((w.alloc (.cells #[.int .i64 5, .bool b, .int .i64 i, .string s, .slice al l.length cl, .slice (some ⟨bm, om, none⟩) m.length cm] 25)).alloc (.cells #[.int .i64 ek, .bool eb, .int .i64 ei, .string es, .slice eal enl ecl, .slice eam enm ecm] 25)).alloc (.cells #[.int .i64 0, .bool false, .int .i64 0, .string ⟨#[]⟩, .slice none 0 0, .slice none 0 0] 25)).heap.size = w.heap.size + 3 := by rw [alloc_size, alloc_size, alloc_size]
  obtain ⟨p0, p1, p2⟩ := three_allocs w (.cells #[.int .i64 5, .bool b, .int .i64 i, .string s, .slice al l.length cl, .slice (some ⟨bm, om, none⟩) m.length cm] 25) (.cells #[.int .i64 ek, .bool eb, .int .i64 ei, .string es, .slice eal enl ecl, .slice eam enm ecm] 25) (.cells #[.int .i64 0, .bool false, .int .i64 0, .string ⟨#[]⟩, .slice none 0 0, .slice none 0 0] 25)
  have hcl := HC.out (((w.alloc (.cells #[.int .i64 5, .bool b, .int .i64 i, .string s, .slice al l.length cl, .slice (some ⟨bm, om, none⟩) m.length cm] 25)).alloc (.cells #[.int .i64 ek, .bool eb, .int .i64 ei, .string es, .slice eal enl ecl, .slice eam enm ecm] 25)).alloc (.cells #[.int .i64 0, .bool false, .int .i64 0, .string ⟨#[]⟩, .slice none 0 0, .slice none 0 0] 25)) (fun x hx => HB.out.block x (hS x hx))
  go_enter Tryz.func63, Tryz.ntmps63
  go_wp2_with fail
  generalize (((w.alloc (.cells #[.int .i64 5, .bool b, .int .i64 i, .string s, .slice al l.length cl, .slice (some ⟨bm, om, none⟩) m.length cm] 25)).alloc (.cells #[.int .i64 ek, .bool eb, .int .i64 ei, .string es, .slice eal enl ecl, .slice eam enm ecm] 25)).alloc (.cells #[.int .i64 0, .bool false, .int .i64 0, .string ⟨#[]⟩, .slice none 0 0, .slice none 0 0] 25)) = w0 at *
  refine hcl.mono ?_
  rintro e w1 ⟨g, cap, cur, rfl, hN, b1⟩
  have hg3 : w.heap.size + 3 ≤ g := by have := hN.lo; omega
  have B1 := HB.out.trans (b1.mono (by omega))
  have t0 := (b1.block w.heap.size (by omega)).trans p0
  have t1 := (b1.block (w.heap.size + 1) (by omega)).trans p1
  have t2 := (b1.block (w.heap.size + 2) (by omega)).trans p2
  have t2' : w1.heap[w.heap.size + 1 + 1]? = _ := t2
  clear p0 p1 p2 HC hcl HB
  have a0 : w1.cell? ⟨w.heap.size, 0, none⟩ = some (.int .i64 5) := by rw [cell_of_block t0]; rfl
  have a1 : w1.cell? ⟨w.heap.size, 1, none⟩ = some (.bool b) := by rw [cell_of_block t0]; rfl
  have a2 : w1.cell? ⟨w.heap.size, 2, none⟩ = some (.int .i64 i) := by rw [cell_of_block t0]; rfl
  have a3 : w1.cell? ⟨w.heap.size, 3, none⟩ = some (.string s) := by rw [cell_of_block t0]; rfl
  have a4 : w1.cell? ⟨w.heap.size, 4, none⟩ = some (.slice al l.length cl) := by rw [cell_of_block t0]; rfl
  have a5 : w1.cell? ⟨w.heap.size, 5, none⟩ = some (.slice (some ⟨bm, om, none⟩) m.length cm) := by rw [cell_of_block t0]; rfl
  have c0 : w1.cell? ⟨w.heap.size + 1, 0, none⟩ = some (.int .i64 ek) := by rw [cell_of_block t1]; rfl
  have c1 : w1.cell? ⟨w.heap.size + 1, 1, none⟩ = some (.bool eb) := by rw [cell_of_block t1]; rfl
  have c2 : w1.cell? ⟨w.heap.size + 1, 2, none⟩ = some (.int .i64 ei) := by rw [cell_of_block t1]; rfl
  have c3 : w1.cell? ⟨w.heap.size + 1, 3, none⟩ = some (.string es) := by rw [cell_of_block t1]; rfl
  have c4 : w1.cell? ⟨w.heap.size + 1, 4, none⟩ = some (.slice eal enl ecl) := by rw [cell_of_block t1]; rfl
  have c5 : w1.cell? ⟨w.heap.size + 1, 5, none⟩ = some (.slice eam enm ecm) := by rw [cell_of_block t1]; rfl
  have d0 : w1.cell? ⟨w.heap.size + 1 + 1, 0, none⟩ = some (.int .i64 0) := by rw [cell_of_block t2']; rfl
  have d1 : w1.cell? ⟨w.heap.size + 1 + 1, 1, none⟩ = some (.bool false) := by rw [cell_of_block t2']; rfl
  have d2 : w1.cell? ⟨w.heap.size + 1 + 1, 2, none⟩ = some (.int .i64 0) := by rw [cell_of_block t2']; rfl
  have d3 : w1.cell? ⟨w.heap.size + 1 + 1, 3, none⟩ = some (.string ⟨#[]⟩) := by rw [cell_of_block t2']; rfl
  have d4 : w1.cell? ⟨w.heap.size + 1 + 1, 4, none⟩ = some (.slice none 0 0) := by rw [cell_of_block t2']; rfl
  have d5 : w1.cell? ⟨w.heap.size + 1 + 1, 5, none⟩ = some (.slice none 0 0) := by rw [cell_of_block t2']; rfl
  have f0 := frozen_of_block t0
  have f2 := frozen_of_block t2'
  have fg := frozen_of_block hN.blk
  have HNR := hmk hN
  have hsz := hN.size
  have hn0 : ¬ g = w.heap.size := by omega
  have hn1 : ¬ g = w.heap.size + 1 := by omega
  have hn2 : ¬ g = w.heap.size + 1 + 1 := by omega
  have hcz : j * 7 + 7 ≤ cur.size := by omega
  obtain ⟨v0, k0⟩ : ∃ v, w1.cell? ⟨g, j * 7 + 1, none⟩ = some v := ⟨_, by rw [cell_of_block hN.blk]; exact Array.getElem?_eq_getElem (by omega)⟩
  obtain ⟨v1, k1⟩ : ∃ v, w1.cell? ⟨g, j * 7 + 2, none⟩ = some v := ⟨_, by rw [cell_of_block hN.blk]; exact Array.getElem?_eq_getElem (by omega)⟩
  obtain ⟨v2, k2⟩ : ∃ v, w1.cell? ⟨g, j * 7 + 3, none⟩ = some v := ⟨_, by rw [cell_of_block hN.blk]; exact Array.getElem?_eq_getElem (by omega)⟩
  obtain ⟨v3, k3⟩ : ∃ v, w1.cell? ⟨g, j * 7 + 4, none⟩ = some v := ⟨_, by rw [cell_of_block hN.blk]; exact Array.getElem?_eq_getElem (by omega)⟩
  obtain ⟨v4, k4⟩ : ∃ v, w1.cell? ⟨g, j * 7 + 5, none⟩ = some v := ⟨_, by rw [cell_of_block hN.blk]; exact Array.getElem?_eq_getElem (by omega)⟩
  obtain ⟨v5, k5⟩ : ∃ v, w1.cell? ⟨g, j * 7 + 6, none⟩ = some v := ⟨_, by rw [cell_of_block hN.blk]; exact Array.getElem?_eq_getElem (by omega)⟩
  obtain ⟨Wf, hWf, HE⟩ := stores_end (o := j * 7 + 1) hN hg3 B1 hS (by omega) 5 (.slice (some ⟨g, 0, none⟩) m.length cap) (.int .i64 ek) (.bool eb) (.int .i64 ei) (.string es) (.slice eal enl ecl) (.slice eam enm ecm) (.int .i64 5) (.bool b) (.int .i64 i) (.string s) (.slice al l.length cl) (.slice (some ⟨g, 0, none⟩) m.length cap)
  have HE' := hmk HE
  have HL := hmk hl
  clear hN HE hl
  go_wp2_with fail
  (try simp only [Exit.inBlock, Exit.then])
  refine bodyPost_ret (v := .agg #[.int .i64 5, .bool b, .int .i64 i, .string s, .slice al l.length cl, .slice (some ⟨g, 0, none⟩) m.length cap]) ?_ rfl ?_
  rotate_left
  ·rw [← hWf]
   obtain ⟨⟨arr', q1, q2⟩, q3, q4, q5, q6⟩ := HE'.out
   refine ⟨[.int .i64 5, .bool b, .int .i64 i, .string s, .slice al l.length cl, .slice (some ⟨g, 0, none⟩) m.length cap], rfl, ?_, q6⟩
   show (V.mk 5 b i s l (m.set j ((m.getD j (⟨#[]⟩, nullV)).1, y))).lies false Wf _ _
   refine lies_S ik ii is hal ⟨by have := HNR.out.le; omega, HNR.out.max, .inr rfl, (fun h => by cases h)⟩ (liesL_keep (fun h => h) q4 (fun x hx => .inl hx) _ HL.out) (liesM_setG hcl hlies HY.out hj' (fun q hq hne => row_kept HNR.out q1 q hq (fun r hr => q2 _ ?_)) (fun r u hu => ?_) q4 (by omega) q5) rfl (by simp)
   ·rcases Nat.lt_or_gt_of_ne hne with h | h
    ·left; have : (q + 1) * 7 ≤ j * 7 := Nat.mul_le_mul_right 7 h; omega
    ·right; have : (j + 1) * 7 ≤ q * 7 := Nat.mul_le_mul_right 7 h; omega
   ·cases r with
    | zero =>
     obtain ⟨cs', e1, _, _⟩ := hlies j hj' (by omega)
     have := HNR.out.rows.row j (by omega) 0 (.string (m[j]).1) (by rw [e1]; rfl)
     rw [cell_of_block HNR.out.blk] at this
     rw [cell_of_block q1, q2 _ (by omega), this]
     exact hu
    | succ r =>
     have := q3 r u (by simpa using hu)
     rw [show 0 + j * 7 + (r + 1) = j * 7 + 1 + r by omega]
     exact this
  ·rw [results_cell1 rfl]
   go_simp
end Go.Proofs.YtgnofbigggmilaaGreatDoor
