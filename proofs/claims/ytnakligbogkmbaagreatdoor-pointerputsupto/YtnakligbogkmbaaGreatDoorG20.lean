/- joined: RepA WlkP -/
import Derived.Test.YtnakligbogkmbaaGreatDoorRepP
set_option linter.unusedSimpArgs false
set_option linter.unusedVariables false
namespace Go.Proofs.YtnakligbogkmbaaGreatDoor
open Go.RowKit Go.Lib
def replV : V → Nat → V → V
 | .mk k b i s l m, j, y => if k = 4 then .mk k b i s (l.set j y) m else .mk k b i s l (m.set j ((m.getD j (⟨#[]⟩, nullV)).1, y))
def OrNew (S : Nat → Prop) (w w' : World) (x : Nat) : Prop := S x ∨ New w w' x
def RpPost (x : V) (S : Nat → Prop) (w : World) (e : Ending) (w' : World) : Prop := ∃ cs : List Value, e = .returned (.agg cs.toArray) ∧ x.lies false w' (OrNew S w w') cs ∧ Below w.heap.size w w'
theorem liesL_setG {w Wf : World} {S : Nat → Prop} {g j : Nat} {css : List (List Value)} {l : List V} {y : V} {ds : List Value} (hcl : css.length = l.length) (hlies : ∀ (q : Nat) (h : q < l.length) (h' : q < css.length), (l[q]).lies false w S css[q]) (hy : y.lies false w S ds)
 (h1 : ∀ (q : Nat) (h : q < css.length), q ≠ j → rowAt Wf g (0 + q * 6) css[q]) (h2 : rowAt Wf g (0 + j * 6) ds) (h3 : ∀ x, S x → Wf.heap[x]? = w.heap[x]?) (h4 : w.heap.size ≤ g) (h5 : g < Wf.heap.size) : liesL false Wf (OrNew S w Wf) (l.set j y) g 0 := by
 refine liesL_mk fun q hq => ⟨.inr ⟨h4, h5⟩, ?_⟩
 have hq' : q < l.length := by simpa using hq
 by_cases e : q = j
 ·subst e
  exact ⟨ds, h2, by rw [List.getElem_set_self]; exact V.lies_keep (fun h => h) h3 (fun x hx => .inl hx) _ hy⟩
 ·exact ⟨css[q], h1 q (by omega) e, by rw [List.getElem_set_ne (fun h => e h.symm)]; exact V.lies_keep (fun h => h) h3 (fun x hx => .inl hx) _ (hlies q hq' (by omega))⟩
theorem liesM_setG {w Wf : World} {S : Nat → Prop} {g j : Nat} {css : List (List Value)} {l : List Mem} {y : V} {ds : List Value} (hcl : css.length = l.length) (hlies : ∀ (q : Nat) (h : q < l.length) (h' : q < css.length), ∃ cs, css[q] = .string (l[q]).1 :: cs ∧ (l[q]).1.size ≤ maxLen ∧ (l[q]).2.lies false w S cs) (hy : y.lies false w S ds) (hj : j < l.length)
 (h1 : ∀ (q : Nat) (h : q < css.length), q ≠ j → rowAt Wf g (0 + q * 7) css[q]) (h2 : rowAt Wf g (0 + j * 7) (.string (l[j]).1 :: ds)) (h3 : ∀ x, S x → Wf.heap[x]? = w.heap[x]?) (h4 : w.heap.size ≤ g) (h5 : g < Wf.heap.size) : liesM false Wf (OrNew S w Wf) (l.set j ((l.getD j (⟨#[]⟩, nullV)).1, y)) g 0 := by
 have hk : (l.getD j (⟨#[]⟩, nullV)).1 = (l[j]).1 := by rw [List.getD_eq_getElem?_getD, List.getElem?_eq_getElem hj]; rfl
 rw [hk]
 refine liesM_mk fun q hq => ⟨.inr ⟨h4, h5⟩, ?_⟩
 have hq' : q < l.length := by simpa using hq
 obtain ⟨cs, e1, e2, e3⟩ := hlies q hq' (by omega)
 by_cases e : q = j
 ·subst e
  rw [List.getElem_set_self]
  exact ⟨e2, ds, h2, V.lies_keep (fun h => h) h3 (fun x hx => .inl hx) _ hy⟩
 ·rw [List.getElem_set_ne (fun h => e h.symm)]
  refine ⟨e2, cs, ?_, V.lies_keep (fun h => h) h3 (fun x hx => .inl hx) _ e3⟩
  rw [← e1]
  exact h1 q (by omega) e
theorem set6_far {w : World} {g o : Nat} {arr : Array Value} {ty : TypeId} (h : w.heap[g]? = some (.cells arr ty (0, 0))) (c0 c1 c2 c3 c4 c5 : Value) (p : Nat) (hp : p < o ∨ o + 6 ≤ p) :
 ((((((w.setCell ⟨g, o, none⟩ c0).setCell ⟨g, o + 1, none⟩ c1).setCell ⟨g, o + 2, none⟩ c2).setCell ⟨g, o + 3, none⟩ c3).setCell ⟨g, o + 4, none⟩ c4).setCell ⟨g, o + 5, none⟩ c5).cell? ⟨g, p, none⟩ = arr[p]? := by
 rw [cBk (sBk (sBk (sBk (sBk (sBk (sBk h o c0) (o + 1) c1) (o + 2) c2) (o + 3) c3) (o + 4) c4) (o + 5) c5)]
 simp only [Array.getElem?_setIfInBounds]
 repeat (rw [if_neg (by omega)])
theorem stores_end {w w0 w1 : World} {S : Nat → Prop} {g cap ty c o : Nat} {css : List (List Value)} {cur : Array Value} (hN : NewRows w0 w1 g cap ty c css cur) (hg : w.heap.size + 3 ≤ g) (B1 : Below w.heap.size w w1) (hS : ∀ b, S b → b < w.heap.size) (ho : o + 6 ≤ cur.size) (i0 : Nat) (u c0 c1 c2 c3 c4 c5 z0 z1 z2 z3 z4 z5 : Value) :
 ∃ Wf, Wf = (((((((((((((w1.setCell ⟨w.heap.size, i0, none⟩ u).setCell ⟨g, o, none⟩ c0).setCell ⟨g, o + 1, none⟩ c1).setCell ⟨g, o + 2, none⟩ c2).setCell ⟨g, o + 3, none⟩ c3).setCell ⟨g, o + 4, none⟩ c4).setCell ⟨g, o + 5, none⟩ c5).setCell ⟨w.heap.size + 1 + 1, 0, none⟩ z0).setCell ⟨w.heap.size + 1 + 1, 1, none⟩ z1).setCell ⟨w.heap.size + 1 + 1, 2, none⟩ z2).setCell ⟨w.heap.size + 1 + 1, 3, none⟩ z3).setCell ⟨w.heap.size + 1 + 1, 4, none⟩ z4).setCell ⟨w.heap.size + 1 + 1, 5, none⟩ z5) ∧
  (∃ arr', Wf.heap[g]? = some (.cells arr' ty (0, 0)) ∧ (∀ p, p < o ∨ o + 6 ≤ p → arr'[p]? = cur[p]?)) ∧ rowAt Wf g o [c0, c1, c2, c3, c4, c5] ∧ (∀ x, S x → Wf.heap[x]? = w.heap[x]?) ∧ g < Wf.heap.size ∧ Below w.heap.size w Wf := by
 have hs0 : (w1.setCell ⟨w.heap.size, i0, none⟩ u).heap[g]? = some (.cells cur ty (0, 0)) := by rw [sOt (show g ≠ w.heap.size by omega)]; exact hN.blk
 obtain ⟨arr', e1, e2, _, e4, e5, e6⟩ := set6_row hs0 ho c0 c1 c2 c3 c4 c5
 have e3 := set6_far (o := o) hs0 c0 c1 c2 c3 c4 c5
 have bB := Below.set6 (Below.set6 (B1.setCell (Nat.le_refl _) (p := ⟨w.heap.size, i0, none⟩) u) (show w.heap.size ≤ g by omega) o (o + 1) (o + 2) (o + 3) (o + 4) (o + 5) c0 c1 c2 c3 c4 c5) (show w.heap.size ≤ w.heap.size + 1 + 1 by omega) 0 1 2 3 4 5 z0 z1 z2 z3 z4 z5
 refine ⟨_, rfl, ?_⟩
 have hz : (w1.setCell ⟨w.heap.size, i0, none⟩ u).heap.size = w1.heap.size := sz1 _ _ _ _
 generalize (w1.setCell ⟨w.heap.size, i0, none⟩ u) = ws at *
 generalize ((((((ws.setCell ⟨g, o, none⟩ c0).setCell ⟨g, o + 1, none⟩ c1).setCell ⟨g, o + 2, none⟩ c2).setCell ⟨g, o + 3, none⟩ c3).setCell ⟨g, o + 4, none⟩ c4).setCell ⟨g, o + 5, none⟩ c5) = W7 at *
 have hgb : ((((((W7.setCell ⟨w.heap.size + 1 + 1, 0, none⟩ z0).setCell ⟨w.heap.size + 1 + 1, 1, none⟩ z1).setCell ⟨w.heap.size + 1 + 1, 2, none⟩ z2).setCell ⟨w.heap.size + 1 + 1, 3, none⟩ z3).setCell ⟨w.heap.size + 1 + 1, 4, none⟩ z4).setCell ⟨w.heap.size + 1 + 1, 5, none⟩ z5).heap[g]? = W7.heap[g]? := by
  repeat (rw [sOt (show g ≠ w.heap.size + 1 + 1 by omega)])
 have hzf : ((((((W7.setCell ⟨w.heap.size + 1 + 1, 0, none⟩ z0).setCell ⟨w.heap.size + 1 + 1, 1, none⟩ z1).setCell ⟨w.heap.size + 1 + 1, 2, none⟩ z2).setCell ⟨w.heap.size + 1 + 1, 3, none⟩ z3).setCell ⟨w.heap.size + 1 + 1, 4, none⟩ z4).setCell ⟨w.heap.size + 1 + 1, 5, none⟩ z5).heap.size = W7.heap.size := by simp only [sz1]
 generalize ((((((W7.setCell ⟨w.heap.size + 1 + 1, 0, none⟩ z0).setCell ⟨w.heap.size + 1 + 1, 1, none⟩ z1).setCell ⟨w.heap.size + 1 + 1, 2, none⟩ z2).setCell ⟨w.heap.size + 1 + 1, 3, none⟩ z3).setCell ⟨w.heap.size + 1 + 1, 4, none⟩ z4).setCell ⟨w.heap.size + 1 + 1, 5, none⟩ z5) = Wf at *
 refine ⟨⟨arr', hgb.trans e1, fun p hp => by rw [← e3 p hp, cBk e1]⟩, e4.keep hgb, fun x hx => bB.block x (hS x hx), ?_, bB⟩
 have := hN.hi
 omega
theorem row_kept {w0 w1 Wf : World} {g cap ty c : Nat} {css : List (List Value)} {cur arr' : Array Value} (hN : NewRows w0 w1 g cap ty c css cur) (h : Wf.heap[g]? = some (.cells arr' ty (0, 0))) (q : Nat) (hq : q < css.length) (e : ∀ r, r < c → arr'[0 + q * c + r]? = cur[0 + q * c + r]?) : rowAt Wf g (0 + q * c) css[q] := fun r u hu => by
 have hr : r < c := by
  rcases Nat.lt_or_ge r c with h | h
  ·exact h
  ·rw [List.getElem?_eq_none (by rw [hN.rows.len _ (List.getElem_mem hq)]; exact h)] at hu; cases hu
 have := hN.rows.row q hq r u hu
 rw [cBk hN.blk] at this
 rw [cBk h, e r hr]
 exact this
set_option maxHeartbeats 8000000 in
set_option maxRecDepth 100000 in
theorem replaced_any (v y : V) (j : Nat) (S : Nat → Prop) (cs ds : List Value) (w : World) (hv : v.lies false w S cs) (hy : y.lies false w S ds) (hS : ∀ b, S b → b < w.heap.size) (hwt : v.wt ≤ 1099511627776) (hj : kidAt v j) :
 Calls Tryz.prog 32 #[.agg cs.toArray, .int .i64 (j : Int), .agg ds.toArray] w (RpPost (replV v j y) S w) := by
 obtain ⟨k, b, i, s, l, m⟩ := v
 rw [V.lies] at hv
 obtain ⟨al, cl, bl, ol, am, cm, bm, om, rfl, ik, ii, is, hal, ham, hl, hm, _⟩ := hv
 obtain ⟨ek, eb, ei, es, eal, enl, ecl, eam, enm, ecm, rfl⟩ := V.ten hy
 have hml : m.length ≤ 1099511627776 := by have := wtM_len m; simp only [V.wt] at hwt; omega
 have hll : l.length ≤ 1099511627776 := by have := wtL_len l; simp only [V.wt] at hwt; omega
 have HY := hmk hy
 clear hy hwt
 rcases hj with ⟨hk, hj⟩ | ⟨hk, hj⟩
 ·obtain rfl : k = 4 := hk
  have hj' : j < l.length := hj
  obtain rfl : al = some ⟨bl, ol, none⟩ := hal.at_.resolve_left (by omega)
  obtain ⟨css, hcl, hrows, hlies⟩ := rowsL_of hl
  have y1 : (j : Int) < l.length := by omega
  have HC : Hid (∀ W, (∀ x, S x → W.heap[x]? = w.heap[x]?) → Calls Tryz.prog 51 #[.slice (some ⟨bl, ol, none⟩) l.length cl] W fun e w' => ∃ g cap cur, e = .returned (.slice (some ⟨g, 0, none⟩) l.length cap) ∧ NewRows W w' g cap 25 6 css cur ∧ Below W.heap.size W w') := fun W hW => by
   rw [← hcl]
   refine vclone_any css bl ol cl W ⟨hrows.len, hrows.one, fun q hq => ?_⟩ (by omega)
   have hSb := (liesL_get hl 0 (by omega)).1
   exact (hrows.row q hq).keep (hW _ hSb)
  clear hl hrows
  have HB : Hid (Below w.heap.size w (((w.alloc (oV 4 b i s (some ⟨bl, ol, none⟩) l.length cl am m.length cm)).alloc (oV ek eb ei es eal enl ecl eam enm ecm)).alloc oN)) := (tBw w _ _).alloc (by rw [aSz, aSz]; omega) _
  have hz3 : (((w.alloc (oV 4 b i s (some ⟨bl, ol, none⟩) l.length cl am m.length cm)).alloc (oV ek eb ei es eal enl ecl eam enm ecm)).alloc oN).heap.size = w.heap.size + 3 := by rw [aSz, aSz, aSz]
  have hz3 := hz3; dsimp only [oV, oN] at hz3
  obtain ⟨p0, p1, p2⟩ := three_allocs w (oV 4 b i s (some ⟨bl, ol, none⟩) l.length cl am m.length cm) (oV ek eb ei es eal enl ecl eam enm ecm) oN
  have hcl := HC.out (((w.alloc (oV 4 b i s (some ⟨bl, ol, none⟩) l.length cl am m.length cm)).alloc (oV ek eb ei es eal enl ecl eam enm ecm)).alloc oN) (fun x hx => HB.out.block x (hS x hx))
  go_enter Tryz.func32, Tryz.ntmps32
  go_wp2_with fail
  generalize (((w.alloc (oV 4 b i s (some ⟨bl, ol, none⟩) l.length cl am m.length cm)).alloc (oV ek eb ei es eal enl ecl eam enm ecm)).alloc oN) = w0 at *
  refine hcl.mono ?_
  rintro e w1 ⟨g, cap, cur, rfl, hN, b1⟩
  have hg3 : w.heap.size + 3 ≤ g := by have := hN.lo; omega
  have B1 := HB.out.trans (b1.mono (by omega))
  have t0 := (b1.block w.heap.size (by omega)).trans p0
  have t1 := (b1.block (w.heap.size + 1) (by omega)).trans p1
  have t2 := (b1.block (w.heap.size + 2) (by omega)).trans p2
  have t2' : w1.heap[w.heap.size + 1 + 1]? = _ := t2
  clear p0 p1 p2 HC hcl HB
  obtain ⟨a0, a1, a2, a3, a4, a5⟩ := sixC t0
  obtain ⟨c0, c1, c2, c3, c4, c5⟩ := sixC t1
  obtain ⟨d0, d1, d2, d3, d4, d5⟩ := sixC t2'
  have f0 := fBk t0
  have f2 := fBk t2'
  have fg := fBk hN.blk
  have HNR := hmk hN
  have hsz := hN.size
  have hn0 : ¬ g = w.heap.size := by omega
  have hn1 : ¬ g = w.heap.size + 1 := by omega
  have hn2 : ¬ g = w.heap.size + 1 + 1 := by omega
  have hcz : j * 6 + 6 ≤ cur.size := by omega
  obtain ⟨v0, k0⟩ : ∃ v, w1.cell? ⟨g, j * 6, none⟩ = some v := ⟨_, by rw [cBk hN.blk]; exact Array.getElem?_eq_getElem (by omega)⟩
  obtain ⟨v1, k1⟩ : ∃ v, w1.cell? ⟨g, j * 6 + 1, none⟩ = some v := ⟨_, by rw [cBk hN.blk]; exact Array.getElem?_eq_getElem (by omega)⟩
  obtain ⟨v2, k2⟩ : ∃ v, w1.cell? ⟨g, j * 6 + 2, none⟩ = some v := ⟨_, by rw [cBk hN.blk]; exact Array.getElem?_eq_getElem (by omega)⟩
  obtain ⟨v3, k3⟩ : ∃ v, w1.cell? ⟨g, j * 6 + 3, none⟩ = some v := ⟨_, by rw [cBk hN.blk]; exact Array.getElem?_eq_getElem (by omega)⟩
  obtain ⟨v4, k4⟩ : ∃ v, w1.cell? ⟨g, j * 6 + 4, none⟩ = some v := ⟨_, by rw [cBk hN.blk]; exact Array.getElem?_eq_getElem (by omega)⟩
  obtain ⟨v5, k5⟩ : ∃ v, w1.cell? ⟨g, j * 6 + 5, none⟩ = some v := ⟨_, by rw [cBk hN.blk]; exact Array.getElem?_eq_getElem (by omega)⟩
  obtain ⟨Wf, hWf, HE⟩ := stores_end (o := j * 6) hN hg3 B1 hS hcz 4 (.slice (some ⟨g, 0, none⟩) l.length cap) (.int .i64 ek) (.bool eb) (.int .i64 ei) (.string es) (.slice eal enl ecl) (.slice eam enm ecm) (.int .i64 4) (.bool b) (.int .i64 i) (.string s) (.slice (some ⟨g, 0, none⟩) l.length cap) (.slice am m.length cm)
  have HE' := hmk HE
  have HM := hmk hm
  clear hN HE hm
  go_wp2_with fail
  (try simp only [Exit.inBlock, Exit.then])
  refine bodyPost_ret (v := .agg #[.int .i64 4, .bool b, .int .i64 i, .string s, .slice (some ⟨g, 0, none⟩) l.length cap, .slice am m.length cm]) ?_ rfl ?_
  rotate_left
  ·rw [← hWf]
   obtain ⟨⟨arr', q1, q2⟩, q3, q4, q5, q6⟩ := HE'.out
   refine ⟨[.int .i64 4, .bool b, .int .i64 i, .string s, .slice (some ⟨g, 0, none⟩) l.length cap, .slice am m.length cm], rfl, ?_, q6⟩
   show (V.mk 4 b i s (l.set j y) m).lies false Wf _ _
   refine lies_S ik ii is ⟨by have := HNR.out.le; omega, HNR.out.max, .inr rfl, (fun h => by cases h)⟩ ham (liesL_setG hcl hlies HY.out (fun q hq hne => row_kept HNR.out q1 q hq (fun r hr => q2 _ ?_)) (by rw [Nat.zero_add]; exact q3) q4 (by omega) q5) (lMk (fun h => h) q4 (fun x hx => .inl hx) _ HM.out) (by simp) rfl
   rcases Nat.lt_or_gt_of_ne hne with h | h
   ·left; have : (q + 1) * 6 ≤ j * 6 := Nat.mul_le_mul_right 6 h; omega
   ·right; have : (j + 1) * 6 ≤ q * 6 := Nat.mul_le_mul_right 6 h; omega
  ·rw [results_cell1 rfl]
   go_simp
 ·obtain rfl : k = 5 := hk
  have hj' : j < m.length := hj
  obtain rfl : am = some ⟨bm, om, none⟩ := ham.at_.resolve_left (by omega)
  obtain ⟨css, hcl, hrows, hlies⟩ := rowsM_of hm
  have y1 : (j : Int) < m.length := by omega
  have HC : Hid (∀ W, (∀ x, S x → W.heap[x]? = w.heap[x]?) → Calls Tryz.prog 52 #[.slice (some ⟨bm, om, none⟩) m.length cm] W fun e w' => ∃ g cap cur, e = .returned (.slice (some ⟨g, 0, none⟩) m.length cap) ∧ NewRows W w' g cap 39 7 css cur ∧ Below W.heap.size W w') := fun W hW => by
   rw [← hcl]
   refine mclone_any css bm om cm W ⟨hrows.len, hrows.one, fun q hq => ?_⟩ (by omega)
   have hSb := (liesM_get hm 0 (by omega)).1
   exact (hrows.row q hq).keep (hW _ hSb)
  clear hm hrows
  have HB : Hid (Below w.heap.size w (((w.alloc (oV 5 b i s al l.length cl (some ⟨bm, om, none⟩) m.length cm)).alloc (oV ek eb ei es eal enl ecl eam enm ecm)).alloc oN)) := (tBw w _ _).alloc (by rw [aSz, aSz]; omega) _
  have hz3 : (((w.alloc (oV 5 b i s al l.length cl (some ⟨bm, om, none⟩) m.length cm)).alloc (oV ek eb ei es eal enl ecl eam enm ecm)).alloc oN).heap.size = w.heap.size + 3 := by rw [aSz, aSz, aSz]
  have hz3 := hz3; dsimp only [oV, oN] at hz3
  obtain ⟨p0, p1, p2⟩ := three_allocs w (oV 5 b i s al l.length cl (some ⟨bm, om, none⟩) m.length cm) (oV ek eb ei es eal enl ecl eam enm ecm) oN
  have hcl := HC.out (((w.alloc (oV 5 b i s al l.length cl (some ⟨bm, om, none⟩) m.length cm)).alloc (oV ek eb ei es eal enl ecl eam enm ecm)).alloc oN) (fun x hx => HB.out.block x (hS x hx))
  go_enter Tryz.func32, Tryz.ntmps32
  go_wp2_with fail
  generalize (((w.alloc (oV 5 b i s al l.length cl (some ⟨bm, om, none⟩) m.length cm)).alloc (oV ek eb ei es eal enl ecl eam enm ecm)).alloc oN) = w0 at *
  refine hcl.mono ?_
  rintro e w1 ⟨g, cap, cur, rfl, hN, b1⟩
  have hg3 : w.heap.size + 3 ≤ g := by have := hN.lo; omega
  have B1 := HB.out.trans (b1.mono (by omega))
  have t0 := (b1.block w.heap.size (by omega)).trans p0
  have t1 := (b1.block (w.heap.size + 1) (by omega)).trans p1
  have t2 := (b1.block (w.heap.size + 2) (by omega)).trans p2
  have t2' : w1.heap[w.heap.size + 1 + 1]? = _ := t2
  clear p0 p1 p2 HC hcl HB
  obtain ⟨a0, a1, a2, a3, a4, a5⟩ := sixC t0
  obtain ⟨c0, c1, c2, c3, c4, c5⟩ := sixC t1
  obtain ⟨d0, d1, d2, d3, d4, d5⟩ := sixC t2'
  have f0 := fBk t0
  have f2 := fBk t2'
  have fg := fBk hN.blk
  have HNR := hmk hN
  have hsz := hN.size
  have hn0 : ¬ g = w.heap.size := by omega
  have hn1 : ¬ g = w.heap.size + 1 := by omega
  have hn2 : ¬ g = w.heap.size + 1 + 1 := by omega
  have hcz : j * 7 + 7 ≤ cur.size := by omega
  obtain ⟨v0, k0⟩ : ∃ v, w1.cell? ⟨g, j * 7 + 1, none⟩ = some v := ⟨_, by rw [cBk hN.blk]; exact Array.getElem?_eq_getElem (by omega)⟩
  obtain ⟨v1, k1⟩ : ∃ v, w1.cell? ⟨g, j * 7 + 2, none⟩ = some v := ⟨_, by rw [cBk hN.blk]; exact Array.getElem?_eq_getElem (by omega)⟩
  obtain ⟨v2, k2⟩ : ∃ v, w1.cell? ⟨g, j * 7 + 3, none⟩ = some v := ⟨_, by rw [cBk hN.blk]; exact Array.getElem?_eq_getElem (by omega)⟩
  obtain ⟨v3, k3⟩ : ∃ v, w1.cell? ⟨g, j * 7 + 4, none⟩ = some v := ⟨_, by rw [cBk hN.blk]; exact Array.getElem?_eq_getElem (by omega)⟩
  obtain ⟨v4, k4⟩ : ∃ v, w1.cell? ⟨g, j * 7 + 5, none⟩ = some v := ⟨_, by rw [cBk hN.blk]; exact Array.getElem?_eq_getElem (by omega)⟩
  obtain ⟨v5, k5⟩ : ∃ v, w1.cell? ⟨g, j * 7 + 6, none⟩ = some v := ⟨_, by rw [cBk hN.blk]; exact Array.getElem?_eq_getElem (by omega)⟩
  obtain ⟨Wf, hWf, HE⟩ := stores_end (o := j * 7 + 1) hN hg3 B1 hS (by omega) 5 (.slice (some ⟨g, 0, none⟩) m.length cap) (.int .i64 ek) (.bool eb) (.int .i64 ei) (.string es) (.slice eal enl ecl) (.slice eam enm ecm) (.int .i64 5) (.bool b) (.int .i64 i) (.string s) (.slice al l.length cl) (.slice (some ⟨g, 0, none⟩) m.length cap)
  have HE' := hmk HE
  have HL := hmk hl
  clear hN HE hl
  go_wp2_with fail
  (try simp only [Exit.inBlock, Exit.then])
  refine bodyPost_ret (v := .agg #[.int .i64 5, .bool b, .int .i64 i, .string s, .slice al l.length cl, .slice (some ⟨g, 0, none⟩) m.length cap]) ?_ rfl ?_
  rotate_left
  ·rw [← hWf]
   obtain ⟨⟨arr', q1, q2⟩, q3, q4, q5, q6⟩ := HE'.out
   refine ⟨[.int .i64 5, .bool b, .int .i64 i, .string s, .slice al l.length cl, .slice (some ⟨g, 0, none⟩) m.length cap], rfl, ?_, q6⟩
   show (V.mk 5 b i s l (m.set j ((m.getD j (⟨#[]⟩, nullV)).1, y))).lies false Wf _ _
   refine lies_S ik ii is hal ⟨by have := HNR.out.le; omega, HNR.out.max, .inr rfl, (fun h => by cases h)⟩ (lLk (fun h => h) q4 (fun x hx => .inl hx) _ HL.out) (liesM_setG hcl hlies HY.out hj' (fun q hq hne => row_kept HNR.out q1 q hq (fun r hr => q2 _ ?_)) (fun r u hu => ?_) q4 (by omega) q5) rfl (by simp)
   ·rcases Nat.lt_or_gt_of_ne hne with h | h
    ·left; have : (q + 1) * 7 ≤ j * 7 := Nat.mul_le_mul_right 7 h; omega
    ·right; have : (j + 1) * 7 ≤ q * 7 := Nat.mul_le_mul_right 7 h; omega
   ·cases r with
    | zero =>
     obtain ⟨cs', e1, _, _⟩ := hlies j hj' (by omega)
     have := HNR.out.rows.row j (by omega) 0 (.string (m[j]).1) (by rw [e1]; rfl)
     rw [cBk HNR.out.blk] at this
     rw [cBk q1, q2 _ (by omega), this]
     exact hu
    | succ r =>
     have := q3 r u (by simpa using hu)
     rw [show 0 + j * 7 + (r + 1) = j * 7 + 1 + r by omega]
     exact this
  ·rw [results_cell1 rfl]
   go_simp
def wkV (F : V → V × Int) : V → List ByteArray → V × Int × Option V
 | v, [] => ((F v).1, (F v).2, some v)
 | v, t :: ts => if (ledF v t).2 = 0 then (if (wkV F (kid v (ledF v t).1) ts).2.1 = 0 then (replV v (ledF v t).1 (wkV F (kid v (ledF v t).1) ts).1, 0, (wkV F (kid v (ledF v t).1) ts).2.2) else (nullV, (wkV F (kid v (ledF v t).1) ts).2.1, (wkV F (kid v (ledF v t).1) ts).2.2)) else (nullV, (ledF v t).2, none)
def DoC (f : Nat) (cap : Value) (F : V → V × Int) (S : Nat → Prop) (G : Nat) (D : V → World → World → Prop) (w : World) : Prop := ∀ (W : World) (x : V) (cs : List Value), Below w.heap.size w W → x.wt ≤ 1114112 → allG x → x.lies false W S cs → Calls Tryz.prog f #[.agg cs.toArray, cap] W (fun e W' => ∃ ds : List Value, e = .returned (.tuple #[.agg ds.toArray, .int .i64 (F x).2]) ∧ (F x).1.lies false W' (OrNew S W W') ds ∧ W.grownBy W' (some G) ∧ D x W W')
theorem DoC.below {f : Nat} {cap : Value} {F : V → V × Int} {S : Nat → Prop} {G : Nat} {D : V → World → World → Prop} {w W : World} (h : DoC f cap F S G D w) (hb : Below w.heap.size w W) : DoC f cap F S G D W := fun W' x cs b' hwx hga hx => h W' x cs (hb.trans (b'.mono hb.size)) hwx hga hx
def Left (x : V) (S : Nat → Prop) (G : Nat) (D : V → World → World → Prop) (w w' : World) : Prop := ∃ W0 W1, Below w.heap.size w W0 ∧ D x W0 W1 ∧ W1.heap.size ≤ w'.heap.size ∧ ∀ b, (S b ∨ b = G ∨ New W0 W1 b) → w'.heap[b]? = W1.heap[b]?
def WkPost (r : V × Int × Option V) (S : Nat → Prop) (G : Nat) (D : V → World → World → Prop) (w : World) (e : Ending) (w' : World) : Prop :=
 ∃ cs : List Value, e = .returned (.tuple #[.agg cs.toArray, .int .i64 r.2.1]) ∧ r.1.lies false w' (OrNew S w w') cs ∧ w.grownBy w' (some G) ∧ (∀ x, r.2.2 = some x → Left x S G D w w') ∧ (r.2.2 = none → Below w.heap.size w w')
theorem allGL_get : ∀ {l : List V}, allGL l → ∀ (j : Nat) (h : j < l.length), allG l[j]
 | [], _, j, h => by simp at h
 | x :: t, ha, 0, h => by rw [allGL] at ha; exact ha.1
 | x :: t, ha, j + 1, h => by rw [allGL] at ha; exact allGL_get ha.2 j (by simpa using h)
theorem allGM_get : ∀ {l : List Mem}, allGM l → ∀ (j : Nat) (h : j < l.length), allG (l[j]).2
 | [], _, j, h => by simp at h
 | (_, x) :: t, ha, 0, h => by rw [allGM] at ha; exact ha.1
 | (_, x) :: t, ha, j + 1, h => by rw [allGM] at ha; exact allGM_get ha.2 j (by simpa using h)
theorem allG_srt {v : V} (h : allG v) : Srt (memsOf v) := by
 obtain ⟨k, b, i, s, l, m⟩ := v
 rw [allG] at h
 have hg := h.1
 simp only [goodB, Bool.and_eq_true] at hg
 exact srt_rise hg.2
theorem allG_kid {v : V} {j : Nat} (h : allG v) (hj : kidAt v j) : allG (kid v j) := by
 obtain ⟨k, b, i, s, l, m⟩ := v
 rw [allG] at h
 rcases hj with ⟨hk, hj⟩ | ⟨hk, hj⟩
 ·have hk' : k = 4 := hk
  subst hk'
  have hj' : j < l.length := hj
  show allG (l.getD j nullV)
  rw [List.getD_eq_getElem?_getD, List.getElem?_eq_getElem hj']
  exact allGL_get h.2.1 j hj'
 ·have hk' : k = 5 := hk
  subst hk'
  have hj' : j < m.length := hj
  show allG (m.getD j (⟨#[]⟩, nullV)).2
  rw [List.getD_eq_getElem?_getD, List.getElem?_eq_getElem hj']
  exact allGM_get h.2.2 j hj'
theorem kid_wt {v : V} {j : Nat} (hj : kidAt v j) : (kid v j).wt ≤ v.wt := by
 obtain ⟨k, b, i, s, l, m⟩ := v
 rcases hj with ⟨hk, hj⟩ | ⟨hk, hj⟩
 ·have hk' : k = 4 := hk
  subst hk'
  have hj' : j < l.length := hj
  show (l.getD j nullV).wt ≤ _
  rw [List.getD_eq_getElem?_getD, List.getElem?_eq_getElem hj', V.wt]
  have := wtL_mem (List.getElem_mem hj')
  simp only [Option.getD_some]; omega
 ·have hk' : k = 5 := hk
  subst hk'
  have hj' : j < m.length := hj
  show (m.getD j (⟨#[]⟩, nullV)).2.wt ≤ _
  rw [List.getD_eq_getElem?_getD, List.getElem?_eq_getElem hj', V.wt]
  have := wtM_mem (List.getElem_mem hj')
  simp only [Option.getD_some]; omega
theorem grown_below {w w' : World} {G : Nat} (h : Below w.heap.size w w') : w.grownBy w' (some G) := ⟨h.os, h.tape, h.output, h.size, fun k hk _ => h.block k hk⟩
theorem box_end {w W0 W1 : World} {x y : V} {S : Nat → Prop} {G : Nat} {D : V → World → World → Prop} {ds : List Value} (B0 : Below w.heap.size w W0) (hM : w.heap.size + 1 < W0.heap.size) (hS : ∀ b, S b → b < w.heap.size) (hG : G < w.heap.size) (hy : y.lies false W1 (OrNew S W0 W1) ds) (hg : W0.grownBy W1 (some G)) (hD : D x W0 W1) (i1 i2 i3 i4 i5 i6 : Nat) (u1 u2 u3 u4 u5 u6 : Value) :
 y.lies false ((((((W1.setCell ⟨w.heap.size + 1, i1, none⟩ u1).setCell ⟨w.heap.size + 1, i2, none⟩ u2).setCell ⟨w.heap.size + 1, i3, none⟩ u3).setCell ⟨w.heap.size + 1, i4, none⟩ u4).setCell ⟨w.heap.size + 1, i5, none⟩ u5).setCell ⟨w.heap.size + 1, i6, none⟩ u6) (OrNew S w ((((((W1.setCell ⟨w.heap.size + 1, i1, none⟩ u1).setCell ⟨w.heap.size + 1, i2, none⟩ u2).setCell ⟨w.heap.size + 1, i3, none⟩ u3).setCell ⟨w.heap.size + 1, i4, none⟩ u4).setCell ⟨w.heap.size + 1, i5, none⟩ u5).setCell ⟨w.heap.size + 1, i6, none⟩ u6)) ds ∧
 w.grownBy ((((((W1.setCell ⟨w.heap.size + 1, i1, none⟩ u1).setCell ⟨w.heap.size + 1, i2, none⟩ u2).setCell ⟨w.heap.size + 1, i3, none⟩ u3).setCell ⟨w.heap.size + 1, i4, none⟩ u4).setCell ⟨w.heap.size + 1, i5, none⟩ u5).setCell ⟨w.heap.size + 1, i6, none⟩ u6) (some G) ∧
 Left x S G D w ((((((W1.setCell ⟨w.heap.size + 1, i1, none⟩ u1).setCell ⟨w.heap.size + 1, i2, none⟩ u2).setCell ⟨w.heap.size + 1, i3, none⟩ u3).setCell ⟨w.heap.size + 1, i4, none⟩ u4).setCell ⟨w.heap.size + 1, i5, none⟩ u5).setCell ⟨w.heap.size + 1, i6, none⟩ u6) := by
 have hsz : ((((((W1.setCell ⟨w.heap.size + 1, i1, none⟩ u1).setCell ⟨w.heap.size + 1, i2, none⟩ u2).setCell ⟨w.heap.size + 1, i3, none⟩ u3).setCell ⟨w.heap.size + 1, i4, none⟩ u4).setCell ⟨w.heap.size + 1, i5, none⟩ u5).setCell ⟨w.heap.size + 1, i6, none⟩ u6).heap.size = W1.heap.size := by simp only [sz1]
 have hot : ∀ x, x ≠ w.heap.size + 1 → ((((((W1.setCell ⟨w.heap.size + 1, i1, none⟩ u1).setCell ⟨w.heap.size + 1, i2, none⟩ u2).setCell ⟨w.heap.size + 1, i3, none⟩ u3).setCell ⟨w.heap.size + 1, i4, none⟩ u4).setCell ⟨w.heap.size + 1, i5, none⟩ u5).setCell ⟨w.heap.size + 1, i6, none⟩ u6).heap[x]? = W1.heap[x]? := fun x hx => by
  repeat (rw [sOt hx])
 have hgs : W1.grownBy ((((((W1.setCell ⟨w.heap.size + 1, i1, none⟩ u1).setCell ⟨w.heap.size + 1, i2, none⟩ u2).setCell ⟨w.heap.size + 1, i3, none⟩ u3).setCell ⟨w.heap.size + 1, i4, none⟩ u4).setCell ⟨w.heap.size + 1, i5, none⟩ u5).setCell ⟨w.heap.size + 1, i6, none⟩ u6) (some (w.heap.size + 1)) := gSt (gSt (gSt (gSt (gSt (gSt (World.grownBy.refl W1 _) i1 u1) i2 u2) i3 u3) i4 u4) i5 u5) i6 u6
 generalize ((((((W1.setCell ⟨w.heap.size + 1, i1, none⟩ u1).setCell ⟨w.heap.size + 1, i2, none⟩ u2).setCell ⟨w.heap.size + 1, i3, none⟩ u3).setCell ⟨w.heap.size + 1, i4, none⟩ u4).setCell ⟨w.heap.size + 1, i5, none⟩ u5).setCell ⟨w.heap.size + 1, i6, none⟩ u6) = Wf at *
 have hs0 := B0.size
 have hs1 := hg.size
 refine ⟨V.lies_keep (fun h => h) (fun z hz => hot z ?_) (fun z hz => ?_) _ hy, ⟨?_, ?_, ?_, ?_, fun z hz hne => ?_⟩, W0, W1, B0, hD, by omega, fun z hz => hot z ?_⟩
 ·rcases hz with hz | hz
  ·have := hS z hz; omega
  ·have := hz.1; omega
 ·rcases hz with hz | hz
  ·exact .inl hz
  ·exact .inr ⟨by have := hz.1; omega, by have := hz.2; omega⟩
 ·exact hgs.os.trans (hg.os.trans B0.os)
 ·exact hgs.tape.trans (hg.tape.trans B0.tape)
 ·exact hgs.output.trans (hg.output.trans B0.output)
 ·omega
 ·rw [hot z (by omega), hg.block z (by omega) hne, B0.block z hz]
 ·rcases hz with hz | hz | hz
  ·have := hS z hz; omega
  ·omega
  ·have := hz.1; omega
end Go.Proofs.YtnakligbogkmbaaGreatDoor
