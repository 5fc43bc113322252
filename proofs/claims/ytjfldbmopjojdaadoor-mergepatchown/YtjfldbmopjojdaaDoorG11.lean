/- joined: RgxA MrgQ MovA MrgR RclA PatX -/
import Derived.Test.YtjfldbmopjojdaaDoorG10
set_option linter.unusedSimpArgs false
set_option linter.unusedVariables false
namespace Go.Proofs.YtjfldbmopjojdaaDoor
open Go.RowKit Go.Lib
theorem wo_fin {S : Nat → Prop} {w w3 : World} {x : V} {M : Nat} {c0 c1 c2 c3 c4 c5 : Value} (hM : w.heap.size ≤ M) (hS : ∀ b, S b → b < w.heap.size) (B3 : Below w.heap.size w w3) (hx : x.lies false w3 (fun y => S y ∨ (w.heap.size ≤ y ∧ y ≠ M ∧ y < w3.heap.size)) [c0, c1, c2, c3, c4, c5]) :
 x.lies false ((((((w3.setCell ⟨M, 0, none⟩ (c0)).setCell ⟨M, 1, none⟩ (c1)).setCell ⟨M, 2, none⟩ (c2)).setCell ⟨M, 3, none⟩ (c3)).setCell ⟨M, 4, none⟩ (c4)).setCell ⟨M, 5, none⟩ (c5)) (OrNew S w ((((((w3.setCell ⟨M, 0, none⟩ (c0)).setCell ⟨M, 1, none⟩ (c1)).setCell ⟨M, 2, none⟩ (c2)).setCell ⟨M, 3, none⟩ (c3)).setCell ⟨M, 4, none⟩ (c4)).setCell ⟨M, 5, none⟩ (c5))) [c0, c1, c2, c3, c4, c5] ∧ Below w.heap.size w ((((((w3.setCell ⟨M, 0, none⟩ (c0)).setCell ⟨M, 1, none⟩ (c1)).setCell ⟨M, 2, none⟩ (c2)).setCell ⟨M, 3, none⟩ (c3)).setCell ⟨M, 4, none⟩ (c4)).setCell ⟨M, 5, none⟩ (c5)) := by
 have hot : ∀ y, y ≠ M → ((((((w3.setCell ⟨M, 0, none⟩ (c0)).setCell ⟨M, 1, none⟩ (c1)).setCell ⟨M, 2, none⟩ (c2)).setCell ⟨M, 3, none⟩ (c3)).setCell ⟨M, 4, none⟩ (c4)).setCell ⟨M, 5, none⟩ (c5)).heap[y]? = w3.heap[y]? := fun y hy => by
  repeat (rw [set_other hy])
 have g2 : w3.grownBy ((((((w3.setCell ⟨M, 0, none⟩ (c0)).setCell ⟨M, 1, none⟩ (c1)).setCell ⟨M, 2, none⟩ (c2)).setCell ⟨M, 3, none⟩ (c3)).setCell ⟨M, 4, none⟩ (c4)).setCell ⟨M, 5, none⟩ (c5)) (some M) := grown_set (grown_set (grown_set (grown_set (grown_set (grown_set (World.grownBy.refl w3 _) 0 c0) 1 c1) 2 c2) 3 c3) 4 c4) 5 c5
 have s2 : ((((((w3.setCell ⟨M, 0, none⟩ (c0)).setCell ⟨M, 1, none⟩ (c1)).setCell ⟨M, 2, none⟩ (c2)).setCell ⟨M, 3, none⟩ (c3)).setCell ⟨M, 4, none⟩ (c4)).setCell ⟨M, 5, none⟩ (c5)).heap.size = w3.heap.size := by simp only [size_set1]
 generalize ((((((w3.setCell ⟨M, 0, none⟩ (c0)).setCell ⟨M, 1, none⟩ (c1)).setCell ⟨M, 2, none⟩ (c2)).setCell ⟨M, 3, none⟩ (c3)).setCell ⟨M, 4, none⟩ (c4)).setCell ⟨M, 5, none⟩ (c5)) = wf at *
 refine ⟨V.lies_keep (fun h => h) (fun y hy => ?_) (fun y hy => ?_) _ hx, ⟨g2.os.trans B3.os, g2.tape.trans B3.tape, g2.output.trans B3.output, by have := B3.size; omega, fun q hq => (hot q (by omega)).trans (B3.block q hq)⟩⟩
 ·rcases hy with hy | hy
  ·have := hS y hy; exact hot y (by omega)
  ·exact hot y hy.2.1
 ·rcases hy with hy | hy
  ·exact .inl hy
  ·exact .inr ⟨by omega, by omega⟩
end Go.Proofs.YtjfldbmopjojdaaDoor
namespace Go.Proofs.YtjfldbmopjojdaaDoor
open Go.RowKit Go.Lib
theorem mems_wt (v : V) : wtM (memsOf v) + 1 ≤ v.wt := by
 obtain ⟨k, b, i, s, l, m⟩ := v
 rw [V.wt]
 show wtM m + 1 ≤ _
 omega
theorem wtM_filt (p : Mem → Bool) : ∀ m : List Mem, wtM (m.filter p) ≤ wtM m
 | [] => by simp [wtM]
 | (k, x) :: t => by
  have h := wtM_filt p t
  cases hf : p (k, x) with
  | true => rw [List.filter_cons_of_pos (by rw [hf])]; simp only [wtM]; omega
  | false => rw [List.filter_cons_of_neg (by rw [hf]; simp)]; simp only [wtM]; omega
theorem wtM_apq : ∀ a b : List Mem, wtM (a ++ b) = wtM a + wtM b
 | [], b => by simp [wtM]
 | (k, x) :: t, b => by
  have h := wtM_apq t b
  rw [List.cons_append]; simp only [wtM]; omega
theorem wt_get (k : ByteArray) : ∀ o : List Mem, wtM (o.filter (fun y : Mem => ltB y.1 k)) + wtM (o.filter (fun y : Mem => ltB k y.1)) + wtM (memsOf (getR o k)) ≤ wtM o
 | [] => by simp [wtM, getR, nullV, memsOf]
 | (ka, xa) :: t => by
  have ih := wt_get k t
  rw [getR]
  have hm := mems_wt xa
  by_cases he : ka.toList = k.toList
  ·rw [if_pos he]
   have h1 : ¬ ltB ka k = true := fun h => lt_ne h he
   have h2 : ¬ ltB k ka = true := fun h => lt_ne h he.symm
   rw [List.filter_cons_of_neg (by exact h1), List.filter_cons_of_neg (by exact h2)]
   simp only [wtM]
   omega
  ·rw [if_neg he]
   by_cases h1 : ltB ka k = true
   ·rw [List.filter_cons_of_pos (by exact h1), List.filter_cons_of_neg (by rw [lt_asym h1]; simp)]
    simp only [wtM]
    omega
   ·rw [List.filter_cons_of_neg (by exact h1)]
    by_cases h2 : ltB k ka = true
    ·rw [List.filter_cons_of_pos (by exact h2)]
     simp only [wtM]
     omega
    ·rw [List.filter_cons_of_neg (by exact h2)]
     simp only [wtM]
     omega
mutual
theorem pch_wt : ∀ (t p : V), (pchV t p).wt ≤ wtM (memsOf t) + p.wt
 | t, .mk k b i s l m => by
  rw [pchV]
  split
  ·have h := pchM_wt (if kindOf t = 5 then memsOf t else []) m
   have h2 : wtM (if kindOf t = 5 then memsOf t else []) ≤ wtM (memsOf t) := by split <;> simp [wtM]
   simp only [V.wt, wtL]
   have e : (⟨#[]⟩ : ByteArray).size = 0 := rfl
   omega
  ·omega
theorem pchM_wt : ∀ (o q : List Mem), wtM (pchM o q) ≤ wtM o + wtM q
 | o, [] => by rw [pchM]; omega
 | o, (k, x) :: q => by
  rw [pchM]
  have h := pchM_wt (if kindOf x = 0 then wotR o k else witR o k (pchV (getR o k) x)) q
  have h1 := pch_wt (getR o k) x
  have h2 : wtM (if kindOf x = 0 then wotR o k else witR o k (pchV (getR o k) x)) ≤ wtM o + k.size + x.wt := by
   split
   ·have := wtM_filt (fun y => !(y.1.toList == k.toList)) o
    rw [wotR]; omega
   ·have := wt_get k o
    rw [witR, wtM_apq, wtM]
    show wtM (o.filter (fun y : Mem => ltB y.1 k)) + (k.size + (pchV (getR o k) x).wt + wtM (o.filter (fun y : Mem => ltB k y.1))) ≤ _
    omega
  simp only [wtM]
  omega
end
theorem allGM_i : ∀ {l : List Mem}, allGM l ↔ ∀ y ∈ l, allG y.2
 | [] => by simp [allGM]
 | (k, x) :: t => by rw [allGM, allGM_i (l := t)]; simp
structure GM (l : List Mem) : Prop where
 g : ∀ y ∈ l, allG y.2
 s : Srt l
 u : ∀ y ∈ l, utfB y.1 = true
theorem gm_nil : GM [] := ⟨fun _ h => by simp at h, List.Pairwise.nil, fun _ h => by simp at h⟩
theorem gm_mems {v : V} (h : allG v) : GM (memsOf v) := by
 obtain ⟨k, b, i, s, l, m⟩ := v
 rw [allG] at h
 have h1 := h.1
 simp only [goodB, Bool.and_eq_true] at h1
 exact ⟨allGM_i.1 h.2.2, srt_rise h1.2, rise_utf h1.2⟩
theorem gm_map {m : List Mem} (h : GM m) : allG (.mk 5 false 0 ⟨#[]⟩ [] m) := by
 rw [allG]
 refine ⟨?_, trivial, allGM_i.2 h.g⟩
 simp only [goodB, Bool.and_eq_true]
 refine ⟨⟨?_, by kernel_rfl⟩, rise_of h.s h.u⟩
 rw [plainB, decide_eq_true_iff]
 exact ⟨by omega, by omega, .inr rfl, .inr rfl, .inr (by kernel_rfl), .inr rfl, .inl rfl⟩
theorem null_good : allG nullV := by
 rw [nullV, allG]
 exact ⟨by kernel_rfl, trivial, trivial⟩
theorem gm_get {o : List Mem} (h : ∀ y ∈ o, allG y.2) (k : ByteArray) : allG (getR o k) := by
 induction o with
 | nil => exact null_good
 | cons y t ih =>
  rw [getR]
  split
  ·exact h y (List.mem_cons_self ..)
  ·exact ih fun z hz => h z (List.mem_cons_of_mem _ hz)
theorem gm_wot {o : List Mem} (h : GM o) (k : ByteArray) : GM (wotR o k) :=
 ⟨fun y hy => h.g y (List.mem_filter.1 hy).1, List.Pairwise.filter _ h.s, fun y hy => h.u y (List.mem_filter.1 hy).1⟩
theorem gm_wit {o : List Mem} (h : GM o) {k : ByteArray} (hk : utfB k = true) {x : V} (hx : allG x) : GM (witR o k x) := by
 have key : ∀ y ∈ witR o k x, y = (k, x) ∨ y ∈ o := fun y hy => by
  rw [witR, List.mem_append, List.mem_cons] at hy
  rcases hy with hy | hy | hy
  ·exact .inr (List.mem_filter.1 hy).1
  ·exact .inl hy
  ·exact .inr (List.mem_filter.1 hy).1
 refine ⟨fun y hy => ?_, wit_srt h.s k x, fun y hy => ?_⟩
 ·rcases key y hy with rfl | hy
  ·exact hx
  ·exact h.g y hy
 ·rcases key y hy with rfl | hy
  ·exact hk
  ·exact h.u y hy
theorem gm_opt {t : V} (h : allG t) : GM (if kindOf t = 5 then memsOf t else []) := by
 split
 ·exact gm_mems h
 ·exact gm_nil
theorem opt_mems {t : V} (h : allG t) : (if kindOf t = 5 then memsOf t else []) = memsOf t := by
 split
 ·rfl
 ·rename_i hk
  obtain ⟨k, b, i, s, l, m⟩ := t
  rw [allG] at h
  have h1 := h.1
  simp only [goodB, Bool.and_eq_true, plainB, decide_eq_true_iff] at h1
  have h2 := h1.1.1.2.2.2.2.2.2
  rcases h2 with h2 | h2
  ·exact absurd h2 hk
  ·have e : m = [] := List.length_eq_zero_iff.1 (by omega)
   rw [e]; rfl
mutual
theorem pch_good : ∀ (t p : V), allG t → allG p → allG (pchV t p)
 | t, .mk k b i s l m, ht, hp => by
  rw [pchV]
  split
  ·exact gm_map (pchM_good _ m (gm_opt ht) (gm_mems hp))
  ·exact hp
theorem pchM_good : ∀ (o q : List Mem), GM o → GM q → GM (pchM o q)
 | o, [], ho, hq => by rw [pchM]; exact ho
 | o, (k, x) :: q, ho, hq => by
  rw [pchM]
  have hq' : GM q := ⟨fun y hy => hq.g y (List.mem_cons_of_mem _ hy), (List.pairwise_cons.1 hq.s).2, fun y hy => hq.u y (List.mem_cons_of_mem _ hy)⟩
  refine pchM_good _ q ?_ hq'
  split
  ·exact gm_wot ho k
  ·exact gm_wit ho (hq.u (k, x) (List.mem_cons_self ..)) (pch_good (getR o k) x (gm_get ho.g k) (hq.g (k, x) (List.mem_cons_self ..)))
end
theorem pch_map {t : V} {b : Bool} {i : Int} {s : ByteArray} {l : List V} {m : List Mem} (ht : allG t) (hp : allG (.mk 5 b i s l m)) : pchV t (.mk 5 b i s l m) = .mk 5 false 0 ⟨#[]⟩ [] (mrgM pchV (memsOf t) m) := by
 have hs : Srt m := (gm_mems hp).s
 rw [pchV, if_pos rfl, opt_mems ht, pch_mrg hs (gm_mems ht).s]
end Go.Proofs.YtjfldbmopjojdaaDoor
namespace Go.Proofs.YtjfldbmopjojdaaDoor
open Go.RowKit Go.Lib
theorem ent_zero {D n y d lv : Nat} {g : Bool} {z : Nat} (h : (entF D n y d lv g z).1 = 0) : entF D n y d lv g z = (0, n + 1, y + z, max d lv) ∧ n < 65536 ∧ lv ≤ D ∧ g = true ∧ y + z ≤ 1048576 := by
 unfold entF at *
 split at h
 ·simp at h
 split at h
 ·simp at h
 split at h
 ·simp at h
 split at h
 ·simp at h
 rename_i h1 h2 h3 h4
 rw [if_neg h1, if_neg h2, if_neg h3, if_neg h4]
 exact ⟨rfl, by omega, by omega, by simpa using h3, by omega⟩
mutual
def ndV : V → Nat
 | .mk _ _ _ _ l m => 1 + ndL l + ndM m
def ndL : List V → Nat
 | [] => 0
 | x :: t => ndV x + ndL t
def ndM : List Mem → Nat
 | [] => 0
 | (_, x) :: t => ndV x + ndM t
end
mutual
def byV : V → Nat
 | .mk _ _ _ s l m => s.size + keyB m + byL l + byM m
def byL : List V → Nat
 | [] => 0
 | x :: t => byV x + byL t
def byM : List Mem → Nat
 | [] => 0
 | (_, x) :: t => byV x + byM t
end
mutual
def dpV : V → Nat
 | .mk _ _ _ _ l m => max (dpL l) (dpM m)
def dpL : List V → Nat
 | [] => 0
 | x :: t => max (dpV x + 1) (dpL t)
def dpM : List Mem → Nat
 | [] => 0
 | (_, x) :: t => max (dpV x + 1) (dpM t)
end
mutual
theorem cntV (D : Nat) : ∀ (v : V) (lv : Nat) (st : St), (chkV D v lv st).1 = 0 → (chkV D v lv st).2.1 = st.1 + ndV v ∧ (chkV D v lv st).2.2.1 = st.2.1 + byV v ∧ lv + dpV v ≤ D
 | .mk k b i s l m, lv, st, h => by
  rw [ndV, byV, dpV]
  rw [chkV] at h ⊢
  simp only at h ⊢
  by_cases hr : (entF D st.1 st.2.1 st.2.2 lv (goodB k b i s l.length m) (s.size + keyB m)).1 = 0
  ·rw [if_pos hr] at h
   obtain ⟨e1, _, k2, _, _⟩ := ent_zero hr
   rw [e1] at h ⊢
   simp only [if_true] at h ⊢
   by_cases hq : (chkL D l (lv + 1) (st.1 + 1, st.2.1 + (s.size + keyB m), max st.2.2 lv)).1 = 0
   ·rw [if_pos hq] at h ⊢
    have q := cntL D l lv _ k2 hq
    have r := cntM D m lv _ k2 h
    simp only at q
    refine ⟨?_, ?_, ?_⟩
    ·rw [r.1, q.1]; omega
    ·rw [r.2.1, q.2.1]; omega
    ·have := q.2.2; have := r.2.2; omega
   ·rw [if_neg hq] at h
    exact absurd h hq
  ·rw [if_neg hr] at h
   exact absurd h hr
theorem cntL (D : Nat) : ∀ (l : List V) (lv : Nat) (st : St), lv ≤ D → (chkL D l (lv + 1) st).1 = 0 → (chkL D l (lv + 1) st).2.1 = st.1 + ndL l ∧ (chkL D l (lv + 1) st).2.2.1 = st.2.1 + byL l ∧ lv + dpL l ≤ D
 | [], lv, st, h0, h => by rw [chkL, ndL, byL, dpL]; exact ⟨rfl, rfl, h0⟩
 | x :: t, lv, st, h0, h => by
  rw [ndL, byL, dpL]
  rw [chkL] at h ⊢
  by_cases hx : (chkV D x (lv + 1) st).1 = 0
  ·rw [if_pos hx] at h ⊢
   have q := cntV D x (lv + 1) st hx
   have r := cntL D t lv _ h0 h
   refine ⟨?_, ?_, ?_⟩
   ·rw [r.1, q.1]; omega
   ·rw [r.2.1, q.2.1]; omega
   ·have := q.2.2; have := r.2.2; omega
  ·rw [if_neg hx] at h
   exact absurd h hx
theorem cntM (D : Nat) : ∀ (l : List Mem) (lv : Nat) (st : St), lv ≤ D → (chkM D l (lv + 1) st).1 = 0 → (chkM D l (lv + 1) st).2.1 = st.1 + ndM l ∧ (chkM D l (lv + 1) st).2.2.1 = st.2.1 + byM l ∧ lv + dpM l ≤ D
 | [], lv, st, h0, h => by rw [chkM, ndM, byM, dpM]; exact ⟨rfl, rfl, h0⟩
 | (_, x) :: t, lv, st, h0, h => by
  rw [ndM, byM, dpM]
  rw [chkM] at h ⊢
  by_cases hx : (chkV D x (lv + 1) st).1 = 0
  ·rw [if_pos hx] at h ⊢
   have q := cntV D x (lv + 1) st hx
   have r := cntM D t lv _ h0 h
   refine ⟨?_, ?_, ?_⟩
   ·rw [r.1, q.1]; omega
   ·rw [r.2.1, q.2.1]; omega
   ·have := q.2.2; have := r.2.2; omega
  ·rw [if_neg hx] at h
   exact absurd h hx
end
mutual
theorem makV (D : Nat) : ∀ (v : V) (lv : Nat) (st : St), allG v → lv + dpV v ≤ D → st.1 + ndV v ≤ 65536 → st.2.1 + byV v ≤ 1048576 → (chkV D v lv st).1 = 0
 | .mk k b i s l m, lv, st, hg, hd, hn, hb => by
  rw [allG] at hg
  rw [dpV] at hd
  rw [ndV] at hn
  rw [byV] at hb
  rw [chkV]
  simp only
  have hr : (entF D st.1 st.2.1 st.2.2 lv (goodB k b i s l.length m) (s.size + keyB m)) = (0, st.1 + 1, st.2.1 + (s.size + keyB m), max st.2.2 lv) := by
   unfold entF
   rw [if_neg (by omega), if_neg (by omega), if_neg (by simp [hg.1]), if_neg (by omega)]
  rw [hr]
  simp only [if_true]
  have hq := makL D l lv (st.1 + 1, st.2.1 + (s.size + keyB m), max st.2.2 lv) hg.2.1 (by omega) (by simp only; omega) (by simp only; omega)
  have q := cntL D l lv _ (by omega) hq
  simp only at q
  rw [if_pos hq]
  exact makM D m lv _ hg.2.2 (by omega) (by rw [q.1]; omega) (by rw [q.2.1]; omega)
theorem makL (D : Nat) : ∀ (l : List V) (lv : Nat) (st : St), allGL l → lv + dpL l ≤ D → st.1 + ndL l ≤ 65536 → st.2.1 + byL l ≤ 1048576 → (chkL D l (lv + 1) st).1 = 0
 | [], lv, st, hg, hd, hn, hb => by rw [chkL]
 | x :: t, lv, st, hg, hd, hn, hb => by
  rw [allGL] at hg
  rw [dpL] at hd
  rw [ndL] at hn
  rw [byL] at hb
  have hx := makV D x (lv + 1) st hg.1 (by omega) (by omega) (by omega)
  have q := cntV D x (lv + 1) st hx
  rw [chkL, if_pos hx]
  exact makL D t lv _ hg.2 (by omega) (by rw [q.1]; omega) (by rw [q.2.1]; omega)
theorem makM (D : Nat) : ∀ (l : List Mem) (lv : Nat) (st : St), allGM l → lv + dpM l ≤ D → st.1 + ndM l ≤ 65536 → st.2.1 + byM l ≤ 1048576 → (chkM D l (lv + 1) st).1 = 0
 | [], lv, st, hg, hd, hn, hb => by rw [chkM]
 | (_, x) :: t, lv, st, hg, hd, hn, hb => by
  rw [allGM] at hg
  rw [dpM] at hd
  rw [ndM] at hn
  rw [byM] at hb
  have hx := makV D x (lv + 1) st hg.1 (by omega) (by omega) (by omega)
  have q := cntV D x (lv + 1) st hx
  rw [chkM, if_pos hx]
  exact makM D t lv _ hg.2 (by omega) (by rw [q.1]; omega) (by rw [q.2.1]; omega)
end
theorem chk_iff (v : V) (D : Nat) (hD : D ≤ 40) : chkE v (D : Int) = 0 ↔ allG v ∧ dpV v ≤ D ∧ ndV v ≤ 65536 ∧ byV v ≤ 1048576 := by
 have e : chkE v (D : Int) = (chkV D v 0 (0, 0, 0)).1 := by rw [chkE, if_neg (by omega)]; rfl
 rw [e]
 constructor
 ·intro h
  have c := cntV D v 0 (0, 0, 0) h
  have b := (chkV_bnd D v 0 (0, 0, 0) ⟨by simp, by simp, by simp⟩ h)
  have b1 := b.n
  have b2 := b.y
  simp only at c
  refine ⟨chkV_allG D v 0 _ h, by omega, by omega, by omega⟩
 ·rintro ⟨h1, h2, h3, h4⟩
  exact makV D v 0 (0, 0, 0) h1 (by omega) (by simp only; omega) (by simp only; omega)
end Go.Proofs.YtjfldbmopjojdaaDoor
namespace Go.Proofs.YtjfldbmopjojdaaDoor
open Go.RowKit Go.Lib
mutual
theorem wt_nb : ∀ v : V, v.wt = ndV v + byV v
 | .mk k b i s l m => by rw [V.wt, ndV, byV, wt_nbL l, wt_nbM m]; omega
theorem wt_nbL : ∀ l : List V, wtL l = ndL l + byL l
 | [] => by rw [wtL, ndL, byL]
 | x :: t => by rw [wtL, ndL, byL, wt_nb x, wt_nbL t]; omega
theorem wt_nbM : ∀ m : List Mem, wtM m = ndM m + byM m + keyB m
 | [] => by rw [wtM, ndM, byM, keyB]
 | (k, x) :: t => by
  rw [wtM, ndM, byM, keyB, wt_nb x, wt_nbM t]
  show k.size + _ + _ = _ + _ + (k.size + _)
  omega
end
structure Ok (v : V) : Prop where
 g : allG v
 d : dpV v ≤ 40
 n : ndV v ≤ 65536
 b : byV v ≤ 1048576
theorem ok_chk {v : V} {D : Nat} (hD : D ≤ 40) (h : chkE v (D : Int) = 0) : Ok v := by
 have := (chk_iff v D hD).1 h
 exact ⟨this.1, by omega, this.2.2.1, this.2.2.2⟩
theorem Ok.ok {v : V} (h : Ok v) : okV v = true := by
 have := (chk_iff v 40 (Nat.le_refl _)).2 ⟨h.g, h.d, h.n, h.b⟩
 rw [okV, ← chkE40]
 exact decide_eq_true this
theorem Ok.cln {v : V} (h : Ok v) : clnV v = v := by rw [clnV, if_pos h.ok]
theorem Ok.wt {v : V} (h : Ok v) : v.wt ≤ 1114112 := by have := h.n; have := h.b; rw [wt_nb]; omega
theorem memNd : ∀ {m : List Mem} {y : Mem}, y ∈ m → ndV y.2 ≤ ndM m ∧ byV y.2 ≤ byM m ∧ dpV y.2 + 1 ≤ dpM m
 | (k, x) :: t, y, h => by
  rw [ndM, byM, dpM]
  rcases List.mem_cons.1 h with rfl | h
  ·simp only; omega
  ·have := memNd h; omega
theorem Ok.mem {k : Int} {b : Bool} {i : Int} {s : ByteArray} {l : List V} {m : List Mem} (h : Ok (.mk k b i s l m)) {y : Mem} (hy : y ∈ m) : Ok y.2 := by
 have h1 := h.g
 have h2 := h.d
 have h3 := h.n
 have h4 := h.b
 rw [allG] at h1
 rw [dpV] at h2
 rw [ndV] at h3
 rw [byV] at h4
 have := memNd hy
 exact ⟨allGM_i.1 h1.2.2 y hy, by omega, by omega, by omega⟩
theorem null_ok : Ok nullV := ⟨null_good, by rw [nullV, dpV, dpL, dpM]; omega, by rw [nullV, ndV, ndL, ndM]; omega, by rw [nullV, byV, byL, byM, keyB]; show (⟨#[]⟩ : ByteArray).size + _ + _ + _ ≤ _; have : (⟨#[]⟩ : ByteArray).size = 0 := rfl; omega⟩
theorem Ok.get {k : Int} {b : Bool} {i : Int} {s : ByteArray} {l : List V} {m : List Mem} (h : Ok (.mk k b i s l m)) (key : ByteArray) : Ok (getR m key) := by
 have key' : ∀ t : List Mem, (∀ y ∈ t, Ok y.2) → Ok (getR t key) := fun t => by
  induction t with
  | nil => intro _; exact null_ok
  | cons y t ih =>
   intro ht
   rw [getR]
   split
   ·exact ht y (List.mem_cons_self ..)
   ·exact ih fun z hz => ht z (List.mem_cons_of_mem _ hz)
 exact key' m fun y hy => h.mem hy
end Go.Proofs.YtjfldbmopjojdaaDoor
namespace Go.Proofs.YtjfldbmopjojdaaDoor
open Go.RowKit
theorem own_listL {w : World} {N : Nat} {S : Nat → Prop} {v : Value} {l : List V} (h : OwnL false w N S v (l.map some)) : ∃ a c b o, v = .slice a l.length c ∧ Headed a l.length c b o ∧ liesL false w (From N w) l b o := by
 have h' := h
 obtain ⟨⟨xs, h1, h2⟩, h3⟩ := h'
 rcases h1.2 with ⟨rfl, e⟩ | ⟨g, cap, cur, rfl, _⟩
 ·have e0 : l.length = 0 := by simpa using e
  have : l = [] := List.length_eq_zero_iff.1 e0
  subst this
  exact ⟨none, 0, 0, 0, rfl, headed_nil, by rw [liesL]; trivial⟩
 ·have hle := h.le
  have hlt := h.lt (g := g) rfl
  simp only [List.length_map] at hle ⊢
  refine ⟨_, cap, g, 0, rfl, ⟨hle.1, hle.2, .inr rfl, fun h => by cases h⟩, liesL_mk fun j hj => ⟨hlt, ?_⟩⟩
  obtain ⟨cs, k1, k2⟩ := h.at (by simp) j (by simpa using hj)
  rw [List.getElem_map] at k2
  exact ⟨cs, k1, V.lies_keep (fun h => h) (fun _ _ => rfl) (fun b hb => ⟨(h.off b hb).1, (h.off b hb).2.1⟩) _ k2⟩
end Go.Proofs.YtjfldbmopjojdaaDoor
namespace Go.Proofs.YtjfldbmopjojdaaDoor
open Go.RowKit Go.Lib
theorem kind_lies {R : Bool} {w : World} {S : Nat → Prop} {x : V} {ek : Int} {cs : List Value} (h : x.lies R w S (.int .i64 ek :: cs)) : kindOf x = ek := by
 obtain ⟨k, b, i, s, l, m⟩ := x
 rw [V.lies] at h
 obtain ⟨_, _, _, _, _, _, _, _, e, _⟩ := h
 injection e with e1 _
 injection e1 with _ e2
 exact e2.symm
theorem wn_fin {w w3 : World} {x : V} {M : Nat} {c0 c1 c2 c3 c4 c5 : Value} (hM : w.heap.size ≤ M) (B3 : Below w.heap.size w w3) (hx : x.lies false w3 (fun y => w.heap.size ≤ y ∧ y ≠ M ∧ y < w3.heap.size) [c0, c1, c2, c3, c4, c5]) :
 x.lies false ((((((w3.setCell ⟨M, 0, none⟩ (c0)).setCell ⟨M, 1, none⟩ (c1)).setCell ⟨M, 2, none⟩ (c2)).setCell ⟨M, 3, none⟩ (c3)).setCell ⟨M, 4, none⟩ (c4)).setCell ⟨M, 5, none⟩ (c5)) (New w ((((((w3.setCell ⟨M, 0, none⟩ (c0)).setCell ⟨M, 1, none⟩ (c1)).setCell ⟨M, 2, none⟩ (c2)).setCell ⟨M, 3, none⟩ (c3)).setCell ⟨M, 4, none⟩ (c4)).setCell ⟨M, 5, none⟩ (c5))) [c0, c1, c2, c3, c4, c5] ∧ Below w.heap.size w ((((((w3.setCell ⟨M, 0, none⟩ (c0)).setCell ⟨M, 1, none⟩ (c1)).setCell ⟨M, 2, none⟩ (c2)).setCell ⟨M, 3, none⟩ (c3)).setCell ⟨M, 4, none⟩ (c4)).setCell ⟨M, 5, none⟩ (c5)) := by
 have h := wo_fin (S := fun _ => False) hM (fun _ h => h.elim) B3 (V.lies_keep (fun h => h) (fun _ _ => rfl) (fun y hy => .inr hy) _ hx)
 exact ⟨V.lies_keep (fun h => h) (fun _ _ => rfl) (fun y hy => hy.elim (fun h => h.elim) (fun h => h)) _ h.1, h.2⟩
theorem box_six {w : World} {g : Nat} {ty : TypeId} {c0 c1 c2 c3 c4 c5 : Value} (h : w.heap[g]? = some (.cells #[c0, c1, c2, c3, c4, c5] ty)) (d0 d1 d2 d3 d4 d5 : Value) : ((((((w.setCell ⟨g, 0, none⟩ (d0)).setCell ⟨g, 1, none⟩ (d1)).setCell ⟨g, 2, none⟩ (d2)).setCell ⟨g, 3, none⟩ (d3)).setCell ⟨g, 4, none⟩ (d4)).setCell ⟨g, 5, none⟩ (d5)).heap[g]? = some (.cells #[d0, d1, d2, d3, d4, d5] ty) := by
 have h0 : (w.setCell ⟨g, 0, none⟩ d0).heap[g]? = some (.cells #[d0, c1, c2, c3, c4, c5] ty) := by rw [set_block h]; rfl
 have h1 : ((w.setCell ⟨g, 0, none⟩ d0).setCell ⟨g, 1, none⟩ d1).heap[g]? = some (.cells #[d0, d1, c2, c3, c4, c5] ty) := by rw [set_block h0]; rfl
 have h2 : (((w.setCell ⟨g, 0, none⟩ d0).setCell ⟨g, 1, none⟩ d1).setCell ⟨g, 2, none⟩ d2).heap[g]? = some (.cells #[d0, d1, d2, c3, c4, c5] ty) := by rw [set_block h1]; rfl
 have h3 : ((((w.setCell ⟨g, 0, none⟩ d0).setCell ⟨g, 1, none⟩ d1).setCell ⟨g, 2, none⟩ d2).setCell ⟨g, 3, none⟩ d3).heap[g]? = some (.cells #[d0, d1, d2, d3, c4, c5] ty) := by rw [set_block h2]; rfl
 have h4 : (((((w.setCell ⟨g, 0, none⟩ d0).setCell ⟨g, 1, none⟩ d1).setCell ⟨g, 2, none⟩ d2).setCell ⟨g, 3, none⟩ d3).setCell ⟨g, 4, none⟩ d4).heap[g]? = some (.cells #[d0, d1, d2, d3, d4, c5] ty) := by rw [set_block h3]; rfl
 rw [set_block h4]; rfl
theorem six_o (w : World) (g : Nat) (d0 d1 d2 d3 d4 d5 : Value) (y : Nat) (hy : y ≠ g) : ((((((w.setCell ⟨g, 0, none⟩ (d0)).setCell ⟨g, 1, none⟩ (d1)).setCell ⟨g, 2, none⟩ (d2)).setCell ⟨g, 3, none⟩ (d3)).setCell ⟨g, 4, none⟩ (d4)).setCell ⟨g, 5, none⟩ (d5)).heap[y]? = w.heap[y]? := by
 repeat (rw [set_other hy])
end Go.Proofs.YtjfldbmopjojdaaDoor
