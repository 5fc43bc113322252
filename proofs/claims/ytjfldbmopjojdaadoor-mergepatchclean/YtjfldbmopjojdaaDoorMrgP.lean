import Derived.Test.YtjfldbmopjojdaaDoorG16
set_option linter.unusedSimpArgs false
set_option linter.unusedVariables false
namespace Go.Proofs.YtjfldbmopjojdaaDoor
open Go.RowKit Go.Lib
theorem cmp_zero : ∀ a b : List UInt8, compareBytes a b = 0 ↔ a = b
 | [], [] => by simp [compareBytes]
 | [], _ :: _ => by simp [compareBytes]
 | _ :: _, [] => by simp [compareBytes]
 | x :: t, y :: u => by
  have ih := cmp_zero t u
  rw [compareBytes]
  by_cases h1 : x < y
  ·rw [if_pos h1]
   constructor
   ·intro h; simp at h
   ·intro h; cases h; exact absurd h1 (Nat.lt_irrefl _)
  ·rw [if_neg h1]
   by_cases h2 : y < x
   ·rw [if_pos h2]
    constructor
    ·intro h; simp at h
    ·intro h; cases h; exact absurd h2 (Nat.lt_irrefl _)
   ·rw [if_neg h2, ih]
    have he : x = y := by
     rcases Nat.lt_trichotomy x.toNat y.toNat with h | h | h
     ·exact absurd h h1
     ·exact UInt8.toNat_inj.1 h
     ·exact absurd h h2
    simp [he]
theorem cmp_tri : ∀ a b : List UInt8, ¬ compareBytes a b = -1 → ¬ a = b → compareBytes b a = -1
 | [], [], _, h => absurd rfl h
 | [], _ :: _, h, _ => absurd (by simp [compareBytes]) h
 | _ :: _, [], _, _ => by simp [compareBytes]
 | x :: t, y :: u, h, hne => by
  rw [compareBytes] at h ⊢
  by_cases h1 : x < y
  ·rw [if_pos h1] at h; exact absurd rfl h
  ·rw [if_neg h1] at h
   by_cases h2 : y < x
   ·rw [if_pos h2]
   ·rw [if_neg h2] at h ⊢
    rw [if_neg h1]
    have e := u8_tri x y h1 h2
    subst e
    exact cmp_tri t u h (fun e => hne (by rw [e]))
theorem ltB_tri (a b : ByteArray) (h1 : ltB a b = false) (h2 : ¬ a.toList = b.toList) : ltB b a = true := by
 rw [ltB_cmp]
 have h3 : ¬ cmpS a b = -1 := fun h => by rw [(ltB_cmp a b).2 h] at h1; cases h1
 rw [toList_data, toList_data] at h2
 exact cmp_tri _ _ h3 h2
theorem rise_of {l : List Mem} (h : Srt l) (hu : ∀ y ∈ l, utfB y.1 = true) : riseB l = true := riseB_true fun j hj => by
 rw [okAt, keyAt_eq hj, hu _ (List.getElem_mem hj)]
 by_cases h0 : j = 0
 ·simp [h0]
 ·rw [keyAt_eq (show j - 1 < l.length by omega)]
  have := (List.pairwise_iff_getElem.1 h) (j - 1) j (by omega) hj (by omega)
  simp [this]
theorem rise_utf {l : List Mem} (h : riseB l = true) : ∀ x ∈ l, utfB x.1 = true := by
 intro x hx
 obtain ⟨j, hj, rfl⟩ := List.getElem_of_mem hx
 have h0 : ∀ j, j < l.length → okAt l j = true := by
  simpa only [riseB, List.all_eq_true, List.mem_range] using h
 have := h0 j hj
 rw [okAt, keyAt_eq hj] at this
 exact (Bool.and_eq_true _ _ ▸ this).1
def kindOf : V → Int
 | .mk k _ _ _ _ _ => k
def memsOf : V → List Mem
 | .mk _ _ _ _ _ m => m
def wotR (m : List Mem) (k : ByteArray) : List Mem := m.filter (fun y => !(y.1.toList == k.toList))
def witR (m : List Mem) (k : ByteArray) (x : V) : List Mem := m.filter (fun y => ltB y.1 k) ++ (k, x) :: m.filter (fun y => ltB k y.1)
def getR : List Mem → ByteArray → V
 | [], _ => nullV
 | y :: t, k => if y.1.toList = k.toList then y.2 else getR t k
mutual
def pchV : V → V → V
 | t, .mk k b i s l m => if k = 5 then .mk 5 false 0 ⟨#[]⟩ [] (pchM (if kindOf t = 5 then memsOf t else []) m) else .mk k b i s l m
def pchM : List Mem → List Mem → List Mem
 | o, [] => o
 | o, (k, x) :: q => pchM (if kindOf x = 0 then wotR o k else witR o k (pchV (getR o k) x)) q
end
def stpR (f : V → V → V) (m : List Mem) (k : ByteArray) (x : V) : List Mem := if kindOf x = 0 then wotR m k else witR m k (f (getR m k) x)
theorem pchM_cons (o : List Mem) (k : ByteArray) (x : V) (q : List Mem) : pchM o ((k, x) :: q) = pchM (stpR pchV o k x) q := by rw [pchM]; rfl
def mrgM (f : V → V → V) : List Mem → List Mem → List Mem
 | a, [] => a
 | [], (k, x) :: b => if kindOf x = 0 then mrgM f [] b else (k, f nullV x) :: mrgM f [] b
 | (ka, xa) :: a, (kb, xb) :: b =>
  if ltB ka kb = true then (ka, xa) :: mrgM f a ((kb, xb) :: b)
  else if ltB kb ka = true then (if kindOf xb = 0 then mrgM f ((ka, xa) :: a) b else (kb, f nullV xb) :: mrgM f ((ka, xa) :: a) b)
  else if kindOf xb = 0 then mrgM f a b else (kb, f xa xb) :: mrgM f a b
termination_by a b => a.length + b.length
theorem lt_asym {a b : ByteArray} (h : ltB a b = true) : ltB b a = false := by
 rw [Bool.eq_false_iff]
 intro h'
 have := (ltB_cmp _ _).1 (ltB_trans h h')
 rw [cmpS, (cmp_zero _ _).2 rfl] at this
 cases this
theorem lt_ne {a b : ByteArray} (h : ltB a b = true) : ¬ a.toList = b.toList := fun e => by
 have h2 : ltB a a = true := by rw [ltB] at h ⊢; rw [← e] at h; exact h
 have := lt_asym h2
 rw [h2] at this; cases this
theorem lt_same {a b c : ByteArray} (e : a.toList = b.toList) : ltB a c = ltB b c := by rw [ltB, ltB, e]
theorem mrg_head {f : V → V → V} {ka : ByteArray} {xa : V} {a q : List Mem} (h : ∀ y ∈ q, ltB ka y.1 = true) : mrgM f ((ka, xa) :: a) q = (ka, xa) :: mrgM f a q := by
 cases q with
 | nil => rw [mrgM, mrgM]
 | cons y q =>
  obtain ⟨kb, xb⟩ := y
  have h1 := h (kb, xb) (List.mem_cons_self ..)
  rw [mrgM, if_pos h1]
theorem filt_all {p : Mem → Bool} {l : List Mem} (h : ∀ y ∈ l, p y = true) : l.filter p = l := List.filter_eq_self.2 h
theorem filt_no {p : Mem → Bool} {l : List Mem} (h : ∀ y ∈ l, p y = false) : l.filter p = [] := List.filter_eq_nil_iff.2 fun y hy => by rw [h y hy]; simp
theorem getR_far {l : List Mem} {k : ByteArray} (h : ∀ y ∈ l, ltB k y.1 = true) : getR l k = nullV := by
 induction l with
 | nil => rfl
 | cons y t ih =>
  rw [getR, if_neg (fun e => lt_ne (h y (List.mem_cons_self ..)) e.symm)]
  exact ih fun z hz => h z (List.mem_cons_of_mem _ hz)
theorem far_w {l : List Mem} {k : ByteArray} (h : ∀ y ∈ l, ltB k y.1 = true) : wotR l k = l ∧ ∀ x, witR l k x = (k, x) :: l := by
 refine ⟨filt_all fun y hy => ?_, fun x => ?_⟩
 ·have := lt_ne (h y hy)
  simp only [Bool.not_eq_true', beq_eq_false_iff_ne, ne_eq]
  exact fun e => this e.symm
 ·rw [witR, filt_no fun y hy => lt_asym (h y hy), filt_all fun y hy => h y hy]
  rfl
theorem mrg_stp {f : V → V → V} {k : ByteArray} {x : V} {q : List Mem} (hq : ∀ y ∈ q, ltB k y.1 = true) : ∀ {a : List Mem}, Srt a → mrgM f a ((k, x) :: q) = mrgM f (stpR f a k x) q := by
 intro a
 induction a with
 | nil =>
  intro _
  rw [mrgM, stpR]
  by_cases h0 : kindOf x = 0
  ·rw [if_pos h0, if_pos h0]; rfl
  ·rw [if_neg h0, if_neg h0]
   show _ = mrgM f [(k, f nullV x)] q
   rw [mrg_head hq]
 | cons y a ih =>
  intro hs
  obtain ⟨ka, xa⟩ := y
  have hs1 := (List.pairwise_cons.1 hs).1
  have hs2 := (List.pairwise_cons.1 hs).2
  have ih := ih hs2
  rw [mrgM]
  by_cases h1 : ltB ka k = true
  ·rw [if_pos h1, ih]
   have hne := lt_ne h1
   have e : stpR f ((ka, xa) :: a) k x = (ka, xa) :: stpR f a k x := by
    rw [stpR, stpR]
    have e1 : wotR ((ka, xa) :: a) k = (ka, xa) :: wotR a k := by rw [wotR, List.filter_cons_of_pos (by simpa using hne)]; rfl
    have e2 : ∀ z, witR ((ka, xa) :: a) k z = (ka, xa) :: witR a k z := fun z => by
     rw [witR, List.filter_cons_of_pos (by exact h1), List.filter_cons_of_neg (by rw [lt_asym h1]; simp)]; rfl
    rw [e1, e2, getR, if_neg hne]
    split <;> rfl
   rw [e, mrg_head fun y hy => ltB_trans h1 (hq y hy)]
  ·rw [if_neg h1]
   by_cases h2 : ltB k ka = true
   ·rw [if_pos h2]
    have hf : ∀ y ∈ (ka, xa) :: a, ltB k y.1 = true := fun y hy => by
     rcases List.mem_cons.1 hy with rfl | hy
     ·exact h2
     ·exact ltB_trans h2 (hs1 y hy)
    rw [stpR, (far_w hf).1, (far_w hf).2, getR_far hf]
    by_cases h0 : kindOf x = 0
    ·rw [if_pos h0, if_pos h0]
    ·rw [if_neg h0, if_neg h0, mrg_head hq]
   ·rw [if_neg h2]
    have he : ka.toList = k.toList := Classical.byContradiction fun hne => h2 (ltB_tri ka k (by simpa using h1) hne)
    have hf : ∀ y ∈ a, ltB k y.1 = true := fun y hy => by rw [← lt_same he]; exact hs1 y hy
    have e1 : wotR ((ka, xa) :: a) k = a := by
     rw [wotR, List.filter_cons_of_neg (by simpa using he)]; exact (far_w hf).1
    have e2 : ∀ z, witR ((ka, xa) :: a) k z = (k, z) :: a := fun z => by
     have := (far_w hf).2 z
     rw [witR] at this ⊢
     rw [List.filter_cons_of_neg (by exact h1), List.filter_cons_of_neg (by exact h2)]; exact this
    rw [stpR, e1, e2, getR, if_pos he]
    by_cases h0 : kindOf x = 0
    ·rw [if_pos h0, if_pos h0]
    ·rw [if_neg h0, if_neg h0, mrg_head hq]
theorem wit_srt {m : List Mem} (h : Srt m) (k : ByteArray) (x : V) : Srt (witR m k x) := by
 rw [witR]
 refine List.pairwise_append.2 ⟨List.Pairwise.filter _ h, List.pairwise_cons.2 ⟨fun y hy => ?_, List.Pairwise.filter _ h⟩, fun y hy z hz => ?_⟩
 ·exact (List.mem_filter.1 hy).2
 ·have h1 : ltB y.1 k = true := (List.mem_filter.1 hy).2
  rcases List.mem_cons.1 hz with rfl | hz
  ·exact h1
  ·exact ltB_trans h1 (List.mem_filter.1 hz).2
theorem stp_srt {f : V → V → V} {m : List Mem} (h : Srt m) (k : ByteArray) (x : V) : Srt (stpR f m k x) := by
 rw [stpR]
 split
 ·exact List.Pairwise.filter _ h
 ·exact wit_srt h _ _
theorem pch_mrg : ∀ {q : List Mem}, Srt q → ∀ {o : List Mem}, Srt o → pchM o q = mrgM pchV o q
 | [], _, o, _ => by rw [pchM, mrgM]
 | (k, x) :: q, hq, o, ho => by
  rw [pchM_cons, pch_mrg (List.pairwise_cons.1 hq).2 (stp_srt ho k x), mrg_stp (fun y hy => (List.pairwise_cons.1 hq).1 y hy) ho]
end Go.Proofs.YtjfldbmopjojdaaDoor
