/- joined: ClnA FndA MrgP -/
import Derived.Test.YtjfldbmopjojdabDoorAnwD
set_option linter.unusedSimpArgs false
set_option linter.unusedVariables false
namespace Go.Proofs.YtjfldbmopjojdabDoor
open Go.RowKit Go.Lib
def nullV : V := .mk 0 false 0 ⟨#[]⟩ [] []
def clnV (v : V) : V := if okV v = true then v else nullV
theorem null_lies (W : World) (S : Nat → Prop) : nullV.lies false W S [.int .i64 0, .bool false, .int .i64 0, .string ⟨#[]⟩, .slice none 0 0, .slice none 0 0] :=
 lies_S (by constructor <;> omega) (by constructor <;> omega) (by decide) headed_nil headed_nil (by rw [liesL]; trivial) (by rw [liesM]; trivial)
theorem lies_set6A {w : World} {B M : Nat} {v : V} {cs : List Value} (h : v.lies false w (From B w) cs) (hM : M < B) (i1 i2 i3 i4 i5 i6 : Nat) (u1 u2 u3 u4 u5 u6 : Value) :
 v.lies false ((((((w.setCell ⟨M, i1, none⟩ u1).setCell ⟨M, i2, none⟩ u2).setCell ⟨M, i3, none⟩ u3).setCell ⟨M, i4, none⟩ u4).setCell ⟨M, i5, none⟩ u5).setCell ⟨M, i6, none⟩ u6) (From B ((((((w.setCell ⟨M, i1, none⟩ u1).setCell ⟨M, i2, none⟩ u2).setCell ⟨M, i3, none⟩ u3).setCell ⟨M, i4, none⟩ u4).setCell ⟨M, i5, none⟩ u5).setCell ⟨M, i6, none⟩ u6)) cs :=
 V.lies_keep (fun h => h) (fun x hx => by have := hx.1; repeat (rw [set_other (show x ≠ M by omega)])) (fun x hx => ⟨hx.1, by simp only [size_set1]; exact hx.2⟩) _ h
set_option maxHeartbeats 8000000 in
set_option maxRecDepth 100000 in
theorem clone_any (v : V) (R : Bool) (S : Nat → Prop) (cs : List Value) (w : World) (tb : Tb w) (hv : v.lies R w S cs) (hS : ∀ b, S b → b < w.heap.size) (hwt : v.wt ≤ 1099511627776) : Calls Tryd.prog 23 #[.agg cs.toArray] w (AnPost (clnV v) w) := by
 obtain ⟨k, b, i, s, al, nl, cl, am, nm, cm, rfl⟩ := V.ten hv
 have hz2 : ((w.alloc (.cells #[.int .i64 k, .bool b, .int .i64 i, .string s, .slice al nl cl, .slice am nm cm] 25)).alloc (.cells #[.int .i64 0, .bool false, .int .i64 0, .string ⟨#[]⟩, .slice none 0 0, .slice none 0 0] 25)).heap.size = w.heap.size + 2 := by rw [alloc_size, alloc_size]
 have B0 : Below w.heap.size w ((w.alloc (.cells #[.int .i64 k, .bool b, .int .i64 i, .string s, .slice al nl cl, .slice am nm cm] 25)).alloc (.cells #[.int .i64 0, .bool false, .int .i64 0, .string ⟨#[]⟩, .slice none 0 0, .slice none 0 0] 25)) := two_below w _ _
 have h0 := alloc2_keep1 w (.cells #[.int .i64 k, .bool b, .int .i64 i, .string s, .slice al nl cl, .slice am nm cm] 25) (.cells #[.int .i64 0, .bool false, .int .i64 0, .string ⟨#[]⟩, .slice none 0 0, .slice none 0 0] 25)
 have h1 := alloc2_new w (.cells #[.int .i64 k, .bool b, .int .i64 i, .string s, .slice al nl cl, .slice am nm cm] 25) (.cells #[.int .i64 0, .bool false, .int .i64 0, .string ⟨#[]⟩, .slice none 0 0, .slice none 0 0] 25)
 have HV : Hid (∀ W, Below w.heap.size w W → v.lies R W S [.int .i64 k, .bool b, .int .i64 i, .string s, .slice al nl cl, .slice am nm cm] ∧ (∀ b, S b → b < W.heap.size)) := fun W hb => ⟨V.lies_keep (fun h => h) (fun x hx => hb.block x (hS x hx)) (fun _ h => h) _ hv, fun x hx => Nat.lt_of_lt_of_le (hS x hx) hb.size⟩
 have HB : Hid (∀ W, Below w.heap.size w W → Tb W) := fun W hb => tb.below hb tb.z
 have d0 : ((w.alloc (.cells #[.int .i64 k, .bool b, .int .i64 i, .string s, .slice al nl cl, .slice am nm cm] 25)).alloc (.cells #[.int .i64 0, .bool false, .int .i64 0, .string ⟨#[]⟩, .slice none 0 0, .slice none 0 0] 25)).cell? ⟨w.heap.size, 0, none⟩ = some (.int .i64 k) := by rw [cell_of_block h0]; rfl
 have d1 : ((w.alloc (.cells #[.int .i64 k, .bool b, .int .i64 i, .string s, .slice al nl cl, .slice am nm cm] 25)).alloc (.cells #[.int .i64 0, .bool false, .int .i64 0, .string ⟨#[]⟩, .slice none 0 0, .slice none 0 0] 25)).cell? ⟨w.heap.size, 1, none⟩ = some (.bool b) := by rw [cell_of_block h0]; rfl
 have d2 : ((w.alloc (.cells #[.int .i64 k, .bool b, .int .i64 i, .string s, .slice al nl cl, .slice am nm cm] 25)).alloc (.cells #[.int .i64 0, .bool false, .int .i64 0, .string ⟨#[]⟩, .slice none 0 0, .slice none 0 0] 25)).cell? ⟨w.heap.size, 2, none⟩ = some (.int .i64 i) := by rw [cell_of_block h0]; rfl
 have d3 : ((w.alloc (.cells #[.int .i64 k, .bool b, .int .i64 i, .string s, .slice al nl cl, .slice am nm cm] 25)).alloc (.cells #[.int .i64 0, .bool false, .int .i64 0, .string ⟨#[]⟩, .slice none 0 0, .slice none 0 0] 25)).cell? ⟨w.heap.size, 3, none⟩ = some (.string s) := by rw [cell_of_block h0]; rfl
 have d4 : ((w.alloc (.cells #[.int .i64 k, .bool b, .int .i64 i, .string s, .slice al nl cl, .slice am nm cm] 25)).alloc (.cells #[.int .i64 0, .bool false, .int .i64 0, .string ⟨#[]⟩, .slice none 0 0, .slice none 0 0] 25)).cell? ⟨w.heap.size, 4, none⟩ = some (.slice al nl cl) := by rw [cell_of_block h0]; rfl
 have d5 : ((w.alloc (.cells #[.int .i64 k, .bool b, .int .i64 i, .string s, .slice al nl cl, .slice am nm cm] 25)).alloc (.cells #[.int .i64 0, .bool false, .int .i64 0, .string ⟨#[]⟩, .slice none 0 0, .slice none 0 0] 25)).cell? ⟨w.heap.size, 5, none⟩ = some (.slice am nm cm) := by rw [cell_of_block h0]; rfl
 clear hv
 go_enter Tryd.func23, Tryd.ntmps23
 go_wp2_with fail
 clear d0 d1 d2 d3 d4 d5
 generalize ((w.alloc (.cells #[.int .i64 k, .bool b, .int .i64 i, .string s, .slice al nl cl, .slice am nm cm] 25)).alloc (.cells #[.int .i64 0, .bool false, .int .i64 0, .string ⟨#[]⟩, .slice none 0 0, .slice none 0 0] 25)) = w0 at *
 refine (taken_any R v S _ w0 (HB.out w0 B0) (HV.out w0 B0).1 (HV.out w0 B0).2 hwt).mono ?_
 rintro e w1 ⟨rfl, b1⟩
 have hz1 := b1.size
 have B1 := B0.trans (b1.mono (by omega))
 have t0 := (b1.block w.heap.size (by omega)).trans h0
 have t1 := (b1.block (w.heap.size + 1) (by omega)).trans h1
 have d0 : w1.cell? ⟨w.heap.size, 0, none⟩ = some (.int .i64 k) := by rw [cell_of_block t0]; rfl
 have d1 : w1.cell? ⟨w.heap.size, 1, none⟩ = some (.bool b) := by rw [cell_of_block t0]; rfl
 have d2 : w1.cell? ⟨w.heap.size, 2, none⟩ = some (.int .i64 i) := by rw [cell_of_block t0]; rfl
 have d3 : w1.cell? ⟨w.heap.size, 3, none⟩ = some (.string s) := by rw [cell_of_block t0]; rfl
 have d4 : w1.cell? ⟨w.heap.size, 4, none⟩ = some (.slice al nl cl) := by rw [cell_of_block t0]; rfl
 have d5 : w1.cell? ⟨w.heap.size, 5, none⟩ = some (.slice am nm cm) := by rw [cell_of_block t0]; rfl
 have r0 : w1.cell? ⟨w.heap.size + 1, 0, none⟩ = some (.int .i64 0) := by rw [cell_of_block t1]; rfl
 have r1 : w1.cell? ⟨w.heap.size + 1, 1, none⟩ = some (.bool false) := by rw [cell_of_block t1]; rfl
 have r2 : w1.cell? ⟨w.heap.size + 1, 2, none⟩ = some (.int .i64 0) := by rw [cell_of_block t1]; rfl
 have r3 : w1.cell? ⟨w.heap.size + 1, 3, none⟩ = some (.string ⟨#[]⟩) := by rw [cell_of_block t1]; rfl
 have r4 : w1.cell? ⟨w.heap.size + 1, 4, none⟩ = some (.slice none 0 0) := by rw [cell_of_block t1]; rfl
 have r5 : w1.cell? ⟨w.heap.size + 1, 5, none⟩ = some (.slice none 0 0) := by rw [cell_of_block t1]; rfl
 have rf : ∀ i, w1.frozen? ⟨w.heap.size + 1, i, none⟩ = false := frozen_of_block t1
 cases ho : okV v with
 | false =>
  have HF : Hid (clnV v = nullV) := by show _ = _; rw [clnV, if_neg (by simp [ho])]
  clear t0 t1 h0 h1
  go_wp2_with fail
  (try simp only [Exit.inBlock, Exit.then])
  refine bodyPost_ret (v := .agg #[.int .i64 0, .bool false, .int .i64 0, .string ⟨#[]⟩, .slice none 0 0, .slice none 0 0]) (by rw [results_cell1 rfl]; go_simp) rfl ?_
  rw [HF.out]
  exact ⟨[.int .i64 0, .bool false, .int .i64 0, .string ⟨#[]⟩, .slice none 0 0, .slice none 0 0], rfl, null_lies _ _, Below.set6 B1 (by omega) _ _ _ _ _ _ _ _ _ _ _ _⟩
 | true =>
  have HF : Hid (clnV v = v) := by show _ = _; rw [clnV, if_pos ho]
  go_wp2_with fail
  refine (anew_any v R S _ w1 (HV.out w1 B1).1 (HV.out w1 B1).2 hwt).mono ?_
  rintro e w2 ⟨csu, rfl, hlu, b2⟩
  obtain ⟨uk, ub, ui, us, ual, unl, ucl, uam, unm, ucm, rfl⟩ := V.ten hlu
  have hz3 := b2.size
  have B2 := B1.trans (b2.mono (by omega))
  have t1' := (b2.block (w.heap.size + 1) (by omega)).trans t1
  have HU : Hid (v.lies false w2 (From (w.heap.size + 2) w2) [.int .i64 uk, .bool ub, .int .i64 ui, .string us, .slice ual unl ucl, .slice uam unm ucm]) := V.lies_keep (fun h => h) (fun _ _ => rfl) (fun x hx => ⟨by have := hx.1; omega, hx.2⟩) _ hlu
  clear d0 d1 d2 d3 d4 d5 r0 r1 r2 r3 r4 r5 rf hlu b2 t0 t1 h0 h1
  have r0 : w2.cell? ⟨w.heap.size + 1, 0, none⟩ = some (.int .i64 0) := by rw [cell_of_block t1']; rfl
  have r1 : w2.cell? ⟨w.heap.size + 1, 1, none⟩ = some (.bool false) := by rw [cell_of_block t1']; rfl
  have r2 : w2.cell? ⟨w.heap.size + 1, 2, none⟩ = some (.int .i64 0) := by rw [cell_of_block t1']; rfl
  have r3 : w2.cell? ⟨w.heap.size + 1, 3, none⟩ = some (.string ⟨#[]⟩) := by rw [cell_of_block t1']; rfl
  have r4 : w2.cell? ⟨w.heap.size + 1, 4, none⟩ = some (.slice none 0 0) := by rw [cell_of_block t1']; rfl
  have r5 : w2.cell? ⟨w.heap.size + 1, 5, none⟩ = some (.slice none 0 0) := by rw [cell_of_block t1']; rfl
  have rf : ∀ i, w2.frozen? ⟨w.heap.size + 1, i, none⟩ = false := frozen_of_block t1'
  clear t1'
  go_wp2_with fail
  (try simp only [Exit.inBlock, Exit.then])
  refine bodyPost_ret (v := .agg #[.int .i64 uk, .bool ub, .int .i64 ui, .string us, .slice ual unl ucl, .slice uam unm ucm]) (by rw [results_cell1 rfl]; go_simp) rfl ?_
  rw [HF.out]
  refine ⟨[.int .i64 uk, .bool ub, .int .i64 ui, .string us, .slice ual unl ucl, .slice uam unm ucm], rfl, V.lies_keep (fun h => h) (fun _ _ => rfl) (fun x hx => ⟨by have := hx.1; omega, hx.2⟩) _ (lies_set6A HU.out (show w.heap.size + 1 < w.heap.size + 2 by omega) _ _ _ _ _ _ _ _ _ _ _ _), Below.set6 B2 (by omega) _ _ _ _ _ _ _ _ _ _ _ _⟩
theorem srt_rise {l : List Mem} (h : riseB l = true) : Srt l := by
 have h0 : ∀ j, j < l.length → okAt l j = true := by
  simpa only [riseB, List.all_eq_true, List.mem_range] using h
 have h1 : ∀ (j : Nat) (hj : j + 1 < l.length), ltB (l[j]).1 (l[j + 1]).1 = true := fun j hj => by
  have := h0 (j + 1) hj
  rw [okAt, keyAt_eq hj, Nat.add_sub_cancel, keyAt_eq (by omega)] at this
  simpa using (Bool.and_eq_true _ _ ▸ this).2
 have h2 : ∀ (d i : Nat) (hd : i + (d + 1) < l.length), ltB (l[i]).1 (l[i + (d + 1)]).1 = true := by
  intro d
  induction d with
  | zero => intro i hd; exact h1 i hd
  | succ d ih =>
   intro i hd
   exact ltB_trans (ih i (by omega)) (h1 (i + (d + 1)) hd)
 refine List.pairwise_iff_getElem.2 fun i j hi hj hij => ?_
 have := h2 (j - i - 1) i (by omega)
 have e : i + (j - i - 1 + 1) = j := by omega
 simp only [e] at this
 exact this
theorem cmp_zero : ∀ a b : List UInt8, compareBytes a b = 0 ↔ a = b
 | [], [] => by simp [compareBytes]
 | [], _ :: _ => by simp [compareBytes]
 | _ :: _, [] => by simp [compareBytes]
 | x :: t, y :: u => by
  have ih := cmp_zero t u
  rw [compareBytes]
  by_cases h1 : x < y
  ·rw [if_pos h1]
   constructor
   ·intro h; simp at h
   ·intro h; cases h; exact absurd h1 (Nat.lt_irrefl _)
  ·rw [if_neg h1]
   by_cases h2 : y < x
   ·rw [if_pos h2]
    constructor
    ·intro h; simp at h
    ·intro h; cases h; exact absurd h2 (Nat.lt_irrefl _)
   ·rw [if_neg h2, ih]
    have he : x = y := by
     rcases Nat.lt_trichotomy x.toNat y.toNat with h | h | h
     ·exact absurd h h1
     ·exact UInt8.toNat_inj.1 h
     ·exact absurd h h2
    simp [he]
theorem cmp_tri : ∀ a b : List UInt8, ¬ compareBytes a b = -1 → ¬ a = b → compareBytes b a = -1
 | [], [], _, h => absurd rfl h
 | [], _ :: _, h, _ => absurd (by simp [compareBytes]) h
 | _ :: _, [], _, _ => by simp [compareBytes]
 | x :: t, y :: u, h, hne => by
  rw [compareBytes] at h ⊢
  by_cases h1 : x < y
  ·rw [if_pos h1] at h; exact absurd rfl h
  ·rw [if_neg h1] at h
   by_cases h2 : y < x
   ·rw [if_pos h2]
   ·rw [if_neg h2] at h ⊢
    rw [if_neg h1]
    have e := u8_tri x y h1 h2
    subst e
    exact cmp_tri t u h (fun e => hne (by rw [e]))
theorem ltB_tri (a b : ByteArray) (h1 : ltB a b = false) (h2 : ¬ a.toList = b.toList) : ltB b a = true := by
 rw [ltB_cmp]
 have h3 : ¬ cmpS a b = -1 := fun h => by rw [(ltB_cmp a b).2 h] at h1; cases h1
 rw [toList_data, toList_data] at h2
 exact cmp_tri _ _ h3 h2
theorem rise_of {l : List Mem} (h : Srt l) (hu : ∀ y ∈ l, utfB y.1 = true) : riseB l = true := riseB_true fun j hj => by
 rw [okAt, keyAt_eq hj, hu _ (List.getElem_mem hj)]
 by_cases h0 : j = 0
 ·simp [h0]
 ·rw [keyAt_eq (show j - 1 < l.length by omega)]
  have := (List.pairwise_iff_getElem.1 h) (j - 1) j (by omega) hj (by omega)
  simp [this]
theorem rise_utf {l : List Mem} (h : riseB l = true) : ∀ x ∈ l, utfB x.1 = true := by
 intro x hx
 obtain ⟨j, hj, rfl⟩ := List.getElem_of_mem hx
 have h0 : ∀ j, j < l.length → okAt l j = true := by
  simpa only [riseB, List.all_eq_true, List.mem_range] using h
 have := h0 j hj
 rw [okAt, keyAt_eq hj] at this
 exact (Bool.and_eq_true _ _ ▸ this).1
def kindOf : V → Int
 | .mk k _ _ _ _ _ => k
def memsOf : V → List Mem
 | .mk _ _ _ _ _ m => m
def wotR (m : List Mem) (k : ByteArray) : List Mem := m.filter (fun y => !(y.1.toList == k.toList))
def witR (m : List Mem) (k : ByteArray) (x : V) : List Mem := m.filter (fun y => ltB y.1 k) ++ (k, x) :: m.filter (fun y => ltB k y.1)
def getR : List Mem → ByteArray → V
 | [], _ => nullV
 | y :: t, k => if y.1.toList = k.toList then y.2 else getR t k
mutual
def pchV : V → V → V
 | t, .mk k b i s l m => if k = 5 then .mk 5 false 0 ⟨#[]⟩ [] (pchM (if kindOf t = 5 then memsOf t else []) m) else .mk k b i s l m
def pchM : List Mem → List Mem → List Mem
 | o, [] => o
 | o, (k, x) :: q => pchM (if kindOf x = 0 then wotR o k else witR o k (pchV (getR o k) x)) q
end
def stpR (f : V → V → V) (m : List Mem) (k : ByteArray) (x : V) : List Mem := if kindOf x = 0 then wotR m k else witR m k (f (getR m k) x)
theorem pchM_cons (o : List Mem) (k : ByteArray) (x : V) (q : List Mem) : pchM o ((k, x) :: q) = pchM (stpR pchV o k x) q := by rw [pchM]; rfl
def mrgM (f : V → V → V) : List Mem → List Mem → List Mem
 | a, [] => a
 | [], (k, x) :: b => if kindOf x = 0 then mrgM f [] b else (k, f nullV x) :: mrgM f [] b
 | (ka, xa) :: a, (kb, xb) :: b =>
  if ltB ka kb = true then (ka, xa) :: mrgM f a ((kb, xb) :: b)
  else if ltB kb ka = true then (if kindOf xb = 0 then mrgM f ((ka, xa) :: a) b else (kb, f nullV xb) :: mrgM f ((ka, xa) :: a) b)
  else if kindOf xb = 0 then mrgM f a b else (kb, f xa xb) :: mrgM f a b
termination_by a b => a.length + b.length
theorem lt_asym {a b : ByteArray} (h : ltB a b = true) : ltB b a = false := by
 rw [Bool.eq_false_iff]
 intro h'
 have := (ltB_cmp _ _).1 (ltB_trans h h')
 rw [cmpS, (cmp_zero _ _).2 rfl] at this
 cases this
theorem lt_ne {a b : ByteArray} (h : ltB a b = true) : ¬ a.toList = b.toList := fun e => by
 have h2 : ltB a a = true := by rw [ltB] at h ⊢; rw [← e] at h; exact h
 have := lt_asym h2
 rw [h2] at this; cases this
theorem lt_same {a b c : ByteArray} (e : a.toList = b.toList) : ltB a c = ltB b c := by rw [ltB, ltB, e]
theorem lt_same' {a b c : ByteArray} (e : a.toList = b.toList) : ltB c a = ltB c b := by rw [ltB, ltB, e]
theorem mrg_head {f : V → V → V} {ka : ByteArray} {xa : V} {a q : List Mem} (h : ∀ y ∈ q, ltB ka y.1 = true) : mrgM f ((ka, xa) :: a) q = (ka, xa) :: mrgM f a q := by
 cases q with
 | nil => rw [mrgM, mrgM]
 | cons y q =>
  obtain ⟨kb, xb⟩ := y
  have h1 := h (kb, xb) (List.mem_cons_self ..)
  rw [mrgM, if_pos h1]
theorem filt_all {p : Mem → Bool} {l : List Mem} (h : ∀ y ∈ l, p y = true) : l.filter p = l := List.filter_eq_self.2 h
theorem filt_no {p : Mem → Bool} {l : List Mem} (h : ∀ y ∈ l, p y = false) : l.filter p = [] := List.filter_eq_nil_iff.2 fun y hy => by rw [h y hy]; simp
theorem getR_far {l : List Mem} {k : ByteArray} (h : ∀ y ∈ l, ltB k y.1 = true) : getR l k = nullV := by
 induction l with
 | nil => rfl
 | cons y t ih =>
  rw [getR, if_neg (fun e => lt_ne (h y (List.mem_cons_self ..)) e.symm)]
  exact ih fun z hz => h z (List.mem_cons_of_mem _ hz)
theorem far_w {l : List Mem} {k : ByteArray} (h : ∀ y ∈ l, ltB k y.1 = true) : wotR l k = l ∧ ∀ x, witR l k x = (k, x) :: l := by
 refine ⟨filt_all fun y hy => ?_, fun x => ?_⟩
 ·have := lt_ne (h y hy)
  simp only [Bool.not_eq_true', beq_eq_false_iff_ne, ne_eq]
  exact fun e => this e.symm
 ·rw [witR, filt_no fun y hy => lt_asym (h y hy), filt_all fun y hy => h y hy]
  rfl
theorem mrg_stp {f : V → V → V} {k : ByteArray} {x : V} {q : List Mem} (hq : ∀ y ∈ q, ltB k y.1 = true) : ∀ {a : List Mem}, Srt a → mrgM f a ((k, x) :: q) = mrgM f (stpR f a k x) q := by
 intro a
 induction a with
 | nil =>
  intro _
  rw [mrgM, stpR]
  by_cases h0 : kindOf x = 0
  ·rw [if_pos h0, if_pos h0]; rfl
  ·rw [if_neg h0, if_neg h0]
   show _ = mrgM f [(k, f nullV x)] q
   rw [mrg_head hq]
 | cons y a ih =>
  intro hs
  obtain ⟨ka, xa⟩ := y
  have hs1 := (List.pairwise_cons.1 hs).1
  have hs2 := (List.pairwise_cons.1 hs).2
  have ih := ih hs2
  rw [mrgM]
  by_cases h1 : ltB ka k = true
  ·rw [if_pos h1, ih]
   have hne := lt_ne h1
   have e : stpR f ((ka, xa) :: a) k x = (ka, xa) :: stpR f a k x := by
    rw [stpR, stpR]
    have e1 : wotR ((ka, xa) :: a) k = (ka, xa) :: wotR a k := by rw [wotR, List.filter_cons_of_pos (by simpa using hne)]; rfl
    have e2 : ∀ z, witR ((ka, xa) :: a) k z = (ka, xa) :: witR a k z := fun z => by
     rw [witR, List.filter_cons_of_pos (by exact h1), List.filter_cons_of_neg (by rw [lt_asym h1]; simp)]; rfl
    rw [e1, e2, getR, if_neg hne]
    split <;> rfl
   rw [e, mrg_head fun y hy => ltB_trans h1 (hq y hy)]
  ·rw [if_neg h1]
   by_cases h2 : ltB k ka = true
   ·rw [if_pos h2]
    have hf : ∀ y ∈ (ka, xa) :: a, ltB k y.1 = true := fun y hy => by
     rcases List.mem_cons.1 hy with rfl | hy
     ·exact h2
     ·exact ltB_trans h2 (hs1 y hy)
    rw [stpR, (far_w hf).1, (far_w hf).2, getR_far hf]
    by_cases h0 : kindOf x = 0
    ·rw [if_pos h0, if_pos h0]
    ·rw [if_neg h0, if_neg h0, mrg_head hq]
   ·rw [if_neg h2]
    have he : ka.toList = k.toList := Classical.byContradiction fun hne => h2 (ltB_tri ka k (by simpa using h1) hne)
    have hf : ∀ y ∈ a, ltB k y.1 = true := fun y hy => by rw [← lt_same he]; exact hs1 y hy
    have e1 : wotR ((ka, xa) :: a) k = a := by
     rw [wotR, List.filter_cons_of_neg (by simpa using he)]; exact (far_w hf).1
    have e2 : ∀ z, witR ((ka, xa) :: a) k z = (k, z) :: a := fun z => by
     have := (far_w hf).2 z
     rw [witR] at this ⊢
     rw [List.filter_cons_of_neg (by exact h1), List.filter_cons_of_neg (by exact h2)]; exact this
    rw [stpR, e1, e2, getR, if_pos he]
    by_cases h0 : kindOf x = 0
    ·rw [if_pos h0, if_pos h0]
    ·rw [if_neg h0, if_neg h0, mrg_head hq]
theorem wit_srt {m : List Mem} (h : Srt m) (k : ByteArray) (x : V) : Srt (witR m k x) := by
 rw [witR]
 refine List.pairwise_append.2 ⟨List.Pairwise.filter _ h, List.pairwise_cons.2 ⟨fun y hy => ?_, List.Pairwise.filter _ h⟩, fun y hy z hz => ?_⟩
 ·exact (List.mem_filter.1 hy).2
 ·have h1 : ltB y.1 k = true := (List.mem_filter.1 hy).2
  rcases List.mem_cons.1 hz with rfl | hz
  ·exact h1
  ·exact ltB_trans h1 (List.mem_filter.1 hz).2
theorem stp_srt {f : V → V → V} {m : List Mem} (h : Srt m) (k : ByteArray) (x : V) : Srt (stpR f m k x) := by
 rw [stpR]
 split
 ·exact List.Pairwise.filter _ h
 ·exact wit_srt h _ _
theorem pch_mrg : ∀ {q : List Mem}, Srt q → ∀ {o : List Mem}, Srt o → pchM o q = mrgM pchV o q
 | [], _, o, _ => by rw [pchM, mrgM]
 | (k, x) :: q, hq, o, ho => by
  rw [pchM_cons, pch_mrg (List.pairwise_cons.1 hq).2 (stp_srt ho k x), mrg_stp (fun y hy => (List.pairwise_cons.1 hq).1 y hy) ho]
end Go.Proofs.YtjfldbmopjojdabDoor
