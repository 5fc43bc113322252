/- joined: AccM AnwD ClnA FndA MrgP -/
import Derived.Test.YtjfldbmopjojdaaDoorG9
import Derived.Laws.AppendOwnNone
import Derived.LoopN
set_option linter.unusedSimpArgs false
set_option linter.unusedVariables false
namespace Go.Proofs.YtjfldbmopjojdaaDoor
open Go.RowKit Go.Lib
theorem hmk {p : Prop} (h : p) : Hid p := h
theorem one_belowG (w : World) (o : Obj) : Below w.heap.size w (w.alloc o) := (Below.refl _ _).alloc (Nat.le_refl _) _
def OrNew (S : Nat → Prop) (w w' : World) (y : Nat) : Prop := S y ∨ New w w' y
def RpPost (x : V) (S : Nat → Prop) (w : World) (e : Ending) (w' : World) : Prop := ∃ cs : List Value, e = .returned (.agg cs.toArray) ∧ x.lies false w' (OrNew S w w') cs ∧ Below w.heap.size w w'
structure RowsOf (w : World) (b o c : Nat) (css : List (List Value)) : Prop where
 len : ∀ x ∈ css, x.length = c
 one : ∀ x ∈ css, ∀ u ∈ x, u.oneCell' = true
 row : ∀ (j : Nat) (h : j < css.length), rowAt w b (o + j * c) css[j]
theorem flat_get {c : Nat} : ∀ {css : List (List Value)}, (∀ x ∈ css, x.length = c) → ∀ (j r : Nat) (hr : r < c) (hj : j < css.length), css.flatten[j * c + r]? = (css[j])[r]?
 | [], _, j, r, hr, hj => by simp at hj
 | x :: t, h, 0, r, hr, hj => by
  rw [List.flatten_cons, Nat.zero_mul, Nat.zero_add, List.getElem?_append_left (by rw [h x List.mem_cons_self]; exact hr)]
  rfl
 | x :: t, h, j + 1, r, hr, hj => by
  have hx := h x List.mem_cons_self
  have := flat_get (css := t) (fun y hy => h y (List.mem_cons_of_mem _ hy)) j r hr (by simpa using hj)
  have e : (j + 1) * c + r = c + (j * c + r) := by rw [Nat.add_mul]; omega
  rw [List.flatten_cons, e, List.getElem?_append_right (by omega), hx, Nat.add_sub_cancel_left, this]
  rfl
theorem one_of_lies {v : V} {w : World} {S : Nat → Prop} {cs : List Value} (h : v.lies false w S cs) : cs.length = 6 ∧ ∀ u ∈ cs, u.oneCell' = true := by
 obtain ⟨k, b, i, s, al, nl, cl, am, nm, cm, rfl⟩ := V.ten h
 refine ⟨rfl, fun u hu => ?_⟩
 simp only [List.mem_cons, List.not_mem_nil, or_false] at hu
 rcases hu with rfl | rfl | rfl | rfl | rfl | rfl <;> rfl
theorem rowsM_of {w : World} {S : Nat → Prop} : ∀ {l : List Mem} {b o : Nat}, liesM false w S l b o → ∃ css : List (List Value), css.length = l.length ∧ RowsOf w b o 7 css ∧ ∀ (j : Nat) (h : j < l.length) (h' : j < css.length), ∃ cs, css[j] = .string (l[j]).1 :: cs ∧ (l[j]).1.size ≤ maxLen ∧ (l[j]).2.lies false w S cs
 | [], b, o, _ => ⟨[], rfl, ⟨by simp, by simp, by intro j h; simp at h⟩, by intro j h; simp at h⟩
 | (k, x) :: t, b, o, hl => by
  rw [liesM] at hl
  obtain ⟨hS, ⟨hk, cs, hr, hx⟩, ht⟩ := hl
  obtain ⟨css, h1, h2, h3⟩ := rowsM_of ht
  have ho := one_of_lies hx
  refine ⟨(.string k :: cs) :: css, by simp [h1], ⟨?_, ?_, ?_⟩, ?_⟩
  ·intro y hy
   rcases List.mem_cons.1 hy with rfl | hy
   ·simp [ho.1]
   ·exact h2.len y hy
  ·intro y hy
   rcases List.mem_cons.1 hy with rfl | hy
   ·intro u hu
    rcases List.mem_cons.1 hu with rfl | hu
    ·rfl
    ·exact ho.2 u hu
   ·exact h2.one y hy
  ·intro j hj
   cases j with
   | zero => simpa using hr
   | succ j =>
    have := h2.row j (by simpa using hj)
    rw [show o + 7 + j * 7 = o + (j + 1) * 7 by omega] at this
    simpa using this
  ·intro j hj hj'
   cases j with
   | zero => exact ⟨cs, by simp, by simpa using hk, by simpa using hx⟩
   | succ j => simpa using h3 j (by simpa using hj) (by simpa using hj')
def OwnC (B e c : Nat) (v : Value) (css : List (List Value)) (w : World) : Prop := w.ownsRow B e c v css.length css.flatten
structure SegR where
 a : Option Addr
 css : List (List Value)
 c : Nat
 b : Nat
 o : Nat
structure SegAt (c : Nat) (w : World) (S : Nat → Prop) (g : SegR) : Prop where
 hd : Headed g.a g.css.length g.c g.b g.o
 rw_ : RowsOf w g.b g.o c g.css
 ins : 0 < g.css.length → S g.b
theorem SegAt.below {c : Nat} {w w' : World} {S : Nat → Prop} {g : SegR} (h : SegAt c w S g) (hS : ∀ b, S b → b < w.heap.size) (hb : Below w.heap.size w w') : SegAt c w' S g :=
 ⟨h.hd, ⟨h.rw_.len, h.rw_.one, fun j hj => (h.rw_.row j hj).keep (hb.block _ (hS _ (h.ins (by omega))))⟩, h.ins⟩
theorem infoMU : (Tryd.prog.info? 57).map (fun i => (i.zero, i.size, i.bytes)) = some (some (.agg #[.string ⟨#[]⟩, .int .i64 0, .bool false, .int .i64 0, .string ⟨#[]⟩, .slice none 0 0, .slice none 0 0]), 7, 104) := by kernel_rfl
theorem RowsOf.take {w : World} {b o c : Nat} {css : List (List Value)} (h : RowsOf w b o c css) (p : Nat) : RowsOf w b o c (css.take p) :=
 ⟨fun x hx => h.len x (List.mem_of_mem_take hx), fun x hx => h.one x (List.mem_of_mem_take hx), fun j hj => by
  rw [List.getElem_take]
  exact h.row j (by rw [List.length_take] at hj; omega)⟩
theorem RowsOf.drop {w : World} {b o c : Nat} {css : List (List Value)} (h : RowsOf w b o c css) (p : Nat) : RowsOf w b (o + p * c) c (css.drop p) :=
 ⟨fun x hx => h.len x (List.mem_of_mem_drop hx), fun x hx => h.one x (List.mem_of_mem_drop hx), fun j hj => by
  rw [List.length_drop] at hj
  rw [List.getElem_drop, show o + p * c + j * c = o + (p + j) * c by rw [Nat.add_mul]; omega]
  exact h.row (p + j) (by omega)⟩
theorem zip_maps {α β : Type} : ∀ (l : List α) (r : List β), l.length = r.length → (l.zip r).map (fun q => q.1) = l ∧ (l.zip r).map (fun q => q.2) = r
 | [], [], _ => by simp
 | [], y :: r, h => by simp at h
 | x :: l, [], h => by simp at h
 | x :: l, y :: r, h => by
  have := zip_maps l r (by simpa using h)
  simp [this.1, this.2]
def PL (w : World) (S : Nat → Prop) (q : V × List Value) : Prop := q.1.lies false w S q.2
theorem PL.keep {w w' : World} {S S' : Nat → Prop} {q : V × List Value} (h : PL w S q) (hw : ∀ b, S b → w'.heap[b]? = w.heap[b]?) (hS : ∀ b, S b → S' b) : PL w' S' q := V.lies_keep (fun h => h) hw hS _ h
def PM (w : World) (S : Nat → Prop) (q : Mem × List Value) : Prop := ∃ cs, q.2 = .string q.1.1 :: cs ∧ q.1.1.size ≤ maxLen ∧ q.1.2.lies false w S cs
theorem PM.keep {w w' : World} {S S' : Nat → Prop} {q : Mem × List Value} (h : PM w S q) (hw : ∀ b, S b → w'.heap[b]? = w.heap[b]?) (hS : ∀ b, S b → S' b) : PM w' S' q := by
 obtain ⟨cs, h1, h2, h3⟩ := h
 exact ⟨cs, h1, h2, V.lies_keep (fun h => h) hw hS _ h3⟩
theorem segM {w : World} {S : Nat → Prop} {l : List Mem} {b o : Nat} (h : liesM false w S l b o) : ∃ ps : List (Mem × List Value), ps.map (fun q => q.1) = l ∧ RowsOf w b o 7 (ps.map (fun q => q.2)) ∧ (∀ q ∈ ps, PM w S q) ∧ (0 < ps.length → S b) := by
 obtain ⟨css, h1, h2, h3⟩ := rowsM_of h
 have hz := zip_maps l css h1.symm
 refine ⟨l.zip css, hz.1, by rw [hz.2]; exact h2, fun q hq => ?_, fun hp => ?_⟩
 ·obtain ⟨j, hj, rfl⟩ := List.getElem_of_mem hq
  rw [List.length_zip] at hj
  rw [List.getElem_zip]
  exact h3 j (by omega) (by omega)
 ·rw [List.length_zip] at hp
  exact (liesM_get h 0 (by omega)).1
theorem ownM {w : World} {S : Nat → Prop} {B : Nat} {v : Value} {ps : List (Mem × List Value)} (h : OwnC B 57 7 v (ps.map (fun q => q.2)) w) (hp : ∀ q ∈ ps, PM w S q) : ∃ a n b o, v = .slice a (ps.map (fun q => q.1)).length n ∧ Headed a (ps.map (fun q => q.1)).length n b o ∧ liesM false w (fun x => S x ∨ (B ≤ x ∧ x < w.heap.size)) (ps.map (fun q => q.1)) b o := by
 have h' := h
 rcases h.2 with ⟨rfl, e⟩ | ⟨g, cap, cur, rfl, hB, hg, hle, hmax, hsz, htk⟩
 ·have e0 : ps = [] := by simpa using e
  subst e0
  exact ⟨none, 0, 0, 0, rfl, ⟨Nat.le_refl _, Nat.zero_le _, .inl rfl, fun _ => rfl⟩, by rw [List.map_nil, liesM]; trivial⟩
 ·simp only [List.length_map] at hle
  have hgl := (World.ownsRow.lt h' g rfl).2
  refine ⟨some ⟨g, 0, none⟩, cap, g, 0, by rw [List.length_map, List.length_map], ⟨by rw [List.length_map]; exact hle, hmax, .inr rfl, fun h => by cases h⟩, liesM_mk fun j hj => ?_⟩
  have hj' : j < ps.length := by simpa using hj
  have hq := hp ps[j] (List.getElem_mem hj')
  have hlen : ∀ x ∈ ps.map (fun q => q.2), x.length = 7 := fun x hx => by
   obtain ⟨q, hq, rfl⟩ := List.mem_map.1 hx
   exact by
    obtain ⟨cs, e0, _, e1⟩ := hp q hq
    obtain ⟨k, b, i, s, al, nl, cl, am, nm, cm, e⟩ := V.ten e1
    rw [e0, e]; rfl
  have hrow : rowAt w g (0 + j * 7) (ps[j]).2 := fun r u hu => by
   have hr : r < 7 := by
    have := (List.getElem?_eq_some_iff.1 hu).1
    have h9 := hlen (ps[j]).2 (List.mem_map.2 ⟨_, List.getElem_mem hj', rfl⟩)
    omega
   have h1 := flat_get hlen j r hr (by simpa using hj')
   rw [List.getElem_map] at h1
   have h2 := World.ownsRow.cells h' (g := g) rfl (j * 7 + r) u (by rw [h1]; exact hu)
   rw [Go.WideShapes.add_plain] at h2
   simpa using h2
  rw [List.getElem_map]
  obtain ⟨cs, e0, e1, e2⟩ := hq
  rw [e0] at hrow
  exact ⟨.inr ⟨hB, hgl⟩, e1, cs, hrow, V.lies_keep (fun h => h) (fun _ _ => rfl) (fun b hb => .inl hb) _ e2⟩
theorem news_row {w : World} {g : Nat} {row : List Value} {ty : TypeId} (h : w.heap[g]? = some (.cells row.toArray ty)) : ∀ j u, row[j]? = some u → w.cell? ((⟨g, 0, none⟩ : Addr).add j) = some u := fun j u hu => by
 rw [Go.WideShapes.add_plain, cell_of_block h]
 simpa using hu
theorem OwnC.below {B e c : Nat} {v : Value} {css : List (List Value)} {w w' : World} (h : OwnC B e c v css w) (hb : Below w.heap.size w w') : OwnC B e c v css w' :=
 World.ownsRow.kept (row := none) h ⟨hb.os, hb.tape, hb.output, hb.size, fun k hk _ => hb.block k hk⟩ (by cases v.ownBlock <;> simp)
theorem OwnC.alloc {B e c : Nat} {v : Value} {css : List (List Value)} {w : World} (h : OwnC B e c v css w) (o : Obj) : OwnC B e c v css (w.alloc o) :=
 World.ownsRow.kept h (World.grownBy_alloc w o none) (by cases v.ownBlock <;> simp)
theorem OwnC.move {B e c : Nat} {v : Value} {css : List (List Value)} {w w' : World} (h : OwnC B e c v css w) (hk : ∀ b, B ≤ b → b < w.heap.size → w'.heap[b]? = w.heap[b]?) : OwnC B e c v css w' := by
 refine ⟨h.1, ?_⟩
 rcases h.2 with hn | ⟨g, cap, cur, rfl, hb, hgg, rest⟩
 ·exact .inl hn
 ·exact .inr ⟨g, cap, cur, rfl, hb, (hk g hb (Array.getElem?_eq_some_iff.1 hgg).1).trans hgg, rest⟩
theorem OwnC.slice {B e c : Nat} {v : Value} {css : List (List Value)} {w : World} (h : OwnC B e c v css w) : ∃ a n, v = .slice a css.length n := by
 rcases h.2 with ⟨rfl, e⟩ | ⟨g, cap, cur, rfl, _⟩
 ·exact ⟨_, _, by rw [e]⟩
 ·exact ⟨_, _, rfl⟩
theorem headed_new (g n : Nat) (h : n ≤ maxLen) : Headed (some ⟨g, 0, none⟩) n n g 0 := ⟨Nat.le_refl _, h, .inr rfl, fun h => by cases h⟩
def nullV : V := .mk 0 false 0 ⟨#[]⟩ [] []
def clnV (v : V) : V := if okV v = true then v else nullV
theorem null_lies (W : World) (S : Nat → Prop) : nullV.lies false W S [.int .i64 0, .bool false, .int .i64 0, .string ⟨#[]⟩, .slice none 0 0, .slice none 0 0] :=
 lies_S (by constructor <;> omega) (by constructor <;> omega) (by decide) headed_nil headed_nil (by rw [liesL]; trivial) (by rw [liesM]; trivial)
theorem srt_rise {l : List Mem} (h : riseB l = true) : Srt l := by
 have h0 : ∀ j, j < l.length → okAt l j = true := by
  simpa only [riseB, List.all_eq_true, List.mem_range] using h
 have h1 : ∀ (j : Nat) (hj : j + 1 < l.length), ltB (l[j]).1 (l[j + 1]).1 = true := fun j hj => by
  have := h0 (j + 1) hj
  rw [okAt, keyAt_eq hj, Nat.add_sub_cancel, keyAt_eq (by omega)] at this
  simpa using (Bool.and_eq_true _ _ ▸ this).2
 have h2 : ∀ (d i : Nat) (hd : i + (d + 1) < l.length), ltB (l[i]).1 (l[i + (d + 1)]).1 = true := by
  intro d
  induction d with
  | zero => intro i hd; exact h1 i hd
  | succ d ih =>
   intro i hd
   exact ltB_trans (ih i (by omega)) (h1 (i + (d + 1)) hd)
 refine List.pairwise_iff_getElem.2 fun i j hi hj hij => ?_
 have := h2 (j - i - 1) i (by omega)
 have e : i + (j - i - 1 + 1) = j := by omega
 simp only [e] at this
 exact this
theorem cmp_zero : ∀ a b : List UInt8, compareBytes a b = 0 ↔ a = b
 | [], [] => by simp [compareBytes]
 | [], _ :: _ => by simp [compareBytes]
 | _ :: _, [] => by simp [compareBytes]
 | x :: t, y :: u => by
  have ih := cmp_zero t u
  rw [compareBytes]
  by_cases h1 : x < y
  ·rw [if_pos h1]
   constructor
   ·intro h; simp at h
   ·intro h; cases h; exact absurd h1 (Nat.lt_irrefl _)
  ·rw [if_neg h1]
   by_cases h2 : y < x
   ·rw [if_pos h2]
    constructor
    ·intro h; simp at h
    ·intro h; cases h; exact absurd h2 (Nat.lt_irrefl _)
   ·rw [if_neg h2, ih]
    have he : x = y := by
     rcases Nat.lt_trichotomy x.toNat y.toNat with h | h | h
     ·exact absurd h h1
     ·exact UInt8.toNat_inj.1 h
     ·exact absurd h h2
    simp [he]
theorem cmp_tri : ∀ a b : List UInt8, ¬ compareBytes a b = -1 → ¬ a = b → compareBytes b a = -1
 | [], [], _, h => absurd rfl h
 | [], _ :: _, h, _ => absurd (by simp [compareBytes]) h
 | _ :: _, [], _, _ => by simp [compareBytes]
 | x :: t, y :: u, h, hne => by
  rw [compareBytes] at h ⊢
  by_cases h1 : x < y
  ·rw [if_pos h1] at h; exact absurd rfl h
  ·rw [if_neg h1] at h
   by_cases h2 : y < x
   ·rw [if_pos h2]
   ·rw [if_neg h2] at h ⊢
    rw [if_neg h1]
    have e := u8_tri x y h1 h2
    subst e
    exact cmp_tri t u h (fun e => hne (by rw [e]))
theorem ltB_tri (a b : ByteArray) (h1 : ltB a b = false) (h2 : ¬ a.toList = b.toList) : ltB b a = true := by
 rw [ltB_cmp]
 have h3 : ¬ cmpS a b = -1 := fun h => by rw [(ltB_cmp a b).2 h] at h1; cases h1
 rw [toList_data, toList_data] at h2
 exact cmp_tri _ _ h3 h2
theorem rise_of {l : List Mem} (h : Srt l) (hu : ∀ y ∈ l, utfB y.1 = true) : riseB l = true := riseB_true fun j hj => by
 rw [okAt, keyAt_eq hj, hu _ (List.getElem_mem hj)]
 by_cases h0 : j = 0
 ·simp [h0]
 ·rw [keyAt_eq (show j - 1 < l.length by omega)]
  have := (List.pairwise_iff_getElem.1 h) (j - 1) j (by omega) hj (by omega)
  simp [this]
theorem rise_utf {l : List Mem} (h : riseB l = true) : ∀ x ∈ l, utfB x.1 = true := by
 intro x hx
 obtain ⟨j, hj, rfl⟩ := List.getElem_of_mem hx
 have h0 : ∀ j, j < l.length → okAt l j = true := by
  simpa only [riseB, List.all_eq_true, List.mem_range] using h
 have := h0 j hj
 rw [okAt, keyAt_eq hj] at this
 exact (Bool.and_eq_true _ _ ▸ this).1
def kindOf : V → Int
 | .mk k _ _ _ _ _ => k
def memsOf : V → List Mem
 | .mk _ _ _ _ _ m => m
def wotR (m : List Mem) (k : ByteArray) : List Mem := m.filter (fun y => !(y.1.toList == k.toList))
def witR (m : List Mem) (k : ByteArray) (x : V) : List Mem := m.filter (fun y => ltB y.1 k) ++ (k, x) :: m.filter (fun y => ltB k y.1)
def getR : List Mem → ByteArray → V
 | [], _ => nullV
 | y :: t, k => if y.1.toList = k.toList then y.2 else getR t k
mutual
def pchV : V → V → V
 | t, .mk k b i s l m => if k = 5 then .mk 5 false 0 ⟨#[]⟩ [] (pchM (if kindOf t = 5 then memsOf t else []) m) else .mk k b i s l m
def pchM : List Mem → List Mem → List Mem
 | o, [] => o
 | o, (k, x) :: q => pchM (if kindOf x = 0 then wotR o k else witR o k (pchV (getR o k) x)) q
end
def stpR (f : V → V → V) (m : List Mem) (k : ByteArray) (x : V) : List Mem := if kindOf x = 0 then wotR m k else witR m k (f (getR m k) x)
theorem pchM_cons (o : List Mem) (k : ByteArray) (x : V) (q : List Mem) : pchM o ((k, x) :: q) = pchM (stpR pchV o k x) q := by rw [pchM]; rfl
def mrgM (f : V → V → V) : List Mem → List Mem → List Mem
 | a, [] => a
 | [], (k, x) :: b => if kindOf x = 0 then mrgM f [] b else (k, f nullV x) :: mrgM f [] b
 | (ka, xa) :: a, (kb, xb) :: b =>
  if ltB ka kb = true then (ka, xa) :: mrgM f a ((kb, xb) :: b)
  else if ltB kb ka = true then (if kindOf xb = 0 then mrgM f ((ka, xa) :: a) b else (kb, f nullV xb) :: mrgM f ((ka, xa) :: a) b)
  else if kindOf xb = 0 then mrgM f a b else (kb, f xa xb) :: mrgM f a b
termination_by a b => a.length + b.length
theorem lt_asym {a b : ByteArray} (h : ltB a b = true) : ltB b a = false := by
 rw [Bool.eq_false_iff]
 intro h'
 have := (ltB_cmp _ _).1 (ltB_trans h h')
 rw [cmpS, (cmp_zero _ _).2 rfl] at this
 cases this
theorem lt_ne {a b : ByteArray} (h : ltB a b = true) : ¬ a.toList = b.toList := fun e => by
 have h2 : ltB a a = true := by rw [ltB] at h ⊢; rw [← e] at h; exact h
 have := lt_asym h2
 rw [h2] at this; cases this
theorem lt_same {a b c : ByteArray} (e : a.toList = b.toList) : ltB a c = ltB b c := by rw [ltB, ltB, e]
theorem mrg_head {f : V → V → V} {ka : ByteArray} {xa : V} {a q : List Mem} (h : ∀ y ∈ q, ltB ka y.1 = true) : mrgM f ((ka, xa) :: a) q = (ka, xa) :: mrgM f a q := by
 cases q with
 | nil => rw [mrgM, mrgM]
 | cons y q =>
  obtain ⟨kb, xb⟩ := y
  have h1 := h (kb, xb) (List.mem_cons_self ..)
  rw [mrgM, if_pos h1]
theorem filt_all {p : Mem → Bool} {l : List Mem} (h : ∀ y ∈ l, p y = true) : l.filter p = l := List.filter_eq_self.2 h
theorem filt_no {p : Mem → Bool} {l : List Mem} (h : ∀ y ∈ l, p y = false) : l.filter p = [] := List.filter_eq_nil_iff.2 fun y hy => by rw [h y hy]; simp
theorem getR_far {l : List Mem} {k : ByteArray} (h : ∀ y ∈ l, ltB k y.1 = true) : getR l k = nullV := by
 induction l with
 | nil => rfl
 | cons y t ih =>
  rw [getR, if_neg (fun e => lt_ne (h y (List.mem_cons_self ..)) e.symm)]
  exact ih fun z hz => h z (List.mem_cons_of_mem _ hz)
theorem far_w {l : List Mem} {k : ByteArray} (h : ∀ y ∈ l, ltB k y.1 = true) : wotR l k = l ∧ ∀ x, witR l k x = (k, x) :: l := by
 refine ⟨filt_all fun y hy => ?_, fun x => ?_⟩
 ·have := lt_ne (h y hy)
  simp only [Bool.not_eq_true', beq_eq_false_iff_ne, ne_eq]
  exact fun e => this e.symm
 ·rw [witR, filt_no fun y hy => lt_asym (h y hy), filt_all fun y hy => h y hy]
  rfl
theorem mrg_stp {f : V → V → V} {k : ByteArray} {x : V} {q : List Mem} (hq : ∀ y ∈ q, ltB k y.1 = true) : ∀ {a : List Mem}, Srt a → mrgM f a ((k, x) :: q) = mrgM f (stpR f a k x) q := by
 intro a
 induction a with
 | nil =>
  intro _
  rw [mrgM, stpR]
  by_cases h0 : kindOf x = 0
  ·rw [if_pos h0, if_pos h0]; rfl
  ·rw [if_neg h0, if_neg h0]
   show _ = mrgM f [(k, f nullV x)] q
   rw [mrg_head hq]
 | cons y a ih =>
  intro hs
  obtain ⟨ka, xa⟩ := y
  have hs1 := (List.pairwise_cons.1 hs).1
  have hs2 := (List.pairwise_cons.1 hs).2
  have ih := ih hs2
  rw [mrgM]
  by_cases h1 : ltB ka k = true
  ·rw [if_pos h1, ih]
   have hne := lt_ne h1
   have e : stpR f ((ka, xa) :: a) k x = (ka, xa) :: stpR f a k x := by
    rw [stpR, stpR]
    have e1 : wotR ((ka, xa) :: a) k = (ka, xa) :: wotR a k := by rw [wotR, List.filter_cons_of_pos (by simpa using hne)]; rfl
    have e2 : ∀ z, witR ((ka, xa) :: a) k z = (ka, xa) :: witR a k z := fun z => by
     rw [witR, List.filter_cons_of_pos (by exact h1), List.filter_cons_of_neg (by rw [lt_asym h1]; simp)]; rfl
    rw [e1, e2, getR, if_neg hne]
    split <;> rfl
   rw [e, mrg_head fun y hy => ltB_trans h1 (hq y hy)]
  ·rw [if_neg h1]
   by_cases h2 : ltB k ka = true
   ·rw [if_pos h2]
    have hf : ∀ y ∈ (ka, xa) :: a, ltB k y.1 = true := fun y hy => by
     rcases List.mem_cons.1 hy with rfl | hy
     ·exact h2
     ·exact ltB_trans h2 (hs1 y hy)
    rw [stpR, (far_w hf).1, (far_w hf).2, getR_far hf]
    by_cases h0 : kindOf x = 0
    ·rw [if_pos h0, if_pos h0]
    ·rw [if_neg h0, if_neg h0, mrg_head hq]
   ·rw [if_neg h2]
    have he : ka.toList = k.toList := Classical.byContradiction fun hne => h2 (ltB_tri ka k (by simpa using h1) hne)
    have hf : ∀ y ∈ a, ltB k y.1 = true := fun y hy => by rw [← lt_same he]; exact hs1 y hy
    have e1 : wotR ((ka, xa) :: a) k = a := by
     rw [wotR, List.filter_cons_of_neg (by simpa using he)]; exact (far_w hf).1
    have e2 : ∀ z, witR ((ka, xa) :: a) k z = (k, z) :: a := fun z => by
     have := (far_w hf).2 z
     rw [witR] at this ⊢
     rw [List.filter_cons_of_neg (by exact h1), List.filter_cons_of_neg (by exact h2)]; exact this
    rw [stpR, e1, e2, getR, if_pos he]
    by_cases h0 : kindOf x = 0
    ·rw [if_pos h0, if_pos h0]
    ·rw [if_neg h0, if_neg h0, mrg_head hq]
theorem wit_srt {m : List Mem} (h : Srt m) (k : ByteArray) (x : V) : Srt (witR m k x) := by
 rw [witR]
 refine List.pairwise_append.2 ⟨List.Pairwise.filter _ h, List.pairwise_cons.2 ⟨fun y hy => ?_, List.Pairwise.filter _ h⟩, fun y hy z hz => ?_⟩
 ·exact (List.mem_filter.1 hy).2
 ·have h1 : ltB y.1 k = true := (List.mem_filter.1 hy).2
  rcases List.mem_cons.1 hz with rfl | hz
  ·exact h1
  ·exact ltB_trans h1 (List.mem_filter.1 hz).2
theorem stp_srt {f : V → V → V} {m : List Mem} (h : Srt m) (k : ByteArray) (x : V) : Srt (stpR f m k x) := by
 rw [stpR]
 split
 ·exact List.Pairwise.filter _ h
 ·exact wit_srt h _ _
theorem pch_mrg : ∀ {q : List Mem}, Srt q → ∀ {o : List Mem}, Srt o → pchM o q = mrgM pchV o q
 | [], _, o, _ => by rw [pchM, mrgM]
 | (k, x) :: q, hq, o, ho => by
  rw [pchM_cons, pch_mrg (List.pairwise_cons.1 hq).2 (stp_srt ho k x), mrg_stp (fun y hy => (List.pairwise_cons.1 hq).1 y hy) ho]
end Go.Proofs.YtjfldbmopjojdaaDoor
