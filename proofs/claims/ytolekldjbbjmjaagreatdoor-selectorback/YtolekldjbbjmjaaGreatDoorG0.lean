/- joined: Vals Opn CntA -/
import Derived.ProofKit
import Derived.Below
import Derived.Deep.Slices
import Derived.Test.YtolekldjbbjmjaaGreatDoorProg
import Derived.ChangeArms
import Derived.KernelRfl
import Derived.WalkKit
import Derived.RowKit
import Derived.OwnWalk
/- Values as trees, and how they lie in memory. -/
set_option linter.unusedSimpArgs false
set_option linter.unusedVariables false
namespace Go.Proofs.YtolekldjbbjmjaaGreatDoor
open Go.ChangeShapes Go.WideShapes Go.Deep
inductive V where
  | mk (k : Int) (b : Bool) (i : Int) (s : ByteArray) (l : List V) (m : List (ByteArray × V))
abbrev Mem := ByteArray × V
def rowAt (w : World) (b o : Nat) (cs : List Value) : Prop := ∀ j u, cs[j]? = some u → w.cell? ⟨b, o + j, none⟩ = some u
def In64 (k : Int) : Prop := -9223372036854775808 ≤ k ∧ k ≤ 9223372036854775807
/-- a slice's head: of n elements, at b, o where there is one -/
structure Headed (ao : Option Addr) (n cap b o : Nat) : Prop where
  le : n ≤ cap
  max : cap ≤ maxLen
  at_ : n = 0 ∨ ao = some ⟨b, o, none⟩
  nil : ao = none → cap = 0
mutual
/-- the value lies in these six cells, and below in blocks of S (R: with a mark behind each list and map) -/
def V.lies (R : Bool) (w : World) (S : Nat → Prop) : V → List Value → Prop
  | .mk k b i s l m, cs => ∃ al cl bl ol am cm bm om, cs = [.int .i64 k, .bool b, .int .i64 i, .string s, .slice al l.length cl, .slice am m.length cm] ∧ In64 k ∧ In64 i ∧ s.size ≤ maxLen ∧
      Headed al l.length cl bl ol ∧ Headed am m.length cm bm om ∧ liesL R w S l bl ol ∧ liesM R w S m bm om ∧
      (R = true → al = some ⟨bl, ol, none⟩ ∧ l.length < cl ∧ S bl ∧ w.cell? ⟨bl, ol + l.length * 6, none⟩ = some (.int .i64 77) ∧
        am = some ⟨bm, om, none⟩ ∧ m.length < cm ∧ S bm ∧ w.cell? ⟨bm, om + m.length * 7, none⟩ = some (.string ⟨#[114, 111, 111, 109]⟩))
def liesL (R : Bool) (w : World) (S : Nat → Prop) : List V → Nat → Nat → Prop
  | [], _, _ => True
  | x :: t, b, o => S b ∧ (∃ cs, rowAt w b o cs ∧ x.lies R w S cs) ∧ liesL R w S t b (o + 6)
def liesM (R : Bool) (w : World) (S : Nat → Prop) : List Mem → Nat → Nat → Prop
  | [], _, _ => True
  | (k, x) :: t, b, o => S b ∧ (k.size ≤ maxLen ∧ ∃ cs, rowAt w b o (.string k :: cs) ∧ x.lies R w S cs) ∧ liesM R w S t b (o + 7)
end
theorem liesL_mk {R : Bool} {w : World} {S : Nat → Prop} : ∀ {l : List V} {b o : Nat}, (∀ (j : Nat) (h : j < l.length), S b ∧ ∃ cs, rowAt w b (o + j * 6) cs ∧ (l[j]).lies R w S cs) → liesL R w S l b o
  | [], b, o, _ => by rw [liesL]; trivial
  | x :: t, b, o, hl => by
    rw [liesL]
    have h0 := hl 0 (by simp)
    refine ⟨h0.1, by simpa using h0.2, liesL_mk fun j h => ?_⟩
    have := hl (j + 1) (by simpa using h)
    rw [show o + (j + 1) * 6 = o + 6 + j * 6 by omega] at this
    simpa using this
theorem liesM_get {R : Bool} {w : World} {S : Nat → Prop} : ∀ {l : List Mem} {b o : Nat}, liesM R w S l b o → ∀ (j : Nat) (h : j < l.length), S b ∧ (l[j]).1.size ≤ maxLen ∧ ∃ cs, rowAt w b (o + j * 7) (.string (l[j]).1 :: cs) ∧ (l[j]).2.lies R w S cs
  | [], b, o, _, j, h => by simp at h
  | (k, x) :: t, b, o, hl, 0, h => by
    rw [liesM] at hl
    obtain ⟨hS, hx, _⟩ := hl
    exact ⟨hS, by simpa using hx⟩
  | (k, x) :: t, b, o, hl, j + 1, h => by
    rw [liesM] at hl
    obtain ⟨hS, hx, ht⟩ := hl
    have := liesM_get ht j (by simpa using h)
    rw [show o + 7 + j * 7 = o + (j + 1) * 7 by omega] at this
    simpa using this
theorem liesM_mk {R : Bool} {w : World} {S : Nat → Prop} : ∀ {l : List Mem} {b o : Nat}, (∀ (j : Nat) (h : j < l.length), S b ∧ (l[j]).1.size ≤ maxLen ∧ ∃ cs, rowAt w b (o + j * 7) (.string (l[j]).1 :: cs) ∧ (l[j]).2.lies R w S cs) → liesM R w S l b o
  | [], b, o, _ => by rw [liesM]; trivial
  | (k, x) :: t, b, o, hl => by
    rw [liesM]
    have h0 := hl 0 (by simp)
    refine ⟨h0.1, by simpa using h0.2, liesM_mk fun j h => ?_⟩
    have := hl (j + 1) (by simpa using h)
    rw [show o + (j + 1) * 7 = o + 7 + j * 7 by omega] at this
    simpa using this
theorem rowAt.keep {w w' : World} {b o : Nat} {cs : List Value} (h : rowAt w b o cs) (hb : w'.heap[b]? = w.heap[b]?) : rowAt w' b o cs := fun j u hu =>
  (World.cell?_of_block (w := w) (a := ⟨b, o + j, none⟩) hb).trans (h j u hu)
mutual
theorem V.lies_keep {R R' : Bool} {w w' : World} {S S' : Nat → Prop} (hR : R' = true → R = true) (hw : ∀ b, S b → w'.heap[b]? = w.heap[b]?) (hS : ∀ b, S b → S' b) : ∀ (v : V) {cs : List Value}, v.lies R w S cs → v.lies R' w' S' cs
  | .mk k b i s l m, cs, h => by
    rw [V.lies] at h ⊢
    obtain ⟨al, cl, bl, ol, am, cm, bm, om, e, h1, h2, h0, h3, h4, h5, h6, h7⟩ := h
    refine ⟨al, cl, bl, ol, am, cm, bm, om, e, h1, h2, h0, h3, h4, liesL_keep hR hw hS l h5, liesM_keep hR hw hS m h6, fun r => ?_⟩
    obtain ⟨a1, a2, a3, a4, a5, a6, a7, a8⟩ := h7 (hR r)
    exact ⟨a1, a2, hS _ a3, (World.cell?_of_block (w := w) (hw _ a3)).trans a4, a5, a6, hS _ a7, (World.cell?_of_block (w := w) (hw _ a7)).trans a8⟩
theorem liesL_keep {R R' : Bool} {w w' : World} {S S' : Nat → Prop} (hR : R' = true → R = true) (hw : ∀ b, S b → w'.heap[b]? = w.heap[b]?) (hS : ∀ b, S b → S' b) : ∀ (l : List V) {b o : Nat}, liesL R w S l b o → liesL R' w' S' l b o
  | [], b, o, h => by rw [liesL]; trivial
  | x :: t, b, o, h => by
    rw [liesL] at h ⊢
    obtain ⟨h1, ⟨cs, h2, h3⟩, h4⟩ := h
    exact ⟨hS _ h1, ⟨cs, h2.keep (hw _ h1), V.lies_keep hR hw hS x h3⟩, liesL_keep hR hw hS t h4⟩
theorem liesM_keep {R R' : Bool} {w w' : World} {S S' : Nat → Prop} (hR : R' = true → R = true) (hw : ∀ b, S b → w'.heap[b]? = w.heap[b]?) (hS : ∀ b, S b → S' b) : ∀ (l : List Mem) {b o : Nat}, liesM R w S l b o → liesM R' w' S' l b o
  | [], b, o, h => by rw [liesM]; trivial
  | (k, x) :: t, b, o, h => by
    rw [liesM] at h ⊢
    obtain ⟨h1, ⟨h0, cs, h2, h3⟩, h4⟩ := h
    exact ⟨hS _ h1, ⟨h0, cs, h2.keep (hw _ h1), V.lies_keep hR hw hS x h3⟩, liesM_keep hR hw hS t h4⟩
end
end Go.Proofs.YtolekldjbbjmjaaGreatDoor
/- Arguments that are values, opened. -/
namespace Go.Proofs.YtolekldjbbjmjaaGreatDoor
open Go.ChangeShapes Go.WideShapes Go.Deep
theorem cells3 : Tryz.prog.cellsOf 3 = 1 := by kernel_rfl
theorem cells9 : Tryz.prog.cellsOf 9 = 1 := by kernel_rfl
theorem in64_of {n : Int} (h : (Lit.int .i64 n).wf = true) : In64 n := by
  simp [Lit.wf, IntKind.min, IntKind.max, IntKind.signed, IntKind.bits] at h
  exact h
section
variable {H : Type} {enc : TypeId × Value → H} {w : World} {spare : Nat → Bool} {held : Bool}
def Old (w : World) (b : Nat) : Prop := b < w.heap.size
theorem row_of_cells {a : Addr} {n : Nat} {cs : List Value} (h : w.cells? 0 a n = some cs) (hn : 0 < n) : ∃ b o, a = ⟨b, o, none⟩ ∧ b < w.heap.size ∧ rowAt w b o cs := by
  obtain ⟨_, hlen, hc⟩ := World.cells?_some h
  obtain ⟨b, o, sp⟩ := a
  have h0 := hc 0 hn
  rw [List.getElem?_eq_getElem (by omega)] at h0
  have hsp : sp = none := by simpa [Addr.add] using World.cell?_spot h0
  subst hsp
  refine ⟨b, o, rfl, by simpa [Addr.add] using World.block_lt_of_cell? w _ h0, fun j u hu => ?_⟩
  have hj : j < n := by rw [← hlen]; exact (List.getElem?_eq_some_iff.1 hu).1
  have := hc j hj
  rw [add_plain] at this
  rw [this, hu]
theorem elems_at {α : Type} {a : Addr} {len k : Nat} {Q : α → List Value → Prop} (hk : 0 < k) (h : ∀ i, i < len → ∃ cs x, w.cells? 0 (a.add (i * k)) k = some cs ∧ Q x cs) :
    ∃ (l : List α) (b o : Nat), l.length = len ∧ (len = 0 ∨ a = ⟨b, o, none⟩) ∧ ∀ (j : Nat) (hj : j < l.length), Old w b ∧ ∃ cs, rowAt w b (o + j * k) cs ∧ Q l[j] cs := by
  by_cases h0 : len = 0
  · exact ⟨[], 0, 0, by simp [h0], .inl h0, fun j hj => by simp at hj⟩
  obtain ⟨cs0, x0, hc0, _⟩ := h 0 (by omega)
  have hz : a.add (0 * k) = a := by simp [Addr.add]
  rw [hz] at hc0
  obtain ⟨b, o, rfl, hb, _⟩ := row_of_cells hc0 hk
  have : ∃ l : List α, l.length = len ∧ ∀ (j : Nat) (hj : j < l.length), ∃ cs, rowAt w b (o + j * k) cs ∧ Q l[j] cs := by
    clear hc0 hz h0
    induction len with
    | zero => exact ⟨[], rfl, fun j hj => by simp at hj⟩
    | succ n ih =>
      obtain ⟨l, hl, hq⟩ := ih fun i hi => h i (by omega)
      obtain ⟨cs, x, hc, hx⟩ := h n (by omega)
      rw [add_plain] at hc
      obtain ⟨b', o', e, _, hr⟩ := row_of_cells hc hk
      cases e
      refine ⟨l ++ [x], by simp [hl], fun j hj => ?_⟩
      by_cases hjl : j < l.length
      · rw [List.getElem_append_left hjl]; exact hq j hjl
      · have hjn : j = n := by simp at hj; omega
        subst hjn
        refine ⟨cs, hr, ?_⟩
        rw [List.getElem_append_right (by omega)]
        simpa using hx
  obtain ⟨l, hl, hq⟩ := this
  exact ⟨l, b, o, hl, .inr rfl, fun j hj => ⟨hb, hq j hj⟩⟩
end
end Go.Proofs.YtolekldjbbjmjaaGreatDoor
/- freeholdref00: counting a value. -/
namespace Go.Proofs.YtolekldjbbjmjaaGreatDoor
open Go.RowKit
theorem grown_trans {a b c : World} {row : Option Nat} (h : a.grownBy b row) (k : b.grownBy c row) : a.grownBy c row :=
  ⟨k.os.trans h.os, k.tape.trans h.tape, k.output.trans h.output, Nat.le_trans h.size k.size, fun i hi hr => (k.block i (Nat.lt_of_lt_of_le hi h.size) hr).trans (h.block i hi hr)⟩
theorem grown_alloc {a b : World} {row : Option Nat} (h : a.grownBy b row) (o : Obj) : a.grownBy (b.alloc o) row := grown_trans h (World.grownBy_alloc _ _ _)
theorem grown_set {a b : World} {B : Nat} (h : a.grownBy b (some B)) (i : Nat) (u : Value) : a.grownBy (b.setCell ⟨B, i, none⟩ u) (some B) :=
  ⟨h.os, h.tape, h.output, by simpa [World.setCell] using (by have := h.size; exact this : a.heap.size ≤ b.heap.size), fun k hk hr => (Below.heap_setCell b ⟨B, i, none⟩ u k (fun e => hr (by rw [e]))).trans (h.block k hk hr)⟩
structure Cnt (B n : Nat) (w : World) : Prop where
  c : w.cell? ⟨B, 0, none⟩ = some (.int .i64 (n : Int))
  f : w.frozen? ⟨B, 0, none⟩ = false
theorem Cnt.lt {B n : Nat} {w : World} (h : Cnt B n w) : B < w.heap.size := World.block_lt_of_cell? w _ h.c
theorem Cnt.keep {B n : Nat} {w w' : World} (h : Cnt B n w) (hb : w'.heap[B]? = w.heap[B]?) : Cnt B n w' :=
  ⟨(World.cell?_of_block (w := w) (a := ⟨B, 0, none⟩) hb).trans h.c, (World.frozen?_of_block (w := w) (a := ⟨B, 0, none⟩) hb).trans h.f⟩
/-- the count went on by x, or it was too much -/
def CntPost (B n x : Nat) (w : World) (e : Ending) (w' : World) : Prop := ∃ r, e = .returned (.bool r) ∧ w.grownBy w' (some B) ∧ (r = false → n + x ≤ 2147483647 ∧ Cnt B (n + x) w')
set_option maxHeartbeats 2000000 in
set_option maxRecDepth 100000 in
theorem many_any (B n x : Nat) (w : World) (h : Cnt B n w) (hn : n ≤ 2147483647) (hx : x ≤ maxLen) :
    Calls Tryz.prog 21 #[.pointer (some ⟨B, 0, none⟩), .int .i64 (x : Int)] w (CntPost B n x w) := by
  have c0 := h.c
  have f0 := h.f
  have hx' : x ≤ 9223372036854775807 := hx
  by_cases hb : 2147483647 < x
  · have y1 : (2147483647 : Int) < x := by omega
    go_enter Tryz.func21, Tryz.ntmps21
    go_wp2
    go_ret
    exact ⟨true, rfl, World.grownBy.refl _ _, fun h => by cases h⟩
  · have y1 : ¬ (2147483647 : Int) < x := by omega
    go_enter Tryz.func21, Tryz.ntmps21
    go_wp2
    go_ret
    refine ⟨_, rfl, grown_set (World.grownBy.refl _ _) 0 _, fun h => ?_⟩
    have h2 : n + x ≤ 2147483647 := by
      have := of_decide_eq_false h
      omega
    refine ⟨h2, ?_, ?_⟩
    · rw [World.cell?_setCell_same _ _ _ c0]; rfl
    · rw [World.frozen?_setCell]; exact f0
theorem row7 {w : World} {b o : Nat} {c c0 c1 c2 c3 c4 c5 : Value} (h : rowAt w b o [c, c0, c1, c2, c3, c4, c5]) :
    w.cell? ⟨b, o, none⟩ = some c ∧ w.cell? ⟨b, o + 1, none⟩ = some c0 ∧ w.cell? ⟨b, o + 2, none⟩ = some c1 ∧ w.cell? ⟨b, o + 3, none⟩ = some c2 ∧ w.cell? ⟨b, o + 4, none⟩ = some c3 ∧ w.cell? ⟨b, o + 5, none⟩ = some c4 ∧ w.cell? ⟨b, o + 6, none⟩ = some c5 :=
  ⟨h 0 _ rfl, h 1 _ rfl, h 2 _ rfl, h 3 _ rfl, h 4 _ rfl, h 5 _ rfl, h 6 _ rfl⟩
end Go.Proofs.YtolekldjbbjmjaaGreatDoor
