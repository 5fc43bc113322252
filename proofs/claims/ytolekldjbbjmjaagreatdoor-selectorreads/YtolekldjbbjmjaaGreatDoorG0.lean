/- joined: Vals CntA -/
import Derived.ProofKit
import Derived.Below
import Derived.Deep.Slices
import Derived.Test.YtolekldjbbjmjaaGreatDoorProg
import Derived.ChangeArms
import Derived.KernelRfl
import Derived.WalkKit
import Derived.RowKit
import Derived.OwnWalk
/- Values as trees, and how they lie in memory. -/
set_option linter.unusedSimpArgs false
set_option linter.unusedVariables false
namespace Go.Proofs.YtolekldjbbjmjaaGreatDoor
open Go.ChangeShapes Go.WideShapes Go.Deep
inductive V where
  | mk (k : Int) (b : Bool) (i : Int) (s : ByteArray) (l : List V) (m : List (ByteArray × V))
abbrev Mem := ByteArray × V
def rowAt (w : World) (b o : Nat) (cs : List Value) : Prop := ∀ j u, cs[j]? = some u → w.cell? ⟨b, o + j, none⟩ = some u
def In64 (k : Int) : Prop := -9223372036854775808 ≤ k ∧ k ≤ 9223372036854775807
/-- a slice's head: of n elements, at b, o where there is one -/
structure Headed (ao : Option Addr) (n cap b o : Nat) : Prop where
  le : n ≤ cap
  max : cap ≤ maxLen
  at_ : n = 0 ∨ ao = some ⟨b, o, none⟩
  nil : ao = none → cap = 0
mutual
/-- the value lies in these six cells, and below in blocks of S (R: with a mark behind each list and map) -/
def V.lies (R : Bool) (w : World) (S : Nat → Prop) : V → List Value → Prop
  | .mk k b i s l m, cs => ∃ al cl bl ol am cm bm om, cs = [.int .i64 k, .bool b, .int .i64 i, .string s, .slice al l.length cl, .slice am m.length cm] ∧ In64 k ∧ In64 i ∧ s.size ≤ maxLen ∧
      Headed al l.length cl bl ol ∧ Headed am m.length cm bm om ∧ liesL R w S l bl ol ∧ liesM R w S m bm om ∧
      (R = true → al = some ⟨bl, ol, none⟩ ∧ l.length < cl ∧ S bl ∧ w.cell? ⟨bl, ol + l.length * 6, none⟩ = some (.int .i64 77) ∧
        am = some ⟨bm, om, none⟩ ∧ m.length < cm ∧ S bm ∧ w.cell? ⟨bm, om + m.length * 7, none⟩ = some (.string ⟨#[114, 111, 111, 109]⟩))
def liesL (R : Bool) (w : World) (S : Nat → Prop) : List V → Nat → Nat → Prop
  | [], _, _ => True
  | x :: t, b, o => S b ∧ (∃ cs, rowAt w b o cs ∧ x.lies R w S cs) ∧ liesL R w S t b (o + 6)
def liesM (R : Bool) (w : World) (S : Nat → Prop) : List Mem → Nat → Nat → Prop
  | [], _, _ => True
  | (k, x) :: t, b, o => S b ∧ (k.size ≤ maxLen ∧ ∃ cs, rowAt w b o (.string k :: cs) ∧ x.lies R w S cs) ∧ liesM R w S t b (o + 7)
end
theorem liesL_mk {R : Bool} {w : World} {S : Nat → Prop} : ∀ {l : List V} {b o : Nat}, (∀ (j : Nat) (h : j < l.length), S b ∧ ∃ cs, rowAt w b (o + j * 6) cs ∧ (l[j]).lies R w S cs) → liesL R w S l b o
  | [], b, o, _ => by rw [liesL]; trivial
  | x :: t, b, o, hl => by
    rw [liesL]
    have h0 := hl 0 (by simp)
    refine ⟨h0.1, by simpa using h0.2, liesL_mk fun j h => ?_⟩
    have := hl (j + 1) (by simpa using h)
    rw [show o + (j + 1) * 6 = o + 6 + j * 6 by omega] at this
    simpa using this
theorem liesM_mk {R : Bool} {w : World} {S : Nat → Prop} : ∀ {l : List Mem} {b o : Nat}, (∀ (j : Nat) (h : j < l.length), S b ∧ (l[j]).1.size ≤ maxLen ∧ ∃ cs, rowAt w b (o + j * 7) (.string (l[j]).1 :: cs) ∧ (l[j]).2.lies R w S cs) → liesM R w S l b o
  | [], b, o, _ => by rw [liesM]; trivial
  | (k, x) :: t, b, o, hl => by
    rw [liesM]
    have h0 := hl 0 (by simp)
    refine ⟨h0.1, by simpa using h0.2, liesM_mk fun j h => ?_⟩
    have := hl (j + 1) (by simpa using h)
    rw [show o + (j + 1) * 7 = o + 7 + j * 7 by omega] at this
    simpa using this
theorem rowAt.keep {w w' : World} {b o : Nat} {cs : List Value} (h : rowAt w b o cs) (hb : w'.heap[b]? = w.heap[b]?) : rowAt w' b o cs := fun j u hu =>
  (World.cell?_of_block (w := w) (a := ⟨b, o + j, none⟩) hb).trans (h j u hu)
mutual
theorem V.lies_keep {R R' : Bool} {w w' : World} {S S' : Nat → Prop} (hR : R' = true → R = true) (hw : ∀ b, S b → w'.heap[b]? = w.heap[b]?) (hS : ∀ b, S b → S' b) : ∀ (v : V) {cs : List Value}, v.lies R w S cs → v.lies R' w' S' cs
  | .mk k b i s l m, cs, h => by
    rw [V.lies] at h ⊢
    obtain ⟨al, cl, bl, ol, am, cm, bm, om, e, h1, h2, h0, h3, h4, h5, h6, h7⟩ := h
    refine ⟨al, cl, bl, ol, am, cm, bm, om, e, h1, h2, h0, h3, h4, liesL_keep hR hw hS l h5, liesM_keep hR hw hS m h6, fun r => ?_⟩
    obtain ⟨a1, a2, a3, a4, a5, a6, a7, a8⟩ := h7 (hR r)
    exact ⟨a1, a2, hS _ a3, (World.cell?_of_block (w := w) (hw _ a3)).trans a4, a5, a6, hS _ a7, (World.cell?_of_block (w := w) (hw _ a7)).trans a8⟩
theorem liesL_keep {R R' : Bool} {w w' : World} {S S' : Nat → Prop} (hR : R' = true → R = true) (hw : ∀ b, S b → w'.heap[b]? = w.heap[b]?) (hS : ∀ b, S b → S' b) : ∀ (l : List V) {b o : Nat}, liesL R w S l b o → liesL R' w' S' l b o
  | [], b, o, h => by rw [liesL]; trivial
  | x :: t, b, o, h => by
    rw [liesL] at h ⊢
    obtain ⟨h1, ⟨cs, h2, h3⟩, h4⟩ := h
    exact ⟨hS _ h1, ⟨cs, h2.keep (hw _ h1), V.lies_keep hR hw hS x h3⟩, liesL_keep hR hw hS t h4⟩
theorem liesM_keep {R R' : Bool} {w w' : World} {S S' : Nat → Prop} (hR : R' = true → R = true) (hw : ∀ b, S b → w'.heap[b]? = w.heap[b]?) (hS : ∀ b, S b → S' b) : ∀ (l : List Mem) {b o : Nat}, liesM R w S l b o → liesM R' w' S' l b o
  | [], b, o, h => by rw [liesM]; trivial
  | (k, x) :: t, b, o, h => by
    rw [liesM] at h ⊢
    obtain ⟨h1, ⟨h0, cs, h2, h3⟩, h4⟩ := h
    exact ⟨hS _ h1, ⟨h0, cs, h2.keep (hw _ h1), V.lies_keep hR hw hS x h3⟩, liesM_keep hR hw hS t h4⟩
end
end Go.Proofs.YtolekldjbbjmjaaGreatDoor
/- freeholdref00: counting a value. -/
namespace Go.Proofs.YtolekldjbbjmjaaGreatDoor
open Go.RowKit
theorem grown_trans {a b c : World} {row : Option Nat} (h : a.grownBy b row) (k : b.grownBy c row) : a.grownBy c row :=
  ⟨k.os.trans h.os, k.tape.trans h.tape, k.output.trans h.output, Nat.le_trans h.size k.size, fun i hi hr => (k.block i (Nat.lt_of_lt_of_le hi h.size) hr).trans (h.block i hi hr)⟩
theorem grown_set {a b : World} {B : Nat} (h : a.grownBy b (some B)) (i : Nat) (u : Value) : a.grownBy (b.setCell ⟨B, i, none⟩ u) (some B) :=
  ⟨h.os, h.tape, h.output, by simpa [World.setCell] using (by have := h.size; exact this : a.heap.size ≤ b.heap.size), fun k hk hr => (Below.heap_setCell b ⟨B, i, none⟩ u k (fun e => hr (by rw [e]))).trans (h.block k hk hr)⟩
structure Cnt (B n : Nat) (w : World) : Prop where
  c : w.cell? ⟨B, 0, none⟩ = some (.int .i64 (n : Int))
  f : w.frozen? ⟨B, 0, none⟩ = false
theorem Cnt.lt {B n : Nat} {w : World} (h : Cnt B n w) : B < w.heap.size := World.block_lt_of_cell? w _ h.c
theorem Cnt.keep {B n : Nat} {w w' : World} (h : Cnt B n w) (hb : w'.heap[B]? = w.heap[B]?) : Cnt B n w' :=
  ⟨(World.cell?_of_block (w := w) (a := ⟨B, 0, none⟩) hb).trans h.c, (World.frozen?_of_block (w := w) (a := ⟨B, 0, none⟩) hb).trans h.f⟩
end Go.Proofs.YtolekldjbbjmjaaGreatDoor
