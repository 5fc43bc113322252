/- joined: SrtR CfnR AnsR -/
import Derived.Shelf.SlSortCmp.Whole1
import Derived.Shelf.SlicesE.Clone
import Derived.Test.YtfbmmilphcnolaaDoorG24
import Derived.Lib.SliceRun
/- slices.Clone and slices.SortFunc over paths, by the library's contracts, laid at this program. -/
set_option linter.unusedSimpArgs false
set_option linter.unusedVariables false
namespace Go.Proofs
open Go.Shelf Go.RowKit
namespace YtfbmmilphcnolaaDoor
open Go.Lib Go.Sort
/-- a path, with the place where it lies -/
structure PC (w : World) (S : Nat → Prop) where
  p : List El
  ao : Option Addr
  cap : Nat
  b : Nat
  o : Nat
  hh : Headed ao p.length cap b o
  hl : liesP w S p b o
instance pcThere (w : World) (S : Nat → Prop) : Inhabited (PC w S) := ⟨⟨[], none, 0, 0, 0, ⟨Nat.le_refl _, by simp [maxLen], .inl rfl, fun _ => rfl⟩, fun j h => by simp at h⟩⟩
def PC.enc {w : World} {S : Nat → Prop} (x : PC w S) : Value := .slice x.ao x.p.length x.cap
def PC.cmp {w : World} {S : Nat → Prop} (x y : PC w S) : Int := lexL oeE x.p y.p
theorem PC.lies {w w' : World} {S S' : Nat → Prop} (x : PC w S) (hw : ∀ b, S b → w'.heap[b]? = w.heap[b]?) (hS : ∀ b, S b → S' b) : Pl.lies w' S' x.p x.enc := ⟨x.ao, x.cap, x.b, x.o, rfl, x.hh, liesP_keep hw hS x.hl⟩
theorem pc_of {w : World} {S : Nat → Prop} {l : List (List El)} {b o : Nat} (h : liesQ w S l b o) : ∃ d : List (PC w S), d.map PC.p = l ∧ ∀ (j : Nat) (hj : j < d.length), w.cell? ⟨b, o + j, none⟩ = some (d[j]).enc := by
  have h1 : ∀ j : Fin l.length, ∃ x : PC w S, x.p = l[j] ∧ w.cell? ⟨b, o + j, none⟩ = some x.enc := fun j => by
    obtain ⟨_, v, hv, ap, cp, bp, op, rfl, hh, hl⟩ := h j j.2
    exact ⟨⟨l[j], ap, cp, bp, op, hh, hl⟩, rfl, hv⟩
  obtain ⟨f, hf⟩ := Classical.axiomOfChoice h1
  refine ⟨List.ofFn f, ?_, fun j hj => ?_⟩
  · apply List.ext_getElem
    · simp
    · intro i h1 h2
      rw [List.getElem_map, List.getElem_ofFn]
      exact (hf _).1
  · rw [List.getElem_ofFn]
    exact (hf ⟨j, by simpa using hj⟩).2
end YtfbmmilphcnolaaDoor
end Go.Proofs
/- slices.CompactFunc over paths. -/
namespace Go.Proofs.YtfbmmilphcnolaaDoor
open Go.RowKit Go.Lib Go.Sort
section
variable {α : Type} [Inhabited α] (r : α → α → Bool) (d : Array α)
/-- is it kept: the first, and each that is unlike the one ahead of it -/
def kp (j : Nat) : Bool := decide (j = 0) || !r d[j]! d[j - 1]!
/-- what is kept of the first j -/
def kpt : Nat → List α
  | 0 => []
  | j + 1 => if kp r d j = true then kpt j ++ [d[j]!] else kpt j
theorem kpt_yes {j : Nat} (h : kp r d j = true) : kpt r d (j + 1) = kpt r d j ++ [d[j]!] := by rw [kpt, if_pos h]
theorem kpt_no {j : Nat} (h : kp r d j = false) : kpt r d (j + 1) = kpt r d j := by rw [kpt, if_neg (by rw [h]; simp)]
structure CI (K kk : Nat) (dk : Array α) : Prop where
  size : dk.size = d.size
  len : kk = (kpt r d K).length
  lt : kk < K
  low : ∀ j, j < kk → dk[j]? = (kpt r d K)[j]?
  high : ∀ j, K - 1 ≤ j → dk[j]? = d[j]?
variable {r d}
theorem CI.skip {K kk : Nat} {dk : Array α} (h : CI r d K kk dk) (h2 : kp r d K = false) : CI r d (K + 1) kk dk := by
  have e := kpt_no r d h2
  exact ⟨h.size, by rw [e]; exact h.len, by have := h.lt; omega, fun j hj => by rw [e]; exact h.low j hj, fun j hj => h.high j (by omega)⟩
theorem CI.keep {K kk : Nat} {dk : Array α} (h : CI r d K kk dk) (hK : K < d.size) (h2 : kp r d K = true) : CI r d (K + 1) (kk + 1) (dk.setIfInBounds kk d[K]!) := by
  have e := kpt_yes r d h2
  have hl := h.len
  have hlt := h.lt
  have hs := h.size
  refine ⟨by simp [h.size], by rw [e]; simp; omega, by omega, fun j hj => ?_, fun j hj => ?_⟩
  · rw [e, Array.getElem?_setIfInBounds]
    by_cases hj' : j = kk
    · subst hj'
      rw [if_pos rfl, if_pos (by omega), List.getElem?_append_right (by omega), show j - (kpt r d K).length = 0 by omega]
      rfl
    · rw [if_neg (fun e => hj' e.symm), List.getElem?_append_left (by omega)]
      exact h.low j (by omega)
  · rw [Array.getElem?_setIfInBounds, if_neg (by omega)]
    exact h.high j (by omega)
end
/-- what lies in the row -/
def Hold {w0 : World} {S : Nat → Prop} (w : World) (g : Nat) (d : Array (PC w0 S)) : Prop := ∀ j, (hj : j < d.size) → w.cell? ⟨g, j, none⟩ = some d[j].enc ∧ w.frozen? ⟨g, j, none⟩ = false
theorem Hold.below {w0 : World} {S : Nat → Prop} {w w' : World} {g : Nat} {d : Array (PC w0 S)} (h : Hold w g d) (hg : g < w.heap.size) (hb : Below w.heap.size w w') : Hold w' g d := fun j hj => by
  have e := hb.block g hg
  exact ⟨(World.cell?_of_block (w := w) (a := ⟨g, j, none⟩) e).trans (h j hj).1, (by simp only [World.frozen?]; rw [e]; exact (h j hj).2)⟩
theorem cell_set_other {w : World} {g k j : Nat} {v : Value} (e : k ≠ j) : (w.setCell ⟨g, k, none⟩ v).cell? ⟨g, j, none⟩ = w.cell? ⟨g, j, none⟩ := by
  cases h : w.heap[g]? with
  | none =>
    have hs : w.heap.size ≤ g := Array.getElem?_eq_none_iff.1 h
    have h2 : (w.setCell ⟨g, k, none⟩ v).heap[g]? = none := Array.getElem?_eq_none (by rw [size_set1]; exact hs)
    simp only [World.cell?, h, h2]
  | some o =>
    cases o with
    | cells c t f => rw [cell_of_block (set_block h k v), cell_of_block h, Array.getElem?_setIfInBounds, if_neg e]
    | _ => simp [World.cell?, World.setCell, Array.getElem?_modify, h]
theorem Hold.set {w0 : World} {S : Nat → Prop} {w : World} {g : Nat} {d : Array (PC w0 S)} (h : Hold w g d) (k : Nat) (x : PC w0 S) (hk : k < d.size) : Hold (w.setCell ⟨g, k, none⟩ x.enc) g (d.setIfInBounds k x) := fun j hj => by
  have hj' : j < d.size := by simpa using hj
  refine ⟨?_, by rw [World.frozen?_setCell]; exact (h j hj').2⟩
  by_cases e : k = j
  · subst e
    rw [World.cell?_setCell_same' _ _ _ (by rw [(h k hj').1]; rfl)]
    simp
  · rw [cell_set_other e, (h j hj').1]
    have h1 : (d.setIfInBounds k x)[j]? = d[j]? := by rw [Array.getElem?_setIfInBounds, if_neg e]
    rw [Array.getElem?_eq_getElem hj, Array.getElem?_eq_getElem hj'] at h1
    rw [Option.some.inj h1]
end Go.Proofs.YtfbmmilphcnolaaDoor
/- anewScalar: a scalar without its lists. -/
namespace Go.Proofs.YtfbmmilphcnolaaDoor
open Go.RowKit Go.Lib
def AsPost (k : Int) (b : Bool) (i : Int) (s : ByteArray) (w : World) (e : Ending) (w' : World) : Prop := e = .returned (.agg #[.int .i64 k, .bool b, .int .i64 i, .string s, .slice none 0 0, .slice none 0 0]) ∧ Below w.heap.size w w'
set_option maxHeartbeats 1600000 in
set_option maxRecDepth 100000 in
theorem anscal_any (k : Int) (b : Bool) (i : Int) (s : ByteArray) (al : Option Addr) (nl cl : Nat) (am : Option Addr) (nm cm : Nat) (w : World) :
    Calls Tryd.prog 74 #[.agg #[.int .i64 k, .bool b, .int .i64 i, .string s, .slice al nl cl, .slice am nm cm]] w (AsPost k b i s w) := by
  have B0 : Below w.heap.size w ((w.alloc (.cells #[.int .i64 k, .bool b, .int .i64 i, .string s, .slice al nl cl, .slice am nm cm] 45)).alloc (.cells #[.int .i64 0, .bool false, .int .i64 0, .string ⟨#[]⟩, .slice none 0 0, .slice none 0 0] 45)) := ((Below.refl w.heap.size w).alloc (Nat.le_refl _) _).alloc (by rw [alloc_size]; omega) _
  have HB := hmk B0
  clear B0
  go_enter Tryd.func74, Tryd.ntmps74
  go_wp2_with fail
  (try simp only [Exit.inBlock, Exit.then])
  refine bodyPost_ret (v := .agg #[.int .i64 k, .bool b, .int .i64 i, .string s, .slice none 0 0, .slice none 0 0]) ?_ rfl ?_
  · rw [results_cell1 rfl]
    go_simp
  · refine ⟨rfl, ?_⟩
    first
      | exact HB.out
      | exact ((Below.refl w.heap.size w).alloc (Nat.le_refl _) _).alloc (by rw [alloc_size]; omega) _
      | (repeat (refine Below.setCell ?_ (by simp) _)
         exact HB.out)
end Go.Proofs.YtfbmmilphcnolaaDoor
