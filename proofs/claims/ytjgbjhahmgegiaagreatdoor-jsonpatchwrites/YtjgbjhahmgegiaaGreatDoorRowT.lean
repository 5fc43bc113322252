import Derived.Test.YtjgbjhahmgegiaaGreatDoorRowE
import Derived.Test.YtjgbjhahmgegiaaGreatDoorPwA
/- steps opened and given back. -/
set_option linter.unusedSimpArgs false
set_option linter.unusedVariables false
set_option maxRecDepth 100000
namespace Go.Proofs.YtjgbjhahmgegiaaGreatDoor
open Go.Shelf Go.Lib Go.ChangeShapes Go.RowKit
variable {H : Type} {enc : TypeId × Value → H}
theorem cells51 : Tryz.prog.cellsOf 51 = 9 := by kernel_rfl
theorem len9T {α : Type} {l : List α} (h : l.length = 9) : ∃ c0 c1 c2 c3 c4 c5 c6 c7 c8, l = [c0, c1, c2, c3, c4, c5, c6, c7, c8] := by
  match l, h with
  | [c0, c1, c2, c3, c4, c5, c6, c7, c8], _ => exact ⟨_, _, _, _, _, _, _, _, _, rfl⟩
/-- a step that was handed in -/
def StO (w : World) (x : Stp) (cs : List Value) : Prop := ∃ ds, cs = .string x.1 :: .string x.2.1 :: .string x.2.2.1 :: ds ∧ (x.1.size ≤ maxLen ∧ x.2.1.size ≤ maxLen ∧ x.2.2.1.size ≤ maxLen) ∧ x.2.2.2.lies false w (Old w) ds
theorem open_step {w : World} {spare : Nat → Bool} {held : Bool} {n : Nat} {cs : List Value} {x} (h : DataW.trod enc Tryz.prog w 0 spare held n 51 cs = some x) : ∃ y : Stp, StO w y cs := by
  cases n with
  | zero => simp [DataW.trod] at h
  | succ n =>
  obtain ⟨xs, n', hn, _, hl, hlen, hf⟩ := DataW.trod_struct Tryz.underlying51 h
  obtain rfl : n = n' := by omega
  rw [cells51] at hl
  obtain ⟨c0, c1, c2, c3, c4, c5, c6, c7, c8, rfl⟩ := len9T hl
  have h6 : xs.length = 4 := hlen
  have f0 := hf 0 _ rfl
  rw [List.getElem?_eq_getElem (by omega)] at f0
  have f1 := hf 1 _ rfl
  rw [List.getElem?_eq_getElem (by omega)] at f1
  have f2 := hf 2 _ rfl
  rw [List.getElem?_eq_getElem (by omega)] at f2
  have f3 := hf 3 _ rfl
  rw [List.getElem?_eq_getElem (by omega)] at f3
  simp [cells9, cells25] at f0 f1 f2 f3
  obtain ⟨s0, e0, _, z0⟩ := DataW.trod_string Tryz.underlying9 f0
  obtain ⟨s1, e1, _, z1⟩ := DataW.trod_string Tryz.underlying9 f1
  obtain ⟨s2, e2, _, z2⟩ := DataW.trod_string Tryz.underlying9 f2
  obtain ⟨v, hv⟩ := (open_all n).1 _ _ f3
  simp only [List.cons.injEq, and_true] at e0 e1 e2
  subst e0 e1 e2
  exact ⟨(s0, s1, s2, v), _, rfl, ⟨z0, z1, z2⟩, hv⟩
theorem open_steps {w : World} {spare : Nat → Bool} {held : Bool} {n : Nat} {cs : List Value} {x} (h : DataW.trod enc Tryz.prog w 0 spare held n 28 cs = some x) : ∃ (l : List Stp) (ao : Option Addr) (cap b o : Nat), cs = [.slice ao l.length cap] ∧ Headed ao l.length cap b o ∧ liesT w (Old w) l b o ∧ SzT l := by
  cases n with
  | zero => simp [DataW.trod] at h
  | succ n =>
  rcases DataW.trod_slice Tryz.underlying28 h with ⟨rfl, _⟩ | ⟨a, len, cap, elems, rest, n', hn, rfl, _, _, hlc, hcm, hlen, hel, _⟩
  · exact ⟨[], none, 0, 0, 0, rfl, ⟨Nat.le_refl _, by simp [maxLen], .inl rfl, fun _ => rfl⟩, fun j hj => by simp at hj, fun x hx => by cases hx⟩
  obtain rfl : n = n' := by omega
  rw [cells51] at hel
  obtain ⟨l, b, o, hll, hao, hq⟩ := elems_at (w := w) (a := a) (len := len) (k := 9) (Q := fun (e : Stp) cs => StO w e cs) (by omega) (fun i hi => by
    have he := hel i hi
    rw [List.getElem?_eq_getElem (by omega)] at he
    obtain ⟨cs, h1, h2⟩ := Option.bind_eq_some_iff.1 he
    obtain ⟨e, he⟩ := open_step h2
    exact ⟨cs, e, h1, he⟩)
  subst hll
  refine ⟨l, some a, cap, b, o, rfl, ⟨hlc, hcm, ?_, fun h => by cases h⟩, fun j hj => ?_, fun x hx => ?_⟩
  · rcases hao with h | rfl
    · exact .inl h
    · exact .inr rfl
  · obtain ⟨h1, cs, h2, ds, rfl, _, h4⟩ := hq j hj
    exact ⟨h1, ds, h2, h4⟩
  · obtain ⟨j, hj, rfl⟩ := List.getElem_of_mem hx
    obtain ⟨_, cs, _, ds, _, h3, _⟩ := hq j hj
    exact h3
theorem open28 {W : World} {spare : Nat → Bool} {held : Bool} {v : Value} {d : DataW H} {p : List MemPlace} (hsl : ∃ a n c, v = .slice a n c) (h : DataW.Trod enc Tryz.prog W 0 spare held 28 v d p) : ∃ (l : List Stp) (ao : Option Addr) (cap b o : Nat), v = .slice ao l.length cap ∧ Headed ao l.length cap b o ∧ liesT W (Old W) l b o ∧ SzT l := by
  obtain ⟨n, hn⟩ := h
  obtain ⟨l, ao, cap, b, o, e, h1, h2⟩ := open_steps hn
  obtain ⟨a0, n0, c0, rfl⟩ := hsl
  refine ⟨l, ao, cap, b, o, ?_, h1, h2⟩
  simpa [Value.cells] using e
theorem back28 {W W' : World} {v : Value} {d : DataW H} {p : List MemPlace} (h : DataW.Trod enc Tryz.prog W 0 (fun _ => true) true 28 v d p) (hlt : ∀ x ∈ p, x.block < W.heap.size) (hb : Below W.heap.size W W') :
    DataW.Trod enc Tryz.prog W' 0 (fun b => decide (b < W.heap.size)) true 28 v d p :=
  WideElems.Trod_stays (P := Tryz.prog) laidOut' (by kernel_rfl) (of_decide_eq_true (by kernel_rfl)) h (fun x hx => below_same hb (hlt x hx)) (fun x hx => by simpa using hlt x hx)
end Go.Proofs.YtjgbjhahmgegiaaGreatDoor
