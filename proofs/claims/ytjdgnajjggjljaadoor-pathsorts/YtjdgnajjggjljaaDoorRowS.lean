import Derived.Test.YtjdgnajjggjljaaDoorPlsR
/- What the row of PathSorts needs: a list of paths opened and given back. -/
set_option linter.unusedSimpArgs false
set_option linter.unusedVariables false
namespace Go.Proofs.YtjdgnajjggjljaaDoor
open Go.Shelf Go.Lib Go.ChangeShapes Go.RowKit
variable {H : Type} {enc : TypeId × Value → H}
theorem cellsP23 : Tryd.prog.cellsOf 23 = 1 := by kernel_rfl
theorem open_paths {w : World} {spare : Nat → Bool} {held : Bool} {n : Nat} {cs : List Value} {x} (h : DataW.trod enc Tryd.prog w 0 spare held n 28 cs = some x) : ∃ (l : List (List El)) (ao : Option Addr) (cap b o : Nat), cs = [.slice ao l.length cap] ∧ Headed ao l.length cap b o ∧ liesQ w (Old w) l b o := by
  cases n with
  | zero => simp [DataW.trod] at h
  | succ n =>
  rcases DataW.trod_slice Tryd.underlying28 h with ⟨rfl, _⟩ | ⟨a, len, cap, elems, rest, n', hn, rfl, _, _, hlc, hcm, hlen, hel, _⟩
  · exact ⟨[], none, 0, 0, 0, rfl, ⟨Nat.le_refl _, by simp [maxLen], .inl rfl, fun _ => rfl⟩, fun j hj => by simp at hj⟩
  obtain rfl : n = n' := by omega
  rw [cellsP23] at hel
  obtain ⟨l, b, o, hll, hao, hq⟩ := elems_at (w := w) (a := a) (len := len) (k := 1) (Q := fun (p : List El) cs => ∃ v, cs = [v] ∧ Pl.lies w (Old w) p v) (by omega) (fun i hi => by
    have he := hel i hi
    rw [List.getElem?_eq_getElem (by omega)] at he
    obtain ⟨cs, h1, h2⟩ := Option.bind_eq_some_iff.1 he
    obtain ⟨p, ap, cp, bp, op, rfl, h3, h4⟩ := open_path h2
    exact ⟨_, p, h1, _, rfl, ap, cp, bp, op, rfl, h3, h4⟩)
  subst hll
  refine ⟨l, some a, cap, b, o, rfl, ⟨hlc, hcm, ?_, fun h => by cases h⟩, fun j hj => ?_⟩
  · rcases hao with h | rfl
    · exact .inl h
    · exact .inr rfl
  · obtain ⟨h1, cs, h2, v, rfl, h3⟩ := hq j hj
    refine ⟨h1, v, ?_, h3⟩
    have := h2 0 _ rfl
    simpa using this
theorem open28 {W : World} {spare : Nat → Bool} {held : Bool} {v : Value} {d : DataW H} {p : List MemPlace} (hsl : ∃ a n c, v = .slice a n c) (h : DataW.Trod enc Tryd.prog W 0 spare held 28 v d p) : ∃ (l : List (List El)) (ao : Option Addr) (cap b o : Nat), v = .slice ao l.length cap ∧ Headed ao l.length cap b o ∧ liesQ W (Old W) l b o := by
  obtain ⟨n, hn⟩ := h
  obtain ⟨l, ao, cap, b, o, e, h1, h2⟩ := open_paths hn
  obtain ⟨a0, n0, c0, rfl⟩ := hsl
  refine ⟨l, ao, cap, b, o, ?_, h1, h2⟩
  simpa [Value.cells] using e
theorem back28 {W W' : World} {v : Value} {d : DataW H} {p : List MemPlace} (h : DataW.Trod enc Tryd.prog W 0 (fun _ => true) true 28 v d p) (hlt : ∀ x ∈ p, x.block < W.heap.size) (hb : Below W.heap.size W W') :
    DataW.Trod enc Tryd.prog W' 0 (fun b => decide (b < W.heap.size)) true 28 v d p :=
  WideElems.Trod_stays (P := Tryd.prog) laidOut' (by kernel_rfl) (of_decide_eq_true (by kernel_rfl)) h (fun x hx => below_same hb (hlt x hx)) (fun x hx => by simpa using hlt x hx)
end Go.Proofs.YtjdgnajjggjljaaDoor
