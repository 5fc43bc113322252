import Derived.Test.YtaecmgkckefgoaaDoorRowA
import Derived.Test.YtaecmgkckefgoaaDoorIsaA
/- What the row of SchemaTypes needs: the table of kinds; a type opened and given back; a world for the witness. -/
set_option linter.unusedSimpArgs false
set_option linter.unusedVariables false
namespace Go.Proofs.YtaecmgkckefgoaaDoor
open Go.Shelf Go.Lib Go.ChangeShapes Go.RowKit
theorem cellsY40 : Tryd.prog.cellsOf 40 = 3 := by kernel_rfl
theorem glob_kinds : Tryd.prog.globalNamed "freehold/schema.kinds" = some 0 := by kernel_rfl
theorem type_kinds : (Tryd.prog.globals[0]?).map (·.type) = some 41 := by kernel_rfl
theorem len3 {α : Type} {l : List α} (h : l.length = 3) : ∃ a b c, l = [a, b, c] := by
  match l, h with
  | [a, b, c], _ => exact ⟨_, _, _, rfl⟩
theorem kind_at {W : World} (h : VarReads Tryd.prog W "freehold/schema.kinds" Rows.laid_freehold_schema_kinds) (i : Nat) (hi : i < 8) :
    ∃ (d : DataW Unit) (m : Int), (match (Rows.laid_freehold_schema_kinds : DataW Unit) with | .agg l => l[i]? | _ => none) = some d ∧ (match d with | .agg [_, _, y] => some y | _ => none) = some (.lit (.int .i64 m)) ∧ W.cell? ⟨0, i * 3 + 2, none⟩ = some (.int .i64 m) := by
  obtain ⟨g, t, cs, fuel, p, hg, hty, hvar, hd⟩ := h
  obtain rfl := Option.some.inj (glob_kinds.symm.trans hg)
  obtain rfl := Option.some.inj (type_kinds.symm.trans hty)
  unfold Rows.laid_freehold_schema_kinds at hd ⊢
  obtain ⟨fuel', d, q, hdi, he⟩ := array_elem Tryd.underlying41 hd i hi
  rw [cellsY40] at he
  obtain ⟨xs, n', hn, hx, hl, hlen, hf⟩ := DataW.trod_struct Tryd.underlying40 he
  have h3 : xs.length = 3 := hlen
  obtain ⟨x0, x1, x2, rfl⟩ := len3 h3
  have f2 := hf 2 _ rfl
  obtain ⟨m, e2, ex, _⟩ := DataW.trod_int Tryd.underlying3 f2
  have ex : x2 = (DataW.lit (.int .i64 m), []) := by simpa using ex
  have hx1 : d = .agg [x0.1, x1.1, x2.1] := by have := congrArg Prod.fst hx; simpa using this
  have hx2 : x2.1 = .lit (.int .i64 m) := congrArg Prod.fst ex
  refine ⟨d, m, hdi, ?_, ?_⟩
  · rw [hx1, hx2]
  · rw [World.var?_cell hg hvar (i * 3 + 2)]
    have e3 := congrArg (·[0]?) e2
    simp [cells3, List.getElem?_take, List.getElem?_drop] at e3
    exact e3
theorem kd_of {W : World} (h : VarReads Tryd.prog W "freehold/schema.kinds" Rows.laid_freehold_schema_kinds) : Kd W := by
  refine ⟨?_, ?_, ?_⟩
  · obtain ⟨d, m, h1, h2, h3⟩ := kind_at h 1 (by omega)
    simp [Rows.laid_freehold_schema_kinds] at h1
    subst h1
    simp at h2
    subst h2
    exact h3
  · obtain ⟨d, m, h1, h2, h3⟩ := kind_at h 2 (by omega)
    simp [Rows.laid_freehold_schema_kinds] at h1
    subst h1
    simp at h2
    subst h2
    exact h3
  · obtain ⟨d, m, h1, h2, h3⟩ := kind_at h 3 (by omega)
    simp [Rows.laid_freehold_schema_kinds] at h1
    subst h1
    simp at h2
    subst h2
    exact h3
variable {H : Type} {enc : TypeId × Value → H}
theorem open26 {W : World} {spare : Nat → Bool} {held : Bool} {v : Value} {d : DataW H} {p : List MemPlace} (h : DataW.Trod enc Tryd.prog W 0 spare held 26 v d p) : ∃ (x : Ty) (cs : List Value), v = .agg cs.toArray ∧ x.lies W (Old W) cs := by
  obtain ⟨n, hn⟩ := h
  obtain ⟨x, hx⟩ := open_type hn
  have hx' := hx
  obtain ⟨nm, k, a, af, nf, cf, el, rl, ak, nk, ck, ae, ne, ce, e⟩ := Ty.eight hx'
  cases v with
  | agg a => exact ⟨x, a.toList, by simp, hx⟩
  | _ => simp [Value.cells] at e
theorem back26 {W W' : World} {v : Value} {d : DataW H} {p : List MemPlace} (h : DataW.Trod enc Tryd.prog W 0 (fun _ => true) true 26 v d p) (hlt : ∀ x ∈ p, x.block < W.heap.size) (hb : Below W.heap.size W W') :
    DataW.Trod enc Tryd.prog W' 0 (fun b => decide (b < W.heap.size)) true 26 v d p :=
  WideElems.Trod_stays (P := Tryd.prog) laidOut' (by kernel_rfl) (of_decide_eq_true (by kernel_rfl)) h (fun x hx => below_same hb (hlt x hx)) (fun x hx => by simpa using hlt x hx)
/-- A world for the witness: the settled one, the variables holding what their initialisers lay. -/
def laidWorldK (P : Program) (os : Os) : World :=
  { laidWorldOf P os with heap := (laidWorldOf P os).heap.modify 0 (putCells #[.int .i64 0, .string ⟨#[]⟩, .int .i64 0, .int .i64 32, .string ⟨#[98, 111, 111, 108]⟩, .int .i64 1, .int .i64 32, .string ⟨#[105, 110, 116]⟩, .int .i64 2, .int .i64 32, .string ⟨#[115, 116, 114, 105, 110, 103]⟩, .int .i64 3, .int .i64 3, .string ⟨#[]⟩, .int .i64 0, .int .i64 5, .string ⟨#[]⟩, .int .i64 0, .int .i64 28, .string ⟨#[]⟩, .int .i64 0, .int .i64 4, .string ⟨#[]⟩, .int .i64 0]) }
end Go.Proofs.YtaecmgkckefgoaaDoor
