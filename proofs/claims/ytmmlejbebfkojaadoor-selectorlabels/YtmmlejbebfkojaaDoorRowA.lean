import Derived.Test.YtmmlejbebfkojaaDoorRows
import Derived.Test.YtmmlejbebfkojaaDoorChkB
import Derived.Lib.LaidIn
import Derived.Lib.LaidU8T
import Derived.WideKeyArgs
import Derived.OpenShut
import Derived.Deep.DeepHandedRow
/- What the rows need: the tables, the arguments opened and given back, a world for the witness. -/
namespace Go.Proofs.YtmmlejbebfkojaaDoor
open Go.Shelf Go.Lib Go.ChangeShapes Go.RowKit
theorem accept_eq : Rows.laid_unicode_utf8_acceptRanges = Lib.acceptData := by kernel_rfl
theorem first_eq : Rows.laid_unicode_utf8_first = Lib.firstData := by kernel_rfl
theorem utabs_of {W : World} (h3 : VarReads Tryd.prog W "unicode/utf8.first" Rows.laid_unicode_utf8_first) (h4 : VarReads Tryd.prog W "unicode/utf8.acceptRanges" Rows.laid_unicode_utf8_acceptRanges) : Utf8Tabs 0 1 W := by
  rw [first_eq] at h3
  rw [accept_eq] at h4
  exact utf8Tabs_of_readsT (U8Types.of196 Tryd.lays196) ⟨by kernel_rfl, by kernel_rfl, by kernel_rfl, by kernel_rfl, by kernel_rfl, by kernel_rfl, by kernel_rfl⟩ h3 h4
theorem laidOut' : laidOutB Tryd.prog = true := by kernel_rfl
theorem own : ownKnob Tryd.prog.godebug = none := by kernel_rfl
def putCells (cs : Array Value) : Obj → Obj
  | .cells _ t frozen => .cells cs t frozen
  | o => o
/-- A world for the witness: the settled one, the variables holding what their initialisers lay. -/
def laidWorldOf (P : Program) (os : Os) : World :=
  { World.holding P os ⟨#[], #[], []⟩ with heap := (((World.holding P os ⟨#[], #[], []⟩).heap.modify 0 (putCells (Lib.firstTab.map fun z => Value.int .u8 z).toArray)).modify 1
      (putCells ((List.range 16).flatMap fun i => [Value.int .u8 (Lib.accLo i), Value.int .u8 (Lib.accHi i)]).toArray)) }
theorem below_same {B : Nat} {w w' : World} (h : Below B w w') : ∀ {p : MemPlace}, p.block < B → w.sameAt w' p
  | .cell b off, hp => by
    show w'.cell? ⟨b, off, none⟩ = w.cell? ⟨b, off, none⟩
    exact h.cell (p := ⟨b, off, none⟩) hp
  | .map b, hp => h.block b hp
variable {H : Type} {enc : TypeId × Value → H}
theorem open25 {W : World} {spare : Nat → Bool} {held : Bool} {v : Value} {d : DataW H} {p : List MemPlace} (h : DataW.Trod enc Tryd.prog W 0 spare held 25 v d p) : ∃ (x : V) (cs : List Value), v = .agg cs.toArray ∧ x.lies false W (Old W) cs := by
  obtain ⟨n, hn⟩ := h
  obtain ⟨x, hx⟩ := (open_all n).1 _ _ hn
  have hx' := hx
  obtain ⟨k, b, i, s, al, nl, cl, am, nm, cm, e⟩ := V.ten hx'
  cases v with
  | agg a => exact ⟨x, a.toList, by simp, hx⟩
  | _ => simp [Value.cells] at e
theorem back25 {W W' : World} {v : Value} {d : DataW H} {p : List MemPlace} (h : DataW.Trod enc Tryd.prog W 0 (fun _ => true) true 25 v d p) (hlt : ∀ x ∈ p, x.block < W.heap.size) (hb : Below W.heap.size W W') :
    DataW.Trod enc Tryd.prog W' 0 (fun b => decide (b < W.heap.size)) true 25 v d p :=
  WideElems.Trod_stays (P := Tryd.prog) laidOut' (by kernel_rfl) (of_decide_eq_true (by kernel_rfl)) h (fun x hx => below_same hb (hlt x hx)) (fun x hx => by simpa using hlt x hx)
theorem block_lt {W : World} {b o : Nat} {v : Value} (h : W.cell? ⟨b, o, none⟩ = some v) : b < W.heap.size := World.block_lt_of_cell? W ⟨b, o, none⟩ h
theorem utab_lt {W : World} (h : Utf8Tabs 0 1 W) : 1 < W.heap.size := block_lt (h.2 0 (by omega)).1
end Go.Proofs.YtmmlejbebfkojaaDoor
