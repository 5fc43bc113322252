/- joined: RowA RowX -/
import Derived.Test.YtjfldbmopjojdaaDoorRows
import Derived.Lib.LaidIn
import Derived.Lib.LaidU8T
import Derived.WideKeyArgs
import Derived.OpenShut
import Derived.Deep.DeepHandedRow
import Derived.Test.YtjfldbmopjojdaaDoorG40
import Derived.LaidLaws
import Derived.LaidSub
namespace Go.Proofs.YtjfldbmopjojdaaDoor
open Go.Shelf Go.Lib Go.ChangeShapes Go.RowKit
theorem accept_eq : Rows.laid_unicode_utf8_acceptRanges = Lib.acceptData := by kernel_rfl
theorem first_eq : Rows.laid_unicode_utf8_first = Lib.firstData := by kernel_rfl
theorem utabs_of {W : World} (h3 : VarReads Tryd.prog W "unicode/utf8.first" Rows.laid_unicode_utf8_first) (h4 : VarReads Tryd.prog W "unicode/utf8.acceptRanges" Rows.laid_unicode_utf8_acceptRanges) : Utf8Tabs 1 2 W := by
 rw [first_eq] at h3
 rw [accept_eq] at h4
 exact utf8Tabs_of_readsT (U8Types.of196 Tryd.lays196) ⟨by kernel_rfl, by kernel_rfl, by kernel_rfl, by kernel_rfl, by kernel_rfl, by kernel_rfl, by kernel_rfl⟩ h3 h4
theorem laidOut' : laidOutB Tryd.prog = true := by kernel_rfl
theorem own : ownKnob Tryd.prog.godebug = none := by kernel_rfl
def putCells (cs : Array Value) : Obj → Obj
 | .cells _ t frozen => .cells cs t frozen
 | o => o
theorem below_same {B : Nat} {w w' : World} (h : Below B w w') : ∀ {p : MemPlace}, p.block < B → w.sameAt w' p
 | .cell b off, hp => by
  show w'.cell? ⟨b, off, none⟩ = w.cell? ⟨b, off, none⟩
  exact h.cell (p := ⟨b, off, none⟩) hp
 | .map b, hp => h.block b hp
variable {H : Type} {enc : TypeId × Value → H}
theorem open25 {W : World} {spare : Nat → Bool} {held : Bool} {v : Value} {d : DataW H} {p : List MemPlace} (h : DataW.Trod enc Tryd.prog W 0 spare held 25 v d p) : ∃ (x : V) (cs : List Value), v = .agg cs.toArray ∧ x.lies false W (Old W) cs := by
 obtain ⟨n, hn⟩ := h
 obtain ⟨x, hx⟩ := (open_all n).1 _ _ hn
 have hx' := hx
 obtain ⟨k, b, i, s, al, nl, cl, am, nm, cm, e⟩ := V.ten hx'
 cases v with
 | agg a => exact ⟨x, a.toList, by simp, hx⟩
 | _ => simp [Value.cells] at e
theorem back25 {W W' : World} {v : Value} {d : DataW H} {p : List MemPlace} (h : DataW.Trod enc Tryd.prog W 0 (fun _ => true) true 25 v d p) (hlt : ∀ x ∈ p, x.block < W.heap.size) (hb : Below W.heap.size W W') :
 DataW.Trod enc Tryd.prog W' 0 (fun b => decide (b < W.heap.size)) true 25 v d p :=
 WideElems.Trod_stays (P := Tryd.prog) laidOut' (by kernel_rfl) (of_decide_eq_true (by kernel_rfl)) h (fun x hx => below_same hb (hlt x hx)) (fun x hx => by simpa using hlt x hx)
theorem block_lt {W : World} {b o : Nat} {v : Value} (h : W.cell? ⟨b, o, none⟩ = some v) : b < W.heap.size := World.block_lt_of_cell? W ⟨b, o, none⟩ h
theorem utab_lt {W : World} (h : Utf8Tabs 1 2 W) : 2 < W.heap.size := block_lt (h.2 0 (by omega)).1
end Go.Proofs.YtjfldbmopjojdaaDoor
set_option maxRecDepth 100000
namespace Go.Proofs.YtjfldbmopjojdaaDoor
open Go.Shelf Go.Lib Go.ChangeShapes Go.RowKit
theorem star_err : ("*errors.errorString" : String) = "*" ++ "errors.errorString" := by decide
theorem row105 (u : TypeId) (h : Tryd.prog.typeName? 3 u = some "*errors.errorString") : u = 105 :=
 typeName_ptr_named (nm := "errors.errorString") (by rw [← star_err]; kernel_rfl) (by kernel_rfl) (by decide) u (by rw [← star_err]; exact h)
theorem cells123 : Tryd.prog.cellsOf 123 = 1 := by kernel_rfl
theorem errAt_of {W : World} (h0 : laidMet Tryd.prog [("unicode/utf8.acceptRanges", Rows.laid_unicode_utf8_acceptRanges), ("freehold/mergepatch.errNoPatch", Rows.laid_freehold_mergepatch_errNoPatch), ("unicode/utf8.first", Rows.laid_unicode_utf8_first)] W) : ∃ low, ErrAt low W := by
 have h : laidMet Tryd.prog [("freehold/mergepatch.errNoPatch", Rows.laid_freehold_mergepatch_errNoPatch)] W := laidMet.filter (fun x => x.1 == "freehold/mergepatch.errNoPatch") h0
 obtain ⟨ps, ⟨g1, t1, cs1, f1, p1, q1, hg1, ht1, hv1, hd1, hq1, e1⟩, hnd, hrows⟩ := h
 obtain rfl : g1 = 0 := Option.some.inj (hg1.symm.trans (by kernel_rfl))
 obtain rfl : t1 = 63 := Option.some.inj (ht1.symm.trans (by kernel_rfl))
 have hq1' : q1 = [] := hq1
 subst hq1'
 subst e1
 obtain ⟨l1⟩ := cs1
 have ok1 : ∀ u v, l1 = [.iface u v] → Value.okWide Tryd.prog W .any 0 u v := fun u v e => by
  subst e
  exact (hrows 0 0 (by simp [MemPlace.row])).2 u v (by simpa using World.var?_cell hg1 hv1 0)
 obtain ⟨a1, s1, rfl, hc1, hs1, hz1, rfl⟩ := errorString_of_trod Tryd.underlying63 row105 Tryd.underlying105 Tryd.underlying123 rfl rfl Tryd.underlying9 cells123 cells9 hd1 ok1
 have hc : W.cell? ⟨0, 0, none⟩ = some (errV a1) := by unfold errV; simpa using World.var?_cell hg1 hv1 0
 exact ⟨a1, hc, block_lt hc⟩
noncomputable def lowE : Nat := (World.holding Tryd.prog default ⟨#[], #[], []⟩).heap.size
noncomputable def laidWorldE (os : Os) : World :=
 let w0 := World.holding Tryd.prog os ⟨#[.cells #[.string ⟨#[110, 111, 32, 109, 101, 114, 103, 101, 32, 112, 97, 116, 99, 104, 32, 108, 101, 97, 100, 115, 32, 116, 104, 101, 114, 101]⟩] 123], #[], []⟩
 { w0 with heap := (((w0.heap.modify 1 (putCells (Lib.firstTab.map fun z => Value.int .u8 z).toArray)).modify 2
  (putCells ((List.range 16).flatMap fun i => [Value.int .u8 (Lib.accLo i), Value.int .u8 (Lib.accHi i)]).toArray)).modify 0 (putCells #[.iface 105 (.pointer (some ⟨lowE, 0, none⟩))])) }
end Go.Proofs.YtjfldbmopjojdaaDoor
