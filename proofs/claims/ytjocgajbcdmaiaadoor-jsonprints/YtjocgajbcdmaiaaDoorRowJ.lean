/- What the row needs: the tables, the argument opened and given back, a world for the witness. -/
import Derived.Test.YtjocgajbcdmaiaaDoorRows
import Derived.Test.YtjocgajbcdmaiaaDoorJpsA
import Derived.Test.YtjocgajbcdmaiaaDoorChkB
import Derived.Lib.LaidIn
import Derived.Lib.LaidU8T
import Derived.Lib.LaidTab
import Derived.WideKeyArgs
import Derived.ProofKit
import Derived.OpenShut
import Derived.Deep.DeepHandedRow
namespace Go.Proofs.YtjocgajbcdmaiaaDoor
open Go.Shelf Go.Lib Go.ChangeShapes Go.RowKit

theorem accept_eq : Rows.laid_unicode_utf8_acceptRanges = Lib.acceptData := by kernel_rfl
theorem first_eq : Rows.laid_unicode_utf8_first = Lib.firstData := by kernel_rfl
theorem utabs_of {W : World} (h3 : VarReads Tryd.prog W "unicode/utf8.first" Rows.laid_unicode_utf8_first) (h4 : VarReads Tryd.prog W "unicode/utf8.acceptRanges" Rows.laid_unicode_utf8_acceptRanges) : Utf8Tabs 0 1 W := by
  rw [first_eq] at h3
  rw [accept_eq] at h4
  exact utf8Tabs_of_readsT (U8Types.of196 Tryd.lays196) ⟨by kernel_rfl, by kernel_rfl, by kernel_rfl, by kernel_rfl, by kernel_rfl, by kernel_rfl, by kernel_rfl⟩ h3 h4

def letTab : List Int := (List.range 128).map fun c => (Q.letN c : Int)
theorem let_eq : Rows.laid_freehold_quote_letterOf = Lib.tabData (H := Unit) .u8 letTab := by kernel_rfl
theorem pow_eq : Rows.laid_internal_strconv_uint64pow10 = Lib.tabData (H := Unit) .u64 Lib.pow10Tab := by kernel_rfl
theorem cells5 : Tryd.prog.cellsOf 5 = 1 := by kernel_rfl
theorem cells59 : Tryd.prog.cellsOf 59 = 1 := by kernel_rfl
theorem cells98 : Tryd.prog.cellsOf 98 = 20 := by kernel_rfl
theorem cells105 : Tryd.prog.cellsOf 105 = 128 := by kernel_rfl
theorem letTab_of {W : World} (h : VarReads Tryd.prog W "freehold/quote.letterOf" Rows.laid_freehold_quote_letterOf) : LetTab W := by
  rw [let_eq] at h
  intro c hc
  obtain ⟨g, t, cs, fuel, p, hg, hty, hvar, hd⟩ := h
  obtain rfl : g = 3 := Option.some.inj (hg.symm.trans (by kernel_rfl))
  obtain rfl : t = 105 := Option.some.inj (hty.symm.trans (by kernel_rfl))
  have hcs := cells_of_tab Tryd.underlying105 Tryd.underlying5 cells5 cells105 hd
  have := World.var?_cell hg hvar c
  rw [this, ← Array.getElem?_toList, hcs]
  simp [letTab, hc]
theorem powTab_of {W : World} (h : VarReads Tryd.prog W "internal/strconv.uint64pow10" Rows.laid_internal_strconv_uint64pow10) : PowTab W := by
  rw [pow_eq] at h
  obtain ⟨g, t, cs, fuel, p, hg, hty, hvar, hd⟩ := h
  obtain rfl : g = 2 := Option.some.inj (hg.symm.trans (by kernel_rfl))
  obtain rfl : t = 98 := Option.some.inj (hty.symm.trans (by kernel_rfl))
  have hcs := cells_of_tab Tryd.underlying98 Tryd.underlying59 cells59 cells98 hd
  unfold PowTab TabIs
  rw [hvar]
  exact congrArg some (Array.ext' (by rw [hcs]))

theorem laidOut' : laidOutB Tryd.prog = true := by kernel_rfl
theorem own : ownKnob Tryd.prog.godebug = none := by kernel_rfl

def putCells (cs : Array Value) : Obj → Obj
  | .cells _ t frozen => .cells cs t frozen
  | o => o
def t32 : List Int := [0,1,28,2,29,14,24,3,30,22,20,15,25,17,4,8,31,27,13,23,21,19,16,7,26,12,18,6,11,5,10,9]
def t64 : List Int := [0,1,56,2,57,49,28,3,61,58,42,50,38,29,17,4,62,47,59,36,45,43,51,22,53,39,33,30,24,18,12,5,63,55,48,27,60,41,37,16,46,35,44,21,52,32,23,11,54,26,40,15,34,20,31,10,25,14,19,9,13,8,7,6]
/-- A world for the witness: the settled one, the variables holding what their initialisers lay. -/
def laidWorldOf (P : Program) (os : Os) : World :=
  { World.holding P os ⟨#[], #[], []⟩ with heap := ((((((World.holding P os ⟨#[], #[], []⟩).heap.modify 0 (putCells (Lib.firstTab.map fun z => Value.int .u8 z).toArray)).modify 1
      (putCells ((List.range 16).flatMap fun i => [Value.int .u8 (Lib.accLo i), Value.int .u8 (Lib.accHi i)]).toArray)).modify 2 (putCells (Lib.pow10Tab.map fun z => Value.int .u64 z).toArray)).modify 3 (putCells (letTab.map fun z => Value.int .u8 z).toArray)).modify 5 (putCells (t32.map fun z => Value.int .u8 z).toArray)).modify 6 (putCells (t64.map fun z => Value.int .u8 z).toArray) }

theorem below_same {B : Nat} {w w' : World} (h : Below B w w') : ∀ {p : MemPlace}, p.block < B → w.sameAt w' p
  | .cell b off, hp => by
    show w'.cell? ⟨b, off, none⟩ = w.cell? ⟨b, off, none⟩
    exact h.cell (p := ⟨b, off, none⟩) hp
  | .map b, hp => h.block b hp

variable {H : Type} {enc : TypeId × Value → H}

theorem open25 {W : World} {spare : Nat → Bool} {held : Bool} {v : Value} {d : DataW H} {p : List MemPlace} (h : DataW.Trod enc Tryd.prog W 0 spare held 25 v d p) : ∃ (x : V) (cs : List Value), v = .agg cs.toArray ∧ x.lies false W (Old W) cs := by
  obtain ⟨n, hn⟩ := h
  obtain ⟨x, hx⟩ := (open_all n).1 _ _ hn
  have hx' := hx
  obtain ⟨k, b, i, s, al, nl, cl, am, nm, cm, e⟩ := V.ten hx'
  cases v with
  | agg a => exact ⟨x, a.toList, by simp, hx⟩
  | _ => simp [Value.cells] at e
theorem back25 {W W' : World} {v : Value} {d : DataW H} {p : List MemPlace} (h : DataW.Trod enc Tryd.prog W 0 (fun _ => true) true 25 v d p) (hlt : ∀ x ∈ p, x.block < W.heap.size) (hb : Below W.heap.size W W') :
    DataW.Trod enc Tryd.prog W' 0 (fun b => decide (b < W.heap.size)) true 25 v d p :=
  WideElems.Trod_stays (P := Tryd.prog) laidOut' (by kernel_rfl) (of_decide_eq_true (by kernel_rfl)) h (fun x hx => below_same hb (hlt x hx)) (fun x hx => by simpa using hlt x hx)
theorem block_lt {W : World} {b o : Nat} {v : Value} (h : W.cell? ⟨b, o, none⟩ = some v) : b < W.heap.size := World.block_lt_of_cell? W ⟨b, o, none⟩ h
end Go.Proofs.YtjocgajbcdmaiaaDoor
