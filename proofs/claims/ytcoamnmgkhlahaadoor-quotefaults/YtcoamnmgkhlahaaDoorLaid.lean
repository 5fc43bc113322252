/- What the rows' lists of variables give: the tables, cell by cell; and a world that holds them. -/
import Derived.Test.YtcoamnmgkhlahaaDoorRows
import Derived.Test.YtcoamnmgkhlahaaDoorShelfV
import Derived.Test.YtcoamnmgkhlahaaDoorWalksA
import Derived.Lib.LaidIn
import Derived.Lib.LaidU8T
import Derived.Lib.LaidTab
namespace Go.Proofs.YtcoamnmgkhlahaaDoor
open Go.Shelf Go.Lib

theorem accept_eq : Rows.laid_unicode_utf8_acceptRanges = Lib.acceptData := by kernel_rfl
theorem first_eq : Rows.laid_unicode_utf8_first = Lib.firstData := by kernel_rfl

theorem utabs_of {W : World} (h3 : VarReads Tryd.prog W "unicode/utf8.first" Rows.laid_unicode_utf8_first) (h4 : VarReads Tryd.prog W "unicode/utf8.acceptRanges" Rows.laid_unicode_utf8_acceptRanges) : Utf8Tabs 0 1 W := by
  rw [first_eq] at h3
  rw [accept_eq] at h4
  exact utf8Tabs_of_readsT (U8Types.of196 Tryd.lays196) ⟨by kernel_rfl, by kernel_rfl, by kernel_rfl, by kernel_rfl, by kernel_rfl, by kernel_rfl, by kernel_rfl⟩ h3 h4

def letTab : List Int := (List.range 128).map fun c => (Q.letN c : Int)
theorem let_eq : Rows.laid_freehold_quote_letterOf = Lib.tabData (H := Unit) .u8 letTab := by kernel_rfl

theorem cells5 : Tryd.prog.cellsOf 5 = 1 := by kernel_rfl
theorem cells75 : Tryd.prog.cellsOf 75 = 128 := by kernel_rfl

theorem letTab_of {W : World} (h : VarReads Tryd.prog W "freehold/quote.letterOf" Rows.laid_freehold_quote_letterOf) : LetTab W := by
  rw [let_eq] at h
  intro c hc
  obtain ⟨g, t, cs, fuel, p, hg, hty, hvar, hd⟩ := h
  obtain rfl : g = 2 := Option.some.inj (hg.symm.trans (by kernel_rfl))
  obtain rfl : t = 75 := Option.some.inj (hty.symm.trans (by kernel_rfl))
  have hcs := cells_of_tab Tryd.underlying75 Tryd.underlying5 cells5 cells75 hd
  have := World.var?_cell hg hvar c
  rw [this, ← Array.getElem?_toList, hcs]
  simp [letTab, hc]

theorem block_lt {W : World} {b o : Nat} {v : Value} (h : W.cell? ⟨b, o, none⟩ = some v) : b < W.heap.size := World.block_lt_of_cell? W ⟨b, o, none⟩ h

def putCells (cs : Array Value) : Obj → Obj
  | .cells _ t frozen => .cells cs t frozen
  | o => o

def saidN (c : Nat) : Nat := if c = 34 then 34 else if c = 92 then 92 else if c = 47 then 47 else if c = 98 then 8 else if c = 102 then 12 else if c = 110 then 10 else if c = 114 then 13 else if c = 116 then 9 else 0
def saidTab : List Int := (List.range 128).map fun c => (saidN c : Int)
theorem said_eq : Rows.laid_freehold_quote_saidBy = Lib.tabData (H := Unit) .u8 saidTab := by kernel_rfl

/-- the said letters' table, cell by cell -/
def SaidTab (w : World) : Prop := ∀ c : Nat, c < 128 → w.cell? ⟨4, c, none⟩ = some (.int .u8 (saidN c))

theorem saidTab_of {W : World} (h : VarReads Tryd.prog W "freehold/quote.saidBy" Rows.laid_freehold_quote_saidBy) : SaidTab W := by
  rw [said_eq] at h
  intro c hc
  obtain ⟨g, t, cs, fuel, p, hg, hty, hvar, hd⟩ := h
  obtain rfl : g = 4 := Option.some.inj (hg.symm.trans (by kernel_rfl))
  obtain rfl : t = 75 := Option.some.inj (hty.symm.trans (by kernel_rfl))
  have hcs := cells_of_tab Tryd.underlying75 Tryd.underlying5 cells5 cells75 hd
  have := World.var?_cell hg hvar c
  rw [this, ← Array.getElem?_toList, hcs]
  simp [saidTab, hc]

/-- A world for the witness: the settled one, the variables holding what their initialisers lay. -/
def laidWorldOf (P : Program) (os : Os) : World :=
  { World.holding P os ⟨#[], #[], []⟩ with heap := ((((World.holding P os ⟨#[], #[], []⟩).heap.modify 0 (putCells (Lib.firstTab.map fun z => Value.int .u8 z).toArray)).modify 1
      (putCells ((List.range 16).flatMap fun i => [Value.int .u8 (Lib.accLo i), Value.int .u8 (Lib.accHi i)]).toArray)).modify 2 (putCells (letTab.map fun z => Value.int .u8 z).toArray)).modify 4 (putCells (saidTab.map fun z => Value.int .u8 z).toArray) }
end Go.Proofs.YtcoamnmgkhlahaaDoor
