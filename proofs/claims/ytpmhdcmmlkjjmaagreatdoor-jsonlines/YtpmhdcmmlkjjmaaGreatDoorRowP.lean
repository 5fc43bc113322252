import Derived.Test.YtpmhdcmmlkjjmaaGreatDoorRows
import Derived.Test.YtpmhdcmmlkjjmaaGreatDoorH10
import Derived.Lib.LaidIn
import Derived.Lib.LaidU8T
import Derived.LaidLaws
import Derived.Shelf.Vars
import Derived.WideKeyArgs
import Derived.OpenShut
import Derived.Deep.DeepHandedRow
import Derived.SizedLaws
/- What the rows of this seat need: the tables, the errors, the bytes opened and given back, a world for the witness. -/
set_option linter.unusedSimpArgs false
set_option linter.unusedVariables false
set_option maxRecDepth 100000
namespace Go.Proofs.YtpmhdcmmlkjjmaaGreatDoor
open Go.Shelf Go.Lib Go.ChangeShapes Go.RowKit
theorem accept_eq : Rows.laid_unicode_utf8_acceptRanges = Lib.acceptData := by kernel_rfl
theorem first_eq : Rows.laid_unicode_utf8_first = Lib.firstData := by kernel_rfl
theorem utabs_of {W : World} (h3 : VarReads Tryz.prog W "unicode/utf8.first" Rows.laid_unicode_utf8_first) (h4 : VarReads Tryz.prog W "unicode/utf8.acceptRanges" Rows.laid_unicode_utf8_acceptRanges) : Utf8Tabs 1 2 W := by
  rw [first_eq] at h3
  rw [accept_eq] at h4
  exact utf8Tabs_of_readsT (U8Types.of196 Tryz.lays196) ⟨by kernel_rfl, by kernel_rfl, by kernel_rfl, by kernel_rfl, by kernel_rfl, by kernel_rfl, by kernel_rfl⟩ h3 h4
theorem laidOut' : laidOutB Tryz.prog = true := by kernel_rfl
theorem own : ownKnob Tryz.prog.godebug = none := by kernel_rfl
theorem block_lt {W : World} {b o : Nat} {v : Value} (h : W.cell? ⟨b, o, none⟩ = some v) : b < W.heap.size := World.block_lt_of_cell? W ⟨b, o, none⟩ h
def putCells (cs : Array Value) : Obj → Obj
  | .cells _ t frozen => .cells cs t frozen
  | o => o
theorem below_same {B : Nat} {w w' : World} (h : Below B w w') : ∀ {p : MemPlace}, p.block < B → w.sameAt w' p
  | .cell b off, hp => by
    show w'.cell? ⟨b, off, none⟩ = w.cell? ⟨b, off, none⟩
    exact h.cell (p := ⟨b, off, none⟩) hp
  | .map b, hp => h.block b hp
def saidTab : List Int := (List.range 128).map fun c => (Q.saidN c : Int)
theorem said_eq : Rows.laid_freehold_quote_saidBy = Lib.tabData (H := Unit) .u8 saidTab := by kernel_rfl
theorem pow_eq : Rows.laid_internal_strconv_uint64pow10 = Lib.tabData (H := Unit) .u64 Lib.pow10Tab := by kernel_rfl
theorem cellsU5 : Tryz.prog.cellsOf 5 = 1 := by kernel_rfl
theorem cellsU105 : Tryz.prog.cellsOf 105 = 1 := by kernel_rfl
theorem cellsU155 : Tryz.prog.cellsOf 155 = 20 := by kernel_rfl
theorem cellsU160 : Tryz.prog.cellsOf 160 = 128 := by kernel_rfl
theorem saidT_of {W : World} (h : VarReads Tryz.prog W "freehold/quote.saidBy" Rows.laid_freehold_quote_saidBy) : SaidT W := by
  rw [said_eq] at h
  intro c hc
  obtain ⟨g, t, cs, fuel, p, hg, hty, hvar, hd⟩ := h
  obtain rfl : g = 9 := Option.some.inj (hg.symm.trans (by kernel_rfl))
  obtain rfl : t = 160 := Option.some.inj (hty.symm.trans (by kernel_rfl))
  have hcs := cells_of_tab Tryz.underlying160 Tryz.underlying5 cellsU5 cellsU160 hd
  have := World.var?_cell hg hvar c
  rw [this, ← Array.getElem?_toList, hcs]
  simp [saidTab, hc]
theorem powTab_of {W : World} (h : VarReads Tryz.prog W "internal/strconv.uint64pow10" Rows.laid_internal_strconv_uint64pow10) : PowTab W := by
  rw [pow_eq] at h
  obtain ⟨g, t, cs, fuel, p, hg, hty, hvar, hd⟩ := h
  obtain rfl : g = 3 := Option.some.inj (hg.symm.trans (by kernel_rfl))
  obtain rfl : t = 155 := Option.some.inj (hty.symm.trans (by kernel_rfl))
  have hcs := cells_of_tab Tryz.underlying155 Tryz.underlying105 cellsU105 cellsU155 hd
  unfold PowTab TabIs
  rw [hvar]
  exact congrArg some (Array.ext' (by rw [hcs]))
theorem errSyn_of {W : World} (h : VarReads Tryz.prog W "strconv.ErrSyntax" Rows.laid_strconv_ErrSyntax) : ∃ t p, W.cell? ⟨7, 0, none⟩ = some (.iface t p) := by
  obtain ⟨g, t, cs, fuel, p, hg, hty, hvar, hd⟩ := h
  obtain rfl : g = 7 := Option.some.inj (hg.symm.trans (by kernel_rfl))
  obtain rfl : t = 114 := Option.some.inj (hty.symm.trans (by kernel_rfl))
  obtain ⟨_, u, v, hcs, _, _⟩ := iface_of_trod Tryz.underlying114 hd
  have := World.var?_cell hg hvar 0
  exact ⟨u, v, by rw [this, ← Array.getElem?_toList, hcs]; rfl⟩
theorem errRng_of {W : World} (h : VarReads Tryz.prog W "strconv.ErrRange" Rows.laid_strconv_ErrRange) : ∃ t p, W.cell? ⟨8, 0, none⟩ = some (.iface t p) := by
  obtain ⟨g, t, cs, fuel, p, hg, hty, hvar, hd⟩ := h
  obtain rfl : g = 8 := Option.some.inj (hg.symm.trans (by kernel_rfl))
  obtain rfl : t = 114 := Option.some.inj (hty.symm.trans (by kernel_rfl))
  obtain ⟨_, u, v, hcs, _, _⟩ := iface_of_trod Tryz.underlying114 hd
  have := World.var?_cell hg hvar 0
  exact ⟨u, v, by rw [this, ← Array.getElem?_toList, hcs]; rfl⟩
/-- all that is read beside the arguments, out of the row's list -/
theorem td_of {W : World} (h2 : VarReads Tryz.prog W "internal/strconv.uint64pow10" Rows.laid_internal_strconv_uint64pow10) (h3 : VarReads Tryz.prog W "unicode/utf8.acceptRanges" Rows.laid_unicode_utf8_acceptRanges) (h4 : VarReads Tryz.prog W "strconv.ErrRange" Rows.laid_strconv_ErrRange) (h5 : VarReads Tryz.prog W "strconv.ErrSyntax" Rows.laid_strconv_ErrSyntax) (h7 : VarReads Tryz.prog W "freehold/quote.saidBy" Rows.laid_freehold_quote_saidBy) (h8 : VarReads Tryz.prog W "unicode/utf8.first" Rows.laid_unicode_utf8_first) : Td W := by
  have hs := saidT_of h7
  obtain ⟨t5, p5, e5⟩ := errSyn_of h5
  obtain ⟨t6, p6, e6⟩ := errRng_of h4
  exact ⟨utabs_of h8 h3, block_lt (hs 0 (by omega)), powTab_of h2, hs, t5, p5, t6, p6, e5, e6⟩
def t32 : List Int := [0,1,28,2,29,14,24,3,30,22,20,15,25,17,4,8,31,27,13,23,21,19,16,7,26,12,18,6,11,5,10,9]
def t64 : List Int := [0,1,56,2,57,49,28,3,61,58,42,50,38,29,17,4,62,47,59,36,45,43,51,22,53,39,33,30,24,18,12,5,63,55,48,27,60,41,37,16,46,35,44,21,52,32,23,11,54,26,40,15,34,20,31,10,25,14,19,9,13,8,7,6]
def letTab : List Int := (List.range 128).map fun c => (Q.letN c : Int)
abbrev synS : ByteArray := ⟨#[105, 110, 118, 97, 108, 105, 100, 32, 115, 121, 110, 116, 97, 120]⟩
abbrev rngS : ByteArray := ⟨#[118, 97, 108, 117, 101, 32, 111, 117, 116, 32, 111, 102, 32, 114, 97, 110, 103, 101]⟩
/-- so many blocks has the settled world -/
noncomputable def low : Nat := (World.holding Tryz.prog default ⟨#[], #[], []⟩).heap.size
/-- A world for the witness: the settled one, the variables holding what their initialisers lay. -/
noncomputable def laidWorldZ (os : Os) : World :=
  let w0 := World.holding Tryz.prog os ⟨#[.cells #[.string synS] 212, .cells #[.string rngS] 212], #[], []⟩
  { w0 with heap := (((((((((w0.heap.modify 1 (putCells (Lib.firstTab.map fun z => Value.int .u8 z).toArray)).modify 2
      (putCells ((List.range 16).flatMap fun i => [Value.int .u8 (Lib.accLo i), Value.int .u8 (Lib.accHi i)]).toArray)).modify 3 (putCells (Lib.pow10Tab.map fun z => Value.int .u64 z).toArray)).modify 7 (putCells #[.iface 210 (.pointer (some ⟨low, 0, none⟩))])).modify 8 (putCells #[.iface 210 (.pointer (some ⟨low + 1, 0, none⟩))])).modify 5 (putCells (t32.map fun z => Value.int .u8 z).toArray)).modify 6 (putCells (t64.map fun z => Value.int .u8 z).toArray)).modify 4 (putCells (letTab.map fun z => Value.int .u8 z).toArray)).modify 9 (putCells (saidTab.map fun z => Value.int .u8 z).toArray)) }
section
variable {H : Type} {enc : TypeId × Value → H}
theorem u8_of {n : Int} (h : (Lit.int .u8 n).wf = true) : 0 ≤ n ∧ n ≤ 255 := by
  simp [Lit.wf, IntKind.min, IntKind.max, IntKind.signed, IntKind.bits] at h
  exact h
theorem open28 {W : World} {spare : Nat → Bool} {held : Bool} {v : Value} {d : DataW H} {p : List MemPlace} (hsl : ∃ a n c, v = .slice a n c) (h : DataW.Trod enc Tryz.prog W 0 spare held 28 v d p) :
    ∃ l : List UInt8, Byt W v l ∧ (l = [] ∨ ∃ es rs, d = .slice es rs ∧ es.length = l.length) := by
  obtain ⟨n, hn⟩ := h
  obtain ⟨a0, n0, c0, rfl⟩ := hsl
  rcases DataW.trod_slice Tryz.underlying28 hn with ⟨e, e2⟩ | ⟨a, len, cap, elems, rest, n', hn', e, e2, _, hlc, hcm, hlen, hel, _⟩
  · have hvv : (Value.slice a0 n0 c0) = .slice none 0 0 := by simpa [Value.cells] using e
    rw [hvv]
    exact ⟨[], ⟨none, 0, 0, 0, rfl, headed_nil, fun j hj => by simp at hj⟩, .inl rfl⟩
  · have hvv : (Value.slice a0 n0 c0) = .slice (some a) len cap := by simpa [Value.cells] using e
    rw [hvv]
    rw [cellsU5] at hel
    have hd : d = .slice (elems.map (·.1)) (rest.map (·.1)) := congrArg Prod.fst e2
    obtain ⟨l, b, o, hl, hab, hq⟩ := elems_at (w := W) (a := a) (len := len) (k := 1) (Q := fun (x : UInt8) cs => cs = [.int .u8 (x.toNat : Int)]) (by decide) (fun i hi => by
      have he := hel i hi
      rw [List.getElem?_eq_getElem (by omega)] at he
      obtain ⟨cs, h1, h2⟩ := Option.bind_eq_some_iff.1 he
      obtain ⟨z, rfl, _, hw⟩ := DataW.trod_int Tryz.underlying5 h2
      have hz := u8_of hw
      refine ⟨_, UInt8.ofNat z.toNat, h1, ?_⟩
      have : ((UInt8.ofNat z.toNat).toNat : Int) = z := by
        rw [UInt8.toNat_ofNat_of_lt' (by show z.toNat < 256; omega)]
        omega
      rw [this])
    subst hl
    refine ⟨l, ⟨some a, cap, b, o, rfl, ⟨hlc, hcm, hab.elim .inl (fun e => .inr (by rw [e])), fun h => by cases h⟩, fun j hj => ?_⟩, .inr ⟨_, _, hd, by rw [List.length_map, hlen]⟩⟩
    obtain ⟨hb, cs, hr, rfl⟩ := hq j hj
    refine ⟨hb, ?_⟩
    have := hr 0 _ rfl
    simpa using this
theorem back28 {W W' : World} {v : Value} {d : DataW H} {p : List MemPlace} (h : DataW.Trod enc Tryz.prog W 0 (fun _ => true) true 28 v d p) (hlt : ∀ x ∈ p, x.block < W.heap.size) (hb : Below W.heap.size W W') :
    DataW.Trod enc Tryz.prog W' 0 (fun b => decide (b < W.heap.size)) true 28 v d p :=
  WideElems.Trod_stays (P := Tryz.prog) laidOut' (by kernel_rfl) (of_decide_eq_true (by kernel_rfl)) h (fun x hx => below_same hb (hlt x hx)) (fun x hx => by simpa using hlt x hx)
end
end Go.Proofs.YtpmhdcmmlkjjmaaGreatDoor
