/- joined: RowP WalksE JpsX RowQ -/
import Derived.Test.YtpmhdcmmlkjjmaaGreatDoorRows
import Derived.Test.YtpmhdcmmlkjjmaaGreatDoorG21
import Derived.Lib.LaidIn
import Derived.Lib.LaidU8T
import Derived.LaidLaws
import Derived.Shelf.Vars
import Derived.WideKeyArgs
import Derived.OpenShut
import Derived.Deep.DeepHandedRow
import Derived.SizedLaws
/- What the rows of this seat need: the tables, the errors, the bytes opened and given back, a world for the witness. -/
set_option linter.unusedSimpArgs false
set_option linter.unusedVariables false
set_option maxRecDepth 100000
namespace Go.Proofs.YtpmhdcmmlkjjmaaGreatDoor
open Go.Shelf Go.Lib Go.ChangeShapes Go.RowKit
theorem accept_eq : Rows.laid_unicode_utf8_acceptRanges = Lib.acceptData := by kernel_rfl
theorem first_eq : Rows.laid_unicode_utf8_first = Lib.firstData := by kernel_rfl
theorem utabs_of {W : World} (h3 : VarReads Tryz.prog W "unicode/utf8.first" Rows.laid_unicode_utf8_first) (h4 : VarReads Tryz.prog W "unicode/utf8.acceptRanges" Rows.laid_unicode_utf8_acceptRanges) : Utf8Tabs 1 2 W := by
  rw [first_eq] at h3
  rw [accept_eq] at h4
  exact utf8Tabs_of_readsT (U8Types.of196 Tryz.lays196) ⟨by kernel_rfl, by kernel_rfl, by kernel_rfl, by kernel_rfl, by kernel_rfl, by kernel_rfl, by kernel_rfl⟩ h3 h4
theorem laidOut' : laidOutB Tryz.prog = true := by kernel_rfl
theorem own : ownKnob Tryz.prog.godebug = none := by kernel_rfl
theorem block_lt {W : World} {b o : Nat} {v : Value} (h : W.cell? ⟨b, o, none⟩ = some v) : b < W.heap.size := World.block_lt_of_cell? W ⟨b, o, none⟩ h
def putCells (cs : Array Value) : Obj → Obj
  | .cells _ t frozen => .cells cs t frozen
  | o => o
theorem below_same {B : Nat} {w w' : World} (h : Below B w w') : ∀ {p : MemPlace}, p.block < B → w.sameAt w' p
  | .cell b off, hp => by
    show w'.cell? ⟨b, off, none⟩ = w.cell? ⟨b, off, none⟩
    exact h.cell (p := ⟨b, off, none⟩) hp
  | .map b, hp => h.block b hp
def saidTab : List Int := (List.range 128).map fun c => (Q.saidN c : Int)
theorem said_eq : Rows.laid_freehold_quote_saidBy = Lib.tabData (H := Unit) .u8 saidTab := by kernel_rfl
theorem pow_eq : Rows.laid_internal_strconv_uint64pow10 = Lib.tabData (H := Unit) .u64 Lib.pow10Tab := by kernel_rfl
theorem cellsU5 : Tryz.prog.cellsOf 5 = 1 := by kernel_rfl
theorem cellsU105 : Tryz.prog.cellsOf 105 = 1 := by kernel_rfl
theorem cellsU155 : Tryz.prog.cellsOf 155 = 20 := by kernel_rfl
theorem cellsU160 : Tryz.prog.cellsOf 160 = 128 := by kernel_rfl
theorem saidT_of {W : World} (h : VarReads Tryz.prog W "freehold/quote.saidBy" Rows.laid_freehold_quote_saidBy) : SaidT W := by
  rw [said_eq] at h
  intro c hc
  obtain ⟨g, t, cs, fuel, p, hg, hty, hvar, hd⟩ := h
  obtain rfl : g = 9 := Option.some.inj (hg.symm.trans (by kernel_rfl))
  obtain rfl : t = 160 := Option.some.inj (hty.symm.trans (by kernel_rfl))
  have hcs := cells_of_tab Tryz.underlying160 Tryz.underlying5 cellsU5 cellsU160 hd
  have := World.var?_cell hg hvar c
  rw [this, ← Array.getElem?_toList, hcs]
  simp [saidTab, hc]
theorem powTab_of {W : World} (h : VarReads Tryz.prog W "internal/strconv.uint64pow10" Rows.laid_internal_strconv_uint64pow10) : PowTab W := by
  rw [pow_eq] at h
  obtain ⟨g, t, cs, fuel, p, hg, hty, hvar, hd⟩ := h
  obtain rfl : g = 3 := Option.some.inj (hg.symm.trans (by kernel_rfl))
  obtain rfl : t = 155 := Option.some.inj (hty.symm.trans (by kernel_rfl))
  have hcs := cells_of_tab Tryz.underlying155 Tryz.underlying105 cellsU105 cellsU155 hd
  unfold PowTab TabIs
  rw [hvar]
  exact congrArg some (Array.ext' (by rw [hcs]))
theorem errSyn_of {W : World} (h : VarReads Tryz.prog W "strconv.ErrSyntax" Rows.laid_strconv_ErrSyntax) : ∃ t p, W.cell? ⟨7, 0, none⟩ = some (.iface t p) := by
  obtain ⟨g, t, cs, fuel, p, hg, hty, hvar, hd⟩ := h
  obtain rfl : g = 7 := Option.some.inj (hg.symm.trans (by kernel_rfl))
  obtain rfl : t = 114 := Option.some.inj (hty.symm.trans (by kernel_rfl))
  obtain ⟨_, u, v, hcs, _, _⟩ := iface_of_trod Tryz.underlying114 hd
  have := World.var?_cell hg hvar 0
  exact ⟨u, v, by rw [this, ← Array.getElem?_toList, hcs]; rfl⟩
theorem errRng_of {W : World} (h : VarReads Tryz.prog W "strconv.ErrRange" Rows.laid_strconv_ErrRange) : ∃ t p, W.cell? ⟨8, 0, none⟩ = some (.iface t p) := by
  obtain ⟨g, t, cs, fuel, p, hg, hty, hvar, hd⟩ := h
  obtain rfl : g = 8 := Option.some.inj (hg.symm.trans (by kernel_rfl))
  obtain rfl : t = 114 := Option.some.inj (hty.symm.trans (by kernel_rfl))
  obtain ⟨_, u, v, hcs, _, _⟩ := iface_of_trod Tryz.underlying114 hd
  have := World.var?_cell hg hvar 0
  exact ⟨u, v, by rw [this, ← Array.getElem?_toList, hcs]; rfl⟩
/-- all that is read beside the arguments, out of the row's list -/
theorem td_of {W : World} (h2 : VarReads Tryz.prog W "internal/strconv.uint64pow10" Rows.laid_internal_strconv_uint64pow10) (h3 : VarReads Tryz.prog W "unicode/utf8.acceptRanges" Rows.laid_unicode_utf8_acceptRanges) (h4 : VarReads Tryz.prog W "strconv.ErrRange" Rows.laid_strconv_ErrRange) (h5 : VarReads Tryz.prog W "strconv.ErrSyntax" Rows.laid_strconv_ErrSyntax) (h7 : VarReads Tryz.prog W "freehold/quote.saidBy" Rows.laid_freehold_quote_saidBy) (h8 : VarReads Tryz.prog W "unicode/utf8.first" Rows.laid_unicode_utf8_first) : Td W := by
  have hs := saidT_of h7
  obtain ⟨t5, p5, e5⟩ := errSyn_of h5
  obtain ⟨t6, p6, e6⟩ := errRng_of h4
  exact ⟨utabs_of h8 h3, block_lt (hs 0 (by omega)), powTab_of h2, hs, t5, p5, t6, p6, e5, e6⟩
def t32 : List Int := [0,1,28,2,29,14,24,3,30,22,20,15,25,17,4,8,31,27,13,23,21,19,16,7,26,12,18,6,11,5,10,9]
def t64 : List Int := [0,1,56,2,57,49,28,3,61,58,42,50,38,29,17,4,62,47,59,36,45,43,51,22,53,39,33,30,24,18,12,5,63,55,48,27,60,41,37,16,46,35,44,21,52,32,23,11,54,26,40,15,34,20,31,10,25,14,19,9,13,8,7,6]
def letTab : List Int := (List.range 128).map fun c => (Q.letN c : Int)
abbrev synS : ByteArray := ⟨#[105, 110, 118, 97, 108, 105, 100, 32, 115, 121, 110, 116, 97, 120]⟩
abbrev rngS : ByteArray := ⟨#[118, 97, 108, 117, 101, 32, 111, 117, 116, 32, 111, 102, 32, 114, 97, 110, 103, 101]⟩
/-- so many blocks has the settled world -/
noncomputable def low : Nat := (World.holding Tryz.prog default ⟨#[], #[], []⟩).heap.size
/-- A world for the witness: the settled one, the variables holding what their initialisers lay. -/
noncomputable def laidWorldZ (os : Os) : World :=
  let w0 := World.holding Tryz.prog os ⟨#[.cells #[.string synS] 212, .cells #[.string rngS] 212], #[], []⟩
  { w0 with heap := (((((((((w0.heap.modify 1 (putCells (Lib.firstTab.map fun z => Value.int .u8 z).toArray)).modify 2
      (putCells ((List.range 16).flatMap fun i => [Value.int .u8 (Lib.accLo i), Value.int .u8 (Lib.accHi i)]).toArray)).modify 3 (putCells (Lib.pow10Tab.map fun z => Value.int .u64 z).toArray)).modify 7 (putCells #[.iface 210 (.pointer (some ⟨low, 0, none⟩))])).modify 8 (putCells #[.iface 210 (.pointer (some ⟨low + 1, 0, none⟩))])).modify 5 (putCells (t32.map fun z => Value.int .u8 z).toArray)).modify 6 (putCells (t64.map fun z => Value.int .u8 z).toArray)).modify 4 (putCells (letTab.map fun z => Value.int .u8 z).toArray)).modify 9 (putCells (saidTab.map fun z => Value.int .u8 z).toArray)) }
section
variable {H : Type} {enc : TypeId × Value → H}
theorem u8_of {n : Int} (h : (Lit.int .u8 n).wf = true) : 0 ≤ n ∧ n ≤ 255 := by
  simp [Lit.wf, IntKind.min, IntKind.max, IntKind.signed, IntKind.bits] at h
  exact h
theorem open28 {W : World} {spare : Nat → Bool} {held : Bool} {v : Value} {d : DataW H} {p : List MemPlace} (hsl : ∃ a n c, v = .slice a n c) (h : DataW.Trod enc Tryz.prog W 0 spare held 28 v d p) :
    ∃ l : List UInt8, Byt W v l ∧ (l = [] ∨ ∃ es rs, d = .slice es rs ∧ es.length = l.length) := by
  obtain ⟨n, hn⟩ := h
  obtain ⟨a0, n0, c0, rfl⟩ := hsl
  rcases DataW.trod_slice Tryz.underlying28 hn with ⟨e, e2⟩ | ⟨a, len, cap, elems, rest, n', hn', e, e2, _, hlc, hcm, hlen, hel, _⟩
  · have hvv : (Value.slice a0 n0 c0) = .slice none 0 0 := by simpa [Value.cells] using e
    rw [hvv]
    exact ⟨[], ⟨none, 0, 0, 0, rfl, headed_nil, fun j hj => by simp at hj⟩, .inl rfl⟩
  · have hvv : (Value.slice a0 n0 c0) = .slice (some a) len cap := by simpa [Value.cells] using e
    rw [hvv]
    rw [cellsU5] at hel
    have hd : d = .slice (elems.map (·.1)) (rest.map (·.1)) := congrArg Prod.fst e2
    obtain ⟨l, b, o, hl, hab, hq⟩ := elems_at (w := W) (a := a) (len := len) (k := 1) (Q := fun (x : UInt8) cs => cs = [.int .u8 (x.toNat : Int)]) (by decide) (fun i hi => by
      have he := hel i hi
      rw [List.getElem?_eq_getElem (by omega)] at he
      obtain ⟨cs, h1, h2⟩ := Option.bind_eq_some_iff.1 he
      obtain ⟨z, rfl, _, hw⟩ := DataW.trod_int Tryz.underlying5 h2
      have hz := u8_of hw
      refine ⟨_, UInt8.ofNat z.toNat, h1, ?_⟩
      have : ((UInt8.ofNat z.toNat).toNat : Int) = z := by
        rw [UInt8.toNat_ofNat_of_lt' (by show z.toNat < 256; omega)]
        omega
      rw [this])
    subst hl
    refine ⟨l, ⟨some a, cap, b, o, rfl, ⟨hlc, hcm, hab.elim .inl (fun e => .inr (by rw [e])), fun h => by cases h⟩, fun j hj => ?_⟩, .inr ⟨_, _, hd, by rw [List.length_map, hlen]⟩⟩
    obtain ⟨hb, cs, hr, rfl⟩ := hq j hj
    refine ⟨hb, ?_⟩
    have := hr 0 _ rfl
    simpa using this
theorem back28 {W W' : World} {v : Value} {d : DataW H} {p : List MemPlace} (h : DataW.Trod enc Tryz.prog W 0 (fun _ => true) true 28 v d p) (hlt : ∀ x ∈ p, x.block < W.heap.size) (hb : Below W.heap.size W W') :
    DataW.Trod enc Tryz.prog W' 0 (fun b => decide (b < W.heap.size)) true 28 v d p :=
  WideElems.Trod_stays (P := Tryz.prog) laidOut' (by kernel_rfl) (of_decide_eq_true (by kernel_rfl)) h (fun x hx => below_same hb (hlt x hx)) (fun x hx => by simpa using hlt x hx)
end
end Go.Proofs.YtpmhdcmmlkjjmaaGreatDoor
/- Contract: the document's Quote. -/
set_option maxRecDepth 100000
namespace Go.Proofs.YtpmhdcmmlkjjmaaGreatDoor
open Go.RowKit Go.Lib
/-- where the byte stands among the seven that have letters; 7: nowhere -/
def Q.idxN (c : Nat) : Nat := if c = 34 then 0 else if c = 92 then 1 else if c = 8 then 2 else if c = 9 then 3 else if c = 10 then 4 else if c = 12 then 5 else if c = 13 then 6 else 7
theorem Q.idxN_le (c : Nat) : Q.idxN c ≤ 7 := by
  unfold Q.idxN
  repeat' split
  all_goals omega
theorem Q.idx_none (c : Nat) (h : ¬ Q.idxN c < 7) : Q.letN c = 0 := by
  revert h
  unfold Q.idxN Q.letN
  repeat' split
  all_goals first | rfl | (intro h; omega)
theorem stand_ne (c : UInt8) (k : Nat) (h : k < Q.idxN c.toNat) (h' : k < (⟨#[34, 92, 8, 9, 10, 12, 13]⟩ : ByteArray).size) : (⟨#[34, 92, 8, 9, 10, 12, 13]⟩ : ByteArray)[k].toNat ≠ c.toNat := by
  have key : ∀ (k : Fin 7), (⟨#[34, 92, 8, 9, 10, 12, 13]⟩ : ByteArray)[k.val]'(k.isLt) = UInt8.ofNat ([34, 92, 8, 9, 10, 12, 13].getD k.val 0) ∧ Q.idxN ([34, 92, 8, 9, 10, 12, 13].getD k.val 0) = k.val ∧ [34, 92, 8, 9, 10, 12, 13].getD k.val 0 < 256 := by decide
  have hk := key ⟨k, h'⟩
  simp only at hk
  intro e
  rw [hk.1] at e
  obtain ⟨_, h2, h3⟩ := hk
  generalize [34, 92, 8, 9, 10, 12, 13].getD k 0 = z at *
  have e2 : z = c.toNat := by
    rw [← e]; simp; omega
  rw [← e2] at h
  omega
theorem stand_eq (c : UInt8) (h : Q.idxN c.toNat < 7) (h' : Q.idxN c.toNat < (⟨#[34, 92, 8, 9, 10, 12, 13]⟩ : ByteArray).size) (h'' : Q.idxN c.toNat < (⟨#[34, 92, 98, 116, 110, 102, 114]⟩ : ByteArray).size) :
    (⟨#[34, 92, 8, 9, 10, 12, 13]⟩ : ByteArray)[Q.idxN c.toNat].toNat = c.toNat ∧ (⟨#[34, 92, 98, 116, 110, 102, 114]⟩ : ByteArray)[Q.idxN c.toNat] = UInt8.ofNat (Q.letN c.toNat) ∧ Q.letN c.toNat ≠ 0 := by
  have key : ∀ c : Fin 256, (hh : Q.idxN c.val < 7) → (⟨#[34, 92, 8, 9, 10, 12, 13]⟩ : ByteArray)[Q.idxN c.val]'(hh) = UInt8.ofNat c.val ∧ (⟨#[34, 92, 98, 116, 110, 102, 114]⟩ : ByteArray)[Q.idxN c.val]'(hh) = UInt8.ofNat (Q.letN c.val) ∧ Q.letN c.val ≠ 0 := by decide +kernel
  have hk := key ⟨c.toNat, c.toNat_lt⟩ h
  refine ⟨?_, hk.2⟩
  rw [hk.1]
  simp
set_option maxRecDepth 100000 in
set_option maxHeartbeats 2000000 in
theorem refQuote_good (s : ByteArray) (w : World) (hs : s.size ≤ 2147483648) (hV : validD s.data.toList = true) :
    Calls Tryz.prog 72 #[.string s] w fun e w' => e = .returned (.tuple #[.string ⟨(Q.qt s.data.toList).toArray⟩, .int .i64 0]) ∧ Below w.heap.size w w' := by
  have c := refValid_anyW s (by omega) w
  rw [hV] at c
  clear hV
  go_enter Tryz.func72, Tryz.ntmps72
  go_wp2_with (go_at_call 95; refine c.mono ?_; rintro e w ⟨rfl, rfl⟩)
  go_loopw [5, 6] (fun v i wr => ∃ k : Nat, k ≤ s.size ∧ i = .int .i64 k ∧ OwnB w.heap.size v (34 :: Q.body (s.data.toList.take k)) wr ∧ Below w.heap.size w wr) (fun _ i _ => s.size - (RowKit.intOf i).toNat)
  case atStart => exact ⟨0, Nat.zero_le _, rfl, OwnB.built w.heap.size w [34] (Nat.le_refl _) (by simp), (Below.refl _ _).alloc (Nat.le_refl _) _⟩
  case round =>
    obtain ⟨k, hk, rfl, ho, bk⟩ := hrel
    have hl0 := Q.sz_le (s.data.toList.take k)
    have hl1 : (s.data.toList.take k).length ≤ k := List.length_take_le _ _
    have hbl : (Q.body (s.data.toList.take k)).length ≤ 12884901888 := by unfold Q.sz at hl0; omega
    have hsk := bk.size
    clear hl0 c
    by_cases hlt : k < s.size
    · have y1 : (k : Int) < s.size := by omega
      have HS : Hid (34 :: Q.body (s.data.toList.take (k + 1)) = (34 :: Q.body (s.data.toList.take k)) ++ Q.esc s[k]) := by
        show _ = _
        rw [take_snoc s k hlt, Q.body_snoc]; rfl
      go_wp2_with fail
      go_loop [8] (fun j => ∃ i : Nat, i ≤ Q.idxN s[k].toNat ∧ j = .int .i64 i) (fun j => 7 - (RowKit.intOf j).toNat)
      case atStart => exact ⟨0, Nat.zero_le _, rfl⟩
      case round =>
        obtain ⟨i, hi, rfl⟩ := hrel
        have hi7 := Q.idxN_le s[k].toNat
        by_cases hii : i < Q.idxN s[k].toNat
        · have z1 : (i : Int) < 7 := by omega
          have hne := stand_ne s[k] i hii (by show i < 7; omega)
          have z2 : ((((⟨#[34, 92, 8, 9, 10, 12, 13]⟩ : ByteArray)[i]'(by show i < 7; omega)).toNat : Int) != (s[k].toNat : Int)) = true := by rw [bne_iff_ne]; omega
          go_wp2
          go_round
          case rel => exact ⟨i + 1, by omega, by go_num⟩
          case measure => simp [RowKit.intOf]; omega
        · obtain rfl : i = Q.idxN s[k].toNat := by omega
          by_cases h7 : Q.idxN s[k].toNat < 7
          · have hse := stand_eq s[k] h7 (by exact h7) (by exact h7)
            have z1 : (Q.idxN s[k].toNat : Int) < 7 := by omega
            have z2 : ((((⟨#[34, 92, 8, 9, 10, 12, 13]⟩ : ByteArray)[Q.idxN s[k].toNat]'(by exact h7)).toNat : Int) != (s[k].toNat : Int)) = false := by rw [bne_eq_false_iff_eq]; omega
            have HE : Hid (Q.esc s[k] = [92, (⟨#[34, 92, 98, 116, 110, 102, 114]⟩ : ByteArray)[Q.idxN s[k].toNat]'(by exact h7)]) := by
              show _ = _
              rw [Q.esc_let _ hse.2.2, hse.2.1]
            clear hse
            generalize Q.idxN s[k].toNat = I at *
            go_wp2_with (at_builtin; refine wpl_app _ rfl (.tmp 40) (.tmp 43) rfl w.heap.size _ _ rfl (ho.alloc _) wr.heap.size 2 2 [92, (⟨#[34, 92, 98, 116, 110, 102, 114]⟩ : ByteArray)[I]'(by exact h7)] rfl rfl _ (0, 0) (heap_alloc_new wr _) rfl (by simp; omega) (by simp; omega) ?_; intro v' w1 ho1 b1)
            go_roundw
            case rel => exact ⟨k + 1, by omega, by go_num, by rw [HS.out, HE.out]; exact ho1, (bk.alloc hsk _).trans b1⟩
            case measure => simp [RowKit.intOf]; omega
          · have z1 : ¬ (Q.idxN s[k].toNat : Int) < 7 := by omega
            have hl := Q.idx_none s[k].toNat h7
            by_cases h32 : s[k].toNat < 32
            · have z3 : (s[k].toNat : Int) < 32 := by omega
              have HE : Hid (Q.esc s[k] = [92, 117, 48, 48, (⟨#[48, 49, 50, 51, 52, 53, 54, 55, 56, 57, 97, 98, 99, 100, 101, 102]⟩ : ByteArray)[s[k].toNat / 16]'(by show _ < 16; omega), (⟨#[48, 49, 50, 51, 52, 53, 54, 55, 56, 57, 97, 98, 99, 100, 101, 102]⟩ : ByteArray)[s[k].toNat % 16]'(by show _ < 16; omega)]) := by
                show _ = _
                rw [Q.esc_low _ hl h32, hexAt _ (by omega), hexAt _ (by omega)]
              clear hl
              have q1 : (0 : Int) ≤ (s[k].toNat : Int) / 16 := by omega
              have q2 : (s[k].toNat : Int) / 16 < 16 := by omega
              have q3 : (0 : Int) ≤ (s[k].toNat : Int) % 16 := by omega
              have q4 : (s[k].toNat : Int) % 16 < 16 := by omega
              have q5 : IntKind.u8.wrap ((s[k].toNat : Int) / 16) = ((s[k].toNat / 16 : Nat) : Int) := by rw [IntKind.wrap_u8]; omega
              have q6 : (s[k].toNat : Int).tmod 16 = ((s[k].toNat % 16 : Nat) : Int) := by rw [Int.tmod_eq_emod_of_nonneg (by omega)]; omega
              have q7 : s[k].toNat / 16 < 16 := by omega
              have q8 : s[k].toNat % 16 < 16 := by omega
              go_wp2_with fail
              go_region_law ((refine step_app _ (by rfl) (.tmp 48) (.tmp 55) (by rfl) w.heap.size _ _ (by rfl) (show OwnB w.heap.size _ (34 :: Q.body (s.data.toList.take k)) _ from ho.alloc _) wr.heap.size 6 6 [92, 117, 48, 48, (⟨#[48, 49, 50, 51, 52, 53, 54, 55, 56, 57, 97, 98, 99, 100, 101, 102]⟩ : ByteArray)[s[k].toNat / 16]'(by show _ < 16; omega), (⟨#[48, 49, 50, 51, 52, 53, 54, 55, 56, 57, 97, 98, 99, 100, 101, 102]⟩ : ByteArray)[s[k].toNat % 16]'(by show _ < 16; omega)] (by rfl) rfl (by decide) _ (0, 0) (by exact heap_alloc_new wr _) (by rfl) (by simp; omega) (by simp; omega) ?_; intro v' w1 ho1 b1))
              all_goals
                go_wp2
                go_roundw
                case rel => exact ⟨k + 1, by omega, by go_num, by rw [HS.out, HE.out]; exact ho1, ((bk.alloc hsk _).drew).trans b1⟩
                case measure => simp [RowKit.intOf]; omega
            · have z3 : ¬ (s[k].toNat : Int) < 32 := by omega
              have HE : Hid (Q.esc s[k] = [s[k]]) := Q.esc_same _ hl h32
              clear hl
              go_wp2_with (at_builtin; refine wpl_app _ rfl (.tmp 33) (.tmp 35) rfl w.heap.size _ _ rfl (ho.alloc _) wr.heap.size 1 1 [s[k]] rfl rfl _ (0, 0) (heap_alloc_new wr _) rfl (by simp; omega) (by simp; omega) ?_; intro v' w1 ho1 b1)
              go_roundw
              case rel => exact ⟨k + 1, by omega, by go_num, by rw [HS.out, HE.out]; exact ho1, (bk.alloc hsk _).trans b1⟩
              case measure => simp [RowKit.intOf]; omega
    · have y1 : ¬ (k : Int) < s.size := by omega
      rw [take_all s k (by omega)] at ho hbl
      go_wp2_with (at_builtin; refine wpl_app _ rfl (.tmp 57) (.tmp 58) rfl w.heap.size _ _ rfl (ho.alloc _) wr.heap.size 1 1 [34] rfl rfl _ (0, 0) (heap_alloc_new wr _) rfl (by simp; omega) (by simp; omega) ?_; intro v' w1 ho1 b1; have hcv := ho1.conv)
      go_ret2
      exact ⟨rfl, (bk.alloc hsk _).trans b1⟩
end Go.Proofs.YtpmhdcmmlkjjmaaGreatDoor
/- what Print reads beside its arguments; appendString. -/
set_option maxRecDepth 100000
namespace Go.Proofs.YtpmhdcmmlkjjmaaGreatDoor
open Go.RowKit Go.Lib
/-- what Print's calls read beside their arguments -/
structure Tdl (w : World) : Prop where
  u : Utf8Tabs 1 2 w
  l : LetTab w
  z : 9 < w.heap.size
  p : PowTab w
theorem Tdl.below {w w' : World} {B : Nat} (h : Tdl w) (hb : Below B w w') (hB : 9 < B) (hs : w.heap.size ≤ w'.heap.size) : Tdl w' :=
  ⟨utab_below h.u hb (by omega), h.l.below hb hB, Nat.lt_of_lt_of_le h.z hs, h.p.below hb hB⟩
set_option maxHeartbeats 1000000 in
set_option maxRecDepth 100000 in
theorem appstr_any (s : ByteArray) (B : Nat) (bv : Value) (bs : List UInt8) (w : World) (td : Tdl w) (hBw : B ≤ w.heap.size) (ho : OwnB B bv bs w) (hs : s.size ≤ 1048576) (hV : validD s.data.toList = true) (hlen : bs.length ≤ 1000000000) :
    Calls Tryz.prog 40 #[bv, .string s] w (ApPost B (bs ++ Q.qt s.data.toList) w) := by
  have c := quote_good s w (by omega) td.u td.l td.z hV
  have hq : (⟨(Q.qt s.data.toList).toArray⟩ : ByteArray).size ≤ 6291458 := by
    have h1 := Q.qt_length s.data.toList
    have h2 := Q.sz_le s.data.toList
    have h3 : s.data.toList.length = s.size := by rw [Array.length_toList]; rfl
    show (Q.qt s.data.toList).toArray.size ≤ _
    rw [List.size_toArray]
    omega
  have HD : Hid ((⟨(Q.qt s.data.toList).toArray⟩ : ByteArray).data.toList = Q.qt s.data.toList) := rfl
  generalize (⟨(Q.qt s.data.toList).toArray⟩ : ByteArray) = qs at *
  go_enter Tryz.func40, Tryz.ntmps40
  go_wp2_with fail
  refine c.mono ?_
  rintro e w1 ⟨rfl, b1⟩
  have ho1 := ho.below b1
  have hz := b1.size
  go_wp2_with (at_builtin; go_loud (refine wpl_str _ rfl (.tmp 12) (.tmp 13) rfl B bv bs rfl ho1 qs rfl (by omega) (by omega) ?_))
  intro v' w2 o2 b2
  go_wp2_with fail
  go_ret
  rw [HD.out] at o2
  exact ⟨_, rfl, o2, (b1.mono hBw).trans b2⟩
end Go.Proofs.YtpmhdcmmlkjjmaaGreatDoor
/- the table of letters, out of a row's list. -/
set_option maxRecDepth 100000
namespace Go.Proofs.YtpmhdcmmlkjjmaaGreatDoor
open Go.Shelf Go.Lib Go.ChangeShapes Go.RowKit
theorem let_eq : Rows.laid_freehold_quote_letterOf = Lib.tabData (H := Unit) .u8 letTab := by kernel_rfl
theorem letTab_of {W : World} (h : VarReads Tryz.prog W "freehold/quote.letterOf" Rows.laid_freehold_quote_letterOf) : LetTab W := by
  rw [let_eq] at h
  intro c hc
  obtain ⟨g, t, cs, fuel, p, hg, hty, hvar, hd⟩ := h
  obtain rfl : g = 4 := Option.some.inj (hg.symm.trans (by kernel_rfl))
  obtain rfl : t = 160 := Option.some.inj (hty.symm.trans (by kernel_rfl))
  have hcs := cells_of_tab Tryz.underlying160 Tryz.underlying5 cellsU5 cellsU160 hd
  have := World.var?_cell hg hvar c
  rw [this, ← Array.getElem?_toList, hcs]
  simp [letTab, hc]
theorem tdl_of {W : World} (t : Td W) (h : VarReads Tryz.prog W "freehold/quote.letterOf" Rows.laid_freehold_quote_letterOf) : Tdl W := ⟨t.u, letTab_of h, t.z, t.p⟩
end Go.Proofs.YtpmhdcmmlkjjmaaGreatDoor
