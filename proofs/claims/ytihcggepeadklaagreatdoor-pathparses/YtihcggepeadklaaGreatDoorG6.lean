/- joined: RowZ NamP NamA NamB NamC -/
import Derived.Test.YtihcggepeadklaaGreatDoorG5
import Derived.LaidLaws
import Derived.Shelf.Vars
import Derived.Laws.RangeAny
import Derived.LoopTactic
/- What the rows of this seat need: the tables, the errors, a world for the witness. -/
set_option linter.unusedSimpArgs false
set_option linter.unusedVariables false
namespace Go.Proofs.YtihcggepeadklaaGreatDoor
open Go.Shelf Go.Lib Go.ChangeShapes Go.RowKit
def letTab : List Int := (List.range 128).map fun c => (Q.letN c : Int)
theorem let_eq : Rows.laid_freehold_quote_letterOf = Lib.tabData (H := Unit) .u8 letTab := by kernel_rfl
def saidTab : List Int := (List.range 128).map fun c => (Q.saidN c : Int)
theorem said_eq : Rows.laid_freehold_quote_saidBy = Lib.tabData (H := Unit) .u8 saidTab := by kernel_rfl
theorem pow_eq : Rows.laid_internal_strconv_uint64pow10 = Lib.tabData (H := Unit) .u64 Lib.pow10Tab := by kernel_rfl
theorem cellsU5 : Tryz.prog.cellsOf 5 = 1 := by kernel_rfl
theorem cellsU124 : Tryz.prog.cellsOf 124 = 1 := by kernel_rfl
theorem cellsU205 : Tryz.prog.cellsOf 205 = 20 := by kernel_rfl
theorem cellsU202 : Tryz.prog.cellsOf 202 = 128 := by kernel_rfl
theorem letTab_of {W : World} (h : VarReads Tryz.prog W "freehold/quote.letterOf" Rows.laid_freehold_quote_letterOf) : LetTab W := by
  rw [let_eq] at h
  intro c hc
  obtain ⟨g, t, cs, fuel, p, hg, hty, hvar, hd⟩ := h
  obtain rfl : g = 3 := Option.some.inj (hg.symm.trans (by kernel_rfl))
  obtain rfl : t = 202 := Option.some.inj (hty.symm.trans (by kernel_rfl))
  have hcs := cells_of_tab Tryz.underlying202 Tryz.underlying5 cellsU5 cellsU202 hd
  have := World.var?_cell hg hvar c
  rw [this, ← Array.getElem?_toList, hcs]
  simp [letTab, hc]
theorem saidT_of {W : World} (h : VarReads Tryz.prog W "freehold/quote.saidBy" Rows.laid_freehold_quote_saidBy) : SaidT W := by
  rw [said_eq] at h
  intro c hc
  obtain ⟨g, t, cs, fuel, p, hg, hty, hvar, hd⟩ := h
  obtain rfl : g = 9 := Option.some.inj (hg.symm.trans (by kernel_rfl))
  obtain rfl : t = 202 := Option.some.inj (hty.symm.trans (by kernel_rfl))
  have hcs := cells_of_tab Tryz.underlying202 Tryz.underlying5 cellsU5 cellsU202 hd
  have := World.var?_cell hg hvar c
  rw [this, ← Array.getElem?_toList, hcs]
  simp [saidTab, hc]
theorem powTab_of {W : World} (h : VarReads Tryz.prog W "internal/strconv.uint64pow10" Rows.laid_internal_strconv_uint64pow10) : PowTab W := by
  rw [pow_eq] at h
  obtain ⟨g, t, cs, fuel, p, hg, hty, hvar, hd⟩ := h
  obtain rfl : g = 4 := Option.some.inj (hg.symm.trans (by kernel_rfl))
  obtain rfl : t = 205 := Option.some.inj (hty.symm.trans (by kernel_rfl))
  have hcs := cells_of_tab Tryz.underlying205 Tryz.underlying124 cellsU124 cellsU205 hd
  unfold PowTab TabIs
  rw [hvar]
  exact congrArg some (Array.ext' (by rw [hcs]))
theorem errSyn_of {W : World} (h : VarReads Tryz.prog W "strconv.ErrSyntax" Rows.laid_strconv_ErrSyntax) : ∃ t p, W.cell? ⟨5, 0, none⟩ = some (.iface t p) := by
  obtain ⟨g, t, cs, fuel, p, hg, hty, hvar, hd⟩ := h
  obtain rfl : g = 5 := Option.some.inj (hg.symm.trans (by kernel_rfl))
  obtain rfl : t = 74 := Option.some.inj (hty.symm.trans (by kernel_rfl))
  obtain ⟨_, u, v, hcs, _, _⟩ := iface_of_trod Tryz.underlying74 hd
  have := World.var?_cell hg hvar 0
  exact ⟨u, v, by rw [this, ← Array.getElem?_toList, hcs]; rfl⟩
theorem errRng_of {W : World} (h : VarReads Tryz.prog W "strconv.ErrRange" Rows.laid_strconv_ErrRange) : ∃ t p, W.cell? ⟨6, 0, none⟩ = some (.iface t p) := by
  obtain ⟨g, t, cs, fuel, p, hg, hty, hvar, hd⟩ := h
  obtain rfl : g = 6 := Option.some.inj (hg.symm.trans (by kernel_rfl))
  obtain rfl : t = 74 := Option.some.inj (hty.symm.trans (by kernel_rfl))
  obtain ⟨_, u, v, hcs, _, _⟩ := iface_of_trod Tryz.underlying74 hd
  have := World.var?_cell hg hvar 0
  exact ⟨u, v, by rw [this, ← Array.getElem?_toList, hcs]; rfl⟩
/-- all that is read beside the arguments, out of the row's list -/
theorem td_of {W : World} (h2 : VarReads Tryz.prog W "internal/strconv.uint64pow10" Rows.laid_internal_strconv_uint64pow10) (h3 : VarReads Tryz.prog W "unicode/utf8.acceptRanges" Rows.laid_unicode_utf8_acceptRanges) (h4 : VarReads Tryz.prog W "strconv.ErrRange" Rows.laid_strconv_ErrRange) (h5 : VarReads Tryz.prog W "strconv.ErrSyntax" Rows.laid_strconv_ErrSyntax) (h6 : VarReads Tryz.prog W "freehold/quote.letterOf" Rows.laid_freehold_quote_letterOf) (h7 : VarReads Tryz.prog W "freehold/quote.saidBy" Rows.laid_freehold_quote_saidBy) (h8 : VarReads Tryz.prog W "unicode/utf8.first" Rows.laid_unicode_utf8_first) : Td W := by
  have hs := saidT_of h7
  obtain ⟨t5, p5, e5⟩ := errSyn_of h5
  obtain ⟨t6, p6, e6⟩ := errRng_of h4
  exact ⟨utabs_of h8 h3, letTab_of h6, block_lt (hs 0 (by omega)), powTab_of h2, hs, t5, p5, t6, p6, e5, e6⟩
def t32 : List Int := [0,1,28,2,29,14,24,3,30,22,20,15,25,17,4,8,31,27,13,23,21,19,16,7,26,12,18,6,11,5,10,9]
def t64 : List Int := [0,1,56,2,57,49,28,3,61,58,42,50,38,29,17,4,62,47,59,36,45,43,51,22,53,39,33,30,24,18,12,5,63,55,48,27,60,41,37,16,46,35,44,21,52,32,23,11,54,26,40,15,34,20,31,10,25,14,19,9,13,8,7,6]
abbrev synS : ByteArray := ⟨#[105, 110, 118, 97, 108, 105, 100, 32, 115, 121, 110, 116, 97, 120]⟩
abbrev rngS : ByteArray := ⟨#[118, 97, 108, 117, 101, 32, 111, 117, 116, 32, 111, 102, 32, 114, 97, 110, 103, 101]⟩
/-- so many blocks has the settled world -/
noncomputable def low : Nat := (World.holding Tryz.prog default ⟨#[], #[], []⟩).heap.size
/-- A world for the witness: the settled one, the variables holding what their initialisers lay. -/
noncomputable def laidWorldZ (os : Os) : World :=
  let w0 := World.holding Tryz.prog os ⟨#[.cells #[.string synS] 228, .cells #[.string rngS] 228], #[], []⟩
  { w0 with heap := (((((((((w0.heap.modify 0 (putCells (Lib.firstTab.map fun z => Value.int .u8 z).toArray)).modify 1
      (putCells ((List.range 16).flatMap fun i => [Value.int .u8 (Lib.accLo i), Value.int .u8 (Lib.accHi i)]).toArray)).modify 4 (putCells (Lib.pow10Tab.map fun z => Value.int .u64 z).toArray)).modify 5 (putCells #[.iface 226 (.pointer (some ⟨low, 0, none⟩))])).modify 6 (putCells #[.iface 226 (.pointer (some ⟨low + 1, 0, none⟩))])).modify 7 (putCells (t32.map fun z => Value.int .u8 z).toArray)).modify 8 (putCells (t64.map fun z => Value.int .u8 z).toArray)).modify 3 (putCells (letTab.map fun z => Value.int .u8 z).toArray)).modify 9 (putCells (saidTab.map fun z => Value.int .u8 z).toArray)) }
end Go.Proofs.YtihcggepeadklaaGreatDoor
/- Names that need not be quoted, as plain functions. -/
namespace Go.Proofs.YtihcggepeadklaaGreatDoor
open Go.RowKit Go.Lib
/-- a letter, or an underscore -/
def letR (r : Int) : Bool := (decide (65 ≤ r) && decide (r ≤ 90)) || (decide (97 ≤ r) && decide (r ≤ 122)) || decide (r = 95)
def digR (r : Int) : Bool := decide (48 ≤ r) && decide (r ≤ 57)
/-- may a byte stand at a place of a plain name? -/
def okR (i : Nat) (r : Int) : Bool := letR r || (decide (i ≠ 0) && (digR r || decide (r = 45)))
/-- how many bytes at the front are a plain name -/
def prefN : Nat → List UInt8 → Nat
  | i, [] => i
  | i, c :: t => if okR i c.toNat = true then prefN (i + 1) t else i
def allN : Nat → List UInt8 → Bool
  | _, [] => true
  | i, c :: t => okR i c.toNat && allN (i + 1) t
theorem prefN_le : ∀ (l : List UInt8) (i : Nat), i ≤ prefN i l ∧ prefN i l ≤ i + l.length
  | [], i => by simp [prefN]
  | c :: t, i => by
    have := prefN_le t (i + 1)
    rw [prefN]
    split
    · rw [List.length_cons]; omega
    · rw [List.length_cons]; omega
theorem prefN_all : ∀ (l : List UInt8) (i : Nat), (prefN i l = i + l.length) ↔ allN i l = true
  | [], i => by simp [prefN, allN]
  | c :: t, i => by
    rw [prefN, allN, List.length_cons, Bool.and_eq_true, ← prefN_all t (i + 1)]
    split
    · rename_i h; rw [h]; simp only [true_and]; omega
    · rename_i h
      have h1 : ¬ okR i c.toNat = true := h
      constructor
      · intro h2; omega
      · intro h2; exact absurd h2.1 h1
/-- need the name not be quoted? -/
def plnN (l : List UInt8) : Bool := !l.isEmpty && allN 0 l
/-- a name as it is written -/
def nmT (l : List UInt8) : List UInt8 := if plnN l = true then l else Q.qt l
theorem okR_hi (i : Nat) (r : Int) (h : 128 ≤ r) : okR i r = false := by
  have h1 : decide (r ≤ 90) = false := by rw [decide_eq_false_iff_not]; omega
  have h2 : decide (r ≤ 122) = false := by rw [decide_eq_false_iff_not]; omega
  have h3 : decide (r = 95) = false := by rw [decide_eq_false_iff_not]; omega
  have h4 : decide (r ≤ 57) = false := by rw [decide_eq_false_iff_not]; omega
  have h5 : decide (r = 45) = false := by rw [decide_eq_false_iff_not]; omega
  simp only [okR, letR, digR, h1, h2, h3, h4, h5, Bool.and_false, Bool.or_false]
theorem drop_consN (s : ByteArray) (k : Nat) (h : k < s.size) : s.data.toList.drop k = s[k] :: s.data.toList.drop (k + 1) := by
  rw [List.drop_eq_getElem_cons (by simpa using h)]; rfl
theorem drop_endN (s : ByteArray) (k : Nat) (h : ¬ k < s.size) : s.data.toList.drop k = [] := List.drop_eq_nil_of_le (by simpa using Nat.le_of_not_lt h)
theorem prefN_yes (s : ByteArray) (k : Nat) (h : k < s.size) (ho : okR k (s[k]'h).toNat = true) : prefN k (s.data.toList.drop k) = prefN (k + 1) (s.data.toList.drop (k + 1)) := by
  rw [drop_consN s k h, prefN, if_pos ho]
theorem prefN_no (s : ByteArray) (k : Nat) (h : k < s.size) (ho : okR k (s[k]'h).toNat = false) : prefN k (s.data.toList.drop k) = k := by
  rw [drop_consN s k h, prefN, if_neg (by rw [ho]; decide)]
theorem prefN_end (s : ByteArray) (k : Nat) (h : ¬ k < s.size) : prefN k (s.data.toList.drop k) = k := by rw [drop_endN s k h, prefN]
theorem allN_yes (s : ByteArray) (k : Nat) (h : k < s.size) (ho : okR k (s[k]'h).toNat = true) : allN k (s.data.toList.drop k) = allN (k + 1) (s.data.toList.drop (k + 1)) := by
  rw [drop_consN s k h, allN, ho, Bool.true_and]
theorem allN_no (s : ByteArray) (k : Nat) (h : k < s.size) (ho : okR k (s[k]'h).toNat = false) : allN k (s.data.toList.drop k) = false := by
  rw [drop_consN s k h, allN, ho, Bool.false_and]
theorem allN_end (s : ByteArray) (k : Nat) (h : ¬ k < s.size) : allN k (s.data.toList.drop k) = true := by rw [drop_endN s k h, allN]
theorem okR_zero (r : Int) : okR 0 r = letR r := by simp [okR]
theorem okR_pos (i : Nat) (r : Int) (h : i ≠ 0) : okR i r = (letR r || digR r || decide (r = 45)) := by simp [okR, h, Bool.or_assoc]
end Go.Proofs.YtihcggepeadklaaGreatDoor
/- Letters, digits, and how much of a text is a plain name; the document's plain. -/
namespace Go.Proofs.YtihcggepeadklaaGreatDoor
open Go.RowKit Go.Lib
theorem letR_up {r : Int} (a : 65 ≤ r) (b : r ≤ 90) : letR r = true := by simp [letR, a, b]
theorem letR_low {r : Int} (a : 97 ≤ r) (b : r ≤ 122) : letR r = true := by simp [letR, a, b]
theorem letR_us : letR 95 = true := by decide
theorem letR_not {r : Int} (a : ¬ (65 ≤ r ∧ r ≤ 90)) (b : ¬ (97 ≤ r ∧ r ≤ 122)) (c : r ≠ 95) : letR r = false := by
  rw [Bool.eq_false_iff]
  simp only [letR, ne_eq, Bool.or_eq_true, Bool.and_eq_true, decide_eq_true_eq]
  rintro ((h | h) | h)
  · exact a h
  · exact b h
  · exact c h
set_option maxHeartbeats 1000000 in
theorem plet_any (r : Int) (w : World) : Calls Tryz.prog 100 #[.int .i32 r] w fun e w' => e = .returned (.bool (letR r)) ∧ w' = w := by
  by_cases h95 : r = 95
  · subst h95
    rw [letR_us]
    go_enter Tryz.func100, Tryz.ntmps100
    go_wp2
    go_ret
    exact ⟨rfl, rfl⟩
  · have hb : (r == 95) = false := by rw [beq_eq_false_iff_ne]; exact h95
    by_cases a : 65 ≤ r
    · by_cases b : r ≤ 90
      · rw [letR_up a b]
        clear h95 hb
        go_enter Tryz.func100, Tryz.ntmps100
        go_wp2
        go_ret
        exact ⟨rfl, rfl⟩
      · by_cases c : 97 ≤ r
        · by_cases d : r ≤ 122
          · rw [letR_low c d]
            clear h95 hb
            go_enter Tryz.func100, Tryz.ntmps100
            go_wp2
            go_ret
            exact ⟨rfl, rfl⟩
          · rw [letR_not (by omega) (by omega) h95]
            clear h95
            go_enter Tryz.func100, Tryz.ntmps100
            go_wp2
            go_ret
            exact ⟨rfl, rfl⟩
        · rw [letR_not (by omega) (by omega) h95]
          clear h95
          go_enter Tryz.func100, Tryz.ntmps100
          go_wp2
          go_ret
          exact ⟨rfl, rfl⟩
    · have c : ¬ 97 ≤ r := by omega
      rw [letR_not (by omega) (by omega) h95]
      clear h95
      go_enter Tryz.func100, Tryz.ntmps100
      go_wp2
      go_ret
      exact ⟨rfl, rfl⟩
theorem pdig_any (r : Int) (w : World) : Calls Tryz.prog 101 #[.int .i32 r] w fun e w' => e = .returned (.bool (digR r)) ∧ w' = w := by
  by_cases a : 48 ≤ r
  · by_cases b : r ≤ 57
    · rw [show digR r = true by simp [digR, a, b]]
      go_enter Tryz.func101, Tryz.ntmps101
      go_wp2
      go_ret
      exact ⟨rfl, rfl⟩
    · rw [show digR r = false by simp [digR, a]; omega]
      go_enter Tryz.func101, Tryz.ntmps101
      go_wp2
      go_ret
      exact ⟨rfl, rfl⟩
  · rw [show digR r = false by simp [digR, a]]
    go_enter Tryz.func101, Tryz.ntmps101
    go_wp2
    go_ret
    exact ⟨rfl, rfl⟩
end Go.Proofs.YtihcggepeadklaaGreatDoor
/- path.plainAhead. -/
namespace Go.Proofs.YtihcggepeadklaaGreatDoor
open Go.RowKit Go.Lib
theorem dec_ok (s : ByteArray) (pos : Nat) (h : pos < s.size) (ho : okR pos ((Utf8.decode s pos).1 : Int) = true) : (Utf8.decode s pos).2 = 1 ∧ prefN pos (s.data.toList.drop pos) = prefN (pos + 1) (s.data.toList.drop (pos + 1)) := by
  by_cases ha : (s[pos]'h).toNat < 128
  · rw [decode_ascii s pos h ha] at ho ⊢
    exact ⟨rfl, prefN_yes s pos h ho⟩
  · have := (decode_high s pos h (by omega)).1
    rw [okR_hi _ _ (by omega)] at ho
    exact absurd ho (by decide)
theorem dec_no (s : ByteArray) (pos : Nat) (h : pos < s.size) (ho : okR pos ((Utf8.decode s pos).1 : Int) = false) : prefN pos (s.data.toList.drop pos) = pos := by
  by_cases ha : (s[pos]'h).toNat < 128
  · rw [decode_ascii s pos h ha] at ho
    exact prefN_no s pos h ho
  · exact prefN_no s pos h (okR_hi _ _ (by omega))
theorem below_iter (w : World) (s : ByteArray) (p : Nat) : Below w.heap.size w (w.iter s p) := (Below.refl _ w).alloc (Nat.le_refl _) _
theorem hmkN {p : Prop} (h : p) : Hid p := h
set_option maxRecDepth 100000 in
set_option maxHeartbeats 2000000 in
theorem ahead_any (s : ByteArray) (w : World) (hs : s.size ≤ 281474976710656) :
    Calls Tryz.prog 62 #[.string s] w fun e w' => e = .returned (.int .i64 (prefN 0 s.data.toList)) ∧ Below w.heap.size w w' := by
  have HF : prefN 0 (s.data.toList.drop 0) = prefN 0 s.data.toList := by rw [List.drop_zero]
  generalize prefN 0 s.data.toList = F at *
  go_enter Tryz.func62, Tryz.ntmps62
  go_wp2
  go_loopw [3] (fun _ wr => ∃ pos, wr = w.iter s pos ∧ pos ≤ s.size ∧ prefN pos (s.data.toList.drop pos) = F) (fun _ wr => s.size - wr.iterPos w.heap.size)
  case atStart => exact ⟨0, rfl, Nat.zero_le _, HF⟩
  case round =>
    obtain ⟨pos, rfl, hle, hf⟩ := hrel
    clear HF
    by_cases hp : pos < s.size
    · have hnx : ∀ ty, (Instr.next (.pointer (some ⟨w.heap.size, 0, none⟩)) true ty).run Tryz.prog (w.iter s pos) = _ := fun ty => run_next_any w s pos ty hp
      have HY := hmkN (dec_ok s pos hp)
      have HN := hmkN (dec_no s pos hp)
      generalize (Utf8.decode s pos).1 = r at *
      generalize (Utf8.decode s pos).2 = d at *
      have CL := plet_any r (w.iter s (pos + d))
      have CD := pdig_any r (w.iter s (pos + d))
      cases hL : letR r with
      | true =>
        have HO := hmkN (HY.out (by rw [okR, hL, Bool.true_or]))
        obtain ⟨hd, he⟩ := HO.out
        subst hd
        rw [hL] at CL
        rw [he] at hf
        clear CD HY HN HO hL he
        go_wp2_with (go_at_call 100; refine CL.mono ?_; rintro e w' ⟨rfl, rfl⟩)
        go_roundw
        case rel => exact ⟨pos + 1, rfl, hp, hf⟩
        case measure => simp; omega
      | false =>
        rw [hL] at CL
        by_cases h0 : pos = 0
        · have hr := HN.out (by rw [okR, hL, h0]; rfl)
          rw [hr] at hf
          subst hf
          have hb0 : ((pos : Int) == 0) = true := by rw [h0]; rfl
          clear CD HY HN hL hr hle hs h0
          go_wp2_with (go_at_call 100; refine CL.mono ?_; rintro e w' ⟨rfl, rfl⟩)
          go_ret
          exact ⟨rfl, below_iter _ _ _⟩
        · have hb0 : ((pos : Int) == 0) = false := by rw [beq_eq_false_iff_ne]; omega
          cases hD : digR r with
          | true =>
            obtain ⟨hd, he⟩ := HY.out (by rw [okR_pos _ _ h0, hL, hD]; rfl)
            subst hd
            rw [hD] at CD
            rw [he] at hf
            clear HY HN hL hD he h0
            go_wp2_with (first | (go_at_call 100; refine CL.mono ?_; rintro e w' ⟨rfl, rfl⟩) | (go_at_call 101; refine CD.mono ?_; rintro e w' ⟨rfl, rfl⟩))
            go_roundw
            case rel => exact ⟨pos + 1, rfl, hp, hf⟩
            case measure => simp; omega
          | false =>
            rw [hD] at CD
            by_cases h45 : (r : Int) = 45
            · obtain ⟨hd, he⟩ := HY.out (by rw [okR_pos _ _ h0, hL, hD, h45]; rfl)
              subst hd
              rw [he] at hf
              rw [h45] at CL CD hnx
              clear HY HN hL hD he h0 h45
              go_wp2_with (first | (go_at_call 100; refine CL.mono ?_; rintro e w' ⟨rfl, rfl⟩) | (go_at_call 101; refine CD.mono ?_; rintro e w' ⟨rfl, rfl⟩))
              go_roundw
              case rel => exact ⟨pos + 1, rfl, hp, hf⟩
              case measure => simp; omega
            · have hr := HN.out (by rw [okR_pos _ _ h0, hL, hD]; simp only [Bool.false_or, decide_eq_false_iff_not]; exact h45)
              have hb5 : ((r : Int) == 45) = false := by rw [beq_eq_false_iff_ne]; exact h45
              have hb6 : ((r : Int) != 45) = true := by rw [bne_iff_ne]; exact h45
              rw [hr] at hf
              subst hf
              clear HY HN hL hD hr hle hs h0 h45
              go_wp2_with (first | (go_at_call 100; refine CL.mono ?_; rintro e w' ⟨rfl, rfl⟩) | (go_at_call 101; refine CD.mono ?_; rintro e w' ⟨rfl, rfl⟩))
              go_ret
              exact ⟨rfl, below_iter _ _ _⟩
    · have hnx : ∀ ty, (Instr.next (.pointer (some ⟨w.heap.size, 0, none⟩)) true ty).run Tryz.prog (w.iter s pos) = _ := fun ty => run_next_end w s pos ty hp
      have hq : F = s.size := by rw [← hf, prefN_end s pos hp]; omega
      subst hq
      clear hf
      go_wp2
      go_ret
      exact ⟨rfl, below_iter _ _ _⟩
end Go.Proofs.YtihcggepeadklaaGreatDoor
/- The document's plain. -/
namespace Go.Proofs.YtihcggepeadklaaGreatDoor
open Go.RowKit Go.Lib
set_option maxHeartbeats 1000000 in
theorem rfst_any (r : Int) (w : World) : Calls Tryz.prog 91 #[.int .u8 r] w fun e w' => e = .returned (.bool (letR r)) ∧ w' = w := by
  by_cases h95 : r = 95
  · subst h95
    rw [letR_us]
    go_enter Tryz.func91, Tryz.ntmps91
    go_wp2
    go_ret
    exact ⟨rfl, rfl⟩
  · have hb : (r == 95) = false := by rw [beq_eq_false_iff_ne]; exact h95
    by_cases c : 97 ≤ r
    · by_cases d : r ≤ 122
      · rw [letR_low c d]
        clear h95 hb
        go_enter Tryz.func91, Tryz.ntmps91
        go_wp2
        go_ret
        exact ⟨rfl, rfl⟩
      · have a : 65 ≤ r := by omega
        have b : ¬ r ≤ 90 := by omega
        rw [letR_not (by omega) (by omega) h95]
        clear h95
        go_enter Tryz.func91, Tryz.ntmps91
        go_wp2
        go_ret
        exact ⟨rfl, rfl⟩
    · by_cases a : 65 ≤ r
      · by_cases b : r ≤ 90
        · rw [letR_up a b]
          clear h95 hb
          go_enter Tryz.func91, Tryz.ntmps91
          go_wp2
          go_ret
          exact ⟨rfl, rfl⟩
        · rw [letR_not (by omega) (by omega) h95]
          clear h95
          go_enter Tryz.func91, Tryz.ntmps91
          go_wp2
          go_ret
          exact ⟨rfl, rfl⟩
      · rw [letR_not (by omega) (by omega) h95]
        clear h95
        go_enter Tryz.func91, Tryz.ntmps91
        go_wp2
        go_ret
        exact ⟨rfl, rfl⟩
/-- a byte behind a name's first -/
def latR (r : Int) : Bool := letR r || digR r || decide (r = 45)
set_option maxHeartbeats 1000000 in
theorem rlat_any (r : Int) (w : World) : Calls Tryz.prog 92 #[.int .u8 r] w fun e w' => e = .returned (.bool (latR r)) ∧ w' = w := by
  have CF := rfst_any r w
  cases hL : letR r with
  | true =>
    rw [show latR r = true by rw [latR, hL]; rfl]
    rw [hL] at CF
    clear hL
    go_enter Tryz.func92, Tryz.ntmps92
    go_wp2_with (go_at_call 91; refine CF.mono ?_; rintro e w' ⟨rfl, rfl⟩)
    go_ret
    exact ⟨rfl, rfl⟩
  | false =>
    rw [hL] at CF
    by_cases a : 48 ≤ r
    · by_cases b : r ≤ 57
      · rw [show latR r = true by rw [latR, hL, show digR r = true by simp [digR, a, b]]; rfl]
        clear hL
        go_enter Tryz.func92, Tryz.ntmps92
        go_wp2_with (go_at_call 91; refine CF.mono ?_; rintro e w' ⟨rfl, rfl⟩)
        go_ret
        exact ⟨rfl, rfl⟩
      · have hb : (r == 45) = false := by rw [beq_eq_false_iff_ne]; omega
        rw [show latR r = false by rw [latR, hL, show digR r = false by simp [digR, a]; omega]; simp; omega]
        clear hL
        go_enter Tryz.func92, Tryz.ntmps92
        go_wp2_with (go_at_call 91; refine CF.mono ?_; rintro e w' ⟨rfl, rfl⟩)
        go_ret
        exact ⟨by show Ending.returned (.bool (decide (r ≤ 57))) = _; rw [decide_eq_false (Int.not_le.2 b)], rfl⟩
    · have hD : digR r = false := by simp [digR, a]
      by_cases h45 : r = 45
      · subst h45
        rw [show latR 45 = true by decide]
        clear hL hD
        go_enter Tryz.func92, Tryz.ntmps92
        go_wp2_with (go_at_call 91; refine CF.mono ?_; rintro e w' ⟨rfl, rfl⟩)
        go_ret
        exact ⟨rfl, rfl⟩
      · have hb : (r == 45) = false := by rw [beq_eq_false_iff_ne]; exact h45
        rw [show latR r = false by rw [latR, hL, hD]; simpa using h45]
        clear hL hD h45
        go_enter Tryz.func92, Tryz.ntmps92
        go_wp2_with (go_at_call 91; refine CF.mono ?_; rintro e w' ⟨rfl, rfl⟩)
        go_ret
        exact ⟨rfl, rfl⟩
end Go.Proofs.YtihcggepeadklaaGreatDoor
