/- joined: SmzA NamP NamA -/
import Derived.Test.YtihcggepeadklaaGreatDoorSmpB
import Derived.Test.YtihcggepeadklaaGreatDoorG16
import Derived.Laws.RangeAny
/- valueSame of unlike scalars. -/
set_option linter.unusedSimpArgs false
set_option linter.unusedVariables false
namespace Go.Proofs.YtihcggepeadklaaGreatDoor
open Go.RowKit Go.Lib
set_option maxHeartbeats 8000000 in
set_option maxRecDepth 100000 in
theorem vdiff_any (k : Int) (b : Bool) (i : Int) (s : ByteArray) (al : Option Addr) (cl : Nat) (am : Option Addr) (cm : Nat) (k2 : Int) (b2 : Bool) (i2 : Int) (s2 : ByteArray) (al2 : Option Addr) (cl2 : Nat) (am2 : Option Addr) (cm2 : Nat) (w : World) (hne : ¬ (k = k2 ∧ b = b2 ∧ i = i2 ∧ s = s2)) :
    Calls Tryz.prog 46 #[.agg #[.int .i64 k, .bool b, .int .i64 i, .string s, .slice al 0 cl, .slice am 0 cm], .agg #[.int .i64 k2, .bool b2, .int .i64 i2, .string s2, .slice al2 0 cl2, .slice am2 0 cm2], .int .i64 0] w (BPost false w) := by
  have HNE := hmk hne
  clear hne
  by_cases h0 : k = k2
  rotate_left
  · have y0 : (k != k2) = true := bne_iff_ne.2 h0
    clear h0
    have hb0 := box_row w [.int .i64 k, .bool b, .int .i64 i, .string s, .slice al 0 cl, .slice am 0 cm] 46
    have hb1 : rowAt ((w.alloc (.cells #[.int .i64 k, .bool b, .int .i64 i, .string s, .slice al 0 cl, .slice am 0 cm] 46)).alloc (.cells #[.int .i64 k2, .bool b2, .int .i64 i2, .string s2, .slice al2 0 cl2, .slice am2 0 cm2] 46)) w.heap.size 0 [.int .i64 k, .bool b, .int .i64 i, .string s, .slice al 0 cl, .slice am 0 cm] := hb0.keep (Below.heap_alloc _ _ _ (by rw [alloc_size]; omega))
    have hb2 : rowAt ((w.alloc (.cells #[.int .i64 k, .bool b, .int .i64 i, .string s, .slice al 0 cl, .slice am 0 cm] 46)).alloc (.cells #[.int .i64 k2, .bool b2, .int .i64 i2, .string s2, .slice al2 0 cl2, .slice am2 0 cm2] 46)) (w.heap.size + 1) 0 [.int .i64 k2, .bool b2, .int .i64 i2, .string s2, .slice al2 0 cl2, .slice am2 0 cm2] := by
      have := box_row (w.alloc (.cells #[.int .i64 k, .bool b, .int .i64 i, .string s, .slice al 0 cl, .slice am 0 cm] 46)) [.int .i64 k2, .bool b2, .int .i64 i2, .string s2, .slice al2 0 cl2, .slice am2 0 cm2] 46
      rwa [alloc_size] at this
    have B0 := two_below w (.cells #[.int .i64 k, .bool b, .int .i64 i, .string s, .slice al 0 cl, .slice am 0 cm] 46) (.cells #[.int .i64 k2, .bool b2, .int .i64 i2, .string s2, .slice al2 0 cl2, .slice am2 0 cm2] 46)
    obtain ⟨d0, d1, d2, d3, d4, d5⟩ := row6z hb1
    obtain ⟨g0, g1, g2, g3, g4, g5⟩ := row6z hb2
    have HB := hmk B0
    clear hb0 hb1 hb2 B0
    go_enter Tryz.func46, Tryz.ntmps46
    go_wp2_with fail
    go_ret
    exact ⟨rfl, HB.out⟩
  subst h0
  by_cases h1 : b = b2
  rotate_left
  · obtain rfl : b2 = !b := by cases b <;> cases b2 <;> first | rfl | exact absurd rfl h1
    have y1 : (b != !b) = true := by cases b <;> rfl
    have yy1 : (b == !b) = false := by cases b <;> rfl
    clear h1
    have hb0 := box_row w [.int .i64 k, .bool b, .int .i64 i, .string s, .slice al 0 cl, .slice am 0 cm] 46
    have hb1 : rowAt ((w.alloc (.cells #[.int .i64 k, .bool b, .int .i64 i, .string s, .slice al 0 cl, .slice am 0 cm] 46)).alloc (.cells #[.int .i64 k, .bool (!b), .int .i64 i2, .string s2, .slice al2 0 cl2, .slice am2 0 cm2] 46)) w.heap.size 0 [.int .i64 k, .bool b, .int .i64 i, .string s, .slice al 0 cl, .slice am 0 cm] := hb0.keep (Below.heap_alloc _ _ _ (by rw [alloc_size]; omega))
    have hb2 : rowAt ((w.alloc (.cells #[.int .i64 k, .bool b, .int .i64 i, .string s, .slice al 0 cl, .slice am 0 cm] 46)).alloc (.cells #[.int .i64 k, .bool (!b), .int .i64 i2, .string s2, .slice al2 0 cl2, .slice am2 0 cm2] 46)) (w.heap.size + 1) 0 [.int .i64 k, .bool (!b), .int .i64 i2, .string s2, .slice al2 0 cl2, .slice am2 0 cm2] := by
      have := box_row (w.alloc (.cells #[.int .i64 k, .bool b, .int .i64 i, .string s, .slice al 0 cl, .slice am 0 cm] 46)) [.int .i64 k, .bool (!b), .int .i64 i2, .string s2, .slice al2 0 cl2, .slice am2 0 cm2] 46
      rwa [alloc_size] at this
    have B0 := two_below w (.cells #[.int .i64 k, .bool b, .int .i64 i, .string s, .slice al 0 cl, .slice am 0 cm] 46) (.cells #[.int .i64 k, .bool (!b), .int .i64 i2, .string s2, .slice al2 0 cl2, .slice am2 0 cm2] 46)
    obtain ⟨d0, d1, d2, d3, d4, d5⟩ := row6z hb1
    obtain ⟨g0, g1, g2, g3, g4, g5⟩ := row6z hb2
    have HB := hmk B0
    clear hb0 hb1 hb2 B0
    go_enter Tryz.func46, Tryz.ntmps46
    go_wp2_with fail
    go_ret
    exact ⟨rfl, HB.out⟩
  subst h1
  by_cases h2 : i = i2
  rotate_left
  · have y2 : (i != i2) = true := bne_iff_ne.2 h2
    clear h2
    have hb0 := box_row w [.int .i64 k, .bool b, .int .i64 i, .string s, .slice al 0 cl, .slice am 0 cm] 46
    have hb1 : rowAt ((w.alloc (.cells #[.int .i64 k, .bool b, .int .i64 i, .string s, .slice al 0 cl, .slice am 0 cm] 46)).alloc (.cells #[.int .i64 k, .bool b, .int .i64 i2, .string s2, .slice al2 0 cl2, .slice am2 0 cm2] 46)) w.heap.size 0 [.int .i64 k, .bool b, .int .i64 i, .string s, .slice al 0 cl, .slice am 0 cm] := hb0.keep (Below.heap_alloc _ _ _ (by rw [alloc_size]; omega))
    have hb2 : rowAt ((w.alloc (.cells #[.int .i64 k, .bool b, .int .i64 i, .string s, .slice al 0 cl, .slice am 0 cm] 46)).alloc (.cells #[.int .i64 k, .bool b, .int .i64 i2, .string s2, .slice al2 0 cl2, .slice am2 0 cm2] 46)) (w.heap.size + 1) 0 [.int .i64 k, .bool b, .int .i64 i2, .string s2, .slice al2 0 cl2, .slice am2 0 cm2] := by
      have := box_row (w.alloc (.cells #[.int .i64 k, .bool b, .int .i64 i, .string s, .slice al 0 cl, .slice am 0 cm] 46)) [.int .i64 k, .bool b, .int .i64 i2, .string s2, .slice al2 0 cl2, .slice am2 0 cm2] 46
      rwa [alloc_size] at this
    have B0 := two_below w (.cells #[.int .i64 k, .bool b, .int .i64 i, .string s, .slice al 0 cl, .slice am 0 cm] 46) (.cells #[.int .i64 k, .bool b, .int .i64 i2, .string s2, .slice al2 0 cl2, .slice am2 0 cm2] 46)
    obtain ⟨d0, d1, d2, d3, d4, d5⟩ := row6z hb1
    obtain ⟨g0, g1, g2, g3, g4, g5⟩ := row6z hb2
    have HB := hmk B0
    clear hb0 hb1 hb2 B0
    go_enter Tryz.func46, Tryz.ntmps46
    go_wp2_with fail
    go_ret
    exact ⟨rfl, HB.out⟩
  subst h2
  by_cases h3 : s = s2
  rotate_left
  · have hn3 : s.toList ≠ s2.toList := fun h => h3 (bytes_eq h)
    have y3 : (s.toList != s2.toList) = true := bne_iff_ne.2 hn3
    have yy3 : (s.toList == s2.toList) = false := beq_eq_false_iff_ne.2 hn3
    clear h3
    have hb0 := box_row w [.int .i64 k, .bool b, .int .i64 i, .string s, .slice al 0 cl, .slice am 0 cm] 46
    have hb1 : rowAt ((w.alloc (.cells #[.int .i64 k, .bool b, .int .i64 i, .string s, .slice al 0 cl, .slice am 0 cm] 46)).alloc (.cells #[.int .i64 k, .bool b, .int .i64 i, .string s2, .slice al2 0 cl2, .slice am2 0 cm2] 46)) w.heap.size 0 [.int .i64 k, .bool b, .int .i64 i, .string s, .slice al 0 cl, .slice am 0 cm] := hb0.keep (Below.heap_alloc _ _ _ (by rw [alloc_size]; omega))
    have hb2 : rowAt ((w.alloc (.cells #[.int .i64 k, .bool b, .int .i64 i, .string s, .slice al 0 cl, .slice am 0 cm] 46)).alloc (.cells #[.int .i64 k, .bool b, .int .i64 i, .string s2, .slice al2 0 cl2, .slice am2 0 cm2] 46)) (w.heap.size + 1) 0 [.int .i64 k, .bool b, .int .i64 i, .string s2, .slice al2 0 cl2, .slice am2 0 cm2] := by
      have := box_row (w.alloc (.cells #[.int .i64 k, .bool b, .int .i64 i, .string s, .slice al 0 cl, .slice am 0 cm] 46)) [.int .i64 k, .bool b, .int .i64 i, .string s2, .slice al2 0 cl2, .slice am2 0 cm2] 46
      rwa [alloc_size] at this
    have B0 := two_below w (.cells #[.int .i64 k, .bool b, .int .i64 i, .string s, .slice al 0 cl, .slice am 0 cm] 46) (.cells #[.int .i64 k, .bool b, .int .i64 i, .string s2, .slice al2 0 cl2, .slice am2 0 cm2] 46)
    obtain ⟨d0, d1, d2, d3, d4, d5⟩ := row6z hb1
    obtain ⟨g0, g1, g2, g3, g4, g5⟩ := row6z hb2
    have HB := hmk B0
    clear hb0 hb1 hb2 B0
    go_enter Tryz.func46, Tryz.ntmps46
    go_wp2_with fail
    go_ret
    exact ⟨rfl, HB.out⟩
  subst h3
  exact absurd ⟨rfl, rfl, rfl, rfl⟩ HNE.out
/-- the same, as values: those of two scalars without lists -/
theorem vcmp_any (v u : V) (S S' : Nat → Prop) (cs ds : List Value) (w : World) (hv : ∃ k b i s, v = .mk k b i s [] []) (hu : ∃ k b i s, u = .mk k b i s [] []) (hl : v.lies false w S cs) (hl' : u.lies false w S' ds) (hS : ∀ x, S x → x < w.heap.size) (hS' : ∀ x, S' x → x < w.heap.size) (E : Bool) (hE : E = true ↔ v = u) :
    Calls Tryz.prog 46 #[.agg cs.toArray, .agg ds.toArray, .int .i64 0] w (BPost E w) := by
  cases E with
  | true =>
    obtain rfl := hE.1 rfl
    exact vsame_any v 0 S S' cs ds w (by omega) (by omega) hl hl' hS hS'
  | false =>
    obtain ⟨k, b, i, s, rfl⟩ := hv
    obtain ⟨k2, b2, i2, s2, rfl⟩ := hu
    rw [V.lies] at hl hl'
    obtain ⟨al, cl, bl, ol, am, cm, bm, om, rfl, _⟩ := hl
    obtain ⟨al2, cl2, bl2, ol2, am2, cm2, bm2, om2, rfl, _⟩ := hl'
    refine vdiff_any k b i s al cl am cm k2 b2 i2 s2 al2 cl2 am2 cm2 w (fun h => ?_)
    obtain ⟨rfl, rfl, rfl, rfl⟩ := h
    exact Bool.noConfusion (hE.2 rfl)
end Go.Proofs.YtihcggepeadklaaGreatDoor
/- Names that need not be quoted, as plain functions. -/
namespace Go.Proofs.YtihcggepeadklaaGreatDoor
open Go.RowKit Go.Lib
/-- a letter, or an underscore -/
def letR (r : Int) : Bool := (decide (65 ≤ r) && decide (r ≤ 90)) || (decide (97 ≤ r) && decide (r ≤ 122)) || decide (r = 95)
def digR (r : Int) : Bool := decide (48 ≤ r) && decide (r ≤ 57)
/-- may a byte stand at a place of a plain name? -/
def okR (i : Nat) (r : Int) : Bool := letR r || (decide (i ≠ 0) && (digR r || decide (r = 45)))
/-- how many bytes at the front are a plain name -/
def prefN : Nat → List UInt8 → Nat
  | i, [] => i
  | i, c :: t => if okR i c.toNat = true then prefN (i + 1) t else i
def allN : Nat → List UInt8 → Bool
  | _, [] => true
  | i, c :: t => okR i c.toNat && allN (i + 1) t
theorem prefN_le : ∀ (l : List UInt8) (i : Nat), i ≤ prefN i l ∧ prefN i l ≤ i + l.length
  | [], i => by simp [prefN]
  | c :: t, i => by
    have := prefN_le t (i + 1)
    rw [prefN]
    split
    · rw [List.length_cons]; omega
    · rw [List.length_cons]; omega
theorem prefN_all : ∀ (l : List UInt8) (i : Nat), (prefN i l = i + l.length) ↔ allN i l = true
  | [], i => by simp [prefN, allN]
  | c :: t, i => by
    rw [prefN, allN, List.length_cons, Bool.and_eq_true, ← prefN_all t (i + 1)]
    split
    · rename_i h; rw [h]; simp only [true_and]; omega
    · rename_i h
      have h1 : ¬ okR i c.toNat = true := h
      constructor
      · intro h2; omega
      · intro h2; exact absurd h2.1 h1
/-- need the name not be quoted? -/
def plnN (l : List UInt8) : Bool := !l.isEmpty && allN 0 l
/-- a name as it is written -/
def nmT (l : List UInt8) : List UInt8 := if plnN l = true then l else Q.qt l
theorem okR_hi (i : Nat) (r : Int) (h : 128 ≤ r) : okR i r = false := by
  have h1 : decide (r ≤ 90) = false := by rw [decide_eq_false_iff_not]; omega
  have h2 : decide (r ≤ 122) = false := by rw [decide_eq_false_iff_not]; omega
  have h3 : decide (r = 95) = false := by rw [decide_eq_false_iff_not]; omega
  have h4 : decide (r ≤ 57) = false := by rw [decide_eq_false_iff_not]; omega
  have h5 : decide (r = 45) = false := by rw [decide_eq_false_iff_not]; omega
  simp only [okR, letR, digR, h1, h2, h3, h4, h5, Bool.and_false, Bool.or_false]
theorem drop_consN (s : ByteArray) (k : Nat) (h : k < s.size) : s.data.toList.drop k = s[k] :: s.data.toList.drop (k + 1) := by
  rw [List.drop_eq_getElem_cons (by simpa using h)]; rfl
theorem drop_endN (s : ByteArray) (k : Nat) (h : ¬ k < s.size) : s.data.toList.drop k = [] := List.drop_eq_nil_of_le (by simpa using Nat.le_of_not_lt h)
theorem prefN_yes (s : ByteArray) (k : Nat) (h : k < s.size) (ho : okR k (s[k]'h).toNat = true) : prefN k (s.data.toList.drop k) = prefN (k + 1) (s.data.toList.drop (k + 1)) := by
  rw [drop_consN s k h, prefN, if_pos ho]
theorem prefN_no (s : ByteArray) (k : Nat) (h : k < s.size) (ho : okR k (s[k]'h).toNat = false) : prefN k (s.data.toList.drop k) = k := by
  rw [drop_consN s k h, prefN, if_neg (by rw [ho]; decide)]
theorem prefN_end (s : ByteArray) (k : Nat) (h : ¬ k < s.size) : prefN k (s.data.toList.drop k) = k := by rw [drop_endN s k h, prefN]
theorem okR_pos (i : Nat) (r : Int) (h : i ≠ 0) : okR i r = (letR r || digR r || decide (r = 45)) := by simp [okR, h, Bool.or_assoc]
end Go.Proofs.YtihcggepeadklaaGreatDoor
/- Letters, digits, and how much of a text is a plain name; the document's plain. -/
namespace Go.Proofs.YtihcggepeadklaaGreatDoor
open Go.RowKit Go.Lib
theorem letR_up {r : Int} (a : 65 ≤ r) (b : r ≤ 90) : letR r = true := by simp [letR, a, b]
theorem letR_low {r : Int} (a : 97 ≤ r) (b : r ≤ 122) : letR r = true := by simp [letR, a, b]
theorem letR_us : letR 95 = true := by decide
theorem letR_not {r : Int} (a : ¬ (65 ≤ r ∧ r ≤ 90)) (b : ¬ (97 ≤ r ∧ r ≤ 122)) (c : r ≠ 95) : letR r = false := by
  rw [Bool.eq_false_iff]
  simp only [letR, ne_eq, Bool.or_eq_true, Bool.and_eq_true, decide_eq_true_eq]
  rintro ((h | h) | h)
  · exact a h
  · exact b h
  · exact c h
set_option maxHeartbeats 1000000 in
theorem plet_any (r : Int) (w : World) : Calls Tryz.prog 100 #[.int .i32 r] w fun e w' => e = .returned (.bool (letR r)) ∧ w' = w := by
  by_cases h95 : r = 95
  · subst h95
    rw [letR_us]
    go_enter Tryz.func100, Tryz.ntmps100
    go_wp2
    go_ret
    exact ⟨rfl, rfl⟩
  · have hb : (r == 95) = false := by rw [beq_eq_false_iff_ne]; exact h95
    by_cases a : 65 ≤ r
    · by_cases b : r ≤ 90
      · rw [letR_up a b]
        clear h95 hb
        go_enter Tryz.func100, Tryz.ntmps100
        go_wp2
        go_ret
        exact ⟨rfl, rfl⟩
      · by_cases c : 97 ≤ r
        · by_cases d : r ≤ 122
          · rw [letR_low c d]
            clear h95 hb
            go_enter Tryz.func100, Tryz.ntmps100
            go_wp2
            go_ret
            exact ⟨rfl, rfl⟩
          · rw [letR_not (by omega) (by omega) h95]
            clear h95
            go_enter Tryz.func100, Tryz.ntmps100
            go_wp2
            go_ret
            exact ⟨rfl, rfl⟩
        · rw [letR_not (by omega) (by omega) h95]
          clear h95
          go_enter Tryz.func100, Tryz.ntmps100
          go_wp2
          go_ret
          exact ⟨rfl, rfl⟩
    · have c : ¬ 97 ≤ r := by omega
      rw [letR_not (by omega) (by omega) h95]
      clear h95
      go_enter Tryz.func100, Tryz.ntmps100
      go_wp2
      go_ret
      exact ⟨rfl, rfl⟩
theorem pdig_any (r : Int) (w : World) : Calls Tryz.prog 101 #[.int .i32 r] w fun e w' => e = .returned (.bool (digR r)) ∧ w' = w := by
  by_cases a : 48 ≤ r
  · by_cases b : r ≤ 57
    · rw [show digR r = true by simp [digR, a, b]]
      go_enter Tryz.func101, Tryz.ntmps101
      go_wp2
      go_ret
      exact ⟨rfl, rfl⟩
    · rw [show digR r = false by simp [digR, a]; omega]
      go_enter Tryz.func101, Tryz.ntmps101
      go_wp2
      go_ret
      exact ⟨rfl, rfl⟩
  · rw [show digR r = false by simp [digR, a]]
    go_enter Tryz.func101, Tryz.ntmps101
    go_wp2
    go_ret
    exact ⟨rfl, rfl⟩
end Go.Proofs.YtihcggepeadklaaGreatDoor
