/- joined: BckR SmzA -/
import Derived.Test.YtihcggepeadklaaGreatDoorBckQ
/- What Parse answers, for a walk. -/
set_option linter.unusedSimpArgs false
set_option linter.unusedVariables false
namespace Go.Proofs.YtihcggepeadklaaGreatDoor
open Go.RowKit Go.Lib
theorem par_wt (s : ByteArray) : ∀ (n k : Nat) (acc : List El), wtP (parF s.data.toList n k acc).1 ≤ wtP acc + n * (16 * s.size + 20)
  | 0, k, acc => by rw [parF]; dsimp only; omega
  | n + 1, k, acc => by
    rw [parF, Nat.add_mul]
    split
    · split
      · simp [wtP]
      · split
        · simp [wtP]
        · rename_i e k1 he
          have ih := par_wt s n k1 (acc ++ [e])
          have hw : e.wt ≤ 16 * s.size + 20 := by
            unfold nxtF at he
            split at he
            · cases he
            · rename_i x' k1' hx
              split at he
              · split at he
                · have e1 := congrArg Prod.fst (Option.some.inj he)
                  dsimp only at e1
                  subst e1
                  exact elmF_wt hx
                · cases he
              · cases he
          rw [wtP_app] at ih
          simp only [wtP] at ih
          omega
    · dsimp only; omega
theorem ext_take (s : ByteArray) (j : Nat) : (s.extract 0 j).data.toList = s.data.toList.take j := by
  simp [ByteArray.data_extract, Array.toList_extract]
/-- what Parse answers of a text: the path, whose own text it is, or a place -/
def BkP (s : ByteArray) (w : World) (e : Ending) (w' : World) : Prop :=
  (∃ (r : List El) (ap : Option Addr) (cp bp op : Nat), e = .returned (.tuple #[.slice ap r.length cp, .int .i64 (-1), .int .i64 0]) ∧ Headed ap r.length cp bp op ∧ liesP w' (New w w') r bp op ∧ pathB r = true ∧ tT r = s.data.toList ∧ wtP r ≤ 2147483647 ∧ Below w.heap.size w w') ∨
  (∃ (j : Nat) (ap : Option Addr) (cp : Nat), e = .returned (.tuple #[.slice ap 0 cp, .int .i64 (j : Int), .int .i64 90]) ∧ j < s.size ∧ (∀ W, Td W → Calls Tryz.prog 11 #[.string (s.extract 0 j)] W (fun e W' => ∃ (ap : Option Addr) (n cp : Nat), e = .returned (.tuple #[.slice ap n cp, .int .i64 (-1), .int .i64 0]) ∧ Below W.heap.size W W')) ∧ Below w.heap.size w w')
theorem parse_back (s : ByteArray) (w : World) (t : Td w) (hs : s.size ≤ 1048576) : Calls Tryz.prog 11 #[.string s] w (BkP s w) := by
  have c := parse_any s w t (by omega)
  have hwt : wtP (parF s.data.toList 33 0 []).1 ≤ 33 * (16 * s.size + 20) := by
    have h := par_wt s 33 0 []
    have e0 : wtP ([] : List El) = 0 := rfl
    rw [e0, Nat.zero_add] at h
    exact h
  have hsay := par_says s.data.toList
  generalize parF s.data.toList 33 0 [] = P at *
  rcases hsay with ⟨r, h1, h2, h3, h4⟩ | ⟨j, h1, h2, r, h3⟩
  · subst h1
    refine c.mono ?_
    rintro e w' ⟨ap, cp, bp, op, rfl, g1, g2, g3⟩
    refine .inl ⟨r, ap, cp, bp, op, rfl, g1, g2, h2, by rw [tT, if_pos h2, h4], ?_, g3⟩
    dsimp only at hwt
    omega
  · subst h1
    refine c.mono ?_
    rintro e w' ⟨ap, cp, bp, op, rfl, g1, g2, g3⟩
    refine .inr ⟨j, ap, cp, rfl, by simpa using h2, fun W hW => ?_, g3⟩
    have c2 := parse_any (s.extract 0 j) W hW (by
      have : (s.extract 0 j).size ≤ s.size := by rw [ByteArray.size_extract]; omega
      omega)
    rw [ext_take, h3] at c2
    refine c2.mono ?_
    rintro e w' ⟨ap, cp, bp, op, rfl, g1, g2, g3⟩
    exact ⟨ap, r.length, cp, rfl, g3⟩
theorem bytes_back {s : ByteArray} {l : List UInt8} (h : l = s.data.toList) : (⟨l.toArray⟩ : ByteArray) = s := by
  subst h; simp
end Go.Proofs.YtihcggepeadklaaGreatDoor
/- valueSame of unlike scalars. -/
namespace Go.Proofs.YtihcggepeadklaaGreatDoor
open Go.RowKit Go.Lib
set_option maxHeartbeats 8000000 in
set_option maxRecDepth 100000 in
theorem vdiff_any (k : Int) (b : Bool) (i : Int) (s : ByteArray) (al : Option Addr) (cl : Nat) (am : Option Addr) (cm : Nat) (k2 : Int) (b2 : Bool) (i2 : Int) (s2 : ByteArray) (al2 : Option Addr) (cl2 : Nat) (am2 : Option Addr) (cm2 : Nat) (w : World) (hne : ¬ (k = k2 ∧ b = b2 ∧ i = i2 ∧ s = s2)) :
    Calls Tryz.prog 46 #[.agg #[.int .i64 k, .bool b, .int .i64 i, .string s, .slice al 0 cl, .slice am 0 cm], .agg #[.int .i64 k2, .bool b2, .int .i64 i2, .string s2, .slice al2 0 cl2, .slice am2 0 cm2], .int .i64 0] w (BPost false w) := by
  have HNE := hmk hne
  clear hne
  by_cases h0 : k = k2
  rotate_left
  · have y0 : (k != k2) = true := bne_iff_ne.2 h0
    clear h0
    have hb0 := box_row w [.int .i64 k, .bool b, .int .i64 i, .string s, .slice al 0 cl, .slice am 0 cm] 46
    have hb1 : rowAt ((w.alloc (.cells #[.int .i64 k, .bool b, .int .i64 i, .string s, .slice al 0 cl, .slice am 0 cm] 46)).alloc (.cells #[.int .i64 k2, .bool b2, .int .i64 i2, .string s2, .slice al2 0 cl2, .slice am2 0 cm2] 46)) w.heap.size 0 [.int .i64 k, .bool b, .int .i64 i, .string s, .slice al 0 cl, .slice am 0 cm] := hb0.keep (Below.heap_alloc _ _ _ (by rw [alloc_size]; omega))
    have hb2 : rowAt ((w.alloc (.cells #[.int .i64 k, .bool b, .int .i64 i, .string s, .slice al 0 cl, .slice am 0 cm] 46)).alloc (.cells #[.int .i64 k2, .bool b2, .int .i64 i2, .string s2, .slice al2 0 cl2, .slice am2 0 cm2] 46)) (w.heap.size + 1) 0 [.int .i64 k2, .bool b2, .int .i64 i2, .string s2, .slice al2 0 cl2, .slice am2 0 cm2] := by
      have := box_row (w.alloc (.cells #[.int .i64 k, .bool b, .int .i64 i, .string s, .slice al 0 cl, .slice am 0 cm] 46)) [.int .i64 k2, .bool b2, .int .i64 i2, .string s2, .slice al2 0 cl2, .slice am2 0 cm2] 46
      rwa [alloc_size] at this
    have B0 := two_below w (.cells #[.int .i64 k, .bool b, .int .i64 i, .string s, .slice al 0 cl, .slice am 0 cm] 46) (.cells #[.int .i64 k2, .bool b2, .int .i64 i2, .string s2, .slice al2 0 cl2, .slice am2 0 cm2] 46)
    obtain ⟨d0, d1, d2, d3, d4, d5⟩ := row6z hb1
    obtain ⟨g0, g1, g2, g3, g4, g5⟩ := row6z hb2
    have HB := hmk B0
    clear hb0 hb1 hb2 B0
    go_enter Tryz.func46, Tryz.ntmps46
    go_wp2_with fail
    go_ret
    exact ⟨rfl, HB.out⟩
  subst h0
  by_cases h1 : b = b2
  rotate_left
  · obtain rfl : b2 = !b := by cases b <;> cases b2 <;> first | rfl | exact absurd rfl h1
    have y1 : (b != !b) = true := by cases b <;> rfl
    have yy1 : (b == !b) = false := by cases b <;> rfl
    clear h1
    have hb0 := box_row w [.int .i64 k, .bool b, .int .i64 i, .string s, .slice al 0 cl, .slice am 0 cm] 46
    have hb1 : rowAt ((w.alloc (.cells #[.int .i64 k, .bool b, .int .i64 i, .string s, .slice al 0 cl, .slice am 0 cm] 46)).alloc (.cells #[.int .i64 k, .bool (!b), .int .i64 i2, .string s2, .slice al2 0 cl2, .slice am2 0 cm2] 46)) w.heap.size 0 [.int .i64 k, .bool b, .int .i64 i, .string s, .slice al 0 cl, .slice am 0 cm] := hb0.keep (Below.heap_alloc _ _ _ (by rw [alloc_size]; omega))
    have hb2 : rowAt ((w.alloc (.cells #[.int .i64 k, .bool b, .int .i64 i, .string s, .slice al 0 cl, .slice am 0 cm] 46)).alloc (.cells #[.int .i64 k, .bool (!b), .int .i64 i2, .string s2, .slice al2 0 cl2, .slice am2 0 cm2] 46)) (w.heap.size + 1) 0 [.int .i64 k, .bool (!b), .int .i64 i2, .string s2, .slice al2 0 cl2, .slice am2 0 cm2] := by
      have := box_row (w.alloc (.cells #[.int .i64 k, .bool b, .int .i64 i, .string s, .slice al 0 cl, .slice am 0 cm] 46)) [.int .i64 k, .bool (!b), .int .i64 i2, .string s2, .slice al2 0 cl2, .slice am2 0 cm2] 46
      rwa [alloc_size] at this
    have B0 := two_below w (.cells #[.int .i64 k, .bool b, .int .i64 i, .string s, .slice al 0 cl, .slice am 0 cm] 46) (.cells #[.int .i64 k, .bool (!b), .int .i64 i2, .string s2, .slice al2 0 cl2, .slice am2 0 cm2] 46)
    obtain ⟨d0, d1, d2, d3, d4, d5⟩ := row6z hb1
    obtain ⟨g0, g1, g2, g3, g4, g5⟩ := row6z hb2
    have HB := hmk B0
    clear hb0 hb1 hb2 B0
    go_enter Tryz.func46, Tryz.ntmps46
    go_wp2_with fail
    go_ret
    exact ⟨rfl, HB.out⟩
  subst h1
  by_cases h2 : i = i2
  rotate_left
  · have y2 : (i != i2) = true := bne_iff_ne.2 h2
    clear h2
    have hb0 := box_row w [.int .i64 k, .bool b, .int .i64 i, .string s, .slice al 0 cl, .slice am 0 cm] 46
    have hb1 : rowAt ((w.alloc (.cells #[.int .i64 k, .bool b, .int .i64 i, .string s, .slice al 0 cl, .slice am 0 cm] 46)).alloc (.cells #[.int .i64 k, .bool b, .int .i64 i2, .string s2, .slice al2 0 cl2, .slice am2 0 cm2] 46)) w.heap.size 0 [.int .i64 k, .bool b, .int .i64 i, .string s, .slice al 0 cl, .slice am 0 cm] := hb0.keep (Below.heap_alloc _ _ _ (by rw [alloc_size]; omega))
    have hb2 : rowAt ((w.alloc (.cells #[.int .i64 k, .bool b, .int .i64 i, .string s, .slice al 0 cl, .slice am 0 cm] 46)).alloc (.cells #[.int .i64 k, .bool b, .int .i64 i2, .string s2, .slice al2 0 cl2, .slice am2 0 cm2] 46)) (w.heap.size + 1) 0 [.int .i64 k, .bool b, .int .i64 i2, .string s2, .slice al2 0 cl2, .slice am2 0 cm2] := by
      have := box_row (w.alloc (.cells #[.int .i64 k, .bool b, .int .i64 i, .string s, .slice al 0 cl, .slice am 0 cm] 46)) [.int .i64 k, .bool b, .int .i64 i2, .string s2, .slice al2 0 cl2, .slice am2 0 cm2] 46
      rwa [alloc_size] at this
    have B0 := two_below w (.cells #[.int .i64 k, .bool b, .int .i64 i, .string s, .slice al 0 cl, .slice am 0 cm] 46) (.cells #[.int .i64 k, .bool b, .int .i64 i2, .string s2, .slice al2 0 cl2, .slice am2 0 cm2] 46)
    obtain ⟨d0, d1, d2, d3, d4, d5⟩ := row6z hb1
    obtain ⟨g0, g1, g2, g3, g4, g5⟩ := row6z hb2
    have HB := hmk B0
    clear hb0 hb1 hb2 B0
    go_enter Tryz.func46, Tryz.ntmps46
    go_wp2_with fail
    go_ret
    exact ⟨rfl, HB.out⟩
  subst h2
  by_cases h3 : s = s2
  rotate_left
  · have hn3 : s.toList ≠ s2.toList := fun h => h3 (bytes_eq h)
    have y3 : (s.toList != s2.toList) = true := bne_iff_ne.2 hn3
    have yy3 : (s.toList == s2.toList) = false := beq_eq_false_iff_ne.2 hn3
    clear h3
    have hb0 := box_row w [.int .i64 k, .bool b, .int .i64 i, .string s, .slice al 0 cl, .slice am 0 cm] 46
    have hb1 : rowAt ((w.alloc (.cells #[.int .i64 k, .bool b, .int .i64 i, .string s, .slice al 0 cl, .slice am 0 cm] 46)).alloc (.cells #[.int .i64 k, .bool b, .int .i64 i, .string s2, .slice al2 0 cl2, .slice am2 0 cm2] 46)) w.heap.size 0 [.int .i64 k, .bool b, .int .i64 i, .string s, .slice al 0 cl, .slice am 0 cm] := hb0.keep (Below.heap_alloc _ _ _ (by rw [alloc_size]; omega))
    have hb2 : rowAt ((w.alloc (.cells #[.int .i64 k, .bool b, .int .i64 i, .string s, .slice al 0 cl, .slice am 0 cm] 46)).alloc (.cells #[.int .i64 k, .bool b, .int .i64 i, .string s2, .slice al2 0 cl2, .slice am2 0 cm2] 46)) (w.heap.size + 1) 0 [.int .i64 k, .bool b, .int .i64 i, .string s2, .slice al2 0 cl2, .slice am2 0 cm2] := by
      have := box_row (w.alloc (.cells #[.int .i64 k, .bool b, .int .i64 i, .string s, .slice al 0 cl, .slice am 0 cm] 46)) [.int .i64 k, .bool b, .int .i64 i, .string s2, .slice al2 0 cl2, .slice am2 0 cm2] 46
      rwa [alloc_size] at this
    have B0 := two_below w (.cells #[.int .i64 k, .bool b, .int .i64 i, .string s, .slice al 0 cl, .slice am 0 cm] 46) (.cells #[.int .i64 k, .bool b, .int .i64 i, .string s2, .slice al2 0 cl2, .slice am2 0 cm2] 46)
    obtain ⟨d0, d1, d2, d3, d4, d5⟩ := row6z hb1
    obtain ⟨g0, g1, g2, g3, g4, g5⟩ := row6z hb2
    have HB := hmk B0
    clear hb0 hb1 hb2 B0
    go_enter Tryz.func46, Tryz.ntmps46
    go_wp2_with fail
    go_ret
    exact ⟨rfl, HB.out⟩
  subst h3
  exact absurd ⟨rfl, rfl, rfl, rfl⟩ HNE.out
/-- the same, as values: those of two scalars without lists -/
theorem vcmp_any (v u : V) (S S' : Nat → Prop) (cs ds : List Value) (w : World) (hv : ∃ k b i s, v = .mk k b i s [] []) (hu : ∃ k b i s, u = .mk k b i s [] []) (hl : v.lies false w S cs) (hl' : u.lies false w S' ds) (hS : ∀ x, S x → x < w.heap.size) (hS' : ∀ x, S' x → x < w.heap.size) (E : Bool) (hE : E = true ↔ v = u) :
    Calls Tryz.prog 46 #[.agg cs.toArray, .agg ds.toArray, .int .i64 0] w (BPost E w) := by
  cases E with
  | true =>
    obtain rfl := hE.1 rfl
    exact vsame_any v 0 S S' cs ds w (by omega) (by omega) hl hl' hS hS'
  | false =>
    obtain ⟨k, b, i, s, rfl⟩ := hv
    obtain ⟨k2, b2, i2, s2, rfl⟩ := hu
    rw [V.lies] at hl hl'
    obtain ⟨al, cl, bl, ol, am, cm, bm, om, rfl, _⟩ := hl
    obtain ⟨al2, cl2, bl2, ol2, am2, cm2, bm2, om2, rfl, _⟩ := hl'
    refine vdiff_any k b i s al cl am cm k2 b2 i2 s2 al2 cl2 am2 cm2 w (fun h => ?_)
    obtain ⟨rfl, rfl, rfl, rfl⟩ := h
    exact Bool.noConfusion (hE.2 rfl)
end Go.Proofs.YtihcggepeadklaaGreatDoor
