import Derived.Test.YthlhkhcbkgbhfaaGreatDoorSamS
/- same and samePath of whatever paths. -/
set_option linter.unusedSimpArgs false
set_option linter.unusedVariables false
namespace Go.Proofs.YthlhkhcbkgbhfaaGreatDoor
open Go.RowKit Go.Lib
open Classical in
noncomputable def sv6 (k : Int) (b : Bool) (i : Int) (s : ByteArray) (nl nm : Nat) (k2 : Int) (b2 : Bool) (i2 : Int) (s2 : ByteArray) (nl2 nm2 : Nat) : Bool := decide (k = k2 ∧ b = b2 ∧ i = i2 ∧ s = s2 ∧ nl = nl2 ∧ nm = nm2)
set_option maxHeartbeats 8000000 in
set_option maxRecDepth 100000 in
theorem samevG_any (k : Int) (b : Bool) (i : Int) (s : ByteArray) (nl nm : Nat) (al : Option Addr) (cl : Nat) (am : Option Addr) (cm : Nat) (k2 : Int) (b2 : Bool) (i2 : Int) (s2 : ByteArray) (nl2 nm2 : Nat) (al2 : Option Addr) (cl2 : Nat) (am2 : Option Addr) (cm2 : Nat) (w : World) (hnl : nl ≤ 9223372036854775807) (hnm : nm ≤ 9223372036854775807) (hnl2 : nl2 ≤ 9223372036854775807) (hnm2 : nm2 ≤ 9223372036854775807) :
    Calls Tryz.prog 47 #[.agg #[.int .i64 k, .bool b, .int .i64 i, .string s, .slice al nl cl, .slice am nm cm], .agg #[.int .i64 k2, .bool b2, .int .i64 i2, .string s2, .slice al2 nl2 cl2, .slice am2 nm2 cm2]] w (BPost (sv6 k b i s nl nm k2 b2 i2 s2 nl2 nm2) w) := by
  by_cases h0 : k = k2
  rotate_left
  · have y0 : (k == k2) = false := beq_eq_false_iff_ne.2 h0
    have hb0 := box_row w [.int .i64 k, .bool b, .int .i64 i, .string s, .slice al nl cl, .slice am nm cm] 64
    have hb1 : rowAt ((w.alloc (.cells #[.int .i64 k, .bool b, .int .i64 i, .string s, .slice al nl cl, .slice am nm cm] 64)).alloc (.cells #[.int .i64 k2, .bool b2, .int .i64 i2, .string s2, .slice al2 nl2 cl2, .slice am2 nm2 cm2] 64)) w.heap.size 0 [.int .i64 k, .bool b, .int .i64 i, .string s, .slice al nl cl, .slice am nm cm] := hb0.keep (Below.heap_alloc _ _ _ (by rw [alloc_size]; omega))
    have hb2 : rowAt ((w.alloc (.cells #[.int .i64 k, .bool b, .int .i64 i, .string s, .slice al nl cl, .slice am nm cm] 64)).alloc (.cells #[.int .i64 k2, .bool b2, .int .i64 i2, .string s2, .slice al2 nl2 cl2, .slice am2 nm2 cm2] 64)) (w.heap.size + 1) 0 [.int .i64 k2, .bool b2, .int .i64 i2, .string s2, .slice al2 nl2 cl2, .slice am2 nm2 cm2] := by
      have := box_row (w.alloc (.cells #[.int .i64 k, .bool b, .int .i64 i, .string s, .slice al nl cl, .slice am nm cm] 64)) [.int .i64 k2, .bool b2, .int .i64 i2, .string s2, .slice al2 nl2 cl2, .slice am2 nm2 cm2] 64
      rwa [alloc_size] at this
    have B0 := two_below w (.cells #[.int .i64 k, .bool b, .int .i64 i, .string s, .slice al nl cl, .slice am nm cm] 64) (.cells #[.int .i64 k2, .bool b2, .int .i64 i2, .string s2, .slice al2 nl2 cl2, .slice am2 nm2 cm2] 64)
    obtain ⟨d0, d1, d2, d3, d4, d5⟩ := row6z hb1
    obtain ⟨g0, g1, g2, g3, g4, g5⟩ := row6z hb2
    have HB := hmk B0
    clear hb0 hb1 hb2 B0
    go_enter Tryz.func47, Tryz.ntmps47
    go_wp2_with fail
    go_ret
    exact ⟨by rw [show sv6 k b i s nl nm k2 b2 i2 s2 nl2 nm2 = false by simp [sv6, h0]]; rfl, HB.out⟩
  subst h0
  by_cases h1 : b = b2
  rotate_left
  · have y1 : (b == b2) = false := beq_eq_false_iff_ne.2 h1
    have hb0 := box_row w [.int .i64 k, .bool b, .int .i64 i, .string s, .slice al nl cl, .slice am nm cm] 64
    have hb1 : rowAt ((w.alloc (.cells #[.int .i64 k, .bool b, .int .i64 i, .string s, .slice al nl cl, .slice am nm cm] 64)).alloc (.cells #[.int .i64 k, .bool b2, .int .i64 i2, .string s2, .slice al2 nl2 cl2, .slice am2 nm2 cm2] 64)) w.heap.size 0 [.int .i64 k, .bool b, .int .i64 i, .string s, .slice al nl cl, .slice am nm cm] := hb0.keep (Below.heap_alloc _ _ _ (by rw [alloc_size]; omega))
    have hb2 : rowAt ((w.alloc (.cells #[.int .i64 k, .bool b, .int .i64 i, .string s, .slice al nl cl, .slice am nm cm] 64)).alloc (.cells #[.int .i64 k, .bool b2, .int .i64 i2, .string s2, .slice al2 nl2 cl2, .slice am2 nm2 cm2] 64)) (w.heap.size + 1) 0 [.int .i64 k, .bool b2, .int .i64 i2, .string s2, .slice al2 nl2 cl2, .slice am2 nm2 cm2] := by
      have := box_row (w.alloc (.cells #[.int .i64 k, .bool b, .int .i64 i, .string s, .slice al nl cl, .slice am nm cm] 64)) [.int .i64 k, .bool b2, .int .i64 i2, .string s2, .slice al2 nl2 cl2, .slice am2 nm2 cm2] 64
      rwa [alloc_size] at this
    have B0 := two_below w (.cells #[.int .i64 k, .bool b, .int .i64 i, .string s, .slice al nl cl, .slice am nm cm] 64) (.cells #[.int .i64 k, .bool b2, .int .i64 i2, .string s2, .slice al2 nl2 cl2, .slice am2 nm2 cm2] 64)
    obtain ⟨d0, d1, d2, d3, d4, d5⟩ := row6z hb1
    obtain ⟨g0, g1, g2, g3, g4, g5⟩ := row6z hb2
    have HB := hmk B0
    clear hb0 hb1 hb2 B0
    go_enter Tryz.func47, Tryz.ntmps47
    go_wp2_with fail
    go_ret
    exact ⟨by rw [show sv6 k b i s nl nm k b2 i2 s2 nl2 nm2 = false by simp [sv6, h1]]; rfl, HB.out⟩
  subst h1
  by_cases h2 : i = i2
  rotate_left
  · have y2 : (i == i2) = false := beq_eq_false_iff_ne.2 h2
    have hb0 := box_row w [.int .i64 k, .bool b, .int .i64 i, .string s, .slice al nl cl, .slice am nm cm] 64
    have hb1 : rowAt ((w.alloc (.cells #[.int .i64 k, .bool b, .int .i64 i, .string s, .slice al nl cl, .slice am nm cm] 64)).alloc (.cells #[.int .i64 k, .bool b, .int .i64 i2, .string s2, .slice al2 nl2 cl2, .slice am2 nm2 cm2] 64)) w.heap.size 0 [.int .i64 k, .bool b, .int .i64 i, .string s, .slice al nl cl, .slice am nm cm] := hb0.keep (Below.heap_alloc _ _ _ (by rw [alloc_size]; omega))
    have hb2 : rowAt ((w.alloc (.cells #[.int .i64 k, .bool b, .int .i64 i, .string s, .slice al nl cl, .slice am nm cm] 64)).alloc (.cells #[.int .i64 k, .bool b, .int .i64 i2, .string s2, .slice al2 nl2 cl2, .slice am2 nm2 cm2] 64)) (w.heap.size + 1) 0 [.int .i64 k, .bool b, .int .i64 i2, .string s2, .slice al2 nl2 cl2, .slice am2 nm2 cm2] := by
      have := box_row (w.alloc (.cells #[.int .i64 k, .bool b, .int .i64 i, .string s, .slice al nl cl, .slice am nm cm] 64)) [.int .i64 k, .bool b, .int .i64 i2, .string s2, .slice al2 nl2 cl2, .slice am2 nm2 cm2] 64
      rwa [alloc_size] at this
    have B0 := two_below w (.cells #[.int .i64 k, .bool b, .int .i64 i, .string s, .slice al nl cl, .slice am nm cm] 64) (.cells #[.int .i64 k, .bool b, .int .i64 i2, .string s2, .slice al2 nl2 cl2, .slice am2 nm2 cm2] 64)
    obtain ⟨d0, d1, d2, d3, d4, d5⟩ := row6z hb1
    obtain ⟨g0, g1, g2, g3, g4, g5⟩ := row6z hb2
    have HB := hmk B0
    clear hb0 hb1 hb2 B0
    go_enter Tryz.func47, Tryz.ntmps47
    go_wp2_with fail
    go_ret
    exact ⟨by rw [show sv6 k b i s nl nm k b i2 s2 nl2 nm2 = false by simp [sv6, h2]]; rfl, HB.out⟩
  subst h2
  by_cases h3 : s = s2
  rotate_left
  · have hn3 : s.toList ≠ s2.toList := fun h => h3 (bytes_eq h)
    have y3 : (s.toList == s2.toList) = false := beq_eq_false_iff_ne.2 hn3
    have hb0 := box_row w [.int .i64 k, .bool b, .int .i64 i, .string s, .slice al nl cl, .slice am nm cm] 64
    have hb1 : rowAt ((w.alloc (.cells #[.int .i64 k, .bool b, .int .i64 i, .string s, .slice al nl cl, .slice am nm cm] 64)).alloc (.cells #[.int .i64 k, .bool b, .int .i64 i, .string s2, .slice al2 nl2 cl2, .slice am2 nm2 cm2] 64)) w.heap.size 0 [.int .i64 k, .bool b, .int .i64 i, .string s, .slice al nl cl, .slice am nm cm] := hb0.keep (Below.heap_alloc _ _ _ (by rw [alloc_size]; omega))
    have hb2 : rowAt ((w.alloc (.cells #[.int .i64 k, .bool b, .int .i64 i, .string s, .slice al nl cl, .slice am nm cm] 64)).alloc (.cells #[.int .i64 k, .bool b, .int .i64 i, .string s2, .slice al2 nl2 cl2, .slice am2 nm2 cm2] 64)) (w.heap.size + 1) 0 [.int .i64 k, .bool b, .int .i64 i, .string s2, .slice al2 nl2 cl2, .slice am2 nm2 cm2] := by
      have := box_row (w.alloc (.cells #[.int .i64 k, .bool b, .int .i64 i, .string s, .slice al nl cl, .slice am nm cm] 64)) [.int .i64 k, .bool b, .int .i64 i, .string s2, .slice al2 nl2 cl2, .slice am2 nm2 cm2] 64
      rwa [alloc_size] at this
    have B0 := two_below w (.cells #[.int .i64 k, .bool b, .int .i64 i, .string s, .slice al nl cl, .slice am nm cm] 64) (.cells #[.int .i64 k, .bool b, .int .i64 i, .string s2, .slice al2 nl2 cl2, .slice am2 nm2 cm2] 64)
    obtain ⟨d0, d1, d2, d3, d4, d5⟩ := row6z hb1
    obtain ⟨g0, g1, g2, g3, g4, g5⟩ := row6z hb2
    have HB := hmk B0
    clear hb0 hb1 hb2 B0
    go_enter Tryz.func47, Tryz.ntmps47
    go_wp2_with fail
    go_ret
    exact ⟨by rw [show sv6 k b i s nl nm k b i s2 nl2 nm2 = false by simp [sv6, h3]]; rfl, HB.out⟩
  subst h3
  by_cases h4 : nl = nl2
  rotate_left
  · have y4 : (((nl : Nat) : Int) == ((nl2 : Nat) : Int)) = false := beq_eq_false_iff_ne.2 (by omega)
    have hb0 := box_row w [.int .i64 k, .bool b, .int .i64 i, .string s, .slice al nl cl, .slice am nm cm] 64
    have hb1 : rowAt ((w.alloc (.cells #[.int .i64 k, .bool b, .int .i64 i, .string s, .slice al nl cl, .slice am nm cm] 64)).alloc (.cells #[.int .i64 k, .bool b, .int .i64 i, .string s, .slice al2 nl2 cl2, .slice am2 nm2 cm2] 64)) w.heap.size 0 [.int .i64 k, .bool b, .int .i64 i, .string s, .slice al nl cl, .slice am nm cm] := hb0.keep (Below.heap_alloc _ _ _ (by rw [alloc_size]; omega))
    have hb2 : rowAt ((w.alloc (.cells #[.int .i64 k, .bool b, .int .i64 i, .string s, .slice al nl cl, .slice am nm cm] 64)).alloc (.cells #[.int .i64 k, .bool b, .int .i64 i, .string s, .slice al2 nl2 cl2, .slice am2 nm2 cm2] 64)) (w.heap.size + 1) 0 [.int .i64 k, .bool b, .int .i64 i, .string s, .slice al2 nl2 cl2, .slice am2 nm2 cm2] := by
      have := box_row (w.alloc (.cells #[.int .i64 k, .bool b, .int .i64 i, .string s, .slice al nl cl, .slice am nm cm] 64)) [.int .i64 k, .bool b, .int .i64 i, .string s, .slice al2 nl2 cl2, .slice am2 nm2 cm2] 64
      rwa [alloc_size] at this
    have B0 := two_below w (.cells #[.int .i64 k, .bool b, .int .i64 i, .string s, .slice al nl cl, .slice am nm cm] 64) (.cells #[.int .i64 k, .bool b, .int .i64 i, .string s, .slice al2 nl2 cl2, .slice am2 nm2 cm2] 64)
    obtain ⟨d0, d1, d2, d3, d4, d5⟩ := row6z hb1
    obtain ⟨g0, g1, g2, g3, g4, g5⟩ := row6z hb2
    have HB := hmk B0
    clear hb0 hb1 hb2 B0
    go_enter Tryz.func47, Tryz.ntmps47
    go_wp2_with fail
    go_ret
    exact ⟨by rw [show sv6 k b i s nl nm k b i s nl2 nm2 = false by simp [sv6, h4]]; rfl, HB.out⟩
  subst h4
  by_cases h5 : nm = nm2
  rotate_left
  · have y5 : (((nm : Nat) : Int) == ((nm2 : Nat) : Int)) = false := beq_eq_false_iff_ne.2 (by omega)
    have hb0 := box_row w [.int .i64 k, .bool b, .int .i64 i, .string s, .slice al nl cl, .slice am nm cm] 64
    have hb1 : rowAt ((w.alloc (.cells #[.int .i64 k, .bool b, .int .i64 i, .string s, .slice al nl cl, .slice am nm cm] 64)).alloc (.cells #[.int .i64 k, .bool b, .int .i64 i, .string s, .slice al2 nl cl2, .slice am2 nm2 cm2] 64)) w.heap.size 0 [.int .i64 k, .bool b, .int .i64 i, .string s, .slice al nl cl, .slice am nm cm] := hb0.keep (Below.heap_alloc _ _ _ (by rw [alloc_size]; omega))
    have hb2 : rowAt ((w.alloc (.cells #[.int .i64 k, .bool b, .int .i64 i, .string s, .slice al nl cl, .slice am nm cm] 64)).alloc (.cells #[.int .i64 k, .bool b, .int .i64 i, .string s, .slice al2 nl cl2, .slice am2 nm2 cm2] 64)) (w.heap.size + 1) 0 [.int .i64 k, .bool b, .int .i64 i, .string s, .slice al2 nl cl2, .slice am2 nm2 cm2] := by
      have := box_row (w.alloc (.cells #[.int .i64 k, .bool b, .int .i64 i, .string s, .slice al nl cl, .slice am nm cm] 64)) [.int .i64 k, .bool b, .int .i64 i, .string s, .slice al2 nl cl2, .slice am2 nm2 cm2] 64
      rwa [alloc_size] at this
    have B0 := two_below w (.cells #[.int .i64 k, .bool b, .int .i64 i, .string s, .slice al nl cl, .slice am nm cm] 64) (.cells #[.int .i64 k, .bool b, .int .i64 i, .string s, .slice al2 nl cl2, .slice am2 nm2 cm2] 64)
    obtain ⟨d0, d1, d2, d3, d4, d5⟩ := row6z hb1
    obtain ⟨g0, g1, g2, g3, g4, g5⟩ := row6z hb2
    have HB := hmk B0
    clear hb0 hb1 hb2 B0
    go_enter Tryz.func47, Tryz.ntmps47
    go_wp2_with fail
    go_ret
    exact ⟨by rw [show sv6 k b i s nl nm k b i s nl nm2 = false by simp [sv6, h5]]; rfl, HB.out⟩
  subst h5
  have hb0 := box_row w [.int .i64 k, .bool b, .int .i64 i, .string s, .slice al nl cl, .slice am nm cm] 64
  have hb1 : rowAt ((w.alloc (.cells #[.int .i64 k, .bool b, .int .i64 i, .string s, .slice al nl cl, .slice am nm cm] 64)).alloc (.cells #[.int .i64 k, .bool b, .int .i64 i, .string s, .slice al2 nl cl2, .slice am2 nm cm2] 64)) w.heap.size 0 [.int .i64 k, .bool b, .int .i64 i, .string s, .slice al nl cl, .slice am nm cm] := hb0.keep (Below.heap_alloc _ _ _ (by rw [alloc_size]; omega))
  have hb2 : rowAt ((w.alloc (.cells #[.int .i64 k, .bool b, .int .i64 i, .string s, .slice al nl cl, .slice am nm cm] 64)).alloc (.cells #[.int .i64 k, .bool b, .int .i64 i, .string s, .slice al2 nl cl2, .slice am2 nm cm2] 64)) (w.heap.size + 1) 0 [.int .i64 k, .bool b, .int .i64 i, .string s, .slice al2 nl cl2, .slice am2 nm cm2] := by
    have := box_row (w.alloc (.cells #[.int .i64 k, .bool b, .int .i64 i, .string s, .slice al nl cl, .slice am nm cm] 64)) [.int .i64 k, .bool b, .int .i64 i, .string s, .slice al2 nl cl2, .slice am2 nm cm2] 64
    rwa [alloc_size] at this
  have B0 := two_below w (.cells #[.int .i64 k, .bool b, .int .i64 i, .string s, .slice al nl cl, .slice am nm cm] 64) (.cells #[.int .i64 k, .bool b, .int .i64 i, .string s, .slice al2 nl cl2, .slice am2 nm cm2] 64)
  obtain ⟨d0, d1, d2, d3, d4, d5⟩ := row6z hb1
  obtain ⟨g0, g1, g2, g3, g4, g5⟩ := row6z hb2
  have HB := hmk B0
  clear hb0 hb1 hb2 B0
  go_enter Tryz.func47, Tryz.ntmps47
  go_wp2_with fail
  go_ret
  exact ⟨by rw [show sv6 k b i s nl nm k b i s nl nm = true by simp [sv6]]; rfl, HB.out⟩
end Go.Proofs.YthlhkhcbkgbhfaaGreatDoor
