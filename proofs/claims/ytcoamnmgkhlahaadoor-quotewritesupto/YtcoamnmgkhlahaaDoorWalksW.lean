/- The law QuoteWrites, out of the contracts. -/
import Derived.Test.YtcoamnmgkhlahaaDoorWalksE
set_option linter.unusedSimpArgs false
set_option linter.unusedVariables false
namespace Go.Proofs.YtcoamnmgkhlahaaDoor
open Go.RowKit Go.Lib

theorem qt_size (l : List UInt8) : (⟨(Q.qt l).toArray⟩ : ByteArray).size = 2 + Q.sz l := by
  rw [← Q.qt_length]; rfl

set_option maxRecDepth 100000 in
set_option maxHeartbeats 1000000 in
theorem writes_bad (s : ByteArray) (w : World) (hs : s.size ≤ 1048576) (hU : Utf8Tabs 0 1 w) (hz : 2 < w.heap.size) (hV : validD s.data.toList = false) :
    Calls Tryd.prog 3 #[.string s] w fun e w' => e = .returned (.bool true) ∧ Below w.heap.size w w' := by
  go_enter Tryd.func3, Tryd.ntmps3
  go_wp2_with fail
  refine (quote_bad s _ hs hU hV).mono ?_
  rintro e w1 ⟨rfl, b1⟩
  have hU1 := utab_below hU b1 (by omega)
  have s1 := b1.size
  go_wp2_with fail
  refine (size_bad s _ hs hU1 hV).mono ?_
  rintro e w2 ⟨rfl, b2⟩
  have hU2 := utab_below hU1 b2 (by omega)
  have s2 := b2.size
  go_wp2_with fail
  refine (refQuote_bad s _ hs hV).mono ?_
  rintro e w3 ⟨rfl, rfl⟩
  go_wp2_with fail
  refine (valid_any s _ (by omega) hU2).mono ?_
  rintro e w4 ⟨rfl, b4⟩
  go_wp2_with fail
  refine (refValid_any s (by omega) _).mono ?_
  rintro e w5 ⟨rfl, rfl⟩
  rw [hV]
  go_wp2
  go_ret
  exact ⟨rfl, b1.trans ((b2.mono s1).trans (b4.mono (by omega)))⟩

set_option maxRecDepth 100000 in
set_option maxHeartbeats 1000000 in
theorem writes_good (s : ByteArray) (w : World) (hs : s.size ≤ 1048576) (hU : Utf8Tabs 0 1 w) (hL : LetTab w) (hz : 2 < w.heap.size) (hV : validD s.data.toList = true) :
    Calls Tryd.prog 3 #[.string s] w fun e w' => e = .returned (.bool true) ∧ Below w.heap.size w w' := by
  have hsz := qt_size s.data.toList
  have c8 := quote_good s w hs hU hL hz hV
  have c9 : ∀ w, Utf8Tabs 0 1 w → LetTab w → 2 < w.heap.size → _ := fun w a b c => size_good s w hs a b c hV
  have c10 : ∀ w, _ := fun w => refQuote_good s w hs hV
  generalize (⟨(Q.qt s.data.toList).toArray⟩ : ByteArray) = T at *
  generalize 2 + Q.sz s.data.toList = Z at *
  have hb : ((Z : Int) == (T.size : Int)) = true := by rw [beq_iff_eq]; omega
  have C9 : Hid _ := c9
  have C10 : Hid _ := c10
  clear c9 c10 hsz
  go_enter Tryd.func3, Tryd.ntmps3
  go_wp2_with fail
  refine c8.mono ?_
  rintro e w1 ⟨rfl, b1⟩
  have hU1 := utab_below hU b1 (by omega)
  have hL1 := hL.below b1 (by omega)
  have s1 := b1.size
  clear c8
  go_wp2_with fail
  refine (C9.out _ hU1 hL1 (by omega)).mono ?_
  rintro e w2 ⟨rfl, b2⟩
  have hU2 := utab_below hU1 b2 (by omega)
  have s2 := b2.size
  go_wp2_with fail
  refine (C10.out _).mono ?_
  rintro e w3 ⟨rfl, b3⟩
  have hU3 := utab_below hU2 b3 (by omega)
  have s3 := b3.size
  go_wp2_with fail
  refine (valid_any s _ (by omega) hU3).mono ?_
  rintro e w4 ⟨rfl, b4⟩
  go_wp2_with fail
  refine (refValid_any s (by omega) _).mono ?_
  rintro e w5 ⟨rfl, rfl⟩
  rw [hV]
  go_wp2
  go_ret
  exact ⟨rfl, b1.trans ((b2.mono s1).trans ((b3.mono (by omega)).trans (b4.mono (by omega))))⟩
end Go.Proofs.YtcoamnmgkhlahaaDoor
