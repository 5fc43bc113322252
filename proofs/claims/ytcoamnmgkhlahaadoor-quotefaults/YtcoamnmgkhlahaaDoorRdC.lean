/- brokenAt; quote's reader: sequence. -/
import Derived.Test.YtcoamnmgkhlahaaDoorFull
import Derived.Test.YtcoamnmgkhlahaaDoorRdB
set_option linter.unusedSimpArgs false
set_option linter.unusedVariables false
namespace Go.Proofs.YtcoamnmgkhlahaaDoor
open Go.RowKit Go.Lib

set_option maxHeartbeats 2000000 in
set_option maxRecDepth 100000 in
theorem broken_any (s : ByteArray) (k n : Nat) (w : World) (hU : Utf8Tabs 0 1 w) (hz : 2 < w.heap.size) (hs : s.size ≤ 281474976710656) (hkn : k + n ≤ s.size)
    (h1 : ∀ j, j < n → Q.full ((s.data.toList.drop k).take (j + 1)) = false) (h2 : k + n = s.size ∨ Q.full ((s.data.toList.drop k).take (n + 1)) = true) :
    Calls Tryd.prog 46 #[.string s, .int .i64 k] w fun e w' => e = .returned (.int .i64 ((k + n : Nat) : Int)) ∧ Below w.heap.size w w' := by
  have H1 : Hid _ := h1
  have H2 : Hid _ := h2
  clear h1 h2
  go_enter Tryd.func46, Tryd.ntmps46
  go_wp2
  go_loopw [5] (fun e wr => ∃ j : Nat, j ≤ n ∧ e = .int .i64 ((k + j : Nat) : Int) ∧ Below w.heap.size w wr) (fun e _ => (k + n) - (RowKit.intOf e).toNat)
  case atStart => exact ⟨0, by omega, rfl, Below.refl _ _⟩
  case round =>
    obtain ⟨j, hj, rfl, bk⟩ := hrel
    have hUr := utab_below hU bk (by omega)
    by_cases hjn : j < n
    · have y1 : ((k : Int) + j) < s.size := by omega
      have y2 : ((k + j : Nat) : Int) < s.size := by omega
      have hsl : ∀ W : World, (Instr.slice 9 (.string s) (some (.int .i64 (k : Int))) (some (.int .i64 ((k : Int) + j + 1))) none).run Tryd.prog W = .ok (.string (s.extract k (k + j + 1))) W := by
        intro W
        have h := run_slice_string (P := Tryd.prog) W 9 s .i64 .i64 (k : Int) ((k : Int) + j + 1) Tryd.underlying9 (by omega) (by omega) (by omega)
        have e1 : (k : Int).toNat = k := by omega
        have e2 : ((k : Int) + j + 1).toNat = k + j + 1 := by omega
        rw [e1, e2] at h
        exact h
      have hfd : (s.extract k (k + j + 1)).data.toList = (s.data.toList.drop k).take (j + 1) := by
        rw [extract_data]; congr 1; omega
      have hfs : (s.extract k (k + j + 1)).size = j + 1 := by
        rw [size_eq, hfd]; simp; omega
      have HF : Hid (Q.full (s.extract k (k + j + 1)).data.toList = false) := by
        show _ = _
        rw [hfd]; exact H1.out j hjn
      generalize s.extract k (k + j + 1) = X at *
      clear hfd
      have cf := full_any X wr hUr (by omega) (by omega)
      rw [HF.out] at cf
      have hzr := bk.size
      go_wp2_with (go_at_call 50; refine cf.mono ?_; rintro e w1 ⟨rfl, b1⟩)
      go_roundw
      case rel => exact ⟨j + 1, by omega, by go_num, bk.trans (b1.mono hzr)⟩
      case measure => simp [RowKit.intOf]; omega
    · obtain rfl : j = n := by omega
      by_cases hend : k + j = s.size
      · have y1 : ¬ ((k : Int) + j) < s.size := by omega
        have y2 : ¬ ((k + j : Nat) : Int) < s.size := by omega
        clear hend
        go_wp2
        go_ret
        exact ⟨rfl, bk⟩
      · have y1 : ((k : Int) + j) < s.size := by omega
        have y2 : ((k + j : Nat) : Int) < s.size := by omega
        have hsl : ∀ W : World, (Instr.slice 9 (.string s) (some (.int .i64 (k : Int))) (some (.int .i64 ((k : Int) + j + 1))) none).run Tryd.prog W = .ok (.string (s.extract k (k + j + 1))) W := by
          intro W
          have h := run_slice_string (P := Tryd.prog) W 9 s .i64 .i64 (k : Int) ((k : Int) + j + 1) Tryd.underlying9 (by omega) (by omega) (by omega)
          have e1 : (k : Int).toNat = k := by omega
          have e2 : ((k : Int) + j + 1).toNat = k + j + 1 := by omega
          rw [e1, e2] at h
          exact h
        have hfd : (s.extract k (k + j + 1)).data.toList = (s.data.toList.drop k).take (j + 1) := by
          rw [extract_data]; congr 1; omega
        have hfs : (s.extract k (k + j + 1)).size = j + 1 := by
          rw [size_eq, hfd]; simp; omega
        have HF : Hid (Q.full (s.extract k (k + j + 1)).data.toList = true) := by
          show _ = _
          rw [hfd]
          rcases H2.out with h | h
          · exact absurd h hend
          · exact h
        generalize s.extract k (k + j + 1) = X at *
        clear hfd hend
        have cf := full_any X wr hUr (by omega) (by omega)
        rw [HF.out] at cf
        have hzr := bk.size
        go_wp2_with (go_at_call 50; refine cf.mono ?_; rintro e w1 ⟨rfl, b1⟩)
        go_ret
        exact ⟨rfl, bk.trans (b1.mono hzr)⟩
end Go.Proofs.YtcoamnmgkhlahaaDoor
