import Derived.Test.YtolekldjbbjmjaaGreatDoorRefA
import Derived.Lib.RuneBytes
/- Contracts: the document's Sequence. -/
set_option linter.unusedSimpArgs false
set_option linter.unusedVariables false
set_option maxRecDepth 100000
namespace Go.Proofs.YtolekldjbbjmjaaGreatDoor
open Go.RowKit
set_option maxHeartbeats 4000000 in
set_option maxRecDepth 100000 in
theorem seq_any (V : Int) (h0 : 0 ≤ V) (h1 : V ≤ 1114111) (h2 : ¬ (55296 ≤ V ∧ V ≤ 57343)) (w : World) :
    Calls Tryz.prog 108 #[.int .i64 V] w fun e w' => e = .returned (.slice (some ⟨w.heap.size, 0, none⟩) (Lib.runeCells V).length (Lib.runeCells V).length) ∧ w' = w.alloc (.cells (Lib.runeCells V).toArray 5) := by
  unfold Lib.runeCells
  by_cases c1 : V < 128
  · rw [Lib.encodeRuneZ_one h0 (by omega)]
    have q1 : IntKind.u8.wrap V = V := by rw [IntKind.wrap_u8]; omega
    clear h2 h1
    go_enter Tryz.func108, Tryz.ntmps108
    go_wp2
    go_ret
    exact ⟨rfl, rfl⟩
  · by_cases c2 : V < 2048
    · rw [Lib.encodeRuneZ_two (by omega) (by omega)]
      have y0 : (0 : Int) ≤ V / 64 := by omega
      have y1 : V / 64 < 32 := by omega
      have y2 : (0 : Int) ≤ V % 64 := by omega
      have y3 : V % 64 < 64 := by omega
      have q1 : IntKind.u8.wrap (192 + V / 64) = 192 + V / 64 := by rw [IntKind.wrap_u8]; omega
      have q2 : IntKind.u8.wrap (128 + V % 64) = 128 + V % 64 := by rw [IntKind.wrap_u8]; omega
      clear h2 h1
      go_enter Tryz.func108, Tryz.ntmps108
      go_wp2
      go_ret
      exact ⟨rfl, rfl⟩
    · by_cases c3 : V < 65536
      · rw [Lib.encodeRuneZ_three (by omega)]
        have y0 : (0 : Int) ≤ V / 4096 := by omega
        have y1 : V / 4096 < 16 := by omega
        have y2 : (0 : Int) ≤ V / 64 := by omega
        have y3 : V / 64 < 1024 := by omega
        have q1 : IntKind.u8.wrap (224 + V / 4096) = 224 + V / 4096 := by rw [IntKind.wrap_u8]; omega
        have q2 : IntKind.u8.wrap (128 + V / 64 % 64) = 128 + V / 64 % 64 := by rw [IntKind.wrap_u8]; omega
        have q3 : IntKind.u8.wrap (128 + V % 64) = 128 + V % 64 := by rw [IntKind.wrap_u8]; omega
        clear h2 h1
        go_enter Tryz.func108, Tryz.ntmps108
        go_wp2
        go_ret
        exact ⟨rfl, rfl⟩
      · rw [Lib.encodeRuneZ_four (by omega) h1]
        have y0 : (0 : Int) ≤ V / 262144 := by omega
        have y1 : V / 262144 < 5 := by omega
        have y2 : (0 : Int) ≤ V / 4096 := by omega
        have y3 : V / 4096 < 273 := by omega
        have y4 : (0 : Int) ≤ V / 64 := by omega
        have y5 : V / 64 < 17408 := by omega
        have q1 : IntKind.u8.wrap (240 + V / 262144) = 240 + V / 262144 := by rw [IntKind.wrap_u8]; omega
        have q2 : IntKind.u8.wrap (128 + V / 4096 % 64) = 128 + V / 4096 % 64 := by rw [IntKind.wrap_u8]; omega
        have q3 : IntKind.u8.wrap (128 + V / 64 % 64) = 128 + V / 64 % 64 := by rw [IntKind.wrap_u8]; omega
        have q4 : IntKind.u8.wrap (128 + V % 64) = 128 + V % 64 := by rw [IntKind.wrap_u8]; omega
        clear h2
        go_enter Tryz.func108, Tryz.ntmps108
        go_wp2
        go_ret
        exact ⟨rfl, rfl⟩
end Go.Proofs.YtolekldjbbjmjaaGreatDoor
