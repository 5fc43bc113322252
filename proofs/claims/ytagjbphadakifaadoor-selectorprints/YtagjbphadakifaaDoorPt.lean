/- joined: PrnA PrnB PrnC PrnD PrnE -/
import Derived.Test.YtagjbphadakifaaDoorPs
import Derived.Laws.Concat
import Derived.Test.YtagjbphadakifaaDoorTrmV
/- plain bytes. -/
set_option linter.unusedSimpArgs false
set_option linter.unusedVariables false
namespace Go.Proofs.YtagjbphadakifaaDoor
open Go.RowKit Go.Lib
def plainN (n : Nat) : Bool := decide ((65 ≤ n ∧ n ≤ 90) ∨ (97 ≤ n ∧ n ≤ 122) ∨ (48 ≤ n ∧ n ≤ 57) ∨ n = 45 ∨ n = 95 ∨ n = 46 ∨ n = 47)
set_option maxHeartbeats 8000000 in
set_option maxRecDepth 100000 in
theorem plain_any (n : Nat) (hn : n < 256) (w : World) : Calls Tryd.prog 79 #[.int .u8 (n : Int)] w (fun e w' => e = .returned (.bool (plainN n)) ∧ w' = w) := by
  have hc : (0 ≤ n ∧ n ≤ 44) ∨ (45 ≤ n ∧ n ≤ 45) ∨ (46 ≤ n ∧ n ≤ 46) ∨ (47 ≤ n ∧ n ≤ 47) ∨ (48 ≤ n ∧ n ≤ 57) ∨ (58 ≤ n ∧ n ≤ 64) ∨ (65 ≤ n ∧ n ≤ 90) ∨ (91 ≤ n ∧ n ≤ 94) ∨ (95 ≤ n ∧ n ≤ 95) ∨ (96 ≤ n ∧ n ≤ 96) ∨ (97 ≤ n ∧ n ≤ 122) ∨ (123 ≤ n ∧ n ≤ 255) := by omega
  rcases hc with hc | hc | hc | hc | hc | hc | hc | hc | hc | hc | hc | hc
  · have HB : Hid (plainN n = false) := by
      show _ = _
      unfold plainN
      rw [decide_eq_false (by omega)]
    have g0 : ¬ (65 : Int) ≤ (n : Int) := by omega
    have g1 : ¬ (97 : Int) ≤ (n : Int) := by omega
    have g2 : ¬ (48 : Int) ≤ (n : Int) := by omega
    have g3 : (n : Int) ≤ 90 := by omega
    have g4 : (n : Int) ≤ 122 := by omega
    have g5 : (n : Int) ≤ 57 := by omega
    have g6 : ((n : Int) == 45) = false := by rw [beq_eq_false_iff_ne]; omega
    have g7 : ((n : Int) == 95) = false := by rw [beq_eq_false_iff_ne]; omega
    have g8 : ((n : Int) == 46) = false := by rw [beq_eq_false_iff_ne]; omega
    have g9 : ((n : Int) == 47) = false := by rw [beq_eq_false_iff_ne]; omega
    clear hc hn
    go_enter Tryd.func79, Tryd.ntmps79
    go_wp2_with fail
    go_ret
    exact ⟨congrArg (fun r => Ending.returned (.bool r)) HB.out.symm, rfl⟩
  · have HB : Hid (plainN n = true) := by
      show _ = _
      unfold plainN
      rw [decide_eq_true (by omega)]
    have g0 : ¬ (65 : Int) ≤ (n : Int) := by omega
    have g1 : ¬ (97 : Int) ≤ (n : Int) := by omega
    have g2 : ¬ (48 : Int) ≤ (n : Int) := by omega
    have g3 : (n : Int) ≤ 90 := by omega
    have g4 : (n : Int) ≤ 122 := by omega
    have g5 : (n : Int) ≤ 57 := by omega
    have g6 : ((n : Int) == 45) = true := by rw [beq_iff_eq]; omega
    have g7 : ((n : Int) == 95) = false := by rw [beq_eq_false_iff_ne]; omega
    have g8 : ((n : Int) == 46) = false := by rw [beq_eq_false_iff_ne]; omega
    have g9 : ((n : Int) == 47) = false := by rw [beq_eq_false_iff_ne]; omega
    clear hc hn
    go_enter Tryd.func79, Tryd.ntmps79
    go_wp2_with fail
    go_ret
    exact ⟨congrArg (fun r => Ending.returned (.bool r)) HB.out.symm, rfl⟩
  · have HB : Hid (plainN n = true) := by
      show _ = _
      unfold plainN
      rw [decide_eq_true (by omega)]
    have g0 : ¬ (65 : Int) ≤ (n : Int) := by omega
    have g1 : ¬ (97 : Int) ≤ (n : Int) := by omega
    have g2 : ¬ (48 : Int) ≤ (n : Int) := by omega
    have g3 : (n : Int) ≤ 90 := by omega
    have g4 : (n : Int) ≤ 122 := by omega
    have g5 : (n : Int) ≤ 57 := by omega
    have g6 : ((n : Int) == 45) = false := by rw [beq_eq_false_iff_ne]; omega
    have g7 : ((n : Int) == 95) = false := by rw [beq_eq_false_iff_ne]; omega
    have g8 : ((n : Int) == 46) = true := by rw [beq_iff_eq]; omega
    have g9 : ((n : Int) == 47) = false := by rw [beq_eq_false_iff_ne]; omega
    clear hc hn
    go_enter Tryd.func79, Tryd.ntmps79
    go_wp2_with fail
    go_ret
    exact ⟨congrArg (fun r => Ending.returned (.bool r)) HB.out.symm, rfl⟩
  · have HB : Hid (plainN n = true) := by
      show _ = _
      unfold plainN
      rw [decide_eq_true (by omega)]
    have g0 : ¬ (65 : Int) ≤ (n : Int) := by omega
    have g1 : ¬ (97 : Int) ≤ (n : Int) := by omega
    have g2 : ¬ (48 : Int) ≤ (n : Int) := by omega
    have g3 : (n : Int) ≤ 90 := by omega
    have g4 : (n : Int) ≤ 122 := by omega
    have g5 : (n : Int) ≤ 57 := by omega
    have g6 : ((n : Int) == 45) = false := by rw [beq_eq_false_iff_ne]; omega
    have g7 : ((n : Int) == 95) = false := by rw [beq_eq_false_iff_ne]; omega
    have g8 : ((n : Int) == 46) = false := by rw [beq_eq_false_iff_ne]; omega
    have g9 : ((n : Int) == 47) = true := by rw [beq_iff_eq]; omega
    clear hc hn
    go_enter Tryd.func79, Tryd.ntmps79
    go_wp2_with fail
    go_ret
    exact ⟨congrArg (fun r => Ending.returned (.bool r)) HB.out.symm, rfl⟩
  · have HB : Hid (plainN n = true) := by
      show _ = _
      unfold plainN
      rw [decide_eq_true (by omega)]
    have g0 : ¬ (65 : Int) ≤ (n : Int) := by omega
    have g1 : ¬ (97 : Int) ≤ (n : Int) := by omega
    have g2 : (48 : Int) ≤ (n : Int) := by omega
    have g3 : (n : Int) ≤ 90 := by omega
    have g4 : (n : Int) ≤ 122 := by omega
    have g5 : (n : Int) ≤ 57 := by omega
    have g6 : ((n : Int) == 45) = false := by rw [beq_eq_false_iff_ne]; omega
    have g7 : ((n : Int) == 95) = false := by rw [beq_eq_false_iff_ne]; omega
    have g8 : ((n : Int) == 46) = false := by rw [beq_eq_false_iff_ne]; omega
    have g9 : ((n : Int) == 47) = false := by rw [beq_eq_false_iff_ne]; omega
    clear hc hn
    go_enter Tryd.func79, Tryd.ntmps79
    go_wp2_with fail
    go_ret
    exact ⟨congrArg (fun r => Ending.returned (.bool r)) HB.out.symm, rfl⟩
  · have HB : Hid (plainN n = false) := by
      show _ = _
      unfold plainN
      rw [decide_eq_false (by omega)]
    have g0 : ¬ (65 : Int) ≤ (n : Int) := by omega
    have g1 : ¬ (97 : Int) ≤ (n : Int) := by omega
    have g2 : (48 : Int) ≤ (n : Int) := by omega
    have g3 : (n : Int) ≤ 90 := by omega
    have g4 : (n : Int) ≤ 122 := by omega
    have g5 : ¬ (n : Int) ≤ 57 := by omega
    have g6 : ((n : Int) == 45) = false := by rw [beq_eq_false_iff_ne]; omega
    have g7 : ((n : Int) == 95) = false := by rw [beq_eq_false_iff_ne]; omega
    have g8 : ((n : Int) == 46) = false := by rw [beq_eq_false_iff_ne]; omega
    have g9 : ((n : Int) == 47) = false := by rw [beq_eq_false_iff_ne]; omega
    clear hc hn
    go_enter Tryd.func79, Tryd.ntmps79
    go_wp2_with fail
    go_ret
    exact ⟨congrArg (fun r => Ending.returned (.bool r)) HB.out.symm, rfl⟩
  · have HB : Hid (plainN n = true) := by
      show _ = _
      unfold plainN
      rw [decide_eq_true (by omega)]
    have g0 : (65 : Int) ≤ (n : Int) := by omega
    have g1 : ¬ (97 : Int) ≤ (n : Int) := by omega
    have g2 : (48 : Int) ≤ (n : Int) := by omega
    have g3 : (n : Int) ≤ 90 := by omega
    have g4 : (n : Int) ≤ 122 := by omega
    have g5 : ¬ (n : Int) ≤ 57 := by omega
    have g6 : ((n : Int) == 45) = false := by rw [beq_eq_false_iff_ne]; omega
    have g7 : ((n : Int) == 95) = false := by rw [beq_eq_false_iff_ne]; omega
    have g8 : ((n : Int) == 46) = false := by rw [beq_eq_false_iff_ne]; omega
    have g9 : ((n : Int) == 47) = false := by rw [beq_eq_false_iff_ne]; omega
    clear hc hn
    go_enter Tryd.func79, Tryd.ntmps79
    go_wp2_with fail
    go_ret
    exact ⟨congrArg (fun r => Ending.returned (.bool r)) HB.out.symm, rfl⟩
  · have HB : Hid (plainN n = false) := by
      show _ = _
      unfold plainN
      rw [decide_eq_false (by omega)]
    have g0 : (65 : Int) ≤ (n : Int) := by omega
    have g1 : ¬ (97 : Int) ≤ (n : Int) := by omega
    have g2 : (48 : Int) ≤ (n : Int) := by omega
    have g3 : ¬ (n : Int) ≤ 90 := by omega
    have g4 : (n : Int) ≤ 122 := by omega
    have g5 : ¬ (n : Int) ≤ 57 := by omega
    have g6 : ((n : Int) == 45) = false := by rw [beq_eq_false_iff_ne]; omega
    have g7 : ((n : Int) == 95) = false := by rw [beq_eq_false_iff_ne]; omega
    have g8 : ((n : Int) == 46) = false := by rw [beq_eq_false_iff_ne]; omega
    have g9 : ((n : Int) == 47) = false := by rw [beq_eq_false_iff_ne]; omega
    clear hc hn
    go_enter Tryd.func79, Tryd.ntmps79
    go_wp2_with fail
    go_ret
    exact ⟨congrArg (fun r => Ending.returned (.bool r)) HB.out.symm, rfl⟩
  · have HB : Hid (plainN n = true) := by
      show _ = _
      unfold plainN
      rw [decide_eq_true (by omega)]
    have g0 : (65 : Int) ≤ (n : Int) := by omega
    have g1 : ¬ (97 : Int) ≤ (n : Int) := by omega
    have g2 : (48 : Int) ≤ (n : Int) := by omega
    have g3 : ¬ (n : Int) ≤ 90 := by omega
    have g4 : (n : Int) ≤ 122 := by omega
    have g5 : ¬ (n : Int) ≤ 57 := by omega
    have g6 : ((n : Int) == 45) = false := by rw [beq_eq_false_iff_ne]; omega
    have g7 : ((n : Int) == 95) = true := by rw [beq_iff_eq]; omega
    have g8 : ((n : Int) == 46) = false := by rw [beq_eq_false_iff_ne]; omega
    have g9 : ((n : Int) == 47) = false := by rw [beq_eq_false_iff_ne]; omega
    clear hc hn
    go_enter Tryd.func79, Tryd.ntmps79
    go_wp2_with fail
    go_ret
    exact ⟨congrArg (fun r => Ending.returned (.bool r)) HB.out.symm, rfl⟩
  · have HB : Hid (plainN n = false) := by
      show _ = _
      unfold plainN
      rw [decide_eq_false (by omega)]
    have g0 : (65 : Int) ≤ (n : Int) := by omega
    have g1 : ¬ (97 : Int) ≤ (n : Int) := by omega
    have g2 : (48 : Int) ≤ (n : Int) := by omega
    have g3 : ¬ (n : Int) ≤ 90 := by omega
    have g4 : (n : Int) ≤ 122 := by omega
    have g5 : ¬ (n : Int) ≤ 57 := by omega
    have g6 : ((n : Int) == 45) = false := by rw [beq_eq_false_iff_ne]; omega
    have g7 : ((n : Int) == 95) = false := by rw [beq_eq_false_iff_ne]; omega
    have g8 : ((n : Int) == 46) = false := by rw [beq_eq_false_iff_ne]; omega
    have g9 : ((n : Int) == 47) = false := by rw [beq_eq_false_iff_ne]; omega
    clear hc hn
    go_enter Tryd.func79, Tryd.ntmps79
    go_wp2_with fail
    go_ret
    exact ⟨congrArg (fun r => Ending.returned (.bool r)) HB.out.symm, rfl⟩
  · have HB : Hid (plainN n = true) := by
      show _ = _
      unfold plainN
      rw [decide_eq_true (by omega)]
    have g0 : (65 : Int) ≤ (n : Int) := by omega
    have g1 : (97 : Int) ≤ (n : Int) := by omega
    have g2 : (48 : Int) ≤ (n : Int) := by omega
    have g3 : ¬ (n : Int) ≤ 90 := by omega
    have g4 : (n : Int) ≤ 122 := by omega
    have g5 : ¬ (n : Int) ≤ 57 := by omega
    have g6 : ((n : Int) == 45) = false := by rw [beq_eq_false_iff_ne]; omega
    have g7 : ((n : Int) == 95) = false := by rw [beq_eq_false_iff_ne]; omega
    have g8 : ((n : Int) == 46) = false := by rw [beq_eq_false_iff_ne]; omega
    have g9 : ((n : Int) == 47) = false := by rw [beq_eq_false_iff_ne]; omega
    clear hc hn
    go_enter Tryd.func79, Tryd.ntmps79
    go_wp2_with fail
    go_ret
    exact ⟨congrArg (fun r => Ending.returned (.bool r)) HB.out.symm, rfl⟩
  · have HB : Hid (plainN n = false) := by
      show _ = _
      unfold plainN
      rw [decide_eq_false (by omega)]
    have g0 : (65 : Int) ≤ (n : Int) := by omega
    have g1 : (97 : Int) ≤ (n : Int) := by omega
    have g2 : (48 : Int) ≤ (n : Int) := by omega
    have g3 : ¬ (n : Int) ≤ 90 := by omega
    have g4 : ¬ (n : Int) ≤ 122 := by omega
    have g5 : ¬ (n : Int) ≤ 57 := by omega
    have g6 : ((n : Int) == 45) = false := by rw [beq_eq_false_iff_ne]; omega
    have g7 : ((n : Int) == 95) = false := by rw [beq_eq_false_iff_ne]; omega
    have g8 : ((n : Int) == 46) = false := by rw [beq_eq_false_iff_ne]; omega
    have g9 : ((n : Int) == 47) = false := by rw [beq_eq_false_iff_ne]; omega
    clear hc hn
    go_enter Tryd.func79, Tryd.ntmps79
    go_wp2_with fail
    go_ret
    exact ⟨congrArg (fun r => Ending.returned (.bool r)) HB.out.symm, rfl⟩
set_option maxHeartbeats 8000000 in
set_option maxRecDepth 100000 in
theorem rplainbyte_any (n : Nat) (hn : n < 256) (w : World) : Calls Tryd.prog 83 #[.int .u8 (n : Int)] w (fun e w' => e = .returned (.bool (plainN n)) ∧ w' = w) := by
  have hc : (0 ≤ n ∧ n ≤ 44) ∨ (45 ≤ n ∧ n ≤ 45) ∨ (46 ≤ n ∧ n ≤ 46) ∨ (47 ≤ n ∧ n ≤ 47) ∨ (48 ≤ n ∧ n ≤ 57) ∨ (58 ≤ n ∧ n ≤ 64) ∨ (65 ≤ n ∧ n ≤ 90) ∨ (91 ≤ n ∧ n ≤ 94) ∨ (95 ≤ n ∧ n ≤ 95) ∨ (96 ≤ n ∧ n ≤ 96) ∨ (97 ≤ n ∧ n ≤ 122) ∨ (123 ≤ n ∧ n ≤ 255) := by omega
  rcases hc with hc | hc | hc | hc | hc | hc | hc | hc | hc | hc | hc | hc
  · have HB : Hid (plainN n = false) := by
      show _ = _
      unfold plainN
      rw [decide_eq_false (by omega)]
    have g0 : ¬ (65 : Int) ≤ (n : Int) := by omega
    have g1 : ¬ (97 : Int) ≤ (n : Int) := by omega
    have g2 : ¬ (48 : Int) ≤ (n : Int) := by omega
    have g3 : (n : Int) ≤ 90 := by omega
    have g4 : (n : Int) ≤ 122 := by omega
    have g5 : (n : Int) ≤ 57 := by omega
    have g6 : ((n : Int) == 45) = false := by rw [beq_eq_false_iff_ne]; omega
    have g7 : ((n : Int) == 95) = false := by rw [beq_eq_false_iff_ne]; omega
    have g8 : ((n : Int) == 46) = false := by rw [beq_eq_false_iff_ne]; omega
    have g9 : ((n : Int) == 47) = false := by rw [beq_eq_false_iff_ne]; omega
    clear hc hn
    go_enter Tryd.func83, Tryd.ntmps83
    go_wp2_with fail
    go_ret
    exact ⟨congrArg (fun r => Ending.returned (.bool r)) HB.out.symm, rfl⟩
  · have HB : Hid (plainN n = true) := by
      show _ = _
      unfold plainN
      rw [decide_eq_true (by omega)]
    have g0 : ¬ (65 : Int) ≤ (n : Int) := by omega
    have g1 : ¬ (97 : Int) ≤ (n : Int) := by omega
    have g2 : ¬ (48 : Int) ≤ (n : Int) := by omega
    have g3 : (n : Int) ≤ 90 := by omega
    have g4 : (n : Int) ≤ 122 := by omega
    have g5 : (n : Int) ≤ 57 := by omega
    have g6 : ((n : Int) == 45) = true := by rw [beq_iff_eq]; omega
    have g7 : ((n : Int) == 95) = false := by rw [beq_eq_false_iff_ne]; omega
    have g8 : ((n : Int) == 46) = false := by rw [beq_eq_false_iff_ne]; omega
    have g9 : ((n : Int) == 47) = false := by rw [beq_eq_false_iff_ne]; omega
    clear hc hn
    go_enter Tryd.func83, Tryd.ntmps83
    go_wp2_with fail
    go_ret
    exact ⟨congrArg (fun r => Ending.returned (.bool r)) HB.out.symm, rfl⟩
  · have HB : Hid (plainN n = true) := by
      show _ = _
      unfold plainN
      rw [decide_eq_true (by omega)]
    have g0 : ¬ (65 : Int) ≤ (n : Int) := by omega
    have g1 : ¬ (97 : Int) ≤ (n : Int) := by omega
    have g2 : ¬ (48 : Int) ≤ (n : Int) := by omega
    have g3 : (n : Int) ≤ 90 := by omega
    have g4 : (n : Int) ≤ 122 := by omega
    have g5 : (n : Int) ≤ 57 := by omega
    have g6 : ((n : Int) == 45) = false := by rw [beq_eq_false_iff_ne]; omega
    have g7 : ((n : Int) == 95) = false := by rw [beq_eq_false_iff_ne]; omega
    have g8 : ((n : Int) == 46) = true := by rw [beq_iff_eq]; omega
    have g9 : ((n : Int) == 47) = false := by rw [beq_eq_false_iff_ne]; omega
    clear hc hn
    go_enter Tryd.func83, Tryd.ntmps83
    go_wp2_with fail
    go_ret
    exact ⟨congrArg (fun r => Ending.returned (.bool r)) HB.out.symm, rfl⟩
  · have HB : Hid (plainN n = true) := by
      show _ = _
      unfold plainN
      rw [decide_eq_true (by omega)]
    have g0 : ¬ (65 : Int) ≤ (n : Int) := by omega
    have g1 : ¬ (97 : Int) ≤ (n : Int) := by omega
    have g2 : ¬ (48 : Int) ≤ (n : Int) := by omega
    have g3 : (n : Int) ≤ 90 := by omega
    have g4 : (n : Int) ≤ 122 := by omega
    have g5 : (n : Int) ≤ 57 := by omega
    have g6 : ((n : Int) == 45) = false := by rw [beq_eq_false_iff_ne]; omega
    have g7 : ((n : Int) == 95) = false := by rw [beq_eq_false_iff_ne]; omega
    have g8 : ((n : Int) == 46) = false := by rw [beq_eq_false_iff_ne]; omega
    have g9 : ((n : Int) == 47) = true := by rw [beq_iff_eq]; omega
    clear hc hn
    go_enter Tryd.func83, Tryd.ntmps83
    go_wp2_with fail
    go_ret
    exact ⟨congrArg (fun r => Ending.returned (.bool r)) HB.out.symm, rfl⟩
  · have HB : Hid (plainN n = true) := by
      show _ = _
      unfold plainN
      rw [decide_eq_true (by omega)]
    have g0 : ¬ (65 : Int) ≤ (n : Int) := by omega
    have g1 : ¬ (97 : Int) ≤ (n : Int) := by omega
    have g2 : (48 : Int) ≤ (n : Int) := by omega
    have g3 : (n : Int) ≤ 90 := by omega
    have g4 : (n : Int) ≤ 122 := by omega
    have g5 : (n : Int) ≤ 57 := by omega
    have g6 : ((n : Int) == 45) = false := by rw [beq_eq_false_iff_ne]; omega
    have g7 : ((n : Int) == 95) = false := by rw [beq_eq_false_iff_ne]; omega
    have g8 : ((n : Int) == 46) = false := by rw [beq_eq_false_iff_ne]; omega
    have g9 : ((n : Int) == 47) = false := by rw [beq_eq_false_iff_ne]; omega
    clear hc hn
    go_enter Tryd.func83, Tryd.ntmps83
    go_wp2_with fail
    go_ret
    exact ⟨congrArg (fun r => Ending.returned (.bool r)) HB.out.symm, rfl⟩
  · have HB : Hid (plainN n = false) := by
      show _ = _
      unfold plainN
      rw [decide_eq_false (by omega)]
    have g0 : ¬ (65 : Int) ≤ (n : Int) := by omega
    have g1 : ¬ (97 : Int) ≤ (n : Int) := by omega
    have g2 : (48 : Int) ≤ (n : Int) := by omega
    have g3 : (n : Int) ≤ 90 := by omega
    have g4 : (n : Int) ≤ 122 := by omega
    have g5 : ¬ (n : Int) ≤ 57 := by omega
    have g6 : ((n : Int) == 45) = false := by rw [beq_eq_false_iff_ne]; omega
    have g7 : ((n : Int) == 95) = false := by rw [beq_eq_false_iff_ne]; omega
    have g8 : ((n : Int) == 46) = false := by rw [beq_eq_false_iff_ne]; omega
    have g9 : ((n : Int) == 47) = false := by rw [beq_eq_false_iff_ne]; omega
    clear hc hn
    go_enter Tryd.func83, Tryd.ntmps83
    go_wp2_with fail
    go_ret
    exact ⟨congrArg (fun r => Ending.returned (.bool r)) HB.out.symm, rfl⟩
  · have HB : Hid (plainN n = true) := by
      show _ = _
      unfold plainN
      rw [decide_eq_true (by omega)]
    have g0 : (65 : Int) ≤ (n : Int) := by omega
    have g1 : ¬ (97 : Int) ≤ (n : Int) := by omega
    have g2 : (48 : Int) ≤ (n : Int) := by omega
    have g3 : (n : Int) ≤ 90 := by omega
    have g4 : (n : Int) ≤ 122 := by omega
    have g5 : ¬ (n : Int) ≤ 57 := by omega
    have g6 : ((n : Int) == 45) = false := by rw [beq_eq_false_iff_ne]; omega
    have g7 : ((n : Int) == 95) = false := by rw [beq_eq_false_iff_ne]; omega
    have g8 : ((n : Int) == 46) = false := by rw [beq_eq_false_iff_ne]; omega
    have g9 : ((n : Int) == 47) = false := by rw [beq_eq_false_iff_ne]; omega
    clear hc hn
    go_enter Tryd.func83, Tryd.ntmps83
    go_wp2_with fail
    go_ret
    exact ⟨congrArg (fun r => Ending.returned (.bool r)) HB.out.symm, rfl⟩
  · have HB : Hid (plainN n = false) := by
      show _ = _
      unfold plainN
      rw [decide_eq_false (by omega)]
    have g0 : (65 : Int) ≤ (n : Int) := by omega
    have g1 : ¬ (97 : Int) ≤ (n : Int) := by omega
    have g2 : (48 : Int) ≤ (n : Int) := by omega
    have g3 : ¬ (n : Int) ≤ 90 := by omega
    have g4 : (n : Int) ≤ 122 := by omega
    have g5 : ¬ (n : Int) ≤ 57 := by omega
    have g6 : ((n : Int) == 45) = false := by rw [beq_eq_false_iff_ne]; omega
    have g7 : ((n : Int) == 95) = false := by rw [beq_eq_false_iff_ne]; omega
    have g8 : ((n : Int) == 46) = false := by rw [beq_eq_false_iff_ne]; omega
    have g9 : ((n : Int) == 47) = false := by rw [beq_eq_false_iff_ne]; omega
    clear hc hn
    go_enter Tryd.func83, Tryd.ntmps83
    go_wp2_with fail
    go_ret
    exact ⟨congrArg (fun r => Ending.returned (.bool r)) HB.out.symm, rfl⟩
  · have HB : Hid (plainN n = true) := by
      show _ = _
      unfold plainN
      rw [decide_eq_true (by omega)]
    have g0 : (65 : Int) ≤ (n : Int) := by omega
    have g1 : ¬ (97 : Int) ≤ (n : Int) := by omega
    have g2 : (48 : Int) ≤ (n : Int) := by omega
    have g3 : ¬ (n : Int) ≤ 90 := by omega
    have g4 : (n : Int) ≤ 122 := by omega
    have g5 : ¬ (n : Int) ≤ 57 := by omega
    have g6 : ((n : Int) == 45) = false := by rw [beq_eq_false_iff_ne]; omega
    have g7 : ((n : Int) == 95) = true := by rw [beq_iff_eq]; omega
    have g8 : ((n : Int) == 46) = false := by rw [beq_eq_false_iff_ne]; omega
    have g9 : ((n : Int) == 47) = false := by rw [beq_eq_false_iff_ne]; omega
    clear hc hn
    go_enter Tryd.func83, Tryd.ntmps83
    go_wp2_with fail
    go_ret
    exact ⟨congrArg (fun r => Ending.returned (.bool r)) HB.out.symm, rfl⟩
  · have HB : Hid (plainN n = false) := by
      show _ = _
      unfold plainN
      rw [decide_eq_false (by omega)]
    have g0 : (65 : Int) ≤ (n : Int) := by omega
    have g1 : ¬ (97 : Int) ≤ (n : Int) := by omega
    have g2 : (48 : Int) ≤ (n : Int) := by omega
    have g3 : ¬ (n : Int) ≤ 90 := by omega
    have g4 : (n : Int) ≤ 122 := by omega
    have g5 : ¬ (n : Int) ≤ 57 := by omega
    have g6 : ((n : Int) == 45) = false := by rw [beq_eq_false_iff_ne]; omega
    have g7 : ((n : Int) == 95) = false := by rw [beq_eq_false_iff_ne]; omega
    have g8 : ((n : Int) == 46) = false := by rw [beq_eq_false_iff_ne]; omega
    have g9 : ((n : Int) == 47) = false := by rw [beq_eq_false_iff_ne]; omega
    clear hc hn
    go_enter Tryd.func83, Tryd.ntmps83
    go_wp2_with fail
    go_ret
    exact ⟨congrArg (fun r => Ending.returned (.bool r)) HB.out.symm, rfl⟩
  · have HB : Hid (plainN n = true) := by
      show _ = _
      unfold plainN
      rw [decide_eq_true (by omega)]
    have g0 : (65 : Int) ≤ (n : Int) := by omega
    have g1 : (97 : Int) ≤ (n : Int) := by omega
    have g2 : (48 : Int) ≤ (n : Int) := by omega
    have g3 : ¬ (n : Int) ≤ 90 := by omega
    have g4 : (n : Int) ≤ 122 := by omega
    have g5 : ¬ (n : Int) ≤ 57 := by omega
    have g6 : ((n : Int) == 45) = false := by rw [beq_eq_false_iff_ne]; omega
    have g7 : ((n : Int) == 95) = false := by rw [beq_eq_false_iff_ne]; omega
    have g8 : ((n : Int) == 46) = false := by rw [beq_eq_false_iff_ne]; omega
    have g9 : ((n : Int) == 47) = false := by rw [beq_eq_false_iff_ne]; omega
    clear hc hn
    go_enter Tryd.func83, Tryd.ntmps83
    go_wp2_with fail
    go_ret
    exact ⟨congrArg (fun r => Ending.returned (.bool r)) HB.out.symm, rfl⟩
  · have HB : Hid (plainN n = false) := by
      show _ = _
      unfold plainN
      rw [decide_eq_false (by omega)]
    have g0 : (65 : Int) ≤ (n : Int) := by omega
    have g1 : (97 : Int) ≤ (n : Int) := by omega
    have g2 : (48 : Int) ≤ (n : Int) := by omega
    have g3 : ¬ (n : Int) ≤ 90 := by omega
    have g4 : ¬ (n : Int) ≤ 122 := by omega
    have g5 : ¬ (n : Int) ≤ 57 := by omega
    have g6 : ((n : Int) == 45) = false := by rw [beq_eq_false_iff_ne]; omega
    have g7 : ((n : Int) == 95) = false := by rw [beq_eq_false_iff_ne]; omega
    have g8 : ((n : Int) == 46) = false := by rw [beq_eq_false_iff_ne]; omega
    have g9 : ((n : Int) == 47) = false := by rw [beq_eq_false_iff_ne]; omega
    clear hc hn
    go_enter Tryd.func83, Tryd.ntmps83
    go_wp2_with fail
    go_ret
    exact ⟨congrArg (fun r => Ending.returned (.bool r)) HB.out.symm, rfl⟩
end Go.Proofs.YtagjbphadakifaaDoor
/- plain words. -/
namespace Go.Proofs.YtagjbphadakifaaDoor
open Go.RowKit Go.Lib
def allPlain (s : ByteArray) : Bool := s.data.toList.all (fun c => plainN c.toNat)
theorem ap_no {s : ByteArray} {j : Nat} (hj : j < s.size) (h : plainN (s[j]).toNat = false) : allPlain s = false := by
  unfold allPlain
  rw [List.all_eq_false]
  refine ⟨s[j], ?_, by rw [h]; simp⟩
  have hj' : j < s.data.toList.length := by simpa using hj
  have e : s.data.toList[j] = s[j] := by rw [Array.getElem_toList]; rfl
  rw [← e]
  exact List.getElem_mem hj'
theorem ap_yes {s : ByteArray} (h : ∀ j (hj : j < s.size), plainN (s[j]).toNat = true) : allPlain s = true := by
  unfold allPlain
  rw [List.all_eq_true]
  intro c hc
  obtain ⟨j, hj, rfl⟩ := List.mem_iff_getElem.1 hc
  have hj' : j < s.size := by simpa using hj
  have e : s.data.toList[j] = s[j] := by rw [Array.getElem_toList]; rfl
  rw [e]
  exact h j hj'
theorem ext_ne {s : ByteArray} {j : Nat} (hj : j < s.size) : ((s.extract 0 j).toList == s.toList) = false := by
  rw [beq_eq_false_iff_ne]
  intro e
  have := congrArg ByteArray.size (bytes_ext9 e)
  rw [ByteArray.size_extract] at this
  omega
set_option maxHeartbeats 8000000 in
set_option maxRecDepth 100000 in
theorem plainahead_any (s : ByteArray) (hs : s.size ≤ 140737488355328) (w : World) : Calls Tryd.prog 66 #[.string s] w (fun e w' => ∃ p, e = .returned (.string p) ∧ (p.toList == s.toList) = allPlain s ∧ w' = w) := by
  go_enter Tryd.func66, Tryd.ntmps66
  go_wp2_with fail
  go_loopw [6] (fun e6 wr => ∃ j : Nat, j ≤ s.size ∧ e6 = .int .i64 (j : Int) ∧ wr = w ∧ Hid (∀ k (h : k < s.size), k < j → plainN (s[k]).toNat = true)) (fun e6 _ => s.size - (RowKit.intOf e6).toNat)
  case atStart => exact ⟨0, by omega, rfl, rfl, fun k _ h => by omega⟩
  case round =>
    obtain ⟨j, hj, rfl, rfl, HN⟩ := hrel
    by_cases hjl : j < s.size
    · have y1 : (j : Int) < s.size := by omega
      have y2 : (j : Int) ≤ s.size := by omega
      have HP := hmk (fun W => plain_any (s[j]).toNat (UInt8.toNat_lt _) W)
      obtain ⟨t, ht⟩ : ∃ t, plainN (s[j]).toNat = t := ⟨_, rfl⟩
      rw [ht] at HP
      cases t with
      | false =>
        have HE := hmk (ext_ne hjl)
        have HA := hmk (ap_no hjl ht)
        clear ht HN
        go_wp2_with (first | (go_at_call 79; refine (HP.out _).mono ?_; rintro e w1 ⟨rfl, rfl⟩))
        go_ret
        exact ⟨_, rfl, by rw [HA.out]; exact HE.out, rfl⟩
      | true =>
        have HY : Hid (∀ k (h : k < s.size), k < j + 1 → plainN (s[k]).toNat = true) := fun k hk h => by
          by_cases e : k = j
          · subst e; exact ht
          · exact HN.out k hk (by omega)
        clear ht HN
        go_wp2_with (first | (go_at_call 79; refine (HP.out _).mono ?_; rintro e w1 ⟨rfl, rfl⟩))
        go_roundw
        case rel => exact ⟨j + 1, by omega, by go_num, (by first | trivial | rfl), HY.out⟩
        case measure => simp [RowKit.intOf]; omega
    · obtain rfl : j = s.size := by omega
      have y1 : ¬ (s.size : Int) < s.size := by omega
      have HA := hmk (ap_yes fun k hk => HN.out k hk hk)
      go_wp2_with fail
      (try simp only [Exit.inBlock, Exit.then])
      go_ret
      exact ⟨s, rfl, by rw [HA.out]; simp, rfl⟩
def plainW (s : ByteArray) : Bool := allPlain s && decide (0 < s.size)
set_option maxHeartbeats 8000000 in
set_option maxRecDepth 100000 in
theorem rplain_any (s : ByteArray) (hs : s.size ≤ 140737488355328) (w : World) : Calls Tryd.prog 68 #[.string s] w (fun e w' => e = .returned (.bool (plainW s)) ∧ w' = w) := by
  go_enter Tryd.func68, Tryd.ntmps68
  go_wp2_with fail
  go_loopw [3] (fun e6 wr => ∃ j : Nat, j ≤ s.size ∧ e6 = .int .i64 (j : Int) ∧ wr = w ∧ Hid (∀ k (h : k < s.size), k < j → plainN (s[k]).toNat = true)) (fun e6 _ => s.size - (RowKit.intOf e6).toNat)
  case atStart => exact ⟨0, by omega, rfl, rfl, fun k _ h => by omega⟩
  case round =>
    obtain ⟨j, hj, rfl, rfl, HN⟩ := hrel
    by_cases hjl : j < s.size
    · have y1 : (j : Int) < s.size := by omega
      have HP := hmk (fun W => rplainbyte_any (s[j]).toNat (UInt8.toNat_lt _) W)
      obtain ⟨t, ht⟩ : ∃ t, plainN (s[j]).toNat = t := ⟨_, rfl⟩
      rw [ht] at HP
      cases t with
      | false =>
        have HA : Hid (plainW s = false) := by show _ = _; unfold plainW; rw [ap_no hjl ht]; rfl
        clear ht HN
        go_wp2_with (first | (go_at_call 83; refine (HP.out _).mono ?_; rintro e w1 ⟨rfl, rfl⟩))
        go_ret
        exact ⟨congrArg (fun r => Ending.returned (.bool r)) HA.out.symm, rfl⟩
      | true =>
        have HY : Hid (∀ k (h : k < s.size), k < j + 1 → plainN (s[k]).toNat = true) := fun k hk h => by
          by_cases e : k = j
          · subst e; exact ht
          · exact HN.out k hk (by omega)
        clear ht HN
        go_wp2_with (first | (go_at_call 83; refine (HP.out _).mono ?_; rintro e w1 ⟨rfl, rfl⟩))
        go_roundw
        case rel => exact ⟨j + 1, by omega, by go_num, (by first | trivial | rfl), HY.out⟩
        case measure => simp [RowKit.intOf]; omega
    · obtain rfl : j = s.size := by omega
      have y1 : ¬ (s.size : Int) < s.size := by omega
      have HA : Hid (plainW s = decide ((0 : Int) < (s.size : Int))) := by
        show _ = _
        unfold plainW
        rw [ap_yes fun k hk => HN.out k hk hk, Bool.true_and, Bool.eq_iff_iff, decide_eq_true_eq, decide_eq_true_eq]
        omega
      go_wp2_with fail
      (try simp only [Exit.inBlock, Exit.then])
      go_ret
      exact ⟨congrArg (fun r => Ending.returned (.bool r)) (by rw [HA.out]; try simp), rfl⟩
end Go.Proofs.YtagjbphadakifaaDoor
/- a word's text, on both sides. -/
namespace Go.Proofs.YtagjbphadakifaaDoor
open Go.RowKit Go.Lib
/-- what the calls read beside their arguments: the library's tables, and the table of letters -/
structure Tl (w : World) : Prop where
  t : Tb w
  l : LetTab w
  z : 2 < w.heap.size
theorem Tl.below {w w' : World} {B : Nat} (h : Tl w) (hb : Below B w w') (hB : 2 < B) : Tl w' := ⟨h.t.below hb (by omega), h.l.below hb hB, Nat.lt_of_lt_of_le h.z hb.size⟩
def wordL (s : ByteArray) : List UInt8 := if plainW s then s.data.toList else Q.qt s.data.toList
def wordS (s : ByteArray) : ByteArray := ⟨(wordL s).toArray⟩
theorem wordS_plain {s : ByteArray} (h : plainW s = true) : wordS s = s := by
  unfold wordS wordL
  rw [if_pos h]
theorem wordS_quote {s : ByteArray} (h : plainW s = false) : wordS s = ⟨(Q.qt s.data.toList).toArray⟩ := by
  unfold wordS wordL
  rw [if_neg (by rw [h]; simp)]
theorem wordL_len {s : ByteArray} (hs : s.size ≤ 64) : (wordL s).length ≤ 400 := by
  have h0 : s.data.toList.length = s.size := by simp
  unfold wordL
  split
  · omega
  · rw [Q.qt_length]
    have := Q.sz_le s.data.toList
    omega
def WtPost (s : ByteArray) (w : World) (e : Ending) (w' : World) : Prop := e = .returned (.string (wordS s)) ∧ Below w.heap.size w w'
set_option maxHeartbeats 8000000 in
set_option maxRecDepth 100000 in
theorem wordtext_any (s : ByteArray) (hs : s.size ≤ 64) (hu : utfB s = true) (w : World) (hT : Tl w) : Calls Tryd.prog 51 #[.string s] w (WtPost s w) := by
  have HQ := hmk (quote_good s w (by omega) hT.t.u hT.l hT.z hu)
  have HP := hmk (plainahead_any s (by omega) w)
  have hn := @nil_eq s
  by_cases hz : s.size = 0
  · have y0 : (s.toList == []) = true := by rw [hn, decide_eq_true hz]
    have HW := hmk (wordS_quote (s := s) (by unfold plainW; rw [hz]; simp))
    clear hn hz
    go_enter Tryd.func51, Tryd.ntmps51
    go_wp2_with (first | (go_at_call 67; refine HQ.out.mono ?_; rintro e w1 ⟨rfl, B1⟩))
    go_ret
    exact ⟨by rw [HW.out]; rfl, B1⟩
  · have y0 : (s.toList == []) = false := by rw [hn, decide_eq_false hz]
    obtain ⟨t, ht⟩ : ∃ t, allPlain s = t := ⟨_, rfl⟩
    have hpw : plainW s = t := by unfold plainW; rw [ht, decide_eq_true (by omega : 0 < s.size), Bool.and_true]
    rw [ht] at HP
    clear ht hn hz
    cases t with
    | true =>
      have HW := hmk (wordS_plain hpw)
      clear hpw
      go_enter Tryd.func51, Tryd.ntmps51
      go_wp2_with (first | (go_at_call 66; refine HP.out.mono ?_; rintro e w1 ⟨p, rfl, hp, rfl⟩) | (go_at_call 67; refine HQ.out.mono ?_; rintro e w1 ⟨rfl, B1⟩))
      go_ret
      exact ⟨by rw [HW.out]; rfl, Below.refl _ _⟩
    | false =>
      have HW := hmk (wordS_quote hpw)
      clear hpw
      go_enter Tryd.func51, Tryd.ntmps51
      go_wp2_with (first | (go_at_call 66; refine HP.out.mono ?_; rintro e w1 ⟨p, rfl, hp, h1⟩; rw [h1]; clear h1) | (go_at_call 67; refine HQ.out.mono ?_; rintro e w1 ⟨rfl, B1⟩))
      go_ret
      exact ⟨by rw [HW.out]; rfl, B1⟩
set_option maxHeartbeats 8000000 in
set_option maxRecDepth 100000 in
theorem rword_any (s : ByteArray) (hs : s.size ≤ 64) (hu : utfB s = true) (w : World) : Calls Tryd.prog 53 #[.string s] w (WtPost s w) := by
  have HQ := hmk (refQuote_good s w (by omega) hu)
  have HP := hmk (rplain_any s (by omega) w)
  obtain ⟨t, ht⟩ : ∃ t, plainW s = t := ⟨_, rfl⟩
  rw [ht] at HP
  cases t with
  | true =>
    have HW := hmk (wordS_plain ht)
    clear ht
    go_enter Tryd.func53, Tryd.ntmps53
    go_wp2_with (first | (go_at_call 68; refine HP.out.mono ?_; rintro e w1 ⟨rfl, rfl⟩) | (go_at_call 69; refine HQ.out.mono ?_; rintro e w1 ⟨rfl, B1⟩))
    go_ret
    exact ⟨by rw [HW.out]; rfl, Below.refl _ _⟩
  | false =>
    have HW := hmk (wordS_quote ht)
    clear ht
    go_enter Tryd.func53, Tryd.ntmps53
    go_wp2_with (first | (go_at_call 68; refine HP.out.mono ?_; rintro e w1 ⟨rfl, h1⟩; rw [h1]; clear h1) | (go_at_call 69; refine HQ.out.mono ?_; rintro e w1 ⟨rfl, B1⟩))
    go_ret
    exact ⟨by rw [HW.out]; rfl, B1⟩
end Go.Proofs.YtagjbphadakifaaDoor
/- the document's text of a term. -/
namespace Go.Proofs.YtagjbphadakifaaDoor
open Go.RowKit Go.Lib
abbrev bs (l : List UInt8) : ByteArray := ⟨l.toArray⟩
theorem bs_size (l : List UInt8) : (bs l).size = l.length := by show (List.toArray l).size = _; simp
theorem bs_app (x y : List UInt8) : bs x ++ bs y = bs (x ++ y) := by
  apply bytes_ext9
  rw [ByteArray.toList_eq, ByteArray.toList_eq]
  simp [bs]
theorem add_bs (x y : List UInt8) (h : x.length + y.length ≤ 9223372036854775807) (W : World) : (Op.stringOp .add (bs x) (bs y)).run Tryd.prog W = .ok (.string (bs (x ++ y))) W := by
  rw [run_string_add_sum (P := Tryd.prog) W (bs x) (bs y) (by rw [bs_size, bs_size]; exact h), bs_app]
/-- the first i values, each behind a comma but the first -/
def joinI (l : List ByteArray) : Nat → List UInt8
  | 0 => []
  | i + 1 => joinI l i ++ (if 0 < i then [44] else []) ++ (match l[i]? with | some x => wordL x | none => [])
theorem joinI_next {l : List ByteArray} {i : Nat} (h : i < l.length) : joinI l (i + 1) = joinI l i ++ (if 0 < i then [44] else []) ++ wordL l[i] := by
  rw [joinI, List.getElem?_eq_getElem h]
def Fine (l : List ByteArray) : Prop := ∀ x ∈ l, x.size ≤ 64 ∧ utfB x = true
theorem joinI_len {l : List ByteArray} (h : Fine l) : ∀ i, i ≤ l.length → (joinI l i).length ≤ 401 * i
  | 0, _ => by simp [joinI]
  | i + 1, hi => by
    have h1 := joinI_len h i (by omega)
    have h2 := wordL_len (h _ (List.getElem_mem (show i < l.length by omega))).1
    rw [joinI_next (by omega), List.length_append, List.length_append]
    have h3 : (if 0 < i then [44] else ([] : List UInt8)).length ≤ 1 := by split <;> simp
    omega
def signL (op : Int) : List UInt8 := if op = 4 then [33, 61] else [61]
def nameL (op : Int) : List UInt8 := if op = 4 then [32, 110, 111, 116, 105, 110, 32, 40] else [32, 105, 110, 32, 40]
def termL (t : Trm) : List UInt8 :=
  if t.2.1 = 1 then wordL t.1 else if t.2.1 = 2 then [33] ++ wordL t.1
  else if t.2.2.length = 1 then wordL t.1 ++ signL t.2.1 ++ joinI t.2.2 1 else wordL t.1 ++ nameL t.2.1 ++ joinI t.2.2 t.2.2.length ++ [41]
def TtPost (t : Trm) (w : World) (e : Ending) (w' : World) : Prop := e = .returned (.string (bs (termL t))) ∧ Below w.heap.size w w'
set_option maxHeartbeats 8000000 in
set_option maxRecDepth 100000 in
theorem rterm_any (key : ByteArray) (op : Int) (l : List ByteArray) (S : Nat → Prop) (a : Option Addr) (c b o : Nat) (w : World) (hh : Headed a l.length c b o) (hl : liesS w S l b o) (hS : ∀ y, S y → y < w.heap.size) (hk : key.size ≤ 64 ∧ utfB key = true) (hf : Fine l) (hm : l.length ≤ 2147483647) :
    Calls Tryd.prog 32 #[.agg #[.string key, .int .i64 op, .slice a l.length c]] w (TtPost (key, op, l) w) := by
  have HH := hmk hh
  have HL := hmk hl
  have HF := hmk hf
  have b0 : Below w.heap.size w (w.alloc (.cells #[.string key, .int .i64 op, .slice a l.length c] 50)) := (Below.refl _ _).alloc (Nat.le_refl _) _
  have hx0 := heap_alloc_new w (.cells #[.string key, .int .i64 op, .slice a l.length c] 50)
  have hw0 : (w.alloc (.cells #[.string key, .int .i64 op, .slice a l.length c] 50)).heap.size = w.heap.size + 1 := alloc_size _ _
  have HK := hmk (fun W => rword_any key hk.1 hk.2 W)
  have hkl := wordL_len hk.1
  have X0 : Hid (∀ W : World, Below (w.alloc (.cells #[.string key, .int .i64 op, .slice a l.length c] 50)).heap.size (w.alloc (.cells #[.string key, .int .i64 op, .slice a l.length c] 50)) W → W.cell? ⟨w.heap.size, 0, none⟩ = some (.string key) ∧ W.cell? ⟨w.heap.size, 1, none⟩ = some (.int .i64 op) ∧ W.cell? ⟨w.heap.size, 2, none⟩ = some (.slice a l.length c)) := fun W hW => by
    have hx := (hW.block w.heap.size (by omega)).trans hx0
    exact ⟨by rw [cell_of_block hx]; rfl, by rw [cell_of_block hx]; rfl, by rw [cell_of_block hx]; rfl⟩
  have HB0 : Hid (∀ W : World, Below (w.alloc (.cells #[.string key, .int .i64 op, .slice a l.length c] 50)).heap.size (w.alloc (.cells #[.string key, .int .i64 op, .slice a l.length c] 50)) W → Below w.heap.size w W) := fun W hW => b0.trans (hW.mono (by omega))
  obtain ⟨x0, x1, x2⟩ := X0.out _ (Below.refl _ _)
  have HWK : Hid (wordS key = bs (wordL key)) := rfl
  have HTM : Hid (termL (key, op, l) = if op = 1 then wordL key else if op = 2 then [33] ++ wordL key else if l.length = 1 then wordL key ++ signL op ++ joinI l 1 else wordL key ++ nameL op ++ joinI l l.length ++ [41]) := rfl
  have HBB : Hid (∀ w1, Below (w.alloc (.cells #[.string key, .int .i64 op, .slice a l.length c] 50)).heap.size (w.alloc (.cells #[.string key, .int .i64 op, .slice a l.length c] 50)) w1 → Below w.heap.size w w1) := HB0.out
  clear hh hl hf hx0 hk b0
  generalize wordL key = kw at *
  by_cases e1 : op = 1
  · subst e1
    have HR : Hid (termL (key, 1, l) = kw) := HTM.out
    go_enter Tryd.func32, Tryd.ntmps32
    go_wp2_with (first | (go_at_call 53; refine (HK.out _).mono ?_; rintro e w1 ⟨rfl, B1⟩; rw [HWK.out]; obtain ⟨z0, z1, z2⟩ := X0.out _ B1))
    go_ret
    exact ⟨by rw [HR.out]; rfl, HBB.out _ B1⟩
  by_cases e2 : op = 2
  · subst e2
    have HR : Hid (termL (key, 2, l) = [33] ++ kw) := HTM.out
    have hA1 : ∀ W, (Op.stringOp .add ⟨#[33]⟩ (bs kw)).run Tryd.prog W = .ok (.string (bs ([33] ++ kw))) W := add_bs [33] kw (by simp; omega)
    go_enter Tryd.func32, Tryd.ntmps32
    go_wp2_with (first | (go_at_call 53; refine (HK.out _).mono ?_; rintro e w1 ⟨rfl, B1⟩; rw [HWK.out]; obtain ⟨z0, z1, z2⟩ := X0.out _ B1))
    go_ret
    exact ⟨by rw [HR.out]; rfl, HBB.out _ B1⟩
  have f1 : (op == 1) = false := by rw [beq_eq_false_iff_ne]; exact e1
  have f2 : (op == 2) = false := by rw [beq_eq_false_iff_ne]; exact e2
  rw [if_neg e1, if_neg e2] at HTM
  obtain ⟨f, hf4⟩ : ∃ f, (op == 4) = f := ⟨_, rfl⟩
  have HSG : Hid (signL op = if f then [33, 61] else [61]) := by show _ = _; unfold signL; rw [← hf4]; simp
  have HNM : Hid (nameL op = if f then [32, 110, 111, 116, 105, 110, 32, 40] else [32, 105, 110, 32, 40]) := by show _ = _; unfold nameL; rw [← hf4]; simp
  rw [HSG.out, HNM.out] at HTM
  clear e1 e2 HSG HNM
  by_cases hl1 : l.length = 1
  · rw [if_pos hl1] at HTM
    obtain rfl : a = some ⟨b, o, none⟩ := HH.out.at_.resolve_left (by omega)
    obtain ⟨s1, _, q0⟩ := HL.out 0 (by omega)
    rw [Nat.add_zero] at q0
    have hx := HF.out _ (List.getElem_mem (show 0 < l.length by omega))
    have HX := hmk (fun W => rword_any l[0] hx.1 hx.2 W)
    have HXS : Hid (wordS l[0] = bs (wordL l[0])) := rfl
    have hj1 : joinI l 1 = wordL l[0] := by rw [joinI_next (by omega)]; simp [joinI]
    have hwl := wordL_len hx.1
    rw [hj1] at HTM
    have hbl := hS _ s1
    have HQ0 : Hid (∀ W, Below w.heap.size w W → W.cell? ⟨b, o, none⟩ = some (.string l[0])) := fun W hW => (hW.cell (p := ⟨b, o, none⟩) hbl).trans q0
    have y1 : ((l.length : Int) == 1) = true := by rw [beq_iff_eq]; omega
    have y2 : (0 : Int) < l.length := by omega
    clear hx hj1 q0
    generalize wordL l[0] = xw at *
    generalize l[0] = x at *
    clear hl1
    cases f with
    | true =>
      simp only [if_true] at HTM
      have hA1 : ∀ W, (Op.stringOp .add (bs kw) ⟨#[33, 61]⟩).run Tryd.prog W = .ok (.string (bs (kw ++ [33, 61]))) W := add_bs kw [33, 61] (by simp; omega)
      have hA2 : ∀ W, (Op.stringOp .add (bs (kw ++ [33, 61])) (bs xw)).run Tryd.prog W = .ok (.string (bs (kw ++ [33, 61] ++ xw))) W := add_bs _ _ (by simp; omega)
      go_enter Tryd.func32, Tryd.ntmps32
      go_wp2_with fail
      refine (HK.out _).mono ?_
      rintro e w1 ⟨rfl, B1⟩
      rw [HWK.out]
      obtain ⟨z0, z1, z2⟩ := X0.out _ B1
      have z3 := HQ0.out _ (HBB.out _ B1)
      go_wp2_with fail
      refine (HX.out _).mono ?_
      rintro e w2 ⟨rfl, B2⟩
      rw [HXS.out]
      go_wp2_with fail
      go_ret
      exact ⟨by rw [HTM.out, List.append_assoc]; rfl, HBB.out _ (B1.trans (B2.mono B1.size))⟩
    | false =>
      simp only [Bool.false_eq_true, if_false] at HTM
      have hA1 : ∀ W, (Op.stringOp .add (bs kw) ⟨#[61]⟩).run Tryd.prog W = .ok (.string (bs (kw ++ [61]))) W := add_bs kw [61] (by simp; omega)
      have hA2 : ∀ W, (Op.stringOp .add (bs (kw ++ [61])) (bs xw)).run Tryd.prog W = .ok (.string (bs (kw ++ [61] ++ xw))) W := add_bs _ _ (by simp; omega)
      go_enter Tryd.func32, Tryd.ntmps32
      go_wp2_with fail
      refine (HK.out _).mono ?_
      rintro e w1 ⟨rfl, B1⟩
      rw [HWK.out]
      obtain ⟨z0, z1, z2⟩ := X0.out _ B1
      have z3 := HQ0.out _ (HBB.out _ B1)
      go_wp2_with fail
      refine (HX.out _).mono ?_
      rintro e w2 ⟨rfl, B2⟩
      rw [HXS.out]
      go_wp2_with fail
      go_ret
      exact ⟨by rw [HTM.out, List.append_assoc]; rfl, HBB.out _ (B1.trans (B2.mono B1.size))⟩
  · rw [if_neg hl1] at HTM
    have y1 : ((l.length : Int) == 1) = false := by rw [beq_eq_false_iff_ne]; omega
    clear hl1
    cases f with
    | true =>
      simp only [if_true] at HTM
      obtain ⟨pre, hpre⟩ : ∃ pre, kw ++ [32, 110, 111, 116, 105, 110, 32, 40] = pre := ⟨_, rfl⟩
      have hA1 : ∀ W, (Op.stringOp .add (bs kw) ⟨#[32, 110, 111, 116, 105, 110, 32, 40]⟩).run Tryd.prog W = .ok (.string (bs pre)) W := by rw [← hpre]; exact add_bs kw [32, 110, 111, 116, 105, 110, 32, 40] (by simp; omega)
      have hpl : pre.length ≤ 408 := by rw [← hpre]; simp; omega
      have HPRE := hmk hpre
      clear hpre
      go_enter Tryd.func32, Tryd.ntmps32
      go_wp2_with fail
      refine (HK.out _).mono ?_
      rintro e w1 ⟨rfl, B1⟩
      rw [HWK.out]
      obtain ⟨z0, z1, z2⟩ := X0.out _ B1
      go_wp2_with fail
      clear z0 z1 z2 hA1
      go_loopw [6, 7] (fun e6 e7 wr => ∃ (i : Nat) (X : List UInt8), i ≤ l.length ∧ e7 = .int .i64 (i : Int) ∧ e6 = .string (bs X) ∧ Hid (X = pre ++ joinI l i) ∧ Below w1.heap.size w1 wr) (fun _ e7 _ => l.length - (RowKit.intOf e7).toNat)
      case atStart => exact ⟨0, pre, by omega, rfl, rfl, by show _ = _; simp [joinI], Below.refl _ _⟩
      case round =>
        obtain ⟨i, X, hi, rfl, rfl, HX, Bi⟩ := hrel
        have B0i := B1.trans (Bi.mono B1.size)
        obtain ⟨z0, z1, z2⟩ := X0.out _ B0i
        have hXl : X.length ≤ 408 + 401 * i := by
          have := joinI_len HF.out i hi
          rw [HX.out, List.length_append]
          omega
        by_cases hil : i < l.length
        · have y3 : (i : Int) < l.length := by omega
          obtain rfl : a = some ⟨b, o, none⟩ := HH.out.at_.resolve_left (by omega)
          obtain ⟨s1, _, q0⟩ := HL.out i hil
          have q := ((HBB.out _ B0i).cell (p := ⟨b, o + i, none⟩) (hS _ s1)).trans q0
          clear q0
          by_cases hi0 : i = 0
          · have y4 : ¬ (0 : Int) < (i : Int) := by omega
            have hx := HF.out _ (List.getElem_mem hil)
            have HXC := hmk (fun W => rword_any l[i] hx.1 hx.2 W)
            have HXS : Hid (wordS l[i] = bs (wordL l[i])) := rfl
            have hwl := wordL_len hx.1
            have HJ := hmk (joinI_next hil)
            clear hx
            generalize wordL l[i] = xw at *
            generalize l[i] = x at *
            obtain ⟨Y, hY⟩ : ∃ Y, X ++ xw = Y := ⟨_, rfl⟩
            have hB : ∀ W, (Op.stringOp .add (bs X) (bs xw)).run Tryd.prog W = .ok (.string (bs Y)) W := by rw [← hY]; exact add_bs X xw (by omega)
            have HY : Hid (Y = pre ++ joinI l (i + 1)) := by show _ = _; rw [← hY, HX.out, HJ.out, hi0]; simp
            clear hY HX hXl hi0
            go_wp2_with fail
            refine (HXC.out _).mono ?_
            rintro e w2 ⟨rfl, B2⟩
            rw [HXS.out]
            go_wp2_with fail
            go_roundw
            case rel => exact ⟨i + 1, Y, by omega, by go_num, rfl, HY, Bi.trans (B2.mono Bi.size)⟩
            case measure => simp [RowKit.intOf]; omega
          · have y4 : (0 : Int) < (i : Int) := by omega
            have hx := HF.out _ (List.getElem_mem hil)
            have HXC := hmk (fun W => rword_any l[i] hx.1 hx.2 W)
            have HXS : Hid (wordS l[i] = bs (wordL l[i])) := rfl
            have hwl := wordL_len hx.1
            have HJ := hmk (joinI_next hil)
            clear hx
            generalize wordL l[i] = xw at *
            generalize l[i] = x at *
            obtain ⟨X1, hX1⟩ : ∃ X1, X ++ [44] = X1 := ⟨_, rfl⟩
            have hA : ∀ W, (Op.stringOp .add (bs X) ⟨#[44]⟩).run Tryd.prog W = .ok (.string (bs X1)) W := by rw [← hX1]; exact add_bs X [44] (by simp; omega)
            obtain ⟨Y, hY⟩ : ∃ Y, X1 ++ xw = Y := ⟨_, rfl⟩
            have hB : ∀ W, (Op.stringOp .add (bs X1) (bs xw)).run Tryd.prog W = .ok (.string (bs Y)) W := by rw [← hY]; exact add_bs X1 xw (by rw [← hX1]; simp; omega)
            have HY : Hid (Y = pre ++ joinI l (i + 1)) := by show _ = _; rw [← hY, ← hX1, HX.out, HJ.out, if_pos (by omega)]; simp
            clear hY HX hXl hX1 hi0
            go_wp2_with fail
            refine (HXC.out _).mono ?_
            rintro e w2 ⟨rfl, B2⟩
            rw [HXS.out]
            go_wp2_with fail
            go_roundw
            case rel => exact ⟨i + 1, Y, by omega, by go_num, rfl, HY, Bi.trans (B2.mono Bi.size)⟩
            case measure => simp [RowKit.intOf]; omega
        · obtain rfl : i = l.length := by omega
          have y3 : ¬ (l.length : Int) < l.length := by omega
          obtain ⟨Z, hZ⟩ : ∃ Z, X ++ [41] = Z := ⟨_, rfl⟩
          have hA : ∀ W, (Op.stringOp .add (bs X) ⟨#[41]⟩).run Tryd.prog W = .ok (.string (bs Z)) W := by rw [← hZ]; exact add_bs X [41] (by simp; omega)
          have HZ : Hid (termL (key, op, l) = Z) := by show _ = _; rw [HTM.out, ← hZ, HX.out, ← HPRE.out]
          clear hZ HX hXl
          go_wp2_with fail
          (try simp only [Exit.inBlock, Exit.then])
          go_ret
          exact ⟨by rw [HZ.out]; rfl, HBB.out _ B0i⟩
    | false =>
      simp only [Bool.false_eq_true, if_false] at HTM
      obtain ⟨pre, hpre⟩ : ∃ pre, kw ++ [32, 105, 110, 32, 40] = pre := ⟨_, rfl⟩
      have hA1 : ∀ W, (Op.stringOp .add (bs kw) ⟨#[32, 105, 110, 32, 40]⟩).run Tryd.prog W = .ok (.string (bs pre)) W := by rw [← hpre]; exact add_bs kw [32, 105, 110, 32, 40] (by simp; omega)
      have hpl : pre.length ≤ 408 := by rw [← hpre]; simp; omega
      have HPRE := hmk hpre
      clear hpre
      go_enter Tryd.func32, Tryd.ntmps32
      go_wp2_with fail
      refine (HK.out _).mono ?_
      rintro e w1 ⟨rfl, B1⟩
      rw [HWK.out]
      obtain ⟨z0, z1, z2⟩ := X0.out _ B1
      go_wp2_with fail
      clear z0 z1 z2 hA1
      go_loopw [6, 7] (fun e6 e7 wr => ∃ (i : Nat) (X : List UInt8), i ≤ l.length ∧ e7 = .int .i64 (i : Int) ∧ e6 = .string (bs X) ∧ Hid (X = pre ++ joinI l i) ∧ Below w1.heap.size w1 wr) (fun _ e7 _ => l.length - (RowKit.intOf e7).toNat)
      case atStart => exact ⟨0, pre, by omega, rfl, rfl, by show _ = _; simp [joinI], Below.refl _ _⟩
      case round =>
        obtain ⟨i, X, hi, rfl, rfl, HX, Bi⟩ := hrel
        have B0i := B1.trans (Bi.mono B1.size)
        obtain ⟨z0, z1, z2⟩ := X0.out _ B0i
        have hXl : X.length ≤ 408 + 401 * i := by
          have := joinI_len HF.out i hi
          rw [HX.out, List.length_append]
          omega
        by_cases hil : i < l.length
        · have y3 : (i : Int) < l.length := by omega
          obtain rfl : a = some ⟨b, o, none⟩ := HH.out.at_.resolve_left (by omega)
          obtain ⟨s1, _, q0⟩ := HL.out i hil
          have q := ((HBB.out _ B0i).cell (p := ⟨b, o + i, none⟩) (hS _ s1)).trans q0
          clear q0
          by_cases hi0 : i = 0
          · have y4 : ¬ (0 : Int) < (i : Int) := by omega
            have hx := HF.out _ (List.getElem_mem hil)
            have HXC := hmk (fun W => rword_any l[i] hx.1 hx.2 W)
            have HXS : Hid (wordS l[i] = bs (wordL l[i])) := rfl
            have hwl := wordL_len hx.1
            have HJ := hmk (joinI_next hil)
            clear hx
            generalize wordL l[i] = xw at *
            generalize l[i] = x at *
            obtain ⟨Y, hY⟩ : ∃ Y, X ++ xw = Y := ⟨_, rfl⟩
            have hB : ∀ W, (Op.stringOp .add (bs X) (bs xw)).run Tryd.prog W = .ok (.string (bs Y)) W := by rw [← hY]; exact add_bs X xw (by omega)
            have HY : Hid (Y = pre ++ joinI l (i + 1)) := by show _ = _; rw [← hY, HX.out, HJ.out, hi0]; simp
            clear hY HX hXl hi0
            go_wp2_with fail
            refine (HXC.out _).mono ?_
            rintro e w2 ⟨rfl, B2⟩
            rw [HXS.out]
            go_wp2_with fail
            go_roundw
            case rel => exact ⟨i + 1, Y, by omega, by go_num, rfl, HY, Bi.trans (B2.mono Bi.size)⟩
            case measure => simp [RowKit.intOf]; omega
          · have y4 : (0 : Int) < (i : Int) := by omega
            have hx := HF.out _ (List.getElem_mem hil)
            have HXC := hmk (fun W => rword_any l[i] hx.1 hx.2 W)
            have HXS : Hid (wordS l[i] = bs (wordL l[i])) := rfl
            have hwl := wordL_len hx.1
            have HJ := hmk (joinI_next hil)
            clear hx
            generalize wordL l[i] = xw at *
            generalize l[i] = x at *
            obtain ⟨X1, hX1⟩ : ∃ X1, X ++ [44] = X1 := ⟨_, rfl⟩
            have hA : ∀ W, (Op.stringOp .add (bs X) ⟨#[44]⟩).run Tryd.prog W = .ok (.string (bs X1)) W := by rw [← hX1]; exact add_bs X [44] (by simp; omega)
            obtain ⟨Y, hY⟩ : ∃ Y, X1 ++ xw = Y := ⟨_, rfl⟩
            have hB : ∀ W, (Op.stringOp .add (bs X1) (bs xw)).run Tryd.prog W = .ok (.string (bs Y)) W := by rw [← hY]; exact add_bs X1 xw (by rw [← hX1]; simp; omega)
            have HY : Hid (Y = pre ++ joinI l (i + 1)) := by show _ = _; rw [← hY, ← hX1, HX.out, HJ.out, if_pos (by omega)]; simp
            clear hY HX hXl hX1 hi0
            go_wp2_with fail
            refine (HXC.out _).mono ?_
            rintro e w2 ⟨rfl, B2⟩
            rw [HXS.out]
            go_wp2_with fail
            go_roundw
            case rel => exact ⟨i + 1, Y, by omega, by go_num, rfl, HY, Bi.trans (B2.mono Bi.size)⟩
            case measure => simp [RowKit.intOf]; omega
        · obtain rfl : i = l.length := by omega
          have y3 : ¬ (l.length : Int) < l.length := by omega
          obtain ⟨Z, hZ⟩ : ∃ Z, X ++ [41] = Z := ⟨_, rfl⟩
          have hA : ∀ W, (Op.stringOp .add (bs X) ⟨#[41]⟩).run Tryd.prog W = .ok (.string (bs Z)) W := by rw [← hZ]; exact add_bs X [41] (by simp; omega)
          have HZ : Hid (termL (key, op, l) = Z) := by show _ = _; rw [HTM.out, ← hZ, HX.out, ← HPRE.out]
          clear hZ HX hXl
          go_wp2_with fail
          (try simp only [Exit.inBlock, Exit.then])
          go_ret
          exact ⟨by rw [HZ.out]; rfl, HBB.out _ B0i⟩
end Go.Proofs.YtagjbphadakifaaDoor
/- the document's Print. -/
namespace Go.Proofs.YtagjbphadakifaaDoor
open Go.RowKit Go.Lib
theorem good_fine {t : Trm} (h : goodB t = true) : (t.1.size ≤ 64 ∧ utfB t.1 = true) ∧ Fine t.2.2 := by
  have hv := good_vals h
  unfold goodB at h
  rw [Bool.and_eq_true, Bool.and_eq_true] at h
  have hw := h.1.2
  unfold wordB at hw
  rw [Bool.and_eq_true, decide_eq_true_eq] at hw
  refine ⟨hw, fun x hx => ?_⟩
  obtain ⟨k, hk, rfl⟩ := List.mem_iff_getElem.1 hx
  unfold valsB at hv
  rw [List.all_eq_true] at hv
  have h1 := hv k (List.mem_range.2 hk)
  have h2 : wordB t.2.2[k] = true := by
    cases k with
    | zero => rw [valB_zero hk] at h1; exact h1
    | succ q => rw [valB_succ hk, Bool.and_eq_true] at h1; exact h1.1
  unfold wordB at h2
  rw [Bool.and_eq_true, decide_eq_true_eq] at h2
  exact h2
theorem termL_len {t : Trm} (h : goodB t = true) : (termL t).length ≤ 411 * (1 + t.2.2.length) := by
  obtain ⟨h1, h2⟩ := good_fine h
  have hk := wordL_len h1.1
  have hj := joinI_len h2 t.2.2.length (Nat.le_refl _)
  have hs : (signL t.2.1).length ≤ 2 := by unfold signL; split <;> simp
  have hn : (nameL t.2.1).length ≤ 8 := by unfold nameL; split <;> simp
  unfold termL
  split
  · omega
  · split
    · rw [List.length_append]; simp only [List.length_singleton]; omega
    · split
      · rename_i hl
        have hj1 := joinI_len h2 1 (by omega)
        rw [List.length_append, List.length_append]; omega
      · rw [List.length_append, List.length_append, List.length_append]; simp only [List.length_singleton]; omega
def printI (l : List Trm) : Nat → List UInt8
  | 0 => []
  | i + 1 => printI l i ++ (if 0 < i then [44] else []) ++ (match l[i]? with | some x => termL x | none => [])
theorem printI_next {l : List Trm} {i : Nat} (h : i < l.length) : printI l (i + 1) = printI l i ++ (if 0 < i then [44] else []) ++ termL l[i] := by
  rw [printI, List.getElem?_eq_getElem h]
theorem printI_len {l : List Trm} (h : ∀ t ∈ l, goodB t = true) : ∀ i, i ≤ l.length → (printI l i).length ≤ 412 * wtT (l.take i)
  | 0, _ => by simp [printI, wtT]
  | i + 1, hi => by
    have h1 := printI_len h i (by omega)
    have h2 := termL_len (h _ (List.getElem_mem (show i < l.length by omega)))
    have h3 := wtS_len (l[i]'(by omega)).2.2
    rw [printI_next (by omega), wtT_take (by omega), List.length_append, List.length_append]
    have h4 : (if 0 < i then [44] else ([] : List UInt8)).length ≤ 1 := by split <;> simp
    omega
theorem wtT_take_le (l : List Trm) (i : Nat) (hi : i ≤ l.length) : wtT (l.take i) ≤ wtT l := by
  have : ∀ k, i + k ≤ l.length → wtT (l.take i) ≤ wtT (l.take (i + k)) := by
    intro k
    induction k with
    | zero => intro _; exact Nat.le_refl _
    | succ k ih =>
      intro hk
      have h1 := ih (by omega)
      have h2 := wtT_take (show i + k < l.length by omega)
      rw [← Nat.add_assoc, h2]
      omega
  have h := this (l.length - i) (by omega)
  rw [show i + (l.length - i) = l.length by omega, List.take_length] at h
  exact h
def textL (l : List Trm) : ByteArray := if l.all goodB then bs (printI l l.length) else ⟨#[]⟩
def errN (l : List Trm) : Int := if l.all goodB then 0 else 200
def PnPost (l : List Trm) (w : World) (e : Ending) (w' : World) : Prop := e = .returned (.tuple #[.string (textL l), .int .i64 (errN l)]) ∧ Below w.heap.size w w'
set_option maxHeartbeats 8000000 in
set_option maxRecDepth 100000 in
theorem rprint_any (l : List Trm) (R : Bool) (S : Nat → Prop) (al : Option Addr) (cl bl ol : Nat) (w : World)
    (hh : Headed al l.length cl bl ol) (hl : liesT R w S l bl ol) (hS : ∀ y, S y → y < w.heap.size) (hwt : wtT l ≤ 2147483647) :
    Calls Tryd.prog 17 #[.slice al l.length cl] w (PnPost l w) := by
  have HH := hmk hh
  have HL := hmk hl
  have HG := hmk (rgood_any l R S al cl bl ol w hh hl hS)
  have hm : l.length ≤ 2147483647 := Nat.le_trans (wtT_len l) hwt
  have HTX : Hid (textL l = if l.all goodB then bs (printI l l.length) else ⟨#[]⟩) := rfl
  have HER : Hid (errN l = if l.all goodB then 0 else 200) := rfl
  obtain ⟨tx, htx⟩ : ∃ tx, textL l = tx := ⟨_, rfl⟩
  obtain ⟨er, her⟩ : ∃ er, errN l = er := ⟨_, rfl⟩
  unfold PnPost
  rw [htx] at HTX ⊢
  rw [her] at HER ⊢
  clear hh hl htx her
  cases hg : l.all goodB with
  | false =>
    rw [hg] at HG HTX HER
    clear hg
    go_enter Tryd.func17, Tryd.ntmps17
    go_wp2_with (first | (go_at_call 27; refine HG.out.mono ?_; rintro e w1 ⟨rfl, B1⟩))
    go_ret2
    exact ⟨by rw [HTX.out, HER.out]; rfl, B1⟩
  | true =>
    rw [hg] at HG HTX HER
    simp only [if_true] at HTX HER
    have HGJ : Hid (∀ t ∈ l, goodB t = true) := fun t ht => by
      rw [List.all_eq_true] at hg
      exact hg t ht
    have HLW : Hid (∀ i, i ≤ l.length → (printI l i).length ≤ 884763262564) := fun i hi => by
      have h1 := printI_len HGJ.out i hi
      have h2 := wtT_take_le l i hi
      omega
    clear hg
    go_enter Tryd.func17, Tryd.ntmps17
    go_wp2_with (first | (go_at_call 27; refine HG.out.mono ?_; rintro e w1 ⟨rfl, B1⟩))
    go_loopw [5, 6] (fun e5 e6 wr => ∃ (i : Nat) (X : List UInt8), i ≤ l.length ∧ e6 = .int .i64 (i : Int) ∧ e5 = .string (bs X) ∧ Hid (X = printI l i) ∧ Below w.heap.size w wr) (fun _ e6 _ => l.length - (RowKit.intOf e6).toNat)
    case atStart => exact ⟨0, [], by omega, rfl, rfl, by show _ = _; rfl, B1⟩
    case round =>
      clear B1
      obtain ⟨i, X, hi, rfl, rfl, HX, Bi⟩ := hrel
      have hzr := Bi.size
      have hXl : X.length ≤ 884763262564 := by rw [HX.out]; exact HLW.out i hi
      by_cases hil : i < l.length
      · have y3 : (i : Int) < l.length := by omega
        obtain rfl : al = some ⟨bl, ol, none⟩ := HH.out.at_.resolve_left (by omega)
        obtain ⟨s1, cs, row1, t1⟩ := HL.out i hil
        obtain ⟨ta, tc, tb, to', rfl, _, hks, hd1, ts1, _⟩ := t1
        obtain ⟨q, q0, q1⟩ := row3 (row1.keep (Bi.block _ (hS _ s1)))
        have hgi := HGJ.out _ (List.getElem_mem hil)
        have hfn := good_fine hgi
        have hwi := wtT_mem (List.getElem_mem hil)
        have hvl := wtS_len (l[i]).2.2
        have HT0 := hmk (rterm_any (l[i]).1 (l[i]).2.1 (l[i]).2.2 S ta tc tb to' wr hd1 (ts1.keep (fun y hy => Bi.block y (hS y hy)) (fun _ h => h)) (fun y hy => Nat.lt_of_lt_of_le (hS y hy) hzr) hfn.1 hfn.2 (by omega))
        have HT : Hid (Calls Tryd.prog 32 #[.agg #[.string (l[i]).1, .int .i64 (l[i]).2.1, .slice ta (l[i]).2.2.length tc]] wr (fun e w' => e = .returned (.string (bs (termL l[i]))) ∧ Below wr.heap.size wr w')) := HT0.out
        have htl := termL_len hgi
        have HJ := hmk (printI_next hil)
        clear HT0 row1 hd1 ts1 hgi hfn hks
        obtain ⟨xt, hxt⟩ : ∃ xt, termL l[i] = xt := ⟨_, rfl⟩
        rw [hxt] at HT htl HJ
        clear hxt
        have hxl : xt.length ≤ 884763262564 := by omega
        clear htl hwi hvl
        generalize l[i] = t at *
        by_cases hi0 : i = 0
        · have y4 : ¬ (0 : Int) < (i : Int) := by omega
          obtain ⟨Y, hY⟩ : ∃ Y, X ++ xt = Y := ⟨_, rfl⟩
          have hB : ∀ W, (Op.stringOp .add (bs X) (bs xt)).run Tryd.prog W = .ok (.string (bs Y)) W := by rw [← hY]; exact add_bs X xt (by omega)
          have HY : Hid (Y = printI l (i + 1)) := by show _ = _; rw [← hY, HX.out, HJ.out, if_neg (by omega)]; simp
          clear hY HX hXl hi0
          go_wp2_with (first | (go_at_call 32; refine HT.out.mono ?_; rintro e w2 ⟨rfl, B2⟩))
          go_roundw
          case rel => exact ⟨i + 1, Y, by omega, by go_num, rfl, HY, Bi.trans (B2.mono hzr)⟩
          case measure => simp [RowKit.intOf]; omega
        · have y4 : (0 : Int) < (i : Int) := by omega
          obtain ⟨X1, hX1⟩ : ∃ X1, X ++ [44] = X1 := ⟨_, rfl⟩
          have hA : ∀ W, (Op.stringOp .add (bs X) ⟨#[44]⟩).run Tryd.prog W = .ok (.string (bs X1)) W := by rw [← hX1]; exact add_bs X [44] (by simp; omega)
          obtain ⟨Y, hY⟩ : ∃ Y, X1 ++ xt = Y := ⟨_, rfl⟩
          have hB : ∀ W, (Op.stringOp .add (bs X1) (bs xt)).run Tryd.prog W = .ok (.string (bs Y)) W := by rw [← hY]; exact add_bs X1 xt (by rw [← hX1]; simp; omega)
          have HY : Hid (Y = printI l (i + 1)) := by show _ = _; rw [← hY, ← hX1, HX.out, HJ.out, if_pos (by omega)]
          clear hY HX hXl hX1 hi0
          go_wp2_with (first | (go_at_call 32; refine HT.out.mono ?_; rintro e w2 ⟨rfl, B2⟩))
          go_roundw
          case rel => exact ⟨i + 1, Y, by omega, by go_num, rfl, HY, Bi.trans (B2.mono hzr)⟩
          case measure => simp [RowKit.intOf]; omega
      · obtain rfl : i = l.length := by omega
        have y3 : ¬ (l.length : Int) < l.length := by omega
        have HE : Hid (tx = bs X) := by show _ = _; rw [HTX.out, HX.out]
        clear HX hXl
        go_wp2_with fail
        (try simp only [Exit.inBlock, Exit.then])
        go_ret2
        exact ⟨by rw [HE.out, HER.out]; rfl, Bi⟩
end Go.Proofs.YtagjbphadakifaaDoor
