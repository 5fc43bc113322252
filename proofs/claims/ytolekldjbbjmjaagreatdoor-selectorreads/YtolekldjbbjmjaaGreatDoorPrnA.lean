import Derived.Test.YtolekldjbbjmjaaGreatDoorG5
/- plain bytes. -/
set_option linter.unusedSimpArgs false
set_option linter.unusedVariables false
namespace Go.Proofs.YtolekldjbbjmjaaGreatDoor
open Go.RowKit Go.Lib
def plainN (n : Nat) : Bool := decide ((65 ≤ n ∧ n ≤ 90) ∨ (97 ≤ n ∧ n ≤ 122) ∨ (48 ≤ n ∧ n ≤ 57) ∨ n = 45 ∨ n = 95 ∨ n = 46 ∨ n = 47)
set_option maxHeartbeats 8000000 in
set_option maxRecDepth 100000 in
theorem plain_any (n : Nat) (hn : n < 256) (w : World) : Calls Tryz.prog 81 #[.int .u8 (n : Int)] w (fun e w' => e = .returned (.bool (plainN n)) ∧ w' = w) := by
  have hc : (0 ≤ n ∧ n ≤ 44) ∨ (45 ≤ n ∧ n ≤ 45) ∨ (46 ≤ n ∧ n ≤ 46) ∨ (47 ≤ n ∧ n ≤ 47) ∨ (48 ≤ n ∧ n ≤ 57) ∨ (58 ≤ n ∧ n ≤ 64) ∨ (65 ≤ n ∧ n ≤ 90) ∨ (91 ≤ n ∧ n ≤ 94) ∨ (95 ≤ n ∧ n ≤ 95) ∨ (96 ≤ n ∧ n ≤ 96) ∨ (97 ≤ n ∧ n ≤ 122) ∨ (123 ≤ n ∧ n ≤ 255) := by omega
  rcases hc with hc | hc | hc | hc | hc | hc | hc | hc | hc | hc | hc | hc
  · have HB : Hid (plainN n = false) := by
      show _ = _
      unfold plainN
      rw [decide_eq_false (by omega)]
    have g0 : ¬ (65 : Int) ≤ (n : Int) := by omega
    have g1 : ¬ (97 : Int) ≤ (n : Int) := by omega
    have g2 : ¬ (48 : Int) ≤ (n : Int) := by omega
    have g3 : (n : Int) ≤ 90 := by omega
    have g4 : (n : Int) ≤ 122 := by omega
    have g5 : (n : Int) ≤ 57 := by omega
    have g6 : ((n : Int) == 45) = false := by rw [beq_eq_false_iff_ne]; omega
    have g7 : ((n : Int) == 95) = false := by rw [beq_eq_false_iff_ne]; omega
    have g8 : ((n : Int) == 46) = false := by rw [beq_eq_false_iff_ne]; omega
    have g9 : ((n : Int) == 47) = false := by rw [beq_eq_false_iff_ne]; omega
    clear hc hn
    go_enter Tryz.func81, Tryz.ntmps81
    go_wp2_with fail
    go_ret
    exact ⟨congrArg (fun r => Ending.returned (.bool r)) HB.out.symm, rfl⟩
  · have HB : Hid (plainN n = true) := by
      show _ = _
      unfold plainN
      rw [decide_eq_true (by omega)]
    have g0 : ¬ (65 : Int) ≤ (n : Int) := by omega
    have g1 : ¬ (97 : Int) ≤ (n : Int) := by omega
    have g2 : ¬ (48 : Int) ≤ (n : Int) := by omega
    have g3 : (n : Int) ≤ 90 := by omega
    have g4 : (n : Int) ≤ 122 := by omega
    have g5 : (n : Int) ≤ 57 := by omega
    have g6 : ((n : Int) == 45) = true := by rw [beq_iff_eq]; omega
    have g7 : ((n : Int) == 95) = false := by rw [beq_eq_false_iff_ne]; omega
    have g8 : ((n : Int) == 46) = false := by rw [beq_eq_false_iff_ne]; omega
    have g9 : ((n : Int) == 47) = false := by rw [beq_eq_false_iff_ne]; omega
    clear hc hn
    go_enter Tryz.func81, Tryz.ntmps81
    go_wp2_with fail
    go_ret
    exact ⟨congrArg (fun r => Ending.returned (.bool r)) HB.out.symm, rfl⟩
  · have HB : Hid (plainN n = true) := by
      show _ = _
      unfold plainN
      rw [decide_eq_true (by omega)]
    have g0 : ¬ (65 : Int) ≤ (n : Int) := by omega
    have g1 : ¬ (97 : Int) ≤ (n : Int) := by omega
    have g2 : ¬ (48 : Int) ≤ (n : Int) := by omega
    have g3 : (n : Int) ≤ 90 := by omega
    have g4 : (n : Int) ≤ 122 := by omega
    have g5 : (n : Int) ≤ 57 := by omega
    have g6 : ((n : Int) == 45) = false := by rw [beq_eq_false_iff_ne]; omega
    have g7 : ((n : Int) == 95) = false := by rw [beq_eq_false_iff_ne]; omega
    have g8 : ((n : Int) == 46) = true := by rw [beq_iff_eq]; omega
    have g9 : ((n : Int) == 47) = false := by rw [beq_eq_false_iff_ne]; omega
    clear hc hn
    go_enter Tryz.func81, Tryz.ntmps81
    go_wp2_with fail
    go_ret
    exact ⟨congrArg (fun r => Ending.returned (.bool r)) HB.out.symm, rfl⟩
  · have HB : Hid (plainN n = true) := by
      show _ = _
      unfold plainN
      rw [decide_eq_true (by omega)]
    have g0 : ¬ (65 : Int) ≤ (n : Int) := by omega
    have g1 : ¬ (97 : Int) ≤ (n : Int) := by omega
    have g2 : ¬ (48 : Int) ≤ (n : Int) := by omega
    have g3 : (n : Int) ≤ 90 := by omega
    have g4 : (n : Int) ≤ 122 := by omega
    have g5 : (n : Int) ≤ 57 := by omega
    have g6 : ((n : Int) == 45) = false := by rw [beq_eq_false_iff_ne]; omega
    have g7 : ((n : Int) == 95) = false := by rw [beq_eq_false_iff_ne]; omega
    have g8 : ((n : Int) == 46) = false := by rw [beq_eq_false_iff_ne]; omega
    have g9 : ((n : Int) == 47) = true := by rw [beq_iff_eq]; omega
    clear hc hn
    go_enter Tryz.func81, Tryz.ntmps81
    go_wp2_with fail
    go_ret
    exact ⟨congrArg (fun r => Ending.returned (.bool r)) HB.out.symm, rfl⟩
  · have HB : Hid (plainN n = true) := by
      show _ = _
      unfold plainN
      rw [decide_eq_true (by omega)]
    have g0 : ¬ (65 : Int) ≤ (n : Int) := by omega
    have g1 : ¬ (97 : Int) ≤ (n : Int) := by omega
    have g2 : (48 : Int) ≤ (n : Int) := by omega
    have g3 : (n : Int) ≤ 90 := by omega
    have g4 : (n : Int) ≤ 122 := by omega
    have g5 : (n : Int) ≤ 57 := by omega
    have g6 : ((n : Int) == 45) = false := by rw [beq_eq_false_iff_ne]; omega
    have g7 : ((n : Int) == 95) = false := by rw [beq_eq_false_iff_ne]; omega
    have g8 : ((n : Int) == 46) = false := by rw [beq_eq_false_iff_ne]; omega
    have g9 : ((n : Int) == 47) = false := by rw [beq_eq_false_iff_ne]; omega
    clear hc hn
    go_enter Tryz.func81, Tryz.ntmps81
    go_wp2_with fail
    go_ret
    exact ⟨congrArg (fun r => Ending.returned (.bool r)) HB.out.symm, rfl⟩
  · have HB : Hid (plainN n = false) := by
      show _ = _
      unfold plainN
      rw [decide_eq_false (by omega)]
    have g0 : ¬ (65 : Int) ≤ (n : Int) := by omega
    have g1 : ¬ (97 : Int) ≤ (n : Int) := by omega
    have g2 : (48 : Int) ≤ (n : Int) := by omega
    have g3 : (n : Int) ≤ 90 := by omega
    have g4 : (n : Int) ≤ 122 := by omega
    have g5 : ¬ (n : Int) ≤ 57 := by omega
    have g6 : ((n : Int) == 45) = false := by rw [beq_eq_false_iff_ne]; omega
    have g7 : ((n : Int) == 95) = false := by rw [beq_eq_false_iff_ne]; omega
    have g8 : ((n : Int) == 46) = false := by rw [beq_eq_false_iff_ne]; omega
    have g9 : ((n : Int) == 47) = false := by rw [beq_eq_false_iff_ne]; omega
    clear hc hn
    go_enter Tryz.func81, Tryz.ntmps81
    go_wp2_with fail
    go_ret
    exact ⟨congrArg (fun r => Ending.returned (.bool r)) HB.out.symm, rfl⟩
  · have HB : Hid (plainN n = true) := by
      show _ = _
      unfold plainN
      rw [decide_eq_true (by omega)]
    have g0 : (65 : Int) ≤ (n : Int) := by omega
    have g1 : ¬ (97 : Int) ≤ (n : Int) := by omega
    have g2 : (48 : Int) ≤ (n : Int) := by omega
    have g3 : (n : Int) ≤ 90 := by omega
    have g4 : (n : Int) ≤ 122 := by omega
    have g5 : ¬ (n : Int) ≤ 57 := by omega
    have g6 : ((n : Int) == 45) = false := by rw [beq_eq_false_iff_ne]; omega
    have g7 : ((n : Int) == 95) = false := by rw [beq_eq_false_iff_ne]; omega
    have g8 : ((n : Int) == 46) = false := by rw [beq_eq_false_iff_ne]; omega
    have g9 : ((n : Int) == 47) = false := by rw [beq_eq_false_iff_ne]; omega
    clear hc hn
    go_enter Tryz.func81, Tryz.ntmps81
    go_wp2_with fail
    go_ret
    exact ⟨congrArg (fun r => Ending.returned (.bool r)) HB.out.symm, rfl⟩
  · have HB : Hid (plainN n = false) := by
      show _ = _
      unfold plainN
      rw [decide_eq_false (by omega)]
    have g0 : (65 : Int) ≤ (n : Int) := by omega
    have g1 : ¬ (97 : Int) ≤ (n : Int) := by omega
    have g2 : (48 : Int) ≤ (n : Int) := by omega
    have g3 : ¬ (n : Int) ≤ 90 := by omega
    have g4 : (n : Int) ≤ 122 := by omega
    have g5 : ¬ (n : Int) ≤ 57 := by omega
    have g6 : ((n : Int) == 45) = false := by rw [beq_eq_false_iff_ne]; omega
    have g7 : ((n : Int) == 95) = false := by rw [beq_eq_false_iff_ne]; omega
    have g8 : ((n : Int) == 46) = false := by rw [beq_eq_false_iff_ne]; omega
    have g9 : ((n : Int) == 47) = false := by rw [beq_eq_false_iff_ne]; omega
    clear hc hn
    go_enter Tryz.func81, Tryz.ntmps81
    go_wp2_with fail
    go_ret
    exact ⟨congrArg (fun r => Ending.returned (.bool r)) HB.out.symm, rfl⟩
  · have HB : Hid (plainN n = true) := by
      show _ = _
      unfold plainN
      rw [decide_eq_true (by omega)]
    have g0 : (65 : Int) ≤ (n : Int) := by omega
    have g1 : ¬ (97 : Int) ≤ (n : Int) := by omega
    have g2 : (48 : Int) ≤ (n : Int) := by omega
    have g3 : ¬ (n : Int) ≤ 90 := by omega
    have g4 : (n : Int) ≤ 122 := by omega
    have g5 : ¬ (n : Int) ≤ 57 := by omega
    have g6 : ((n : Int) == 45) = false := by rw [beq_eq_false_iff_ne]; omega
    have g7 : ((n : Int) == 95) = true := by rw [beq_iff_eq]; omega
    have g8 : ((n : Int) == 46) = false := by rw [beq_eq_false_iff_ne]; omega
    have g9 : ((n : Int) == 47) = false := by rw [beq_eq_false_iff_ne]; omega
    clear hc hn
    go_enter Tryz.func81, Tryz.ntmps81
    go_wp2_with fail
    go_ret
    exact ⟨congrArg (fun r => Ending.returned (.bool r)) HB.out.symm, rfl⟩
  · have HB : Hid (plainN n = false) := by
      show _ = _
      unfold plainN
      rw [decide_eq_false (by omega)]
    have g0 : (65 : Int) ≤ (n : Int) := by omega
    have g1 : ¬ (97 : Int) ≤ (n : Int) := by omega
    have g2 : (48 : Int) ≤ (n : Int) := by omega
    have g3 : ¬ (n : Int) ≤ 90 := by omega
    have g4 : (n : Int) ≤ 122 := by omega
    have g5 : ¬ (n : Int) ≤ 57 := by omega
    have g6 : ((n : Int) == 45) = false := by rw [beq_eq_false_iff_ne]; omega
    have g7 : ((n : Int) == 95) = false := by rw [beq_eq_false_iff_ne]; omega
    have g8 : ((n : Int) == 46) = false := by rw [beq_eq_false_iff_ne]; omega
    have g9 : ((n : Int) == 47) = false := by rw [beq_eq_false_iff_ne]; omega
    clear hc hn
    go_enter Tryz.func81, Tryz.ntmps81
    go_wp2_with fail
    go_ret
    exact ⟨congrArg (fun r => Ending.returned (.bool r)) HB.out.symm, rfl⟩
  · have HB : Hid (plainN n = true) := by
      show _ = _
      unfold plainN
      rw [decide_eq_true (by omega)]
    have g0 : (65 : Int) ≤ (n : Int) := by omega
    have g1 : (97 : Int) ≤ (n : Int) := by omega
    have g2 : (48 : Int) ≤ (n : Int) := by omega
    have g3 : ¬ (n : Int) ≤ 90 := by omega
    have g4 : (n : Int) ≤ 122 := by omega
    have g5 : ¬ (n : Int) ≤ 57 := by omega
    have g6 : ((n : Int) == 45) = false := by rw [beq_eq_false_iff_ne]; omega
    have g7 : ((n : Int) == 95) = false := by rw [beq_eq_false_iff_ne]; omega
    have g8 : ((n : Int) == 46) = false := by rw [beq_eq_false_iff_ne]; omega
    have g9 : ((n : Int) == 47) = false := by rw [beq_eq_false_iff_ne]; omega
    clear hc hn
    go_enter Tryz.func81, Tryz.ntmps81
    go_wp2_with fail
    go_ret
    exact ⟨congrArg (fun r => Ending.returned (.bool r)) HB.out.symm, rfl⟩
  · have HB : Hid (plainN n = false) := by
      show _ = _
      unfold plainN
      rw [decide_eq_false (by omega)]
    have g0 : (65 : Int) ≤ (n : Int) := by omega
    have g1 : (97 : Int) ≤ (n : Int) := by omega
    have g2 : (48 : Int) ≤ (n : Int) := by omega
    have g3 : ¬ (n : Int) ≤ 90 := by omega
    have g4 : ¬ (n : Int) ≤ 122 := by omega
    have g5 : ¬ (n : Int) ≤ 57 := by omega
    have g6 : ((n : Int) == 45) = false := by rw [beq_eq_false_iff_ne]; omega
    have g7 : ((n : Int) == 95) = false := by rw [beq_eq_false_iff_ne]; omega
    have g8 : ((n : Int) == 46) = false := by rw [beq_eq_false_iff_ne]; omega
    have g9 : ((n : Int) == 47) = false := by rw [beq_eq_false_iff_ne]; omega
    clear hc hn
    go_enter Tryz.func81, Tryz.ntmps81
    go_wp2_with fail
    go_ret
    exact ⟨congrArg (fun r => Ending.returned (.bool r)) HB.out.symm, rfl⟩
set_option maxHeartbeats 8000000 in
set_option maxRecDepth 100000 in
theorem rplainbyte_any (n : Nat) (hn : n < 256) (w : World) : Calls Tryz.prog 78 #[.int .u8 (n : Int)] w (fun e w' => e = .returned (.bool (plainN n)) ∧ w' = w) := by
  have hc : (0 ≤ n ∧ n ≤ 44) ∨ (45 ≤ n ∧ n ≤ 45) ∨ (46 ≤ n ∧ n ≤ 46) ∨ (47 ≤ n ∧ n ≤ 47) ∨ (48 ≤ n ∧ n ≤ 57) ∨ (58 ≤ n ∧ n ≤ 64) ∨ (65 ≤ n ∧ n ≤ 90) ∨ (91 ≤ n ∧ n ≤ 94) ∨ (95 ≤ n ∧ n ≤ 95) ∨ (96 ≤ n ∧ n ≤ 96) ∨ (97 ≤ n ∧ n ≤ 122) ∨ (123 ≤ n ∧ n ≤ 255) := by omega
  rcases hc with hc | hc | hc | hc | hc | hc | hc | hc | hc | hc | hc | hc
  · have HB : Hid (plainN n = false) := by
      show _ = _
      unfold plainN
      rw [decide_eq_false (by omega)]
    have g0 : ¬ (65 : Int) ≤ (n : Int) := by omega
    have g1 : ¬ (97 : Int) ≤ (n : Int) := by omega
    have g2 : ¬ (48 : Int) ≤ (n : Int) := by omega
    have g3 : (n : Int) ≤ 90 := by omega
    have g4 : (n : Int) ≤ 122 := by omega
    have g5 : (n : Int) ≤ 57 := by omega
    have g6 : ((n : Int) == 45) = false := by rw [beq_eq_false_iff_ne]; omega
    have g7 : ((n : Int) == 95) = false := by rw [beq_eq_false_iff_ne]; omega
    have g8 : ((n : Int) == 46) = false := by rw [beq_eq_false_iff_ne]; omega
    have g9 : ((n : Int) == 47) = false := by rw [beq_eq_false_iff_ne]; omega
    clear hc hn
    go_enter Tryz.func78, Tryz.ntmps78
    go_wp2_with fail
    go_ret
    exact ⟨congrArg (fun r => Ending.returned (.bool r)) HB.out.symm, rfl⟩
  · have HB : Hid (plainN n = true) := by
      show _ = _
      unfold plainN
      rw [decide_eq_true (by omega)]
    have g0 : ¬ (65 : Int) ≤ (n : Int) := by omega
    have g1 : ¬ (97 : Int) ≤ (n : Int) := by omega
    have g2 : ¬ (48 : Int) ≤ (n : Int) := by omega
    have g3 : (n : Int) ≤ 90 := by omega
    have g4 : (n : Int) ≤ 122 := by omega
    have g5 : (n : Int) ≤ 57 := by omega
    have g6 : ((n : Int) == 45) = true := by rw [beq_iff_eq]; omega
    have g7 : ((n : Int) == 95) = false := by rw [beq_eq_false_iff_ne]; omega
    have g8 : ((n : Int) == 46) = false := by rw [beq_eq_false_iff_ne]; omega
    have g9 : ((n : Int) == 47) = false := by rw [beq_eq_false_iff_ne]; omega
    clear hc hn
    go_enter Tryz.func78, Tryz.ntmps78
    go_wp2_with fail
    go_ret
    exact ⟨congrArg (fun r => Ending.returned (.bool r)) HB.out.symm, rfl⟩
  · have HB : Hid (plainN n = true) := by
      show _ = _
      unfold plainN
      rw [decide_eq_true (by omega)]
    have g0 : ¬ (65 : Int) ≤ (n : Int) := by omega
    have g1 : ¬ (97 : Int) ≤ (n : Int) := by omega
    have g2 : ¬ (48 : Int) ≤ (n : Int) := by omega
    have g3 : (n : Int) ≤ 90 := by omega
    have g4 : (n : Int) ≤ 122 := by omega
    have g5 : (n : Int) ≤ 57 := by omega
    have g6 : ((n : Int) == 45) = false := by rw [beq_eq_false_iff_ne]; omega
    have g7 : ((n : Int) == 95) = false := by rw [beq_eq_false_iff_ne]; omega
    have g8 : ((n : Int) == 46) = true := by rw [beq_iff_eq]; omega
    have g9 : ((n : Int) == 47) = false := by rw [beq_eq_false_iff_ne]; omega
    clear hc hn
    go_enter Tryz.func78, Tryz.ntmps78
    go_wp2_with fail
    go_ret
    exact ⟨congrArg (fun r => Ending.returned (.bool r)) HB.out.symm, rfl⟩
  · have HB : Hid (plainN n = true) := by
      show _ = _
      unfold plainN
      rw [decide_eq_true (by omega)]
    have g0 : ¬ (65 : Int) ≤ (n : Int) := by omega
    have g1 : ¬ (97 : Int) ≤ (n : Int) := by omega
    have g2 : ¬ (48 : Int) ≤ (n : Int) := by omega
    have g3 : (n : Int) ≤ 90 := by omega
    have g4 : (n : Int) ≤ 122 := by omega
    have g5 : (n : Int) ≤ 57 := by omega
    have g6 : ((n : Int) == 45) = false := by rw [beq_eq_false_iff_ne]; omega
    have g7 : ((n : Int) == 95) = false := by rw [beq_eq_false_iff_ne]; omega
    have g8 : ((n : Int) == 46) = false := by rw [beq_eq_false_iff_ne]; omega
    have g9 : ((n : Int) == 47) = true := by rw [beq_iff_eq]; omega
    clear hc hn
    go_enter Tryz.func78, Tryz.ntmps78
    go_wp2_with fail
    go_ret
    exact ⟨congrArg (fun r => Ending.returned (.bool r)) HB.out.symm, rfl⟩
  · have HB : Hid (plainN n = true) := by
      show _ = _
      unfold plainN
      rw [decide_eq_true (by omega)]
    have g0 : ¬ (65 : Int) ≤ (n : Int) := by omega
    have g1 : ¬ (97 : Int) ≤ (n : Int) := by omega
    have g2 : (48 : Int) ≤ (n : Int) := by omega
    have g3 : (n : Int) ≤ 90 := by omega
    have g4 : (n : Int) ≤ 122 := by omega
    have g5 : (n : Int) ≤ 57 := by omega
    have g6 : ((n : Int) == 45) = false := by rw [beq_eq_false_iff_ne]; omega
    have g7 : ((n : Int) == 95) = false := by rw [beq_eq_false_iff_ne]; omega
    have g8 : ((n : Int) == 46) = false := by rw [beq_eq_false_iff_ne]; omega
    have g9 : ((n : Int) == 47) = false := by rw [beq_eq_false_iff_ne]; omega
    clear hc hn
    go_enter Tryz.func78, Tryz.ntmps78
    go_wp2_with fail
    go_ret
    exact ⟨congrArg (fun r => Ending.returned (.bool r)) HB.out.symm, rfl⟩
  · have HB : Hid (plainN n = false) := by
      show _ = _
      unfold plainN
      rw [decide_eq_false (by omega)]
    have g0 : ¬ (65 : Int) ≤ (n : Int) := by omega
    have g1 : ¬ (97 : Int) ≤ (n : Int) := by omega
    have g2 : (48 : Int) ≤ (n : Int) := by omega
    have g3 : (n : Int) ≤ 90 := by omega
    have g4 : (n : Int) ≤ 122 := by omega
    have g5 : ¬ (n : Int) ≤ 57 := by omega
    have g6 : ((n : Int) == 45) = false := by rw [beq_eq_false_iff_ne]; omega
    have g7 : ((n : Int) == 95) = false := by rw [beq_eq_false_iff_ne]; omega
    have g8 : ((n : Int) == 46) = false := by rw [beq_eq_false_iff_ne]; omega
    have g9 : ((n : Int) == 47) = false := by rw [beq_eq_false_iff_ne]; omega
    clear hc hn
    go_enter Tryz.func78, Tryz.ntmps78
    go_wp2_with fail
    go_ret
    exact ⟨congrArg (fun r => Ending.returned (.bool r)) HB.out.symm, rfl⟩
  · have HB : Hid (plainN n = true) := by
      show _ = _
      unfold plainN
      rw [decide_eq_true (by omega)]
    have g0 : (65 : Int) ≤ (n : Int) := by omega
    have g1 : ¬ (97 : Int) ≤ (n : Int) := by omega
    have g2 : (48 : Int) ≤ (n : Int) := by omega
    have g3 : (n : Int) ≤ 90 := by omega
    have g4 : (n : Int) ≤ 122 := by omega
    have g5 : ¬ (n : Int) ≤ 57 := by omega
    have g6 : ((n : Int) == 45) = false := by rw [beq_eq_false_iff_ne]; omega
    have g7 : ((n : Int) == 95) = false := by rw [beq_eq_false_iff_ne]; omega
    have g8 : ((n : Int) == 46) = false := by rw [beq_eq_false_iff_ne]; omega
    have g9 : ((n : Int) == 47) = false := by rw [beq_eq_false_iff_ne]; omega
    clear hc hn
    go_enter Tryz.func78, Tryz.ntmps78
    go_wp2_with fail
    go_ret
    exact ⟨congrArg (fun r => Ending.returned (.bool r)) HB.out.symm, rfl⟩
  · have HB : Hid (plainN n = false) := by
      show _ = _
      unfold plainN
      rw [decide_eq_false (by omega)]
    have g0 : (65 : Int) ≤ (n : Int) := by omega
    have g1 : ¬ (97 : Int) ≤ (n : Int) := by omega
    have g2 : (48 : Int) ≤ (n : Int) := by omega
    have g3 : ¬ (n : Int) ≤ 90 := by omega
    have g4 : (n : Int) ≤ 122 := by omega
    have g5 : ¬ (n : Int) ≤ 57 := by omega
    have g6 : ((n : Int) == 45) = false := by rw [beq_eq_false_iff_ne]; omega
    have g7 : ((n : Int) == 95) = false := by rw [beq_eq_false_iff_ne]; omega
    have g8 : ((n : Int) == 46) = false := by rw [beq_eq_false_iff_ne]; omega
    have g9 : ((n : Int) == 47) = false := by rw [beq_eq_false_iff_ne]; omega
    clear hc hn
    go_enter Tryz.func78, Tryz.ntmps78
    go_wp2_with fail
    go_ret
    exact ⟨congrArg (fun r => Ending.returned (.bool r)) HB.out.symm, rfl⟩
  · have HB : Hid (plainN n = true) := by
      show _ = _
      unfold plainN
      rw [decide_eq_true (by omega)]
    have g0 : (65 : Int) ≤ (n : Int) := by omega
    have g1 : ¬ (97 : Int) ≤ (n : Int) := by omega
    have g2 : (48 : Int) ≤ (n : Int) := by omega
    have g3 : ¬ (n : Int) ≤ 90 := by omega
    have g4 : (n : Int) ≤ 122 := by omega
    have g5 : ¬ (n : Int) ≤ 57 := by omega
    have g6 : ((n : Int) == 45) = false := by rw [beq_eq_false_iff_ne]; omega
    have g7 : ((n : Int) == 95) = true := by rw [beq_iff_eq]; omega
    have g8 : ((n : Int) == 46) = false := by rw [beq_eq_false_iff_ne]; omega
    have g9 : ((n : Int) == 47) = false := by rw [beq_eq_false_iff_ne]; omega
    clear hc hn
    go_enter Tryz.func78, Tryz.ntmps78
    go_wp2_with fail
    go_ret
    exact ⟨congrArg (fun r => Ending.returned (.bool r)) HB.out.symm, rfl⟩
  · have HB : Hid (plainN n = false) := by
      show _ = _
      unfold plainN
      rw [decide_eq_false (by omega)]
    have g0 : (65 : Int) ≤ (n : Int) := by omega
    have g1 : ¬ (97 : Int) ≤ (n : Int) := by omega
    have g2 : (48 : Int) ≤ (n : Int) := by omega
    have g3 : ¬ (n : Int) ≤ 90 := by omega
    have g4 : (n : Int) ≤ 122 := by omega
    have g5 : ¬ (n : Int) ≤ 57 := by omega
    have g6 : ((n : Int) == 45) = false := by rw [beq_eq_false_iff_ne]; omega
    have g7 : ((n : Int) == 95) = false := by rw [beq_eq_false_iff_ne]; omega
    have g8 : ((n : Int) == 46) = false := by rw [beq_eq_false_iff_ne]; omega
    have g9 : ((n : Int) == 47) = false := by rw [beq_eq_false_iff_ne]; omega
    clear hc hn
    go_enter Tryz.func78, Tryz.ntmps78
    go_wp2_with fail
    go_ret
    exact ⟨congrArg (fun r => Ending.returned (.bool r)) HB.out.symm, rfl⟩
  · have HB : Hid (plainN n = true) := by
      show _ = _
      unfold plainN
      rw [decide_eq_true (by omega)]
    have g0 : (65 : Int) ≤ (n : Int) := by omega
    have g1 : (97 : Int) ≤ (n : Int) := by omega
    have g2 : (48 : Int) ≤ (n : Int) := by omega
    have g3 : ¬ (n : Int) ≤ 90 := by omega
    have g4 : (n : Int) ≤ 122 := by omega
    have g5 : ¬ (n : Int) ≤ 57 := by omega
    have g6 : ((n : Int) == 45) = false := by rw [beq_eq_false_iff_ne]; omega
    have g7 : ((n : Int) == 95) = false := by rw [beq_eq_false_iff_ne]; omega
    have g8 : ((n : Int) == 46) = false := by rw [beq_eq_false_iff_ne]; omega
    have g9 : ((n : Int) == 47) = false := by rw [beq_eq_false_iff_ne]; omega
    clear hc hn
    go_enter Tryz.func78, Tryz.ntmps78
    go_wp2_with fail
    go_ret
    exact ⟨congrArg (fun r => Ending.returned (.bool r)) HB.out.symm, rfl⟩
  · have HB : Hid (plainN n = false) := by
      show _ = _
      unfold plainN
      rw [decide_eq_false (by omega)]
    have g0 : (65 : Int) ≤ (n : Int) := by omega
    have g1 : (97 : Int) ≤ (n : Int) := by omega
    have g2 : (48 : Int) ≤ (n : Int) := by omega
    have g3 : ¬ (n : Int) ≤ 90 := by omega
    have g4 : ¬ (n : Int) ≤ 122 := by omega
    have g5 : ¬ (n : Int) ≤ 57 := by omega
    have g6 : ((n : Int) == 45) = false := by rw [beq_eq_false_iff_ne]; omega
    have g7 : ((n : Int) == 95) = false := by rw [beq_eq_false_iff_ne]; omega
    have g8 : ((n : Int) == 46) = false := by rw [beq_eq_false_iff_ne]; omega
    have g9 : ((n : Int) == 47) = false := by rw [beq_eq_false_iff_ne]; omega
    clear hc hn
    go_enter Tryz.func78, Tryz.ntmps78
    go_wp2_with fail
    go_ret
    exact ⟨congrArg (fun r => Ending.returned (.bool r)) HB.out.symm, rfl⟩
end Go.Proofs.YtolekldjbbjmjaaGreatDoor
