import Derived.Test.YtolekldjbbjmjaaGreatDoorG10
import Derived.Handy
/- Contracts: the two digit functions; goesOn. -/
set_option linter.unusedSimpArgs false
set_option linter.unusedVariables false
namespace Go.Proofs.YtolekldjbbjmjaaGreatDoor
open Go.RowKit
theorem ret_int {k : IntKind} {a b : Int} (h : a = b) : Ending.returned (.int k a) = .returned (.int k b) := by rw [h]
set_option maxHeartbeats 1000000 in
theorem digit_any (n : Nat) (hn : n < 256) (w : World) :
    Calls Tryz.prog 150 #[.int .u8 n] w fun e w' => e = .returned (.int .i32 (Q.dig n)) ∧ w' = w := by
  have c7 : (48 ≤ n ∧ n ≤ 57) ∨ (97 ≤ n ∧ n ≤ 102) ∨ (65 ≤ n ∧ n ≤ 70) ∨ (n < 48) ∨ (58 ≤ n ∧ n ≤ 64) ∨ (71 ≤ n ∧ n ≤ 96) ∨ (103 ≤ n) := by omega
  rcases c7 with h | h | h | h | h | h | h
  · have e : Q.dig n = (n : Int) - 48 := by
      unfold Q.dig; repeat' split
      all_goals first | rfl | (exfalso; omega)
    rw [e]
    clear e
    have f0 : (48 : Int) ≤ n := by omega
    have f1 : (n : Int) ≤ 57 := by omega
    go_enter Tryz.func150, Tryz.ntmps150
    go_wp2
    go_ret
    exact ⟨ret_int (by first | rfl | omega | go_arith), rfl⟩
  · have e : Q.dig n = (n : Int) - 87 := by
      unfold Q.dig; repeat' split
      all_goals first | rfl | (exfalso; omega)
    rw [e]
    clear e
    have f0 : (48 : Int) ≤ n := by omega
    have f1 : ¬ (n : Int) ≤ 57 := by omega
    have f2 : (97 : Int) ≤ n := by omega
    have f3 : (n : Int) ≤ 102 := by omega
    go_enter Tryz.func150, Tryz.ntmps150
    go_wp2
    go_ret
    exact ⟨ret_int (by first | rfl | omega | go_arith), rfl⟩
  · have e : Q.dig n = (n : Int) - 55 := by
      unfold Q.dig; repeat' split
      all_goals first | rfl | (exfalso; omega)
    rw [e]
    clear e
    have f0 : (48 : Int) ≤ n := by omega
    have f1 : ¬ (n : Int) ≤ 57 := by omega
    have f2 : ¬ (97 : Int) ≤ n := by omega
    have f3 : (65 : Int) ≤ n := by omega
    have f4 : (n : Int) ≤ 70 := by omega
    go_enter Tryz.func150, Tryz.ntmps150
    go_wp2
    go_ret
    exact ⟨ret_int (by first | rfl | omega | go_arith), rfl⟩
  · have e : Q.dig n = -1 := by
      unfold Q.dig; repeat' split
      all_goals first | rfl | (exfalso; omega)
    rw [e]
    clear e
    have f0 : ¬ (48 : Int) ≤ n := by omega
    have f1 : ¬ (97 : Int) ≤ n := by omega
    have f2 : ¬ (65 : Int) ≤ n := by omega
    go_enter Tryz.func150, Tryz.ntmps150
    go_wp2
    go_ret
    exact ⟨ret_int (by first | rfl | omega | go_arith), rfl⟩
  · have e : Q.dig n = -1 := by
      unfold Q.dig; repeat' split
      all_goals first | rfl | (exfalso; omega)
    rw [e]
    clear e
    have f0 : (48 : Int) ≤ n := by omega
    have f1 : ¬ (n : Int) ≤ 57 := by omega
    have f2 : ¬ (97 : Int) ≤ n := by omega
    have f3 : ¬ (65 : Int) ≤ n := by omega
    go_enter Tryz.func150, Tryz.ntmps150
    go_wp2
    go_ret
    exact ⟨ret_int (by first | rfl | omega | go_arith), rfl⟩
  · have e : Q.dig n = -1 := by
      unfold Q.dig; repeat' split
      all_goals first | rfl | (exfalso; omega)
    rw [e]
    clear e
    have f0 : (48 : Int) ≤ n := by omega
    have f1 : ¬ (n : Int) ≤ 57 := by omega
    have f2 : ¬ (97 : Int) ≤ n := by omega
    have f3 : (65 : Int) ≤ n := by omega
    have f4 : ¬ (n : Int) ≤ 70 := by omega
    go_enter Tryz.func150, Tryz.ntmps150
    go_wp2
    go_ret
    exact ⟨ret_int (by first | rfl | omega | go_arith), rfl⟩
  · have e : Q.dig n = -1 := by
      unfold Q.dig; repeat' split
      all_goals first | rfl | (exfalso; omega)
    rw [e]
    clear e
    have f0 : (48 : Int) ≤ n := by omega
    have f1 : ¬ (n : Int) ≤ 57 := by omega
    have f2 : (97 : Int) ≤ n := by omega
    have f3 : ¬ (n : Int) ≤ 102 := by omega
    have f4 : (65 : Int) ≤ n := by omega
    have f5 : ¬ (n : Int) ≤ 70 := by omega
    go_enter Tryz.func150, Tryz.ntmps150
    go_wp2
    go_ret
    exact ⟨ret_int (by first | rfl | omega | go_arith), rfl⟩
set_option maxHeartbeats 1000000 in
theorem refDigit_any (n : Nat) (hn : n < 256) (w : World) :
    Calls Tryz.prog 134 #[.int .u8 n] w fun e w' => e = .returned (.int .i64 (Q.dig n)) ∧ w' = w := by
  have c7 : (48 ≤ n ∧ n ≤ 57) ∨ (97 ≤ n ∧ n ≤ 102) ∨ (65 ≤ n ∧ n ≤ 70) ∨ (n < 48) ∨ (58 ≤ n ∧ n ≤ 64) ∨ (71 ≤ n ∧ n ≤ 96) ∨ (103 ≤ n) := by omega
  rcases c7 with h | h | h | h | h | h | h
  · have e : Q.dig n = (n : Int) - 48 := by
      unfold Q.dig; repeat' split
      all_goals first | rfl | (exfalso; omega)
    rw [e]
    clear e
    have f0 : (48 : Int) ≤ n := by omega
    have f1 : (n : Int) ≤ 57 := by omega
    go_enter Tryz.func134, Tryz.ntmps134
    go_wp2
    go_ret
    exact ⟨ret_int (by first | rfl | omega | go_arith), rfl⟩
  · have e : Q.dig n = (n : Int) - 87 := by
      unfold Q.dig; repeat' split
      all_goals first | rfl | (exfalso; omega)
    rw [e]
    clear e
    have f0 : (48 : Int) ≤ n := by omega
    have f1 : ¬ (n : Int) ≤ 57 := by omega
    have f2 : (97 : Int) ≤ n := by omega
    have f3 : (n : Int) ≤ 102 := by omega
    go_enter Tryz.func134, Tryz.ntmps134
    go_wp2
    go_ret
    exact ⟨ret_int (by first | rfl | omega | go_arith), rfl⟩
  · have e : Q.dig n = (n : Int) - 55 := by
      unfold Q.dig; repeat' split
      all_goals first | rfl | (exfalso; omega)
    rw [e]
    clear e
    have f0 : (48 : Int) ≤ n := by omega
    have f1 : ¬ (n : Int) ≤ 57 := by omega
    have f2 : ¬ (97 : Int) ≤ n := by omega
    have f3 : (65 : Int) ≤ n := by omega
    have f4 : (n : Int) ≤ 70 := by omega
    go_enter Tryz.func134, Tryz.ntmps134
    go_wp2
    go_ret
    exact ⟨ret_int (by first | rfl | omega | go_arith), rfl⟩
  · have e : Q.dig n = -1 := by
      unfold Q.dig; repeat' split
      all_goals first | rfl | (exfalso; omega)
    rw [e]
    clear e
    have f0 : ¬ (48 : Int) ≤ n := by omega
    have f1 : ¬ (97 : Int) ≤ n := by omega
    have f2 : ¬ (65 : Int) ≤ n := by omega
    go_enter Tryz.func134, Tryz.ntmps134
    go_wp2
    go_ret
    exact ⟨ret_int (by first | rfl | omega | go_arith), rfl⟩
  · have e : Q.dig n = -1 := by
      unfold Q.dig; repeat' split
      all_goals first | rfl | (exfalso; omega)
    rw [e]
    clear e
    have f0 : (48 : Int) ≤ n := by omega
    have f1 : ¬ (n : Int) ≤ 57 := by omega
    have f2 : ¬ (97 : Int) ≤ n := by omega
    have f3 : ¬ (65 : Int) ≤ n := by omega
    go_enter Tryz.func134, Tryz.ntmps134
    go_wp2
    go_ret
    exact ⟨ret_int (by first | rfl | omega | go_arith), rfl⟩
  · have e : Q.dig n = -1 := by
      unfold Q.dig; repeat' split
      all_goals first | rfl | (exfalso; omega)
    rw [e]
    clear e
    have f0 : (48 : Int) ≤ n := by omega
    have f1 : ¬ (n : Int) ≤ 57 := by omega
    have f2 : ¬ (97 : Int) ≤ n := by omega
    have f3 : (65 : Int) ≤ n := by omega
    have f4 : ¬ (n : Int) ≤ 70 := by omega
    go_enter Tryz.func134, Tryz.ntmps134
    go_wp2
    go_ret
    exact ⟨ret_int (by first | rfl | omega | go_arith), rfl⟩
  · have e : Q.dig n = -1 := by
      unfold Q.dig; repeat' split
      all_goals first | rfl | (exfalso; omega)
    rw [e]
    clear e
    have f0 : (48 : Int) ≤ n := by omega
    have f1 : ¬ (n : Int) ≤ 57 := by omega
    have f2 : (97 : Int) ≤ n := by omega
    have f3 : ¬ (n : Int) ≤ 102 := by omega
    have f4 : (65 : Int) ≤ n := by omega
    have f5 : ¬ (n : Int) ≤ 70 := by omega
    go_enter Tryz.func134, Tryz.ntmps134
    go_wp2
    go_ret
    exact ⟨ret_int (by first | rfl | omega | go_arith), rfl⟩
set_option maxHeartbeats 1000000 in
theorem goesOn_any (c d : Int) (hc0 : 0 ≤ c) (hc : c ≤ 65535) (hd0 : 0 ≤ d) (hd : d ≤ 15) (i : Nat) (hi : i < 4) (aw : Bool) (w : World) :
    Calls Tryz.prog 151 #[.int .i32 c, .int .i32 d, .int .i64 i, .bool aw] w fun e w' => e = .returned (.bool (Q.goes c d i aw)) ∧ w' = w := by
  have ci : i = 0 ∨ i = 1 ∨ i = 2 ∨ i = 3 := by omega
  rcases ci with rfl | rfl | rfl | rfl
  · cases aw
    · go_enter Tryz.func151, Tryz.ntmps151
      go_wp2
      go_ret
      exact ⟨by simp [Q.goes], rfl⟩
    · go_enter Tryz.func151, Tryz.ntmps151
      go_wp2
      go_ret
      exact ⟨by simp [Q.goes], rfl⟩
  · by_cases h13 : c = 13
    · subst h13
      cases aw
      · go_enter Tryz.func151, Tryz.ntmps151
        go_wp2
        go_ret
        exact ⟨by simp [Q.goes], rfl⟩
      · go_enter Tryz.func151, Tryz.ntmps151
        go_wp2
        go_ret
        exact ⟨by simp [Q.goes], rfl⟩
    · have hb : (c == 13) = false := by simpa using h13
      cases aw
      · go_enter Tryz.func151, Tryz.ntmps151
        go_wp2
        go_ret
        exact ⟨by simp [Q.goes, hb], rfl⟩
      · go_enter Tryz.func151, Tryz.ntmps151
        go_wp2
        go_ret
        exact ⟨by simp [Q.goes, hb], rfl⟩
  · go_enter Tryz.func151, Tryz.ntmps151
    go_wp2
    go_ret
    exact ⟨rfl, rfl⟩
  · go_enter Tryz.func151, Tryz.ntmps151
    go_wp2
    go_ret
    exact ⟨rfl, rfl⟩
end Go.Proofs.YtolekldjbbjmjaaGreatDoor
