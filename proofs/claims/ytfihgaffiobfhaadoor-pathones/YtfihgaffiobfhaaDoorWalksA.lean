import Derived.Test.YtfihgaffiobfhaaDoorProg
import Derived.Test.YtfihgaffiobfhaaDoorG8
import Derived.WalkKit
import Derived.WalkMore
import Derived.Below
/- Contracts: letter, width, bounds, Next, the document's Valid. -/
set_option linter.unusedSimpArgs false
set_option linter.unusedVariables false
namespace Go.Proofs.YtfihgaffiobfhaaDoor
open Go.RowKit Go.Lib
/-- the letters' table, cell by cell -/
def LetTab (w : World) : Prop := ∀ c : Nat, c < 128 → w.cell? ⟨2, c, none⟩ = some (.int .u8 (Q.letN c))
theorem Q.letN_hi (n : Nat) (h : 128 ≤ n) : Q.letN n = 0 := by
  unfold Q.letN
  repeat' split
  all_goals first | omega | rfl
set_option maxRecDepth 100000 in
set_option maxHeartbeats 400000 in
theorem letter_any (n : Nat) (hn : n < 256) (w : World) (hT : LetTab w) :
    Calls Tryd.prog 77 #[.int .u8 n] w fun e w' => e = .returned (.int .u8 (Q.letN n)) ∧ w' = w := by
  by_cases h : n < 128
  · have hc := hT n h
    have hz : (n : Int) < 128 := by omega
    generalize Q.letN n = L at *
    clear hT
    go_enter Tryd.func77, Tryd.ntmps77
    go_wp2
    go_ret
    exact ⟨rfl, rfl⟩
  · have hz : (128 : Int) ≤ n := by omega
    rw [Q.letN_hi n (by omega)]
    clear hT
    go_enter Tryd.func77, Tryd.ntmps77
    go_wp2
    go_ret
    exact ⟨rfl, rfl⟩
set_option maxHeartbeats 400000 in
theorem width_any (n : Nat) (hn : n < 256) (w : World) (hT : LetTab w) :
    Calls Tryd.prog 75 #[.int .u8 n] w fun e w' => e = .returned (.int .i64 (Q.widN n)) ∧ w' = w := by
  have c := letter_any n hn w hT
  clear hT
  by_cases h : Q.letN n = 0
  · rw [h] at c
    by_cases h2 : n < 32
    · have e : Q.widN n = 6 := by simp [Q.widN, h, h2]
      rw [e]
      have hz : (n : Int) < 32 := by omega
      clear e h
      go_enter Tryd.func75, Tryd.ntmps75
      go_wp2_with (go_at_call 77; refine c.mono ?_; rintro e w' ⟨rfl, rfl⟩)
      go_ret
      exact ⟨rfl, rfl⟩
    · have e : Q.widN n = 1 := by simp [Q.widN, h, h2]
      rw [e]
      have hz : ¬ (n : Int) < 32 := by omega
      clear e h
      go_enter Tryd.func75, Tryd.ntmps75
      go_wp2_with (go_at_call 77; refine c.mono ?_; rintro e w' ⟨rfl, rfl⟩)
      go_ret
      exact ⟨rfl, rfl⟩
  · have e : Q.widN n = 2 := by simp [Q.widN, h]
    rw [e]
    have hb : ((Q.letN n : Int) == 0) = false := by rw [beq_eq_false_iff_ne]; omega
    have hb2 : ((Q.letN n : Int) != 0) = true := by rw [bne_iff_ne]; omega
    clear e
    generalize Q.letN n = L at *
    go_enter Tryd.func75, Tryd.ntmps75
    go_wp2_with (go_at_call 77; refine c.mono ?_; rintro e w' ⟨rfl, rfl⟩)
    go_ret
    exact ⟨rfl, rfl⟩
set_option maxHeartbeats 1000000 in
theorem bounds_anyW (n : Nat) (hn : n < 256) (w : World) :
    Calls Tryd.prog 67 #[.int .u8 n] w fun e w' => e = .returned (.tuple #[.int .i64 (Q.bnd n).1, .int .u8 (Q.bnd n).2.1, .int .u8 (Q.bnd n).2.2]) ∧ w' = w := by
  have key : ∀ a b c : Nat, Q.bnd n = (a, b, c) → (Calls Tryd.prog 67 #[.int .u8 n] w fun e w' => e = .returned (.tuple #[.int .i64 a, .int .u8 b, .int .u8 c]) ∧ w' = w) → Calls Tryd.prog 67 #[.int .u8 n] w fun e w' => e = .returned (.tuple #[.int .i64 (Q.bnd n).1, .int .u8 (Q.bnd n).2.1, .int .u8 (Q.bnd n).2.2]) ∧ w' = w := by
    intro a b c e h
    rw [e]
    exact h
  have c9 : n < 128 ∨ (128 ≤ n ∧ n < 194) ∨ (194 ≤ n ∧ n < 224) ∨ n = 224 ∨ n = 237 ∨ (224 < n ∧ n < 240 ∧ n ≠ 237) ∨ n = 240 ∨ n = 244 ∨ (240 < n ∧ n < 244) ∨ 244 < n := by omega
  rcases c9 with h | h | h | h | h | h | h | h | h | h
  case inr.inr.inr.inl => subst h; refine key 3 160 191 (by decide) ?_; go_enter Tryd.func67, Tryd.ntmps67; go_wp2; go_ret3; exact ⟨rfl, rfl⟩
  case inr.inr.inr.inr.inl => subst h; refine key 3 128 159 (by decide) ?_; go_enter Tryd.func67, Tryd.ntmps67; go_wp2; go_ret3; exact ⟨rfl, rfl⟩
  case inr.inr.inr.inr.inr.inr.inl => subst h; refine key 4 144 191 (by decide) ?_; go_enter Tryd.func67, Tryd.ntmps67; go_wp2; go_ret3; exact ⟨rfl, rfl⟩
  case inr.inr.inr.inr.inr.inr.inr.inl => subst h; refine key 4 128 143 (by decide) ?_; go_enter Tryd.func67, Tryd.ntmps67; go_wp2; go_ret3; exact ⟨rfl, rfl⟩
  · refine key 1 0 0 (by simp [Q.bnd, h]) ?_
    have z1 : (n : Int) < 128 := by omega
    go_enter Tryd.func67, Tryd.ntmps67
    go_wp2
    go_ret3
    exact ⟨rfl, rfl⟩
  all_goals
    have z1 : ¬ (n : Int) < 128 := by omega
    have b1 : ((n : Int) == 224) = false := by rw [beq_eq_false_iff_ne]; omega
    have b2 : ((n : Int) == 237) = false := by rw [beq_eq_false_iff_ne]; omega
    have b3 : ((n : Int) == 240) = false := by rw [beq_eq_false_iff_ne]; omega
    have b4 : ((n : Int) == 244) = false := by rw [beq_eq_false_iff_ne]; omega
  · refine key 0 0 0 ?_ ?_
    · unfold Q.bnd; repeat' split
      all_goals first | rfl | (exfalso; omega)
    have d1 : ¬ (194 : Int) ≤ n := by omega
    have d2 : ¬ (224 : Int) < n := by omega
    have d3 : ¬ (240 : Int) < n := by omega
    go_enter Tryd.func67, Tryd.ntmps67
    go_wp2
    go_ret3
    exact ⟨rfl, rfl⟩
  · refine key 2 128 191 ?_ ?_
    · unfold Q.bnd; repeat' split
      all_goals first | rfl | (exfalso; omega)
    have d1 : (194 : Int) ≤ n := by omega
    have d2 : (n : Int) < 224 := by omega
    go_enter Tryd.func67, Tryd.ntmps67
    go_wp2
    go_ret3
    exact ⟨rfl, rfl⟩
  · refine key 3 128 191 ?_ ?_
    · unfold Q.bnd; repeat' split
      all_goals first | rfl | (exfalso; omega)
    have d1 : (194 : Int) ≤ n := by omega
    have d2 : ¬ (n : Int) < 224 := by omega
    have d3 : (224 : Int) < n := by omega
    have d4 : (n : Int) < 240 := by omega
    go_enter Tryd.func67, Tryd.ntmps67
    go_wp2
    go_ret3
    exact ⟨rfl, rfl⟩
  · refine key 4 128 191 ?_ ?_
    · unfold Q.bnd; repeat' split
      all_goals first | rfl | (exfalso; omega)
    have d1 : (194 : Int) ≤ n := by omega
    have d2 : ¬ (n : Int) < 224 := by omega
    have d3 : (224 : Int) < n := by omega
    have d4 : ¬ (n : Int) < 240 := by omega
    have d5 : (240 : Int) < n := by omega
    have d6 : (n : Int) < 244 := by omega
    go_enter Tryd.func67, Tryd.ntmps67
    go_wp2
    go_ret3
    exact ⟨rfl, rfl⟩
  · refine key 0 0 0 ?_ ?_
    · unfold Q.bnd; repeat' split
      all_goals first | rfl | (exfalso; omega)
    have d1 : (194 : Int) ≤ n := by omega
    have d2 : ¬ (n : Int) < 224 := by omega
    have d3 : (224 : Int) < n := by omega
    have d4 : ¬ (n : Int) < 240 := by omega
    have d5 : (240 : Int) < n := by omega
    have d6 : ¬ (n : Int) < 244 := by omega
    go_enter Tryd.func67, Tryd.ntmps67
    go_wp2
    go_ret3
    exact ⟨rfl, rfl⟩
theorem drop_consW (s : ByteArray) (k : Nat) (h : k < s.size) : s.data.toList.drop k = s[k] :: s.data.toList.drop (k + 1) := by
  rw [List.drop_eq_getElem_cons (by simpa using h)]
  rfl
theorem drop_endW (s : ByteArray) (k : Nat) (h : s.size ≤ k) : s.data.toList.drop k = [] := by
  rw [List.drop_eq_nil_iff]
  simpa using h
theorem ret_ibW {a b : Int} {p q : Bool} (h : a = b) (h2 : p = q) : Ending.returned (.tuple #[.int .i64 a, .bool p]) = .returned (.tuple #[.int .i64 b, .bool q]) := by rw [h, h2]
end Go.Proofs.YtfihgaffiobfhaaDoor
