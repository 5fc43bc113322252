/- has, holds. -/
import Derived.Test.YtagjbphadakifaaDoorTrmJ
set_option linter.unusedSimpArgs false
set_option linter.unusedVariables false
namespace Go.Proofs.YtagjbphadakifaaDoor
open Go.RowKit Go.Lib
def holdsB (op : Int) (text hit : Bool) : Bool := if op = 1 then text else if op = 2 then !text else if op = 3 then text && hit else !text || !hit
set_option maxHeartbeats 8000000 in
set_option maxRecDepth 100000 in
theorem has_any (l : List ByteArray) (x : ByteArray) (p : Nat) (S : Nat → Prop) (a : Option Addr) (c b o : Nat) (w : World) (hh : Headed a l.length c b o) (hl : liesS w S l b o) (hm : l.length ≤ 2147483647) (hpl : p ≤ l.length) (hp : ∀ t (ht : t < l.length), Op.bytesLess (l[t]).toList x.toList = decide (t < p)) :
    Calls Tryd.prog 45 #[.slice a l.length c, .string x] w (fun e w' => e = .returned (.bool (hitS l p x)) ∧ w' = w) := by
  have C := hmk (bsearch_any l x p S a c b o w hh hl hm hpl hp)
  go_enter Tryd.func45, Tryd.ntmps45
  go_wp2_with (first | (go_at_call 63; refine C.out.mono ?_; rintro e w1 ⟨rfl, rfl⟩))
  go_ret
  exact ⟨rfl, rfl⟩
set_option maxHeartbeats 8000000 in
set_option maxRecDepth 100000 in
theorem holds_any (key : ByteArray) (op : Int) (l : List ByteArray) (k : Int) (vb : Bool) (vi : Int) (x : ByteArray) (v4 v5 : Value) (p : Nat) (S : Nat → Prop) (a : Option Addr) (c b o : Nat) (w : World) (h4 : ∃ a n c, v4 = .slice a n c) (h5 : ∃ a n c, v5 = .slice a n c)
    (hh : Headed a l.length c b o) (hl : liesS w S l b o) (hS : ∀ y, S y → y < w.heap.size) (hm : l.length ≤ 2147483647) (hpl : p ≤ l.length) (hp : ∀ t (ht : t < l.length), Op.bytesLess (l[t]).toList x.toList = decide (t < p)) :
    Calls Tryd.prog 26 #[.agg #[.string key, .int .i64 op, .slice a l.length c], .agg #[.int .i64 k, .bool vb, .int .i64 vi, .string x, v4, v5]] w (BPost (holdsB op (k == 3) (hitS l p x)) w) := by
  obtain ⟨a4, n4, c4, rfl⟩ := h4
  obtain ⟨a5, n5, c5, rfl⟩ := h5
  have HC := hmk (fun (W : World) (hW : Below w.heap.size w W) => has_any l x p S a c b o W hh (hl.keep (fun y hy => hW.block y (hS y hy)) (fun _ h => h)) hm hpl hp)
  clear hh hl hS hp
  generalize hitS l p x = hit at *
  by_cases hk : k = 3
  · subst hk
    by_cases e1 : op = 1
    · subst e1
      have HB : Hid (holdsB 1 ((3 : Int) == 3) hit = true) := by show _ = _; cases hit <;> rfl
      go_enter Tryd.func26, Tryd.ntmps26
      go_wp2_with (first | (go_at_call 45; refine (HC.out _ (((Below.refl _ _).alloc (Nat.le_refl _) _).alloc (by simp) _)).mono ?_; rintro e w1 ⟨rfl, rfl⟩))
      go_ret
      exact ⟨congrArg (fun r => Ending.returned (.bool r)) HB.out.symm, (((Below.refl _ _).alloc (Nat.le_refl _) _).alloc (by simp) _)⟩
    · by_cases e2 : op = 2
      · subst e2
        have HB : Hid (holdsB 2 ((3 : Int) == 3) hit = false) := by show _ = _; cases hit <;> rfl
        go_enter Tryd.func26, Tryd.ntmps26
        go_wp2_with (first | (go_at_call 45; refine (HC.out _ (((Below.refl _ _).alloc (Nat.le_refl _) _).alloc (by simp) _)).mono ?_; rintro e w1 ⟨rfl, rfl⟩))
        go_ret
        exact ⟨congrArg (fun r => Ending.returned (.bool r)) HB.out.symm, (((Below.refl _ _).alloc (Nat.le_refl _) _).alloc (by simp) _)⟩
      · by_cases e3 : op = 3
        · subst e3
          cases hit with
          | false =>
            have HB : Hid (holdsB 3 ((3 : Int) == 3) false = false) := by show _ = _; rfl
            go_enter Tryd.func26, Tryd.ntmps26
            go_wp2_with (first | (go_at_call 45; refine (HC.out _ (((Below.refl _ _).alloc (Nat.le_refl _) _).alloc (by simp) _)).mono ?_; rintro e w1 ⟨rfl, rfl⟩))
            go_ret
            exact ⟨congrArg (fun r => Ending.returned (.bool r)) HB.out.symm, (((Below.refl _ _).alloc (Nat.le_refl _) _).alloc (by simp) _)⟩
          | true =>
            have HB : Hid (holdsB 3 ((3 : Int) == 3) true = true) := by show _ = _; rfl
            go_enter Tryd.func26, Tryd.ntmps26
            go_wp2_with (first | (go_at_call 45; refine (HC.out _ (((Below.refl _ _).alloc (Nat.le_refl _) _).alloc (by simp) _)).mono ?_; rintro e w1 ⟨rfl, rfl⟩))
            go_ret
            exact ⟨congrArg (fun r => Ending.returned (.bool r)) HB.out.symm, (((Below.refl _ _).alloc (Nat.le_refl _) _).alloc (by simp) _)⟩
        · have f1 : (op == 1) = false := by rw [beq_eq_false_iff_ne]; exact e1
          have f2 : (op == 2) = false := by rw [beq_eq_false_iff_ne]; exact e2
          have f3 : (op == 3) = false := by rw [beq_eq_false_iff_ne]; exact e3
          cases hit with
          | false =>
            have HB : Hid (holdsB op ((3 : Int) == 3) false = true) := by show _ = _; unfold holdsB; rw [if_neg e1, if_neg e2, if_neg e3]; rfl
            go_enter Tryd.func26, Tryd.ntmps26
            go_wp2_with (first | (go_at_call 45; refine (HC.out _ (((Below.refl _ _).alloc (Nat.le_refl _) _).alloc (by simp) _)).mono ?_; rintro e w1 ⟨rfl, rfl⟩))
            go_ret
            exact ⟨congrArg (fun r => Ending.returned (.bool r)) HB.out.symm, (((Below.refl _ _).alloc (Nat.le_refl _) _).alloc (by simp) _)⟩
          | true =>
            have HB : Hid (holdsB op ((3 : Int) == 3) true = false) := by show _ = _; unfold holdsB; rw [if_neg e1, if_neg e2, if_neg e3]; rfl
            go_enter Tryd.func26, Tryd.ntmps26
            go_wp2_with (first | (go_at_call 45; refine (HC.out _ (((Below.refl _ _).alloc (Nat.le_refl _) _).alloc (by simp) _)).mono ?_; rintro e w1 ⟨rfl, rfl⟩))
            go_ret
            exact ⟨congrArg (fun r => Ending.returned (.bool r)) HB.out.symm, (((Below.refl _ _).alloc (Nat.le_refl _) _).alloc (by simp) _)⟩
  · have hk3 : (k == 3) = false := by rw [beq_eq_false_iff_ne]; exact hk
    by_cases e1 : op = 1
    · subst e1
      have HB : Hid (holdsB 1 (k == 3) hit = false) := by show _ = _; rw [hk3]; cases hit <;> rfl
      go_enter Tryd.func26, Tryd.ntmps26
      go_wp2_with (first | (go_at_call 45; refine (HC.out _ (((Below.refl _ _).alloc (Nat.le_refl _) _).alloc (by simp) _)).mono ?_; rintro e w1 ⟨rfl, rfl⟩))
      go_ret
      exact ⟨congrArg (fun r => Ending.returned (.bool r)) HB.out.symm, (((Below.refl _ _).alloc (Nat.le_refl _) _).alloc (by simp) _)⟩
    · by_cases e2 : op = 2
      · subst e2
        have HB : Hid (holdsB 2 (k == 3) hit = true) := by show _ = _; rw [hk3]; cases hit <;> rfl
        go_enter Tryd.func26, Tryd.ntmps26
        go_wp2_with (first | (go_at_call 45; refine (HC.out _ (((Below.refl _ _).alloc (Nat.le_refl _) _).alloc (by simp) _)).mono ?_; rintro e w1 ⟨rfl, rfl⟩))
        go_ret
        exact ⟨congrArg (fun r => Ending.returned (.bool r)) HB.out.symm, (((Below.refl _ _).alloc (Nat.le_refl _) _).alloc (by simp) _)⟩
      · by_cases e3 : op = 3
        · subst e3
          have HB : Hid (holdsB 3 (k == 3) hit = false) := by show _ = _; rw [hk3]; cases hit <;> rfl
          go_enter Tryd.func26, Tryd.ntmps26
          go_wp2_with (first | (go_at_call 45; refine (HC.out _ (((Below.refl _ _).alloc (Nat.le_refl _) _).alloc (by simp) _)).mono ?_; rintro e w1 ⟨rfl, rfl⟩))
          go_ret
          exact ⟨congrArg (fun r => Ending.returned (.bool r)) HB.out.symm, (((Below.refl _ _).alloc (Nat.le_refl _) _).alloc (by simp) _)⟩
        · have f1 : (op == 1) = false := by rw [beq_eq_false_iff_ne]; exact e1
          have f2 : (op == 2) = false := by rw [beq_eq_false_iff_ne]; exact e2
          have f3 : (op == 3) = false := by rw [beq_eq_false_iff_ne]; exact e3
          have HB : Hid (holdsB op (k == 3) hit = true) := by show _ = _; unfold holdsB; rw [if_neg e1, if_neg e2, if_neg e3, hk3]; rfl
          go_enter Tryd.func26, Tryd.ntmps26
          go_wp2_with (first | (go_at_call 45; refine (HC.out _ (((Below.refl _ _).alloc (Nat.le_refl _) _).alloc (by simp) _)).mono ?_; rintro e w1 ⟨rfl, rfl⟩))
          go_ret
          exact ⟨congrArg (fun r => Ending.returned (.bool r)) HB.out.symm, (((Below.refl _ _).alloc (Nat.le_refl _) _).alloc (by simp) _)⟩
end Go.Proofs.YtagjbphadakifaaDoor
