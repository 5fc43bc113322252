/- the document's holds. -/
import Derived.Test.YtagjbphadakifaaDoorTrmK
set_option linter.unusedSimpArgs false
set_option linter.unusedVariables false
namespace Go.Proofs.YtagjbphadakifaaDoor
open Go.RowKit Go.Lib
set_option maxHeartbeats 8000000 in
set_option maxRecDepth 100000 in
theorem rholds_any (key : ByteArray) (op : Int) (l : List ByteArray) (m : List Mem) (R : Bool) (S S2 : Nat → Prop) (a : Option Addr) (c b o : Nat) (am : Option Addr) (cm bm om : Nat) (w : World)
    (hh : Headed a l.length c b o) (hl : liesS w S l b o) (hS : ∀ y, S y → y < w.heap.size) (hh2 : Headed am m.length cm bm om) (hl2 : liesM R w S2 m bm om) (hS2 : ∀ y, S2 y → y < w.heap.size) :
    Calls Tryd.prog 28 #[.agg #[.string key, .int .i64 op, .slice a l.length c], .slice am m.length cm] w (BPost (holdsB op (labF m key).2 (amongB l (labF m key).1)) w) := by
  have HC := hmk (fun (W : World) (hW : Below w.heap.size w W) (x : ByteArray) => among_any l x S a c b o W hh (hl.keep (fun y hy => hW.block y (hS y hy)) (fun _ h => h)))
  have HM := hmk (fun (W : World) (hW : Below w.heap.size w W) => label_any m key R S2 am cm bm om W hh2 (liesM_keep (fun h => h) (fun y hy => hW.block y (hS2 y hy)) (fun _ h => h) _ hl2))
  clear hh hl hS hh2 hl2 hS2
  obtain ⟨x, hx⟩ : ∃ x, (labF m key).1 = x := ⟨_, rfl⟩
  obtain ⟨t, ht⟩ : ∃ t, (labF m key).2 = t := ⟨_, rfl⟩
  unfold LfPost at HM
  rw [hx, ht] at HM ⊢
  clear hx ht
  have HC := hmk (fun (W : World) (hW : Below w.heap.size w W) => HC.out W hW x)
  generalize amongB l x = hit at *
  by_cases e1 : op = 1
  · subst e1
    have HB : Hid (holdsB 1 t hit = t) := by show _ = _; rfl
    go_enter Tryd.func28, Tryd.ntmps28
    go_wp2_with (first | (go_at_call 47; refine (HM.out _ ((Below.refl _ _).alloc (Nat.le_refl _) _)).mono ?_; rintro e w1 ⟨rfl, rfl⟩) | (go_at_call 48; refine (HC.out _ ((Below.refl _ _).alloc (Nat.le_refl _) _)).mono ?_; rintro e w1 ⟨rfl, rfl⟩))
    go_ret
    exact ⟨congrArg (fun r => Ending.returned (.bool r)) HB.out.symm, ((Below.refl _ _).alloc (Nat.le_refl _) _)⟩
  · by_cases e2 : op = 2
    · subst e2
      have HB : Hid (holdsB 2 t hit = !t) := by show _ = _; rfl
      go_enter Tryd.func28, Tryd.ntmps28
      go_wp2_with (first | (go_at_call 47; refine (HM.out _ ((Below.refl _ _).alloc (Nat.le_refl _) _)).mono ?_; rintro e w1 ⟨rfl, rfl⟩) | (go_at_call 48; refine (HC.out _ ((Below.refl _ _).alloc (Nat.le_refl _) _)).mono ?_; rintro e w1 ⟨rfl, rfl⟩))
      go_ret
      exact ⟨congrArg (fun r => Ending.returned (.bool r)) HB.out.symm, ((Below.refl _ _).alloc (Nat.le_refl _) _)⟩
    · by_cases e3 : op = 3
      · subst e3
        cases t with
        | false =>
          have HB : Hid (holdsB 3 false hit = false) := by show _ = _; rfl
          go_enter Tryd.func28, Tryd.ntmps28
          go_wp2_with (first | (go_at_call 47; refine (HM.out _ ((Below.refl _ _).alloc (Nat.le_refl _) _)).mono ?_; rintro e w1 ⟨rfl, rfl⟩) | (go_at_call 48; refine (HC.out _ ((Below.refl _ _).alloc (Nat.le_refl _) _)).mono ?_; rintro e w1 ⟨rfl, rfl⟩))
          go_ret
          exact ⟨congrArg (fun r => Ending.returned (.bool r)) HB.out.symm, ((Below.refl _ _).alloc (Nat.le_refl _) _)⟩
        | true =>
          have HB : Hid (holdsB 3 true hit = hit) := by show _ = _; cases hit <;> rfl
          go_enter Tryd.func28, Tryd.ntmps28
          go_wp2_with (first | (go_at_call 47; refine (HM.out _ ((Below.refl _ _).alloc (Nat.le_refl _) _)).mono ?_; rintro e w1 ⟨rfl, rfl⟩) | (go_at_call 48; refine (HC.out _ ((Below.refl _ _).alloc (Nat.le_refl _) _)).mono ?_; rintro e w1 ⟨rfl, rfl⟩))
          go_ret
          exact ⟨congrArg (fun r => Ending.returned (.bool r)) HB.out.symm, ((Below.refl _ _).alloc (Nat.le_refl _) _)⟩
      · have f1 : (op == 1) = false := by rw [beq_eq_false_iff_ne]; exact e1
        have f2 : (op == 2) = false := by rw [beq_eq_false_iff_ne]; exact e2
        have f3 : (op == 3) = false := by rw [beq_eq_false_iff_ne]; exact e3
        cases t with
        | false =>
          have HB : Hid (holdsB op false hit = true) := by show _ = _; unfold holdsB; rw [if_neg e1, if_neg e2, if_neg e3]; cases hit <;> rfl
          go_enter Tryd.func28, Tryd.ntmps28
          go_wp2_with (first | (go_at_call 47; refine (HM.out _ ((Below.refl _ _).alloc (Nat.le_refl _) _)).mono ?_; rintro e w1 ⟨rfl, rfl⟩) | (go_at_call 48; refine (HC.out _ ((Below.refl _ _).alloc (Nat.le_refl _) _)).mono ?_; rintro e w1 ⟨rfl, rfl⟩))
          go_ret
          exact ⟨congrArg (fun r => Ending.returned (.bool r)) HB.out.symm, ((Below.refl _ _).alloc (Nat.le_refl _) _)⟩
        | true =>
          have HB : Hid (holdsB op true hit = !hit) := by show _ = _; unfold holdsB; rw [if_neg e1, if_neg e2, if_neg e3]; cases hit <;> rfl
          go_enter Tryd.func28, Tryd.ntmps28
          go_wp2_with (first | (go_at_call 47; refine (HM.out _ ((Below.refl _ _).alloc (Nat.le_refl _) _)).mono ?_; rintro e w1 ⟨rfl, rfl⟩) | (go_at_call 48; refine (HC.out _ ((Below.refl _ _).alloc (Nat.le_refl _) _)).mono ?_; rintro e w1 ⟨rfl, rfl⟩))
          go_ret
          exact ⟨congrArg (fun r => Ending.returned (.bool r)) HB.out.symm, ((Below.refl _ _).alloc (Nat.le_refl _) _)⟩
end Go.Proofs.YtagjbphadakifaaDoor
