import Derived.Test.YtaecmgkckefgoaaDoorKndA
/- Leaf, and what it leans on. -/
set_option linter.unusedSimpArgs false
set_option linter.unusedVariables false
namespace Go.Proofs.YtaecmgkckefgoaaDoor
open Go.RowKit Go.Lib
def scB (k : Int) : Bool := decide (1 ≤ k) && decide (k ≤ 3)
def leafB (k : Int) (a : Bool) (r : Int) : Bool := if k = 4 ∨ k = 5 then a else if k = 6 then decide (r = 0) else scB k
set_option maxHeartbeats 1600000 in
set_option maxRecDepth 100000 in
theorem isscalar_any (nm : ByteArray) (k : Int) (a : Bool) (af : Option Addr) (nf cf : Nat) (el : ByteArray) (rl : Int) (ak : Option Addr) (nk ck : Nat) (ae : Option Addr) (ne ce : Nat) (w : World) : Calls Tryd.prog 15 #[.agg #[.string nm, .int .i64 k, .bool a, .slice af nf cf, .string el, .int .i64 rl, .slice ak nk ck, .slice ae ne ce]] w (BPost (scB k) w) := by
  obtain ⟨d0, d1, d2, d3, d4, d5, d6, d7⟩ := row8z (box_row w [.string nm, .int .i64 k, .bool a, .slice af nf cf, .string el, .int .i64 rl, .slice ak nk ck, .slice ae ne ce] 26)
  by_cases h1 : 1 ≤ k
  · have y1 : k ≥ 1 := h1
    go_enter Tryd.func15, Tryd.ntmps15
    go_wp2_with fail
    go_ret
    exact ⟨by show Ending.returned (Value.bool _) = Ending.returned (Value.bool _); refine congrArg (fun r => Ending.returned (Value.bool r)) ?_; simp [scB, show 1 ≤ k by omega], (Below.refl _ _).alloc (Nat.le_refl _) _⟩
  · have y1 : ¬ k ≥ 1 := h1
    go_enter Tryd.func15, Tryd.ntmps15
    go_wp2_with fail
    go_ret
    exact ⟨by show Ending.returned (Value.bool _) = Ending.returned (Value.bool _); refine congrArg (fun r => Ending.returned (Value.bool r)) ?_; simp [scB, show ¬ 1 ≤ k by omega], (Below.refl _ _).alloc (Nat.le_refl _) _⟩
set_option maxHeartbeats 1600000 in
set_option maxRecDepth 100000 in
theorem rscalar_any (nm : ByteArray) (k : Int) (a : Bool) (af : Option Addr) (nf cf : Nat) (el : ByteArray) (rl : Int) (ak : Option Addr) (nk ck : Nat) (ae : Option Addr) (ne ce : Nat) (w : World) : Calls Tryd.prog 16 #[.agg #[.string nm, .int .i64 k, .bool a, .slice af nf cf, .string el, .int .i64 rl, .slice ak nk ck, .slice ae ne ce]] w (BPost (scB k) w) := by
  obtain ⟨d0, d1, d2, d3, d4, d5, d6, d7⟩ := row8z (box_row w [.string nm, .int .i64 k, .bool a, .slice af nf cf, .string el, .int .i64 rl, .slice ak nk ck, .slice ae ne ce] 26)
  by_cases h1 : 1 ≤ k
  · have y1 : k ≥ 1 := h1
    go_enter Tryd.func16, Tryd.ntmps16
    go_wp2_with fail
    go_ret
    exact ⟨by show Ending.returned (Value.bool _) = Ending.returned (Value.bool _); refine congrArg (fun r => Ending.returned (Value.bool r)) ?_; simp [scB, show 1 ≤ k by omega], (Below.refl _ _).alloc (Nat.le_refl _) _⟩
  · have y1 : ¬ k ≥ 1 := h1
    go_enter Tryd.func16, Tryd.ntmps16
    go_wp2_with fail
    go_ret
    exact ⟨by show Ending.returned (Value.bool _) = Ending.returned (Value.bool _); refine congrArg (fun r => Ending.returned (Value.bool r)) ?_; simp [scB, show ¬ 1 ≤ k by omega], (Below.refl _ _).alloc (Nat.le_refl _) _⟩
set_option maxHeartbeats 1600000 in
set_option maxRecDepth 100000 in
theorem leaf_any (nm : ByteArray) (k : Int) (a : Bool) (af : Option Addr) (nf cf : Nat) (el : ByteArray) (rl : Int) (ak : Option Addr) (nk ck : Nat) (ae : Option Addr) (ne ce : Nat) (w : World) : Calls Tryd.prog 7 #[.agg #[.string nm, .int .i64 k, .bool a, .slice af nf cf, .string el, .int .i64 rl, .slice ak nk ck, .slice ae ne ce]] w (BPost (leafB k a rl) w) := by
  obtain ⟨d0, d1, d2, d3, d4, d5, d6, d7⟩ := row8z (box_row w [.string nm, .int .i64 k, .bool a, .slice af nf cf, .string el, .int .i64 rl, .slice ak nk ck, .slice ae ne ce] 26)
  have b1 : Below w.heap.size w (w.alloc (.cells #[.string nm, .int .i64 k, .bool a, .slice af nf cf, .string el, .int .i64 rl, .slice ak nk ck, .slice ae ne ce] 26)) := (Below.refl _ _).alloc (Nat.le_refl _) _
  have c := hmk (isscalar_any nm k a af nf cf el rl ak nk ck ae ne ce (w.alloc (.cells #[.string nm, .int .i64 k, .bool a, .slice af nf cf, .string el, .int .i64 rl, .slice ak nk ck, .slice ae ne ce] 26)))
  have HB := hmk b1
  clear b1
  by_cases h4 : k = 4
  · subst h4
    go_enter Tryd.func7, Tryd.ntmps7
    go_wp2_with fail
    go_ret
    exact ⟨rfl, HB.out⟩
  by_cases h5 : k = 5
  · subst h5
    go_enter Tryd.func7, Tryd.ntmps7
    go_wp2_with fail
    go_ret
    exact ⟨rfl, HB.out⟩
  by_cases h6 : k = 6
  · subst h6
    go_enter Tryd.func7, Tryd.ntmps7
    go_wp2_with fail
    go_ret
    exact ⟨by show Ending.returned (Value.bool _) = Ending.returned (Value.bool _); refine congrArg (fun r => Ending.returned (Value.bool r)) ?_; rw [leafB, if_neg (by omega), if_pos rfl]; by_cases h : rl = 0 <;> simp [h], HB.out⟩
  have e4 : (k == 4) = false := beq_eq_false_iff_ne.2 h4
  have e5 : (k == 5) = false := beq_eq_false_iff_ne.2 h5
  have e6 : (k == 6) = false := beq_eq_false_iff_ne.2 h6
  go_enter Tryd.func7, Tryd.ntmps7
  go_wp2_with fail
  refine c.out.mono ?_
  rintro e w1 ⟨rfl, g1⟩
  go_wp2_with fail
  go_ret
  exact ⟨by show Ending.returned (Value.bool _) = Ending.returned (Value.bool _); refine congrArg (fun r => Ending.returned (Value.bool r)) ?_; rw [leafB, if_neg (by omega), if_neg h6], HB.out.trans (g1.mono HB.out.size)⟩
set_option maxHeartbeats 1600000 in
set_option maxRecDepth 100000 in
theorem rleaf_any (nm : ByteArray) (k : Int) (a : Bool) (af : Option Addr) (nf cf : Nat) (el : ByteArray) (rl : Int) (ak : Option Addr) (nk ck : Nat) (ae : Option Addr) (ne ce : Nat) (w : World) : Calls Tryd.prog 8 #[.agg #[.string nm, .int .i64 k, .bool a, .slice af nf cf, .string el, .int .i64 rl, .slice ak nk ck, .slice ae ne ce]] w (BPost (leafB k a rl) w) := by
  obtain ⟨d0, d1, d2, d3, d4, d5, d6, d7⟩ := row8z (box_row w [.string nm, .int .i64 k, .bool a, .slice af nf cf, .string el, .int .i64 rl, .slice ak nk ck, .slice ae ne ce] 26)
  have b1 : Below w.heap.size w (w.alloc (.cells #[.string nm, .int .i64 k, .bool a, .slice af nf cf, .string el, .int .i64 rl, .slice ak nk ck, .slice ae ne ce] 26)) := (Below.refl _ _).alloc (Nat.le_refl _) _
  have c := hmk (rscalar_any nm k a af nf cf el rl ak nk ck ae ne ce (w.alloc (.cells #[.string nm, .int .i64 k, .bool a, .slice af nf cf, .string el, .int .i64 rl, .slice ak nk ck, .slice ae ne ce] 26)))
  have HB := hmk b1
  clear b1
  by_cases h4 : k = 4
  · subst h4
    go_enter Tryd.func8, Tryd.ntmps8
    go_wp2_with fail
    go_ret
    exact ⟨rfl, HB.out⟩
  by_cases h5 : k = 5
  · subst h5
    go_enter Tryd.func8, Tryd.ntmps8
    go_wp2_with fail
    go_ret
    exact ⟨rfl, HB.out⟩
  by_cases h6 : k = 6
  · subst h6
    go_enter Tryd.func8, Tryd.ntmps8
    go_wp2_with fail
    go_ret
    exact ⟨by show Ending.returned (Value.bool _) = Ending.returned (Value.bool _); refine congrArg (fun r => Ending.returned (Value.bool r)) ?_; rw [leafB, if_neg (by omega), if_pos rfl]; by_cases h : rl = 0 <;> simp [h], HB.out⟩
  have e4 : (k == 4) = false := beq_eq_false_iff_ne.2 h4
  have e5 : (k == 5) = false := beq_eq_false_iff_ne.2 h5
  have e6 : (k == 6) = false := beq_eq_false_iff_ne.2 h6
  go_enter Tryd.func8, Tryd.ntmps8
  go_wp2_with fail
  refine c.out.mono ?_
  rintro e w1 ⟨rfl, g1⟩
  go_wp2_with fail
  go_ret
  exact ⟨by show Ending.returned (Value.bool _) = Ending.returned (Value.bool _); refine congrArg (fun r => Ending.returned (Value.bool r)) ?_; rw [leafB, if_neg (by omega), if_neg h6], HB.out.trans (g1.mono HB.out.size)⟩
end Go.Proofs.YtaecmgkckefgoaaDoor
