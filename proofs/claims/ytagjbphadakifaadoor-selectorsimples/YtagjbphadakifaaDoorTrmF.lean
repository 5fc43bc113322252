import Derived.Test.YtagjbphadakifaaDoorTrmE
/- few. -/
set_option linter.unusedSimpArgs false
set_option linter.unusedVariables false
namespace Go.Proofs.YtagjbphadakifaaDoor
open Go.RowKit Go.Lib
def fewW (r : Nat) : ByteArray :=
  if r = 0 ∨ r = 1 then ⟨#[97]⟩ else if r = 2 ∨ r = 3 then ⟨#[98]⟩ else if r = 4 then ⟨#[48]⟩ else if r = 5 then ⟨#[57]⟩ else if r = 6 then ⟨#[65]⟩ else if r = 7 then ⟨#[90]⟩
  else if r = 8 then ⟨#[105, 110]⟩ else if r = 9 then ⟨#[98, 32, 99]⟩ else if r = 10 then ⟨#[64, 120]⟩ else ⟨#[122, 47]⟩
def fewN (n : Int) : Nat := (if n < 0 then -(n + 1) else n).toNat % 12
def fewV (n : Int) : ByteArray := fewW (fewN n)
theorem fewW_size (r : Nat) : (fewW r).size ≤ 3 ∧ 0 < (fewW r).size := by
  unfold fewW
  repeat' split
  all_goals exact ⟨by decide, by decide⟩
def FwPost (n : Int) (w : World) (e : Ending) (w' : World) : Prop := e = .returned (.string (fewV n)) ∧ w' = w
set_option maxHeartbeats 8000000 in
set_option maxRecDepth 100000 in
theorem few_any (n : Int) (hn : In64 n) (w : World) : Calls Tryd.prog 22 #[.int .i64 n] w (FwPost n w) := by
  have hn1 : -9223372036854775808 ≤ n ∧ n < 9223372036854775808 := by unfold In64 at hn; omega
  clear hn
  obtain ⟨k, hk⟩ : ∃ k : Nat, (if n < 0 then -(n + 1) else n) = (k : Int) := ⟨(if n < 0 then -(n + 1) else n).toNat, by split <;> omega⟩
  have hN : fewN n = k % 12 := by unfold fewN; rw [hk]; omega
  have hr : ∃ r : Nat, r < 12 ∧ k % 12 = r := ⟨_, Nat.mod_lt _ (by omega), rfl⟩
  obtain ⟨r, hr, hkr⟩ := hr
  have hV : fewV n = fewW r := by unfold fewV; rw [hN, hkr]
  have ht : Int.tmod (k : Int) 12 = (r : Int) := by rw [← hkr]; rfl
  have hw : (r = 0 ∨ r = 1) ∨ (r = 2 ∨ r = 3) ∨ r = 4 ∨ r = 5 ∨ r = 6 ∨ r = 7 ∨ r = 8 ∨ r = 9 ∨ r = 10 ∨ r = 11 := by omega
  show Calls _ _ _ _ (fun e w' => e = .returned (.string (fewV n)) ∧ w' = w)
  rw [hV]
  clear hV hN
  by_cases h0 : n < 0
  · have y1 : IntKind.i64.wrap (n + 1) = n + 1 := by rw [IntKind.wrap_i64]; omega
    have y2 : IntKind.i64.wrap (-(n + 1)) = (k : Int) := by rw [if_pos h0] at hk; rw [IntKind.wrap_i64]; omega
    clear hk hkr
    rcases hw with (rfl | rfl) | (rfl | rfl) | rfl | rfl | rfl | rfl | rfl | rfl | rfl | rfl
    all_goals
      go_enter Tryd.func22, Tryd.ntmps22
      go_wp2_with fail
      go_ret
      exact ⟨rfl, rfl⟩
  · obtain rfl : n = (k : Int) := by rw [if_neg h0] at hk; exact hk
    clear hk hkr
    rcases hw with (rfl | rfl) | (rfl | rfl) | rfl | rfl | rfl | rfl | rfl | rfl | rfl | rfl
    all_goals
      go_enter Tryd.func22, Tryd.ntmps22
      go_wp2_with fail
      go_ret
      exact ⟨rfl, rfl⟩
end Go.Proofs.YtagjbphadakifaaDoor
