import Derived.Test.YtagjbphadakifaaDoorTrmJ
/- has, holds. -/
set_option linter.unusedSimpArgs false
set_option linter.unusedVariables false
namespace Go.Proofs.YtagjbphadakifaaDoor
open Go.RowKit Go.Lib
set_option maxHeartbeats 8000000 in
set_option maxRecDepth 100000 in
theorem has_any (l : List ByteArray) (x : ByteArray) (p : Nat) (S : Nat → Prop) (a : Option Addr) (c b o : Nat) (w : World) (hh : Headed a l.length c b o) (hl : liesS w S l b o) (hm : l.length ≤ 2147483647) (hpl : p ≤ l.length) (hp : ∀ t (ht : t < l.length), Op.bytesLess (l[t]).toList x.toList = decide (t < p)) :
    Calls Tryd.prog 45 #[.slice a l.length c, .string x] w (fun e w' => e = .returned (.bool (hitS l p x)) ∧ w' = w) := by
  have C := hmk (bsearch_any l x p S a c b o w hh hl hm hpl hp)
  go_enter Tryd.func45, Tryd.ntmps45
  go_wp2_with (first | (go_at_call 63; refine C.out.mono ?_; rintro e w1 ⟨rfl, rfl⟩))
  go_ret
  exact ⟨rfl, rfl⟩
end Go.Proofs.YtagjbphadakifaaDoor
