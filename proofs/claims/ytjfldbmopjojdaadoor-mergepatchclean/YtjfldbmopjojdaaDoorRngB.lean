import Derived.Test.YtjfldbmopjojdaaDoorRngP
namespace Go
open Go.RowKit
variable {P : Program} {f : FuncId} {Q : Exit → Act → World → Prop} {a : Act} {w : World}
theorem wpOf_block {i : Nat} {x : Code} (h : x.wpOf f P (Exit.inBlock i Q) a w) : (Code.block i x).wpOf f P Q a w := by
 intro b k cs hf hr
 have s0 : StepsIn (Machine.fenced P Fence.wide) P (lone (b.atR a (.code (.block i x) :: k)) cs w) (lone (b.atR a (.code x :: .inBlock i :: k)) cs w) := .one (fenced_wide P _) stepR_block
 obtain ⟨e, a₁, w₁, hq, h1⟩ := h b (.inBlock i :: k) cs hf hr
 cases e with
 | normal => exact ⟨.normal, a₁, w₁, hq, StepsIn.trans s0 (StepsIn.trans h1 (.one (fenced_wide P _) stepR_inBlock))⟩
 | exit j =>
  by_cases hj : j = i
  ·simp only [Exit.inBlock, hj, if_true] at hq
   exact ⟨.normal, a₁, w₁, hq, StepsIn.trans s0 (h1.1 k (by simp [exitTo, hj]))⟩
  ·simp only [Exit.inBlock, hj, if_false] at hq
   have hne : (i == j) = false := beq_eq_false_iff_ne.2 (fun h => hj h.symm)
   have hx : exitTo j (.inBlock i :: k) = exitTo j k := by simp [exitTo, hne]
   exact ⟨.exit j, a₁, w₁, hq, fun k' hk => StepsIn.trans s0 (h1.1 k' (by rw [hx]; exact hk)), fun hr' hk => let ⟨k₁, u1, u2⟩ := h1.2 hr' (by rw [hx]; exact hk); ⟨k₁, u1, StepsIn.trans s0 u2⟩⟩
 | goto l =>
  have hx : gotoIn l (.inBlock i :: k) = gotoIn l k := by simp [gotoIn]
  exact ⟨_, a₁, w₁, hq, fun k' hk => StepsIn.trans s0 (h1.1 k' (by rw [hx]; exact hk)), fun hr' hk => let ⟨k₁, u1, u2⟩ := h1.2 hr' (by rw [hx]; exact hk); ⟨k₁, u1, StepsIn.trans s0 u2⟩⟩
 | ret => exact ⟨_, a₁, w₁, hq, .of_steps s0 h1⟩
 | panic ch => exact ⟨_, a₁, w₁, hq, .of_steps s0 h1⟩
 | outgrown => exact ⟨_, a₁, w₁, hq, .of_steps s0 h1⟩
end Go
