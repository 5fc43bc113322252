import Derived.Test.YtjfldbmopjojdaaDoorAccM
import Derived.Test.YtjfldbmopjojdaaDoorG23
import Derived.Test.YtjfldbmopjojdaaDoorRndA
import Derived.Shelf.Abstract
import Derived.OwnWalkIn
import Derived.TacticsInMore
import Derived.LoopNIn
import Derived.LoopIn
/- mergepatch.together: the pairs of two rows of members, as cells; what stays of them. -/
set_option linter.unusedSimpArgs false
set_option linter.unusedVariables false
namespace Go.Proofs.YtjfldbmopjojdaaDoor
open Go Go.RowKit Go.Lib Go.Shelf
/-- what two maps have for one key: the cells of both values, which of the maps have it -/
structure Pr where
  key : ByteArray
  va : V
  vb : V
  a : List Value
  b : List Value
  f : Bool
  g : Bool
def Pr.enc (x : Pr) : Array Value := #[.string x.key, .agg (x.a ++ x.b ++ [Value.bool x.f, Value.bool x.g]).toArray]
def nul6 : List Value := [.int .i64 0, .bool false, .int .i64 0, .string ⟨#[]⟩, .slice none 0 0, .slice none 0 0]
def pA (y : Mem × List Value) : Pr := ⟨y.1.1, y.1.2, nullV, y.2.tail, nul6, true, false⟩
def pB (z : Mem × List Value) : Pr := ⟨z.1.1, nullV, z.1.2, nul6, z.2.tail, false, true⟩
def pAB (y z : Mem × List Value) : Pr := ⟨z.1.1, y.1.2, z.1.2, y.2.tail, z.2.tail, true, true⟩
/-- the pairs of two rows, rising -/
def tgR : List (Mem × List Value) → List (Mem × List Value) → List Pr
  | [], [] => []
  | y :: s, [] => pA y :: tgR s []
  | [], z :: t => pB z :: tgR [] t
  | y :: s, z :: t => if ltB y.1.1 z.1.1 = true then pA y :: tgR s (z :: t) else if ltB z.1.1 y.1.1 = true then pB z :: tgR (y :: s) t else pAB y z :: tgR s t
termination_by a b => a.length + b.length
/-- what stays of a pair -/
def sty (f : V → V → V) (x : Pr) : List Mem := if x.g = false then [(x.key, x.va)] else if kindOf x.vb = 0 then [] else [(x.key, f x.va x.vb)]
def stys (f : V → V → V) (l : List Pr) : List Mem := l.flatMap (sty f)
theorem stys_tg (f : V → V → V) : ∀ (a b : List (Mem × List Value)), stys f (tgR a b) = mrgM f (a.map (fun q => q.1)) (b.map (fun q => q.1))
  | [], [] => by rw [tgR, List.map_nil, mrgM]; rfl
  | y :: s, [] => by
    have ih := stys_tg f s []
    rw [List.map_nil, mrgM] at ih
    rw [tgR, List.map_nil, mrgM, List.map_cons, ← ih, stys, List.flatMap_cons]
    rfl
  | [], z :: t => by
    have ih := stys_tg f [] t
    rw [List.map_nil] at ih
    rw [tgR, List.map_nil, List.map_cons, mrgM, ← ih, stys, List.flatMap_cons]
    by_cases h : kindOf z.1.2 = 0
    · rw [if_pos h, show sty f (pB z) = [] from by rw [sty, pB]; simp [h]]
      rfl
    · rw [if_neg h, show sty f (pB z) = [(z.1.1, f nullV z.1.2)] from by rw [sty, pB]; simp [h]]
      rfl
  | y :: s, z :: t => by
    have i1 := stys_tg f s (z :: t)
    have i2 := stys_tg f (y :: s) t
    have i3 := stys_tg f s t
    rw [List.map_cons] at i1
    rw [List.map_cons] at i2
    rw [tgR, List.map_cons, List.map_cons]
    obtain ⟨⟨ka, xa⟩, ca⟩ := y
    obtain ⟨⟨kb, xb⟩, cb⟩ := z
    simp only at i1 i2 i3 ⊢
    rw [mrgM]
    by_cases h1 : ltB ka kb = true
    · rw [if_pos h1, if_pos h1, ← i1, stys, List.flatMap_cons]; rfl
    · rw [if_neg h1, if_neg h1]
      by_cases h2 : ltB kb ka = true
      · rw [if_pos h2, if_pos h2, ← i2, stys, List.flatMap_cons]
        by_cases h : kindOf xb = 0
        · rw [if_pos h, show sty f (pB ((kb, xb), cb)) = [] from by rw [sty, pB]; simp [h]]
          rfl
        · rw [if_neg h, show sty f (pB ((kb, xb), cb)) = [(kb, f nullV xb)] from by rw [sty, pB]; simp [h]]
          rfl
      · rw [if_neg h2, if_neg h2, ← i3, stys, List.flatMap_cons]
        by_cases h : kindOf xb = 0
        · rw [if_pos h, show sty f (pAB ((ka, xa), ca) ((kb, xb), cb)) = [] from by rw [sty, pAB]; simp [h]]
          rfl
        · rw [if_neg h, show sty f (pAB ((ka, xa), ca) ((kb, xb), cb)) = [(kb, f xa xb)] from by rw [sty, pAB]; simp [h]]
          rfl
termination_by a b => a.length + b.length
theorem tg_len : ∀ (a b : List (Mem × List Value)), (tgR a b).length ≤ a.length + b.length
  | [], [] => by rw [tgR]; simp
  | y :: s, [] => by have := tg_len s []; rw [tgR, List.length_cons, List.length_cons]; simp only [List.length_nil] at this ⊢; omega
  | [], z :: t => by have := tg_len [] t; rw [tgR, List.length_cons, List.length_cons]; simp only [List.length_nil] at this ⊢; omega
  | y :: s, z :: t => by
    have i1 := tg_len s (z :: t)
    have i2 := tg_len (y :: s) t
    have i3 := tg_len s t
    simp only [List.length_cons] at i1 i2
    rw [tgR]
    split
    · simp only [List.length_cons]; omega
    · split <;> (simp only [List.length_cons]; omega)
termination_by a b => a.length + b.length
/-- what holds of each pair -/
theorem tg_all {G : Pr → Prop} : ∀ (a b : List (Mem × List Value)), (∀ y ∈ a, G (pA y)) → (∀ z ∈ b, G (pB z)) → (∀ y ∈ a, ∀ z ∈ b, G (pAB y z)) → ∀ x ∈ tgR a b, G x
  | [], [], _, _, _ => by rw [tgR]; intro x hx; cases hx
  | y :: s, [], h1, h2, h3 => by
    rw [tgR]
    intro x hx
    rcases List.mem_cons.1 hx with rfl | hx
    · exact h1 _ List.mem_cons_self
    · exact tg_all s [] (fun y hy => h1 y (List.mem_cons_of_mem _ hy)) h2 (fun y hy => h3 y (List.mem_cons_of_mem _ hy)) x hx
  | [], z :: t, h1, h2, h3 => by
    rw [tgR]
    intro x hx
    rcases List.mem_cons.1 hx with rfl | hx
    · exact h2 _ List.mem_cons_self
    · exact tg_all [] t h1 (fun y hy => h2 y (List.mem_cons_of_mem _ hy)) (fun y hy => by cases hy) x hx
  | y :: s, z :: t, h1, h2, h3 => by
    have q1 : ∀ y ∈ s, G (pA y) := fun y hy => h1 y (List.mem_cons_of_mem _ hy)
    have q2 : ∀ z ∈ t, G (pB z) := fun y hy => h2 y (List.mem_cons_of_mem _ hy)
    have i1 := tg_all s (z :: t) q1 h2 (fun y hy => h3 y (List.mem_cons_of_mem _ hy))
    have i2 := tg_all (y :: s) t h1 q2 (fun y hy z hz => h3 y hy z (List.mem_cons_of_mem _ hz))
    have i3 := tg_all s t q1 q2 (fun y hy z hz => h3 y (List.mem_cons_of_mem _ hy) z (List.mem_cons_of_mem _ hz))
    rw [tgR]
    intro x hx
    split at hx
    · rcases List.mem_cons.1 hx with rfl | hx
      · exact h1 _ List.mem_cons_self
      · exact i1 x hx
    · split at hx
      · rcases List.mem_cons.1 hx with rfl | hx
        · exact h2 _ List.mem_cons_self
        · exact i2 x hx
      · rcases List.mem_cons.1 hx with rfl | hx
        · exact h3 _ List.mem_cons_self _ List.mem_cons_self
        · exact i3 x hx
termination_by a b => a.length + b.length
/-- each pair with what holds of it -/
def withG {G : Pr → Prop} : ∀ (l : List Pr), (∀ x ∈ l, G x) → List {x : Pr // G x}
  | [], _ => []
  | x :: t, h => ⟨x, h x List.mem_cons_self⟩ :: withG t (fun y hy => h y (List.mem_cons_of_mem _ hy))
theorem withG_map {G : Pr → Prop} : ∀ (l : List Pr) (h : ∀ x ∈ l, G x), (withG l h).map (fun x => x.1) = l
  | [], _ => rfl
  | x :: t, h => by rw [withG, List.map_cons, withG_map]
set_option maxHeartbeats 4000000 in
set_option maxRecDepth 100000 in
theorem together_any (aa ab : Option Addr) (na nb : Nat) (ca cb : Nat) (w : World) :
    Calls Tryd.prog 49 #[.slice aa na ca, .slice ab nb cb] w fun e w' => e = .returned (.func (.func 64) #[] #[.pointer (some ⟨w.heap.size, 0, none⟩), .pointer (some ⟨w.heap.size + 1, 0, none⟩)]) ∧ w' = (w.alloc (.cells #[.slice aa na ca] 23)).alloc (.cells #[.slice ab nb cb] 23) := by
  go_enter Tryd.func49, Tryd.ntmps49
  go_wp2_with fail
  go_ret
  exact ⟨rfl, rfl⟩
end Go.Proofs.YtjfldbmopjojdaaDoor
