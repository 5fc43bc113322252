import Derived.Test.YtljgofmmihmmfabDoorTwinB
import Derived.Test.YtljgofmmihmmfabDoorJC
import Derived.Test.YtljgofmmihmmfabDoorChkB
import Derived.Test.YtljgofmmihmmfabDoorBldQ
/- the law's turned: the members in another order; mapOf. -/
set_option linter.unusedSimpArgs false
set_option linter.unusedVariables false
namespace Go.Proofs.YtljgofmmihmmfabDoor
open Go.RowKit Go.Lib

def mapB (v : V) : Bool := decide (kindOf v = 5) && okV v
set_option maxHeartbeats 1000000 in
set_option maxRecDepth 100000 in
theorem lmapOf_any (R : Bool) (v : V) (S : Nat → Prop) (cs : List Value) (w : World) (t : Tb w) (hl : v.lies R w S cs) (hS : ∀ b, S b → b < w.heap.size) (hwt : v.wt ≤ 1099511627776) :
    Calls Tryd.prog 9 #[.agg cs.toArray] w (BPost (mapB v) w) := by
  obtain ⟨k, b, i, s, l, m⟩ := v
  have hl0 := hl
  rw [V.lies] at hl
  obtain ⟨al, cl, bl, ol, am, cm, bm, om, rfl, _⟩ := hl
  have ga : Below w.heap.size w (w.alloc (.cells #[.int .i64 k, .bool b, .int .i64 i, .string s, .slice al l.length cl, .slice am m.length cm] 25)) := (Below.refl _ _).alloc (Nat.le_refl _) _
  have c := ltaken_any R (V.mk k b i s l m) S _ _ (t.below ga t.z) (V.lies_keep (fun h => h) (fun x hx => ga.block x (hS x hx)) (fun _ h => h) _ hl0) (fun x hx => Nat.lt_of_lt_of_le (hS x hx) ga.size) hwt
  clear hl0
  by_cases hk : k = 5
  · subst hk
    have HF : Hid (mapB (V.mk 5 b i s l m) = okV (V.mk 5 b i s l m)) := by show _ = _; simp [mapB, kindOf]
    generalize okV (V.mk 5 b i s l m) = r at *
    go_enter Tryd.func9, Tryd.ntmps9
    go_wp2_with fail
    refine c.mono ?_
    rintro e w1 ⟨rfl, b1⟩
    go_wp2_with fail
    go_ret
    rw [HF.out]
    exact ⟨rfl, ga.trans (b1.mono ga.size)⟩
  · have HF : Hid (mapB (V.mk k b i s l m) = false) := by show _ = _; simp [mapB, kindOf, hk]
    go_enter Tryd.func9, Tryd.ntmps9
    go_wp2_with fail
    go_ret
    rw [HF.out]
    exact ⟨rfl, ga⟩
end Go.Proofs.YtljgofmmihmmfabDoor
