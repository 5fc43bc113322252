/- good: a good value. -/
import Derived.Test.YtljgofmmihmmfaaDoorGsC
import Derived.Test.YtljgofmmihmmfaaDoorGsD
import Derived.Test.YtljgofmmihmmfaaDoorGodE
set_option linter.unusedSimpArgs false
set_option linter.unusedVariables false
namespace Go.Proofs.YtljgofmmihmmfaaDoor
open Go.RowKit Go.Lib

theorem good_anyS : ∀ (n lv : Nat), lv + n = 4 → ∀ (v : V) (cs : List Value) (w : World), v.lies false w (Old w) cs → v.wt ≤ 1099511627776 → Calls Tryd.prog 14 #[.agg cs.toArray, .int .i64 (lv : Int)] w (GoodPostS (Gd n) w)
  | 0, lv, hn, v, cs, w, hv, hwt => by
    obtain ⟨k, b, i, s, l, m⟩ := v
    have hr : ∀ k' b' i' s' l' m', V.mk k b i s l m = V.mk k' b' i' s' l' m' → Int.tmod k' 6 = Int.tmod k 6 := fun _ _ _ _ _ _ e => by cases e; rfl
    have h6 := tmod6 k
    by_cases h3 : Int.tmod k 6 = 3 ∨ Int.tmod k 6 = -3
    · exact good_strS 0 _ lv cs w hv (by omega) hwt _ hr h3
    · exact good_flatS 0 _ lv cs w hv (by omega) hwt _ hr (by omega)
  | n + 1, lv, hn, v, cs, w, hv, hwt => by
    obtain ⟨k, b, i, s, l, m⟩ := v
    have hr : ∀ k' b' i' s' l' m', V.mk k b i s l m = V.mk k' b' i' s' l' m' → Int.tmod k' 6 = Int.tmod k 6 := fun _ _ _ _ _ _ e => by cases e; rfl
    have h6 := tmod6 k
    have ih : ∀ (x : V) (cs : List Value) (W : World), x.lies false W (Old W) cs → x.wt ≤ 1099511627776 → Calls Tryd.prog 14 #[.agg cs.toArray, .int .i64 ((lv : Int) + 1)] W (GoodPostS (Gd n) W) := fun x cs W h1 h2 => by
      have := good_anyS n (lv + 1) (by omega) x cs W h1 h2
      rwa [show ((lv + 1 : Nat) : Int) = (lv : Int) + 1 by omega] at this
    by_cases h3 : Int.tmod k 6 = 3 ∨ Int.tmod k 6 = -3
    · exact good_strS (n + 1) _ lv cs w hv (by omega) hwt _ hr h3
    by_cases h4 : Int.tmod k 6 = 4 ∨ Int.tmod k 6 = -4
    · exact good_listS _ lv n cs w hv (by omega) hwt _ hr h4 ih
    by_cases h5 : Int.tmod k 6 = 5 ∨ Int.tmod k 6 = -5
    · exact good_mapS _ lv n cs w hv (by omega) hwt _ hr h5 ih
    · exact good_flatS (n + 1) _ lv cs w hv (by omega) hwt _ hr (by omega)
end Go.Proofs.YtljgofmmihmmfaaDoor
