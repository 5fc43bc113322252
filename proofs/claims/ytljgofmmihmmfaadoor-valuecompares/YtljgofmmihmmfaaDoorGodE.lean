/- good: some good value. -/
import Derived.Test.YtljgofmmihmmfaaDoorGodD
set_option linter.unusedSimpArgs false
set_option linter.unusedVariables false
namespace Go.Proofs.YtljgofmmihmmfaaDoor
open Go.RowKit

def Gb : Nat → Nat
  | 0 => 21
  | n + 1 => 322 + 19 * Gb n
theorem GoodPost.mono {B C : Nat} (h : B ≤ C) {w : World} {e : Ending} {w' : World} (p : GoodPost B w e w') : GoodPost C w e w' := by
  obtain ⟨u, cs, h1, h2, h3, h4⟩ := p
  exact ⟨u, cs, h1, h2, Nat.le_trans h3 h, h4⟩
theorem tmod6 (k : Int) : Int.tmod k 6 = 0 ∨ Int.tmod k 6 = 1 ∨ Int.tmod k 6 = -1 ∨ Int.tmod k 6 = 2 ∨ Int.tmod k 6 = -2 ∨ Int.tmod k 6 = 3 ∨ Int.tmod k 6 = -3 ∨ Int.tmod k 6 = 4 ∨ Int.tmod k 6 = -4 ∨ Int.tmod k 6 = 5 ∨ Int.tmod k 6 = -5 := by
  have h1 := Int.tmod_lt_of_pos k (show (0 : Int) < 6 by omega)
  have h2 := Int.lt_tmod_of_pos k (show (0 : Int) < 6 by omega)
  omega
theorem Gb_ge : ∀ n, 21 ≤ Gb n
  | 0 => Nat.le_refl _
  | n + 1 => by rw [Gb]; omega
theorem good_any : ∀ (n lv : Nat), lv + n = 4 → ∀ (v : V) (cs : List Value) (w : World), v.lies false w (Old w) cs → v.wt ≤ 1099511627776 → Calls Tryd.prog 14 #[.agg cs.toArray, .int .i64 (lv : Int)] w (GoodPost (Gb n) w)
  | 0, lv, hn, v, cs, w, hv, hwt => by
    obtain ⟨k, b, i, s, l, m⟩ := v
    have hr : ∀ k' b' i' s' l' m', V.mk k b i s l m = V.mk k' b' i' s' l' m' → Int.tmod k' 6 = Int.tmod k 6 := fun _ _ _ _ _ _ e => by cases e; rfl
    have h6 := tmod6 k
    by_cases h3 : Int.tmod k 6 = 3 ∨ Int.tmod k 6 = -3
    · exact good_str _ lv cs w hv (by omega) hwt _ hr h3
    · exact good_flat _ lv cs w hv (by omega) hwt _ hr (by omega)
  | n + 1, lv, hn, v, cs, w, hv, hwt => by
    obtain ⟨k, b, i, s, l, m⟩ := v
    have hr : ∀ k' b' i' s' l' m', V.mk k b i s l m = V.mk k' b' i' s' l' m' → Int.tmod k' 6 = Int.tmod k 6 := fun _ _ _ _ _ _ e => by cases e; rfl
    have h6 := tmod6 k
    have hg := Gb_ge n
    have hG : Gb (n + 1) = 322 + 19 * Gb n := rfl
    have ih : ∀ (x : V) (cs : List Value) (W : World), x.lies false W (Old W) cs → x.wt ≤ 1099511627776 → Calls Tryd.prog 14 #[.agg cs.toArray, .int .i64 ((lv : Int) + 1)] W (GoodPost (Gb n) W) := fun x cs W h1 h2 => by
      have := good_any n (lv + 1) (by omega) x cs W h1 h2
      rwa [show ((lv + 1 : Nat) : Int) = (lv : Int) + 1 by omega] at this
    by_cases h3 : Int.tmod k 6 = 3 ∨ Int.tmod k 6 = -3
    · exact (good_str _ lv cs w hv (by omega) hwt _ hr h3).mono fun e w' h => h.mono (by omega)
    by_cases h4 : Int.tmod k 6 = 4 ∨ Int.tmod k 6 = -4
    · exact (good_list _ lv (Gb n) cs w hv (by omega) hwt _ hr h4 ih).mono fun e w' h => h.mono (by omega)
    by_cases h5 : Int.tmod k 6 = 5 ∨ Int.tmod k 6 = -5
    · exact (good_map _ lv (Gb n) cs w hv (by omega) hwt _ hr h5 ih).mono fun e w' h => h.mono (by omega)
    · exact (good_flat _ lv cs w hv (by omega) hwt _ hr (by omega)).mono fun e w' h => h.mono (by omega)
end Go.Proofs.YtljgofmmihmmfaaDoor
