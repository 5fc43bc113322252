/- joined: AnqR RspR -/
import Derived.Test.YtfbmmilphcnolaaDoorAneR
/- An element that may be is itself, taken without its scalars' lists. -/
set_option linter.unusedSimpArgs false
set_option linter.unusedVariables false
namespace Go.Proofs.YtfbmmilphcnolaaDoor
open Go.RowKit Go.Lib
theorem scV_sizS {v : V} (hv : sizS v = true) : scV v = v := by
  simp only [sizS, Bool.and_eq_true, decide_eq_true_eq] at hv
  have gv := chkV_allG 40 v 0 _ (okV_true hv.1)
  obtain ⟨k, b, i, s, l, m⟩ := v
  rw [allG] at gv
  have p := goodB_plain gv.1
  have hk := hv.2
  simp only [kindOf] at hk
  have l0 : l = [] := List.length_eq_zero_iff.1 (p.2.2.2.2.2.1.resolve_left (by omega))
  have m0 : m = [] := List.length_eq_zero_iff.1 (p.2.2.2.2.2.2.resolve_left (by omega))
  rw [scV, l0, m0]
theorem scV_nil {v : V} (h : nilV v = true) : scV v = v := by rw [nilV_eq h]; rfl
theorem anE_same {x : El} (hx : elB x = true) : anE x = x := by
  obtain ⟨k, n, m, v⟩ := x
  by_cases h1 : k = 1
  · rw [elB1 h1] at hx
    simp only [Bool.and_eq_true, decide_eq_true_eq] at hx
    simp only [anE]
    rw [List.length_eq_zero_iff.1 hx.1, scV_nil hx.2.1]; rfl
  by_cases h2 : k = 2
  · rw [elB2 h2] at hx
    simp only [Bool.and_eq_true, decide_eq_true_eq] at hx
    simp only [anE]
    have em : m.map (fun q => (q.1, scV q.2)) = m := by
      have h : ∀ q ∈ m, (fun q : Mem => (q.1, scV q.2)) q = id q := fun q hq => Prod.ext rfl (scV_sizS (keysB_all hx.2.2 q hq))
      rw [List.map_congr_left h, List.map_id]
    rw [em, scV_nil hx.2.1]
  by_cases h3 : k = 3
  · rw [elB3 h3] at hx
    simp only [Bool.and_eq_true, decide_eq_true_eq] at hx
    simp only [anE]
    rw [List.length_eq_zero_iff.1 hx.2.1, scV_sizS hx.2.2]; rfl
  · rw [elB0 h1 h2 h3] at hx; cases hx
theorem anP_same {p : List El} (hp : pathB p = true) : p.map anE = p := by
  have h : ∀ x ∈ p, anE x = id x := fun x hx => anE_same ((pathB_all hp).2 x hx)
  rw [List.map_congr_left h, List.map_id]
end Go.Proofs.YtfbmmilphcnolaaDoor
/- Lists of paths that rise: they are told by what is in them. -/
namespace Go.Proofs.YtfbmmilphcnolaaDoor
open Go.RowKit Go.Lib Go.Sort
/-- R rises, and has just the paths of l -/
def Rs (l R : List (List El)) : Prop := R.Pairwise (fun a b => lexL oeE a b < 0) ∧ ∀ p, p ∈ R ↔ p ∈ l
theorem rise_uniq {α : Type} {f : α → α → Int} (hf : Wko f) : ∀ (R R' : List α), R.Pairwise (fun a b => f a b < 0) → R'.Pairwise (fun a b => f a b < 0) → (∀ p, p ∈ R ↔ p ∈ R') → R = R'
  | [], [], _, _, _ => rfl
  | [], y :: t, _, _, h => by have := (h y).2 List.mem_cons_self; cases this
  | x :: t, [], _, _, h => by have := (h x).1 List.mem_cons_self; cases this
  | x :: t, y :: t', h1, h2, h => by
    rw [List.pairwise_cons] at h1 h2
    have hxy : x = y := by
      rcases List.mem_cons.1 ((h x).1 List.mem_cons_self) with e | hx
      · exact e
      · rcases List.mem_cons.1 ((h y).2 List.mem_cons_self) with e | hy
        · exact e.symm
        · have a := h2.1 x hx
          have b := h1.1 y hy
          have := hf.anti x y
          omega
    subst hxy
    rw [rise_uniq hf t t' h1.2 h2.2 fun p => ⟨fun hp => ?_, fun hp => ?_⟩]
    · rcases List.mem_cons.1 ((h p).1 (List.mem_cons_of_mem _ hp)) with e | e
      · subst e; have a := h1.1 _ hp; have := hf.self p; omega
      · exact e
    · rcases List.mem_cons.1 ((h p).2 (List.mem_cons_of_mem _ hp)) with e | e
      · subst e; have a := h2.1 _ hp; have := hf.self p; omega
      · exact e
theorem Rs.uniq {l R R' : List (List El)} (h : Rs l R) (h' : Rs l R') : R = R' := rise_uniq wk_P R R' h.1 h'.1 (fun p => (h.2 p).trans (h'.2 p).symm)
end Go.Proofs.YtfbmmilphcnolaaDoor
