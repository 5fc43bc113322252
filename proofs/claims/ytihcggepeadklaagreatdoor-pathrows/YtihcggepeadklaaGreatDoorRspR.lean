import Derived.Test.YtihcggepeadklaaGreatDoorG30
/- Lists of paths that rise: they are told by what is in them. -/
set_option linter.unusedSimpArgs false
set_option linter.unusedVariables false
namespace Go.Proofs.YtihcggepeadklaaGreatDoor
open Go.RowKit Go.Lib Go.Sort
/-- R rises, and has just the paths of l -/
def Rs (l R : List (List El)) : Prop := R.Pairwise (fun a b => lexL oeE a b < 0) ∧ ∀ p, p ∈ R ↔ p ∈ l
theorem rise_uniq {α : Type} {f : α → α → Int} (hf : Wko f) : ∀ (R R' : List α), R.Pairwise (fun a b => f a b < 0) → R'.Pairwise (fun a b => f a b < 0) → (∀ p, p ∈ R ↔ p ∈ R') → R = R'
  | [], [], _, _, _ => rfl
  | [], y :: t, _, _, h => by have := (h y).2 List.mem_cons_self; cases this
  | x :: t, [], _, _, h => by have := (h x).1 List.mem_cons_self; cases this
  | x :: t, y :: t', h1, h2, h => by
    rw [List.pairwise_cons] at h1 h2
    have hxy : x = y := by
      rcases List.mem_cons.1 ((h x).1 List.mem_cons_self) with e | hx
      · exact e
      · rcases List.mem_cons.1 ((h y).2 List.mem_cons_self) with e | hy
        · exact e.symm
        · have a := h2.1 x hx
          have b := h1.1 y hy
          have := hf.anti x y
          omega
    subst hxy
    rw [rise_uniq hf t t' h1.2 h2.2 fun p => ⟨fun hp => ?_, fun hp => ?_⟩]
    · rcases List.mem_cons.1 ((h p).1 (List.mem_cons_of_mem _ hp)) with e | e
      · subst e; have a := h1.1 _ hp; have := hf.self p; omega
      · exact e
    · rcases List.mem_cons.1 ((h p).2 (List.mem_cons_of_mem _ hp)) with e | e
      · subst e; have a := h2.1 _ hp; have := hf.self p; omega
      · exact e
theorem Rs.uniq {l R R' : List (List El)} (h : Rs l R) (h' : Rs l R') : R = R' := rise_uniq wk_P R R' h.1 h'.1 (fun p => (h.2 p).trans (h'.2 p).symm)
/-- what is kept of a sorted row rises -/
theorem kpt_rise {w : World} {S : Nat → Prop} {d : Array (PC w S)} (hs : d.toList.Pairwise (fun a b => ¬ lexL oeE b.p a.p < 0)) (hp : ∀ x ∈ d.toList, pathB x.p = true) : ∀ K, K ≤ d.size →
    (kpt reqB d K).Pairwise (fun a b => lexL oeE a.p b.p < 0) ∧ (∀ x ∈ kpt reqB d K, x ∈ d.toList) ∧ (∀ j, (hj : j < d.size) → j < K → ∃ x ∈ kpt reqB d K, x.p = d[j].p) ∧ (∀ x ∈ kpt reqB d K, 0 < K → lexL oeE x.p (d[K - 1]!).p ≤ 0)
  | 0, _ => ⟨by simp [kpt], by simp [kpt], fun j _ h => by omega, by simp [kpt]⟩
  | K + 1, hK => by
    obtain ⟨h1, h2, h3, h4⟩ := kpt_rise hs hp K (by omega)
    have eK : d[K]! = d[K] := getElem!_pos d K (by omega)
    have hmK : d[K] ∈ d.toList := by simp
    have hgo : 0 < K → ∃ y : PC w S, d[K - 1]! = y ∧ y ∈ d.toList ∧ ¬ lexL oeE d[K].p y.p < 0 ∧ reqB d[K] y = decide (lexL oeE d[K].p y.p = 0) := fun h0 => by
      have e1 : d[K - 1]! = d[K - 1] := getElem!_pos d (K - 1) (by omega)
      have := List.pairwise_iff_getElem.1 hs (K - 1) K (by simp; omega) (by simp; omega) (by omega)
      exact ⟨d[K - 1], e1, by simp, by simpa using this, rfl⟩
    cases hk : kp reqB d K with
    | true =>
      rw [kpt_yes reqB d hk, eK]
      have hlt : ∀ x ∈ kpt reqB d K, lexL oeE x.p d[K].p < 0 := fun x hx => by
        by_cases h0 : 0 < K
        · obtain ⟨y, ey, hy, hn, hq⟩ := hgo h0
          rw [kp, eK, ey, hq] at hk
          simp only [show ¬ K = 0 by omega, decide_false, Bool.false_or, Bool.not_eq_true', decide_eq_false_iff_not] at hk
          have a1 := h4 x hx h0
          rw [ey] at a1
          have a2 := wk_P.anti d[K].p y.p
          rcases Int.lt_trichotomy (lexL oeE x.p y.p) 0 with h | h | h
          · exact wk_P.tri _ y.p _ h (by omega)
          · rw [wk_P.cong _ _ _ h]; omega
          · omega
        · obtain rfl : K = 0 := by omega
          simp [kpt] at hx
      refine ⟨?_, ?_, ?_, ?_⟩
      · rw [List.pairwise_append]
        exact ⟨h1, by simp, fun a ha b hb => by rw [List.mem_singleton.1 hb]; exact hlt a ha⟩
      · intro x hx
        rcases List.mem_append.1 hx with hx | hx
        · exact h2 x hx
        · rw [List.mem_singleton.1 hx]; exact hmK
      · intro j hj hjK
        by_cases e : j = K
        · subst e; exact ⟨d[j], by simp, rfl⟩
        · obtain ⟨x, hx, ex⟩ := h3 j hj (by omega)
          exact ⟨x, List.mem_append_left _ hx, ex⟩
      · intro x hx _
        rw [Nat.add_sub_cancel, eK]
        rcases List.mem_append.1 hx with hx | hx
        · have := hlt x hx; omega
        · rw [List.mem_singleton.1 hx, wk_P.self]; omega
    | false =>
      rw [kpt_no reqB d hk]
      have h0 : 0 < K := by
        rcases Nat.eq_zero_or_pos K with rfl | h
        · cases hk
        · exact h
      obtain ⟨y, ey, hy, hn, hq⟩ := hgo h0
      rw [kp, eK, ey, hq] at hk
      simp only [show ¬ K = 0 by omega, decide_false, Bool.false_or, Bool.not_eq_false', decide_eq_true_iff] at hk
      have e : d[K].p = y.p := (path_same (hp _ hmK) (hp _ hy)).1 hk
      refine ⟨h1, h2, ?_, ?_⟩
      · intro j hj hjK
        by_cases ej : j = K
        · subst ej
          obtain ⟨x, hx, ex⟩ := h3 (j - 1) (by omega) (by omega)
          refine ⟨x, hx, ?_⟩
          rw [ex, e, ← ey, getElem!_pos d (j - 1) (by omega)]
        · exact h3 j hj (by omega)
      · intro x hx _
        rw [Nat.add_sub_cancel, eK, e, ← ey]
        exact h4 x hx h0
theorem kpt_rs {w : World} {S : Nat → Prop} {d : Array (PC w S)} {l : List (List El)} (hs : d.toList.Pairwise (fun a b => ¬ lexL oeE b.p a.p < 0)) (hp : ∀ p ∈ l, pathB p = true) (hm : ∀ p, p ∈ d.toList.map PC.p ↔ p ∈ l) : Rs l ((kpt reqB d d.size).map PC.p) := by
  obtain ⟨h1, h2, h3, _⟩ := kpt_rise hs (fun x hx => hp _ ((hm _).1 (List.mem_map_of_mem hx))) d.size (Nat.le_refl _)
  refine ⟨List.pairwise_map.2 h1, fun p => ⟨fun h => ?_, fun h => ?_⟩⟩
  · obtain ⟨x, hx, rfl⟩ := List.mem_map.1 h
    exact (hm _).1 (List.mem_map_of_mem (h2 x hx))
  · obtain ⟨x, hx, rfl⟩ := List.mem_map.1 ((hm p).2 h)
    obtain ⟨j, hj, rfl⟩ := List.getElem_of_mem hx
    obtain ⟨y, hy, ey⟩ := h3 j (by simpa using hj) (by simpa using hj)
    exact List.mem_map.2 ⟨y, hy, by rw [ey]; rfl⟩
end Go.Proofs.YtihcggepeadklaaGreatDoor
