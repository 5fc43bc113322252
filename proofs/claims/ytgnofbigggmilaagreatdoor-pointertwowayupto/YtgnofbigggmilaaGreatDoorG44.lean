/- joined: TwoP Abb -/
import Derived.Test.YtgnofbigggmilaaGreatDoorPtrC
/- PointerTwoWay, the plain side: tokens and pointers are one another's way back. -/
set_option linter.unusedSimpArgs false
set_option linter.unusedVariables false
namespace Go.Proofs.YtgnofbigggmilaaGreatDoor
open Go.RowKit Go.Lib
theorem une_esp : ∀ t : List UInt8, une (esp t) = some t
  | [] => une_nil
  | x :: t => by
    rw [esp]
    by_cases h : x = 126
    · rw [if_pos h]
      show une (126 :: 48 :: esp t) = _
      rw [une_tilde, if_pos rfl, une_esp t, h]
      rfl
    · rw [if_neg h]
      by_cases h2 : x = 47
      · rw [if_pos h2]
        show une (126 :: 49 :: esp t) = _
        rw [une_tilde, if_neg (by decide), if_pos rfl, une_esp t, h2]
        rfl
      · rw [if_neg h2]
        show une (x :: esp t) = _
        rw [une_plain _ h, une_esp t]
        rfl
theorem esp_no : ∀ t : List UInt8, 47 ∉ esp t
  | [] => by simp [esp]
  | x :: t => by
    rw [esp]
    intro h
    rcases List.mem_append.1 h with h | h
    · by_cases h1 : x = 126
      · rw [if_pos h1] at h; simp at h
      · rw [if_neg h1] at h
        by_cases h2 : x = 47
        · rw [if_pos h2] at h; simp at h
        · rw [if_neg h2] at h
          exact h2 (List.mem_singleton.1 h).symm
    · exact esp_no t h
theorem esp_une (n : Nat) : ∀ s u : List UInt8, s.length ≤ n → 47 ∉ s → une s = some u → esp u = s := by
  induction n with
  | zero =>
    intro s u hn _ h
    obtain rfl : s = [] := List.length_eq_zero_iff.1 (by omega)
    rw [une_nil] at h
    cases h
    rfl
  | succ n ih =>
    intro s u hn hs h
    cases s with
    | nil => rw [une_nil] at h; cases h; rfl
    | cons x t =>
      have hx : x ≠ 47 := fun e => hs (by simp [e])
      have ht : 47 ∉ t := fun e => hs (by simp [e])
      simp only [List.length_cons] at hn
      by_cases h1 : x = 126
      · subst h1
        cases t with
        | nil => rw [une_end] at h; cases h
        | cons y r =>
          have hr : 47 ∉ r := fun e => ht (by simp [e])
          simp only [List.length_cons] at hn
          rw [une_tilde] at h
          by_cases h2 : y = 48
          · rw [if_pos h2] at h
            obtain ⟨z, hz, rfl⟩ := Option.map_eq_some_iff.1 h
            rw [esp, if_pos rfl, ih r z (by omega) hr hz, h2]
            rfl
          · rw [if_neg h2] at h
            by_cases h3 : y = 49
            · rw [if_pos h3] at h
              obtain ⟨z, hz, rfl⟩ := Option.map_eq_some_iff.1 h
              rw [esp, if_neg (by decide), if_pos rfl, ih r z (by omega) hr hz, h3]
              rfl
            · rw [if_neg h3] at h
              cases h
      · rw [une_plain _ h1] at h
        obtain ⟨z, hz, rfl⟩ := Option.map_eq_some_iff.1 h
        rw [esp, if_neg h1, if_neg hx, ih t z (by omega) ht hz]
        rfl
theorem prT_cons (t : List UInt8) (l : List (List UInt8)) : prT (t :: l) = 47 :: (esp t ++ prT l) := by simp [prT]
theorem spl_prT : ∀ (l : List (List UInt8)) (t : List UInt8), spl 47 (esp t ++ prT l) = esp t :: l.map esp
  | [], t => by
    rw [show prT [] = [] from rfl, List.append_nil, spl_miss 47 _ (esp_no t)]
    rfl
  | u :: us, t => by
    rw [prT_cons, spl_hit 47 _ _ (esp_no t), spl_prT us u]
    rfl
theorem unes_esp : ∀ l : List (List UInt8), unes (l.map esp) = some l
  | [] => rfl
  | t :: l => by
    rw [List.map_cons, unes, une_esp t, unes_esp l]
    rfl
theorem par_pr (l : List (List UInt8)) (h : l.all validD = true) : parF (prT l) = some l := by
  cases l with
  | nil => rfl
  | cons t ts =>
    rw [prT_cons, parF]
    have hv : validD (47 :: (esp t ++ prT ts)) = true := by
      rw [validD_cons 47 _ (by decide), valid_spl 47 (by decide) _ _ (Nat.le_refl _), spl_prT]
      have := unes_valid _ _ (unes_esp (t :: ts))
      rw [List.map_cons] at this
      rw [this]
      exact h
    rw [if_pos ⟨rfl, hv⟩, spl_prT]
    exact unes_esp (t :: ts)
def jn (l : List (List UInt8)) : List UInt8 := l.flatMap fun t => 47 :: t
theorem jn_spl : ∀ q : List UInt8, jn (spl 47 q) = 47 :: q
  | [] => rfl
  | x :: t => by
    have ih := jn_spl t
    rw [spl]
    by_cases h : x = 47
    · rw [if_pos h]
      show 47 :: ([] ++ jn (spl 47 t)) = _
      rw [ih, h]
      rfl
    · rw [if_neg h]
      cases hs : spl 47 t with
      | nil => exact absurd hs (spl_ne 47 t)
      | cons a r =>
        rw [hs] at ih
        simp only [jn, List.flatMap_cons, List.cons_append, List.cons.injEq, true_and] at ih ⊢
        rw [ih]
theorem spl_no : ∀ q : List UInt8, ∀ s ∈ spl 47 q, 47 ∉ s
  | [], s, hs => by
    simp [spl] at hs
    simp [hs]
  | x :: t, s, hs => by
    rw [spl] at hs
    by_cases h : x = 47
    · rw [if_pos h] at hs
      rcases List.mem_cons.1 hs with rfl | h'
      · simp
      · exact spl_no t s h'
    · rw [if_neg h] at hs
      cases hp : spl 47 t with
      | nil => exact absurd hp (spl_ne 47 t)
      | cons a r =>
        rw [hp] at hs
        have ih := spl_no t
        rw [hp] at ih
        rcases List.mem_cons.1 hs with rfl | h'
        · intro hm
          rcases List.mem_cons.1 hm with e | hm
          · exact h e.symm
          · exact ih a (by simp) hm
        · exact ih s (by simp [h'])
theorem prT_unes : ∀ (a l : List (List UInt8)), (∀ s ∈ a, 47 ∉ s) → unes a = some l → prT l = jn a
  | [], l, _, h => by rw [unes] at h; cases h; rfl
  | x :: t, l, ha, h => by
    rw [unes] at h
    split at h
    · cases h
    · rename_i u hu
      obtain ⟨z, hz, rfl⟩ := Option.map_eq_some_iff.1 h
      rw [prT_cons, prT_unes t z (fun s hs => ha s (by simp [hs])) hz, esp_une x.length x u (Nat.le_refl _) (ha x (by simp)) hu]
      simp [jn]
theorem pr_par (p : List UInt8) (l : List (List UInt8)) (h : parF p = some l) : l.all validD = true ∧ prT l = p := by
  cases p with
  | nil => rw [parF] at h; cases h; exact ⟨rfl, rfl⟩
  | cons x q =>
    rw [parF] at h
    split at h
    · rename_i hc
      obtain ⟨rfl, hv⟩ := hc
      rw [validD_cons 47 q (by decide), valid_spl 47 (by decide) q.length q (Nat.le_refl _)] at hv
      refine ⟨?_, ?_⟩
      · rw [← unes_valid _ _ h]; exact hv
      · rw [prT_unes _ l (spl_no q) h, jn_spl]
    · cases h
theorem prT_nil (l : List (List UInt8)) : prT l = [] ↔ l = [] := by
  cases l with
  | nil => simp [prT]
  | cons t ts => simp [prT_cons]
theorem esp_ge : ∀ t : List UInt8, t.length ≤ (esp t).length
  | [] => Nat.le_refl _
  | x :: t => by
    have ih := esp_ge t
    rw [esp, List.length_append, List.length_cons]
    have : 1 ≤ (if x = 126 then [126, 48] else if x = 47 then [126, 49] else [x] : List UInt8).length := by
      split
      · simp
      · split <;> simp
    omega
theorem tot_prT : ∀ l : List ByteArray, totS l ≤ (prT (dat l)).length
  | [] => Nat.zero_le _
  | x :: t => by
    have ih := tot_prT t
    have e := esp_ge x.data.toList
    rw [toList_size] at e
    have h1 : prT (dat (x :: t)) = 47 :: (esp x.data.toList ++ prT (dat t)) := prT_cons _ _
    have h2 : totS (x :: t) = (x.size + 1) + totS t := by simp [totS]
    rw [h1, h2, List.length_cons, List.length_append]
    omega
end Go.Proofs.YtgnofbigggmilaaGreatDoor
/- Short forms for what is said often in walks by hand. -/
namespace Go.Proofs.YtgnofbigggmilaaGreatDoor
open Go.RowKit
theorem sixC {w : World} {g : Nat} {a0 a1 a2 a3 a4 a5 : Value} {t : TypeId} {f : Nat × Nat} (h : w.heap[g]? = some (.cells #[a0, a1, a2, a3, a4, a5] t f)) :
    w.cell? ⟨g, 0, none⟩ = some a0 ∧ w.cell? ⟨g, 1, none⟩ = some a1 ∧ w.cell? ⟨g, 2, none⟩ = some a2 ∧ w.cell? ⟨g, 3, none⟩ = some a3 ∧ w.cell? ⟨g, 4, none⟩ = some a4 ∧ w.cell? ⟨g, 5, none⟩ = some a5 :=
  ⟨by rw [cell_of_block h]; rfl, by rw [cell_of_block h]; rfl, by rw [cell_of_block h]; rfl, by rw [cell_of_block h]; rfl, by rw [cell_of_block h]; rfl, by rw [cell_of_block h]; rfl⟩
section
variable {P : Program} {ops : Array Oper} {Q : Exit → Act → World → Prop} {md : Region.Mode} {S : World → Prop} {oi : Oper} {fuel : Nat} {listed : Array Bool} {a : Act} {w : World}
end
end Go.Proofs.YtgnofbigggmilaaGreatDoor
