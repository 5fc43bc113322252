/- an index as a token says it. -/
import Derived.Lib.AtoiAll
import Derived.Lib.ItoaNum
set_option linter.unusedSimpArgs false
set_option linter.unusedVariables false
namespace Go.Proofs.YtejcfkkkbnnmcaaGreatDoor
open Go.Lib

theorem pu_snoc : ∀ (a : List UInt8) (acc u : Nat) (c : UInt8), parseUint10 acc a = .ok u → 48 ≤ c.toNat → c.toNat ≤ 57 → u < 1844674407370955162 → u * 10 + (c.toNat - 48) < 18446744073709551616 → parseUint10 acc (a ++ [c]) = .ok (u * 10 + (c.toNat - 48))
  | [], acc, u, c, h, h1, h2, h3, h4 => by
    simp only [parseUint10] at h
    injection h with h
    subst h
    simp only [List.nil_append, parseUint10]
    rw [if_pos ⟨h1, h2⟩, if_neg (by omega), if_neg (by omega)]
  | x :: t, acc, u, c, h, h1, h2, h3, h4 => by
    simp only [parseUint10, List.cons_append] at h ⊢
    split at h
    · rename_i hx
      rw [if_pos hx]
      split at h
      · cases h
      · rename_i hy
        rw [if_neg hy]
        split at h
        · cases h
        · rename_i hz
          rw [if_neg hz]
          exact pu_snoc t _ u c h h1 h2 h3 h4
    · cases h
theorem pu_dec (u : Nat) : u < 9223372036854775808 → parseUint10 0 (decDigits u) = .ok u := by
  induction u using Nat.strongRecOn with
  | ind u ih =>
  intro hu
  by_cases h : u < 10
  · rw [decDigits, dif_pos h]
    have e : (UInt8.ofNat (48 + u)).toNat = 48 + u := by rw [UInt8.toNat_ofNat']; omega
    simp only [parseUint10, e]
    rw [if_pos (by omega), if_neg (by omega), if_neg (by omega)]
    congr 1
    omega
  · rw [decDigits, dif_neg h]
    have e : (UInt8.ofNat (48 + u % 10)).toNat = 48 + u % 10 := by rw [UInt8.toNat_ofNat']; omega
    have := pu_snoc _ 0 (u / 10) (UInt8.ofNat (48 + u % 10)) (ih (u / 10) (by omega) (by omega)) (by omega) (by omega) (by omega) (by omega)
    rw [this, e]
    congr 1
    omega
theorem dec_digit (u : Nat) : ∀ b ∈ decDigits u, 48 ≤ b.toNat ∧ b.toNat ≤ 57 := by
  induction u using Nat.strongRecOn with
  | ind u ih =>
  intro b hb
  rw [decDigits] at hb
  split at hb
  · rw [List.mem_singleton] at hb
    rw [hb, UInt8.toNat_ofNat']
    omega
  · rcases List.mem_append.1 hb with hb | hb
    · exact ih (u / 10) (by omega) b hb
    · rw [List.mem_singleton] at hb
      rw [hb, UInt8.toNat_ofNat']
      omega
theorem dec_ne (u : Nat) : decDigits u ≠ [] := by
  rw [decDigits]
  split <;> simp
theorem atoi_dec (u : Nat) (hu : u < 9223372036854775808) : atoiAll (decDigits u) = .ok (u : Int) := by
  have h1 := pu_dec u hu
  have h2 := dec_digit u
  have h3 := dec_ne u
  generalize decDigits u = l at *
  cases l with
  | nil => exact absurd rfl h3
  | cons c r =>
    have hc := h2 c (List.mem_cons_self ..)
    unfold atoiAll
    simp only
    rw [if_neg (by omega), parseMag, if_neg (by simp), h1]
    simp only
    rw [if_neg (by omega), if_neg (by omega), if_neg (by omega)]
theorem dec_inj {a b : Nat} (ha : a < 9223372036854775808) (hb : b < 9223372036854775808) (h : decDigits a = decDigits b) : a = b := by
  have h1 := atoi_dec a ha
  have h2 := atoi_dec b hb
  rw [h, h2] at h1
  injection h1 with h1
  omega
/-- which one of n a token says -/
def idxF (tok : List UInt8) (n : Nat) : Option Nat := (List.range n).find? (fun i => decDigits i == tok)
theorem idxF_some {tok : List UInt8} {n i : Nat} (hn : n < 9223372036854775808) (hi : i < n) (h : decDigits i = tok) : idxF tok n = some i := by
  cases hf : idxF tok n with
  | none =>
    rw [idxF, List.find?_eq_none] at hf
    exact absurd (by simp [h]) (hf i (List.mem_range.2 hi))
  | some j =>
    rw [idxF] at hf
    have h1 := List.find?_some hf
    have h2 := List.mem_of_find?_eq_some hf
    rw [List.mem_range] at h2
    have h3 : decDigits j = tok := by simpa using h1
    rw [dec_inj (by omega) (by omega) (h3.trans h.symm)]
theorem idxF_none {tok : List UInt8} {n : Nat} (h : ∀ i, i < n → decDigits i ≠ tok) : idxF tok n = none := by
  rw [idxF, List.find?_eq_none]
  intro i hi
  rw [List.mem_range] at hi
  simpa using h i hi
/-- as the program asks it -/
theorem idxF_prog (tok : List UInt8) (n : Nat) (hn : n < 9223372036854775808) : idxF tok n = (match atoiAll tok with
    | .ok v => if 0 ≤ v ∧ v < n ∧ itoa v = tok then some v.toNat else none
    | _ => none) := by
  cases ha : atoiAll tok with
  | ok v =>
    simp only
    split
    · rename_i h
      obtain ⟨u, rfl⟩ : ∃ u : Nat, v = u := ⟨v.toNat, by omega⟩
      have h3 := h.2.2
      rw [itoa, if_neg (by omega)] at h3
      simp only [Int.toNat_natCast] at h3 ⊢
      exact idxF_some hn (by omega) h3
    · rename_i h
      refine idxF_none fun i hi e => h ?_
      have h1 := atoi_dec i (by omega)
      rw [e, ha] at h1
      injection h1 with h1
      subst h1
      refine ⟨by omega, by omega, ?_⟩
      rw [itoa, if_neg (by omega)]
      simpa using e
  | «syntax» =>
    refine idxF_none fun i hi e => ?_
    have h1 := atoi_dec i (by omega)
    rw [e, ha] at h1
    cases h1
  | range =>
    refine idxF_none fun i hi e => ?_
    have h1 := atoi_dec i (by omega)
    rw [e, ha] at h1
    cases h1
end Go.Proofs.YtejcfkkkbnnmcaaGreatDoor
