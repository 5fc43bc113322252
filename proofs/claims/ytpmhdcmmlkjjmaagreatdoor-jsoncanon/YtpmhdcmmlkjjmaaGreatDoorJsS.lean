import Derived.Test.YtpmhdcmmlkjjmaaGreatDoorG27
import Derived.Shelf.SlSortCmp.KitK
/- the order of keys; members sorted. -/
set_option linter.unusedSimpArgs false
set_option linter.unusedVariables false
namespace Go.Proofs.YtpmhdcmmlkjjmaaGreatDoor
open Go.RowKit Go.Lib Go.Sort
theorem u8_tri (x y : UInt8) (h1 : ¬ x < y) (h2 : ¬ y < x) : x = y := by
  rcases Nat.lt_trichotomy x.toNat y.toNat with h | h | h
  · exact absurd h h1
  · exact UInt8.toNat_inj.1 h
  · exact absurd h h2
theorem cmp_anti : ∀ a b : List UInt8, compareBytes b a = - compareBytes a b
  | [], [] => by simp [compareBytes]
  | [], _ :: _ => by simp [compareBytes]
  | _ :: _, [] => by simp [compareBytes]
  | x :: t, y :: u => by
    have ih := cmp_anti t u
    rw [compareBytes, compareBytes]
    by_cases h1 : x < y
    · have h2 : ¬ y < x := fun h => Nat.lt_asymm h1 h
      rw [if_neg h2, if_pos h1, if_pos h1]; rfl
    · by_cases h2 : y < x
      · rw [if_pos h2, if_neg h1, if_pos h2]
      · rw [if_neg h2, if_neg h1, if_neg h1, if_neg h2, ih]
theorem cmp_trans : ∀ a b c : List UInt8, compareBytes a b = -1 → compareBytes b c = -1 → compareBytes a c = -1
  | [], [], c, h, _ => by simp [compareBytes] at h
  | [], _ :: _, [], _, h => by simp [compareBytes] at h
  | [], _ :: _, _ :: _, _, _ => by simp [compareBytes]
  | _ :: _, [], c, h, _ => by simp [compareBytes] at h
  | _ :: _, _ :: _, [], _, h => by simp [compareBytes] at h
  | x :: t, y :: u, z :: v, h, h' => by
    rw [compareBytes] at h h' ⊢
    by_cases h1 : x < y
    · by_cases h2 : y < z
      · rw [if_pos (show x < z from Nat.lt_trans h1 h2)]
      · rw [if_neg h2] at h'
        by_cases h3 : z < y
        · rw [if_pos h3] at h'; simp at h'
        · rw [← u8_tri y z h2 h3, if_pos h1]
    · rw [if_neg h1] at h
      by_cases h3 : y < x
      · rw [if_pos h3] at h; simp at h
      · rw [if_neg h3] at h
        have e := u8_tri x y h1 h3
        subst e
        by_cases h2 : x < z
        · rw [if_pos h2]
        · rw [if_neg h2] at h' ⊢
          by_cases h4 : z < x
          · rw [if_pos h4] at h'; simp at h'
          · rw [if_neg h4] at h' ⊢
            exact cmp_trans t u v h h'
theorem cmp_zero : ∀ a b : List UInt8, compareBytes a b = 0 → a = b
  | [], [], _ => rfl
  | [], _ :: _, h => by simp [compareBytes] at h
  | _ :: _, [], h => by simp [compareBytes] at h
  | x :: t, y :: u, h => by
    rw [compareBytes] at h
    by_cases h1 : x < y
    · rw [if_pos h1] at h; simp at h
    · rw [if_neg h1] at h
      by_cases h2 : y < x
      · rw [if_pos h2] at h; simp at h
      · rw [if_neg h2] at h
        rw [u8_tri x y h1 h2, cmp_zero t u h]
theorem kz {a b : ByteArray} (h : cmpS a b = 0) : a = b := by
  have := cmp_zero _ _ h
  cases a; cases b
  exact congrArg ByteArray.mk (Array.toList_inj.1 this)
theorem k_anti (a b : ByteArray) : cmpS b a = - cmpS a b := cmp_anti _ _
theorem k_self (a : ByteArray) : cmpS a a = 0 := by have := k_anti a a; omega
theorem k_one (a b : ByteArray) : cmpS a b = -1 ∨ cmpS a b = 0 ∨ cmpS a b = 1 := cmp_one _ _
theorem k_trans {a b c : ByteArray} (h : cmpS a b < 0) (h2 : cmpS b c < 0) : cmpS a c < 0 := by
  have h1 := k_one a b
  have h3 := k_one b c
  have : cmpS a c = -1 := cmp_trans _ _ _ (show cmpS a b = -1 by omega) (show cmpS b c = -1 by omega)
  omega
theorem k_ntrans {a b c : ByteArray} (h : ¬ cmpS a b < 0) (h2 : ¬ cmpS b c < 0) : ¬ cmpS a c < 0 := by
  intro h3
  have h1 := k_one a b
  by_cases e : cmpS a b = 0
  · rw [kz e] at h3; exact h2 h3
  · have := k_anti a b
    exact h2 (k_trans (a := b) (b := a) (by omega) h3)
def leM (a b : Mem) : Prop := ¬ cmpS b.1 a.1 < 0
theorem insM_mem {x z : Mem} : ∀ {l : List Mem}, z ∈ insM x l ↔ z = x ∨ z ∈ l
  | [] => by simp [insM]
  | y :: t => by
    rw [insM]
    split
    · simp
    · rw [List.mem_cons, insM_mem, List.mem_cons]
      constructor
      · rintro (h | h | h)
        · exact .inr (.inl h)
        · exact .inl h
        · exact .inr (.inr h)
      · rintro (h | h | h)
        · exact .inr (.inl h)
        · exact .inl h
        · exact .inr (.inr h)
theorem insM_perm (x : Mem) : ∀ l : List Mem, (insM x l).Perm (x :: l)
  | [] => by rw [insM]
  | y :: t => by
    rw [insM]
    split
    · exact List.Perm.refl _
    · exact ((insM_perm x t).cons y).trans (List.Perm.swap x y t)
theorem insM_sorted {x : Mem} : ∀ {l : List Mem}, l.Pairwise leM → (insM x l).Pairwise leM
  | [], _ => by simp [insM]
  | y :: t, h => by
    rw [insM]
    rw [List.pairwise_cons] at h
    split
    · rename_i hxy
      have ha := k_anti x.1 y.1
      refine List.pairwise_cons.2 ⟨fun z hz => ?_, List.pairwise_cons.2 h⟩
      rcases List.mem_cons.1 hz with rfl | hz
      · show ¬ cmpS _ _ < 0; omega
      · have := h.1 z hz
        intro q
        exact this (k_trans q hxy)
    · rename_i hxy
      refine List.pairwise_cons.2 ⟨fun z hz => ?_, insM_sorted h.2⟩
      rcases insM_mem.1 hz with rfl | hz
      · exact hxy
      · exact h.1 z hz
theorem sortM_perm : ∀ l : List Mem, (sortM l).Perm l
  | [] => by rw [sortM]
  | x :: t => by
    rw [sortM]
    exact (insM_perm x (sortM t)).trans ((sortM_perm t).cons x)
theorem sortM_sorted : ∀ l : List Mem, (sortM l).Pairwise leM
  | [] => by rw [sortM]; exact List.Pairwise.nil
  | x :: t => by
    rw [sortM]
    exact insM_sorted (sortM_sorted t)
/-- members of different keys have one order -/
theorem sort_one {l d : List Mem} (hn : (l.map fun x => x.1.data.toList).Nodup) (hp : d.Perm l) (hs : d.Pairwise leM) : d = sortM l := by
  refine List.Perm.eq_of_pairwise (le := leM) ?_ hs (sortM_sorted l) (hp.trans (sortM_perm l).symm)
  intro a b ha hb h1 h2
  have ha' : a ∈ l := hp.mem_iff.1 ha
  have hb' : b ∈ l := (sortM_perm l).mem_iff.1 hb
  have e : a.1 = b.1 := by
    refine kz ?_
    have h3 := k_anti a.1 b.1
    have h4 := k_one a.1 b.1
    have h1' : ¬ cmpS b.1 a.1 < 0 := h1
    have h2' : ¬ cmpS a.1 b.1 < 0 := h2
    omega
  obtain ⟨i, hi, rfl⟩ := List.getElem_of_mem ha'
  obtain ⟨j, hj, rfl⟩ := List.getElem_of_mem hb'
  have hij : i = j := by
    have hq := List.pairwise_iff_getElem.1 hn
    rcases Nat.lt_trichotomy i j with h | h | h
    · have hne := hq i j (by simpa using hi) (by simpa using hj) h
      simp only [List.getElem_map] at hne
      exact absurd (by rw [e]) hne
    · exact h
    · have hne := hq j i (by simpa using hj) (by simpa using hi) h
      simp only [List.getElem_map] at hne
      exact absurd (by rw [e]) hne
  subst hij
  rfl
end Go.Proofs.YtpmhdcmmlkjjmaaGreatDoor
