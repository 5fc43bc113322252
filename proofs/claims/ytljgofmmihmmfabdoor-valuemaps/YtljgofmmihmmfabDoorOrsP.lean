import Derived.Test.YtljgofmmihmmfabDoorTrnA
import Derived.Test.YtljgofmmihmmfabDoorJB
import Derived.Test.YtljgofmmihmmfabDoorJA
/- What is taken stays taken below; what Build answers of other orders; what is found at a key. -/
set_option linter.unusedSimpArgs false
set_option linter.unusedVariables false
namespace Go.Proofs.YtljgofmmihmmfabDoor
open Go.RowKit Go.Lib

theorem ent_zero {D n y d lv : Nat} {g : Bool} {z : Nat} (h : (entF D n y d lv g z).1 = 0) : entF D n y d lv g z = (0, n + 1, y + z, max d lv) ∧ n < 65536 ∧ lv ≤ D ∧ g = true ∧ y + z ≤ 1048576 := by
  unfold entF at *
  split at h
  · simp at h
  split at h
  · simp at h
  split at h
  · simp at h
  split at h
  · simp at h
  rename_i h1 h2 h3 h4
  rw [if_neg h1, if_neg h2, if_neg h3, if_neg h4]
  exact ⟨rfl, by omega, by omega, by simpa using h3, by omega⟩
theorem ent_mono {D n y d lv n' y' d' lv' : Nat} {g : Bool} {z : Nat} (h : (entF D n y d lv g z).1 = 0) (h1 : n' ≤ n) (h2 : y' ≤ y) (h3 : lv' ≤ lv) : entF D n' y' d' lv' g z = (0, n' + 1, y' + z, max d' lv') := by
  obtain ⟨_, k1, k2, k3, k4⟩ := ent_zero h
  unfold entF
  rw [if_neg (by omega), if_neg (by omega), if_neg (by simp [k3]), if_neg (by omega)]

mutual
theorem chkV_mono (D : Nat) : ∀ (v : V) (lv lv' : Nat) (st st' : St), (chkV D v lv st).1 = 0 → lv' ≤ lv → st'.1 ≤ st.1 → st'.2.1 ≤ st.2.1 → (chkV D v lv' st').1 = 0 ∧ (chkV D v lv' st').2.1 ≤ (chkV D v lv st).2.1 ∧ (chkV D v lv' st').2.2.1 ≤ (chkV D v lv st).2.2.1
  | .mk k b i s l m, lv, lv', st, st', h, h1, h2, h3 => by
    rw [chkV] at h ⊢
    simp only at h ⊢
    by_cases hr : (entF D st.1 st.2.1 st.2.2 lv (goodB k b i s l.length m) (s.size + keyB m)).1 = 0
    · rw [if_pos hr] at h
      have e1 := (ent_zero hr).1
      have e2 := ent_mono (d' := st'.2.2) hr h2 h3 h1
      rw [chkV]
      simp only
      rw [e1] at h
      rw [e1, e2]
      simp only [if_true] at h ⊢
      by_cases hq : (chkL D l (lv + 1) (st.1 + 1, st.2.1 + (s.size + keyB m), max st.2.2 lv)).1 = 0
      · rw [if_pos hq] at h
        have q := chkL_mono D l (lv + 1) (lv' + 1) (st.1 + 1, st.2.1 + (s.size + keyB m), max st.2.2 lv) (st'.1 + 1, st'.2.1 + (s.size + keyB m), max st'.2.2 lv') hq (by omega) (by simp only; omega) (by simp only; omega)
        rw [if_pos hq, if_pos q.1]
        exact chkM_mono D m (lv + 1) (lv' + 1) _ _ h (by omega) q.2.1 q.2.2
      · rw [if_neg hq] at h
        exact absurd h hq
    · rw [if_neg hr] at h
      exact absurd h hr
theorem chkL_mono (D : Nat) : ∀ (l : List V) (lv lv' : Nat) (st st' : St), (chkL D l lv st).1 = 0 → lv' ≤ lv → st'.1 ≤ st.1 → st'.2.1 ≤ st.2.1 → (chkL D l lv' st').1 = 0 ∧ (chkL D l lv' st').2.1 ≤ (chkL D l lv st).2.1 ∧ (chkL D l lv' st').2.2.1 ≤ (chkL D l lv st).2.2.1
  | [], lv, lv', st, st', h, h1, h2, h3 => by rw [chkL, chkL]; exact ⟨rfl, h2, h3⟩
  | x :: t, lv, lv', st, st', h, h1, h2, h3 => by
    rw [chkL] at h
    rw [chkL, chkL]
    by_cases hx : (chkV D x lv st).1 = 0
    · rw [if_pos hx] at h
      have q := chkV_mono D x lv lv' st st' hx h1 h2 h3
      rw [if_pos hx, if_pos q.1]
      exact chkL_mono D t lv lv' _ _ h h1 q.2.1 q.2.2
    · rw [if_neg hx] at h
      exact absurd h hx
theorem chkM_mono (D : Nat) : ∀ (l : List Mem) (lv lv' : Nat) (st st' : St), (chkM D l lv st).1 = 0 → lv' ≤ lv → st'.1 ≤ st.1 → st'.2.1 ≤ st.2.1 → (chkM D l lv' st').1 = 0 ∧ (chkM D l lv' st').2.1 ≤ (chkM D l lv st).2.1 ∧ (chkM D l lv' st').2.2.1 ≤ (chkM D l lv st).2.2.1
  | [], lv, lv', st, st', h, h1, h2, h3 => by rw [chkM, chkM]; exact ⟨rfl, h2, h3⟩
  | (k, x) :: t, lv, lv', st, st', h, h1, h2, h3 => by
    rw [chkM] at h
    rw [chkM, chkM]
    by_cases hx : (chkV D x lv st).1 = 0
    · rw [if_pos hx] at h
      have q := chkV_mono D x lv lv' st st' hx h1 h2 h3
      rw [if_pos hx, if_pos q.1]
      exact chkM_mono D t lv lv' _ _ h h1 q.2.1 q.2.2
    · rw [if_neg hx] at h
      exact absurd h hx
end
theorem chkM_mem {D : Nat} : ∀ {l : List Mem} {lv : Nat} {st : St}, (chkM D l lv st).1 = 0 → ∀ x ∈ l, ∃ st', (chkV D x.2 lv st').1 = 0
  | [], lv, st, h, x, hx => by cases hx
  | (k, y) :: t, lv, st, h, x, hx => by
    rw [chkM] at h
    by_cases hy : (chkV D y lv st).1 = 0
    · rw [if_pos hy] at h
      rcases List.mem_cons.1 hx with rfl | hx
      · exact ⟨st, hy⟩
      · exact chkM_mem h x hx
    · rw [if_neg hy] at h
      exact absurd h hy
theorem ok_mem {k : Int} {b : Bool} {i : Int} {s : ByteArray} {l : List V} {m : List Mem} (h : okV (.mk k b i s l m) = true) : ∀ x ∈ m, okV x.2 = true := by
  intro x hx
  have h1 := okV_true h
  rw [chkV] at h1
  simp only at h1
  split at h1
  · split at h1
    · obtain ⟨st', h2⟩ := chkM_mem h1 x hx
      exact decide_eq_true (chkV_mono 40 x.2 _ 0 st' (0, 0, 0) h2 (Nat.zero_le _) (Nat.zero_le _) (Nat.zero_le _)).1
    · rename_i h2
      exact absurd h1 h2
  · rename_i h2
    exact absurd h1 h2
/-- a map that is taken is just its members -/
theorem map_is {k : Int} {b : Bool} {i : Int} {s : ByteArray} {l : List V} {m : List Mem} (h : mapB (.mk k b i s l m) = true) : V.mk k b i s l m = V.mk 5 false 0 ⟨#[]⟩ [] m ∧ okV (.mk k b i s l m) = true := by
  simp only [mapB, kindOf, Bool.and_eq_true, decide_eq_true_iff] at h
  obtain ⟨hk5, ho⟩ := h
  obtain rfl : k = 5 := of_decide_eq_true hk5
  have h1 := chkV_allG 40 _ 0 _ (okV_true ho)
  rw [allG] at h1
  obtain ⟨_, _, hb, hi, hs, hn, _⟩ := goodB_plain h1.1
  have hb' : b = false := hb.resolve_left (by decide)
  have hi' : i = 0 := hi.resolve_left (by decide)
  have hs' := hs.resolve_left (by decide)
  have hl' : l = [] := List.length_eq_zero_iff.1 (hn.resolve_left (by decide))
  have hse : s = ⟨#[]⟩ := by
    rw [toList_data, List.isEmpty_iff] at hs'
    obtain ⟨a⟩ := s
    have : a = #[] := by simpa using hs'
    rw [this]
  subst hb' hi' hl' hse
  exact ⟨rfl, ho⟩

open Classical in
noncomputable def bvV (l : List Mem) : V × Nat := if Fine l then (mapV (srtM l), mapE (srtM l)) else (nullV, 20)
theorem bv_val {l : List Mem} {w w' : World} {e : Ending} (h : BvPost l w e w') : VePost (bvV l).1 (bvV l).2 w e w' := by
  rcases h with ⟨h1, h2⟩ | ⟨h1, h2⟩
  · rw [bvV, if_neg h1]; exact h2
  · rw [bvV, if_pos h1]; exact h2
theorem key_is {key : ByteArray} {x : Mem} : keyIs key (some x) = (x.1.toList == key.toList) := rfl
theorem at_hit {m : List Mem} {key : ByteArray} (h : Srt m) {j : Nat} (hj : j < m.length) (he : (m[j]).1.toList = key.toList) : atKey m key = ((m[j]).2, true) := by
  have h1 := pos_less (key := key) h hj
  have h0 : ltB (m[j]).1 key = false := by
    rw [Bool.eq_false_iff]
    intro h2
    have h3 := (ltB_cmp _ _).1 h2
    have h4 := (cmpS_zero (m[j]).1 key).2 he
    omega
  rw [h0] at h1
  have h5 : ¬ j < posF m key := by simpa using h1.symm
  have h6 : ∀ t, t < j → t < posF m key := fun t ht => by
    have h7 := pos_less (key := key) h (show t < m.length by omega)
    have h8 : ltB (m[t]).1 (m[j]).1 = true := (List.pairwise_iff_getElem.1 h) t j (by omega) hj ht
    have h9 : ltB (m[t]).1 key = true := by
      rw [ltB_cmp, cmpS, ← toList_data key, ← he, toList_data]
      exact (ltB_cmp _ _).1 h8
    rw [h9] at h7
    simpa using h7.symm
  have hp : posF m key = j := by
    rcases Nat.lt_trichotomy (posF m key) j with h7 | h7 | h7
    · have := h6 _ h7; omega
    · exact h7
    · exact absurd h7 h5
  rw [atKey, hp, List.getElem?_eq_getElem hj, key_is, he, if_pos (by simp), List.getD_eq_getElem?_getD, List.getElem?_eq_getElem hj]
  rfl
end Go.Proofs.YtljgofmmihmmfabDoor
