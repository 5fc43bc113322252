import Derived.Test.YtljgofmmihmmfabDoorWotA
import Derived.Test.YtljgofmmihmmfabDoorBldQ
import Derived.Test.YtljgofmmihmmfabDoorRgtA
/- What With and Without answer, as rows that are chosen. -/
set_option linter.unusedSimpArgs false
set_option linter.unusedVariables false
namespace Go.Proofs.YtljgofmmihmmfabDoor
open Go.RowKit Go.Lib

def withL (m : List Mem) (key : ByteArray) (x : V) : List Mem := m.take (posF m key) ++ (key, x) :: m.drop (if keyIs key m[posF m key]? = true then posF m key + 1 else posF m key)
def withE (v : V) (key : ByteArray) (x : V) : Nat := match v with
  | .mk k b i s l m => if k = 5 ∧ okV (.mk k b i s l m) = true ∧ okV x = true then mapE (withL m key x) else 20
def withV (v : V) (key : ByteArray) (x : V) : V := match v with
  | .mk k b i s l m => if k = 5 ∧ okV (.mk k b i s l m) = true ∧ okV x = true then mapV (withL m key x) else nullV

def moreKey (key : ByteArray) (y : Mem) : Bool := ltB key y.1
def othKey (key : ByteArray) (y : Mem) : Bool := !(y.1.toList == key.toList)
theorem key_hit {m : List Mem} {key : ByteArray} {p : Nat} (h : keyIs key m[p]? = true) : ∃ hp : p < m.length, (m[p]).1.toList = key.toList := by
  rcases Nat.lt_or_ge p m.length with h1 | h1
  · refine ⟨h1, ?_⟩
    rw [List.getElem?_eq_getElem h1, key_is] at h
    simpa using h
  · rw [List.getElem?_eq_none h1] at h
    simp [keyIs] at h
theorem ltB_congr {a b c d : ByteArray} (h : a.toList = c.toList) (h' : b.toList = d.toList) : ltB a b = ltB c d := by rw [ltB, ltB, h, h']
theorem ltB_asym {a b : ByteArray} (h : ltB a b = true) : ltB b a = false := by
  rw [Bool.eq_false_iff]; intro h'; have := ltB_trans h h'; rw [ltB_irr] at this; cases this
theorem more_pos {m : List Mem} {key : ByteArray} (h : Srt m) {j : Nat} (hj : j < m.length) :
    ltB key (m[j]).1 = decide ((if keyIs key m[posF m key]? = true then posF m key + 1 else posF m key) ≤ j) := by
  have hl := pos_less (key := key) h hj
  by_cases hk : keyIs key m[posF m key]? = true
  · rw [if_pos hk]
    obtain ⟨hp, he⟩ := key_hit hk
    generalize posF m key = p at *
    by_cases hjp : p + 1 ≤ j
    · rw [decide_eq_true hjp, ← ltB_congr he rfl]
      exact (List.pairwise_iff_getElem.1 h) p j hp hj (by omega)
    · rw [decide_eq_false hjp]
      by_cases h2 : j < p
      · rw [decide_eq_true h2] at hl
        exact ltB_asym hl
      · obtain rfl : j = p := by omega
        rw [← ltB_congr he rfl]
        exact ltB_irr _
  · rw [if_neg hk]
    by_cases hjp : posF m key ≤ j
    · rw [decide_eq_true hjp]
      rw [decide_eq_false (by omega)] at hl
      refine ltB_tri hl fun e => ?_
      rcases Nat.lt_or_ge (posF m key) j with h1 | h1
      · have h2 : ltB (m[posF m key]).1 (m[j]).1 = true := (List.pairwise_iff_getElem.1 h) _ j (by omega) hj h1
        rw [ltB_congr rfl e] at h2
        have h3 := pos_less (key := key) h (show posF m key < m.length by omega)
        rw [h2] at h3
        simp at h3
      · have h2 : posF m key = j := by omega
        apply hk
        rw [h2, List.getElem?_eq_getElem hj, key_is]
        simpa using e
    · rw [decide_eq_false hjp]
      rw [decide_eq_true (by omega)] at hl
      exact ltB_asym hl
theorem filter_split {m : List Mem} {f : Mem → Bool} {q : Nat} (h : ∀ (j : Nat) (hj : j < m.length), f m[j] = decide (q ≤ j)) : m.filter f = m.drop q := by
  conv => lhs; rw [← List.take_append_drop q m]
  rw [List.filter_append]
  have h1 : (m.take q).filter f = [] := by
    rw [List.filter_eq_nil_iff]
    intro y hy
    obtain ⟨j, hj, rfl⟩ := List.getElem_of_mem hy
    rw [List.length_take] at hj
    rw [List.getElem_take, h j (by omega)]
    simp
    omega
  have h2 : (m.drop q).filter f = m.drop q := by
    rw [List.filter_eq_self]
    intro y hy
    obtain ⟨j, hj, rfl⟩ := List.getElem_of_mem hy
    rw [List.length_drop] at hj
    rw [List.getElem_drop, h (q + j) (by omega)]
    simp
  rw [h1, h2]
  rfl
theorem with_filter {m : List Mem} {key : ByteArray} {x : V} (h : Srt m) : m.filter (lessKey key) ++ (key, x) :: m.filter (moreKey key) = withL m key x := by
  rw [withL, filter_split (f := moreKey key) (fun j hj => more_pos h hj), (srt_filter (key := key) h).1]
  have : (m.take (m.filter (lessKey key)).length) = m.take (posF m key) := rfl
  rw [this]
theorem wout_filter {m : List Mem} {key : ByteArray} (h : Srt m) : m.filter (othKey key) = woutM m key := by
  have hne := srt_ne h
  rw [woutM]
  by_cases hk : keyIs key m[posF m key]? = true
  · rw [if_pos hk]
    obtain ⟨hp, he⟩ := key_hit hk
    generalize posF m key = p at *
    have hot : ∀ (j : Nat) (hj : j < m.length), j ≠ p → othKey key m[j] = true := fun j hj hjp => by
      rw [othKey, ← he]
      simp only [Bool.not_eq_true', beq_eq_false_iff_ne]
      rcases Nat.lt_or_ge j p with h1 | h1
      · exact (List.pairwise_iff_getElem.1 hne) j p hj hp h1
      · exact fun e => (List.pairwise_iff_getElem.1 hne) p j hp hj (by omega) e.symm
    conv => lhs; rw [← List.take_append_drop p m, List.drop_eq_getElem_cons hp]
    rw [List.filter_append, List.filter_cons_of_neg (by rw [othKey, he]; simp)]
    have h1 : (m.take p).filter (othKey key) = m.take p := by
      rw [List.filter_eq_self]
      intro y hy
      obtain ⟨j, hj, rfl⟩ := List.getElem_of_mem hy
      rw [List.length_take] at hj
      rw [List.getElem_take]
      exact hot j (by omega) (by omega)
    have h2 : (m.drop (p + 1)).filter (othKey key) = m.drop (p + 1) := by
      rw [List.filter_eq_self]
      intro y hy
      obtain ⟨j, hj, rfl⟩ := List.getElem_of_mem hy
      rw [List.length_drop] at hj
      rw [List.getElem_drop]
      exact hot (p + 1 + j) (by omega) (by omega)
    rw [h1, h2]
  · rw [if_neg hk, List.filter_eq_self]
    intro y hy
    obtain ⟨j, hj, rfl⟩ := List.getElem_of_mem hy
    rw [othKey]
    simp only [Bool.not_eq_true', beq_eq_false_iff_ne]
    intro e
    have h1 := at_hit h hj e
    rw [atKey, if_neg hk] at h1
    have h2 := congrArg Prod.snd h1
    simp at h2
end Go.Proofs.YtljgofmmihmmfabDoor
