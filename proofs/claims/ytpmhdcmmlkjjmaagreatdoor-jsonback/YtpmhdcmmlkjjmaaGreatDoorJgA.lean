import Derived.Test.YtpmhdcmmlkjjmaaGreatDoorG36
import Derived.Test.YtpmhdcmmlkjjmaaGreatDoorG37
import Derived.Lib.ItoaMem
/- what is read is good, and is written no longer than it stood there: plain. -/
set_option linter.unusedSimpArgs false
set_option linter.unusedVariables false
set_option maxRecDepth 100000
namespace Go.Proofs.YtpmhdcmmlkjjmaaGreatDoor
open Go.RowKit Go.Lib
mutual
/-- how many values -/
def ndV : V → Nat
  | .mk _ _ _ _ l m => 1 + ndL l + ndM m
def ndL : List V → Nat
  | [] => 0
  | x :: t => ndV x + ndL t
def ndM : List Mem → Nat
  | [] => 0
  | (_, x) :: t => ndV x + ndM t
end
mutual
/-- how many bytes in strings -/
def byV : V → Nat
  | .mk _ _ _ s l m => s.size + keyB m + byL l + byM m
def byL : List V → Nat
  | [] => 0
  | x :: t => byV x + byL t
def byM : List Mem → Nat
  | [] => 0
  | (_, x) :: t => byV x + byM t
end
mutual
/-- good, and no deeper than D, if it stands at this level -/
def okD (D : Nat) : V → Nat → Prop
  | .mk k b i s l m, lv => lv ≤ D ∧ goodB k b i s l.length m = true ∧ In64 i ∧ okDL D l (lv + 1) ∧ okDM D m (lv + 1)
def okDL (D : Nat) : List V → Nat → Prop
  | [], _ => True
  | x :: t, lv => okD D x lv ∧ okDL D t lv
def okDM (D : Nat) : List Mem → Nat → Prop
  | [], _ => True
  | (_, x) :: t, lv => okD D x lv ∧ okDM D t lv
end
theorem okDL_iff {D : Nat} : ∀ {l : List V} {lv : Nat}, okDL D l lv ↔ ∀ x ∈ l, okD D x lv
  | [], lv => by simp [okDL]
  | x :: t, lv => by rw [okDL, okDL_iff]; simp
theorem okDM_iff {D : Nat} : ∀ {l : List Mem} {lv : Nat}, okDM D l lv ↔ ∀ x ∈ l, okD D x.2 lv
  | [], lv => by simp [okDM]
  | (k, x) :: t, lv => by rw [okDM, okDM_iff]; simp
theorem ndM_perm {a b : List Mem} (h : a.Perm b) : ndM a = ndM b := by
  induction h with
  | nil => rfl
  | cons x _ ih => obtain ⟨k, x⟩ := x; simp only [ndM]; omega
  | swap x y l => obtain ⟨k, x⟩ := x; obtain ⟨k', y⟩ := y; simp only [ndM]; omega
  | trans _ _ h1 h2 => omega
theorem byM_perm {a b : List Mem} (h : a.Perm b) : byM a = byM b := by
  induction h with
  | nil => rfl
  | cons x _ ih => obtain ⟨k, x⟩ := x; simp only [byM]; omega
  | swap x y l => obtain ⟨k, x⟩ := x; obtain ⟨k', y⟩ := y; simp only [byM]; omega
  | trans _ _ h1 h2 => omega
theorem keyB_perm {a b : List Mem} (h : a.Perm b) : keyB a = keyB b := by
  induction h with
  | nil => rfl
  | cons x _ ih => simp only [keyB]; omega
  | swap x y l => simp only [keyB]; omega
  | trans _ _ h1 h2 => omega
/-- the text of the members, with a byte behind each -/
def lenM : List Mem → Nat
  | [] => 0
  | x :: t => (txtE x).length + 1 + lenM t
def lenL : List V → Nat
  | [] => 0
  | x :: t => (txtV x).length + 1 + lenL t
theorem lenM_perm {a b : List Mem} (h : a.Perm b) : lenM a = lenM b := by
  induction h with
  | nil => rfl
  | cons x _ ih => simp only [lenM]; omega
  | swap x y l => simp only [lenM]; omega
  | trans _ _ h1 h2 => omega
mutual
theorem chk_ok (D : Nat) : ∀ (v : V) (lv : Nat) (st : St), okD D v lv → st.1 + ndV v ≤ 65536 → st.2.1 + byV v ≤ 1048576 → (chkV D v lv st).1 = 0 ∧ (chkV D v lv st).2.1 = st.1 + ndV v ∧ (chkV D v lv st).2.2.1 = st.2.1 + byV v
  | .mk k b i s l m, lv, st, h, hn, hy => by
    rw [okD] at h
    rw [ndV] at hn
    rw [byV] at hy
    have e : entF D st.1 st.2.1 st.2.2 lv (goodB k b i s l.length m) (s.size + keyB m) = (0, st.1 + 1, st.2.1 + (s.size + keyB m), max st.2.2 lv) := by
      rw [entF, if_neg (by omega), if_neg (by omega), if_neg (by rw [h.2.1]; simp), if_neg (by omega)]
    rw [chkV, e]
    dsimp only
    rw [if_pos rfl]
    have a1 := chkl_ok D l (lv + 1) (st.1 + 1, st.2.1 + (s.size + keyB m), max st.2.2 lv) h.2.2.2.1 (by dsimp only; omega) (by dsimp only; omega)
    rw [if_pos a1.1]
    have a2 := chkm_ok D m (lv + 1) _ h.2.2.2.2 (by rw [a1.2.1]; dsimp only; omega) (by rw [a1.2.2]; dsimp only; omega)
    refine ⟨a2.1, ?_, ?_⟩
    · rw [a2.2.1, a1.2.1, ndV]; dsimp only; omega
    · rw [a2.2.2, a1.2.2, byV]; dsimp only; omega
theorem chkl_ok (D : Nat) : ∀ (l : List V) (lv : Nat) (st : St), okDL D l lv → st.1 + ndL l ≤ 65536 → st.2.1 + byL l ≤ 1048576 → (chkL D l lv st).1 = 0 ∧ (chkL D l lv st).2.1 = st.1 + ndL l ∧ (chkL D l lv st).2.2.1 = st.2.1 + byL l
  | [], lv, st, h, hn, hy => by rw [chkL, ndL, byL]; exact ⟨rfl, rfl, rfl⟩
  | x :: t, lv, st, h, hn, hy => by
    rw [okDL] at h
    rw [ndL] at hn
    rw [byL] at hy
    have a1 := chk_ok D x lv st h.1 (by omega) (by omega)
    rw [chkL, if_pos a1.1]
    have a2 := chkl_ok D t lv _ h.2 (by rw [a1.2.1]; omega) (by rw [a1.2.2]; omega)
    refine ⟨a2.1, ?_, ?_⟩
    · rw [a2.2.1, a1.2.1, ndL]; omega
    · rw [a2.2.2, a1.2.2, byL]; omega
theorem chkm_ok (D : Nat) : ∀ (l : List Mem) (lv : Nat) (st : St), okDM D l lv → st.1 + ndM l ≤ 65536 → st.2.1 + byM l ≤ 1048576 → (chkM D l lv st).1 = 0 ∧ (chkM D l lv st).2.1 = st.1 + ndM l ∧ (chkM D l lv st).2.2.1 = st.2.1 + byM l
  | [], lv, st, h, hn, hy => by rw [chkM, ndM, byM]; exact ⟨rfl, rfl, rfl⟩
  | (_, x) :: t, lv, st, h, hn, hy => by
    rw [okDM] at h
    rw [ndM] at hn
    rw [byM] at hy
    have a1 := chk_ok D x lv st h.1 (by omega) (by omega)
    rw [chkM, if_pos a1.1]
    have a2 := chkm_ok D t lv _ h.2 (by rw [a1.2.1]; omega) (by rw [a1.2.2]; omega)
    refine ⟨a2.1, ?_, ?_⟩
    · rw [a2.2.1, a1.2.1, ndM]; omega
    · rw [a2.2.2, a1.2.2, byM]; omega
end
/-- a number is written no longer than it stood there -/
theorem dig_len {u m : Nat} (h : u < 10 ^ m) (hm : 1 ≤ m) : (decDigits u).length ≤ m := by
  rw [decDigits_length]
  rcases Nat.lt_or_ge u 10 with q | q
  · rw [nDigits_small q]; exact hm
  · rcases Nat.lt_or_ge m (nDigits u) with r | r
    · exfalso
      have h1 := nDigits_pos u
      obtain ⟨k, hk⟩ : ∃ k, nDigits u = k + 1 := ⟨nDigits u - 1, by omega⟩
      have h2 : 10 ^ k ≤ u := by
        rcases Nat.lt_or_ge u (10 ^ k) with z | z
        · exfalso
          have : ∀ k u, u < 10 ^ k → 1 ≤ k → nDigits u ≤ k := by
            intro k
            induction k with
            | zero => intro u _ h; omega
            | succ k ih =>
              intro u hu _
              rcases Nat.lt_or_ge u 10 with a | a
              · rw [nDigits_small a]; omega
              · rw [nDigits_big (by omega)]
                have h5 : u / 10 < 10 ^ k := by
                  rw [Nat.pow_succ] at hu
                  omega
                rcases Nat.eq_zero_or_pos k with b | b
                · subst b; simp at h5; omega
                · have := ih (u / 10) h5 b; omega
          rcases Nat.eq_zero_or_pos k with b | b
          · subst b; simp at z; subst z; rw [nDigits_small (by omega)] at hk; omega
          · have := this k u z b; omega
        · exact z
      have h3 : 10 ^ m ≤ 10 ^ k := Nat.pow_le_pow_right (by decide) (by omega)
      omega
    · exact r
theorem itoa_len {r : List UInt8} {v : Int} (h : intJ r = some v) : (itoa v).length ≤ r.length ∧ 1 ≤ r.length := by
  rw [int_doc, dinJ] at h
  have core : ∀ (d : List UInt8) (u : Nat), uJ d = some u → u < 10 ^ d.length ∧ 1 ≤ d.length := fun d u hu => by
    rw [uJ] at hu
    split at hu
    · cases hu
    · rename_i hc
      have h1 := dv_top hu
      refine ⟨by omega, ?_⟩
      rcases Nat.eq_zero_or_pos d.length with q | q
      · exact absurd (.inl (List.length_eq_zero_iff.1 q)) hc
      · exact q
  have fin : ∀ (minus : Bool) (o : Option Nat), finJ minus o = some v → ∃ u, o = some u ∧ (v = (u : Int) ∨ (minus = true ∧ v = -(u : Int))) := fun minus o ho => by
    cases o with
    | none => cases ho
    | some u =>
      refine ⟨u, rfl, ?_⟩
      rw [finJ] at ho
      split at ho
      · rename_i q; cases ho; right; refine ⟨q.1, ?_⟩; rw [q.2]; rfl
      · split at ho
        · cases ho
        · cases ho
          by_cases hm : minus = true
          · right; exact ⟨hm, by rw [if_pos hm]⟩
          · left; rw [if_neg hm]
  split at h
  · rename_i hh
    obtain ⟨u, hu, hv⟩ := fin true _ h
    obtain ⟨h1, h2⟩ := core _ u hu
    have hl : r.length = r.tail.length + 1 := by
      cases r with
      | nil => cases hh
      | cons c t => simp
    have h3 := dig_len h1 h2
    refine ⟨?_, by omega⟩
    rcases hv with rfl | ⟨_, rfl⟩
    · rw [itoa_nonneg]; omega
    · rcases Nat.eq_zero_or_pos u with q | q
      · subst q
        have : (itoa (-((0 : Nat) : Int))) = decDigits 0 := by rw [show (-((0 : Nat) : Int)) = ((0 : Nat) : Int) from rfl, itoa_nonneg]
        rw [this]; omega
      · rw [itoa_neg u q, List.length_cons]; omega
  · obtain ⟨u, hu, hv⟩ := fin false _ h
    obtain ⟨h1, h2⟩ := core _ u hu
    have h3 := dig_len h1 h2
    refine ⟨?_, h2⟩
    rcases hv with rfl | ⟨q, _⟩
    · rw [itoa_nonneg]; exact h3
    · cases q
end Go.Proofs.YtpmhdcmmlkjjmaaGreatDoor
