/- what a value that is taken has: strings and keys that are UTF-8, and no more weight than there may be. -/
import Derived.Test.YtjocgajbcdmaiaaDoorJpsB
import Derived.Test.YtjocgajbcdmaiaaDoorChkE
set_option linter.unusedSimpArgs false
set_option linter.unusedVariables false
namespace Go.Proofs.YtjocgajbcdmaiaaDoor
open Go.RowKit Go.Lib

theorem entF_wt {D n y d lv : Nat} {g : Bool} {z : Nat} (h : (entF D n y d lv g z).1 = 0) : (entF D n y d lv g z).2.1 + (entF D n y d lv g z).2.2.1 = n + y + 1 + z := by
  unfold entF at *
  split at h
  · simp at h
  split at h
  · simp at h
  split at h
  · simp at h
  split at h
  · simp at h
  · rename_i h1 h2 h3 h4
    rw [if_neg h1, if_neg h2, if_neg h3, if_neg h4]
    show n + 1 + (y + z) = _
    omega
theorem entF_z {D n y d lv : Nat} {g : Bool} {z : Nat} (h : (entF D n y d lv g z).1 = 0) : z ≤ 1048576 ∧ g = true := by
  unfold entF at h
  split at h
  · simp at h
  split at h
  · simp at h
  split at h
  · simp at h
  split at h
  · simp at h
  · rename_i h1 h2 h3 h4
    exact ⟨by omega, by cases g <;> simp_all⟩
mutual
theorem chkV_wt (D : Nat) : ∀ (v : V) (lv : Nat) (st : St), (chkV D v lv st).1 = 0 → (chkV D v lv st).2.1 + (chkV D v lv st).2.2.1 = st.1 + st.2.1 + v.wt
  | .mk k b i s l m, lv, st, h => by
    rw [chkV] at h ⊢
    by_cases h1 : (entF D st.1 st.2.1 st.2.2 lv (goodB k b i s l.length m) (s.size + keyB m)).1 = 0
    · have e1 := entF_wt h1
      simp only [h1, if_true] at h ⊢
      by_cases h2 : (chkL D l (lv + 1) (entF D st.1 st.2.1 st.2.2 lv (goodB k b i s l.length m) (s.size + keyB m)).2).1 = 0
      · simp only [h2, if_true] at h ⊢
        have a1 := chkM_wt D m (lv + 1) _ h
        have a2 := chkL_wt D l (lv + 1) _ h2
        rw [V.wt]
        omega
      · simp only [h2, if_false] at h
    · simp only [h1, if_false] at h
theorem chkL_wt (D : Nat) : ∀ (l : List V) (lv : Nat) (st : St), (chkL D l lv st).1 = 0 → (chkL D l lv st).2.1 + (chkL D l lv st).2.2.1 = st.1 + st.2.1 + wtL l
  | [], lv, st, h => by rw [chkL, wtL]; rfl
  | x :: t, lv, st, h => by
    rw [chkL] at h ⊢
    by_cases h1 : (chkV D x lv st).1 = 0
    · rw [if_pos h1] at h ⊢
      have a1 := chkL_wt D t lv _ h
      have a2 := chkV_wt D x lv st h1
      rw [wtL]
      omega
    · rw [if_neg h1] at h
      exact absurd h h1
theorem chkM_wt (D : Nat) : ∀ (l : List Mem) (lv : Nat) (st : St), (chkM D l lv st).1 = 0 → (chkM D l lv st).2.1 + (chkM D l lv st).2.2.1 + keyB l = st.1 + st.2.1 + wtM l
  | [], lv, st, h => by rw [chkM, wtM, keyB]
  | (k, x) :: t, lv, st, h => by
    rw [chkM] at h ⊢
    by_cases h1 : (chkV D x lv st).1 = 0
    · rw [if_pos h1] at h ⊢
      have a1 := chkM_wt D t lv _ h
      have a2 := chkV_wt D x lv st h1
      simp only [wtM, keyB]
      omega
    · rw [if_neg h1] at h
      exact absurd h h1
end
theorem wt_of_chkD {D : Nat} {v : V} (h : (chkV D v 0 (0, 0, 0)).1 = 0) : v.wt ≤ 1114112 := by
  have a1 := chkV_wt D v 0 (0, 0, 0) h
  have a2 := chkV_bnd D v 0 (0, 0, 0) ⟨by simp, by simp, by simp⟩ h
  have a3 := a2.n
  have a4 := a2.y
  simp only at a1
  omega
theorem key_mem : ∀ {m : List Mem} {x : Mem}, x ∈ m → x.1.size ≤ keyB m
  | y :: t, x, h => by
    rcases List.mem_cons.1 h with rfl | h
    · rw [keyB]; omega
    · have := key_mem h; rw [keyB]; omega
theorem rise_key {m : List Mem} (h : riseB m = true) : ∀ x ∈ m, validD x.1.data.toList = true := by
  intro x hx
  simp only [riseB, List.all_eq_true, List.mem_range] at h
  obtain ⟨j, hj, rfl⟩ := List.getElem_of_mem hx
  have h1 := h j hj
  rw [okAt, Bool.and_eq_true, keyAt_eq hj] at h1
  exact h1.1
mutual
theorem prv_chk (D : Nat) : ∀ (v : V) (lv : Nat) (st : St) (R : Bool) (w : World) (S : Nat → Prop) (cs : List Value), (chkV D v lv st).1 = 0 → v.lies R w S cs → prV v
  | .mk k b i s l m, lv, st, R, w, S, cs, h, hl => by
    rw [chkV] at h
    rw [V.lies] at hl
    obtain ⟨al, cl, bl, ol, am, cm, bm, om, rfl, hk, hi, hs, hal, ham, hl1, hm1, _⟩ := hl
    rw [prV]
    by_cases h1 : (entF D st.1 st.2.1 st.2.2 lv (goodB k b i s l.length m) (s.size + keyB m)).1 = 0
    · simp only [h1, if_true] at h
      obtain ⟨e1, e2⟩ := entF_z h1
      rw [goodB, Bool.and_eq_true, Bool.and_eq_true] at e2
      by_cases h2 : (chkL D l (lv + 1) (entF D st.1 st.2.1 st.2.2 lv (goodB k b i s l.length m) (s.size + keyB m)).2).1 = 0
      · simp only [h2, if_true] at h
        have e3 := of_decide_eq_true e2.1.1
        exact ⟨⟨hi, by omega, e3.1, e3.2.1⟩, e2.1.2, prl_chk D l (lv + 1) _ R w S bl ol h2 hl1, prm_chk D m (lv + 1) _ R w S bm om h hm1 (fun x hx => ⟨rise_key e2.2 x hx, by have := key_mem hx; omega⟩)⟩
      · simp only [h2, if_false] at h
    · simp only [h1, if_false] at h
theorem prl_chk (D : Nat) : ∀ (l : List V) (lv : Nat) (st : St) (R : Bool) (w : World) (S : Nat → Prop) (b o : Nat), (chkL D l lv st).1 = 0 → liesL R w S l b o → prL l
  | [], lv, st, R, w, S, b, o, h, hl => by rw [prL]; trivial
  | x :: t, lv, st, R, w, S, b, o, h, hl => by
    rw [chkL] at h
    rw [liesL] at hl
    obtain ⟨_, ⟨cs, _, hx⟩, ht⟩ := hl
    rw [prL]
    by_cases h1 : (chkV D x lv st).1 = 0
    · rw [if_pos h1] at h
      exact ⟨prv_chk D x lv st R w S cs h1 hx, prl_chk D t lv _ R w S b _ h ht⟩
    · rw [if_neg h1] at h
      exact absurd h h1
theorem prm_chk (D : Nat) : ∀ (l : List Mem) (lv : Nat) (st : St) (R : Bool) (w : World) (S : Nat → Prop) (b o : Nat), (chkM D l lv st).1 = 0 → liesM R w S l b o → (∀ x ∈ l, validD x.1.data.toList = true ∧ x.1.size ≤ 1048576) → prM l
  | [], lv, st, R, w, S, b, o, h, hl, hk => by rw [prM]; trivial
  | (k, x) :: t, lv, st, R, w, S, b, o, h, hl, hk => by
    rw [chkM] at h
    rw [liesM] at hl
    obtain ⟨_, ⟨_, cs, _, hx⟩, ht⟩ := hl
    rw [prM]
    by_cases h1 : (chkV D x lv st).1 = 0
    · rw [if_pos h1] at h
      exact ⟨⟨hk (k, x) (List.mem_cons_self ..), prv_chk D x lv st R w S cs h1 hx⟩, prm_chk D t lv _ R w S b _ h ht (fun y hy => hk y (List.mem_cons_of_mem _ hy))⟩
    · rw [if_neg h1] at h
      exact absurd h h1
end
theorem chkE_pr {R : Bool} {w : World} {S : Nat → Prop} {cs : List Value} {v : V} {depth : Int} (h : chkE v depth = 0) (hl : v.lies R w S cs) : prV v ∧ v.wt ≤ 1114112 := by
  rw [chkE] at h
  split at h
  · cases h
  · exact ⟨prv_chk _ v 0 _ R w S cs h hl, wt_of_chkD h⟩
end Go.Proofs.YtjocgajbcdmaiaaDoor
