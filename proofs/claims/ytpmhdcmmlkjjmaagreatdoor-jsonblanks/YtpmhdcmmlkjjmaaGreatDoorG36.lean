/- joined: PrvA JgA -/
import Derived.Test.YtpmhdcmmlkjjmaaGreatDoorG35
import Derived.Lib.ItoaMem
/- what a value that is taken has: strings and keys that are UTF-8, and no more weight than there may be. -/
set_option linter.unusedSimpArgs false
set_option linter.unusedVariables false
namespace Go.Proofs.YtpmhdcmmlkjjmaaGreatDoor
open Go.RowKit Go.Lib
theorem entF_wt {D n y d lv : Nat} {g : Bool} {z : Nat} (h : (entF D n y d lv g z).1 = 0) : (entF D n y d lv g z).2.1 + (entF D n y d lv g z).2.2.1 = n + y + 1 + z := by
  unfold entF at *
  split at h
  · simp at h
  split at h
  · simp at h
  split at h
  · simp at h
  split at h
  · simp at h
  · rename_i h1 h2 h3 h4
    rw [if_neg h1, if_neg h2, if_neg h3, if_neg h4]
    show n + 1 + (y + z) = _
    omega
theorem entF_z {D n y d lv : Nat} {g : Bool} {z : Nat} (h : (entF D n y d lv g z).1 = 0) : z ≤ 1048576 ∧ g = true := by
  unfold entF at h
  split at h
  · simp at h
  split at h
  · simp at h
  split at h
  · simp at h
  split at h
  · simp at h
  · rename_i h1 h2 h3 h4
    exact ⟨by omega, by cases g <;> simp_all⟩
mutual
theorem chkV_wt (D : Nat) : ∀ (v : V) (lv : Nat) (st : St), (chkV D v lv st).1 = 0 → (chkV D v lv st).2.1 + (chkV D v lv st).2.2.1 = st.1 + st.2.1 + v.wt
  | .mk k b i s l m, lv, st, h => by
    rw [chkV] at h ⊢
    by_cases h1 : (entF D st.1 st.2.1 st.2.2 lv (goodB k b i s l.length m) (s.size + keyB m)).1 = 0
    · have e1 := entF_wt h1
      simp only [h1, if_true] at h ⊢
      by_cases h2 : (chkL D l (lv + 1) (entF D st.1 st.2.1 st.2.2 lv (goodB k b i s l.length m) (s.size + keyB m)).2).1 = 0
      · simp only [h2, if_true] at h ⊢
        have a1 := chkM_wt D m (lv + 1) _ h
        have a2 := chkL_wt D l (lv + 1) _ h2
        rw [V.wt]
        omega
      · simp only [h2, if_false] at h
    · simp only [h1, if_false] at h
theorem chkL_wt (D : Nat) : ∀ (l : List V) (lv : Nat) (st : St), (chkL D l lv st).1 = 0 → (chkL D l lv st).2.1 + (chkL D l lv st).2.2.1 = st.1 + st.2.1 + wtL l
  | [], lv, st, h => by rw [chkL, wtL]; rfl
  | x :: t, lv, st, h => by
    rw [chkL] at h ⊢
    by_cases h1 : (chkV D x lv st).1 = 0
    · rw [if_pos h1] at h ⊢
      have a1 := chkL_wt D t lv _ h
      have a2 := chkV_wt D x lv st h1
      rw [wtL]
      omega
    · rw [if_neg h1] at h
      exact absurd h h1
theorem chkM_wt (D : Nat) : ∀ (l : List Mem) (lv : Nat) (st : St), (chkM D l lv st).1 = 0 → (chkM D l lv st).2.1 + (chkM D l lv st).2.2.1 + keyB l = st.1 + st.2.1 + wtM l
  | [], lv, st, h => by rw [chkM, wtM, keyB]
  | (k, x) :: t, lv, st, h => by
    rw [chkM] at h ⊢
    by_cases h1 : (chkV D x lv st).1 = 0
    · rw [if_pos h1] at h ⊢
      have a1 := chkM_wt D t lv _ h
      have a2 := chkV_wt D x lv st h1
      simp only [wtM, keyB]
      omega
    · rw [if_neg h1] at h
      exact absurd h h1
end
theorem wt_of_chkD {D : Nat} {v : V} (h : (chkV D v 0 (0, 0, 0)).1 = 0) : v.wt ≤ 1114112 := by
  have a1 := chkV_wt D v 0 (0, 0, 0) h
  have a2 := chkV_bnd D v 0 (0, 0, 0) ⟨by simp, by simp, by simp⟩ h
  have a3 := a2.n
  have a4 := a2.y
  simp only at a1
  omega
theorem key_mem : ∀ {m : List Mem} {x : Mem}, x ∈ m → x.1.size ≤ keyB m
  | y :: t, x, h => by
    rcases List.mem_cons.1 h with rfl | h
    · rw [keyB]; omega
    · have := key_mem h; rw [keyB]; omega
theorem rise_key {m : List Mem} (h : riseB m = true) : ∀ x ∈ m, validD x.1.data.toList = true := by
  intro x hx
  simp only [riseB, List.all_eq_true, List.mem_range] at h
  obtain ⟨j, hj, rfl⟩ := List.getElem_of_mem hx
  have h1 := h j hj
  rw [okAt, Bool.and_eq_true, keyAt_eq hj] at h1
  exact h1.1
mutual
theorem prv_chk (D : Nat) : ∀ (v : V) (lv : Nat) (st : St) (R : Bool) (w : World) (S : Nat → Prop) (cs : List Value), (chkV D v lv st).1 = 0 → v.lies R w S cs → prV v
  | .mk k b i s l m, lv, st, R, w, S, cs, h, hl => by
    rw [chkV] at h
    rw [V.lies] at hl
    obtain ⟨al, cl, bl, ol, am, cm, bm, om, rfl, hk, hi, hs, hal, ham, hl1, hm1, _⟩ := hl
    rw [prV]
    by_cases h1 : (entF D st.1 st.2.1 st.2.2 lv (goodB k b i s l.length m) (s.size + keyB m)).1 = 0
    · simp only [h1, if_true] at h
      obtain ⟨e1, e2⟩ := entF_z h1
      rw [goodB, Bool.and_eq_true, Bool.and_eq_true] at e2
      by_cases h2 : (chkL D l (lv + 1) (entF D st.1 st.2.1 st.2.2 lv (goodB k b i s l.length m) (s.size + keyB m)).2).1 = 0
      · simp only [h2, if_true] at h
        have e3 := of_decide_eq_true e2.1.1
        exact ⟨⟨hi, by omega, e3.1, e3.2.1⟩, e2.1.2, prl_chk D l (lv + 1) _ R w S bl ol h2 hl1, prm_chk D m (lv + 1) _ R w S bm om h hm1 (fun x hx => ⟨rise_key e2.2 x hx, by have := key_mem hx; omega⟩)⟩
      · simp only [h2, if_false] at h
    · simp only [h1, if_false] at h
theorem prl_chk (D : Nat) : ∀ (l : List V) (lv : Nat) (st : St) (R : Bool) (w : World) (S : Nat → Prop) (b o : Nat), (chkL D l lv st).1 = 0 → liesL R w S l b o → prL l
  | [], lv, st, R, w, S, b, o, h, hl => by rw [prL]; trivial
  | x :: t, lv, st, R, w, S, b, o, h, hl => by
    rw [chkL] at h
    rw [liesL] at hl
    obtain ⟨_, ⟨cs, _, hx⟩, ht⟩ := hl
    rw [prL]
    by_cases h1 : (chkV D x lv st).1 = 0
    · rw [if_pos h1] at h
      exact ⟨prv_chk D x lv st R w S cs h1 hx, prl_chk D t lv _ R w S b _ h ht⟩
    · rw [if_neg h1] at h
      exact absurd h h1
theorem prm_chk (D : Nat) : ∀ (l : List Mem) (lv : Nat) (st : St) (R : Bool) (w : World) (S : Nat → Prop) (b o : Nat), (chkM D l lv st).1 = 0 → liesM R w S l b o → (∀ x ∈ l, validD x.1.data.toList = true ∧ x.1.size ≤ 1048576) → prM l
  | [], lv, st, R, w, S, b, o, h, hl, hk => by rw [prM]; trivial
  | (k, x) :: t, lv, st, R, w, S, b, o, h, hl, hk => by
    rw [chkM] at h
    rw [liesM] at hl
    obtain ⟨_, ⟨_, cs, _, hx⟩, ht⟩ := hl
    rw [prM]
    by_cases h1 : (chkV D x lv st).1 = 0
    · rw [if_pos h1] at h
      exact ⟨⟨hk (k, x) (List.mem_cons_self ..), prv_chk D x lv st R w S cs h1 hx⟩, prm_chk D t lv _ R w S b _ h ht (fun y hy => hk y (List.mem_cons_of_mem _ hy))⟩
    · rw [if_neg h1] at h
      exact absurd h h1
end
theorem chkE_pr {R : Bool} {w : World} {S : Nat → Prop} {cs : List Value} {v : V} {depth : Int} (h : chkE v depth = 0) (hl : v.lies R w S cs) : prV v ∧ v.wt ≤ 1114112 := by
  rw [chkE] at h
  split at h
  · cases h
  · exact ⟨prv_chk _ v 0 _ R w S cs h hl, wt_of_chkD h⟩
end Go.Proofs.YtpmhdcmmlkjjmaaGreatDoor
/- what is read is good, and is written no longer than it stood there: plain. -/
set_option maxRecDepth 100000
namespace Go.Proofs.YtpmhdcmmlkjjmaaGreatDoor
open Go.RowKit Go.Lib
mutual
/-- how many values -/
def ndV : V → Nat
  | .mk _ _ _ _ l m => 1 + ndL l + ndM m
def ndL : List V → Nat
  | [] => 0
  | x :: t => ndV x + ndL t
def ndM : List Mem → Nat
  | [] => 0
  | (_, x) :: t => ndV x + ndM t
end
mutual
/-- how many bytes in strings -/
def byV : V → Nat
  | .mk _ _ _ s l m => s.size + keyB m + byL l + byM m
def byL : List V → Nat
  | [] => 0
  | x :: t => byV x + byL t
def byM : List Mem → Nat
  | [] => 0
  | (_, x) :: t => byV x + byM t
end
mutual
/-- good, and no deeper than D, if it stands at this level -/
def okD (D : Nat) : V → Nat → Prop
  | .mk k b i s l m, lv => lv ≤ D ∧ goodB k b i s l.length m = true ∧ In64 i ∧ okDL D l (lv + 1) ∧ okDM D m (lv + 1)
def okDL (D : Nat) : List V → Nat → Prop
  | [], _ => True
  | x :: t, lv => okD D x lv ∧ okDL D t lv
def okDM (D : Nat) : List Mem → Nat → Prop
  | [], _ => True
  | (_, x) :: t, lv => okD D x lv ∧ okDM D t lv
end
theorem okDL_iff {D : Nat} : ∀ {l : List V} {lv : Nat}, okDL D l lv ↔ ∀ x ∈ l, okD D x lv
  | [], lv => by simp [okDL]
  | x :: t, lv => by rw [okDL, okDL_iff]; simp
theorem okDM_iff {D : Nat} : ∀ {l : List Mem} {lv : Nat}, okDM D l lv ↔ ∀ x ∈ l, okD D x.2 lv
  | [], lv => by simp [okDM]
  | (k, x) :: t, lv => by rw [okDM, okDM_iff]; simp
theorem ndM_perm {a b : List Mem} (h : a.Perm b) : ndM a = ndM b := by
  induction h with
  | nil => rfl
  | cons x _ ih => obtain ⟨k, x⟩ := x; simp only [ndM]; omega
  | swap x y l => obtain ⟨k, x⟩ := x; obtain ⟨k', y⟩ := y; simp only [ndM]; omega
  | trans _ _ h1 h2 => omega
theorem byM_perm {a b : List Mem} (h : a.Perm b) : byM a = byM b := by
  induction h with
  | nil => rfl
  | cons x _ ih => obtain ⟨k, x⟩ := x; simp only [byM]; omega
  | swap x y l => obtain ⟨k, x⟩ := x; obtain ⟨k', y⟩ := y; simp only [byM]; omega
  | trans _ _ h1 h2 => omega
theorem keyB_perm {a b : List Mem} (h : a.Perm b) : keyB a = keyB b := by
  induction h with
  | nil => rfl
  | cons x _ ih => simp only [keyB]; omega
  | swap x y l => simp only [keyB]; omega
  | trans _ _ h1 h2 => omega
/-- the text of the members, with a byte behind each -/
def lenM : List Mem → Nat
  | [] => 0
  | x :: t => (txtE x).length + 1 + lenM t
def lenL : List V → Nat
  | [] => 0
  | x :: t => (txtV x).length + 1 + lenL t
theorem lenM_perm {a b : List Mem} (h : a.Perm b) : lenM a = lenM b := by
  induction h with
  | nil => rfl
  | cons x _ ih => simp only [lenM]; omega
  | swap x y l => simp only [lenM]; omega
  | trans _ _ h1 h2 => omega
mutual
theorem chk_ok (D : Nat) : ∀ (v : V) (lv : Nat) (st : St), okD D v lv → st.1 + ndV v ≤ 65536 → st.2.1 + byV v ≤ 1048576 → (chkV D v lv st).1 = 0 ∧ (chkV D v lv st).2.1 = st.1 + ndV v ∧ (chkV D v lv st).2.2.1 = st.2.1 + byV v
  | .mk k b i s l m, lv, st, h, hn, hy => by
    rw [okD] at h
    rw [ndV] at hn
    rw [byV] at hy
    have e : entF D st.1 st.2.1 st.2.2 lv (goodB k b i s l.length m) (s.size + keyB m) = (0, st.1 + 1, st.2.1 + (s.size + keyB m), max st.2.2 lv) := by
      rw [entF, if_neg (by omega), if_neg (by omega), if_neg (by rw [h.2.1]; simp), if_neg (by omega)]
    rw [chkV, e]
    dsimp only
    rw [if_pos rfl]
    have a1 := chkl_ok D l (lv + 1) (st.1 + 1, st.2.1 + (s.size + keyB m), max st.2.2 lv) h.2.2.2.1 (by dsimp only; omega) (by dsimp only; omega)
    rw [if_pos a1.1]
    have a2 := chkm_ok D m (lv + 1) _ h.2.2.2.2 (by rw [a1.2.1]; dsimp only; omega) (by rw [a1.2.2]; dsimp only; omega)
    refine ⟨a2.1, ?_, ?_⟩
    · rw [a2.2.1, a1.2.1, ndV]; dsimp only; omega
    · rw [a2.2.2, a1.2.2, byV]; dsimp only; omega
theorem chkl_ok (D : Nat) : ∀ (l : List V) (lv : Nat) (st : St), okDL D l lv → st.1 + ndL l ≤ 65536 → st.2.1 + byL l ≤ 1048576 → (chkL D l lv st).1 = 0 ∧ (chkL D l lv st).2.1 = st.1 + ndL l ∧ (chkL D l lv st).2.2.1 = st.2.1 + byL l
  | [], lv, st, h, hn, hy => by rw [chkL, ndL, byL]; exact ⟨rfl, rfl, rfl⟩
  | x :: t, lv, st, h, hn, hy => by
    rw [okDL] at h
    rw [ndL] at hn
    rw [byL] at hy
    have a1 := chk_ok D x lv st h.1 (by omega) (by omega)
    rw [chkL, if_pos a1.1]
    have a2 := chkl_ok D t lv _ h.2 (by rw [a1.2.1]; omega) (by rw [a1.2.2]; omega)
    refine ⟨a2.1, ?_, ?_⟩
    · rw [a2.2.1, a1.2.1, ndL]; omega
    · rw [a2.2.2, a1.2.2, byL]; omega
theorem chkm_ok (D : Nat) : ∀ (l : List Mem) (lv : Nat) (st : St), okDM D l lv → st.1 + ndM l ≤ 65536 → st.2.1 + byM l ≤ 1048576 → (chkM D l lv st).1 = 0 ∧ (chkM D l lv st).2.1 = st.1 + ndM l ∧ (chkM D l lv st).2.2.1 = st.2.1 + byM l
  | [], lv, st, h, hn, hy => by rw [chkM, ndM, byM]; exact ⟨rfl, rfl, rfl⟩
  | (_, x) :: t, lv, st, h, hn, hy => by
    rw [okDM] at h
    rw [ndM] at hn
    rw [byM] at hy
    have a1 := chk_ok D x lv st h.1 (by omega) (by omega)
    rw [chkM, if_pos a1.1]
    have a2 := chkm_ok D t lv _ h.2 (by rw [a1.2.1]; omega) (by rw [a1.2.2]; omega)
    refine ⟨a2.1, ?_, ?_⟩
    · rw [a2.2.1, a1.2.1, ndM]; omega
    · rw [a2.2.2, a1.2.2, byM]; omega
end
/-- a number is written no longer than it stood there -/
theorem dig_len {u m : Nat} (h : u < 10 ^ m) (hm : 1 ≤ m) : (decDigits u).length ≤ m := by
  rw [decDigits_length]
  rcases Nat.lt_or_ge u 10 with q | q
  · rw [nDigits_small q]; exact hm
  · rcases Nat.lt_or_ge m (nDigits u) with r | r
    · exfalso
      have h1 := nDigits_pos u
      obtain ⟨k, hk⟩ : ∃ k, nDigits u = k + 1 := ⟨nDigits u - 1, by omega⟩
      have h2 : 10 ^ k ≤ u := by
        rcases Nat.lt_or_ge u (10 ^ k) with z | z
        · exfalso
          have : ∀ k u, u < 10 ^ k → 1 ≤ k → nDigits u ≤ k := by
            intro k
            induction k with
            | zero => intro u _ h; omega
            | succ k ih =>
              intro u hu _
              rcases Nat.lt_or_ge u 10 with a | a
              · rw [nDigits_small a]; omega
              · rw [nDigits_big (by omega)]
                have h5 : u / 10 < 10 ^ k := by
                  rw [Nat.pow_succ] at hu
                  omega
                rcases Nat.eq_zero_or_pos k with b | b
                · subst b; simp at h5; omega
                · have := ih (u / 10) h5 b; omega
          rcases Nat.eq_zero_or_pos k with b | b
          · subst b; simp at z; subst z; rw [nDigits_small (by omega)] at hk; omega
          · have := this k u z b; omega
        · exact z
      have h3 : 10 ^ m ≤ 10 ^ k := Nat.pow_le_pow_right (by decide) (by omega)
      omega
    · exact r
theorem itoa_len {r : List UInt8} {v : Int} (h : intJ r = some v) : (itoa v).length ≤ r.length ∧ 1 ≤ r.length := by
  rw [int_doc, dinJ] at h
  have core : ∀ (d : List UInt8) (u : Nat), uJ d = some u → u < 10 ^ d.length ∧ 1 ≤ d.length := fun d u hu => by
    rw [uJ] at hu
    split at hu
    · cases hu
    · rename_i hc
      have h1 := dv_top hu
      refine ⟨by omega, ?_⟩
      rcases Nat.eq_zero_or_pos d.length with q | q
      · exact absurd (.inl (List.length_eq_zero_iff.1 q)) hc
      · exact q
  have fin : ∀ (minus : Bool) (o : Option Nat), finJ minus o = some v → ∃ u, o = some u ∧ (v = (u : Int) ∨ (minus = true ∧ v = -(u : Int))) := fun minus o ho => by
    cases o with
    | none => cases ho
    | some u =>
      refine ⟨u, rfl, ?_⟩
      rw [finJ] at ho
      split at ho
      · rename_i q; cases ho; right; refine ⟨q.1, ?_⟩; rw [q.2]; rfl
      · split at ho
        · cases ho
        · cases ho
          by_cases hm : minus = true
          · right; exact ⟨hm, by rw [if_pos hm]⟩
          · left; rw [if_neg hm]
  split at h
  · rename_i hh
    obtain ⟨u, hu, hv⟩ := fin true _ h
    obtain ⟨h1, h2⟩ := core _ u hu
    have hl : r.length = r.tail.length + 1 := by
      cases r with
      | nil => cases hh
      | cons c t => simp
    have h3 := dig_len h1 h2
    refine ⟨?_, by omega⟩
    rcases hv with rfl | ⟨_, rfl⟩
    · rw [itoa_nonneg]; omega
    · rcases Nat.eq_zero_or_pos u with q | q
      · subst q
        have : (itoa (-((0 : Nat) : Int))) = decDigits 0 := by rw [show (-((0 : Nat) : Int)) = ((0 : Nat) : Int) from rfl, itoa_nonneg]
        rw [this]; omega
      · rw [itoa_neg u q, List.length_cons]; omega
  · obtain ⟨u, hu, hv⟩ := fin false _ h
    obtain ⟨h1, h2⟩ := core _ u hu
    have h3 := dig_len h1 h2
    refine ⟨?_, h2⟩
    rcases hv with rfl | ⟨q, _⟩
    · rw [itoa_nonneg]; exact h3
    · cases q
end Go.Proofs.YtpmhdcmmlkjjmaaGreatDoor
