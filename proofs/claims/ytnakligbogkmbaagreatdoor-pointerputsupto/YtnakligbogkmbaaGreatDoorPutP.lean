import Derived.Test.YtnakligbogkmbaaGreatDoorG24
set_option linter.unusedSimpArgs false
set_option linter.unusedVariables false
namespace Go.Proofs.YtnakligbogkmbaaGreatDoor
open Go.RowKit Go.Lib
mutual
theorem chkV_ge (D : Nat) : ∀ (v : V) (lv : Nat) (st : St), (chkV D v lv st).1 = 0 → st.1 ≤ (chkV D v lv st).2.1 ∧ st.2.1 ≤ (chkV D v lv st).2.2.1
 | .mk k b i s l m, lv, st, h => by
  rw [chkV] at h ⊢
  simp only at h ⊢
  by_cases h1 : (entF D st.1 st.2.1 st.2.2 lv (goodB k b i s l.length m) (s.size + keyB m)).1 = 0
  ·have e1 := (ent_zero h1).1
   rw [if_pos h1] at h ⊢
   by_cases h2 : (chkL D l (lv + 1) (entF D st.1 st.2.1 st.2.2 lv (goodB k b i s l.length m) (s.size + keyB m)).2).1 = 0
   ·rw [if_pos h2] at h ⊢
    have a1 := chkM_ge D m (lv + 1) _ h
    have a2 := chkL_ge D l (lv + 1) _ h2
    have a3 : st.1 ≤ (entF D st.1 st.2.1 st.2.2 lv (goodB k b i s l.length m) (s.size + keyB m)).2.1 := by rw [e1]; show st.1 ≤ st.1 + 1; omega
    have a4 : st.2.1 ≤ (entF D st.1 st.2.1 st.2.2 lv (goodB k b i s l.length m) (s.size + keyB m)).2.2.1 := by rw [e1]; show st.2.1 ≤ st.2.1 + _; omega
    omega
   ·rw [if_neg h2] at h; exact absurd h h2
  ·rw [if_neg h1] at h; exact absurd h h1
theorem chkL_ge (D : Nat) : ∀ (l : List V) (lv : Nat) (st : St), (chkL D l lv st).1 = 0 → st.1 ≤ (chkL D l lv st).2.1 ∧ st.2.1 ≤ (chkL D l lv st).2.2.1
 | [], lv, st, h => by rw [chkL]; exact ⟨Nat.le_refl _, Nat.le_refl _⟩
 | x :: t, lv, st, h => by
  rw [chkL] at h ⊢
  by_cases h1 : (chkV D x lv st).1 = 0
  ·rw [if_pos h1] at h ⊢
   have a1 := chkL_ge D t lv _ h
   have a2 := chkV_ge D x lv st h1
   omega
  ·rw [if_neg h1] at h; exact absurd h h1
theorem chkM_ge (D : Nat) : ∀ (l : List Mem) (lv : Nat) (st : St), (chkM D l lv st).1 = 0 → st.1 ≤ (chkM D l lv st).2.1 ∧ st.2.1 ≤ (chkM D l lv st).2.2.1
 | [], lv, st, h => by rw [chkM]; exact ⟨Nat.le_refl _, Nat.le_refl _⟩
 | (k, x) :: t, lv, st, h => by
  rw [chkM] at h ⊢
  by_cases h1 : (chkV D x lv st).1 = 0
  ·rw [if_pos h1] at h ⊢
   have a1 := chkM_ge D t lv _ h
   have a2 := chkV_ge D x lv st h1
   omega
  ·rw [if_neg h1] at h; exact absurd h h1
end
theorem keyB_sub {l' l : List Mem} (hs : l'.Sublist l) : keyB l' ≤ keyB l := by
 induction hs with
 | slnil => exact Nat.le_refl _
 | cons x hs ih => simp only [keyB]; omega
 | cons_cons x hs ih => simp only [keyB]; omega
theorem rise_of {l : List Mem} (h : Srt l) (hu : ∀ y ∈ l, utfB y.1 = true) : riseB l = true := riseB_true fun j hj => by
 rw [okAt, keyAt_eq hj, hu _ (List.getElem_mem hj)]
 by_cases h0 : j = 0
 ·simp [h0]
 ·rw [keyAt_eq (show j - 1 < l.length by omega)]
  have := (List.pairwise_iff_getElem.1 h) (j - 1) j (by omega) hj (by omega)
  simp [this]
theorem rise_utf {l : List Mem} (h : riseB l = true) : ∀ x ∈ l, utfB x.1 = true := by
 intro x hx
 obtain ⟨j, hj, rfl⟩ := List.getElem_of_mem hx
 have h0 : ∀ j, j < l.length → okAt l j = true := by
  simpa only [riseB, List.all_eq_true, List.mem_range] using h
 have := h0 j hj
 rw [okAt, keyAt_eq hj] at this
 exact (Bool.and_eq_true _ _ ▸ this).1
def insL {α : Type} (l : List α) (j : Nat) (x : α) : List α := l.take j ++ ([x] ++ l.drop j)
def outL {α : Type} (l : List α) (j : Nat) : List α := l.take j ++ l.drop (j + 1)
theorem outL_zero {α : Type} (x : α) (t : List α) : outL (x :: t) 0 = t := by simp [outL]
theorem outL_succ {α : Type} (x : α) (t : List α) (j : Nat) : outL (x :: t) (j + 1) = x :: outL t j := by simp [outL]
theorem outL_sub {α : Type} : ∀ (l : List α) (j : Nat), (outL l j).Sublist l
 | [], j => by simp [outL]
 | x :: t, 0 => by rw [outL_zero]; exact List.sublist_cons_self ..
 | x :: t, j + 1 => by rw [outL_succ]; exact (outL_sub t j).cons_cons x
def Lss (lv : Nat) (y x : V) : Prop := ∀ (st st' : St), (chkV 40 x lv st).1 = 0 → st'.1 ≤ st.1 → st'.2.1 ≤ st.2.1 → (chkV 40 y lv st').1 = 0 ∧ (chkV 40 y lv st').2.1 ≤ (chkV 40 x lv st).2.1 ∧ (chkV 40 y lv st').2.2.1 ≤ (chkV 40 x lv st).2.2.1
theorem chkL_set {lv : Nat} {y : V} : ∀ (l : List V) (j : Nat) (h : j < l.length), Lss lv y l[j] → ∀ (st st' : St), (chkL 40 l lv st).1 = 0 → st'.1 ≤ st.1 → st'.2.1 ≤ st.2.1 → (chkL 40 (l.set j y) lv st').1 = 0 ∧ (chkL 40 (l.set j y) lv st').2.1 ≤ (chkL 40 l lv st).2.1 ∧ (chkL 40 (l.set j y) lv st').2.2.1 ≤ (chkL 40 l lv st).2.2.1
 | [], j, h, _, _, _, _, _, _ => by simp at h
 | x :: t, 0, h, hs, st, st', hc, h1, h2 => by
  rw [List.set_cons_zero]
  rw [chkL] at hc
  rw [chkL, chkL]
  by_cases hx : (chkV 40 x lv st).1 = 0
  ·rw [if_pos hx] at hc
   have q := hs st st' hx h1 h2
   rw [if_pos hx, if_pos q.1]
   exact chkL_mono 40 t lv lv _ _ hc (Nat.le_refl _) q.2.1 q.2.2
  ·rw [if_neg hx] at hc; exact absurd hc hx
 | x :: t, j + 1, h, hs, st, st', hc, h1, h2 => by
  rw [List.set_cons_succ]
  rw [chkL] at hc
  rw [chkL, chkL]
  by_cases hx : (chkV 40 x lv st).1 = 0
  ·rw [if_pos hx] at hc
   have q := chkV_mono 40 x lv lv st st' hx (Nat.le_refl _) h1 h2
   rw [if_pos hx, if_pos q.1]
   exact chkL_set t j (by simpa using h) (by simpa using hs) _ _ hc q.2.1 q.2.2
  ·rw [if_neg hx] at hc; exact absurd hc hx
theorem chkM_set {lv : Nat} {y : V} : ∀ (l : List Mem) (j : Nat) (h : j < l.length) (key : ByteArray), Lss lv y (l[j]).2 → ∀ (st st' : St), (chkM 40 l lv st).1 = 0 → st'.1 ≤ st.1 → st'.2.1 ≤ st.2.1 → (chkM 40 (l.set j (key, y)) lv st').1 = 0 ∧ (chkM 40 (l.set j (key, y)) lv st').2.1 ≤ (chkM 40 l lv st).2.1 ∧ (chkM 40 (l.set j (key, y)) lv st').2.2.1 ≤ (chkM 40 l lv st).2.2.1
 | [], j, h, _, _, _, _, _, _, _ => by simp at h
 | (k, x) :: t, 0, h, key, hs, st, st', hc, h1, h2 => by
  rw [List.set_cons_zero]
  rw [chkM] at hc
  rw [chkM, chkM]
  by_cases hx : (chkV 40 x lv st).1 = 0
  ·rw [if_pos hx] at hc
   have q := hs st st' hx h1 h2
   rw [if_pos hx, if_pos q.1]
   exact chkM_mono 40 t lv lv _ _ hc (Nat.le_refl _) q.2.1 q.2.2
  ·rw [if_neg hx] at hc; exact absurd hc hx
 | (k, x) :: t, j + 1, h, key, hs, st, st', hc, h1, h2 => by
  rw [List.set_cons_succ]
  rw [chkM] at hc
  rw [chkM, chkM]
  by_cases hx : (chkV 40 x lv st).1 = 0
  ·rw [if_pos hx] at hc
   have q := chkV_mono 40 x lv lv st st' hx (Nat.le_refl _) h1 h2
   rw [if_pos hx, if_pos q.1]
   exact chkM_set t j (by simpa using h) key (by simpa using hs) _ _ hc q.2.1 q.2.2
  ·rw [if_neg hx] at hc; exact absurd hc hx
theorem chkL_out {lv : Nat} : ∀ (l : List V) (j : Nat) (st st' : St), (chkL 40 l lv st).1 = 0 → st'.1 ≤ st.1 → st'.2.1 ≤ st.2.1 → (chkL 40 (outL l j) lv st').1 = 0 ∧ (chkL 40 (outL l j) lv st').2.1 ≤ (chkL 40 l lv st).2.1 ∧ (chkL 40 (outL l j) lv st').2.2.1 ≤ (chkL 40 l lv st).2.2.1
 | [], j, st, st', hc, h1, h2 => by
  have e : outL ([] : List V) j = [] := by simp [outL]
  rw [e, chkL, chkL]; exact ⟨rfl, h1, h2⟩
 | x :: t, 0, st, st', hc, h1, h2 => by
  rw [outL_zero]
  rw [chkL] at hc
  rw [chkL.eq_def 40 (x :: t)]
  simp only
  by_cases hx : (chkV 40 x lv st).1 = 0
  ·rw [if_pos hx] at hc
   rw [if_pos hx]
   have g := chkV_ge 40 x lv st hx
   exact chkL_mono 40 t lv lv _ _ hc (Nat.le_refl _) (by omega) (by omega)
  ·rw [if_neg hx] at hc; exact absurd hc hx
 | x :: t, j + 1, st, st', hc, h1, h2 => by
  rw [outL_succ]
  rw [chkL] at hc
  rw [chkL, chkL]
  by_cases hx : (chkV 40 x lv st).1 = 0
  ·rw [if_pos hx] at hc
   have q := chkV_mono 40 x lv lv st st' hx (Nat.le_refl _) h1 h2
   rw [if_pos hx, if_pos q.1]
   exact chkL_out t j _ _ hc q.2.1 q.2.2
  ·rw [if_neg hx] at hc; exact absurd hc hx
theorem chkM_out {lv : Nat} : ∀ (l : List Mem) (j : Nat) (st st' : St), (chkM 40 l lv st).1 = 0 → st'.1 ≤ st.1 → st'.2.1 ≤ st.2.1 → (chkM 40 (outL l j) lv st').1 = 0 ∧ (chkM 40 (outL l j) lv st').2.1 ≤ (chkM 40 l lv st).2.1 ∧ (chkM 40 (outL l j) lv st').2.2.1 ≤ (chkM 40 l lv st).2.2.1
 | [], j, st, st', hc, h1, h2 => by
  have e : outL ([] : List Mem) j = [] := by simp [outL]
  rw [e, chkM, chkM]; exact ⟨rfl, h1, h2⟩
 | (k, x) :: t, 0, st, st', hc, h1, h2 => by
  rw [outL_zero]
  rw [chkM] at hc
  rw [chkM.eq_def 40 ((k, x) :: t)]
  simp only
  by_cases hx : (chkV 40 x lv st).1 = 0
  ·rw [if_pos hx] at hc
   rw [if_pos hx]
   have g := chkV_ge 40 x lv st hx
   exact chkM_mono 40 t lv lv _ _ hc (Nat.le_refl _) (by omega) (by omega)
  ·rw [if_neg hx] at hc; exact absurd hc hx
 | (k, x) :: t, j + 1, st, st', hc, h1, h2 => by
  rw [outL_succ]
  rw [chkM] at hc
  rw [chkM, chkM]
  by_cases hx : (chkV 40 x lv st).1 = 0
  ·rw [if_pos hx] at hc
   have q := chkV_mono 40 x lv lv st st' hx (Nat.le_refl _) h1 h2
   rw [if_pos hx, if_pos q.1]
   exact chkM_out t j _ _ hc q.2.1 q.2.2
  ·rw [if_neg hx] at hc; exact absurd hc hx
theorem sub_of {k : Int} {b : Bool} {i : Int} {s : ByteArray} {l l' : List V} {m m' : List Mem} {lv : Nat} (hg : goodB k b i s l.length m = true → goodB k b i s l'.length m' = true) (hk : keyB m' ≤ keyB m)
 (hl : ∀ (st st' : St), (chkL 40 l (lv + 1) st).1 = 0 → st'.1 ≤ st.1 → st'.2.1 ≤ st.2.1 → (chkL 40 l' (lv + 1) st').1 = 0 ∧ (chkL 40 l' (lv + 1) st').2.1 ≤ (chkL 40 l (lv + 1) st).2.1 ∧ (chkL 40 l' (lv + 1) st').2.2.1 ≤ (chkL 40 l (lv + 1) st).2.2.1)
 (hm : ∀ (st st' : St), (chkM 40 m (lv + 1) st).1 = 0 → st'.1 ≤ st.1 → st'.2.1 ≤ st.2.1 → (chkM 40 m' (lv + 1) st').1 = 0 ∧ (chkM 40 m' (lv + 1) st').2.1 ≤ (chkM 40 m (lv + 1) st).2.1 ∧ (chkM 40 m' (lv + 1) st').2.2.1 ≤ (chkM 40 m (lv + 1) st).2.2.1) : Lss lv (.mk k b i s l' m') (.mk k b i s l m) := by
 intro st st' h h1 h2
 rw [chkV] at h ⊢
 rw [chkV]
 simp only at h ⊢
 by_cases hr : (entF 40 st.1 st.2.1 st.2.2 lv (goodB k b i s l.length m) (s.size + keyB m)).1 = 0
 ·rw [if_pos hr] at h
  obtain ⟨e1, k1, k2, k3, k4⟩ := ent_zero hr
  have e2 : entF 40 st'.1 st'.2.1 st'.2.2 lv (goodB k b i s l'.length m') (s.size + keyB m') = (0, st'.1 + 1, st'.2.1 + (s.size + keyB m'), max st'.2.2 lv) := by
   unfold entF
   rw [if_neg (by omega), if_neg (by omega), if_neg (by rw [hg k3]; simp), if_neg (by omega)]
  rw [e1] at h
  rw [e1, e2]
  simp only [if_true] at h ⊢
  by_cases hq : (chkL 40 l (lv + 1) (st.1 + 1, st.2.1 + (s.size + keyB m), max st.2.2 lv)).1 = 0
  ·rw [if_pos hq] at h
   have q := hl (st.1 + 1, st.2.1 + (s.size + keyB m), max st.2.2 lv) (st'.1 + 1, st'.2.1 + (s.size + keyB m'), max st'.2.2 lv) hq (by simp only; omega) (by simp only; omega)
   rw [if_pos hq, if_pos q.1]
   exact hm _ _ h q.2.1 q.2.2
  ·rw [if_neg hq] at h; exact absurd h hq
 ·rw [if_neg hr] at h; exact absurd h hr
theorem keyB_set : ∀ (l : List Mem) (j : Nat) (h : j < l.length) (y : V), keyB (l.set j ((l[j]).1, y)) = keyB l
 | [], j, h, y => by simp at h
 | x :: t, 0, h, y => by simp [keyB]
 | x :: t, j + 1, h, y => by
  have := keyB_set t j (by simpa using h) y
  simpa [keyB] using this
theorem rise_set {l : List Mem} {j : Nat} (h : j < l.length) (y : V) (hr : riseB l = true) : riseB (l.set j ((l[j]).1, y)) = true := by
 have hk : ∀ q, keyAt (l.set j ((l[j]).1, y)) q = keyAt l q := fun q => by
  unfold keyAt
  rw [List.getElem?_set]
  by_cases e : j = q
  ·subst e
   rw [if_pos rfl, if_pos h, List.getElem?_eq_getElem h]
  ·rw [if_neg e]
 rw [riseB] at hr ⊢
 rw [List.length_set]
 rw [List.all_eq_true] at hr ⊢
 intro q hq
 have := hr q hq
 rw [okAt] at this ⊢
 rw [hk, hk]
 exact this
theorem sub_repl {v y : V} {j lv : Nat} (hj : kidAt v j) (hs : Lss (lv + 1) y (kid v j)) : Lss lv (replV v j y) v := by
 obtain ⟨k, b, i, s, l, m⟩ := v
 rcases hj with ⟨hk, hj⟩ | ⟨hk, hj⟩
 ·have hk' : k = 4 := hk
  subst hk'
  have hj' : j < l.length := hj
  have e : kid (.mk 4 b i s l m) j = l[j] := by
   show (l.getD j nullV) = _
   rw [List.getD_eq_getElem?_getD, List.getElem?_eq_getElem hj']; rfl
  rw [e] at hs
  show Lss lv (.mk 4 b i s (l.set j y) m) _
  exact sub_of (fun h => by rw [List.length_set]; exact h) (Nat.le_refl _) (fun st st' => chkL_set l j hj' hs st st') (fun st st' h h1 h2 => chkM_mono 40 m _ _ st st' h (Nat.le_refl _) h1 h2)
 ·have hk' : k = 5 := hk
  subst hk'
  have hj' : j < m.length := hj
  have e : kid (.mk 5 b i s l m) j = (m[j]).2 := by
   show (m.getD j (⟨#[]⟩, nullV)).2 = _
   rw [List.getD_eq_getElem?_getD, List.getElem?_eq_getElem hj']; rfl
  have e2 : (m.getD j (⟨#[]⟩, nullV)).1 = (m[j]).1 := by rw [List.getD_eq_getElem?_getD, List.getElem?_eq_getElem hj']; rfl
  rw [e] at hs
  show Lss lv (.mk 5 b i s l (m.set j ((m.getD j (⟨#[]⟩, nullV)).1, y))) _
  rw [e2]
  refine sub_of (fun h => ?_) (by rw [keyB_set m j hj' y]; exact Nat.le_refl _) (fun st st' h h1 h2 => chkL_mono 40 l _ _ st st' h (Nat.le_refl _) h1 h2) (fun st st' => chkM_set m j hj' _ hs st st')
  simp only [goodB, Bool.and_eq_true] at h ⊢
  rw [List.length_set]
  exact ⟨h.1, rise_set hj' y h.2⟩
def remV : V → Nat → V
 | .mk k b i s l m, j => if k = 4 then .mk k b i s (outL l j) m else .mk k b i s l (outL m j)
theorem sub_rem {v : V} {j lv : Nat} (hj : kidAt v j) : Lss lv (remV v j) v := by
 obtain ⟨k, b, i, s, l, m⟩ := v
 rcases hj with ⟨hk, hj⟩ | ⟨hk, hj⟩
 ·have hk' : k = 4 := hk
  subst hk'
  show Lss lv (.mk 4 b i s (outL l j) m) _
  refine sub_of (fun h => ?_) (Nat.le_refl _) (fun st st' => chkL_out l j st st') (fun st st' h h1 h2 => chkM_mono 40 m _ _ st st' h (Nat.le_refl _) h1 h2)
  simp only [goodB, Bool.and_eq_true, plainB, decide_eq_true_iff] at h ⊢
  exact ⟨⟨⟨h.1.1.1, h.1.1.2.1, h.1.1.2.2.1, h.1.1.2.2.2.1, h.1.1.2.2.2.2.1, .inl trivial, h.1.1.2.2.2.2.2.2⟩, h.1.2⟩, h.2⟩
 ·have hk' : k = 5 := hk
  subst hk'
  show Lss lv (.mk 5 b i s l (outL m j)) _
  refine sub_of (fun h => ?_) (keyB_sub (outL_sub m j)) (fun st st' h h1 h2 => chkL_mono 40 l _ _ st st' h (Nat.le_refl _) h1 h2) (fun st st' => chkM_out m j st st')
  simp only [goodB, Bool.and_eq_true, plainB, decide_eq_true_iff] at h ⊢
  exact ⟨⟨⟨h.1.1.1, h.1.1.2.1, h.1.1.2.2.1, h.1.1.2.2.2.1, h.1.1.2.2.2.2.1, h.1.1.2.2.2.2.2.1, .inl trivial⟩, h.1.2⟩, rise_of (List.Pairwise.sublist (outL_sub m j) (srt_rise h.2)) (fun y hy => rise_utf h.2 y ((outL_sub m j).subset hy))⟩
theorem sub_chk {y x : V} (h : Lss 0 y x) (hx : chkE x 40 = 0) : chkE y 40 = 0 := by
 rw [chkE40] at hx ⊢
 exact (h (0, 0, 0) (0, 0, 0) hx (Nat.le_refl _) (Nat.le_refl _)).1
def gapF (t : ByteArray) (n : Nat) : Option Nat := if t.data.toList = [45] then some n else idxF t.data.toList (n + 1)
def addF : V → ByteArray → V → V × Int
 | .mk k b i s l m, t, x => if k = 5 then (if keyIs t m[posF m t]? = true then (replV (.mk k b i s l m) (posF m t) x, 0) else (.mk k b i s l (insL m (posF m t) (t, x)), 0))
  else if k = 4 then ((gapF t l.length).elim (nullV, 42) (fun j => (.mk k b i s (insL l j x) m, 0)))
  else (nullV, 41)
def takFn (t : ByteArray) (w : V) : V × Int := if (ledF w t).2 = 0 then (remV w (ledF w t).1, 0) else (nullV, (ledF w t).2)
def rd2F (v : V) (p : ByteArray) (x : V) : Int := if rdF v p = 0 then (chkE x 40 : Int) else rdF v p
def setF (v : V) (p : ByteArray) (x : V) : V × Int := if rd2F v p x = 0 then nweF (wkV (fun _ => (x, 0)) v (toksOf p)).1 (wkV (fun _ => (x, 0)) v (toksOf p)).2.1 else (nullV, rd2F v p x)
def lastT (ts : List ByteArray) : ByteArray := ts.getLastD ⟨#[]⟩
def addPF (v : V) (p : ByteArray) (x : V) : V × Int := if rd2F v p x = 0 then (if toksOf p = [] then nweF x 0 else nweF (wkV (fun w => addF w (lastT (toksOf p)) x) v (toksOf p).dropLast).1 (wkV (fun w => addF w (lastT (toksOf p)) x) v (toksOf p).dropLast).2.1) else (nullV, rd2F v p x)
def wasF (t : ByteArray) (o : Option V) : V := o.elim nullV (fun y => if (ledF y t).2 = 0 then kid y (ledF y t).1 else nullV)
def takF (v : V) (p : ByteArray) : V × V × Int := if rdF v p = 0 then (if toksOf p = [] then (nullV, nullV, 41) else ((nweF (wkV (takFn (lastT (toksOf p))) v (toksOf p).dropLast).1 (wkV (takFn (lastT (toksOf p))) v (toksOf p).dropLast).2.1).1, clnV (wasF (lastT (toksOf p)) (wkV (takFn (lastT (toksOf p))) v (toksOf p).dropLast).2.2), (nweF (wkV (takFn (lastT (toksOf p))) v (toksOf p).dropLast).1 (wkV (takFn (lastT (toksOf p))) v (toksOf p).dropLast).2.1).2)) else (nullV, nullV, rdF v p)
def withR : V → Nat → V → V
 | .mk k _ _ _ l m, j, z => .mk k false 0 ⟨#[]⟩ (l.set j z) (m.set j ((m.getD j (⟨#[]⟩, nullV)).1, z))
def outR : V → Nat → V
 | .mk k _ _ _ l m, j => .mk k false 0 ⟨#[]⟩ (outL l j) (outL m j)
def addR : V → ByteArray → V → V × Int
 | .mk k b i s l m, t, x => if k = 5 then (.mk k false 0 ⟨#[]⟩ [] (m.take (posF m t) ++ ([(t, x)] ++ m.drop (if keyIs t m[posF m t]? = true then posF m t + 1 else posF m t))), 0)
  else if k = 4 then ((gapF t l.length).elim (.mk k b i s l m, 42) (fun j => (.mk k false 0 ⟨#[]⟩ (insL l j x) [], 0)))
  else (.mk k b i s l m, 41)
def doneF (what : Nat) (x : V) : V → List ByteArray → V × V × Int
 | v, [] => if what = 3 then (nullV, nullV, 41) else (x, v, 0)
 | v, t :: ts => if ts = [] ∧ what = 2 then ((addR v t x).1, nullV, (addR v t x).2)
  else if (ledF v t).2 = 0 then (if ts = [] ∧ what = 3 then (outR v (ledF v t).1, kid v (ledF v t).1, 0)
   else (if (doneF what x (kid v (ledF v t).1) ts).2.2 = 0 then (withR v (ledF v t).1 (doneF what x (kid v (ledF v t).1) ts).1, (doneF what x (kid v (ledF v t).1) ts).2.1, 0) else (nullV, nullV, (doneF what x (kid v (ledF v t).1) ts).2.2)))
  else (nullV, nullV, (ledF v t).2)
def putR (what : Nat) (v : V) (p : ByteArray) (x : V) : V × Int := if rd2F v p x = 0 then nweF (doneF what x v (toksOf p)).1 (doneF what x v (toksOf p)).2.2 else (nullV, rd2F v p x)
def takR (v : V) (p : ByteArray) : V × V × Int := if rdF v p = 0 then doneF 3 nullV v (toksOf p) else (nullV, nullV, rdF v p)
theorem ba_nil {s : ByteArray} (h : s.toList.isEmpty = true) : s = ⟨#[]⟩ := by
 rw [ByteArray.toList_eq] at h
 rcases s with ⟨⟨q⟩⟩
 simp only at h
 cases q with
 | nil => rfl
 | cons x t => simp at h
theorem with_repl {v : V} {j : Nat} (hg : allG v) (hj : kidAt v j) (z : V) : withR v j z = replV v j z := by
 obtain ⟨k, b, i, s, l, m⟩ := v
 rw [allG] at hg
 have h := hg.1
 simp only [goodB, Bool.and_eq_true, plainB, decide_eq_true_iff] at h
 obtain ⟨⟨⟨_, _, h1, h2, h3, h4, h5⟩, _⟩, _⟩ := h
 rcases hj with ⟨hk, _⟩ | ⟨hk, _⟩
 ·have hk' : k = 4 := hk
  subst hk'
  obtain rfl : b = false := h1.resolve_left (by decide)
  obtain rfl : i = 0 := h2.resolve_left (by decide)
  obtain rfl := ba_nil (h3.resolve_left (by decide))
  have hm0 : m = [] := List.length_eq_zero_iff.1 (h5.resolve_left (by decide))
  subst hm0
  rw [withR, replV, if_pos rfl]
  simp
 ·have hk' : k = 5 := hk
  subst hk'
  obtain rfl : b = false := h1.resolve_left (by decide)
  obtain rfl : i = 0 := h2.resolve_left (by decide)
  obtain rfl := ba_nil (h3.resolve_left (by decide))
  have hl0 : l = [] := List.length_eq_zero_iff.1 (h4.resolve_left (by decide))
  subst hl0
  rw [withR, replV, if_neg (by decide)]
  simp
theorem out_rem {v : V} {j : Nat} (hg : allG v) (hj : kidAt v j) : outR v j = remV v j := by
 obtain ⟨k, b, i, s, l, m⟩ := v
 rw [allG] at hg
 have h := hg.1
 simp only [goodB, Bool.and_eq_true, plainB, decide_eq_true_iff] at h
 obtain ⟨⟨⟨_, _, h1, h2, h3, h4, h5⟩, _⟩, _⟩ := h
 rcases hj with ⟨hk, _⟩ | ⟨hk, _⟩
 ·have hk' : k = 4 := hk
  subst hk'
  obtain rfl : b = false := h1.resolve_left (by decide)
  obtain rfl : i = 0 := h2.resolve_left (by decide)
  obtain rfl := ba_nil (h3.resolve_left (by decide))
  have hm0 : m = [] := List.length_eq_zero_iff.1 (h5.resolve_left (by decide))
  subst hm0
  rw [outR, remV, if_pos rfl]
  simp [outL]
 ·have hk' : k = 5 := hk
  subst hk'
  obtain rfl : b = false := h1.resolve_left (by decide)
  obtain rfl : i = 0 := h2.resolve_left (by decide)
  obtain rfl := ba_nil (h3.resolve_left (by decide))
  have hl0 : l = [] := List.length_eq_zero_iff.1 (h4.resolve_left (by decide))
  subst hl0
  rw [outR, remV, if_neg (by decide)]
  simp [outL]
theorem set_ins {m : List Mem} {p : Nat} (h : p < m.length) (y : Mem) : m.set p y = m.take p ++ ([y] ++ m.drop (p + 1)) := by
 rw [List.set_eq_take_append_cons_drop, if_pos h]; rfl
theorem add_same {v : V} (hg : allG v) (t : ByteArray) (x : V) : (addR v t x).2 = (addF v t x).2 ∧ ((addF v t x).2 = 0 → (addR v t x).1 = (addF v t x).1) := by
 obtain ⟨k, b, i, s, l, m⟩ := v
 rw [allG] at hg
 have h := hg.1
 simp only [goodB, Bool.and_eq_true, plainB, decide_eq_true_iff] at h
 obtain ⟨⟨⟨_, _, h1, h2, h3, h4, h5⟩, _⟩, _⟩ := h
 rw [addR, addF]
 by_cases hk5 : k = 5
 ·subst hk5
  obtain rfl : b = false := h1.resolve_left (by decide)
  obtain rfl : i = 0 := h2.resolve_left (by decide)
  obtain rfl := ba_nil (h3.resolve_left (by decide))
  have hl0 : l = [] := List.length_eq_zero_iff.1 (h4.resolve_left (by decide))
  subst hl0
  rw [if_pos rfl, if_pos rfl]
  by_cases hq : keyIs t m[posF m t]? = true
  ·rw [if_pos hq, if_pos hq]
   refine ⟨rfl, fun _ => ?_⟩
   have hp : posF m t < m.length := by
    rcases Nat.lt_or_ge (posF m t) m.length with h | h
    ·exact h
    ·rw [List.getElem?_eq_none h] at hq; simp [keyIs] at hq
   rw [List.getElem?_eq_getElem hp, keyIs, beq_iff_eq, ByteArray.toList_eq, ByteArray.toList_eq] at hq
   have hkey : (m[posF m t]).1 = t := by
    generalize (m[posF m t]).1 = q at *
    rcases q with ⟨⟨q⟩⟩
    rcases t with ⟨⟨t⟩⟩
    simp only at hq
    rw [hq]
   have e2 : (m.getD (posF m t) (⟨#[]⟩, nullV)).1 = t := by rw [List.getD_eq_getElem?_getD, List.getElem?_eq_getElem hp]; exact hkey
   simp only [replV]
   rw [if_neg (by decide), e2, set_ins hp]
  ·rw [if_neg hq, if_neg hq]
   exact ⟨rfl, fun _ => rfl⟩
 ·rw [if_neg hk5, if_neg hk5]
  by_cases hk4 : k = 4
  ·subst hk4
   obtain rfl : b = false := h1.resolve_left (by decide)
   obtain rfl : i = 0 := h2.resolve_left (by decide)
   obtain rfl := ba_nil (h3.resolve_left (by decide))
   have hm0 : m = [] := List.length_eq_zero_iff.1 (h5.resolve_left (by decide))
   subst hm0
   rw [if_pos rfl, if_pos rfl]
   cases gapF t l.length with
   | none => exact ⟨rfl, fun h => by simp at h⟩
   | some j => exact ⟨rfl, fun _ => rfl⟩
  ·rw [if_neg hk4, if_neg hk4]
   exact ⟨rfl, fun h => by simp at h⟩
theorem null_chk : chkE nullV 40 = 0 := by kernel_rfl
theorem done_set (x : V) : ∀ (ts : List ByteArray) (v : V), allG v → (doneF 1 x v ts).2.2 = (wkV (fun _ => (x, 0)) v ts).2.1 ∧ ((doneF 1 x v ts).2.2 = 0 → (doneF 1 x v ts).1 = (wkV (fun _ => (x, 0)) v ts).1)
 | [], v, hg => by rw [doneF, wkV, if_neg (by decide)]; exact ⟨rfl, fun _ => rfl⟩
 | t :: ts, v, hg => by
  rw [doneF, wkV, if_neg (fun h => by omega)]
  by_cases h0 : (ledF v t).2 = 0
  ·have hk := led_kid h0
   have ih := done_set x ts (kid v (ledF v t).1) (allG_kid hg hk)
   rw [if_pos h0, if_pos h0, if_neg (fun h => by omega)]
   by_cases h1 : (wkV (fun _ => (x, 0)) (kid v (ledF v t).1) ts).2.1 = 0
   ·rw [if_pos h1, if_pos (ih.1.trans h1)]
    exact ⟨rfl, fun _ => by show withR _ _ _ = replV _ _ _; rw [with_repl hg hk, ih.2 (ih.1.trans h1)]⟩
   ·rw [if_neg h1, if_neg (fun h => h1 (ih.1.symm.trans h))]
    exact ⟨ih.1, fun h => absurd (ih.1.symm.trans h) h1⟩
  ·rw [if_neg h0, if_neg h0]
   exact ⟨rfl, fun h => absurd h h0⟩
theorem last_cons (t t' : ByteArray) (ts : List ByteArray) : lastT (t :: t' :: ts) = lastT (t' :: ts) := by simp [lastT]
theorem done_add (x : V) : ∀ (ts : List ByteArray) (v : V), ts ≠ [] → allG v → (doneF 2 x v ts).2.2 = (wkV (fun w => addF w (lastT ts) x) v ts.dropLast).2.1 ∧ ((doneF 2 x v ts).2.2 = 0 → (doneF 2 x v ts).1 = (wkV (fun w => addF w (lastT ts) x) v ts.dropLast).1)
 | [], v, hn, hg => absurd rfl hn
 | [t], v, hn, hg => by
  have h := add_same hg t x
  rw [doneF, if_pos ⟨rfl, rfl⟩]
  show (addR v t x).2 = (wkV _ v []).2.1 ∧ _
  rw [wkV]
  exact ⟨h.1, fun h0 => h.2 (h.1.symm.trans h0)⟩
 | t :: t' :: ts, v, hn, hg => by
  rw [last_cons, List.dropLast_cons_of_ne_nil (by simp), doneF, wkV, if_neg (fun h => by simp at h)]
  by_cases h0 : (ledF v t).2 = 0
  ·have hk := led_kid h0
   have ih := done_add x (t' :: ts) (kid v (ledF v t).1) (by simp) (allG_kid hg hk)
   rw [if_pos h0, if_pos h0, if_neg (fun h => by simp at h)]
   by_cases h1 : (wkV (fun w => addF w (lastT (t' :: ts)) x) (kid v (ledF v t).1) (t' :: ts).dropLast).2.1 = 0
   ·rw [if_pos h1, if_pos (ih.1.trans h1)]
    exact ⟨rfl, fun _ => by show withR _ _ _ = replV _ _ _; rw [with_repl hg hk, ih.2 (ih.1.trans h1)]⟩
   ·rw [if_neg h1, if_neg (fun h => h1 (ih.1.symm.trans h))]
    exact ⟨ih.1, fun h => absurd (ih.1.symm.trans h) h1⟩
  ·rw [if_neg h0, if_neg h0]
   exact ⟨rfl, fun h => absurd h h0⟩
theorem done_take : ∀ (ts : List ByteArray) (v : V) (lv : Nat), ts ≠ [] → allG v → (doneF 3 nullV v ts).2.2 = (wkV (takFn (lastT ts)) v ts.dropLast).2.1 ∧ ((doneF 3 nullV v ts).2.2 = 0 → (doneF 3 nullV v ts).1 = (wkV (takFn (lastT ts)) v ts.dropLast).1 ∧ Lss lv (doneF 3 nullV v ts).1 v) ∧ (doneF 3 nullV v ts).2.1 = wasF (lastT ts) (wkV (takFn (lastT ts)) v ts.dropLast).2.2 ∧ (¬ (doneF 3 nullV v ts).2.2 = 0 → (doneF 3 nullV v ts).1 = nullV ∧ (doneF 3 nullV v ts).2.1 = nullV) ∧ (chkE v 40 = 0 → chkE (doneF 3 nullV v ts).2.1 40 = 0)
 | [], v, lv, hn, hg => absurd rfl hn
 | [t], v, lv, hn, hg => by
  show _ = (wkV _ v []).2.1 ∧ (_ → _ = (wkV _ v []).1 ∧ _) ∧ _ = wasF _ (wkV _ v []).2.2 ∧ _
  rw [doneF, wkV, if_neg (fun h => by simp at h)]
  show _ = (takFn t v).2 ∧ (_ → _ = (takFn t v).1 ∧ _) ∧ _ = wasF t (some v) ∧ _
  rw [takFn]
  by_cases h0 : (ledF v t).2 = 0
  ·have hk := led_kid h0
   rw [if_pos h0, if_pos h0, if_pos ⟨rfl, rfl⟩]
   refine ⟨rfl, fun _ => ⟨out_rem hg hk, ?_⟩, ?_, fun h => absurd rfl h, fun h => chk_kid h hk⟩
   ·show Lss lv (outR _ _) v
    rw [out_rem hg hk]; exact sub_rem hk
   ·show _ = (if (ledF v t).2 = 0 then kid v (ledF v t).1 else nullV)
    rw [if_pos h0]
  ·rw [if_neg h0, if_neg h0]
   refine ⟨rfl, fun h => absurd h h0, ?_, fun _ => ⟨rfl, rfl⟩, fun _ => null_chk⟩
   show _ = (if (ledF v t).2 = 0 then kid v (ledF v t).1 else nullV)
   rw [if_neg h0]
 | t :: t' :: ts, v, lv, hn, hg => by
  rw [last_cons, List.dropLast_cons_of_ne_nil (by simp), doneF, wkV, if_neg (fun h => by simp at h)]
  by_cases h0 : (ledF v t).2 = 0
  ·have hk := led_kid h0
   have ih := done_take (t' :: ts) (kid v (ledF v t).1) (lv + 1) (by simp) (allG_kid hg hk)
   rw [if_pos h0, if_pos h0, if_neg (fun h => by simp at h)]
   by_cases h1 : (wkV (takFn (lastT (t' :: ts))) (kid v (ledF v t).1) (t' :: ts).dropLast).2.1 = 0
   ·have h2 := ih.1.trans h1
    rw [if_pos h1, if_pos h2]
    refine ⟨rfl, fun _ => ⟨?_, ?_⟩, ih.2.2.1, fun h => absurd rfl h, fun h => ih.2.2.2.2 (chk_kid h hk)⟩
    ·show withR _ _ _ = replV _ _ _
     rw [with_repl hg hk, (ih.2.1 h2).1]
    ·show Lss lv (withR _ _ _) v
     rw [with_repl hg hk]
     exact sub_repl hk (ih.2.1 h2).2
   ·have h2 : ¬ (doneF 3 nullV (kid v (ledF v t).1) (t' :: ts)).2.2 = 0 := fun h => h1 (ih.1.symm.trans h)
    rw [if_neg h1, if_neg h2]
    refine ⟨ih.1, fun h => absurd h h2, ?_, fun _ => ⟨rfl, rfl⟩, fun _ => null_chk⟩
    exact (ih.2.2.2.1 h2).2.symm.trans ih.2.2.1
  ·rw [if_neg h0, if_neg h0]
   exact ⟨rfl, fun h => absurd h h0, rfl, fun _ => ⟨rfl, rfl⟩, fun _ => null_chk⟩
theorem nwe_of {y z : V} {e : Int} (h : e = 0 → y = z) : nweF y e = nweF z e := by
 rw [nweF, nweF]
 by_cases he : e = 0
 ·rw [if_pos he, if_pos he, h he]
 ·rw [if_neg he, if_neg he]
theorem rd2_zero {v x : V} {p : ByteArray} (h : rd2F v p x = 0) : rdF v p = 0 ∧ chkE x 40 = 0 := by
 rw [rd2F] at h
 split at h
 ·rename_i h0
  exact ⟨h0, by omega⟩
 ·rename_i h0
  exact absurd h h0
theorem rd_allG {v : V} {p : ByteArray} (h : rdF v p = 0) : allG v := chkV_allG 40 v 0 (0, 0, 0) (by rw [← chkE40]; exact rdF_chk h)
theorem set_same (v : V) (p : ByteArray) (x : V) : setF v p x = putR 1 v p x := by
 rw [setF, putR]
 split
 ·rename_i h
  have hd := done_set x (toksOf p) v (rd_allG (rd2_zero h).1)
  rw [← hd.1]
  exact (nwe_of hd.2).symm
 ·rfl
theorem addp_same (v : V) (p : ByteArray) (x : V) : addPF v p x = putR 2 v p x := by
 rw [addPF, putR]
 split
 ·rename_i h
  by_cases ht : toksOf p = []
  ·rw [if_pos ht, ht, doneF, if_neg (by decide)]
  ·rw [if_neg ht]
   have hd := done_add x (toksOf p) v ht (rd_allG (rd2_zero h).1)
   rw [← hd.1]
   exact (nwe_of hd.2).symm
 ·rfl
theorem cln_of {y : V} (h : chkE y 40 = 0) : clnV y = y := by
 rw [clnV, if_pos]
 rw [okV, ← chkE40]
 exact decide_eq_true h
theorem tak_same (v : V) (p : ByteArray) : takF v p = takR v p := by
 rw [takF, takR]
 split
 ·rename_i h
  by_cases ht : toksOf p = []
  ·rw [if_pos ht, ht, doneF, if_pos rfl]
  ·rw [if_neg ht]
   have hd := done_take (toksOf p) v 0 ht (rd_allG h)
   have hc := hd.2.2.2.2 (rdF_chk h)
   rw [← hd.1, ← hd.2.2.1, cln_of hc]
   by_cases he : (doneF 3 nullV v (toksOf p)).2.2 = 0
   ·have h1 := hd.2.1 he
    have hq := sub_chk h1.2 (rdF_chk h)
    rw [← h1.1, nweF, if_pos he, if_pos hq]
    exact Prod.ext rfl (Prod.ext rfl he.symm)
   ·have h1 := hd.2.2.2.1 he
    rw [nweF, if_neg he]
    exact Prod.ext h1.1.symm (Prod.ext rfl rfl)
 ·rfl
end Go.Proofs.YtnakligbogkmbaaGreatDoor
