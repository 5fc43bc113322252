/- joined: KdsP PutP -/
import Derived.Test.YtgnofbigggmilaaGreatDoorG23
set_option linter.unusedSimpArgs false
set_option linter.unusedVariables false
namespace Go.Proofs.YtgnofbigggmilaaGreatDoor
open Go.RowKit Go.Lib
theorem ent_zero {D n y d lv : Nat} {g : Bool} {z : Nat} (h : (entF D n y d lv g z).1 = 0) : entF D n y d lv g z = (0, n + 1, y + z, max d lv) ∧ n < 65536 ∧ lv ≤ D ∧ g = true ∧ y + z ≤ 1048576 := by
 unfold entF at *
 split at h
 ·simp at h
 split at h
 ·simp at h
 split at h
 ·simp at h
 split at h
 ·simp at h
 rename_i h1 h2 h3 h4
 rw [if_neg h1, if_neg h2, if_neg h3, if_neg h4]
 exact ⟨rfl, by omega, by omega, by simpa using h3, by omega⟩
theorem ent_mono {D n y d lv n' y' d' lv' : Nat} {g : Bool} {z : Nat} (h : (entF D n y d lv g z).1 = 0) (h1 : n' ≤ n) (h2 : y' ≤ y) (h3 : lv' ≤ lv) : entF D n' y' d' lv' g z = (0, n' + 1, y' + z, max d' lv') := by
 obtain ⟨_, k1, k2, k3, k4⟩ := ent_zero h
 unfold entF
 rw [if_neg (by omega), if_neg (by omega), if_neg (by simp [k3]), if_neg (by omega)]
mutual
theorem chkV_mono (D : Nat) : ∀ (v : V) (lv lv' : Nat) (st st' : St), (chkV D v lv st).1 = 0 → lv' ≤ lv → st'.1 ≤ st.1 → st'.2.1 ≤ st.2.1 → (chkV D v lv' st').1 = 0 ∧ (chkV D v lv' st').2.1 ≤ (chkV D v lv st).2.1 ∧ (chkV D v lv' st').2.2.1 ≤ (chkV D v lv st).2.2.1
 | .mk k b i s l m, lv, lv', st, st', h, h1, h2, h3 => by
  rw [chkV] at h ⊢
  simp only at h ⊢
  by_cases hr : (entF D st.1 st.2.1 st.2.2 lv (goodB k b i s l.length m) (s.size + keyB m)).1 = 0
  ·rw [if_pos hr] at h
   have e1 := (ent_zero hr).1
   have e2 := ent_mono (d' := st'.2.2) hr h2 h3 h1
   rw [chkV]
   simp only
   rw [e1] at h
   rw [e1, e2]
   simp only [if_true] at h ⊢
   by_cases hq : (chkL D l (lv + 1) (st.1 + 1, st.2.1 + (s.size + keyB m), max st.2.2 lv)).1 = 0
   ·rw [if_pos hq] at h
    have q := chkL_mono D l (lv + 1) (lv' + 1) (st.1 + 1, st.2.1 + (s.size + keyB m), max st.2.2 lv) (st'.1 + 1, st'.2.1 + (s.size + keyB m), max st'.2.2 lv') hq (by omega) (by simp only; omega) (by simp only; omega)
    rw [if_pos hq, if_pos q.1]
    exact chkM_mono D m (lv + 1) (lv' + 1) _ _ h (by omega) q.2.1 q.2.2
   ·rw [if_neg hq] at h
    exact absurd h hq
  ·rw [if_neg hr] at h
   exact absurd h hr
theorem chkL_mono (D : Nat) : ∀ (l : List V) (lv lv' : Nat) (st st' : St), (chkL D l lv st).1 = 0 → lv' ≤ lv → st'.1 ≤ st.1 → st'.2.1 ≤ st.2.1 → (chkL D l lv' st').1 = 0 ∧ (chkL D l lv' st').2.1 ≤ (chkL D l lv st).2.1 ∧ (chkL D l lv' st').2.2.1 ≤ (chkL D l lv st).2.2.1
 | [], lv, lv', st, st', h, h1, h2, h3 => by rw [chkL, chkL]; exact ⟨rfl, h2, h3⟩
 | x :: t, lv, lv', st, st', h, h1, h2, h3 => by
  rw [chkL] at h
  rw [chkL, chkL]
  by_cases hx : (chkV D x lv st).1 = 0
  ·rw [if_pos hx] at h
   have q := chkV_mono D x lv lv' st st' hx h1 h2 h3
   rw [if_pos hx, if_pos q.1]
   exact chkL_mono D t lv lv' _ _ h h1 q.2.1 q.2.2
  ·rw [if_neg hx] at h
   exact absurd h hx
theorem chkM_mono (D : Nat) : ∀ (l : List Mem) (lv lv' : Nat) (st st' : St), (chkM D l lv st).1 = 0 → lv' ≤ lv → st'.1 ≤ st.1 → st'.2.1 ≤ st.2.1 → (chkM D l lv' st').1 = 0 ∧ (chkM D l lv' st').2.1 ≤ (chkM D l lv st).2.1 ∧ (chkM D l lv' st').2.2.1 ≤ (chkM D l lv st).2.2.1
 | [], lv, lv', st, st', h, h1, h2, h3 => by rw [chkM, chkM]; exact ⟨rfl, h2, h3⟩
 | (k, x) :: t, lv, lv', st, st', h, h1, h2, h3 => by
  rw [chkM] at h
  rw [chkM, chkM]
  by_cases hx : (chkV D x lv st).1 = 0
  ·rw [if_pos hx] at h
   have q := chkV_mono D x lv lv' st st' hx h1 h2 h3
   rw [if_pos hx, if_pos q.1]
   exact chkM_mono D t lv lv' _ _ h h1 q.2.1 q.2.2
  ·rw [if_neg hx] at h
   exact absurd h hx
end
theorem chkM_mem {D : Nat} : ∀ {l : List Mem} {lv : Nat} {st : St}, (chkM D l lv st).1 = 0 → ∀ x ∈ l, ∃ st', (chkV D x.2 lv st').1 = 0
 | [], lv, st, h, x, hx => by cases hx
 | (k, y) :: t, lv, st, h, x, hx => by
  rw [chkM] at h
  by_cases hy : (chkV D y lv st).1 = 0
  ·rw [if_pos hy] at h
   rcases List.mem_cons.1 hx with rfl | hx
   ·exact ⟨st, hy⟩
   ·exact chkM_mem h x hx
  ·rw [if_neg hy] at h
   exact absurd h hy
theorem chkL_mem {D : Nat} : ∀ {l : List V} {lv : Nat} {st : St}, (chkL D l lv st).1 = 0 → ∀ x ∈ l, ∃ st', (chkV D x lv st').1 = 0
 | [], lv, st, h, x, hx => by cases hx
 | y :: t, lv, st, h, x, hx => by
  rw [chkL] at h
  by_cases hy : (chkV D y lv st).1 = 0
  ·rw [if_pos hy] at h
   rcases List.mem_cons.1 hx with rfl | hx
   ·exact ⟨st, hy⟩
   ·exact chkL_mem h x hx
  ·rw [if_neg hy] at h
   exact absurd h hy
theorem chk_kid {v : V} {j : Nat} (h : chkE v 40 = 0) (hj : kidAt v j) : chkE (kid v j) 40 = 0 := by
 rw [chkE40] at h ⊢
 obtain ⟨k, b, i, s, l, m⟩ := v
 rw [chkV] at h
 simp only at h
 split at h
 ·split at h
  ·rename_i h1 h2
   rcases hj with ⟨hk, hj⟩ | ⟨hk, hj⟩
   ·have hk' : k = 4 := hk
    subst hk'
    have hj' : j < l.length := hj
    have e : kid (.mk 4 b i s l m) j = l[j] := by
     show (l.getD j nullV) = _
     rw [List.getD_eq_getElem?_getD, List.getElem?_eq_getElem hj']; rfl
    rw [e]
    obtain ⟨st', h3⟩ := chkL_mem h2 l[j] (List.getElem_mem hj')
    exact (chkV_mono 40 _ _ 0 st' (0, 0, 0) h3 (Nat.zero_le _) (Nat.zero_le _) (Nat.zero_le _)).1
   ·have hk' : k = 5 := hk
    subst hk'
    have hj' : j < m.length := hj
    have e : kid (.mk 5 b i s l m) j = (m[j]).2 := by
     show (m.getD j (⟨#[]⟩, nullV)).2 = _
     rw [List.getD_eq_getElem?_getD, List.getElem?_eq_getElem hj']; rfl
    rw [e]
    obtain ⟨st', h3⟩ := chkM_mem h m[j] (List.getElem_mem hj')
    exact (chkV_mono 40 _ _ 0 st' (0, 0, 0) h3 (Nat.zero_le _) (Nat.zero_le _) (Nat.zero_le _)).1
  ·rename_i h2
   exact absurd h h2
 ·rename_i h2
  exact absurd h h2
def rgW : V → List ByteArray → V × Int
 | v, [] => (v, 0)
 | v, t :: ts => if (ledF v t).2 = 0 then rgW (kid v (ledF v t).1) ts else (nullV, (ledF v t).2)
def rgetF (v : V) (p : ByteArray) : V × Int := if rdF v p = 0 then rgW v (toksOf p) else (nullV, rdF v p)
theorem rgW_wt : ∀ (ts : List ByteArray) (v : V), (rgW v ts).1.wt ≤ v.wt
 | [], v => Nat.le_refl _
 | t :: ts, v => by
  rw [rgW]
  split
  ·rename_i h
   exact Nat.le_trans (rgW_wt ts _) (kid_wt (led_kid h))
  ·have : nullV.wt = 1 := by decide
   have := V.wt_pos v
   simp only; omega
theorem rgW_null : ∀ (ts : List ByteArray) (v : V), ¬ (rgW v ts).2 = 0 → (rgW v ts).1 = nullV
 | [], v, h => by rw [rgW] at h; simp at h
 | t :: ts, v, h => by
  rw [rgW] at h ⊢
  split
  ·rename_i h0
   rw [if_pos h0] at h
   exact rgW_null ts _ h
  ·rfl
theorem rgW_chk : ∀ (ts : List ByteArray) (v : V), chkE v 40 = 0 → (rgW v ts).2 = 0 → chkE (rgW v ts).1 40 = 0
 | [], v, hv, h => hv
 | t :: ts, v, hv, h => by
  rw [rgW] at h ⊢
  split
  ·rename_i h0
   rw [if_pos h0] at h
   exact rgW_chk ts _ (chk_kid hv (led_kid h0)) h
  ·rename_i h0
   rw [if_neg h0] at h
   exact absurd h h0
theorem wk_rg : ∀ (ts : List ByteArray) (v : V), (wkV (fun x => (x, 0)) v ts).2.1 = (rgW v ts).2 ∧ (wkV (fun x => (x, 0)) v ts).2.2 = if (rgW v ts).2 = 0 then some (rgW v ts).1 else none
 | [], v => by rw [wkV, rgW]; simp
 | t :: ts, v => by
  rw [wkV, rgW]
  split
  ·rename_i h0
   have ih := wk_rg ts (kid v (ledF v t).1)
   split
   ·rename_i h1
    rw [ih.1] at h1
    exact ⟨h1.symm, ih.2⟩
   ·exact ih
  ·rename_i h0
   exact ⟨rfl, rfl⟩
theorem rdF_chk {v : V} {p : ByteArray} (h : rdF v p = 0) : chkE v 40 = 0 := (rd_zero h).1
theorem get_rg (v : V) (p : ByteArray) : getF v p = rgetF v p := by
 rw [getF, rgetF]
 split
 ·rename_i h
  have hk := wk_rg (toksOf p) v
  rw [hk.1, hk.2, nweF]
  have hc := rgW_chk (toksOf p) v (rdF_chk h)
  have hn := rgW_null (toksOf p) v
  generalize rgW v (toksOf p) = R at *
  obtain ⟨x, e⟩ := R
  simp only at *
  split
  ·rename_i h0
   subst h0
   simp only [Option.getD_some]
   rw [if_pos (hc rfl)]
  ·rename_i h0
   rw [hn h0]
 ·rfl
def digB (i : Nat) : ByteArray := ⟨(decDigits i).toArray⟩
def digs (n : Nat) : List ByteArray := (List.range n).map digB
def keysB (m : List Mem) : List ByteArray := m.map (fun x => x.1)
theorem digs_len (n : Nat) : (digs n).length = n := by simp [digs]
theorem digs_succ (n : Nat) : digs (n + 1) = digs n ++ [digB n] := by simp [digs, List.range_succ]
theorem keys_len (m : List Mem) : (keysB m).length = m.length := by simp [keysB]
theorem keys_succ (m : List Mem) (j : Nat) (h : j < m.length) : keysB (m.take (j + 1)) = keysB (m.take j) ++ [(m[j]).1] := by
 rw [keysB, keysB, List.take_add_one, List.getElem?_eq_getElem h, List.map_append]
 rfl
def ldgF (v : V) : List ByteArray := digs (listOf v).length ++ keysB (memsOf v)
theorem ldg_len (v : V) : (ldgF v).length ≤ v.wt := by
 obtain ⟨k, b, i, s, l, m⟩ := v
 rw [ldgF, List.length_append, digs_len, keys_len, V.wt]
 have h1 := wtL_len l
 have h2 := wtM_len m
 show l.length + m.length ≤ _
 omega
def kdsF (v : V) (p : ByteArray) : List ByteArray × Int := if (rgetF v p).2 = 0 then (ldgF (rgetF v p).1, 0) else ([], (rgetF v p).2)
mutual
theorem chkV_ge (D : Nat) : ∀ (v : V) (lv : Nat) (st : St), (chkV D v lv st).1 = 0 → st.1 ≤ (chkV D v lv st).2.1 ∧ st.2.1 ≤ (chkV D v lv st).2.2.1
 | .mk k b i s l m, lv, st, h => by
  rw [chkV] at h ⊢
  simp only at h ⊢
  by_cases h1 : (entF D st.1 st.2.1 st.2.2 lv (goodB k b i s l.length m) (s.size + keyB m)).1 = 0
  ·have e1 := (ent_zero h1).1
   rw [if_pos h1] at h ⊢
   by_cases h2 : (chkL D l (lv + 1) (entF D st.1 st.2.1 st.2.2 lv (goodB k b i s l.length m) (s.size + keyB m)).2).1 = 0
   ·rw [if_pos h2] at h ⊢
    have a1 := chkM_ge D m (lv + 1) _ h
    have a2 := chkL_ge D l (lv + 1) _ h2
    have a3 : st.1 ≤ (entF D st.1 st.2.1 st.2.2 lv (goodB k b i s l.length m) (s.size + keyB m)).2.1 := by rw [e1]; show st.1 ≤ st.1 + 1; omega
    have a4 : st.2.1 ≤ (entF D st.1 st.2.1 st.2.2 lv (goodB k b i s l.length m) (s.size + keyB m)).2.2.1 := by rw [e1]; show st.2.1 ≤ st.2.1 + _; omega
    omega
   ·rw [if_neg h2] at h; exact absurd h h2
  ·rw [if_neg h1] at h; exact absurd h h1
theorem chkL_ge (D : Nat) : ∀ (l : List V) (lv : Nat) (st : St), (chkL D l lv st).1 = 0 → st.1 ≤ (chkL D l lv st).2.1 ∧ st.2.1 ≤ (chkL D l lv st).2.2.1
 | [], lv, st, h => by rw [chkL]; exact ⟨Nat.le_refl _, Nat.le_refl _⟩
 | x :: t, lv, st, h => by
  rw [chkL] at h ⊢
  by_cases h1 : (chkV D x lv st).1 = 0
  ·rw [if_pos h1] at h ⊢
   have a1 := chkL_ge D t lv _ h
   have a2 := chkV_ge D x lv st h1
   omega
  ·rw [if_neg h1] at h; exact absurd h h1
theorem chkM_ge (D : Nat) : ∀ (l : List Mem) (lv : Nat) (st : St), (chkM D l lv st).1 = 0 → st.1 ≤ (chkM D l lv st).2.1 ∧ st.2.1 ≤ (chkM D l lv st).2.2.1
 | [], lv, st, h => by rw [chkM]; exact ⟨Nat.le_refl _, Nat.le_refl _⟩
 | (k, x) :: t, lv, st, h => by
  rw [chkM] at h ⊢
  by_cases h1 : (chkV D x lv st).1 = 0
  ·rw [if_pos h1] at h ⊢
   have a1 := chkM_ge D t lv _ h
   have a2 := chkV_ge D x lv st h1
   omega
  ·rw [if_neg h1] at h; exact absurd h h1
end
theorem keyB_sub {l' l : List Mem} (hs : l'.Sublist l) : keyB l' ≤ keyB l := by
 induction hs with
 | slnil => exact Nat.le_refl _
 | cons x hs ih => simp only [keyB]; omega
 | cons_cons x hs ih => simp only [keyB]; omega
theorem rise_of {l : List Mem} (h : Srt l) (hu : ∀ y ∈ l, utfB y.1 = true) : riseB l = true := riseB_true fun j hj => by
 rw [okAt, keyAt_eq hj, hu _ (List.getElem_mem hj)]
 by_cases h0 : j = 0
 ·simp [h0]
 ·rw [keyAt_eq (show j - 1 < l.length by omega)]
  have := (List.pairwise_iff_getElem.1 h) (j - 1) j (by omega) hj (by omega)
  simp [this]
theorem rise_utf {l : List Mem} (h : riseB l = true) : ∀ x ∈ l, utfB x.1 = true := by
 intro x hx
 obtain ⟨j, hj, rfl⟩ := List.getElem_of_mem hx
 have h0 : ∀ j, j < l.length → okAt l j = true := by
  simpa only [riseB, List.all_eq_true, List.mem_range] using h
 have := h0 j hj
 rw [okAt, keyAt_eq hj] at this
 exact (Bool.and_eq_true _ _ ▸ this).1
def insL {α : Type} (l : List α) (j : Nat) (x : α) : List α := l.take j ++ ([x] ++ l.drop j)
def outL {α : Type} (l : List α) (j : Nat) : List α := l.take j ++ l.drop (j + 1)
theorem outL_zero {α : Type} (x : α) (t : List α) : outL (x :: t) 0 = t := by simp [outL]
theorem outL_succ {α : Type} (x : α) (t : List α) (j : Nat) : outL (x :: t) (j + 1) = x :: outL t j := by simp [outL]
theorem outL_sub {α : Type} : ∀ (l : List α) (j : Nat), (outL l j).Sublist l
 | [], j => by simp [outL]
 | x :: t, 0 => by rw [outL_zero]; exact List.sublist_cons_self ..
 | x :: t, j + 1 => by rw [outL_succ]; exact (outL_sub t j).cons_cons x
def Lss (lv : Nat) (y x : V) : Prop := ∀ (st st' : St), (chkV 40 x lv st).1 = 0 → st'.1 ≤ st.1 → st'.2.1 ≤ st.2.1 → (chkV 40 y lv st').1 = 0 ∧ (chkV 40 y lv st').2.1 ≤ (chkV 40 x lv st).2.1 ∧ (chkV 40 y lv st').2.2.1 ≤ (chkV 40 x lv st).2.2.1
theorem chkL_out {lv : Nat} : ∀ (l : List V) (j : Nat) (st st' : St), (chkL 40 l lv st).1 = 0 → st'.1 ≤ st.1 → st'.2.1 ≤ st.2.1 → (chkL 40 (outL l j) lv st').1 = 0 ∧ (chkL 40 (outL l j) lv st').2.1 ≤ (chkL 40 l lv st).2.1 ∧ (chkL 40 (outL l j) lv st').2.2.1 ≤ (chkL 40 l lv st).2.2.1
 | [], j, st, st', hc, h1, h2 => by
  have e : outL ([] : List V) j = [] := by simp [outL]
  rw [e, chkL, chkL]; exact ⟨rfl, h1, h2⟩
 | x :: t, 0, st, st', hc, h1, h2 => by
  rw [outL_zero]
  rw [chkL] at hc
  rw [chkL.eq_def 40 (x :: t)]
  simp only
  by_cases hx : (chkV 40 x lv st).1 = 0
  ·rw [if_pos hx] at hc
   rw [if_pos hx]
   have g := chkV_ge 40 x lv st hx
   exact chkL_mono 40 t lv lv _ _ hc (Nat.le_refl _) (by omega) (by omega)
  ·rw [if_neg hx] at hc; exact absurd hc hx
 | x :: t, j + 1, st, st', hc, h1, h2 => by
  rw [outL_succ]
  rw [chkL] at hc
  rw [chkL, chkL]
  by_cases hx : (chkV 40 x lv st).1 = 0
  ·rw [if_pos hx] at hc
   have q := chkV_mono 40 x lv lv st st' hx (Nat.le_refl _) h1 h2
   rw [if_pos hx, if_pos q.1]
   exact chkL_out t j _ _ hc q.2.1 q.2.2
  ·rw [if_neg hx] at hc; exact absurd hc hx
theorem chkM_out {lv : Nat} : ∀ (l : List Mem) (j : Nat) (st st' : St), (chkM 40 l lv st).1 = 0 → st'.1 ≤ st.1 → st'.2.1 ≤ st.2.1 → (chkM 40 (outL l j) lv st').1 = 0 ∧ (chkM 40 (outL l j) lv st').2.1 ≤ (chkM 40 l lv st).2.1 ∧ (chkM 40 (outL l j) lv st').2.2.1 ≤ (chkM 40 l lv st).2.2.1
 | [], j, st, st', hc, h1, h2 => by
  have e : outL ([] : List Mem) j = [] := by simp [outL]
  rw [e, chkM, chkM]; exact ⟨rfl, h1, h2⟩
 | (k, x) :: t, 0, st, st', hc, h1, h2 => by
  rw [outL_zero]
  rw [chkM] at hc
  rw [chkM.eq_def 40 ((k, x) :: t)]
  simp only
  by_cases hx : (chkV 40 x lv st).1 = 0
  ·rw [if_pos hx] at hc
   rw [if_pos hx]
   have g := chkV_ge 40 x lv st hx
   exact chkM_mono 40 t lv lv _ _ hc (Nat.le_refl _) (by omega) (by omega)
  ·rw [if_neg hx] at hc; exact absurd hc hx
 | (k, x) :: t, j + 1, st, st', hc, h1, h2 => by
  rw [outL_succ]
  rw [chkM] at hc
  rw [chkM, chkM]
  by_cases hx : (chkV 40 x lv st).1 = 0
  ·rw [if_pos hx] at hc
   have q := chkV_mono 40 x lv lv st st' hx (Nat.le_refl _) h1 h2
   rw [if_pos hx, if_pos q.1]
   exact chkM_out t j _ _ hc q.2.1 q.2.2
  ·rw [if_neg hx] at hc; exact absurd hc hx
theorem sub_of {k : Int} {b : Bool} {i : Int} {s : ByteArray} {l l' : List V} {m m' : List Mem} {lv : Nat} (hg : goodB k b i s l.length m = true → goodB k b i s l'.length m' = true) (hk : keyB m' ≤ keyB m)
 (hl : ∀ (st st' : St), (chkL 40 l (lv + 1) st).1 = 0 → st'.1 ≤ st.1 → st'.2.1 ≤ st.2.1 → (chkL 40 l' (lv + 1) st').1 = 0 ∧ (chkL 40 l' (lv + 1) st').2.1 ≤ (chkL 40 l (lv + 1) st).2.1 ∧ (chkL 40 l' (lv + 1) st').2.2.1 ≤ (chkL 40 l (lv + 1) st).2.2.1)
 (hm : ∀ (st st' : St), (chkM 40 m (lv + 1) st).1 = 0 → st'.1 ≤ st.1 → st'.2.1 ≤ st.2.1 → (chkM 40 m' (lv + 1) st').1 = 0 ∧ (chkM 40 m' (lv + 1) st').2.1 ≤ (chkM 40 m (lv + 1) st).2.1 ∧ (chkM 40 m' (lv + 1) st').2.2.1 ≤ (chkM 40 m (lv + 1) st).2.2.1) : Lss lv (.mk k b i s l' m') (.mk k b i s l m) := by
 intro st st' h h1 h2
 rw [chkV] at h ⊢
 rw [chkV]
 simp only at h ⊢
 by_cases hr : (entF 40 st.1 st.2.1 st.2.2 lv (goodB k b i s l.length m) (s.size + keyB m)).1 = 0
 ·rw [if_pos hr] at h
  obtain ⟨e1, k1, k2, k3, k4⟩ := ent_zero hr
  have e2 : entF 40 st'.1 st'.2.1 st'.2.2 lv (goodB k b i s l'.length m') (s.size + keyB m') = (0, st'.1 + 1, st'.2.1 + (s.size + keyB m'), max st'.2.2 lv) := by
   unfold entF
   rw [if_neg (by omega), if_neg (by omega), if_neg (by rw [hg k3]; simp), if_neg (by omega)]
  rw [e1] at h
  rw [e1, e2]
  simp only [if_true] at h ⊢
  by_cases hq : (chkL 40 l (lv + 1) (st.1 + 1, st.2.1 + (s.size + keyB m), max st.2.2 lv)).1 = 0
  ·rw [if_pos hq] at h
   have q := hl (st.1 + 1, st.2.1 + (s.size + keyB m), max st.2.2 lv) (st'.1 + 1, st'.2.1 + (s.size + keyB m'), max st'.2.2 lv) hq (by simp only; omega) (by simp only; omega)
   rw [if_pos hq, if_pos q.1]
   exact hm _ _ h q.2.1 q.2.2
  ·rw [if_neg hq] at h; exact absurd h hq
 ·rw [if_neg hr] at h; exact absurd h hr
theorem keyB_set : ∀ (l : List Mem) (j : Nat) (h : j < l.length) (y : V), keyB (l.set j ((l[j]).1, y)) = keyB l
 | [], j, h, y => by simp at h
 | x :: t, 0, h, y => by simp [keyB]
 | x :: t, j + 1, h, y => by
  have := keyB_set t j (by simpa using h) y
  simpa [keyB] using this
theorem rise_set {l : List Mem} {j : Nat} (h : j < l.length) (y : V) (hr : riseB l = true) : riseB (l.set j ((l[j]).1, y)) = true := by
 have hk : ∀ q, keyAt (l.set j ((l[j]).1, y)) q = keyAt l q := fun q => by
  unfold keyAt
  rw [List.getElem?_set]
  by_cases e : j = q
  ·subst e
   rw [if_pos rfl, if_pos h, List.getElem?_eq_getElem h]
  ·rw [if_neg e]
 rw [riseB] at hr ⊢
 rw [List.length_set]
 rw [List.all_eq_true] at hr ⊢
 intro q hq
 have := hr q hq
 rw [okAt] at this ⊢
 rw [hk, hk]
 exact this
def remV : V → Nat → V
 | .mk k b i s l m, j => if k = 4 then .mk k b i s (outL l j) m else .mk k b i s l (outL m j)
theorem sub_rem {v : V} {j lv : Nat} (hj : kidAt v j) : Lss lv (remV v j) v := by
 obtain ⟨k, b, i, s, l, m⟩ := v
 rcases hj with ⟨hk, hj⟩ | ⟨hk, hj⟩
 ·have hk' : k = 4 := hk
  subst hk'
  show Lss lv (.mk 4 b i s (outL l j) m) _
  refine sub_of (fun h => ?_) (Nat.le_refl _) (fun st st' => chkL_out l j st st') (fun st st' h h1 h2 => chkM_mono 40 m _ _ st st' h (Nat.le_refl _) h1 h2)
  simp only [goodB, Bool.and_eq_true, plainB, decide_eq_true_iff] at h ⊢
  exact ⟨⟨⟨h.1.1.1, h.1.1.2.1, h.1.1.2.2.1, h.1.1.2.2.2.1, h.1.1.2.2.2.2.1, .inl trivial, h.1.1.2.2.2.2.2.2⟩, h.1.2⟩, h.2⟩
 ·have hk' : k = 5 := hk
  subst hk'
  show Lss lv (.mk 5 b i s l (outL m j)) _
  refine sub_of (fun h => ?_) (keyB_sub (outL_sub m j)) (fun st st' h h1 h2 => chkL_mono 40 l _ _ st st' h (Nat.le_refl _) h1 h2) (fun st st' => chkM_out m j st st')
  simp only [goodB, Bool.and_eq_true, plainB, decide_eq_true_iff] at h ⊢
  exact ⟨⟨⟨h.1.1.1, h.1.1.2.1, h.1.1.2.2.1, h.1.1.2.2.2.1, h.1.1.2.2.2.2.1, h.1.1.2.2.2.2.2.1, .inl trivial⟩, h.1.2⟩, rise_of (List.Pairwise.sublist (outL_sub m j) (srt_rise h.2)) (fun y hy => rise_utf h.2 y ((outL_sub m j).subset hy))⟩
theorem sub_chk {y x : V} (h : Lss 0 y x) (hx : chkE x 40 = 0) : chkE y 40 = 0 := by
 rw [chkE40] at hx ⊢
 exact (h (0, 0, 0) (0, 0, 0) hx (Nat.le_refl _) (Nat.le_refl _)).1
def gapF (t : ByteArray) (n : Nat) : Option Nat := if t.data.toList = [45] then some n else idxF t.data.toList (n + 1)
def addF : V → ByteArray → V → V × Int
 | .mk k b i s l m, t, x => if k = 5 then (if keyIs t m[posF m t]? = true then (replV (.mk k b i s l m) (posF m t) x, 0) else (.mk k b i s l (insL m (posF m t) (t, x)), 0))
  else if k = 4 then ((gapF t l.length).elim (nullV, 42) (fun j => (.mk k b i s (insL l j x) m, 0)))
  else (nullV, 41)
def takFn (t : ByteArray) (w : V) : V × Int := if (ledF w t).2 = 0 then (remV w (ledF w t).1, 0) else (nullV, (ledF w t).2)
def rd2F (v : V) (p : ByteArray) (x : V) : Int := if rdF v p = 0 then (chkE x 40 : Int) else rdF v p
def setF (v : V) (p : ByteArray) (x : V) : V × Int := if rd2F v p x = 0 then nweF (wkV (fun _ => (x, 0)) v (toksOf p)).1 (wkV (fun _ => (x, 0)) v (toksOf p)).2.1 else (nullV, rd2F v p x)
def lastT (ts : List ByteArray) : ByteArray := ts.getLastD ⟨#[]⟩
def addPF (v : V) (p : ByteArray) (x : V) : V × Int := if rd2F v p x = 0 then (if toksOf p = [] then nweF x 0 else nweF (wkV (fun w => addF w (lastT (toksOf p)) x) v (toksOf p).dropLast).1 (wkV (fun w => addF w (lastT (toksOf p)) x) v (toksOf p).dropLast).2.1) else (nullV, rd2F v p x)
def wasF (t : ByteArray) (o : Option V) : V := o.elim nullV (fun y => if (ledF y t).2 = 0 then kid y (ledF y t).1 else nullV)
def takF (v : V) (p : ByteArray) : V × V × Int := if rdF v p = 0 then (if toksOf p = [] then (nullV, nullV, 41) else ((nweF (wkV (takFn (lastT (toksOf p))) v (toksOf p).dropLast).1 (wkV (takFn (lastT (toksOf p))) v (toksOf p).dropLast).2.1).1, clnV (wasF (lastT (toksOf p)) (wkV (takFn (lastT (toksOf p))) v (toksOf p).dropLast).2.2), (nweF (wkV (takFn (lastT (toksOf p))) v (toksOf p).dropLast).1 (wkV (takFn (lastT (toksOf p))) v (toksOf p).dropLast).2.1).2)) else (nullV, nullV, rdF v p)
theorem rd2_zero {v x : V} {p : ByteArray} (h : rd2F v p x = 0) : rdF v p = 0 ∧ chkE x 40 = 0 := by
 rw [rd2F] at h
 split at h
 ·rename_i h0
  exact ⟨h0, by omega⟩
 ·rename_i h0
  exact absurd h h0
theorem rd_allG {v : V} {p : ByteArray} (h : rdF v p = 0) : allG v := chkV_allG 40 v 0 (0, 0, 0) (by rw [← chkE40]; exact rdF_chk h)
theorem cln_of {y : V} (h : chkE y 40 = 0) : clnV y = y := by
 rw [clnV, if_pos]
 rw [okV, ← chkE40]
 exact decide_eq_true h
end Go.Proofs.YtgnofbigggmilaaGreatDoor
