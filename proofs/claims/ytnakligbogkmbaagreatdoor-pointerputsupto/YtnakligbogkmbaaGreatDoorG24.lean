/- joined: TokP GetB KdsP -/
import Derived.Test.YtnakligbogkmbaaGreatDoorG23
set_option linter.unusedSimpArgs false
set_option linter.unusedVariables false
namespace Go.Proofs.YtnakligbogkmbaaGreatDoor
open Go.RowKit Go.Lib
theorem spl_lens (c : UInt8) : ∀ s : List UInt8, (spl c s).length ≤ s.length + 1 ∧ ∀ t ∈ spl c s, t.length ≤ s.length
 | [] => by simp [spl]
 | x :: t => by
  have ih := spl_lens c t
  rw [spl]
  split
  ·refine ⟨by simp only [List.length_cons]; omega, fun u hu => ?_⟩
   rcases List.mem_cons.1 hu with rfl | hu
   ·simp
   ·have := ih.2 u hu; simp only [List.length_cons]; omega
  ·split
   ·rename_i h r e
    rw [e] at ih
    refine ⟨by simpa using Nat.le_succ_of_le ih.1, fun u hu => ?_⟩
    rcases List.mem_cons.1 hu with rfl | hu
    ·have := ih.2 h List.mem_cons_self; simp only [List.length_cons]; omega
    ·have := ih.2 u (List.mem_cons_of_mem _ hu); simp only [List.length_cons]; omega
   ·simp
theorem une_lens (n : Nat) : ∀ (s u : List UInt8), s.length ≤ n → une s = some u → u.length ≤ s.length := by
 induction n with
 | zero =>
  intro s u h hu
  obtain rfl : s = [] := List.length_eq_zero_iff.1 (by omega)
  simp only [une, Option.some.injEq] at hu
  subst hu; simp
 | succ n ih =>
  intro s u h hu
  cases s with
  | nil => simp only [une, Option.some.injEq] at hu; subst hu; simp
  | cons x t =>
   rw [une.eq_def] at hu
   simp only at hu
   split at hu
   ·cases t with
    | nil => simp at hu
    | cons y r =>
     simp only at hu
     simp only [List.length_cons] at h
     split at hu
     ·obtain ⟨w, hw, rfl⟩ := Option.map_eq_some_iff.1 hu
      have := ih r w (by omega) hw
      simp only [List.length_cons]; omega
     ·split at hu
      ·obtain ⟨w, hw, rfl⟩ := Option.map_eq_some_iff.1 hu
       have := ih r w (by omega) hw
       simp only [List.length_cons]; omega
      ·cases hu
   ·simp only [List.length_cons] at h
    obtain ⟨w, hw, rfl⟩ := Option.map_eq_some_iff.1 hu
    have := ih t w (by omega) hw
    simp only [List.length_cons]; omega
theorem unes_len : ∀ (l r : List (List UInt8)) (n : Nat), (∀ t ∈ l, t.length ≤ n) → unes l = some r → r.length = l.length ∧ ∀ t ∈ r, t.length ≤ n := by
 intro l
 induction l with
 | nil => intro r n _ h; simp only [unes, Option.some.injEq] at h; subst h; simp
 | cons x t ih =>
  intro r n hl h
  rw [unes] at h
  split at h
  ·cases h
  ·rename_i u e1
   obtain ⟨us, e2, rfl⟩ := Option.map_eq_some_iff.1 h
   have h1 := ih us n (fun y hy => hl y (List.mem_cons_of_mem _ hy)) e2
   have h2 := une_lens x.length x u (Nat.le_refl _) e1
   have h3 := hl x List.mem_cons_self
   refine ⟨by simp [h1.1], fun y hy => ?_⟩
   rcases List.mem_cons.1 hy with rfl | hy
   ·omega
   ·exact h1.2 y hy
theorem tok_len {p : ByteArray} {l : List ByteArray} {o : List (List UInt8)} (h : parF p.data.toList = some o) (hd : dat l = o) : l.length ≤ p.size + 1 ∧ ∀ t ∈ l, t.size ≤ p.size := by
 have key : o.length ≤ p.data.toList.length + 1 ∧ ∀ t ∈ o, t.length ≤ p.data.toList.length := by
  cases hp : p.data.toList with
  | nil => rw [hp] at h; simp only [parF, Option.some.injEq] at h; subst h; simp
  | cons x q =>
   rw [hp] at h
   simp only [parF] at h
   split at h
   ·have h1 := spl_lens 47 q
    have h2 := unes_len _ _ q.length h1.2 h
    refine ⟨by rw [h2.1]; simp only [List.length_cons]; omega, fun t ht => ?_⟩
    have := h2.2 t ht
    simp only [List.length_cons]; omega
   ·cases h
 have hs : p.data.toList.length = p.size := toList_size p
 rw [hs] at key
 refine ⟨by have := congrArg List.length hd; simp only [dat, List.length_map] at this; omega, fun t ht => ?_⟩
 have := key.2 t.data.toList (by rw [← hd]; exact List.mem_map.2 ⟨t, ht, rfl⟩)
 rw [toList_size] at this
 exact this
def toksOf (p : ByteArray) : List ByteArray := ((parF p.data.toList).getD []).map (fun t => ⟨t.toArray⟩)
theorem toks_of {l : List ByteArray} {o : List (List UInt8)} (h : dat l = o) : l = o.map (fun t => ⟨t.toArray⟩) := by
 rw [← h, dat, List.map_map]
 conv => lhs; rw [← List.map_id l]
 exact List.map_congr_left fun x _ => by simp
theorem wk_wt (F : V → V × Int) : ∀ (ts : List ByteArray) (v x : V), (wkV F v ts).2.2 = some x → x.wt ≤ v.wt
 | [], v, x, h => by simp only [wkV, Option.some.injEq] at h; subst h; exact Nat.le_refl _
 | t :: ts, v, x, h => by
  rw [wkV] at h
  split at h
  ·rename_i h0
   have hk := kid_wt (led_kid h0)
   have : (wkV F (kid v (ledF v t).1) ts).2.2 = some x := by
    split at h
    ·exact h
    ·exact h
   exact Nat.le_trans (wk_wt F ts _ x this) hk
  ·cases h
theorem rd_zero {v : V} {p : ByteArray} (h : rdF v p = 0) : chkE v 40 = 0 ∧ ∃ o, parF p.data.toList = some o := by
 rw [rdF] at h
 split at h
 ·rename_i h0
  refine ⟨h0, ?_⟩
  cases hx : parF p.data.toList with
  | none => rw [hx] at h; simp at h
  | some o => exact ⟨o, rfl⟩
 ·omega
theorem ent_zero {D n y d lv : Nat} {g : Bool} {z : Nat} (h : (entF D n y d lv g z).1 = 0) : entF D n y d lv g z = (0, n + 1, y + z, max d lv) ∧ n < 65536 ∧ lv ≤ D ∧ g = true ∧ y + z ≤ 1048576 := by
 unfold entF at *
 split at h
 ·simp at h
 split at h
 ·simp at h
 split at h
 ·simp at h
 split at h
 ·simp at h
 rename_i h1 h2 h3 h4
 rw [if_neg h1, if_neg h2, if_neg h3, if_neg h4]
 exact ⟨rfl, by omega, by omega, by simpa using h3, by omega⟩
theorem ent_mono {D n y d lv n' y' d' lv' : Nat} {g : Bool} {z : Nat} (h : (entF D n y d lv g z).1 = 0) (h1 : n' ≤ n) (h2 : y' ≤ y) (h3 : lv' ≤ lv) : entF D n' y' d' lv' g z = (0, n' + 1, y' + z, max d' lv') := by
 obtain ⟨_, k1, k2, k3, k4⟩ := ent_zero h
 unfold entF
 rw [if_neg (by omega), if_neg (by omega), if_neg (by simp [k3]), if_neg (by omega)]
mutual
theorem chkV_mono (D : Nat) : ∀ (v : V) (lv lv' : Nat) (st st' : St), (chkV D v lv st).1 = 0 → lv' ≤ lv → st'.1 ≤ st.1 → st'.2.1 ≤ st.2.1 → (chkV D v lv' st').1 = 0 ∧ (chkV D v lv' st').2.1 ≤ (chkV D v lv st).2.1 ∧ (chkV D v lv' st').2.2.1 ≤ (chkV D v lv st).2.2.1
 | .mk k b i s l m, lv, lv', st, st', h, h1, h2, h3 => by
  rw [chkV] at h ⊢
  simp only at h ⊢
  by_cases hr : (entF D st.1 st.2.1 st.2.2 lv (goodB k b i s l.length m) (s.size + keyB m)).1 = 0
  ·rw [if_pos hr] at h
   have e1 := (ent_zero hr).1
   have e2 := ent_mono (d' := st'.2.2) hr h2 h3 h1
   rw [chkV]
   simp only
   rw [e1] at h
   rw [e1, e2]
   simp only [if_true] at h ⊢
   by_cases hq : (chkL D l (lv + 1) (st.1 + 1, st.2.1 + (s.size + keyB m), max st.2.2 lv)).1 = 0
   ·rw [if_pos hq] at h
    have q := chkL_mono D l (lv + 1) (lv' + 1) (st.1 + 1, st.2.1 + (s.size + keyB m), max st.2.2 lv) (st'.1 + 1, st'.2.1 + (s.size + keyB m), max st'.2.2 lv') hq (by omega) (by simp only; omega) (by simp only; omega)
    rw [if_pos hq, if_pos q.1]
    exact chkM_mono D m (lv + 1) (lv' + 1) _ _ h (by omega) q.2.1 q.2.2
   ·rw [if_neg hq] at h
    exact absurd h hq
  ·rw [if_neg hr] at h
   exact absurd h hr
theorem chkL_mono (D : Nat) : ∀ (l : List V) (lv lv' : Nat) (st st' : St), (chkL D l lv st).1 = 0 → lv' ≤ lv → st'.1 ≤ st.1 → st'.2.1 ≤ st.2.1 → (chkL D l lv' st').1 = 0 ∧ (chkL D l lv' st').2.1 ≤ (chkL D l lv st).2.1 ∧ (chkL D l lv' st').2.2.1 ≤ (chkL D l lv st).2.2.1
 | [], lv, lv', st, st', h, h1, h2, h3 => by rw [chkL, chkL]; exact ⟨rfl, h2, h3⟩
 | x :: t, lv, lv', st, st', h, h1, h2, h3 => by
  rw [chkL] at h
  rw [chkL, chkL]
  by_cases hx : (chkV D x lv st).1 = 0
  ·rw [if_pos hx] at h
   have q := chkV_mono D x lv lv' st st' hx h1 h2 h3
   rw [if_pos hx, if_pos q.1]
   exact chkL_mono D t lv lv' _ _ h h1 q.2.1 q.2.2
  ·rw [if_neg hx] at h
   exact absurd h hx
theorem chkM_mono (D : Nat) : ∀ (l : List Mem) (lv lv' : Nat) (st st' : St), (chkM D l lv st).1 = 0 → lv' ≤ lv → st'.1 ≤ st.1 → st'.2.1 ≤ st.2.1 → (chkM D l lv' st').1 = 0 ∧ (chkM D l lv' st').2.1 ≤ (chkM D l lv st).2.1 ∧ (chkM D l lv' st').2.2.1 ≤ (chkM D l lv st).2.2.1
 | [], lv, lv', st, st', h, h1, h2, h3 => by rw [chkM, chkM]; exact ⟨rfl, h2, h3⟩
 | (k, x) :: t, lv, lv', st, st', h, h1, h2, h3 => by
  rw [chkM] at h
  rw [chkM, chkM]
  by_cases hx : (chkV D x lv st).1 = 0
  ·rw [if_pos hx] at h
   have q := chkV_mono D x lv lv' st st' hx h1 h2 h3
   rw [if_pos hx, if_pos q.1]
   exact chkM_mono D t lv lv' _ _ h h1 q.2.1 q.2.2
  ·rw [if_neg hx] at h
   exact absurd h hx
end
theorem chkM_mem {D : Nat} : ∀ {l : List Mem} {lv : Nat} {st : St}, (chkM D l lv st).1 = 0 → ∀ x ∈ l, ∃ st', (chkV D x.2 lv st').1 = 0
 | [], lv, st, h, x, hx => by cases hx
 | (k, y) :: t, lv, st, h, x, hx => by
  rw [chkM] at h
  by_cases hy : (chkV D y lv st).1 = 0
  ·rw [if_pos hy] at h
   rcases List.mem_cons.1 hx with rfl | hx
   ·exact ⟨st, hy⟩
   ·exact chkM_mem h x hx
  ·rw [if_neg hy] at h
   exact absurd h hy
theorem chkL_mem {D : Nat} : ∀ {l : List V} {lv : Nat} {st : St}, (chkL D l lv st).1 = 0 → ∀ x ∈ l, ∃ st', (chkV D x lv st').1 = 0
 | [], lv, st, h, x, hx => by cases hx
 | y :: t, lv, st, h, x, hx => by
  rw [chkL] at h
  by_cases hy : (chkV D y lv st).1 = 0
  ·rw [if_pos hy] at h
   rcases List.mem_cons.1 hx with rfl | hx
   ·exact ⟨st, hy⟩
   ·exact chkL_mem h x hx
  ·rw [if_neg hy] at h
   exact absurd h hy
theorem chk_kid {v : V} {j : Nat} (h : chkE v 40 = 0) (hj : kidAt v j) : chkE (kid v j) 40 = 0 := by
 rw [chkE40] at h ⊢
 obtain ⟨k, b, i, s, l, m⟩ := v
 rw [chkV] at h
 simp only at h
 split at h
 ·split at h
  ·rename_i h1 h2
   rcases hj with ⟨hk, hj⟩ | ⟨hk, hj⟩
   ·have hk' : k = 4 := hk
    subst hk'
    have hj' : j < l.length := hj
    have e : kid (.mk 4 b i s l m) j = l[j] := by
     show (l.getD j nullV) = _
     rw [List.getD_eq_getElem?_getD, List.getElem?_eq_getElem hj']; rfl
    rw [e]
    obtain ⟨st', h3⟩ := chkL_mem h2 l[j] (List.getElem_mem hj')
    exact (chkV_mono 40 _ _ 0 st' (0, 0, 0) h3 (Nat.zero_le _) (Nat.zero_le _) (Nat.zero_le _)).1
   ·have hk' : k = 5 := hk
    subst hk'
    have hj' : j < m.length := hj
    have e : kid (.mk 5 b i s l m) j = (m[j]).2 := by
     show (m.getD j (⟨#[]⟩, nullV)).2 = _
     rw [List.getD_eq_getElem?_getD, List.getElem?_eq_getElem hj']; rfl
    rw [e]
    obtain ⟨st', h3⟩ := chkM_mem h m[j] (List.getElem_mem hj')
    exact (chkV_mono 40 _ _ 0 st' (0, 0, 0) h3 (Nat.zero_le _) (Nat.zero_le _) (Nat.zero_le _)).1
  ·rename_i h2
   exact absurd h h2
 ·rename_i h2
  exact absurd h h2
theorem rdF_chk {v : V} {p : ByteArray} (h : rdF v p = 0) : chkE v 40 = 0 := (rd_zero h).1
def digB (i : Nat) : ByteArray := ⟨(decDigits i).toArray⟩
end Go.Proofs.YtnakligbogkmbaaGreatDoor
