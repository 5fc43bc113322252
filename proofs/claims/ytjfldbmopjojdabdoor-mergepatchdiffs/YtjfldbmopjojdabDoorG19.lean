/- joined: MrgQ MovA MrgR -/
import Derived.Test.YtjfldbmopjojdabDoorG16
set_option linter.unusedSimpArgs false
set_option linter.unusedVariables false
namespace Go.Proofs.YtjfldbmopjojdabDoor
open Go.RowKit Go.Lib
theorem mems_wt (v : V) : wtM (memsOf v) + 1 ≤ v.wt := by
 obtain ⟨k, b, i, s, l, m⟩ := v
 rw [V.wt]
 show wtM m + 1 ≤ _
 omega
theorem wtM_apq : ∀ a b : List Mem, wtM (a ++ b) = wtM a + wtM b
 | [], b => by simp [wtM]
 | (k, x) :: t, b => by
  have h := wtM_apq t b
  rw [List.cons_append]; simp only [wtM]; omega
theorem allGM_i : ∀ {l : List Mem}, allGM l ↔ ∀ y ∈ l, allG y.2
 | [] => by simp [allGM]
 | (k, x) :: t => by rw [allGM, allGM_i (l := t)]; simp
structure GM (l : List Mem) : Prop where
 g : ∀ y ∈ l, allG y.2
 s : Srt l
 u : ∀ y ∈ l, utfB y.1 = true
theorem gm_nil : GM [] := ⟨fun _ h => by simp at h, List.Pairwise.nil, fun _ h => by simp at h⟩
theorem gm_mems {v : V} (h : allG v) : GM (memsOf v) := by
 obtain ⟨k, b, i, s, l, m⟩ := v
 rw [allG] at h
 have h1 := h.1
 simp only [goodB, Bool.and_eq_true] at h1
 exact ⟨allGM_i.1 h.2.2, srt_rise h1.2, rise_utf h1.2⟩
theorem gm_map {m : List Mem} (h : GM m) : allG (.mk 5 false 0 ⟨#[]⟩ [] m) := by
 rw [allG]
 refine ⟨?_, trivial, allGM_i.2 h.g⟩
 simp only [goodB, Bool.and_eq_true]
 refine ⟨⟨?_, by kernel_rfl⟩, rise_of h.s h.u⟩
 rw [plainB, decide_eq_true_iff]
 exact ⟨by omega, by omega, .inr rfl, .inr rfl, .inr (by kernel_rfl), .inr rfl, .inl rfl⟩
theorem null_good : allG nullV := by
 rw [nullV, allG]
 exact ⟨by kernel_rfl, trivial, trivial⟩
theorem opt_mems {t : V} (h : allG t) : (if kindOf t = 5 then memsOf t else []) = memsOf t := by
 split
 ·rfl
 ·rename_i hk
  obtain ⟨k, b, i, s, l, m⟩ := t
  rw [allG] at h
  have h1 := h.1
  simp only [goodB, Bool.and_eq_true, plainB, decide_eq_true_iff] at h1
  have h2 := h1.1.1.2.2.2.2.2.2
  rcases h2 with h2 | h2
  ·exact absurd h2 hk
  ·have e : m = [] := List.length_eq_zero_iff.1 (by omega)
   rw [e]; rfl
theorem pch_map {t : V} {b : Bool} {i : Int} {s : ByteArray} {l : List V} {m : List Mem} (ht : allG t) (hp : allG (.mk 5 b i s l m)) : pchV t (.mk 5 b i s l m) = .mk 5 false 0 ⟨#[]⟩ [] (mrgM pchV (memsOf t) m) := by
 have hs : Srt m := (gm_mems hp).s
 rw [pchV, if_pos rfl, opt_mems ht, pch_mrg hs (gm_mems ht).s]
theorem ent_zero {D n y d lv : Nat} {g : Bool} {z : Nat} (h : (entF D n y d lv g z).1 = 0) : entF D n y d lv g z = (0, n + 1, y + z, max d lv) ∧ n < 65536 ∧ lv ≤ D ∧ g = true ∧ y + z ≤ 1048576 := by
 unfold entF at *
 split at h
 ·simp at h
 split at h
 ·simp at h
 split at h
 ·simp at h
 split at h
 ·simp at h
 rename_i h1 h2 h3 h4
 rw [if_neg h1, if_neg h2, if_neg h3, if_neg h4]
 exact ⟨rfl, by omega, by omega, by simpa using h3, by omega⟩
mutual
def ndV : V → Nat
 | .mk _ _ _ _ l m => 1 + ndL l + ndM m
def ndL : List V → Nat
 | [] => 0
 | x :: t => ndV x + ndL t
def ndM : List Mem → Nat
 | [] => 0
 | (_, x) :: t => ndV x + ndM t
end
mutual
def byV : V → Nat
 | .mk _ _ _ s l m => s.size + keyB m + byL l + byM m
def byL : List V → Nat
 | [] => 0
 | x :: t => byV x + byL t
def byM : List Mem → Nat
 | [] => 0
 | (_, x) :: t => byV x + byM t
end
mutual
def dpV : V → Nat
 | .mk _ _ _ _ l m => max (dpL l) (dpM m)
def dpL : List V → Nat
 | [] => 0
 | x :: t => max (dpV x + 1) (dpL t)
def dpM : List Mem → Nat
 | [] => 0
 | (_, x) :: t => max (dpV x + 1) (dpM t)
end
mutual
theorem cntV (D : Nat) : ∀ (v : V) (lv : Nat) (st : St), (chkV D v lv st).1 = 0 → (chkV D v lv st).2.1 = st.1 + ndV v ∧ (chkV D v lv st).2.2.1 = st.2.1 + byV v ∧ lv + dpV v ≤ D
 | .mk k b i s l m, lv, st, h => by
  rw [ndV, byV, dpV]
  rw [chkV] at h ⊢
  simp only at h ⊢
  by_cases hr : (entF D st.1 st.2.1 st.2.2 lv (goodB k b i s l.length m) (s.size + keyB m)).1 = 0
  ·rw [if_pos hr] at h
   obtain ⟨e1, _, k2, _, _⟩ := ent_zero hr
   rw [e1] at h ⊢
   simp only [if_true] at h ⊢
   by_cases hq : (chkL D l (lv + 1) (st.1 + 1, st.2.1 + (s.size + keyB m), max st.2.2 lv)).1 = 0
   ·rw [if_pos hq] at h ⊢
    have q := cntL D l lv _ k2 hq
    have r := cntM D m lv _ k2 h
    simp only at q
    refine ⟨?_, ?_, ?_⟩
    ·rw [r.1, q.1]; omega
    ·rw [r.2.1, q.2.1]; omega
    ·have := q.2.2; have := r.2.2; omega
   ·rw [if_neg hq] at h
    exact absurd h hq
  ·rw [if_neg hr] at h
   exact absurd h hr
theorem cntL (D : Nat) : ∀ (l : List V) (lv : Nat) (st : St), lv ≤ D → (chkL D l (lv + 1) st).1 = 0 → (chkL D l (lv + 1) st).2.1 = st.1 + ndL l ∧ (chkL D l (lv + 1) st).2.2.1 = st.2.1 + byL l ∧ lv + dpL l ≤ D
 | [], lv, st, h0, h => by rw [chkL, ndL, byL, dpL]; exact ⟨rfl, rfl, h0⟩
 | x :: t, lv, st, h0, h => by
  rw [ndL, byL, dpL]
  rw [chkL] at h ⊢
  by_cases hx : (chkV D x (lv + 1) st).1 = 0
  ·rw [if_pos hx] at h ⊢
   have q := cntV D x (lv + 1) st hx
   have r := cntL D t lv _ h0 h
   refine ⟨?_, ?_, ?_⟩
   ·rw [r.1, q.1]; omega
   ·rw [r.2.1, q.2.1]; omega
   ·have := q.2.2; have := r.2.2; omega
  ·rw [if_neg hx] at h
   exact absurd h hx
theorem cntM (D : Nat) : ∀ (l : List Mem) (lv : Nat) (st : St), lv ≤ D → (chkM D l (lv + 1) st).1 = 0 → (chkM D l (lv + 1) st).2.1 = st.1 + ndM l ∧ (chkM D l (lv + 1) st).2.2.1 = st.2.1 + byM l ∧ lv + dpM l ≤ D
 | [], lv, st, h0, h => by rw [chkM, ndM, byM, dpM]; exact ⟨rfl, rfl, h0⟩
 | (_, x) :: t, lv, st, h0, h => by
  rw [ndM, byM, dpM]
  rw [chkM] at h ⊢
  by_cases hx : (chkV D x (lv + 1) st).1 = 0
  ·rw [if_pos hx] at h ⊢
   have q := cntV D x (lv + 1) st hx
   have r := cntM D t lv _ h0 h
   refine ⟨?_, ?_, ?_⟩
   ·rw [r.1, q.1]; omega
   ·rw [r.2.1, q.2.1]; omega
   ·have := q.2.2; have := r.2.2; omega
  ·rw [if_neg hx] at h
   exact absurd h hx
end
mutual
theorem makV (D : Nat) : ∀ (v : V) (lv : Nat) (st : St), allG v → lv + dpV v ≤ D → st.1 + ndV v ≤ 65536 → st.2.1 + byV v ≤ 1048576 → (chkV D v lv st).1 = 0
 | .mk k b i s l m, lv, st, hg, hd, hn, hb => by
  rw [allG] at hg
  rw [dpV] at hd
  rw [ndV] at hn
  rw [byV] at hb
  rw [chkV]
  simp only
  have hr : (entF D st.1 st.2.1 st.2.2 lv (goodB k b i s l.length m) (s.size + keyB m)) = (0, st.1 + 1, st.2.1 + (s.size + keyB m), max st.2.2 lv) := by
   unfold entF
   rw [if_neg (by omega), if_neg (by omega), if_neg (by simp [hg.1]), if_neg (by omega)]
  rw [hr]
  simp only [if_true]
  have hq := makL D l lv (st.1 + 1, st.2.1 + (s.size + keyB m), max st.2.2 lv) hg.2.1 (by omega) (by simp only; omega) (by simp only; omega)
  have q := cntL D l lv _ (by omega) hq
  simp only at q
  rw [if_pos hq]
  exact makM D m lv _ hg.2.2 (by omega) (by rw [q.1]; omega) (by rw [q.2.1]; omega)
theorem makL (D : Nat) : ∀ (l : List V) (lv : Nat) (st : St), allGL l → lv + dpL l ≤ D → st.1 + ndL l ≤ 65536 → st.2.1 + byL l ≤ 1048576 → (chkL D l (lv + 1) st).1 = 0
 | [], lv, st, hg, hd, hn, hb => by rw [chkL]
 | x :: t, lv, st, hg, hd, hn, hb => by
  rw [allGL] at hg
  rw [dpL] at hd
  rw [ndL] at hn
  rw [byL] at hb
  have hx := makV D x (lv + 1) st hg.1 (by omega) (by omega) (by omega)
  have q := cntV D x (lv + 1) st hx
  rw [chkL, if_pos hx]
  exact makL D t lv _ hg.2 (by omega) (by rw [q.1]; omega) (by rw [q.2.1]; omega)
theorem makM (D : Nat) : ∀ (l : List Mem) (lv : Nat) (st : St), allGM l → lv + dpM l ≤ D → st.1 + ndM l ≤ 65536 → st.2.1 + byM l ≤ 1048576 → (chkM D l (lv + 1) st).1 = 0
 | [], lv, st, hg, hd, hn, hb => by rw [chkM]
 | (_, x) :: t, lv, st, hg, hd, hn, hb => by
  rw [allGM] at hg
  rw [dpM] at hd
  rw [ndM] at hn
  rw [byM] at hb
  have hx := makV D x (lv + 1) st hg.1 (by omega) (by omega) (by omega)
  have q := cntV D x (lv + 1) st hx
  rw [chkM, if_pos hx]
  exact makM D t lv _ hg.2 (by omega) (by rw [q.1]; omega) (by rw [q.2.1]; omega)
end
theorem chk_iff (v : V) (D : Nat) (hD : D ≤ 40) : chkE v (D : Int) = 0 ↔ allG v ∧ dpV v ≤ D ∧ ndV v ≤ 65536 ∧ byV v ≤ 1048576 := by
 have e : chkE v (D : Int) = (chkV D v 0 (0, 0, 0)).1 := by rw [chkE, if_neg (by omega)]; rfl
 rw [e]
 constructor
 ·intro h
  have c := cntV D v 0 (0, 0, 0) h
  have b := (chkV_bnd D v 0 (0, 0, 0) ⟨by simp, by simp, by simp⟩ h)
  have b1 := b.n
  have b2 := b.y
  simp only at c
  refine ⟨chkV_allG D v 0 _ h, by omega, by omega, by omega⟩
 ·rintro ⟨h1, h2, h3, h4⟩
  exact makV D v 0 (0, 0, 0) h1 (by omega) (by simp only; omega) (by simp only; omega)
mutual
theorem wt_nb : ∀ v : V, v.wt = ndV v + byV v
 | .mk k b i s l m => by rw [V.wt, ndV, byV, wt_nbL l, wt_nbM m]; omega
theorem wt_nbL : ∀ l : List V, wtL l = ndL l + byL l
 | [] => by rw [wtL, ndL, byL]
 | x :: t => by rw [wtL, ndL, byL, wt_nb x, wt_nbL t]; omega
theorem wt_nbM : ∀ m : List Mem, wtM m = ndM m + byM m + keyB m
 | [] => by rw [wtM, ndM, byM, keyB]
 | (k, x) :: t => by
  rw [wtM, ndM, byM, keyB, wt_nb x, wt_nbM t]
  show k.size + _ + _ = _ + _ + (k.size + _)
  omega
end
structure Ok (v : V) : Prop where
 g : allG v
 d : dpV v ≤ 40
 n : ndV v ≤ 65536
 b : byV v ≤ 1048576
theorem ok_chk {v : V} {D : Nat} (hD : D ≤ 40) (h : chkE v (D : Int) = 0) : Ok v := by
 have := (chk_iff v D hD).1 h
 exact ⟨this.1, by omega, this.2.2.1, this.2.2.2⟩
theorem Ok.ok {v : V} (h : Ok v) : okV v = true := by
 have := (chk_iff v 40 (Nat.le_refl _)).2 ⟨h.g, h.d, h.n, h.b⟩
 rw [okV, ← chkE40]
 exact decide_eq_true this
theorem Ok.cln {v : V} (h : Ok v) : clnV v = v := by rw [clnV, if_pos h.ok]
theorem Ok.wt {v : V} (h : Ok v) : v.wt ≤ 1114112 := by have := h.n; have := h.b; rw [wt_nb]; omega
theorem memNd : ∀ {m : List Mem} {y : Mem}, y ∈ m → ndV y.2 ≤ ndM m ∧ byV y.2 ≤ byM m ∧ dpV y.2 + 1 ≤ dpM m
 | (k, x) :: t, y, h => by
  rw [ndM, byM, dpM]
  rcases List.mem_cons.1 h with rfl | h
  ·simp only; omega
  ·have := memNd h; omega
theorem Ok.mem {k : Int} {b : Bool} {i : Int} {s : ByteArray} {l : List V} {m : List Mem} (h : Ok (.mk k b i s l m)) {y : Mem} (hy : y ∈ m) : Ok y.2 := by
 have h1 := h.g
 have h2 := h.d
 have h3 := h.n
 have h4 := h.b
 rw [allG] at h1
 rw [dpV] at h2
 rw [ndV] at h3
 rw [byV] at h4
 have := memNd hy
 exact ⟨allGM_i.1 h1.2.2 y hy, by omega, by omega, by omega⟩
theorem null_ok : Ok nullV := ⟨null_good, by rw [nullV, dpV, dpL, dpM]; omega, by rw [nullV, ndV, ndL, ndM]; omega, by rw [nullV, byV, byL, byM, keyB]; show (⟨#[]⟩ : ByteArray).size + _ + _ + _ ≤ _; have : (⟨#[]⟩ : ByteArray).size = 0 := rfl; omega⟩
theorem Ok.get {k : Int} {b : Bool} {i : Int} {s : ByteArray} {l : List V} {m : List Mem} (h : Ok (.mk k b i s l m)) (key : ByteArray) : Ok (getR m key) := by
 have key' : ∀ t : List Mem, (∀ y ∈ t, Ok y.2) → Ok (getR t key) := fun t => by
  induction t with
  | nil => intro _; exact null_ok
  | cons y t ih =>
   intro ht
   rw [getR]
   split
   ·exact ht y (List.mem_cons_self ..)
   ·exact ih fun z hz => ht z (List.mem_cons_of_mem _ hz)
 exact key' m fun y hy => h.mem hy
end Go.Proofs.YtjfldbmopjojdabDoor
