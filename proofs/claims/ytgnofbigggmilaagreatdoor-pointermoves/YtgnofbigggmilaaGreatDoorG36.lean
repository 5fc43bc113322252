/- joined: MovA MovB MovC -/
import Derived.Test.YtgnofbigggmilaaGreatDoorG24
set_option linter.unusedSimpArgs false
set_option linter.unusedVariables false
namespace Go.Proofs.YtgnofbigggmilaaGreatDoor
open Go.RowKit Go.Lib
mutual
def ndV : V → Nat
 | .mk _ _ _ _ l m => 1 + ndL l + ndM m
def ndL : List V → Nat
 | [] => 0
 | x :: t => ndV x + ndL t
def ndM : List Mem → Nat
 | [] => 0
 | (_, x) :: t => ndV x + ndM t
end
mutual
def byV : V → Nat
 | .mk _ _ _ s l m => s.size + keyB m + byL l + byM m
def byL : List V → Nat
 | [] => 0
 | x :: t => byV x + byL t
def byM : List Mem → Nat
 | [] => 0
 | (_, x) :: t => byV x + byM t
end
mutual
def dpV : V → Nat
 | .mk _ _ _ _ l m => max (dpL l) (dpM m)
def dpL : List V → Nat
 | [] => 0
 | x :: t => max (dpV x + 1) (dpL t)
def dpM : List Mem → Nat
 | [] => 0
 | (_, x) :: t => max (dpV x + 1) (dpM t)
end
mutual
theorem cntV (D : Nat) : ∀ (v : V) (lv : Nat) (st : St), (chkV D v lv st).1 = 0 → (chkV D v lv st).2.1 = st.1 + ndV v ∧ (chkV D v lv st).2.2.1 = st.2.1 + byV v ∧ lv + dpV v ≤ D
 | .mk k b i s l m, lv, st, h => by
  rw [ndV, byV, dpV]
  rw [chkV] at h ⊢
  simp only at h ⊢
  by_cases hr : (entF D st.1 st.2.1 st.2.2 lv (goodB k b i s l.length m) (s.size + keyB m)).1 = 0
  ·rw [if_pos hr] at h
   obtain ⟨e1, _, k2, _, _⟩ := ent_zero hr
   rw [e1] at h ⊢
   simp only [if_true] at h ⊢
   by_cases hq : (chkL D l (lv + 1) (st.1 + 1, st.2.1 + (s.size + keyB m), max st.2.2 lv)).1 = 0
   ·rw [if_pos hq] at h ⊢
    have q := cntL D l lv _ k2 hq
    have r := cntM D m lv _ k2 h
    simp only at q
    refine ⟨?_, ?_, ?_⟩
    ·rw [r.1, q.1]; omega
    ·rw [r.2.1, q.2.1]; omega
    ·have := q.2.2; have := r.2.2; omega
   ·rw [if_neg hq] at h
    exact absurd h hq
  ·rw [if_neg hr] at h
   exact absurd h hr
theorem cntL (D : Nat) : ∀ (l : List V) (lv : Nat) (st : St), lv ≤ D → (chkL D l (lv + 1) st).1 = 0 → (chkL D l (lv + 1) st).2.1 = st.1 + ndL l ∧ (chkL D l (lv + 1) st).2.2.1 = st.2.1 + byL l ∧ lv + dpL l ≤ D
 | [], lv, st, h0, h => by rw [chkL, ndL, byL, dpL]; exact ⟨rfl, rfl, h0⟩
 | x :: t, lv, st, h0, h => by
  rw [ndL, byL, dpL]
  rw [chkL] at h ⊢
  by_cases hx : (chkV D x (lv + 1) st).1 = 0
  ·rw [if_pos hx] at h ⊢
   have q := cntV D x (lv + 1) st hx
   have r := cntL D t lv _ h0 h
   refine ⟨?_, ?_, ?_⟩
   ·rw [r.1, q.1]; omega
   ·rw [r.2.1, q.2.1]; omega
   ·have := q.2.2; have := r.2.2; omega
  ·rw [if_neg hx] at h
   exact absurd h hx
theorem cntM (D : Nat) : ∀ (l : List Mem) (lv : Nat) (st : St), lv ≤ D → (chkM D l (lv + 1) st).1 = 0 → (chkM D l (lv + 1) st).2.1 = st.1 + ndM l ∧ (chkM D l (lv + 1) st).2.2.1 = st.2.1 + byM l ∧ lv + dpM l ≤ D
 | [], lv, st, h0, h => by rw [chkM, ndM, byM, dpM]; exact ⟨rfl, rfl, h0⟩
 | (_, x) :: t, lv, st, h0, h => by
  rw [ndM, byM, dpM]
  rw [chkM] at h ⊢
  by_cases hx : (chkV D x (lv + 1) st).1 = 0
  ·rw [if_pos hx] at h ⊢
   have q := cntV D x (lv + 1) st hx
   have r := cntM D t lv _ h0 h
   refine ⟨?_, ?_, ?_⟩
   ·rw [r.1, q.1]; omega
   ·rw [r.2.1, q.2.1]; omega
   ·have := q.2.2; have := r.2.2; omega
  ·rw [if_neg hx] at h
   exact absurd h hx
end
mutual
theorem makV (D : Nat) : ∀ (v : V) (lv : Nat) (st : St), allG v → lv + dpV v ≤ D → st.1 + ndV v ≤ 65536 → st.2.1 + byV v ≤ 1048576 → (chkV D v lv st).1 = 0
 | .mk k b i s l m, lv, st, hg, hd, hn, hb => by
  rw [allG] at hg
  rw [dpV] at hd
  rw [ndV] at hn
  rw [byV] at hb
  rw [chkV]
  simp only
  have hr : (entF D st.1 st.2.1 st.2.2 lv (goodB k b i s l.length m) (s.size + keyB m)) = (0, st.1 + 1, st.2.1 + (s.size + keyB m), max st.2.2 lv) := by
   unfold entF
   rw [if_neg (by omega), if_neg (by omega), if_neg (by simp [hg.1]), if_neg (by omega)]
  rw [hr]
  simp only [if_true]
  have hq := makL D l lv (st.1 + 1, st.2.1 + (s.size + keyB m), max st.2.2 lv) hg.2.1 (by omega) (by simp only; omega) (by simp only; omega)
  have q := cntL D l lv _ (by omega) hq
  simp only at q
  rw [if_pos hq]
  exact makM D m lv _ hg.2.2 (by omega) (by rw [q.1]; omega) (by rw [q.2.1]; omega)
theorem makL (D : Nat) : ∀ (l : List V) (lv : Nat) (st : St), allGL l → lv + dpL l ≤ D → st.1 + ndL l ≤ 65536 → st.2.1 + byL l ≤ 1048576 → (chkL D l (lv + 1) st).1 = 0
 | [], lv, st, hg, hd, hn, hb => by rw [chkL]
 | x :: t, lv, st, hg, hd, hn, hb => by
  rw [allGL] at hg
  rw [dpL] at hd
  rw [ndL] at hn
  rw [byL] at hb
  have hx := makV D x (lv + 1) st hg.1 (by omega) (by omega) (by omega)
  have q := cntV D x (lv + 1) st hx
  rw [chkL, if_pos hx]
  exact makL D t lv _ hg.2 (by omega) (by rw [q.1]; omega) (by rw [q.2.1]; omega)
theorem makM (D : Nat) : ∀ (l : List Mem) (lv : Nat) (st : St), allGM l → lv + dpM l ≤ D → st.1 + ndM l ≤ 65536 → st.2.1 + byM l ≤ 1048576 → (chkM D l (lv + 1) st).1 = 0
 | [], lv, st, hg, hd, hn, hb => by rw [chkM]
 | (_, x) :: t, lv, st, hg, hd, hn, hb => by
  rw [allGM] at hg
  rw [dpM] at hd
  rw [ndM] at hn
  rw [byM] at hb
  have hx := makV D x (lv + 1) st hg.1 (by omega) (by omega) (by omega)
  have q := cntV D x (lv + 1) st hx
  rw [chkM, if_pos hx]
  exact makM D t lv _ hg.2 (by omega) (by rw [q.1]; omega) (by rw [q.2.1]; omega)
end
theorem nd_pos (v : V) : 1 ≤ ndV v := by cases v; rw [ndV]; omega
theorem chk_iff (v : V) (D : Nat) (hD : D ≤ 40) : chkE v (D : Int) = 0 ↔ allG v ∧ dpV v ≤ D ∧ ndV v ≤ 65536 ∧ byV v ≤ 1048576 := by
 have e : chkE v (D : Int) = (chkV D v 0 (0, 0, 0)).1 := by rw [chkE, if_neg (by omega)]; rfl
 rw [e]
 constructor
 ·intro h
  have c := cntV D v 0 (0, 0, 0) h
  have b := (chkV_bnd D v 0 (0, 0, 0) ⟨by simp, by simp, by simp⟩ h)
  have b1 := b.n
  have b2 := b.y
  simp only at c
  refine ⟨chkV_allG D v 0 _ h, by omega, by omega, by omega⟩
 ·rintro ⟨h1, h2, h3, h4⟩
  exact makV D v 0 (0, 0, 0) h1 (by omega) (by simp only; omega) (by simp only; omega)
theorem kid_list {b : Bool} {i : Int} {s : ByteArray} {l : List V} {m : List Mem} {j : Nat} (h : j < l.length) : kid (.mk 4 b i s l m) j = l[j] := by
 show (l.getD j nullV) = _
 rw [List.getD_eq_getElem?_getD, List.getElem?_eq_getElem h]; rfl
theorem kid_map {b : Bool} {i : Int} {s : ByteArray} {l : List V} {m : List Mem} {j : Nat} (h : j < m.length) : kid (.mk 5 b i s l m) j = (m[j]).2 := by
 show (m.getD j (⟨#[]⟩, nullV)).2 = _
 rw [List.getD_eq_getElem?_getD, List.getElem?_eq_getElem h]; rfl
theorem repl_list {b : Bool} {i : Int} {s : ByteArray} {l : List V} {m : List Mem} (j : Nat) (y : V) : replV (.mk 4 b i s l m) j y = .mk 4 b i s (l.set j y) m := rfl
theorem repl_map {b : Bool} {i : Int} {s : ByteArray} {l : List V} {m : List Mem} {j : Nat} (h : j < m.length) (y : V) : replV (.mk 5 b i s l m) j y = .mk 5 b i s l (m.set j ((m[j]).1, y)) := by
 have e2 : (m.getD j (⟨#[]⟩, nullV)).1 = (m[j]).1 := by rw [List.getD_eq_getElem?_getD, List.getElem?_eq_getElem h]; rfl
 show V.mk 5 b i s l (m.set j ((m.getD j (⟨#[]⟩, nullV)).1, y)) = _
 rw [e2]
theorem kid_repl {v : V} {j : Nat} (hj : kidAt v j) (y : V) : kid (replV v j y) j = y := by
 obtain ⟨k, b, i, s, l, m⟩ := v
 rcases hj with ⟨hk, hj⟩ | ⟨hk, hj⟩
 ·have hk' : k = 4 := hk
  subst hk'
  have hj' : j < l.length := hj
  rw [repl_list, kid_list (by rw [List.length_set]; exact hj')]
  simp
 ·have hk' : k = 5 := hk
  subst hk'
  have hj' : j < m.length := hj
  rw [repl_map hj', kid_map (by rw [List.length_set]; exact hj')]
  simp
theorem kid_other {v : V} {j q : Nat} (hj : kidAt v j) (hq : kidAt v q) (hne : q ≠ j) (y : V) : kid (replV v j y) q = kid v q := by
 obtain ⟨k, b, i, s, l, m⟩ := v
 rcases hj with ⟨hk, hj⟩ | ⟨hk, hj⟩
 ·have hk' : k = 4 := hk
  subst hk'
  rcases hq with ⟨_, hq⟩ | ⟨hk2, _⟩
  ·have hq' : q < l.length := hq
   rw [repl_list, kid_list (by rw [List.length_set]; exact hq'), kid_list hq', List.getElem_set_ne (by omega)]
  ·cases hk2
 ·have hk' : k = 5 := hk
  subst hk'
  rcases hq with ⟨hk2, _⟩ | ⟨_, hq⟩
  ·cases hk2
  ·have hq' : q < m.length := hq
   have hj' : j < m.length := hj
   rw [repl_map hj', kid_map (by rw [List.length_set]; exact hq'), kid_map hq', List.getElem_set_ne (by omega)]
theorem repl_repl {v : V} {j : Nat} (hj : kidAt v j) (y z : V) : replV (replV v j y) j z = replV v j z := by
 obtain ⟨k, b, i, s, l, m⟩ := v
 rcases hj with ⟨hk, hj⟩ | ⟨hk, hj⟩
 ·have hk' : k = 4 := hk
  subst hk'
  rw [repl_list, repl_list, repl_list, List.set_set]
 ·have hk' : k = 5 := hk
  subst hk'
  have hj' : j < m.length := hj
  rw [repl_map hj', repl_map (by rw [List.length_set]; exact hj'), repl_map hj', List.set_set]
  simp
theorem repl_self {v : V} {j : Nat} (hj : kidAt v j) : replV v j (kid v j) = v := by
 obtain ⟨k, b, i, s, l, m⟩ := v
 rcases hj with ⟨hk, hj⟩ | ⟨hk, hj⟩
 ·have hk' : k = 4 := hk
  subst hk'
  have hj' : j < l.length := hj
  rw [kid_list hj', repl_list, List.set_getElem_self]
 ·have hk' : k = 5 := hk
  subst hk'
  have hj' : j < m.length := hj
  rw [kid_map hj', repl_map hj']
  show V.mk 5 b i s l (m.set j m[j]) = _
  rw [List.set_getElem_self]
theorem set_keys {m : List Mem} {j : Nat} (h : j < m.length) (y : V) : (m.set j ((m[j]).1, y)).map (fun x => x.1) = m.map (fun x => x.1) := by
 rw [List.map_set]
 apply List.ext_getElem
 ·simp
 ·intro q h1 h2
  by_cases e : j = q
  ·subst e; simp
  ·rw [List.getElem_set_ne e]
theorem pos_keys (m : List Mem) (t : ByteArray) : posF m t = ((m.map (fun x => x.1)).filter (fun k => Op.bytesLess k.toList t.toList)).length := by
 rw [List.filter_map, List.length_map]
 rfl
theorem keyIs_keys (t : ByteArray) (m : List Mem) (q : Nat) : keyIs t m[q]? = (((m.map (fun x => x.1))[q]?).elim false (fun k => k.toList == t.toList)) := by
 rw [List.getElem?_map]
 cases m[q]? <;> rfl
theorem led4 (b : Bool) (i : Int) (s : ByteArray) (l : List V) (m : List Mem) (t : ByteArray) : ledF (.mk 4 b i s l m) t = ((idxF t.data.toList l.length).getD 0, if (idxF t.data.toList l.length).isSome = true then 0 else 42) := by
 have h5 : ¬ kindOf (V.mk 4 b i s l m) = 5 := by show ¬ (4 : Int) = 5; decide
 have h4 : kindOf (V.mk 4 b i s l m) = 4 := rfl
 rw [ledF, if_neg h5, if_pos h4]
 rfl
theorem led5 (b : Bool) (i : Int) (s : ByteArray) (l : List V) (m : List Mem) (t : ByteArray) : ledF (.mk 5 b i s l m) t = if keyIs t m[posF m t]? = true then (posF m t, 0) else (0, 41) := by
 have h5 : kindOf (V.mk 5 b i s l m) = 5 := rfl
 rw [ledF, if_pos h5]
 rfl
theorem led_repl {v : V} {j : Nat} (hj : kidAt v j) (y : V) (t : ByteArray) : ledF (replV v j y) t = ledF v t := by
 obtain ⟨k, b, i, s, l, m⟩ := v
 rcases hj with ⟨hk, hj⟩ | ⟨hk, hj⟩
 ·have hk' : k = 4 := hk
  subst hk'
  rw [repl_list, led4, led4, List.length_set]
 ·have hk' : k = 5 := hk
  subst hk'
  have hj' : j < m.length := hj
  have hp : posF (m.set j ((m[j]).1, y)) t = posF m t := by rw [pos_keys, pos_keys m, set_keys hj']
  have hk2 : keyIs t (m.set j ((m[j]).1, y))[posF m t]? = keyIs t m[posF m t]? := by rw [keyIs_keys, keyIs_keys t m, set_keys hj']
  rw [repl_map hj', led5, led5, hp, hk2]
theorem led_inj {v : V} {t u : ByteArray} (ht : (ledF v t).2 = 0) (hu : (ledF v u).2 = 0) (h : (ledF v t).1 = (ledF v u).1) : t = u := by
 have key : ∀ a b : ByteArray, a.toList = b.toList → a = b := fun a b e => by
  rw [ByteArray.toList_eq, ByteArray.toList_eq] at e
  rcases a with ⟨⟨x⟩⟩
  rcases b with ⟨⟨y⟩⟩
  have e' : x = y := e
  rw [e']
 unfold ledF at ht hu h
 by_cases h5 : kindOf v = 5
 ·simp only [if_pos h5] at ht hu h
  by_cases k1 : keyIs t (memsOf v)[posF (memsOf v) t]? = true
  ·by_cases k2 : keyIs u (memsOf v)[posF (memsOf v) u]? = true
   ·rw [if_pos k1, if_pos k2] at h
    have h' : posF (memsOf v) t = posF (memsOf v) u := h
    rw [h'] at k1
    cases hm : (memsOf v)[posF (memsOf v) u]? with
    | none => rw [hm] at k1; cases k1
    | some y =>
     rw [hm] at k1 k2
     have a1 : y.1.toList = t.toList := by simpa [keyIs] using k1
     have a2 : y.1.toList = u.toList := by simpa [keyIs] using k2
     exact key _ _ (a1.symm.trans a2)
   ·rw [if_neg k2] at hu; cases hu
  ·rw [if_neg k1] at ht; cases ht
 ·simp only [if_neg h5] at ht hu h
  by_cases h4 : kindOf v = 4
  ·simp only [if_pos h4] at ht hu h
   cases e1 : idxF t.data.toList (listOf v).length with
   | none => rw [e1] at ht; cases ht
   | some a =>
    cases e2 : idxF u.data.toList (listOf v).length with
    | none => rw [e2] at hu; cases hu
    | some c =>
     rw [e1, e2] at h
     have hac : a = c := h
     subst hac
     have p1 : decDigits a = t.data.toList := by simpa using List.find?_some e1
     have p2 : decDigits a = u.data.toList := by simpa using List.find?_some e2
     apply key
     rw [ByteArray.toList_eq, ByteArray.toList_eq, ← p1, ← p2]
  ·simp only [if_neg h4] at ht
   cases ht
def updV (v : V) (ts : List ByteArray) (y : V) : V := (wkV (fun _ => (y, 0)) v ts).1
theorem rg_cons {v : V} {t : ByteArray} {ts : List ByteArray} (h : (rgW v (t :: ts)).2 = 0) : (ledF v t).2 = 0 ∧ (rgW (kid v (ledF v t).1) ts).2 = 0 ∧ rgW v (t :: ts) = rgW (kid v (ledF v t).1) ts := by
 rw [rgW] at h
 by_cases h0 : (ledF v t).2 = 0
 ·rw [if_pos h0] at h
  exact ⟨h0, h, by rw [rgW, if_pos h0]⟩
 ·rw [if_neg h0] at h
  exact absurd h h0
theorem wk_const (y : V) : ∀ (ts : List ByteArray) (v : V), (rgW v ts).2 = 0 → (wkV (fun _ => (y, 0)) v ts).2.1 = 0
 | [], v, _ => rfl
 | t :: ts, v, h => by
  obtain ⟨h0, h1, _⟩ := rg_cons h
  rw [wkV, if_pos h0, if_pos (wk_const y ts _ h1)]
theorem upd_cons {v : V} {t : ByteArray} {ts : List ByteArray} (h : (rgW v (t :: ts)).2 = 0) (y : V) : updV v (t :: ts) y = replV v (ledF v t).1 (updV (kid v (ledF v t).1) ts y) := by
 obtain ⟨h0, h1, _⟩ := rg_cons h
 rw [updV, wkV, if_pos h0, if_pos (wk_const y ts _ h1)]
 rfl
theorem upd_nil (v y : V) : updV v [] y = y := rfl
theorem wk_at (F : V → V × Int) : ∀ (ts : List ByteArray) (v : V), (rgW v ts).2 = 0 → (wkV F v ts).2.1 = (F (rgW v ts).1).2 ∧ ((F (rgW v ts).1).2 = 0 → (wkV F v ts).1 = updV v ts (F (rgW v ts).1).1) ∧ (wkV F v ts).2.2 = some (rgW v ts).1
 | [], v, _ => ⟨rfl, fun _ => rfl, rfl⟩
 | t :: ts, v, h => by
  obtain ⟨h0, h1, h2⟩ := rg_cons h
  have ih := wk_at F ts _ h1
  rw [h2, upd_cons h]
  rw [wkV, if_pos h0]
  by_cases hf : (F (rgW (kid v (ledF v t).1) ts).1).2 = 0
  ·rw [if_pos (by rw [ih.1]; exact hf)]
   exact ⟨hf.symm, fun _ => by rw [ih.2.1 hf], ih.2.2⟩
  ·rw [if_neg (by rw [ih.1]; exact hf)]
   exact ⟨ih.1, fun e => absurd e hf, ih.2.2⟩
theorem rg_upd (y : V) : ∀ (ts : List ByteArray) (v : V), (rgW v ts).2 = 0 → rgW (updV v ts y) ts = (y, 0)
 | [], v, _ => rfl
 | t :: ts, v, h => by
  obtain ⟨h0, h1, _⟩ := rg_cons h
  have hj := led_kid h0
  rw [upd_cons h, rgW, led_repl hj, if_pos h0, kid_repl hj]
  exact rg_upd y ts _ h1
theorem upd_upd (y z : V) : ∀ (ts : List ByteArray) (v : V), (rgW v ts).2 = 0 → updV (updV v ts y) ts z = updV v ts z
 | [], v, _ => rfl
 | t :: ts, v, h => by
  obtain ⟨h0, h1, _⟩ := rg_cons h
  have hj := led_kid h0
  have hu : (rgW (updV v (t :: ts) y) (t :: ts)).2 = 0 := by rw [rg_upd y (t :: ts) v h]
  rw [upd_cons hu, upd_cons h, upd_cons h, led_repl hj, kid_repl hj, repl_repl hj, upd_upd y z ts _ h1]
theorem upd_self : ∀ (ts : List ByteArray) (v : V), (rgW v ts).2 = 0 → updV v ts (rgW v ts).1 = v
 | [], v, _ => rfl
 | t :: ts, v, h => by
  obtain ⟨h0, h1, h2⟩ := rg_cons h
  rw [upd_cons h, h2, upd_self ts _ h1, repl_self (led_kid h0)]
def Apart (a b : List ByteArray) : Prop := ¬ a <+: b ∧ ¬ b <+: a
theorem rg_apart (y : V) : ∀ (ts us : List ByteArray) (v : V), (rgW v ts).2 = 0 → (rgW v us).2 = 0 → Apart ts us → rgW (updV v ts y) us = rgW v us
 | [], us, v, _, _, ha => absurd (List.nil_prefix) ha.1
 | t :: ts, [], v, _, _, ha => absurd (List.nil_prefix) ha.2
 | t :: ts, u :: us, v, h, hu, ha => by
  obtain ⟨h0, h1, _⟩ := rg_cons h
  obtain ⟨k0, k1, k2⟩ := rg_cons hu
  have hj := led_kid h0
  rw [upd_cons h, rgW, led_repl hj, if_pos k0, k2]
  by_cases e : t = u
  ·subst e
   rw [kid_repl hj]
   exact rg_apart y ts us _ h1 k1 ⟨fun hp => ha.1 (List.cons_prefix_cons.2 ⟨rfl, hp⟩), fun hp => ha.2 (List.cons_prefix_cons.2 ⟨rfl, hp⟩)⟩
  ·rw [kid_other hj (led_kid k0) (fun q => e (led_inj h0 k0 q.symm))]
theorem ndL_set : ∀ (l : List V) (j : Nat) (h : j < l.length) (y : V), ndL (l.set j y) + ndV (l[j]) = ndL l + ndV y
 | x :: t, 0, h, y => by simp only [List.set_cons_zero, ndL, List.getElem_cons_zero]; omega
 | x :: t, j + 1, h, y => by
  have := ndL_set t j (by simpa using h) y
  simp only [List.set_cons_succ, ndL, List.getElem_cons_succ]; omega
theorem ndM_set : ∀ (l : List Mem) (j : Nat) (h : j < l.length) (y : V), ndM (l.set j ((l[j]).1, y)) + ndV (l[j]).2 = ndM l + ndV y
 | (k, x) :: t, 0, h, y => by simp only [List.set_cons_zero, ndM, List.getElem_cons_zero]; omega
 | (k, x) :: t, j + 1, h, y => by
  have := ndM_set t j (by simpa using h) y
  simp only [List.set_cons_succ, ndM, List.getElem_cons_succ]; omega
theorem byL_set : ∀ (l : List V) (j : Nat) (h : j < l.length) (y : V), byL (l.set j y) + byV (l[j]) = byL l + byV y
 | x :: t, 0, h, y => by simp only [List.set_cons_zero, byL, List.getElem_cons_zero]; omega
 | x :: t, j + 1, h, y => by
  have := byL_set t j (by simpa using h) y
  simp only [List.set_cons_succ, byL, List.getElem_cons_succ]; omega
theorem byM_set : ∀ (l : List Mem) (j : Nat) (h : j < l.length) (y : V), byM (l.set j ((l[j]).1, y)) + byV (l[j]).2 = byM l + byV y
 | (k, x) :: t, 0, h, y => by simp only [List.set_cons_zero, byM, List.getElem_cons_zero]; omega
 | (k, x) :: t, j + 1, h, y => by
  have := byM_set t j (by simpa using h) y
  simp only [List.set_cons_succ, byM, List.getElem_cons_succ]; omega
theorem dpL_set : ∀ (l : List V) (j : Nat) (h : j < l.length) (y : V), dpL (l.set j y) ≤ max (dpL l) (dpV y + 1)
 | x :: t, 0, h, y => by simp only [List.set_cons_zero, dpL]; omega
 | x :: t, j + 1, h, y => by
  have := dpL_set t j (by simpa using h) y
  simp only [List.set_cons_succ, dpL]; omega
theorem dpM_set : ∀ (l : List Mem) (j : Nat) (h : j < l.length) (k : ByteArray) (y : V), dpM (l.set j (k, y)) ≤ max (dpM l) (dpV y + 1)
 | (k, x) :: t, 0, h, k', y => by simp only [List.set_cons_zero, dpM]; omega
 | (k, x) :: t, j + 1, h, k', y => by
  have := dpM_set t j (by simpa using h) k' y
  simp only [List.set_cons_succ, dpM]; omega
theorem dpL_get : ∀ (l : List V) (j : Nat) (h : j < l.length), dpV (l[j]) + 1 ≤ dpL l
 | x :: t, 0, h => by simp only [dpL, List.getElem_cons_zero]; omega
 | x :: t, j + 1, h => by
  have := dpL_get t j (by simpa using h)
  simp only [dpL, List.getElem_cons_succ]; omega
theorem dpM_get : ∀ (l : List Mem) (j : Nat) (h : j < l.length), dpV (l[j]).2 + 1 ≤ dpM l
 | (k, x) :: t, 0, h => by simp only [dpM, List.getElem_cons_zero]; omega
 | (k, x) :: t, j + 1, h => by
  have := dpM_get t j (by simpa using h)
  simp only [dpM, List.getElem_cons_succ]; omega
theorem allGL_iff : ∀ l : List V, allGL l ↔ ∀ x ∈ l, allG x
 | [] => by simp [allGL]
 | x :: t => by rw [allGL, allGL_iff t]; simp
theorem allGM_iff : ∀ l : List Mem, allGM l ↔ ∀ x ∈ l, allG x.2
 | [] => by simp [allGM]
 | (k, x) :: t => by
  rw [allGM, allGM_iff t]
  constructor
  ·rintro ⟨h1, h2⟩ y hy
   rcases List.mem_cons.1 hy with rfl | hy
   ·exact h1
   ·exact h2 y hy
  ·intro h
   exact ⟨h (k, x) (List.mem_cons_self ..), fun y hy => h y (List.mem_cons_of_mem _ hy)⟩
theorem nd_repl {v : V} {j : Nat} (hj : kidAt v j) (y : V) : ndV (replV v j y) + ndV (kid v j) = ndV v + ndV y := by
 obtain ⟨k, b, i, s, l, m⟩ := v
 rcases hj with ⟨hk, hj⟩ | ⟨hk, hj⟩
 ·have hk' : k = 4 := hk
  subst hk'
  have hj' : j < l.length := hj
  have := ndL_set l j hj' y
  rw [repl_list, kid_list hj', ndV, ndV]; omega
 ·have hk' : k = 5 := hk
  subst hk'
  have hj' : j < m.length := hj
  have := ndM_set m j hj' y
  rw [repl_map hj', kid_map hj', ndV, ndV]; omega
theorem by_repl {v : V} {j : Nat} (hj : kidAt v j) (y : V) : byV (replV v j y) + byV (kid v j) = byV v + byV y := by
 obtain ⟨k, b, i, s, l, m⟩ := v
 rcases hj with ⟨hk, hj⟩ | ⟨hk, hj⟩
 ·have hk' : k = 4 := hk
  subst hk'
  have hj' : j < l.length := hj
  have := byL_set l j hj' y
  rw [repl_list, kid_list hj', byV, byV]; omega
 ·have hk' : k = 5 := hk
  subst hk'
  have hj' : j < m.length := hj
  have := byM_set m j hj' y
  rw [repl_map hj', kid_map hj', byV, byV, keyB_set m j hj' y]; omega
theorem dp_repl {v : V} {j : Nat} (hj : kidAt v j) (y : V) : dpV (replV v j y) ≤ max (dpV v) (dpV y + 1) := by
 obtain ⟨k, b, i, s, l, m⟩ := v
 rcases hj with ⟨hk, hj⟩ | ⟨hk, hj⟩
 ·have hk' : k = 4 := hk
  subst hk'
  have := dpL_set l j hj y
  rw [repl_list, dpV, dpV]; omega
 ·have hk' : k = 5 := hk
  subst hk'
  have hj' : j < m.length := hj
  have := dpM_set m j hj' (m[j]).1 y
  rw [repl_map hj', dpV, dpV]; omega
theorem dp_kid {v : V} {j : Nat} (hj : kidAt v j) : dpV (kid v j) + 1 ≤ dpV v := by
 obtain ⟨k, b, i, s, l, m⟩ := v
 rcases hj with ⟨hk, hj⟩ | ⟨hk, hj⟩
 ·have hk' : k = 4 := hk
  subst hk'
  have hj' : j < l.length := hj
  have := dpL_get l j hj'
  rw [kid_list hj', dpV]; omega
 ·have hk' : k = 5 := hk
  subst hk'
  have hj' : j < m.length := hj
  have := dpM_get m j hj'
  rw [kid_map hj', dpV]; omega
theorem all_repl {v : V} {j : Nat} (hj : kidAt v j) (hv : allG v) {y : V} (hy : allG y) : allG (replV v j y) := by
 obtain ⟨k, b, i, s, l, m⟩ := v
 rw [allG] at hv
 rcases hj with ⟨hk, hj⟩ | ⟨hk, hj⟩
 ·have hk' : k = 4 := hk
  subst hk'
  rw [repl_list, allG, List.length_set]
  refine ⟨hv.1, (allGL_iff _).2 fun x hx => ?_, hv.2.2⟩
  rcases List.mem_or_eq_of_mem_set hx with hx | rfl
  ·exact (allGL_iff _).1 hv.2.1 x hx
  ·exact hy
 ·have hk' : k = 5 := hk
  subst hk'
  have hj' : j < m.length := hj
  rw [repl_map hj', allG]
  refine ⟨?_, hv.2.1, (allGM_iff _).2 fun x hx => ?_⟩
  ·have h := hv.1
   simp only [goodB, Bool.and_eq_true] at h ⊢
   rw [List.length_set]
   exact ⟨h.1, rise_set hj' y h.2⟩
  ·rcases List.mem_or_eq_of_mem_set hx with hx | rfl
   ·exact (allGM_iff _).1 hv.2.2 x hx
   ·exact hy
theorem nd_upd (y : V) : ∀ (ts : List ByteArray) (v : V), (rgW v ts).2 = 0 → ndV (updV v ts y) + ndV (rgW v ts).1 = ndV v + ndV y
 | [], v, _ => by rw [upd_nil, rgW]; simp only; omega
 | t :: ts, v, h => by
  obtain ⟨h0, h1, h2⟩ := rg_cons h
  have a := nd_upd y ts _ h1
  have b := nd_repl (led_kid h0) (updV (kid v (ledF v t).1) ts y)
  rw [upd_cons h, h2]; omega
theorem by_upd (y : V) : ∀ (ts : List ByteArray) (v : V), (rgW v ts).2 = 0 → byV (updV v ts y) + byV (rgW v ts).1 = byV v + byV y
 | [], v, _ => by rw [upd_nil, rgW]; simp only; omega
 | t :: ts, v, h => by
  obtain ⟨h0, h1, h2⟩ := rg_cons h
  have a := by_upd y ts _ h1
  have b := by_repl (led_kid h0) (updV (kid v (ledF v t).1) ts y)
  rw [upd_cons h, h2]; omega
theorem dp_upd (y : V) : ∀ (ts : List ByteArray) (v : V), (rgW v ts).2 = 0 → dpV (updV v ts y) ≤ max (dpV v) (ts.length + dpV y)
 | [], v, _ => by rw [upd_nil, List.length_nil]; omega
 | t :: ts, v, h => by
  obtain ⟨h0, h1, h2⟩ := rg_cons h
  have a := dp_upd y ts _ h1
  have b := dp_repl (led_kid h0) (updV (kid v (ledF v t).1) ts y)
  have c := dp_kid (led_kid h0)
  rw [upd_cons h, List.length_cons]; omega
theorem dp_rg : ∀ (ts : List ByteArray) (v : V), (rgW v ts).2 = 0 → ts.length + dpV (rgW v ts).1 ≤ dpV v
 | [], v, _ => by rw [rgW, List.length_nil]; simp only; omega
 | t :: ts, v, h => by
  obtain ⟨h0, h1, h2⟩ := rg_cons h
  have a := dp_rg ts _ h1
  have c := dp_kid (led_kid h0)
  rw [h2, List.length_cons]; omega
theorem all_upd {y : V} (hy : allG y) : ∀ (ts : List ByteArray) (v : V), allG v → (rgW v ts).2 = 0 → allG (updV v ts y)
 | [], v, _, _ => hy
 | t :: ts, v, hv, h => by
  obtain ⟨h0, h1, h2⟩ := rg_cons h
  rw [upd_cons h]
  exact all_repl (led_kid h0) hv (all_upd hy ts _ (allG_kid hv (led_kid h0)) h1)
theorem all_rg : ∀ (ts : List ByteArray) (v : V), allG v → (rgW v ts).2 = 0 → allG (rgW v ts).1
 | [], v, hv, _ => hv
 | t :: ts, v, hv, h => by
  obtain ⟨h0, h1, h2⟩ := rg_cons h
  rw [h2]
  exact all_rg ts _ (allG_kid hv (led_kid h0)) h1
theorem nd_rg (ts : List ByteArray) (v : V) (h : (rgW v ts).2 = 0) : ndV (rgW v ts).1 ≤ ndV v := by
 have := nd_upd nullV ts v h
 have := nd_pos (updV v ts nullV)
 have e : ndV nullV = 1 := by kernel_rfl
 omega
theorem by_rg (ts : List ByteArray) (v : V) (h : (rgW v ts).2 = 0) : byV (rgW v ts).1 ≤ byV v := by
 have := by_upd nullV ts v h
 have e : byV nullV = 0 := by kernel_rfl
 omega
theorem chk40_of {v : V} (g : allG v) (d : dpV v ≤ 40) (n : ndV v ≤ 65536) (c : byV v ≤ 1048576) : chkE v 40 = 0 := (chk_iff v 40 (Nat.le_refl _)).2 ⟨g, d, n, c⟩
theorem nwe_ok {v : V} (h : chkE v 40 = 0) : nweF v 0 = (v, 0) := by rw [nweF, if_pos rfl, if_pos h]
theorem rd_ok {v : V} {p : ByteArray} {o : List (List UInt8)} (h : chkE v 40 = 0) (hp : parF p.data.toList = some o) : rdF v p = 0 := by rw [rdF, if_pos h, hp]; rfl
end Go.Proofs.YtgnofbigggmilaaGreatDoor
