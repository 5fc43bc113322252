import Derived.Test.YtjfldbmopjojdaaDoorGetX
import Derived.Test.YtjfldbmopjojdaaDoorAplX
/- MergepatchTwice: which errors may come; what is found in a patched map. -/
set_option linter.unusedSimpArgs false
set_option linter.unusedVariables false
namespace Go.Proofs.YtjfldbmopjojdaaDoor
open Go.RowKit Go.Lib
def C3 (n : Nat) : Prop := n = 0 ∨ n = 22 ∨ n = 23
mutual
theorem codV (D : Nat) : ∀ (v : V) (lv : Nat) (st : St), allG v → lv + dpV v ≤ D → C3 (chkV D v lv st).1
  | .mk k b i s l m, lv, st, hg, hd => by
    rw [allG] at hg
    rw [dpV] at hd
    rw [chkV]
    simp only
    have hr : C3 (entF D st.1 st.2.1 st.2.2 lv (goodB k b i s l.length m) (s.size + keyB m)).1 := by
      unfold entF
      split
      · exact .inr (.inl rfl)
      · rw [if_neg (by omega), if_neg (by simp [hg.1])]
        split
        · exact .inr (.inr rfl)
        · exact .inl rfl
    by_cases h0 : (entF D st.1 st.2.1 st.2.2 lv (goodB k b i s l.length m) (s.size + keyB m)).1 = 0
    · rw [if_pos h0]
      by_cases hq : (chkL D l (lv + 1) (entF D st.1 st.2.1 st.2.2 lv (goodB k b i s l.length m) (s.size + keyB m)).2).1 = 0
      · rw [if_pos hq]
        exact codM D m lv _ hg.2.2 (by omega)
      · rw [if_neg hq]
        exact codL D l lv _ hg.2.1 (by omega)
    · rw [if_neg h0]
      exact hr
theorem codL (D : Nat) : ∀ (l : List V) (lv : Nat) (st : St), allGL l → lv + dpL l ≤ D → C3 (chkL D l (lv + 1) st).1
  | [], lv, st, hg, hd => by rw [chkL]; exact .inl rfl
  | x :: t, lv, st, hg, hd => by
    rw [allGL] at hg
    rw [dpL] at hd
    rw [chkL]
    split
    · exact codL D t lv _ hg.2 (by omega)
    · exact codV D x (lv + 1) st hg.1 (by omega)
theorem codM (D : Nat) : ∀ (l : List Mem) (lv : Nat) (st : St), allGM l → lv + dpM l ≤ D → C3 (chkM D l (lv + 1) st).1
  | [], lv, st, hg, hd => by rw [chkM]; exact .inl rfl
  | (_, x) :: t, lv, st, hg, hd => by
    rw [allGM] at hg
    rw [dpM] at hd
    rw [chkM]
    split
    · exact codM D t lv _ hg.2 (by omega)
    · exact codV D x (lv + 1) st hg.1 (by omega)
end
theorem chk32 (v : V) : chkE v 32 = 0 ↔ allG v ∧ dpV v ≤ 32 ∧ ndV v ≤ 65536 ∧ byV v ≤ 1048576 := chk_iff v 32 (by omega)
/-- of what is patched only the sizes can be too great -/
theorem pch_codes {t p : V} (ht : chkE t 32 = 0) (hp : chkE p 32 = 0) : C3 (chkE (pchV t p) 32) := by
  have h1 := (chk32 t).1 ht
  have h2 := (chk32 p).1 hp
  have hd : dpV (pchV t p) ≤ 32 := by
    have := pch_dp t p
    have := dpM_mems t
    omega
  have e : chkE (pchV t p) 32 = (chkV 32 (pchV t p) 0 (0, 0, 0)).1 := by rw [chkE, if_neg (by omega)]; rfl
  rw [e]
  exact codV 32 _ 0 _ (pch_good t p h1.1 h2.1) (by omega)
theorem chk_mem {v : V} (h : chkE v 32 = 0) {y : Mem} (hy : y ∈ memsOf v) : chkE y.2 32 = 0 := by
  obtain ⟨k, b, i, s, l, m⟩ := v
  have h1 := (chk32 _).1 h
  have hg := (gm_mems h1.1).g y hy
  have hy' : y ∈ m := hy
  have hm := memNd hy'
  rw [dpV, ndV, byV] at h1
  exact (chk32 _).2 ⟨hg, by omega, by omega, by omega⟩
theorem chk_null : chkE nullV 32 = 0 := by kernel_rfl
/-- what stands at a key -/
def lk : List Mem → ByteArray → Option V
  | [], _ => none
  | y :: t, k => if y.1.toList = k.toList then some y.2 else lk t k
theorem lk_mem : ∀ {l : List Mem} {k : ByteArray} {x : V}, lk l k = some x → ∃ y ∈ l, y.2 = x
  | [], k, x, h => by cases h
  | y :: t, k, x, h => by
    rw [lk] at h
    split at h
    · exact ⟨y, List.mem_cons_self, by injection h⟩
    · obtain ⟨z, h1, h2⟩ := lk_mem h
      exact ⟨z, List.mem_cons_of_mem _ h1, h2⟩
theorem lk_far {l : List Mem} {k : ByteArray} (h : ∀ y ∈ l, ¬ y.1.toList = k.toList) : lk l k = none := by
  induction l with
  | nil => rfl
  | cons y t ih =>
    rw [lk, if_neg (h y List.mem_cons_self)]
    exact ih fun z hz => h z (List.mem_cons_of_mem _ hz)
theorem lk_lt {l : List Mem} {k : ByteArray} (h : ∀ y ∈ l, ltB k y.1 = true) : lk l k = none := lk_far fun y hy e => lt_ne (h y hy) e.symm
theorem lk_hit {k key : ByteArray} {x : V} {t : List Mem} (h : k.toList = key.toList) : lk ((k, x) :: t) key = some x := by rw [lk, if_pos h]
theorem lk_no {k key : ByteArray} {x : V} {t : List Mem} (h : ¬ k.toList = key.toList) : lk ((k, x) :: t) key = lk t key := by rw [lk, if_neg h]
/-- what a patch makes of a key -/
def pk (f : V → V → V) (a b : Option V) : Option V := match b with
  | none => a
  | some x => if kindOf x = 0 then none else some (f (a.getD nullV) x)
theorem lk_mrg {f : V → V → V} {key : ByteArray} : ∀ (o m : List Mem), Srt o → Srt m → lk (mrgM f o m) key = pk f (lk o key) (lk m key)
  | a, [], _, _ => by rw [mrgM, lk, pk]
  | [], (k, x) :: b, ho, hm => by
    obtain ⟨sb, kb⟩ := srt_tail hm
    have ih := lk_mrg (f := f) (key := key) [] b ho sb
    by_cases hk : k.toList = key.toList
    · have hb0 : lk b key = none := lk_far fun y hy e => lt_ne (kb y hy) (hk.trans e.symm)
      rw [show lk ((k, x) :: b) key = some x from lk_hit hk]
      by_cases hx : kindOf x = 0
      · rw [show mrgM f [] ((k, x) :: b) = mrgM f [] b from by rw [mrgM, if_pos hx], ih, hb0]
        simp [pk, hx, lk]
      · rw [show mrgM f [] ((k, x) :: b) = (k, f nullV x) :: mrgM f [] b from by rw [mrgM, if_neg hx], lk_hit hk]
        simp [pk, hx, lk]
    · rw [show lk ((k, x) :: b) key = lk b key from lk_no hk]
      by_cases hx : kindOf x = 0
      · rw [show mrgM f [] ((k, x) :: b) = mrgM f [] b from by rw [mrgM, if_pos hx], ih]
      · rw [show mrgM f [] ((k, x) :: b) = (k, f nullV x) :: mrgM f [] b from by rw [mrgM, if_neg hx], lk_no hk, ih]
  | (ka, xa) :: a, (kb, xb) :: b, ho, hm => by
    obtain ⟨sa, la⟩ := srt_tail ho
    obtain ⟨sb, lb⟩ := srt_tail hm
    have i1 := lk_mrg (f := f) (key := key) a ((kb, xb) :: b) sa hm
    have i2 := lk_mrg (f := f) (key := key) ((ka, xa) :: a) b ho sb
    have i3 := lk_mrg (f := f) (key := key) a b sa sb
    by_cases h1 : ltB ka kb = true
    · rw [show mrgM f ((ka, xa) :: a) ((kb, xb) :: b) = (ka, xa) :: mrgM f a ((kb, xb) :: b) from by rw [mrgM, if_pos h1]]
      by_cases hk : ka.toList = key.toList
      · have hm0 : lk ((kb, xb) :: b) key = none := lk_lt (fun y hy => by
          rw [← lt_same hk]
          rcases List.mem_cons.1 hy with rfl | hy
          · exact h1
          · exact ltB_trans h1 (lb y hy))
        rw [hm0, lk_hit hk, pk, lk_hit hk]
      · rw [lk_no hk, i1, show lk ((ka, xa) :: a) key = lk a key from lk_no hk]
    · by_cases h2 : ltB kb ka = true
      · have ho2 : kb.toList = key.toList → lk ((ka, xa) :: a) key = none := fun hk => lk_lt (fun y hy => by
          rw [← lt_same hk]
          rcases List.mem_cons.1 hy with rfl | hy
          · exact h2
          · exact ltB_trans h2 (la y hy))
        by_cases hk : kb.toList = key.toList
        · have hb0 : lk b key = none := lk_far fun y hy e => lt_ne (lb y hy) (hk.trans e.symm)
          rw [show lk ((kb, xb) :: b) key = some xb from lk_hit hk, ho2 hk]
          by_cases hx : kindOf xb = 0
          · rw [show mrgM f ((ka, xa) :: a) ((kb, xb) :: b) = mrgM f ((ka, xa) :: a) b from by rw [mrgM, if_neg h1, if_pos h2, if_pos hx], i2, hb0, ho2 hk]
            simp [pk, hx]
          · rw [show mrgM f ((ka, xa) :: a) ((kb, xb) :: b) = (kb, f nullV xb) :: mrgM f ((ka, xa) :: a) b from by rw [mrgM, if_neg h1, if_pos h2, if_neg hx], lk_hit hk]
            simp [pk, hx]
        · rw [show lk ((kb, xb) :: b) key = lk b key from lk_no hk]
          by_cases hx : kindOf xb = 0
          · rw [show mrgM f ((ka, xa) :: a) ((kb, xb) :: b) = mrgM f ((ka, xa) :: a) b from by rw [mrgM, if_neg h1, if_pos h2, if_pos hx], i2]
          · rw [show mrgM f ((ka, xa) :: a) ((kb, xb) :: b) = (kb, f nullV xb) :: mrgM f ((ka, xa) :: a) b from by rw [mrgM, if_neg h1, if_pos h2, if_neg hx], lk_no hk, i2]
      · have he : ka.toList = kb.toList := by
          by_cases h : ka.toList = kb.toList
          · exact h
          · exact absurd (ltB_tri _ _ (by simpa using h1) h) h2
        by_cases hk : kb.toList = key.toList
        · have hb0 : lk b key = none := lk_far fun y hy e => lt_ne (lb y hy) (hk.trans e.symm)
          have ha0 : lk a key = none := lk_far fun y hy e => lt_ne (la y hy) ((he.trans hk).trans e.symm)
          rw [show lk ((kb, xb) :: b) key = some xb from lk_hit hk, show lk ((ka, xa) :: a) key = some xa from lk_hit (he.trans hk)]
          by_cases hx : kindOf xb = 0
          · rw [show mrgM f ((ka, xa) :: a) ((kb, xb) :: b) = mrgM f a b from by rw [mrgM, if_neg h1, if_neg h2, if_pos hx], i3, hb0, ha0]
            simp [pk, hx]
          · rw [show mrgM f ((ka, xa) :: a) ((kb, xb) :: b) = (kb, f xa xb) :: mrgM f a b from by rw [mrgM, if_neg h1, if_neg h2, if_neg hx], lk_hit hk]
            simp [pk, hx]
        · have hka : ¬ ka.toList = key.toList := fun e => hk (he.symm.trans e)
          rw [show lk ((kb, xb) :: b) key = lk b key from lk_no hk, show lk ((ka, xa) :: a) key = lk a key from lk_no hka]
          by_cases hx : kindOf xb = 0
          · rw [show mrgM f ((ka, xa) :: a) ((kb, xb) :: b) = mrgM f a b from by rw [mrgM, if_neg h1, if_neg h2, if_pos hx], i3]
          · rw [show mrgM f ((ka, xa) :: a) ((kb, xb) :: b) = (kb, f xa xb) :: mrgM f a b from by rw [mrgM, if_neg h1, if_neg h2, if_neg hx], lk_no hk, i3]
termination_by o m => o.length + m.length
end Go.Proofs.YtjfldbmopjojdaaDoor
