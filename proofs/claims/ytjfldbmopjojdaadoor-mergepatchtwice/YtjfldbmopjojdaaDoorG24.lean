/- joined: TwcP MrgS -/
import Derived.Test.YtjfldbmopjojdaaDoorG23
/- a merge patch carried out twice: the plain side. -/
set_option linter.unusedSimpArgs false
set_option linter.unusedVariables false
namespace Go.Proofs.YtjfldbmopjojdaaDoor
open Go.RowKit Go.Lib
theorem lt_irr (k : ByteArray) : ltB k k = false := by
  cases h : ltB k k
  · rfl
  · exact absurd rfl (lt_ne h)
/-- the keys of what is merged -/
theorem mrg_keys {f : V → V → V} {P : ByteArray → Prop} : ∀ (o m : List Mem), (∀ y ∈ o, P y.1) → (∀ y ∈ m, P y.1) → ∀ y ∈ mrgM f o m, P y.1
  | a, [], h1, h2 => by rw [mrgM]; exact h1
  | [], (k, x) :: b, h1, h2 => by
    have ih := mrg_keys (f := f) [] b h1 (fun y hy => h2 y (List.mem_cons_of_mem _ hy))
    rw [mrgM]
    split
    · exact ih
    · intro y hy
      rcases List.mem_cons.1 hy with rfl | hy
      · exact h2 (k, x) List.mem_cons_self
      · exact ih y hy
  | (ka, xa) :: a, (kb, xb) :: b, h1, h2 => by
    have h1' : ∀ y ∈ a, P y.1 := fun y hy => h1 y (List.mem_cons_of_mem _ hy)
    have h2' : ∀ y ∈ b, P y.1 := fun y hy => h2 y (List.mem_cons_of_mem _ hy)
    have i1 := mrg_keys (f := f) a ((kb, xb) :: b) h1' h2
    have i2 := mrg_keys (f := f) ((ka, xa) :: a) b h1 h2'
    have i3 := mrg_keys (f := f) a b h1' h2'
    have ka' := h1 (ka, xa) List.mem_cons_self
    have kb' := h2 (kb, xb) List.mem_cons_self
    rw [mrgM]
    split
    · intro y hy
      rcases List.mem_cons.1 hy with rfl | hy
      · exact ka'
      · exact i1 y hy
    · split
      · split
        · exact i2
        · intro y hy
          rcases List.mem_cons.1 hy with rfl | hy
          · exact kb'
          · exact i2 y hy
      · split
        · exact i3
        · intro y hy
          rcases List.mem_cons.1 hy with rfl | hy
          · exact kb'
          · exact i3 y hy
termination_by o m => o.length + m.length
theorem srt_tail {k : ByteArray} {x : V} {l : List Mem} (h : Srt ((k, x) :: l)) : Srt l ∧ ∀ y ∈ l, ltB k y.1 = true := by
  have := List.pairwise_cons.1 h
  exact ⟨this.2, this.1⟩
theorem mrg_skip {f : V → V → V} {k : ByteArray} {x : V} {R b : List Mem} (hx : kindOf x = 0) (h : ∀ y ∈ R, ltB k y.1 = true) : mrgM f R ((k, x) :: b) = mrgM f R b := by
  cases R with
  | nil => rw [mrgM, if_pos hx]
  | cons y R =>
    obtain ⟨k1, x1⟩ := y
    have h1 := h (k1, x1) List.mem_cons_self
    rw [mrgM, if_neg (by rw [lt_asym h1]; simp), if_pos h1, if_pos hx]
theorem mrg_again {f : V → V → V} {P : V → Prop} : ∀ (o m : List Mem), Srt o → Srt m → P nullV → (∀ y ∈ o, P y.2) → (∀ y ∈ m, ∀ a, P a → f (f a y.2) y.2 = f a y.2) → mrgM f (mrgM f o m) m = mrgM f o m
  | a, [], _, _, _, _, _ => by rw [mrgM, mrgM]
  | [], (k, x) :: b, ho, hm, hn, hP, hf => by
    obtain ⟨sb, kb⟩ := srt_tail hm
    have ih := mrg_again (f := f) [] b ho sb hn hP (fun y hy => hf y (List.mem_cons_of_mem _ hy))
    have hR : ∀ y ∈ mrgM f [] b, ltB k y.1 = true := mrg_keys (P := fun q => ltB k q = true) [] b (fun y hy => by cases hy) kb
    by_cases hx : kindOf x = 0
    · rw [show mrgM f [] ((k, x) :: b) = mrgM f [] b from by rw [mrgM, if_pos hx], mrg_skip hx hR, ih]
    · rw [show mrgM f [] ((k, x) :: b) = (k, f nullV x) :: mrgM f [] b from by rw [mrgM, if_neg hx], mrgM, if_neg (by rw [lt_irr]; simp), if_neg (by rw [lt_irr]; simp), if_neg hx, ih, hf (k, x) List.mem_cons_self _ hn]
  | (ka, xa) :: a, (kb, xb) :: b, ho, hm, hn, hP, hf => by
    obtain ⟨sa, la⟩ := srt_tail ho
    obtain ⟨sb, lb⟩ := srt_tail hm
    have hP' : ∀ y ∈ a, P y.2 := fun y hy => hP y (List.mem_cons_of_mem _ hy)
    have hf' : ∀ y ∈ b, ∀ a, P a → f (f a y.2) y.2 = f a y.2 := fun y hy => hf y (List.mem_cons_of_mem _ hy)
    have i1 := mrg_again (f := f) a ((kb, xb) :: b) sa hm hn hP' hf
    have i2 := mrg_again (f := f) ((ka, xa) :: a) b ho sb hn hP hf'
    have i3 := mrg_again (f := f) a b sa sb hn hP' hf'
    by_cases h1 : ltB ka kb = true
    · rw [show mrgM f ((ka, xa) :: a) ((kb, xb) :: b) = (ka, xa) :: mrgM f a ((kb, xb) :: b) from by rw [mrgM, if_pos h1], mrgM, if_pos h1, i1]
    · by_cases h2 : ltB kb ka = true
      · have hR : ∀ y ∈ mrgM f ((ka, xa) :: a) b, ltB kb y.1 = true := mrg_keys (P := fun q => ltB kb q = true) _ b (fun y hy => by
          rcases List.mem_cons.1 hy with rfl | hy
          · exact h2
          · exact ltB_trans h2 (la y hy)) lb
        by_cases hx : kindOf xb = 0
        · rw [show mrgM f ((ka, xa) :: a) ((kb, xb) :: b) = mrgM f ((ka, xa) :: a) b from by rw [mrgM, if_neg h1, if_pos h2, if_pos hx], mrg_skip hx hR, i2]
        · rw [show mrgM f ((ka, xa) :: a) ((kb, xb) :: b) = (kb, f nullV xb) :: mrgM f ((ka, xa) :: a) b from by rw [mrgM, if_neg h1, if_pos h2, if_neg hx], mrgM, if_neg (by rw [lt_irr]; simp), if_neg (by rw [lt_irr]; simp), if_neg hx, i2, hf (kb, xb) List.mem_cons_self _ hn]
      · have he : ka.toList = kb.toList := by
          by_cases h : ka.toList = kb.toList
          · exact h
          · exact absurd (ltB_tri _ _ (by simpa using h1) h) h2
        have hR : ∀ y ∈ mrgM f a b, ltB kb y.1 = true := mrg_keys (P := fun q => ltB kb q = true) a b (fun y hy => (lt_same he.symm).trans (la y hy)) lb
        by_cases hx : kindOf xb = 0
        · rw [show mrgM f ((ka, xa) :: a) ((kb, xb) :: b) = mrgM f a b from by rw [mrgM, if_neg h1, if_neg h2, if_pos hx], mrg_skip hx hR, i3]
        · rw [show mrgM f ((ka, xa) :: a) ((kb, xb) :: b) = (kb, f xa xb) :: mrgM f a b from by rw [mrgM, if_neg h1, if_neg h2, if_neg hx], mrgM, if_neg (by rw [lt_irr]; simp), if_neg (by rw [lt_irr]; simp), if_neg hx, i3, hf (kb, xb) List.mem_cons_self _ (hP (ka, xa) List.mem_cons_self)]
termination_by o m => o.length + m.length
/-- a patch that was carried out and is carried out again changes nothing -/
theorem pch_twice (p : V) : ∀ t : V, allG t → allG p → pchV (pchV t p) p = pchV t p := by
  induction p using V.ind_v with
  | h k b i s l m ihl ihm =>
  intro t ht hp
  by_cases hk : k = 5
  · subst hk
    have h1 := pch_map ht hp
    have hg := pch_good t _ ht hp
    rw [pch_map hg hp, h1]
    congr 1
    have gm : GM m := gm_mems hp
    have go : GM (memsOf t) := gm_mems ht
    refine mrg_again (P := allG) _ _ go.s gm.s null_good (fun y hy => go.g y hy) (fun y hy a ha => ihm y hy a ha (gm.g y hy))
  · have e : ∀ x, pchV x (.mk k b i s l m) = .mk k b i s l m := fun x => by rw [pchV, if_neg hk]
    rw [e, e]
end Go.Proofs.YtjfldbmopjojdaaDoor
/- mergepatch: how many values, how many bytes, how deep what comes out is. -/
namespace Go.Proofs.YtjfldbmopjojdaaDoor
open Go.RowKit Go.Lib
theorem dpM_filt (p : Mem → Bool) : ∀ m : List Mem, dpM (m.filter p) ≤ dpM m
  | [] => by simp [dpM]
  | (k, x) :: t => by
    have h := dpM_filt p t
    cases hf : p (k, x) with
    | true => rw [List.filter_cons_of_pos (by rw [hf])]; simp only [dpM]; omega
    | false => rw [List.filter_cons_of_neg (by rw [hf]; simp)]; simp only [dpM]; omega
theorem dpM_app : ∀ a b : List Mem, dpM (a ++ b) = max (dpM a) (dpM b)
  | [], b => by simp [dpM]
  | (k, x) :: t, b => by
    have h := dpM_app t b
    rw [List.cons_append]; simp only [dpM]; omega
theorem dpM_mems (x : V) : dpM (memsOf x) ≤ dpV x := by
  obtain ⟨k, b, i, s, l, m⟩ := x
  rw [dpV]
  show dpM m ≤ _
  omega
theorem dp_get (k : ByteArray) : ∀ o : List Mem, dpM (memsOf (getR o k)) + 1 ≤ max (dpM o) 1
  | [] => by simp [getR, nullV, memsOf, dpM]
  | (ka, xa) :: t => by
    have ih := dp_get k t
    have h := dpM_mems xa
    rw [getR, dpM]
    split
    · simp only; omega
    · omega
mutual
theorem pch_dp : ∀ (t p : V), dpV (pchV t p) ≤ max (dpM (memsOf t)) (dpV p)
  | t, .mk k b i s l m => by
    rw [pchV]
    split
    · have h1 := pchM_dp (if kindOf t = 5 then memsOf t else []) m
      have h2 : dpM (if kindOf t = 5 then memsOf t else []) ≤ dpM (memsOf t) := by split <;> simp [dpM]
      rw [dpV, dpL, dpV]
      omega
    · omega
theorem pchM_dp : ∀ (o q : List Mem), dpM (pchM o q) ≤ max (dpM o) (dpM q)
  | o, [] => by rw [pchM]; omega
  | o, (k, x) :: q => by
    rw [pchM]
    have h0 := pchM_dp (if kindOf x = 0 then wotR o k else witR o k (pchV (getR o k) x)) q
    have h1 := pch_dp (getR o k) x
    have h2 : dpM (if kindOf x = 0 then wotR o k else witR o k (pchV (getR o k) x)) ≤ max (dpM o) (dpV x + 1) := by
      split
      · have := dpM_filt (fun y => !(y.1.toList == k.toList)) o
        rw [wotR]; omega
      · have h3 := dpM_filt (fun y : Mem => ltB y.1 k) o
        have h4 := dpM_filt (fun y : Mem => ltB k y.1) o
        have h5 := dp_get k o
        rw [witR, dpM_app, dpM]
        show max (dpM (o.filter (fun y : Mem => ltB y.1 k))) (max (dpV (pchV (getR o k) x) + 1) (dpM (o.filter (fun y : Mem => ltB k y.1)))) ≤ _
        omega
    rw [dpM]
    omega
end
end Go.Proofs.YtjfldbmopjojdaaDoor
