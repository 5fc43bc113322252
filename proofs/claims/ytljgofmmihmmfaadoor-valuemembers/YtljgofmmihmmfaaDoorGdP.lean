import Derived.Test.YtljgofmmihmmfaaDoorJI
import Derived.Test.YtljgofmmihmmfaaDoorPutC
import Derived.Test.YtljgofmmihmmfaaDoorSizA
/- Good values of few levels: sorted members, and that they are taken. -/
set_option linter.unusedSimpArgs false
set_option linter.unusedVariables false
namespace Go.Proofs.YtljgofmmihmmfaaDoor
open Go.RowKit Go.Lib

theorem u8_tri (x y : UInt8) (h1 : ¬ x < y) (h2 : ¬ y < x) : x = y := by
  rcases Nat.lt_trichotomy x.toNat y.toNat with h | h | h
  · exact absurd h h1
  · exact UInt8.toNat_inj.1 h
  · exact absurd h h2
theorem cmp_anti : ∀ a b : List UInt8, compareBytes b a = - compareBytes a b
  | [], [] => by simp [compareBytes]
  | [], _ :: _ => by simp [compareBytes]
  | _ :: _, [] => by simp [compareBytes]
  | x :: t, y :: u => by
    have ih := cmp_anti t u
    rw [compareBytes, compareBytes]
    by_cases h1 : x < y
    · have h2 : ¬ y < x := fun h => Nat.lt_asymm h1 h
      rw [if_neg h2, if_pos h1, if_pos h1]; rfl
    · by_cases h2 : y < x
      · rw [if_pos h2, if_neg h1, if_pos h2]
      · rw [if_neg h2, if_neg h1, if_neg h1, if_neg h2, ih]
theorem cmp_trans : ∀ a b c : List UInt8, compareBytes a b = -1 → compareBytes b c = -1 → compareBytes a c = -1
  | [], [], c, h, _ => by simp [compareBytes] at h
  | [], _ :: _, [], _, h => by simp [compareBytes] at h
  | [], _ :: _, _ :: _, _, _ => by simp [compareBytes]
  | _ :: _, [], c, h, _ => by simp [compareBytes] at h
  | _ :: _, _ :: _, [], _, h => by simp [compareBytes] at h
  | x :: t, y :: u, z :: v, h, h' => by
    rw [compareBytes] at h h' ⊢
    by_cases h1 : x < y
    · by_cases h2 : y < z
      · rw [if_pos (show x < z from Nat.lt_trans h1 h2)]
      · rw [if_neg h2] at h'
        by_cases h3 : z < y
        · rw [if_pos h3] at h'; simp at h'
        · rw [← u8_tri y z h2 h3, if_pos h1]
    · rw [if_neg h1] at h
      by_cases h3 : y < x
      · rw [if_pos h3] at h; simp at h
      · rw [if_neg h3] at h
        have e := u8_tri x y h1 h3
        subst e
        by_cases h2 : x < z
        · rw [if_pos h2]
        · rw [if_neg h2] at h' ⊢
          by_cases h4 : z < x
          · rw [if_pos h4] at h'; simp at h'
          · rw [if_neg h4] at h' ⊢
            exact cmp_trans t u v h h'

theorem ltB_cmp (a b : ByteArray) : ltB a b = true ↔ cmpS a b = -1 := by
  rw [ltB, less_cmp, cmpS, toList_data, toList_data]; simp
theorem ltB_trans {a b c : ByteArray} (h : ltB a b = true) (h' : ltB b c = true) : ltB a c = true := by
  rw [ltB_cmp] at *; exact cmp_trans _ _ _ h h'
theorem ltB_tri {a b : ByteArray} (h : ltB a b = false) (hn : ¬ a.toList = b.toList) : ltB b a = true := by
  rw [ltB_cmp, cmpS]
  have h1 : ¬ cmpS a b = -1 := fun e => by rw [← ltB_cmp] at e; rw [e] at h; cases h
  have h2 : ¬ cmpS a b = 0 := fun e => hn ((cmpS_zero a b).1 e)
  rw [cmp_anti]
  have h3 := cmp_one a.data.toList b.data.toList
  unfold cmpS at h1 h2
  omega
theorem ltB_irr (a : ByteArray) : ltB a a = false := by
  cases h : ltB a a
  · rfl
  · rw [ltB_cmp] at h
    have := (cmpS_zero a a).2 rfl
    rw [this] at h; simp at h

def Srt (l : List Mem) : Prop := l.Pairwise (fun a b => ltB a.1 b.1 = true)

theorem srt_filter {key : ByteArray} : ∀ {l : List Mem}, Srt l → l.filter (lessKey key) = l.take (l.filter (lessKey key)).length ∧ ∀ y ∈ l.drop (l.filter (lessKey key)).length, lessKey key y = false
  | [], _ => by simp
  | x :: t, h => by
    have h0 : Srt t := (List.pairwise_cons.1 h).2
    have h1 := (List.pairwise_cons.1 h).1
    have ih := srt_filter (key := key) h0
    cases hx : lessKey key x
    · have hall : t.filter (lessKey key) = [] := by
        rw [List.filter_eq_nil_iff]
        intro y hy hl
        have : lessKey key x = true := ltB_trans (h1 y hy) hl
        rw [this] at hx; cases hx
      rw [List.filter_cons_of_neg (by simp [hx]), hall]
      refine ⟨by simp, fun y hy => ?_⟩
      rw [List.length_nil, List.drop_zero] at hy
      rcases List.mem_cons.1 hy with rfl | hy
      · exact hx
      · have := List.filter_eq_nil_iff.1 hall y hy
        simpa using this
    · rw [List.filter_cons_of_pos hx, List.length_cons, List.take_succ_cons, List.drop_succ_cons]
      exact ⟨by rw [← ih.1], ih.2⟩

theorem putF_mem {old : List Mem} {x : Mem} : ∀ y ∈ putF old x, y ∈ old ∨ y = x := by
  intro y hy
  rw [putF] at hy
  split at hy
  · exact .inl hy
  · rcases List.mem_append.1 hy with hy | hy
    · rcases List.mem_append.1 hy with hy | hy
      · exact .inl (List.mem_filter.1 hy).1
      · exact .inr (List.mem_singleton.1 hy)
    · exact .inl (List.mem_of_mem_drop hy)
theorem putF_srt {old : List Mem} {x : Mem} (h : Srt old) : Srt (putF old x) ∧ (putF old x).length ≤ old.length + 1 := by
  have hf := srt_filter (key := x.1) h
  rw [putF]
  by_cases hk : keyIs x.1 old[(old.filter (lessKey x.1)).length]? = true
  · rw [if_pos hk]; exact ⟨h, by omega⟩
  · rw [if_neg hk]
    generalize hn : (old.filter (lessKey x.1)).length = n at *
    have hle : n ≤ old.length := by rw [← hn]; exact List.length_filter_le _ _
    refine ⟨?_, ?_⟩
    · have hd : ∀ y ∈ old.drop n, ltB x.1 y.1 = true := by
        intro y hy
        have h0 : n < old.length := by
          rcases Nat.lt_or_ge n old.length with h0 | h0
          · exact h0
          · rw [List.drop_eq_nil_of_le h0] at hy; cases hy
        have hcons := List.drop_eq_getElem_cons h0
        have hfst : ltB x.1 (old[n]).1 = true := by
          refine ltB_tri (hf.2 old[n] (by rw [hcons]; exact List.mem_cons_self ..)) ?_
          rw [List.getElem?_eq_getElem h0, keyIs] at hk
          simpa using hk
        have hp : Srt (old.drop n) := List.Pairwise.drop h
        rw [hcons] at hy hp
        rcases List.mem_cons.1 hy with rfl | hy
        · exact hfst
        · exact ltB_trans hfst ((List.pairwise_cons.1 hp).1 y hy)
      refine List.pairwise_append.2 ⟨List.pairwise_append.2 ⟨List.Pairwise.filter _ h, List.pairwise_singleton _ _, ?_⟩, List.Pairwise.drop h, ?_⟩
      · intro a ha b hb
        rw [List.mem_singleton.1 hb]
        exact (List.mem_filter.1 ha).2
      · intro a ha b hb
        rcases List.mem_append.1 ha with ha | ha
        · exact ltB_trans (List.mem_filter.1 ha).2 (hd b hb)
        · rw [List.mem_singleton.1 ha]; exact hd b hb
    · simp [hn]; omega

def Pl20 (t : ByteArray) : Prop := t.size ≤ 20 ∧ ∀ c ∈ t.data.toList, c.toNat < 128
theorem validD_asc : ∀ l : List UInt8, (∀ c ∈ l, c.toNat < 128) → validD l = true
  | [], _ => validD_nil
  | c :: t, h => by
    rw [validD_cons c t (h c (List.mem_cons_self ..))]
    exact validD_asc t (fun x hx => h x (List.mem_cons_of_mem _ hx))

/-- a good value of at most n levels below, with few members -/
def Gd : Nat → V → Prop
  | 0, .mk k b i s l m => goodB k b i s l.length m = true ∧ s.size ≤ 20 ∧ l = [] ∧ m = []
  | n + 1, .mk k b i s l m => goodB k b i s l.length m = true ∧ s.size ≤ 20 ∧ l.length ≤ 4 ∧ m.length ≤ 4 ∧ (∀ x ∈ l, Gd n x) ∧ (∀ y ∈ m, y.1.size ≤ 20 ∧ Gd n y.2)
theorem rise_srt {l : List Mem} (h : Srt l) (hk : ∀ y ∈ l, Pl20 y.1) : riseB l = true := by
  refine riseB_true fun j hj => ?_
  have e1 : keyAt l j = (l[j]).1 := keyAt_eq hj
  rw [okAt, e1, utfB, validD_asc _ (hk l[j] (List.getElem_mem hj)).2]
  by_cases h0 : j = 0
  · simp [h0]
  · have e2 : keyAt l (j - 1) = (l[j - 1]'(by omega)).1 := keyAt_eq (by omega)
    rw [e2]
    have := List.pairwise_iff_getElem.1 h (j - 1) j (by omega) hj (by omega)
    simp [h0, this]

def Gw : Nat → Nat
  | 0 => 21
  | n + 1 => 21 + 4 * Gw n + 4 * (20 + Gw n)
theorem wtL_4 {N : Nat} : ∀ {l : List V}, (∀ x ∈ l, x.wt ≤ N) → wtL l ≤ l.length * N
  | [], _ => by simp [wtL]
  | x :: t, h => by
    have h1 := h x (List.mem_cons_self ..)
    have h2 := wtL_4 (l := t) (fun u hu => h u (List.mem_cons_of_mem _ hu))
    simp only [wtL, List.length_cons, Nat.succ_mul]; omega
theorem wtM_4 {N : Nat} : ∀ {l : List Mem}, (∀ y ∈ l, y.1.size + y.2.wt ≤ N) → wtM l ≤ l.length * N
  | [], _ => by simp [wtM]
  | (k, x) :: t, h => by
    have h1 := h (k, x) (List.mem_cons_self ..)
    have h2 := wtM_4 (l := t) (fun u hu => h u (List.mem_cons_of_mem _ hu))
    simp only [wtM, List.length_cons, Nat.succ_mul]; simp only at h1; omega
theorem gd_wt : ∀ (n : Nat) (v : V), Gd n v → v.wt ≤ Gw n
  | 0, .mk k b i s l m, h => by
    rw [Gd] at h
    obtain ⟨hg, hs, rfl, rfl⟩ := h
    simp only [V.wt, wtL, wtM, Gw]; omega
  | n + 1, .mk k b i s l m, h => by
    rw [Gd] at h
    obtain ⟨hg, hs, hl, hm, hL, hM⟩ := h
    have h1 := wtL_4 (N := Gw n) (fun x hx => gd_wt n x (hL x hx))
    have h2 := wtM_4 (l := m) (N := 20 + Gw n) (fun y hy => by have := gd_wt n y.2 (hM y hy).2; have := (hM y hy).1; omega)
    have c1 : l.length * Gw n ≤ 4 * Gw n := Nat.mul_le_mul_right _ hl
    have c2 : m.length * (20 + Gw n) ≤ 4 * (20 + Gw n) := Nat.mul_le_mul_right _ hm
    simp only [V.wt, Gw]; omega
theorem Gw4 : Gw 4 ≤ 1000000 := by simp [Gw]
end Go.Proofs.YtljgofmmihmmfaaDoor
