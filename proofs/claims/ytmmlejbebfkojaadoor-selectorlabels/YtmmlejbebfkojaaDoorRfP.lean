import Derived.Test.YtmmlejbebfkojaaDoorG12
/- The document's way to ask for UTF-8 is the library's. -/
set_option linter.unusedSimpArgs false
set_option linter.unusedVariables false
namespace Go.Proofs.YtmmlejbebfkojaaDoor
open Go.RowKit Go.Lib
def wellC (c : Nat) (two three four : Bool) (b1 : Nat) : Nat :=
  if c < 128 then 1 else if 194 ≤ c ∧ c ≤ 223 ∧ two = true then 2 else if c = 224 ∧ three = true ∧ 160 ≤ b1 then 3 else if c = 237 ∧ three = true ∧ b1 ≤ 159 then 3
  else if 225 ≤ c ∧ c ≤ 239 ∧ c ≠ 237 ∧ three = true then 3 else if c = 240 ∧ four = true ∧ 144 ≤ b1 then 4 else if c = 244 ∧ four = true ∧ b1 ≤ 143 then 4 else if 241 ≤ c ∧ c ≤ 243 ∧ four = true then 4 else 0
def moreL (l : List UInt8) (j : Nat) : Bool := match l[j]? with | some c => decide (128 ≤ c.toNat ∧ c.toNat ≤ 191) | none => false
def tail1 (lo hi : Nat) : List UInt8 → Bool
  | c :: _ => decide (lo ≤ c.toNat ∧ c.toNat ≤ hi)
  | _ => false
def tail2 (lo hi : Nat) : List UInt8 → Bool
  | c :: t => decide (lo ≤ c.toNat ∧ c.toNat ≤ hi) && tail1 128 191 t
  | _ => false
def tail3 (lo hi : Nat) : List UInt8 → Bool
  | c :: t => decide (lo ≤ c.toNat ∧ c.toNat ≤ hi) && tail2 128 191 t
  | _ => false
theorem nxtGo_end (n lo hi : Nat) (t : List UInt8) : Q.nxtGo n n lo hi t = (n, true) := by cases t <;> simp [Q.nxtGo]
theorem go1 (n lo hi : Nat) (t : List UInt8) : (if (Q.nxtGo (n + 1) n lo hi t).2 then (Q.nxtGo (n + 1) n lo hi t).1 else 0) = if tail1 lo hi t then n + 1 else 0 := by
  cases t with
  | nil =>
    have e : Q.nxtGo (n + 1) n lo hi [] = (n, false) := by rw [Q.nxtGo, if_neg (by omega)]
    rw [e]; rfl
  | cons c t =>
    have e : Q.nxtGo (n + 1) n lo hi (c :: t) = if c.toNat < lo ∨ hi < c.toNat then (n, false) else Q.nxtGo (n + 1) (n + 1) 128 191 t := by rw [Q.nxtGo, if_neg (by omega)]
    rw [e, tail1]
    clear e
    by_cases h : c.toNat < lo ∨ hi < c.toNat
    · rw [if_pos h]; simp; omega
    · rw [if_neg h, nxtGo_end]; simp; omega
theorem go2 (n lo hi : Nat) (t : List UInt8) : (if (Q.nxtGo (n + 2) n lo hi t).2 then (Q.nxtGo (n + 2) n lo hi t).1 else 0) = if tail2 lo hi t then n + 2 else 0 := by
  cases t with
  | nil =>
    have e : Q.nxtGo (n + 2) n lo hi [] = (n, false) := by rw [Q.nxtGo, if_neg (by omega)]
    rw [e]; rfl
  | cons c t =>
    have e : Q.nxtGo (n + 2) n lo hi (c :: t) = if c.toNat < lo ∨ hi < c.toNat then (n, false) else Q.nxtGo (n + 2) (n + 1) 128 191 t := by rw [Q.nxtGo, if_neg (by omega)]
    rw [e, tail2]
    clear e
    by_cases h : c.toNat < lo ∨ hi < c.toNat
    · rw [if_pos h]; simp; omega
    · rw [if_neg h]
      have e := go1 (n + 1) 128 191 t
      rw [show n + 1 + 1 = n + 2 by omega] at e
      rw [e]
      have hd : decide (lo ≤ c.toNat ∧ c.toNat ≤ hi) = true := by simp; omega
      rw [hd, Bool.true_and]
theorem go3 (n lo hi : Nat) (t : List UInt8) : (if (Q.nxtGo (n + 3) n lo hi t).2 then (Q.nxtGo (n + 3) n lo hi t).1 else 0) = if tail3 lo hi t then n + 3 else 0 := by
  cases t with
  | nil =>
    have e : Q.nxtGo (n + 3) n lo hi [] = (n, false) := by rw [Q.nxtGo, if_neg (by omega)]
    rw [e]; rfl
  | cons c t =>
    have e : Q.nxtGo (n + 3) n lo hi (c :: t) = if c.toNat < lo ∨ hi < c.toNat then (n, false) else Q.nxtGo (n + 3) (n + 1) 128 191 t := by rw [Q.nxtGo, if_neg (by omega)]
    rw [e, tail3]
    clear e
    by_cases h : c.toNat < lo ∨ hi < c.toNat
    · rw [if_pos h]; simp; omega
    · rw [if_neg h]
      have e := go2 (n + 1) 128 191 t
      rw [show n + 1 + 2 = n + 3 by omega] at e
      rw [e]
      have hd : decide (lo ≤ c.toNat ∧ c.toNat ≤ hi) = true := by simp; omega
      rw [hd, Bool.true_and]
theorem moreL_nil (j : Nat) : moreL [] j = false := by simp [moreL]
theorem moreL_zero (c : UInt8) (t : List UInt8) : moreL (c :: t) 0 = decide (128 ≤ c.toNat ∧ c.toNat ≤ 191) := by simp [moreL]
theorem moreL_succ (c : UInt8) (t : List UInt8) (j : Nat) : moreL (c :: t) (j + 1) = moreL t j := by simp [moreL]
theorem tail1_eq (t : List UInt8) (lo hi : Nat) (h1 : 128 ≤ lo) (h2 : hi ≤ 191) : tail1 lo hi t = (moreL t 0 && decide (lo ≤ (t.getD 0 0).toNat ∧ (t.getD 0 0).toNat ≤ hi)) := by
  cases t with
  | nil => simp [tail1, moreL_nil]
  | cons c t =>
    rw [tail1, moreL_zero, List.getD_cons_zero]
    rw [Bool.eq_iff_iff]; simp; omega
theorem tail2_eq (t : List UInt8) (lo hi : Nat) (h1 : 128 ≤ lo) (h2 : hi ≤ 191) : tail2 lo hi t = (moreL t 0 && moreL t 1 && decide (lo ≤ (t.getD 0 0).toNat ∧ (t.getD 0 0).toNat ≤ hi)) := by
  cases t with
  | nil => simp [tail2, moreL_nil]
  | cons c t =>
    rw [tail2, moreL_zero, moreL_succ, List.getD_cons_zero, tail1_eq t 128 191 (by omega) (by omega)]
    cases t with
    | nil => simp [moreL_nil]
    | cons d t =>
      rw [moreL_zero, List.getD_cons_zero]
      rw [Bool.eq_iff_iff]; simp; omega
theorem tail3_eq (t : List UInt8) (lo hi : Nat) (h1 : 128 ≤ lo) (h2 : hi ≤ 191) : tail3 lo hi t = (moreL t 0 && moreL t 1 && moreL t 2 && decide (lo ≤ (t.getD 0 0).toNat ∧ (t.getD 0 0).toNat ≤ hi)) := by
  cases t with
  | nil => simp [tail3, moreL_nil]
  | cons c t =>
    rw [tail3, moreL_zero, moreL_succ, moreL_succ, List.getD_cons_zero, tail2_eq t 128 191 (by omega) (by omega)]
    cases t with
    | nil => simp [moreL_nil]
    | cons d t =>
      rw [moreL_zero, List.getD_cons_zero]
      generalize moreL (d :: t) 1 = X
      rw [Bool.eq_iff_iff]; simp
      constructor
      · rintro ⟨h1, ⟨h2, h3⟩, h4⟩; exact ⟨⟨⟨by omega, h2⟩, h3⟩, h1⟩
      · rintro ⟨⟨⟨h1, h2⟩, h3⟩, h4⟩; exact ⟨h4, ⟨h2, h3⟩, h2⟩
theorem moreL_bd {t : List UInt8} (h : moreL t 0 = true) : 128 ≤ (t.getD 0 0).toNat ∧ (t.getD 0 0).toNat ≤ 191 := by
  cases t with
  | nil => simp [moreL_nil] at h
  | cons c t => rw [moreL_zero] at h; simpa using h
set_option maxHeartbeats 4000000 in
theorem well_nxt (b : UInt8) (t : List UInt8) : wellC b.toNat (moreL t 0) (moreL t 0 && moreL t 1) (moreL t 0 && moreL t 1 && moreL t 2) (t.getD 0 0).toNat = if (Q.nxt (b :: t)).2 then (Q.nxt (b :: t)).1 else 0 := by
  rw [Q.nxt_cons]
  have hbd := @moreL_bd t
  have g1 := fun lo hi => go1 1 lo hi t
  have g2 := fun lo hi => go2 1 lo hi t
  have g3 := fun lo hi => go3 1 lo hi t
  have e1 := tail1_eq t
  have e2 := tail2_eq t
  have e3 := tail3_eq t
  simp only [Nat.reduceAdd] at g1 g2 g3
  generalize b.toNat = c at *
  generalize (t.getD 0 0).toNat = d at *
  generalize moreL t 0 = T2 at *
  generalize moreL t 1 = T3 at *
  generalize moreL t 2 = T4 at *
  by_cases k1 : c < 128
  · have hb : Q.bnd c = (1, 0, 0) := by unfold Q.bnd; rw [if_pos k1]
    rw [hb]; simp only [nxtGo_end]; simp [wellC, k1]
  by_cases k2 : 194 ≤ c ∧ c < 224
  · have hb : Q.bnd c = (2, 128, 191) := by unfold Q.bnd; rw [if_neg k1, if_pos k2]
    have hw : wellC c T2 (T2 && T3) (T2 && T3 && T4) d = if T2 = true then 2 else 0 := by
      unfold wellC
      rw [if_neg k1]
      cases T2
      · repeat (rw [if_neg (by simp)])
        all_goals rfl
      · rw [if_pos (by simp; omega)]; rfl
    rw [hb, hw]; simp only [g1, e1 128 191 (by omega) (by omega), show ¬ (2 : Nat) = 0 by omega, if_false]
    cases T2
    · rfl
    · have := hbd rfl; simp; omega
  by_cases k3 : c = 224
  · have hb : Q.bnd c = (3, 160, 191) := by unfold Q.bnd; rw [if_neg k1, if_neg k2, if_pos k3]
    rw [hb]; simp only [g2, e2 160 191 (by omega) (by omega), show ¬ (3 : Nat) = 0 by omega, if_false]
    unfold wellC
    cases T2 <;> cases T3 <;> cases T4 <;> simp <;> (try have := hbd rfl) <;> (repeat' split) <;> first | rfl | omega
  by_cases k4 : c = 237
  · have hb : Q.bnd c = (3, 128, 159) := by unfold Q.bnd; rw [if_neg k1, if_neg k2, if_neg k3, if_pos k4]
    rw [hb]; simp only [g2, e2 128 159 (by omega) (by omega), show ¬ (3 : Nat) = 0 by omega, if_false]
    unfold wellC
    cases T2 <;> cases T3 <;> cases T4 <;> simp <;> (try have := hbd rfl) <;> (repeat' split) <;> first | rfl | omega
  by_cases k5 : 224 < c ∧ c < 240
  · have hb : Q.bnd c = (3, 128, 191) := by unfold Q.bnd; rw [if_neg k1, if_neg k2, if_neg k3, if_neg k4, if_pos k5]
    rw [hb]; simp only [g2, e2 128 191 (by omega) (by omega), show ¬ (3 : Nat) = 0 by omega, if_false]
    unfold wellC
    cases T2 <;> cases T3 <;> cases T4 <;> simp <;> (try have := hbd rfl) <;> (repeat' split) <;> first | rfl | omega
  by_cases k6 : c = 240
  · have hb : Q.bnd c = (4, 144, 191) := by unfold Q.bnd; rw [if_neg k1, if_neg k2, if_neg k3, if_neg k4, if_neg k5, if_pos k6]
    rw [hb]; simp only [g3, e3 144 191 (by omega) (by omega), show ¬ (4 : Nat) = 0 by omega, if_false]
    unfold wellC
    cases T2 <;> cases T3 <;> cases T4 <;> simp <;> (try have := hbd rfl) <;> (repeat' split) <;> first | rfl | omega
  by_cases k7 : c = 244
  · have hb : Q.bnd c = (4, 128, 143) := by unfold Q.bnd; rw [if_neg k1, if_neg k2, if_neg k3, if_neg k4, if_neg k5, if_neg k6, if_pos k7]
    rw [hb]; simp only [g3, e3 128 143 (by omega) (by omega), show ¬ (4 : Nat) = 0 by omega, if_false]
    unfold wellC
    cases T2 <;> cases T3 <;> cases T4 <;> simp <;> (try have := hbd rfl) <;> (repeat' split) <;> first | rfl | omega
  by_cases k8 : 240 < c ∧ c < 244
  · have hb : Q.bnd c = (4, 128, 191) := by unfold Q.bnd; rw [if_neg k1, if_neg k2, if_neg k3, if_neg k4, if_neg k5, if_neg k6, if_neg k7, if_pos k8]
    rw [hb]; simp only [g3, e3 128 191 (by omega) (by omega), show ¬ (4 : Nat) = 0 by omega, if_false]
    unfold wellC
    cases T2 <;> cases T3 <;> cases T4 <;> simp <;> (try have := hbd rfl) <;> (repeat' split) <;> first | rfl | omega
  have hb : Q.bnd c = (0, 0, 0) := by unfold Q.bnd; rw [if_neg k1, if_neg k2, if_neg k3, if_neg k4, if_neg k5, if_neg k6, if_neg k7, if_neg k8]
  rw [hb]
  unfold wellC
  simp
  (repeat' split) <;> first | rfl | omega
end Go.Proofs.YtmmlejbebfkojaaDoor
