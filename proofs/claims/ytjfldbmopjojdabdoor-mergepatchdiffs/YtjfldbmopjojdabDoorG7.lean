/- joined: PutB Utf RfP -/
import Derived.Test.YtjfldbmopjojdabDoorG6
import Derived.Lib.ValidLaws
set_option linter.unusedSimpArgs false
set_option linter.unusedVariables false
namespace Go.Proofs.YtjfldbmopjojdabDoor
open Go.RowKit
theorem OwnM.out {w w0 : World} {S T : Nat → Prop} {g n cap : Nat} {l : List Mem} (h : OwnM false w 0 S (.slice (some ⟨g, 0, none⟩) n cap) (l.map some)) (hn : n = l.length) (hST : ∀ x, S x → T x) (hg : w0.heap.size ≤ g) : Headed (some ⟨g, 0, none⟩) l.length cap g 0 ∧ liesM false w (fun y => T y ∨ (w0.heap.size ≤ y ∧ y < w.heap.size)) l g 0 := by
 have h1 := h.le
 have h2 := h.lt (g := g) rfl
 simp only [List.length_map] at h1
 refine ⟨⟨h1.1, h1.2, .inr rfl, fun h => by cases h⟩, liesM_mk fun j hj => ?_⟩
 obtain ⟨cs, r1, r2⟩ := h.at (by simp [hn]) j (by simpa using hj)
 rw [List.getElem_map] at r2
 obtain ⟨cs', rfl, hk, r3⟩ := r2
 exact ⟨.inr ⟨hg, h2.2⟩, hk, cs', r1, V.lies_keep (fun h => h) (fun _ _ => rfl) (fun b hb => .inl (hST b hb)) _ r3⟩
end Go.Proofs.YtjfldbmopjojdabDoor
namespace Go.Proofs.YtjfldbmopjojdabDoor.Q
def bnd (b : Nat) : Nat × Nat × Nat :=
 if b < 128 then (1, 0, 0) else if 194 ≤ b ∧ b < 224 then (2, 128, 191) else if b = 224 then (3, 160, 191) else if b = 237 then (3, 128, 159)
 else if 224 < b ∧ b < 240 then (3, 128, 191) else if b = 240 then (4, 144, 191) else if b = 244 then (4, 128, 143) else if 240 < b ∧ b < 244 then (4, 128, 191) else (0, 0, 0)
def nxtGo (n : Nat) : Nat → Nat → Nat → List UInt8 → Nat × Bool
 | k, lo, hi, [] => if n ≤ k then (n, true) else (k, false)
 | k, lo, hi, c :: t => if n ≤ k then (n, true) else if c.toNat < lo ∨ hi < c.toNat then (k, false) else nxtGo n (k + 1) 128 191 t
def nxt : List UInt8 → Nat × Bool
 | [] => (0, false)
 | b :: t => if (bnd b.toNat).1 = 0 then (0, false) else nxtGo (bnd b.toNat).1 1 (bnd b.toNat).2.1 (bnd b.toNat).2.2 t
theorem nxt_cons (b : UInt8) (t : List UInt8) : nxt (b :: t) = if (bnd b.toNat).1 = 0 then (0, false) else nxtGo (bnd b.toNat).1 1 (bnd b.toNat).2.1 (bnd b.toNat).2.2 t := rfl
theorem nxtGo_le (n : Nat) : ∀ (t : List UInt8) (k lo hi : Nat), 1 ≤ k → k ≤ n → k ≤ (nxtGo n k lo hi t).1 ∧ (nxtGo n k lo hi t).1 ≤ k + t.length ∧ (nxtGo n k lo hi t).1 ≤ n ∧ ((nxtGo n k lo hi t).2 = true → (nxtGo n k lo hi t).1 = n)
 | [], k, lo, hi, h, hn => by
  unfold nxtGo
  split <;> simp <;> omega
 | c :: t, k, lo, hi, h, hn => by
  unfold nxtGo
  split
  ·simp; omega
  ·split
   ·simp; omega
   ·have := nxtGo_le n t (k + 1) 128 191 (by omega) (by omega)
    simp only [List.length_cons]
    refine ⟨by omega, by omega, this.2.2⟩
theorem bnd_le (b : Nat) : (bnd b).1 ≤ 4 := by
 unfold bnd
 repeat' split
 all_goals simp
theorem nxt_le (l : List UInt8) : (nxt l).1 ≤ l.length ∧ (nxt l).1 ≤ 4 ∧ ((nxt l).2 = true → 1 ≤ (nxt l).1) := by
 cases l with
 | nil => simp [nxt]
 | cons b t =>
  rw [nxt_cons]
  split
  ·simp
  ·have := nxtGo_le (bnd b.toNat).1 t 1 (bnd b.toNat).2.1 (bnd b.toNat).2.2 (by omega) (by omega)
   have hb := bnd_le b.toNat
   simp only [List.length_cons]
   refine ⟨by omega, by omega, fun _ => by omega⟩
theorem bnd_tab : ∀ b : Fin 256, 128 ≤ b.val → (bnd b.val).1 = (if Lib.firstT b.val % 8 = 1 then 0 else Lib.firstT b.val % 8) ∧ ((bnd b.val).1 = 0 ∨ (bnd b.val).1 = 2 ∨ (bnd b.val).1 = 3 ∨ (bnd b.val).1 = 4) ∧ ((bnd b.val).1 ≠ 0 → (bnd b.val).2.1 = Lib.accLo (Lib.firstT b.val / 16) ∧ (bnd b.val).2.2 = Lib.accHi (Lib.firstT b.val / 16)) := by decide +kernel
theorem nxt_check (b : UInt8) (t : List UInt8) (hb : 128 ≤ b.toNat) :
 Lib.checkN (t.length + 1) (t.getD 0 0).toNat (t.getD 1 0).toNat (t.getD 2 0).toNat (Lib.firstT b.toNat % 8) (Lib.accLo (Lib.firstT b.toNat / 16)) (Lib.accHi (Lib.firstT b.toNat / 16)) = (if (nxt (b :: t)).2 then some (nxt (b :: t)).1 else none) := by
 obtain ⟨h1, h2, h3⟩ := bnd_tab ⟨b.toNat, b.toNat_lt⟩ hb
 simp only at h1 h2 h3
 rw [nxt_cons]
 generalize bnd b.toNat = B at *
 obtain ⟨n, lo, hi⟩ := B
 simp only at h1 h2 h3 ⊢
 rcases h2 with rfl | rfl | rfl | rfl
 ·have e : Lib.firstT b.toNat % 8 = 1 ∨ Lib.firstT b.toNat % 8 = 0 := by split at h1 <;> omega
  rcases e with e | e <;> simp [Lib.checkN, e]
 ·have e : Lib.firstT b.toNat % 8 = 2 := by split at h1 <;> omega
  obtain ⟨rfl, rfl⟩ := h3 (by omega)
  rw [e]
  rcases t with _ | ⟨c1, t⟩
  ·simp [Lib.checkN, nxtGo]
  ·simp only [Lib.checkN, nxtGo, List.length_cons, List.getD_cons_zero]
   by_cases c : c1.toNat < Lib.accLo (Lib.firstT b.toNat / 16) ∨ Lib.accHi (Lib.firstT b.toNat / 16) < c1.toNat
   ·simp [c]
   ·cases t <;> simp [c, nxtGo]
 ·have e : Lib.firstT b.toNat % 8 = 3 := by split at h1 <;> omega
  obtain ⟨rfl, rfl⟩ := h3 (by omega)
  rw [e]
  generalize Lib.accLo (Lib.firstT b.toNat / 16) = lo
  generalize Lib.accHi (Lib.firstT b.toNat / 16) = hi
  rcases t with _ | ⟨c1, t⟩
  ·simp [Lib.checkN, nxtGo]
  ·by_cases c : c1.toNat < lo ∨ hi < c1.toNat
   ·simp only [Lib.checkN, nxtGo, List.length_cons, List.getD_cons_zero]
    rcases c with c | c <;> simp [c]
   ·have c' := not_or.1 c
    rcases t with _ | ⟨c2, t⟩
    ·simp [Lib.checkN, nxtGo, c]
    ·by_cases d : c2.toNat < 128 ∨ 191 < c2.toNat
     ·rcases d with d | d <;> simp [Lib.checkN, nxtGo, c, c'.1, c'.2, d]
     ·have d' := not_or.1 d
      cases t <;> simp [Lib.checkN, nxtGo, c, d, c'.1, c'.2, d'.1, d'.2]
 ·have e : Lib.firstT b.toNat % 8 = 4 := by split at h1 <;> omega
  obtain ⟨rfl, rfl⟩ := h3 (by omega)
  rw [e]
  generalize Lib.accLo (Lib.firstT b.toNat / 16) = lo
  generalize Lib.accHi (Lib.firstT b.toNat / 16) = hi
  rcases t with _ | ⟨c1, t⟩
  ·simp [Lib.checkN, nxtGo]
  ·by_cases c : c1.toNat < lo ∨ hi < c1.toNat
   ·simp only [Lib.checkN, nxtGo, List.length_cons, List.getD_cons_zero]
    rcases c with c | c <;> simp [c]
   ·have c' := not_or.1 c
    rcases t with _ | ⟨c2, t⟩
    ·simp [Lib.checkN, nxtGo, c]
    ·by_cases d : c2.toNat < 128 ∨ 191 < c2.toNat
     ·rcases d with d | d <;> simp [Lib.checkN, nxtGo, c, c'.1, c'.2, d]
     ·have d' := not_or.1 d
      rcases t with _ | ⟨c3, t⟩
      ·simp [Lib.checkN, nxtGo, c, d]
      ·by_cases f : c3.toNat < 128 ∨ 191 < c3.toNat
       ·rcases f with f | f <;> simp [Lib.checkN, nxtGo, c, d, c'.1, c'.2, d'.1, d'.2, f]
       ·have f' := not_or.1 f
        cases t <;> simp [Lib.checkN, nxtGo, c, d, f, c'.1, c'.2, d'.1, d'.2, f'.1, f'.2]
theorem valid_step (l : List UInt8) (hne : l ≠ []) : Lib.validD l = (if (nxt l).2 then Lib.validD (l.drop (nxt l).1) else false) := by
 cases l with
 | nil => exact absurd rfl hne
 | cons b t =>
  by_cases hb : b.toNat < 128
  ·rw [Lib.validD_cons b t hb]
   have e : nxt (b :: t) = (1, true) := by
    have : bnd b.toNat = (1, 0, 0) := by simp [bnd, hb]
    cases t <;> simp [nxt_cons, this, nxtGo]
   rw [e]
   rfl
  ·have h := Lib.validD_lead (b :: t) hne (by simpa using (by omega : 128 ≤ b.toNat))
   rw [h]
   have k := nxt_check b t (by omega)
   simp only [List.getD_cons_zero, List.getD_cons_succ, List.length_cons] at k ⊢
   rw [k]
   by_cases g : (nxt (b :: t)).2 = true
   ·simp [g]
   ·simp [g]
end Go.Proofs.YtjfldbmopjojdabDoor.Q
namespace Go.Proofs.YtjfldbmopjojdabDoor
open Go.RowKit Go.Lib
def wellC (c : Nat) (two three four : Bool) (b1 : Nat) : Nat :=
 if c < 128 then 1 else if 194 ≤ c ∧ c ≤ 223 ∧ two = true then 2 else if c = 224 ∧ three = true ∧ 160 ≤ b1 then 3 else if c = 237 ∧ three = true ∧ b1 ≤ 159 then 3
 else if 225 ≤ c ∧ c ≤ 239 ∧ c ≠ 237 ∧ three = true then 3 else if c = 240 ∧ four = true ∧ 144 ≤ b1 then 4 else if c = 244 ∧ four = true ∧ b1 ≤ 143 then 4 else if 241 ≤ c ∧ c ≤ 243 ∧ four = true then 4 else 0
def moreL (l : List UInt8) (j : Nat) : Bool := match l[j]? with | some c => decide (128 ≤ c.toNat ∧ c.toNat ≤ 191) | none => false
def tail1 (lo hi : Nat) : List UInt8 → Bool
 | c :: _ => decide (lo ≤ c.toNat ∧ c.toNat ≤ hi)
 | _ => false
def tail2 (lo hi : Nat) : List UInt8 → Bool
 | c :: t => decide (lo ≤ c.toNat ∧ c.toNat ≤ hi) && tail1 128 191 t
 | _ => false
def tail3 (lo hi : Nat) : List UInt8 → Bool
 | c :: t => decide (lo ≤ c.toNat ∧ c.toNat ≤ hi) && tail2 128 191 t
 | _ => false
theorem nxtGo_end (n lo hi : Nat) (t : List UInt8) : Q.nxtGo n n lo hi t = (n, true) := by cases t <;> simp [Q.nxtGo]
theorem go1 (n lo hi : Nat) (t : List UInt8) : (if (Q.nxtGo (n + 1) n lo hi t).2 then (Q.nxtGo (n + 1) n lo hi t).1 else 0) = if tail1 lo hi t then n + 1 else 0 := by
 cases t with
 | nil =>
  have e : Q.nxtGo (n + 1) n lo hi [] = (n, false) := by rw [Q.nxtGo, if_neg (by omega)]
  rw [e]; rfl
 | cons c t =>
  have e : Q.nxtGo (n + 1) n lo hi (c :: t) = if c.toNat < lo ∨ hi < c.toNat then (n, false) else Q.nxtGo (n + 1) (n + 1) 128 191 t := by rw [Q.nxtGo, if_neg (by omega)]
  rw [e, tail1]
  clear e
  by_cases h : c.toNat < lo ∨ hi < c.toNat
  ·rw [if_pos h]; simp; omega
  ·rw [if_neg h, nxtGo_end]; simp; omega
theorem go2 (n lo hi : Nat) (t : List UInt8) : (if (Q.nxtGo (n + 2) n lo hi t).2 then (Q.nxtGo (n + 2) n lo hi t).1 else 0) = if tail2 lo hi t then n + 2 else 0 := by
 cases t with
 | nil =>
  have e : Q.nxtGo (n + 2) n lo hi [] = (n, false) := by rw [Q.nxtGo, if_neg (by omega)]
  rw [e]; rfl
 | cons c t =>
  have e : Q.nxtGo (n + 2) n lo hi (c :: t) = if c.toNat < lo ∨ hi < c.toNat then (n, false) else Q.nxtGo (n + 2) (n + 1) 128 191 t := by rw [Q.nxtGo, if_neg (by omega)]
  rw [e, tail2]
  clear e
  by_cases h : c.toNat < lo ∨ hi < c.toNat
  ·rw [if_pos h]; simp; omega
  ·rw [if_neg h]
   have e := go1 (n + 1) 128 191 t
   rw [show n + 1 + 1 = n + 2 by omega] at e
   rw [e]
   have hd : decide (lo ≤ c.toNat ∧ c.toNat ≤ hi) = true := by simp; omega
   rw [hd, Bool.true_and]
theorem go3 (n lo hi : Nat) (t : List UInt8) : (if (Q.nxtGo (n + 3) n lo hi t).2 then (Q.nxtGo (n + 3) n lo hi t).1 else 0) = if tail3 lo hi t then n + 3 else 0 := by
 cases t with
 | nil =>
  have e : Q.nxtGo (n + 3) n lo hi [] = (n, false) := by rw [Q.nxtGo, if_neg (by omega)]
  rw [e]; rfl
 | cons c t =>
  have e : Q.nxtGo (n + 3) n lo hi (c :: t) = if c.toNat < lo ∨ hi < c.toNat then (n, false) else Q.nxtGo (n + 3) (n + 1) 128 191 t := by rw [Q.nxtGo, if_neg (by omega)]
  rw [e, tail3]
  clear e
  by_cases h : c.toNat < lo ∨ hi < c.toNat
  ·rw [if_pos h]; simp; omega
  ·rw [if_neg h]
   have e := go2 (n + 1) 128 191 t
   rw [show n + 1 + 2 = n + 3 by omega] at e
   rw [e]
   have hd : decide (lo ≤ c.toNat ∧ c.toNat ≤ hi) = true := by simp; omega
   rw [hd, Bool.true_and]
theorem moreL_nil (j : Nat) : moreL [] j = false := by simp [moreL]
theorem moreL_zero (c : UInt8) (t : List UInt8) : moreL (c :: t) 0 = decide (128 ≤ c.toNat ∧ c.toNat ≤ 191) := by simp [moreL]
theorem moreL_succ (c : UInt8) (t : List UInt8) (j : Nat) : moreL (c :: t) (j + 1) = moreL t j := by simp [moreL]
theorem tail1_eq (t : List UInt8) (lo hi : Nat) (h1 : 128 ≤ lo) (h2 : hi ≤ 191) : tail1 lo hi t = (moreL t 0 && decide (lo ≤ (t.getD 0 0).toNat ∧ (t.getD 0 0).toNat ≤ hi)) := by
 cases t with
 | nil => simp [tail1, moreL_nil]
 | cons c t =>
  rw [tail1, moreL_zero, List.getD_cons_zero]
  rw [Bool.eq_iff_iff]; simp; omega
theorem tail2_eq (t : List UInt8) (lo hi : Nat) (h1 : 128 ≤ lo) (h2 : hi ≤ 191) : tail2 lo hi t = (moreL t 0 && moreL t 1 && decide (lo ≤ (t.getD 0 0).toNat ∧ (t.getD 0 0).toNat ≤ hi)) := by
 cases t with
 | nil => simp [tail2, moreL_nil]
 | cons c t =>
  rw [tail2, moreL_zero, moreL_succ, List.getD_cons_zero, tail1_eq t 128 191 (by omega) (by omega)]
  cases t with
  | nil => simp [moreL_nil]
  | cons d t =>
   rw [moreL_zero, List.getD_cons_zero]
   rw [Bool.eq_iff_iff]; simp; omega
theorem tail3_eq (t : List UInt8) (lo hi : Nat) (h1 : 128 ≤ lo) (h2 : hi ≤ 191) : tail3 lo hi t = (moreL t 0 && moreL t 1 && moreL t 2 && decide (lo ≤ (t.getD 0 0).toNat ∧ (t.getD 0 0).toNat ≤ hi)) := by
 cases t with
 | nil => simp [tail3, moreL_nil]
 | cons c t =>
  rw [tail3, moreL_zero, moreL_succ, moreL_succ, List.getD_cons_zero, tail2_eq t 128 191 (by omega) (by omega)]
  cases t with
  | nil => simp [moreL_nil]
  | cons d t =>
   rw [moreL_zero, List.getD_cons_zero]
   generalize moreL (d :: t) 1 = X
   rw [Bool.eq_iff_iff]; simp
   constructor
   ·rintro ⟨h1, ⟨h2, h3⟩, h4⟩; exact ⟨⟨⟨by omega, h2⟩, h3⟩, h1⟩
   ·rintro ⟨⟨⟨h1, h2⟩, h3⟩, h4⟩; exact ⟨h4, ⟨h2, h3⟩, h2⟩
theorem moreL_bd {t : List UInt8} (h : moreL t 0 = true) : 128 ≤ (t.getD 0 0).toNat ∧ (t.getD 0 0).toNat ≤ 191 := by
 cases t with
 | nil => simp [moreL_nil] at h
 | cons c t => rw [moreL_zero] at h; simpa using h
set_option maxHeartbeats 8000000 in
theorem well_nxt (b : UInt8) (t : List UInt8) : wellC b.toNat (moreL t 0) (moreL t 0 && moreL t 1) (moreL t 0 && moreL t 1 && moreL t 2) (t.getD 0 0).toNat = if (Q.nxt (b :: t)).2 then (Q.nxt (b :: t)).1 else 0 := by
 rw [Q.nxt_cons]
 have hbd := @moreL_bd t
 have g1 := fun lo hi => go1 1 lo hi t
 have g2 := fun lo hi => go2 1 lo hi t
 have g3 := fun lo hi => go3 1 lo hi t
 have e1 := tail1_eq t
 have e2 := tail2_eq t
 have e3 := tail3_eq t
 simp only [Nat.reduceAdd] at g1 g2 g3
 generalize b.toNat = c at *
 generalize (t.getD 0 0).toNat = d at *
 generalize moreL t 0 = T2 at *
 generalize moreL t 1 = T3 at *
 generalize moreL t 2 = T4 at *
 by_cases k1 : c < 128
 ·have hb : Q.bnd c = (1, 0, 0) := by unfold Q.bnd; rw [if_pos k1]
  rw [hb]; simp only [nxtGo_end]; simp [wellC, k1]
 by_cases k2 : 194 ≤ c ∧ c < 224
 ·have hb : Q.bnd c = (2, 128, 191) := by unfold Q.bnd; rw [if_neg k1, if_pos k2]
  have hw : wellC c T2 (T2 && T3) (T2 && T3 && T4) d = if T2 = true then 2 else 0 := by
   unfold wellC
   rw [if_neg k1]
   cases T2
   ·repeat (rw [if_neg (by simp)])
    all_goals rfl
   ·rw [if_pos (by simp; omega)]; rfl
  rw [hb, hw]; simp only [g1, e1 128 191 (by omega) (by omega), show ¬ (2 : Nat) = 0 by omega, if_false]
  cases T2
  ·rfl
  ·have := hbd rfl; simp; omega
 by_cases k3 : c = 224
 ·have hb : Q.bnd c = (3, 160, 191) := by unfold Q.bnd; rw [if_neg k1, if_neg k2, if_pos k3]
  rw [hb]; simp only [g2, e2 160 191 (by omega) (by omega), show ¬ (3 : Nat) = 0 by omega, if_false]
  unfold wellC
  cases T2 <;> cases T3 <;> cases T4 <;> simp <;> (try have := hbd rfl) <;> (repeat' split) <;> first | rfl | omega
 by_cases k4 : c = 237
 ·have hb : Q.bnd c = (3, 128, 159) := by unfold Q.bnd; rw [if_neg k1, if_neg k2, if_neg k3, if_pos k4]
  rw [hb]; simp only [g2, e2 128 159 (by omega) (by omega), show ¬ (3 : Nat) = 0 by omega, if_false]
  unfold wellC
  cases T2 <;> cases T3 <;> cases T4 <;> simp <;> (try have := hbd rfl) <;> (repeat' split) <;> first | rfl | omega
 by_cases k5 : 224 < c ∧ c < 240
 ·have hb : Q.bnd c = (3, 128, 191) := by unfold Q.bnd; rw [if_neg k1, if_neg k2, if_neg k3, if_neg k4, if_pos k5]
  rw [hb]; simp only [g2, e2 128 191 (by omega) (by omega), show ¬ (3 : Nat) = 0 by omega, if_false]
  unfold wellC
  cases T2 <;> cases T3 <;> cases T4 <;> simp <;> (try have := hbd rfl) <;> (repeat' split) <;> first | rfl | omega
 by_cases k6 : c = 240
 ·have hb : Q.bnd c = (4, 144, 191) := by unfold Q.bnd; rw [if_neg k1, if_neg k2, if_neg k3, if_neg k4, if_neg k5, if_pos k6]
  rw [hb]; simp only [g3, e3 144 191 (by omega) (by omega), show ¬ (4 : Nat) = 0 by omega, if_false]
  unfold wellC
  cases T2 <;> cases T3 <;> cases T4 <;> simp <;> (try have := hbd rfl) <;> (repeat' split) <;> first | rfl | omega
 by_cases k7 : c = 244
 ·have hb : Q.bnd c = (4, 128, 143) := by unfold Q.bnd; rw [if_neg k1, if_neg k2, if_neg k3, if_neg k4, if_neg k5, if_neg k6, if_pos k7]
  rw [hb]; simp only [g3, e3 128 143 (by omega) (by omega), show ¬ (4 : Nat) = 0 by omega, if_false]
  unfold wellC
  cases T2 <;> cases T3 <;> cases T4 <;> simp <;> (try have := hbd rfl) <;> (repeat' split) <;> first | rfl | omega
 by_cases k8 : 240 < c ∧ c < 244
 ·have hb : Q.bnd c = (4, 128, 191) := by unfold Q.bnd; rw [if_neg k1, if_neg k2, if_neg k3, if_neg k4, if_neg k5, if_neg k6, if_neg k7, if_pos k8]
  rw [hb]; simp only [g3, e3 128 191 (by omega) (by omega), show ¬ (4 : Nat) = 0 by omega, if_false]
  unfold wellC
  cases T2 <;> cases T3 <;> cases T4 <;> simp <;> (try have := hbd rfl) <;> (repeat' split) <;> first | rfl | omega
 have hb : Q.bnd c = (0, 0, 0) := by unfold Q.bnd; rw [if_neg k1, if_neg k2, if_neg k3, if_neg k4, if_neg k5, if_neg k6, if_neg k7, if_neg k8]
 rw [hb]
 unfold wellC
 simp
 (repeat' split) <;> first | rfl | omega
end Go.Proofs.YtjfldbmopjojdabDoor
