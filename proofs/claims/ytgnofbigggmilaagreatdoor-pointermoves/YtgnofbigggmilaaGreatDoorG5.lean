/- joined: Plain PtrP ShlV ChkA QSub -/
import Derived.Lib.ValidLaws
import Derived.Lib.Split
import Derived.Lib.Replace
import Derived.Test.YtgnofbigggmilaaGreatDoorShlG
import Derived.Test.YtgnofbigggmilaaGreatDoorG3
import Derived.Deep.RegionWith
set_option linter.unusedSimpArgs false
set_option linter.unusedVariables false
namespace Go.Proofs.YtgnofbigggmilaaGreatDoor.Q
def letN (c : Nat) : Nat :=
 if c = 34 then 34 else if c = 92 then 92 else if c = 8 then 98 else if c = 9 then 116 else if c = 10 then 110 else if c = 12 then 102 else if c = 13 then 114 else 0
def hexN (d : Nat) : Nat := if d < 10 then 48 + d else 87 + d
def escN (c : Nat) : List Nat :=
 if letN c ≠ 0 then [92, letN c] else if c < 32 then [92, 117, 48, 48, hexN (c / 16), hexN (c % 16)] else [c]
def esc (c : UInt8) : List UInt8 := (escN c.toNat).map UInt8.ofNat
def body (l : List UInt8) : List UInt8 := l.flatMap esc
def sz (l : List UInt8) : Nat := (body l).length
def bnd (b : Nat) : Nat × Nat × Nat :=
 if b < 128 then (1, 0, 0) else if 194 ≤ b ∧ b < 224 then (2, 128, 191) else if b = 224 then (3, 160, 191) else if b = 237 then (3, 128, 159)
 else if 224 < b ∧ b < 240 then (3, 128, 191) else if b = 240 then (4, 144, 191) else if b = 244 then (4, 128, 143) else if 240 < b ∧ b < 244 then (4, 128, 191) else (0, 0, 0)
def nxtGo (n : Nat) : Nat → Nat → Nat → List UInt8 → Nat × Bool
 | k, lo, hi, [] => if n ≤ k then (n, true) else (k, false)
 | k, lo, hi, c :: t => if n ≤ k then (n, true) else if c.toNat < lo ∨ hi < c.toNat then (k, false) else nxtGo n (k + 1) 128 191 t
def nxt : List UInt8 → Nat × Bool
 | [] => (0, false)
 | b :: t => if (bnd b.toNat).1 = 0 then (0, false) else nxtGo (bnd b.toNat).1 1 (bnd b.toNat).2.1 (bnd b.toNat).2.2 t
theorem nxt_cons (b : UInt8) (t : List UInt8) : nxt (b :: t) = if (bnd b.toNat).1 = 0 then (0, false) else nxtGo (bnd b.toNat).1 1 (bnd b.toNat).2.1 (bnd b.toNat).2.2 t := rfl
theorem nxtGo_le (n : Nat) : ∀ (t : List UInt8) (k lo hi : Nat), 1 ≤ k → k ≤ n → k ≤ (nxtGo n k lo hi t).1 ∧ (nxtGo n k lo hi t).1 ≤ k + t.length ∧ (nxtGo n k lo hi t).1 ≤ n ∧ ((nxtGo n k lo hi t).2 = true → (nxtGo n k lo hi t).1 = n)
 | [], k, lo, hi, h, hn => by
  unfold nxtGo
  split <;> simp <;> omega
 | c :: t, k, lo, hi, h, hn => by
  unfold nxtGo
  split
  ·simp; omega
  ·split
   ·simp; omega
   ·have := nxtGo_le n t (k + 1) 128 191 (by omega) (by omega)
    simp only [List.length_cons]
    refine ⟨by omega, by omega, this.2.2⟩
theorem bnd_tab : ∀ b : Fin 256, 128 ≤ b.val → (bnd b.val).1 = (if Lib.firstT b.val % 8 = 1 then 0 else Lib.firstT b.val % 8) ∧ ((bnd b.val).1 = 0 ∨ (bnd b.val).1 = 2 ∨ (bnd b.val).1 = 3 ∨ (bnd b.val).1 = 4) ∧ ((bnd b.val).1 ≠ 0 → (bnd b.val).2.1 = Lib.accLo (Lib.firstT b.val / 16) ∧ (bnd b.val).2.2 = Lib.accHi (Lib.firstT b.val / 16)) := by decide +kernel
theorem nxt_check (b : UInt8) (t : List UInt8) (hb : 128 ≤ b.toNat) :
 Lib.checkN (t.length + 1) (t.getD 0 0).toNat (t.getD 1 0).toNat (t.getD 2 0).toNat (Lib.firstT b.toNat % 8) (Lib.accLo (Lib.firstT b.toNat / 16)) (Lib.accHi (Lib.firstT b.toNat / 16)) = (if (nxt (b :: t)).2 then some (nxt (b :: t)).1 else none) := by
 obtain ⟨h1, h2, h3⟩ := bnd_tab ⟨b.toNat, b.toNat_lt⟩ hb
 simp only at h1 h2 h3
 rw [nxt_cons]
 generalize bnd b.toNat = B at *
 obtain ⟨n, lo, hi⟩ := B
 simp only at h1 h2 h3 ⊢
 rcases h2 with rfl | rfl | rfl | rfl
 ·have e : Lib.firstT b.toNat % 8 = 1 ∨ Lib.firstT b.toNat % 8 = 0 := by split at h1 <;> omega
  rcases e with e | e <;> simp [Lib.checkN, e]
 ·have e : Lib.firstT b.toNat % 8 = 2 := by split at h1 <;> omega
  obtain ⟨rfl, rfl⟩ := h3 (by omega)
  rw [e]
  rcases t with _ | ⟨c1, t⟩
  ·simp [Lib.checkN, nxtGo]
  ·simp only [Lib.checkN, nxtGo, List.length_cons, List.getD_cons_zero]
   by_cases c : c1.toNat < Lib.accLo (Lib.firstT b.toNat / 16) ∨ Lib.accHi (Lib.firstT b.toNat / 16) < c1.toNat
   ·simp [c]
   ·cases t <;> simp [c, nxtGo]
 ·have e : Lib.firstT b.toNat % 8 = 3 := by split at h1 <;> omega
  obtain ⟨rfl, rfl⟩ := h3 (by omega)
  rw [e]
  generalize Lib.accLo (Lib.firstT b.toNat / 16) = lo
  generalize Lib.accHi (Lib.firstT b.toNat / 16) = hi
  rcases t with _ | ⟨c1, t⟩
  ·simp [Lib.checkN, nxtGo]
  ·by_cases c : c1.toNat < lo ∨ hi < c1.toNat
   ·simp only [Lib.checkN, nxtGo, List.length_cons, List.getD_cons_zero]
    rcases c with c | c <;> simp [c]
   ·have c' := not_or.1 c
    rcases t with _ | ⟨c2, t⟩
    ·simp [Lib.checkN, nxtGo, c]
    ·by_cases d : c2.toNat < 128 ∨ 191 < c2.toNat
     ·rcases d with d | d <;> simp [Lib.checkN, nxtGo, c, c'.1, c'.2, d]
     ·have d' := not_or.1 d
      cases t <;> simp [Lib.checkN, nxtGo, c, d, c'.1, c'.2, d'.1, d'.2]
 ·have e : Lib.firstT b.toNat % 8 = 4 := by split at h1 <;> omega
  obtain ⟨rfl, rfl⟩ := h3 (by omega)
  rw [e]
  generalize Lib.accLo (Lib.firstT b.toNat / 16) = lo
  generalize Lib.accHi (Lib.firstT b.toNat / 16) = hi
  rcases t with _ | ⟨c1, t⟩
  ·simp [Lib.checkN, nxtGo]
  ·by_cases c : c1.toNat < lo ∨ hi < c1.toNat
   ·simp only [Lib.checkN, nxtGo, List.length_cons, List.getD_cons_zero]
    rcases c with c | c <;> simp [c]
   ·have c' := not_or.1 c
    rcases t with _ | ⟨c2, t⟩
    ·simp [Lib.checkN, nxtGo, c]
    ·by_cases d : c2.toNat < 128 ∨ 191 < c2.toNat
     ·rcases d with d | d <;> simp [Lib.checkN, nxtGo, c, c'.1, c'.2, d]
     ·have d' := not_or.1 d
      rcases t with _ | ⟨c3, t⟩
      ·simp [Lib.checkN, nxtGo, c, d]
      ·by_cases f : c3.toNat < 128 ∨ 191 < c3.toNat
       ·rcases f with f | f <;> simp [Lib.checkN, nxtGo, c, d, c'.1, c'.2, d'.1, d'.2, f]
       ·have f' := not_or.1 f
        cases t <;> simp [Lib.checkN, nxtGo, c, d, f, c'.1, c'.2, d'.1, d'.2, f'.1, f'.2]
theorem valid_step (l : List UInt8) (hne : l ≠ []) : Lib.validD l = (if (nxt l).2 then Lib.validD (l.drop (nxt l).1) else false) := by
 cases l with
 | nil => exact absurd rfl hne
 | cons b t =>
  by_cases hb : b.toNat < 128
  ·rw [Lib.validD_cons b t hb]
   have e : nxt (b :: t) = (1, true) := by
    have : bnd b.toNat = (1, 0, 0) := by simp [bnd, hb]
    cases t <;> simp [nxt_cons, this, nxtGo]
   rw [e]
   rfl
  ·have h := Lib.validD_lead (b :: t) hne (by simpa using (by omega : 128 ≤ b.toNat))
   rw [h]
   have k := nxt_check b t (by omega)
   simp only [List.getD_cons_zero, List.getD_cons_succ, List.length_cons] at k ⊢
   rw [k]
   by_cases g : (nxt (b :: t)).2 = true
   ·simp [g]
   ·simp [g]
end Go.Proofs.YtgnofbigggmilaaGreatDoor.Q
namespace Go.Proofs.YtgnofbigggmilaaGreatDoor
open Go.Lib
theorem index_dec (c : UInt8) : ∀ s : List UInt8, (index s [c] = -1 ∧ c ∉ s) ∨ (∃ a b, s = a ++ c :: b ∧ c ∉ a ∧ index s [c] = (a.length : Int))
 | [] => .inl ⟨by simp [index], by simp⟩
 | x :: t => by
  by_cases hx : x = c
  ·subst hx
   exact .inr ⟨[], t, rfl, by simp, by simp [index]⟩
  ·have hc : ¬ c = x := fun e => hx e.symm
   rcases index_dec c t with ⟨h1, h2⟩ | ⟨a, b, rfl, h2, h3⟩
   ·exact .inl ⟨by simp [index, h1, hc], by simp [h2, hc]⟩
   ·refine .inr ⟨x :: a, b, rfl, by simp [h2, hc], ?_⟩
    have : ¬ (a.length : Int) = -1 := by omega
    simp [index, h3, hc, this]
def spl (c : UInt8) : List UInt8 → List (List UInt8)
 | [] => [[]]
 | x :: t => if x = c then [] :: spl c t else
  match spl c t with
  | h :: r => (x :: h) :: r
  | [] => [[x]]
theorem spl_miss (c : UInt8) : ∀ a : List UInt8, c ∉ a → spl c a = [a]
 | [], _ => rfl
 | x :: t, h => by
  have hx : ¬ x = c := fun e => h (by simp [e])
  rw [spl, if_neg hx, spl_miss c t (fun h' => h (by simp [h']))]
theorem spl_hit (c : UInt8) (b : List UInt8) : ∀ a : List UInt8, c ∉ a → spl c (a ++ c :: b) = a :: spl c b
 | [], _ => by simp [spl]
 | x :: t, h => by
  have hx : ¬ x = c := fun e => h (by simp [e])
  rw [List.cons_append, spl, if_neg hx, spl_hit c b t (fun h' => h (by simp [h']))]
theorem drop_sep (a b : List UInt8) (c : UInt8) : (a ++ c :: b).drop (a.length + 1) = b := by
 rw [List.drop_append]; simp
theorem take_sep (a b : List UInt8) (c : UInt8) : (a ++ c :: b).take a.length = a := by simp
theorem split_spl (c : UInt8) (n : Nat) : ∀ s : List UInt8, s.length ≤ n → splitK [c] 0 (count s [c]) s = spl c s := by
 induction n with
 | zero =>
  intro s h
  obtain rfl : s = [] := List.length_eq_zero_iff.1 (by omega)
  rw [count_miss (by simp [index])]
  rfl
 | succ n ih =>
  intro s h
  rcases index_dec c s with ⟨h1, h2⟩ | ⟨a, b, rfl, h2, h3⟩
  ·rw [count_miss h1, spl_miss c s h2]; rfl
  ·rw [count_hit (by simp) h3, spl_hit c b a h2, Nat.add_comm 1, splitK]
   have hne : ¬ (index (a ++ c :: b) [c] == -1) = true := by rw [h3]; simp
   rw [if_neg hne, h3]
   simp only [Int.toNat_natCast, Nat.add_zero, List.length_cons, List.length_nil, Nat.zero_add, take_sep, drop_sep]
   rw [ih b (by simp at h; omega)]
def une : List UInt8 → Option (List UInt8)
 | [] => some []
 | x :: t =>
  if x = 126 then
   match t with
   | [] => none
   | y :: u => if y = 48 then (une u).map (126 :: ·) else if y = 49 then (une u).map (47 :: ·) else none
  else (une t).map (x :: ·)
theorem une_nil : une [] = some [] := by rw [une]
theorem une_plain {x : UInt8} (t : List UInt8) (h : x ≠ 126) : une (x :: t) = (une t).map (x :: ·) := by rw [une.eq_def]; simp only [if_neg h]
theorem une_end : une [126] = none := by rw [une.eq_def]; simp
theorem une_tilde (y : UInt8) (u : List UInt8) : une (126 :: y :: u) = if y = 48 then (une u).map (126 :: ·) else if y = 49 then (une u).map (47 :: ·) else none := by rw [une.eq_def]; simp
theorem une_pre : ∀ (a b : List UInt8), 126 ∉ a → une (a ++ b) = (une b).map (a ++ ·)
 | [], b, _ => by simp
 | x :: t, b, h => by
  have hx : x ≠ 126 := fun e => h (by simp [e])
  rw [List.cons_append, une_plain _ hx, une_pre t b (fun h' => h (by simp [h'])), Option.map_map]
  rfl
theorem une_all (a : List UInt8) (h : 126 ∉ a) : une a = some a := by
 have := une_pre a [] h
 rw [List.append_nil, une_nil] at this
 simpa using this
def esp : List UInt8 → List UInt8
 | [] => []
 | x :: t => (if x = 126 then [126, 48] else if x = 47 then [126, 49] else [x]) ++ esp t
def repl (c : UInt8) (new : List UInt8) (s : List UInt8) : List UInt8 := s.flatMap fun x => if x = c then new else [x]
theorem repl_miss (c : UInt8) (new : List UInt8) : ∀ s : List UInt8, c ∉ s → repl c new s = s
 | [], _ => rfl
 | x :: t, h => by
  have hx : ¬ x = c := fun e => h (by simp [e])
  have := repl_miss c new t (fun h' => h (by simp [h']))
  simp only [repl, List.flatMap_cons, if_neg hx] at this ⊢
  rw [this]; rfl
theorem replaceK_one (c : UInt8) (new : List UInt8) (n : Nat) : ∀ s : List UInt8, s.length ≤ n → replaceK [c] new (count s [c]) s = repl c new s := by
 induction n with
 | zero =>
  intro s h
  obtain rfl : s = [] := List.length_eq_zero_iff.1 (by omega)
  rw [count_miss (by simp [index])]
  rfl
 | succ n ih =>
  intro s h
  rcases index_dec c s with ⟨h1, h2⟩ | ⟨a, b, rfl, h2, h3⟩
  ·rw [count_miss h1, repl_miss c new s h2]; rfl
  ·rw [count_hit (by simp) h3, Nat.add_comm 1, replaceK_hit _ _ _ _ _ h3]
   simp only [List.length_cons, List.length_nil, Nat.zero_add, take_sep, drop_sep]
   rw [ih b (by simp at h; omega)]
   have ha := repl_miss c new a h2
   simp only [repl, List.flatMap_append, List.flatMap_cons, if_true] at ha ⊢
   rw [ha, List.append_assoc]
theorem replaceAll_one (c : UInt8) (new s : List UInt8) (h : ([c] == new) = false) : replaceAll s [c] new = repl c new s := by
 rw [replaceAll, replace, if_neg (by simp [h]), replaceNum, if_pos (.inl (by decide))]
 exact replaceK_one c new s.length s (Nat.le_refl _)
theorem esp_repl : ∀ s : List UInt8, repl 47 [126, 49] (repl 126 [126, 48] s) = esp s
 | [] => rfl
 | x :: t => by
  have ih := esp_repl t
  simp only [repl] at ih
  rw [esp, ← ih]
  by_cases h1 : x = 126
  ·subst h1; simp [repl]
  ·by_cases h2 : x = 47
   ·subst h2; simp [repl]
   ·simp [repl, h1, h2]
theorem esp_len : ∀ s : List UInt8, (esp s).length ≤ 2 * s.length
 | [] => by simp [esp]
 | x :: t => by
  have := esp_len t
  rw [esp, List.length_append, List.length_cons]
  split
  ·simp; omega
  split
  ·simp; omega
  ·simp; omega
theorem nxtGo_sep (n : Nat) (c : UInt8) (hc : c.toNat < 128) (b : List UInt8) : ∀ (t : List UInt8) (k lo hi : Nat), 128 ≤ lo → k ≤ n → (Q.nxtGo n k lo hi (t ++ c :: b)).2 = (Q.nxtGo n k lo hi t).2 ∧ ((Q.nxtGo n k lo hi t).2 = true → n ≤ k + t.length)
 | [], k, lo, hi, hl, hk => by
  rw [List.nil_append]
  simp only [Q.nxtGo]
  by_cases h : n ≤ k
  ·simp [h]
  ·simp [h, show c.toNat < lo by omega]
 | x :: t, k, lo, hi, hl, hk => by
  rw [List.cons_append]
  simp only [Q.nxtGo]
  by_cases h : n ≤ k
  ·simp [h]; omega
  ·rw [if_neg h, if_neg h]
   split
   ·simp
   ·obtain ⟨h1, h2⟩ := nxtGo_sep n c hc b t (k + 1) 128 191 (by omega) (by omega)
    exact ⟨h1, fun h => by have := h2 h; simp; omega⟩
theorem bnd_facts (x : Nat) (h : (Q.bnd x).1 ≠ 0) : 1 ≤ (Q.bnd x).1 ∧ (1 < (Q.bnd x).1 → 128 ≤ (Q.bnd x).2.1) := by
 unfold Q.bnd at *
 repeat' split
 all_goals simp_all
theorem valid_sep (c : UInt8) (hc : c.toNat < 128) (b : List UInt8) (n : Nat) : ∀ a : List UInt8, a.length ≤ n → validD (a ++ c :: b) = (validD a && validD b) := by
 induction n with
 | zero =>
  intro a h
  obtain rfl : a = [] := List.length_eq_zero_iff.1 (by omega)
  rw [List.nil_append, validD_cons _ _ hc, validD_nil, Bool.true_and]
 | succ n ih =>
  intro a h
  cases a with
  | nil => rw [List.nil_append, validD_cons _ _ hc, validD_nil, Bool.true_and]
  | cons x t =>
   rw [List.cons_append, Q.valid_step _ (by simp), Q.valid_step (x :: t) (by simp), Q.nxt_cons, Q.nxt_cons]
   by_cases h0 : (Q.bnd x.toNat).1 = 0
   ·simp [h0]
   ·rw [if_neg h0, if_neg h0]
    obtain ⟨f1, f2⟩ := bnd_facts x.toNat h0
    by_cases h1 : (Q.bnd x.toNat).1 = 1
    ·have e : ∀ u lo hi, Q.nxtGo 1 1 lo hi u = (1, true) := fun u lo hi => by cases u <;> simp [Q.nxtGo]
     rw [h1, e, e]
     simp only [if_true, List.drop_succ_cons, List.drop_zero]
     exact ih t (by simp at h; omega)
    ·obtain ⟨g1, g2⟩ := nxtGo_sep (Q.bnd x.toNat).1 c hc b t 1 (Q.bnd x.toNat).2.1 (Q.bnd x.toNat).2.2 (f2 (by omega)) f1
     rw [g1]
     by_cases g : (Q.nxtGo (Q.bnd x.toNat).1 1 (Q.bnd x.toNat).2.1 (Q.bnd x.toNat).2.2 t).2 = true
     ·have l1 := (Q.nxtGo_le (Q.bnd x.toNat).1 t 1 (Q.bnd x.toNat).2.1 (Q.bnd x.toNat).2.2 (by omega) f1).2.2.2 g
      have l2 := (Q.nxtGo_le (Q.bnd x.toNat).1 (t ++ c :: b) 1 (Q.bnd x.toNat).2.1 (Q.bnd x.toNat).2.2 (by omega) f1).2.2.2 (by rw [g1]; exact g)
      have hle := g2 g
      rw [if_pos g, if_pos g, l1, l2]
      have e2 : (x :: (t ++ c :: b)).drop (Q.bnd x.toNat).1 = (x :: t).drop (Q.bnd x.toNat).1 ++ c :: b := by
       rw [← List.cons_append, List.drop_append_of_le_length (by simp; omega)]
      rw [e2]
      exact ih _ (by simp at h ⊢; omega)
     ·rw [if_neg g, if_neg g]; rfl
theorem valid_mid (c : UInt8) (hc : c.toNat < 128) (a b : List UInt8) : validD (a ++ c :: b) = (validD a && validD b) := valid_sep c hc b a.length a (Nat.le_refl _)
theorem valid_spl (c : UInt8) (hc : c.toNat < 128) (n : Nat) : ∀ s : List UInt8, s.length ≤ n → validD s = (spl c s).all validD := by
 induction n with
 | zero =>
  intro s h
  obtain rfl : s = [] := List.length_eq_zero_iff.1 (by omega)
  simp [spl, validD_nil]
 | succ n ih =>
  intro s h
  rcases index_dec c s with ⟨h1, h2⟩ | ⟨a, b, rfl, h2, h3⟩
  ·rw [spl_miss c s h2]; simp
  ·rw [spl_hit c b a h2, valid_mid c hc, ih b (by simp at h; omega), List.all_cons]
theorem valid_une (n : Nat) : ∀ (s : List UInt8) (p : List UInt8), s.length ≤ n → ∀ u, une s = some u → validD (p ++ s) = validD (p ++ u) := by
 induction n with
 | zero =>
  intro s p h u hu
  obtain rfl : s = [] := List.length_eq_zero_iff.1 (by omega)
  rw [une_nil] at hu
  cases hu; rfl
 | succ n ih =>
  intro s p h u hu
  cases s with
  | nil => rw [une_nil] at hu; cases hu; rfl
  | cons x t =>
   by_cases hx : x = 126
   ·subst hx
    cases t with
    | nil => rw [une_end] at hu; cases hu
    | cons y v =>
     rw [une_tilde] at hu
     split at hu
     ·rename_i hy
      obtain ⟨z, hz, rfl⟩ := Option.map_eq_some_iff.1 hu
      subst hy
      have e := ih v [] (by simp at h; omega) z hz
      rw [valid_mid 126 (by decide), valid_mid 126 (by decide), validD_cons 48 v (by decide)]
      simp only [List.nil_append] at e
      rw [e]
     ·split at hu
      ·rename_i _ hy
       obtain ⟨z, hz, rfl⟩ := Option.map_eq_some_iff.1 hu
       subst hy
       have e := ih v [] (by simp at h; omega) z hz
       rw [valid_mid 126 (by decide), valid_mid 47 (by decide), validD_cons 49 v (by decide)]
       simp only [List.nil_append] at e
       rw [e]
      ·cases hu
   ·rw [une_plain _ hx] at hu
    obtain ⟨z, hz, rfl⟩ := Option.map_eq_some_iff.1 hu
    have e := ih t (p ++ [x]) (by simp at h; omega) z hz
    simpa using e
def unes : List (List UInt8) → Option (List (List UInt8))
 | [] => some []
 | x :: t => match une x with
  | none => none
  | some u => (unes t).map (u :: ·)
def parF (p : List UInt8) : Option (List (List UInt8)) :=
 match p with
 | [] => some []
 | x :: q => if x = 47 ∧ validD p = true then unes (spl 47 q) else none
theorem unes_valid : ∀ (l : List (List UInt8)) (r : List (List UInt8)), unes l = some r → l.all validD = r.all validD
 | [], r, h => by rw [unes] at h; cases h; rfl
 | x :: t, r, h => by
  rw [unes] at h
  split at h
  ·cases h
  ·rename_i u hu
   obtain ⟨z, hz, rfl⟩ := Option.map_eq_some_iff.1 h
   rw [List.all_cons, List.all_cons, unes_valid t z hz]
   have := valid_une x.length x [] (Nat.le_refl _) u hu
   simp only [List.nil_append] at this
   rw [this]
end Go.Proofs.YtgnofbigggmilaaGreatDoor
namespace Go.Proofs.YtgnofbigggmilaaGreatDoor
open Go.Lib Go.RowKit
theorem validString_any (s : ByteArray) (w : World) (hs : s.size ≤ 281474976710656) (hU : Utf8Tabs 0 1 w) :
 Calls Tryz.prog 62 #[.string s] w fun e w' => e = .returned (.bool (validD s.data.toList)) ∧ Below w.heap.size w w' :=
 Any.utf8_ValidString Tryz.lays196 s w (by omega) hU
def MaxIs (w : World) : Prop := ∃ m : Int, w.cell? ⟨2, 0, none⟩ = some (.int .i64 m)
theorem split_any (s : ByteArray) (w : World) (hs : s.size < 4294967281) (hm : MaxIs w) :
 Calls Tryz.prog 57 #[.string s, .string ⟨#[47]⟩] w fun e w' => ∃ l : List ByteArray, l.map (·.data.toList) = spl 47 s.data.toList ∧ e = .returned (.slice (some ⟨w.heap.size, 0, none⟩) l.length l.length) ∧ w' = w.alloc (.cells (l.map Value.string).toArray 9) := by
 obtain ⟨m, hm⟩ := hm
 refine (Any.strings_Split Tryz.lays146 (by kernel_rfl) s ⟨#[47]⟩ m w hs hm (by decide)).mono ?_
 rintro e w' ⟨he, hw⟩
 have hl := splitB_all ⟨#[47]⟩ (by decide) 0 _ s rfl
 refine ⟨splitB ⟨#[47]⟩ 0 (countB s ⟨#[47]⟩) s, ?_, by rw [hl]; exact he, hw⟩
 rw [splitB_data]
 exact split_spl 47 _ _ (Nat.le_refl _)
theorem cut_any (s : ByteArray) (w : World) (hs : s.size < 4294967281) (hm : MaxIs w) :
 Calls Tryz.prog 77 #[.string s, .string ⟨#[126]⟩] w fun e w' => e = .returned (.tuple #[.string ⟨(cut s.data.toList [126]).1.toArray⟩, .string ⟨(cut s.data.toList [126]).2.1.toArray⟩, .bool (cut s.data.toList [126]).2.2]) ∧ Below w.heap.size w w' := by
 obtain ⟨m, hm⟩ := hm
 refine (Any.strings_Cut Tryz.lays145 s ⟨#[126]⟩ m w hs hm).mono ?_
 rintro e w' ⟨he, n, rfl⟩
 exact ⟨he, ⟨rfl, rfl, rfl, Nat.le_refl _, fun _ _ => rfl⟩⟩
theorem pre_any (s p : ByteArray) (w : World) : Calls Tryz.prog 78 #[.string s, .string p] w fun e w' => e = .returned (.bool (hasPrefix s.data.toList p.data.toList)) ∧ w' = w :=
 Any.strings_HasPrefix Tryz.lays99 s p w
end Go.Proofs.YtgnofbigggmilaaGreatDoor
namespace Go.Proofs.YtgnofbigggmilaaGreatDoor
open Go.RowKit Go.Lib
theorem utab_grown {w w' : World} {row : Option Nat} (h : Utf8Tabs 0 1 w) (hb : w.grownBy w' row) (h2 : 2 < w.heap.size) (hr : ∀ r, row = some r → 2 < r) : Utf8Tabs 0 1 w' := by
 have hn : ∀ q, q ≤ 2 → some q ≠ row := fun q hq e => by have := hr q e.symm; omega
 have k1 := hb.block 0 (by omega) (hn 0 (by omega))
 have k2 := hb.block 1 (by omega) (hn 1 (by omega))
 exact ⟨fun c hc => (World.cell?_of_block (w := w) (a := ⟨0, c, none⟩) k1).trans (h.1 c hc), fun i hi => ⟨(World.cell?_of_block (w := w) (a := ⟨1, 2 * i, none⟩) k2).trans (h.2 i hi).1, (World.cell?_of_block (w := w) (a := ⟨1, 2 * i + 1, none⟩) k2).trans (h.2 i hi).2⟩⟩
structure Tb (w : World) : Prop where
 u : Utf8Tabs 0 1 w
 z : 2 < w.heap.size
theorem Tb.grown {w w' : World} {row : Option Nat} (h : Tb w) (hb : w.grownBy w' row) (hr : ∀ r, row = some r → 2 < r) : Tb w' := ⟨utab_grown h.u hb h.z hr, Nat.lt_of_lt_of_le h.z hb.size⟩
theorem Tb.below {w w' : World} {B : Nat} (h : Tb w) (hb : Below B w w') (hB : 2 < B) : Tb w' := by
 refine ⟨?_, Nat.lt_of_lt_of_le h.z hb.size⟩
 exact ⟨fun c hc => (hb.cell (p := ⟨0, c, none⟩) (by show 0 < B; omega)).trans (h.u.1 c hc), fun i hi => ⟨(hb.cell (p := ⟨1, 2 * i, none⟩) (by show 1 < B; omega)).trans (h.u.2 i hi).1, (hb.cell (p := ⟨1, 2 * i + 1, none⟩) (by show 1 < B; omega)).trans (h.u.2 i hi).2⟩⟩
def plainB (k : Int) (b : Bool) (i : Int) (s : ByteArray) (nl nm : Nat) : Bool :=
 decide (0 ≤ k ∧ k ≤ 5 ∧ (k = 1 ∨ b = false) ∧ (k = 2 ∨ i = 0) ∧ (k = 3 ∨ s.toList.isEmpty = true) ∧ (k = 4 ∨ nl = 0) ∧ (k = 5 ∨ nm = 0))
def BPost (r : Bool) (w : World) (e : Ending) (w' : World) : Prop := e = .returned (.bool r) ∧ Below w.heap.size w w'
set_option maxHeartbeats 8000000 in
set_option maxRecDepth 100000 in
theorem plain_any (k : Int) (b : Bool) (i : Int) (s : ByteArray) (nl nm : Nat) (al am : Option Addr) (cl cm : Nat) (w : World) :
 Calls Tryz.prog 91 #[.agg #[.int .i64 k, .bool b, .int .i64 i, .string s, .slice al nl cl, .slice am nm cm]] w (BPost (plainB k b i s nl nm) w) := by
 go_enter Tryz.func91, Tryz.ntmps91
 go_wp2
 all_goals go_ret
 all_goals refine ⟨?_, (Below.refl _ _).alloc (Nat.le_refl _) _⟩
 all_goals show Ending.returned (Value.bool _) = Ending.returned (Value.bool _)
 all_goals refine congrArg (fun r => Ending.returned (Value.bool r)) ?_
 all_goals rw [Bool.eq_iff_iff]
 all_goals simp only [plainB, decide_eq_true_eq, beq_iff_eq, Bool.not_eq_true', Bool.false_eq_true, false_iff, true_iff]
 all_goals simp_all
 all_goals omega
end Go.Proofs.YtgnofbigggmilaaGreatDoor
namespace Go.Proofs.YtgnofbigggmilaaGreatDoor
open Go.RowKit
structure Sub (N : Nat) (w0 : World) where
 w : World
 b : Below N w0 w
instance subThere (N : Nat) (w0 : World) : Inhabited (Sub N w0) := ⟨⟨w0, Below.refl N w0⟩⟩
theorem wp_region_sub {P : Program} (N : Nat) {id : Nat} {Q : Exit → Act → World → Prop} {a : Act} {w : World} {l : List Oper} (hm : P.follows .mixedOrders = true) (hB : Region.lexB .any l.toArray = true)
 (h : wpQuiet P l.toArray (fun w' => ∃ x : Sub N w, w' = x.w) (fun a' => ∀ w', (∃ x : Sub N w, w' = x.w) → Q .normal a' w') l a) : (Code.region id l.toArray true).wp P Q a w :=
 wp_region_quiet (C := fun w' => ∃ x : Sub N w, w' = x.w) hm hB ⟨⟨w.drew, (Below.refl N w).drew⟩, rfl⟩ (by simpa using h)
theorem sub_call {P : Program} {f : FuncId} {args : Array Value} {N : Nat} {w0 : World} {v : Value} (h : ∀ w', Below N w0 w' → Calls P f args w' fun e w'' => e = .returned v ∧ Below N w0 w'') (x : Sub N w0) :
 Calls P f args x.w fun e w'' => e = .returned v ∧ ∃ y : Sub N w0, w'' = y.w :=
 (h x.w x.b).mono fun e w'' ⟨he, hb⟩ => ⟨he, ⟨w'', hb⟩, rfl⟩
theorem sub_cell {N : Nat} {w0 : World} {b o : Nat} {v : Value} (h : w0.cell? ⟨b, o, none⟩ = some v) (hb : b < N) (x : Sub N w0) : x.w.cell? ⟨b, o, none⟩ = some v :=
 (x.b.cell (p := ⟨b, o, none⟩) hb).trans h
end Go.Proofs.YtgnofbigggmilaaGreatDoor
