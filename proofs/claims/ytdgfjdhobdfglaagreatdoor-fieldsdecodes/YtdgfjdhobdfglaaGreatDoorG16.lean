/- joined: PtoP PlsR TwvP TwpA TwsR -/
import Derived.Test.YtdgfjdhobdfglaaGreatDoorG15
set_option linter.unusedSimpArgs false
set_option linter.unusedVariables false
set_option maxRecDepth 100000
namespace Go.Proofs.YtdgfjdhobdfglaaGreatDoor
open Go.RowKit Go.Lib
structure Wko {α : Type} (f : α -> α -> Int) : Prop where
 anti : ∀ x y, f x y = - f y x
 cong : ∀ x y z, f x y = 0 -> f x z = f y z
 tri : ∀ x y z, f x y < 0 -> f y z < 0 -> f x z < 0
theorem Wko.self {α : Type} {f : α -> α -> Int} (h : Wko f) (x : α) : f x x = 0 := by have := h.anti x x; omega
theorem Wko.sym {α : Type} {f : α -> α -> Int} (h : Wko f) {x y : α} (e : f x y = 0) : f y x = 0 := by have := h.anti y x; omega
theorem Wko.congR {α : Type} {f : α -> α -> Int} (h : Wko f) {x y : α} (e : f x y = 0) (z : α) : f z x = f z y := by
 rw [h.anti z x, h.anti z y, h.cong x y z e]
theorem Wko.of {α β : Type} {f : α -> α -> Int} (h : Wko f) (k : β -> α) : Wko (fun x y => f (k x) (k y)) :=
 ⟨fun x y => h.anti _ _, fun x y z e => h.cong _ _ _ e, fun x y z a b => h.tri _ _ _ a b⟩
theorem Wko.dep {α κ : Type} {f : α -> α -> Int} {g : κ -> α -> α -> Int} {k : α -> κ} (h : Wko f) (hg : ∀ c, Wko (g c)) (hk : ∀ x y, f x y = 0 -> k x = k y) : Wko (fun x y => if f x y = 0 then g (k x) x y else f x y) := by
 refine ⟨fun x y => ?_, fun x y z e => ?_, fun x y z a b => ?_⟩
 ·skip
  by_cases e : f x y = 0
  ·rw [if_pos e, if_pos (h.sym e), hk x y e]; exact (hg _).anti x y
  ·rw [if_neg e, if_neg (fun e' => e (h.sym e'))]; exact h.anti x y
 ·skip
  by_cases e1 : f x y = 0
  ·rw [if_pos e1] at e
   rw [h.cong x y z e1, hk x y e1]
   rw [hk x y e1] at e
   by_cases e2 : f y z = 0
   ·rw [if_pos e2, if_pos e2]; exact (hg _).cong x y z e
   ·rw [if_neg e2, if_neg e2]
  ·rw [if_neg e1] at e; exact absurd e e1
 ·skip
  by_cases e1 : f x y = 0
  ·rw [if_pos e1, hk x y e1] at a
   rw [h.cong x y z e1, hk x y e1]
   by_cases e2 : f y z = 0
   ·rw [if_pos e2] at b ⊢; exact (hg _).tri x y z a b
   ·rw [if_neg e2] at b ⊢; exact b
  ·rw [if_neg e1] at a
   by_cases e2 : f y z = 0
   ·rw [<- h.congR e2 x, if_neg e1]; exact a
   ·rw [if_neg e2] at b
    have c := h.tri x y z a b
    rw [if_neg (by omega)]; exact c
theorem Wko.then {α : Type} {f g : α -> α -> Int} (h : Wko f) (hg : Wko g) : Wko (fun x y => if f x y = 0 then g x y else f x y) :=
 Wko.dep (κ := Unit) (g := fun _ => g) (k := fun _ => ()) h (fun _ => hg) (fun _ _ _ => rfl)
theorem wk_I : Wko cmpI := ⟨fun x y => by unfold cmpI; split <;> split <;> (try split) <;> omega, fun x y z e => by
 have : x = y := by unfold cmpI at e; split at e <;> (try split at e) <;> omega
 rw [this], fun x y z a b => by unfold cmpI at a b ⊢; (split at a <;> (try split at a)) <;> (split at b <;> (try split at b)) <;> (split <;> (try split)) <;> omega⟩
theorem wk_B : Wko cmpB := ⟨fun x y => by cases x <;> cases y <;> rfl, fun x y z e => by cases x <;> cases y <;> first | rfl | (simp [cmpB] at e), fun x y z a b => by cases x <;> cases y <;> cases z <;> simp_all [cmpB]⟩
theorem cmpS_eq {a b : ByteArray} (h : cmpS a b = 0) : a = b := bytes_eq ((cmpS_nul a b).1 h)
theorem wk_S : Wko cmpS := by
 refine ⟨fun x y => ?_, fun x y z e => by rw [cmpS_eq e], fun x y z a b => ?_⟩
 ·unfold cmpS; exact cmp_anti _ _
 ·unfold cmpS at a b ⊢
  have h1 := cmp_one x.data.toList y.data.toList
  have h2 := cmp_one y.data.toList z.data.toList
  have := cmp_trans x.data.toList y.data.toList z.data.toList (by omega) (by omega)
  omega
theorem cmpI_nul (x y : Int) : cmpI x y = 0 ↔ x = y := by unfold cmpI; split <;> (try split) <;> omega
theorem cmpB_nul (x y : Bool) : cmpB x y = 0 ↔ x = y := by cases x <;> cases y <;> simp [cmpB]
def strOf : V -> ByteArray
 | .mk _ _ _ s _ _ => s
def boolOf : V -> Bool
 | .mk _ b _ _ _ _ => b
def intOfV : V -> Int
 | .mk _ _ i _ _ _ => i
theorem osV_then : osV = fun x y => if cmpI (kindOf x) (kindOf y) = 0 then (if cmpB (boolOf x) (boolOf y) = 0 then (if cmpI (intOfV x) (intOfV y) = 0 then cmpS (strOf x) (strOf y) else cmpI (intOfV x) (intOfV y)) else cmpB (boolOf x) (boolOf y)) else cmpI (kindOf x) (kindOf y) := by
 funext x y
 obtain ⟨k, b, i, s, l, m⟩ := x
 obtain ⟨k', b', i', s', l', m'⟩ := y
 simp only [osV, osB, kindOf, boolOf, intOfV, strOf, cmpI_nul, cmpB_nul]
 by_cases hk : k = k'
 ·rw [if_pos hk, if_pos hk]
  by_cases hb : b = b'
  ·rw [if_pos hb, if_pos hb]
  ·rw [if_neg hb, if_neg hb, cmpB, if_neg hb]
 ·rw [if_neg hk, if_neg hk]
theorem wk_V : Wko osV := by
 rw [osV_then]
 exact (wk_I.of kindOf).then ((wk_B.of boolOf).then ((wk_I.of intOfV).then (wk_S.of strOf)))
theorem omM_then : omM = fun x y => if cmpS x.1 y.1 = 0 then osV x.2 y.2 else cmpS x.1 y.1 := by
 funext x y
 rw [omM]
 by_cases h : x.1.toList = y.1.toList
 ·rw [if_pos h, if_pos ((cmpS_nul _ _).2 h)]
 ·rw [if_neg h, if_neg (fun e => h ((cmpS_nul _ _).1 e))]
theorem wk_M : Wko omM := by
 rw [omM_then]
 exact (wk_S.of (fun x : Mem => x.1)).then (wk_V.of (fun x : Mem => x.2))
theorem lex_nil_l {α : Type} (f : α -> α -> Int) (b : List α) : lexL f [] b = cmpI 0 b.length := by cases b <;> rfl
theorem lex_nil_r {α : Type} (f : α -> α -> Int) (a : List α) : lexL f a [] = cmpI a.length 0 := by cases a <;> rfl
theorem cmpI_0s (n : Nat) : cmpI 0 ((n + 1 : Nat) : Int) = -1 := by unfold cmpI; rw [if_pos (by omega)]
theorem cmpI_s0 (n : Nat) : cmpI ((n + 1 : Nat) : Int) 0 = 1 := by unfold cmpI; rw [if_neg (by omega), if_pos (by omega)]
theorem lex_anti {α : Type} {f : α -> α -> Int} (h : Wko f) : ∀ a b : List α, lexL f a b = - lexL f b a
 | [], b => by rw [lex_nil_l, lex_nil_r]; exact wk_I.anti _ _
 | x :: a, [] => by rw [lex_nil_l, lex_nil_r]; exact wk_I.anti _ _
 | x :: a, y :: b => by
  rw [lexL, lexL]
  by_cases e : f x y = 0
  ·rw [if_pos e, if_pos (h.sym e)]; exact lex_anti h a b
  ·rw [if_neg e, if_neg (fun e' => e (h.sym e'))]; exact h.anti x y
theorem lex_cong {α : Type} {f : α -> α -> Int} (h : Wko f) : ∀ a b c : List α, lexL f a b = 0 -> lexL f a c = lexL f b c
 | [], [], c, _ => rfl
 | [], y :: b, c, e => by rw [lex_nil_l, List.length_cons, cmpI_0s] at e; omega
 | x :: a, [], c, e => by rw [lex_nil_r, List.length_cons, cmpI_s0] at e; omega
 | x :: a, y :: b, [], e => by
  rw [lex_nil_r, lex_nil_r, List.length_cons, List.length_cons, cmpI_s0, cmpI_s0]
 | x :: a, y :: b, z :: c, e => by
  rw [lexL] at e
  by_cases e1 : f x y = 0
  ·rw [if_pos e1] at e
   rw [lexL, lexL, h.cong x y z e1, lex_cong h a b c e]
  ·rw [if_neg e1] at e; exact absurd e e1
theorem lex_tri {α : Type} {f : α -> α -> Int} (h : Wko f) : ∀ a b c : List α, lexL f a b < 0 -> lexL f b c < 0 -> lexL f a c < 0
 | [], b, [], e, e' => by
  cases b with
  | nil => rw [lex_nil_l] at e; simp [cmpI] at e
  | cons y b => rw [lex_nil_r, List.length_cons, cmpI_s0] at e'; omega
 | [], b, z :: c, e, e' => by rw [lex_nil_l, List.length_cons, cmpI_0s]; omega
 | x :: a, [], c, e, e' => by rw [lex_nil_r, List.length_cons, cmpI_s0] at e; omega
 | x :: a, y :: b, [], e, e' => by rw [lex_nil_r, List.length_cons, cmpI_s0] at e'; omega
 | x :: a, y :: b, z :: c, e, e' => by
  rw [lexL] at e e' ⊢
  by_cases e1 : f x y = 0
  ·rw [if_pos e1] at e
   rw [h.cong x y z e1]
   by_cases e2 : f y z = 0
   ·rw [if_pos e2] at e' ⊢; exact lex_tri h a b c e e'
   ·rw [if_neg e2] at e' ⊢; exact e'
  ·rw [if_neg e1] at e
   by_cases e2 : f y z = 0
   ·rw [<- h.congR e2 x, if_neg e1]; exact e
   ·rw [if_neg e2] at e'
    have := h.tri x y z e e'
    rw [if_neg (by omega)]; exact this
theorem wk_L {α : Type} {f : α -> α -> Int} (h : Wko f) : Wko (lexL f) := ⟨lex_anti h, lex_cong h, lex_tri h⟩
def gE (k : Int) (x y : El) : Int := if k = 1 then cmpS x.name y.name else if k = 2 then lexL omM x.key y.key else osV x.item y.item
theorem wk_G (k : Int) : Wko (gE k) := by
 by_cases h1 : k = 1
 ·have : gE k = fun x y => cmpS x.name y.name := by funext x y; rw [gE, if_pos h1]
  rw [this]; exact wk_S.of El.name
 by_cases h2 : k = 2
 ·have : gE k = fun x y => lexL omM x.key y.key := by funext x y; rw [gE, if_neg h1, if_pos h2]
  rw [this]; exact (wk_L wk_M).of El.key
 ·have : gE k = fun x y => osV x.item y.item := by funext x y; rw [gE, if_neg h1, if_neg h2]
  rw [this]; exact wk_V.of El.item
theorem oeE_then : oeE = fun x y => if cmpI x.kind y.kind = 0 then gE x.kind x y else cmpI x.kind y.kind := by
 funext x y
 rw [oeE, gE]
 by_cases h : x.kind = y.kind
 ·rw [if_pos h, if_pos ((cmpI_nul _ _).2 h)]
 ·rw [if_neg h, if_neg (fun e => h ((cmpI_nul _ _).1 e))]
theorem wk_E : Wko oeE := by
 rw [oeE_then]
 exact Wko.dep (k := El.kind) (wk_I.of El.kind) wk_G (fun x y e => (cmpI_nul _ _).1 e)
theorem wk_P : Wko (lexL oeE) := wk_L wk_E
theorem osV_same {v u : V} (hv : sizS v = true) (hu : sizS u = true) (e : osV v u = 0) : v = u := by
 simp only [sizS, Bool.and_eq_true, decide_eq_true_eq] at hv hu
 have gv := chkV_allG 40 v 0 _ (okV_true hv.1)
 have gu := chkV_allG 40 u 0 _ (okV_true hu.1)
 obtain ⟨k, b, i, s, l, m⟩ := v
 obtain ⟨k', b', i', s', l', m'⟩ := u
 rw [allG] at gv gu
 have p := goodB_plain gv.1
 have q := goodB_plain gu.1
 have hk := hv.2
 have hk' := hu.2
 simp only [kindOf] at hk hk'
 have l0 : l = [] := List.length_eq_zero_iff.1 (p.2.2.2.2.2.1.resolve_left (by omega))
 have m0 : m = [] := List.length_eq_zero_iff.1 (p.2.2.2.2.2.2.resolve_left (by omega))
 have l1 : l' = [] := List.length_eq_zero_iff.1 (q.2.2.2.2.2.1.resolve_left (by omega))
 have m1 : m' = [] := List.length_eq_zero_iff.1 (q.2.2.2.2.2.2.resolve_left (by omega))
 rw [osV_then] at e
 replace e : (if cmpI k k' = 0 then (if cmpB b b' = 0 then (if cmpI i i' = 0 then cmpS s s' else cmpI i i') else cmpB b b') else cmpI k k') = 0 := e
 by_cases h1 : cmpI k k' = 0
 ·rw [if_pos h1] at e
  by_cases h2 : cmpB b b' = 0
  ·rw [if_pos h2] at e
   by_cases h3 : cmpI i i' = 0
   ·rw [if_pos h3] at e
    rw [(cmpI_nul _ _).1 h1, (cmpB_nul _ _).1 h2, (cmpI_nul _ _).1 h3, cmpS_eq e, l0, m0, l1, m1]
   ·rw [if_neg h3] at e; exact absurd e h3
  ·rw [if_neg h2] at e; exact absurd e h2
 ·rw [if_neg h1] at e; exact absurd e h1
theorem lex_same {α : Type} {f : α -> α -> Int} : ∀ a b : List α, (∀ x ∈ a, ∀ y ∈ b, f x y = 0 -> x = y) -> lexL f a b = 0 -> a = b
 | [], [], _, _ => rfl
 | [], y :: b, _, e => by rw [lex_nil_l, List.length_cons, cmpI_0s] at e; omega
 | x :: a, [], _, e => by rw [lex_nil_r, List.length_cons, cmpI_s0] at e; omega
 | x :: a, y :: b, h, e => by
  rw [lexL] at e
  by_cases e1 : f x y = 0
  ·rw [if_pos e1] at e
   rw [h x (by simp) y (by simp) e1, lex_same a b (fun x' hx y' hy => h x' (by simp [hx]) y' (by simp [hy])) e]
  ·rw [if_neg e1] at e; exact absurd e e1
theorem nilV_eq {v : V} (h : nilV v = true) : v = .mk 0 false 0 ⟨#[]⟩ [] [] := by
 obtain ⟨k, b, i, s, l, m⟩ := v
 simp only [nilV, nilB, decide_eq_true_eq] at h
 obtain ⟨h1, h2, h3, h4, h5, h6⟩ := h
 rw [h1, h2, h3, bytes_eq (h4.trans nil_toList.symm), List.length_eq_zero_iff.1 h5, List.length_eq_zero_iff.1 h6]
theorem elB_same {x y : El} (hx : elB x = true) (hy : elB y = true) (e : oeE x y = 0) : x = y := by
 obtain ⟨k, n, m, v⟩ := x
 obtain ⟨k', n', m', v'⟩ := y
 rw [oeE] at e
 dsimp only at e
 by_cases hk : k = k'
 ·subst hk
  rw [if_pos rfl] at e
  by_cases h1 : k = 1
  ·rw [if_pos h1] at e
   rw [elB1 h1] at hx hy
   simp only [Bool.and_eq_true, decide_eq_true_eq] at hx hy
   rw [cmpS_eq e, List.length_eq_zero_iff.1 hx.1, List.length_eq_zero_iff.1 hy.1, nilV_eq hx.2.1, nilV_eq hy.2.1]
  rw [if_neg h1] at e
  by_cases h2 : k = 2
  ·rw [if_pos h2] at e
   rw [elB2 h2] at hx hy
   simp only [Bool.and_eq_true, decide_eq_true_eq] at hx hy
   have em := lex_same m m' (fun a ha b hb eab => by
    rw [omM] at eab
    by_cases hz : a.1.toList = b.1.toList
    ·rw [if_pos hz] at eab
     exact Prod.ext (bytes_eq hz) (osV_same (keysB_all hx.2.2 a ha) (keysB_all hy.2.2 b hb) eab)
    ·rw [if_neg hz] at eab
     exact absurd ((cmpS_nul _ _).1 eab) hz) e
   rw [em, bytes_eq (hx.1.trans hy.1.symm), nilV_eq hx.2.1, nilV_eq hy.2.1]
  ·rw [if_neg h2] at e
   by_cases h3 : k = 3
   ·rw [elB3 h3] at hx hy
    simp only [Bool.and_eq_true, decide_eq_true_eq] at hx hy
    rw [osV_same hx.2.2 hy.2.2 e, bytes_eq (hx.1.trans hy.1.symm), List.length_eq_zero_iff.1 hx.2.1, List.length_eq_zero_iff.1 hy.2.1]
   ·rw [elB0 h1 h2 h3] at hx; cases hx
 ·rw [if_neg hk] at e
  exact absurd ((cmpI_nul _ _).1 e) hk
theorem path_same {p q : List El} (hp : pathB p = true) (hq : pathB q = true) : lexL oeE p q = 0 ↔ p = q :=
 ⟨fun e => lex_same p q (fun x hx y hy => elB_same ((pathB_all hp).2 x hx) ((pathB_all hq).2 y hy)) e, fun e => by rw [e]; exact wk_P.self q⟩
end Go.Proofs.YtdgfjdhobdfglaaGreatDoor
set_option maxRecDepth 100000
namespace Go.Proofs.YtdgfjdhobdfglaaGreatDoor
open Go.RowKit Go.Lib
def Pl.lies (w : World) (S : Nat -> Prop) (p : List El) (v : Value) : Prop := ∃ ap cp bp op, v = .slice ap p.length cp /\ Headed ap p.length cp bp op /\ liesP w S p bp op
def liesQ (w : World) (S : Nat -> Prop) (l : List (List El)) (b o : Nat) : Prop := ∀ (j : Nat) (h : j < l.length), S b /\ ∃ v, w.cell? ⟨b, o + j, none⟩ = some v /\ Pl.lies w S l[j] v
theorem Pl.keep {w w' : World} {S S' : Nat -> Prop} (hw : ∀ b, S b -> w'.heap[b]? = w.heap[b]?) (hS : ∀ b, S b -> S' b) {p : List El} {v : Value} (h : Pl.lies w S p v) : Pl.lies w' S' p v := by
 obtain ⟨ap, cp, bp, op, e, h1, h2⟩ := h
 exact ⟨ap, cp, bp, op, e, h1, liesP_keep hw hS h2⟩
theorem liesQ_keep {w w' : World} {S S' : Nat -> Prop} (hw : ∀ b, S b -> w'.heap[b]? = w.heap[b]?) (hS : ∀ b, S b -> S' b) {l : List (List El)} {b o : Nat} (h : liesQ w S l b o) : liesQ w' S' l b o := fun j hj => by
 obtain ⟨h1, v, h2, h3⟩ := h j hj
 exact ⟨hS _ h1, v, (World.cell?_of_block (w := w) (a := ⟨b, o + j, none⟩) (hw _ h1)).trans h2, Pl.keep hw hS h3⟩
end Go.Proofs.YtdgfjdhobdfglaaGreatDoor
set_option maxRecDepth 100000
namespace Go.Proofs.YtdgfjdhobdfglaaGreatDoor
open Go.RowKit
theorem set_other {w : World} {g o x : Nat} {u : Value} (h : x ≠ g) : (w.setCell ⟨g, o, none⟩ u).heap[x]? = w.heap[x]? := by
 simp [World.setCell, Array.getElem?_modify, Ne.symm h]
theorem size_set1 (w : World) (M i : Nat) (u : Value) : (w.setCell ⟨M, i, none⟩ u).heap.size = w.heap.size := by
 simp [World.setCell]
theorem headed_nil : Headed none ([] : List V).length 0 0 0 := ⟨Nat.le_refl _, by simp [maxLen], .inl rfl, fun _ => rfl⟩
theorem own_listM0 {w : World} {N : Nat} {S T : Nat -> Prop} {v : Value} {l : List Mem} (h : OwnM false w N S v (l.map some)) (hT : ∀ b, S b -> T b) (hv : ∀ g, v.ownBlock = some g -> T g) : ∃ a c b o, v = .slice a l.length c /\ Headed a l.length c b o /\ liesM false w T l b o := by
 have h' := h
 obtain ⟨⟨xs, h1, h2⟩, h3⟩ := h'
 rcases h1.2 with ⟨rfl, e⟩ | ⟨g, cap, cur, rfl, _⟩
 ·have e0 : l.length = 0 := by simpa using e
  have : l = [] := List.length_eq_zero_iff.1 e0
  subst this
  exact ⟨none, 0, 0, 0, rfl, headed_nil, by rw [liesM]; trivial⟩
 ·have hle := h.le
  simp only [List.length_map] at hle ⊢
  refine ⟨_, cap, g, 0, rfl, ⟨hle.1, hle.2, .inr rfl, fun h => by cases h⟩, liesM_mk fun j hj => ?_⟩
  obtain ⟨cs, k1, k2⟩ := h.at (by simp) j (by simpa using hj)
  rw [List.getElem_map] at k2
  obtain ⟨cs', rfl, hks, k3⟩ := k2
  exact ⟨hv g rfl, hks, cs', k1, V.lies_keep (fun h => h) (fun _ _ => rfl) hT _ k3⟩
def Tw (S : Nat -> Prop) (w w' : World) (b : Nat) : Prop := S b \/ (w.heap.size <= b /\ b < w'.heap.size)
end Go.Proofs.YtdgfjdhobdfglaaGreatDoor
set_option maxRecDepth 100000
namespace Go.Proofs.YtdgfjdhobdfglaaGreatDoor
open Go.RowKit
def EP (x : El) (w : World) (S : Nat -> Prop) (cs : List Value) : Prop := x.lies w S cs
theorem keepP : KeepE EP := fun x w w' S S' cs hw hS h => El.lies_keep hw hS h
abbrev OwnP := OwnR EP 52 9
theorem info35 : (Tryz.prog.info? 52).map (fun i => (i.zero, i.size, i.bytes)) = some (some (.agg #[.int .i64 0, .string ⟨#[]⟩, .slice none 0 0, .int .i64 0, .bool false, .int .i64 0, .string ⟨#[]⟩, .slice none 0 0, .slice none 0 0]), 9, 136) := by kernel_rfl
theorem one9 {k i j : Int} {b : Bool} {s r : ByteArray} {p q o : Option Addr} {n c n' c' n2 c2 : Nat} : ∀ u ∈ [Value.int .i64 k, .string r, .slice o n2 c2, .int .i64 i, .bool b, .int .i64 j, .string s, .slice p n c, .slice q n' c'], u.oneCell' = true := by
 intro u hu
 simp at hu
 rcases hu with rfl | rfl | rfl | rfl | rfl | rfl | rfl | rfl | rfl <;> rfl
structure TpF (w : World) (loc : Array Value) (wr : World) : Prop where
 below : Below w.heap.size w wr
 b2 : wr.heap[w.heap.size]? = some (.cells loc 52 (0, 0))
theorem TpF.lt {w : World} {loc : Array Value} {wr : World} (h : TpF w loc wr) : w.heap.size + 1 <= wr.heap.size := (Array.getElem?_eq_some_iff.1 h.b2).1
theorem TpF.grown {w : World} {loc : Array Value} {wr wr' : World} (h : TpF w loc wr) {row : Option Nat} (g : wr.grownBy wr' row) (hr : ∀ r, row = some r -> w.heap.size + 1 <= r) : TpF w loc wr' := by
 have hs := h.lt
 exact ⟨h.below.grown g (by omega) (fun r e => by have := hr r e; omega), (g.block _ (by omega) (fun e => by have := hr _ e.symm; omega)).trans h.b2⟩
theorem TpF.set {w : World} {loc loc' : Array Value} {wr : World} (h : TpF w loc wr) (i : Nat) (u : Value) (e : loc.setIfInBounds i u = loc') : TpF w loc' (wr.setCell ⟨w.heap.size, i, none⟩ u) := by
 have g := grown_set1 wr w.heap.size i u
 refine ⟨h.below.grown g h.below.size (fun r e => by cases e; omega), ?_⟩
 rw [set_block h.b2, e]
theorem own_listP {w : World} {N : Nat} {S T : Nat -> Prop} {v : Value} {l : List El} (h : OwnP w N S v l) (hT : ∀ b, S b -> T b) (hv : ∀ g, v.ownBlock = some g -> T g) : ∃ a c b o, v = .slice a l.length c /\ Headed a l.length c b o /\ liesP w T l b o := by
 have h' := h
 obtain ⟨⟨xs, h1, h2⟩, h3⟩ := h'
 rcases h1.2 with ⟨rfl, e⟩ | ⟨g, cap, cur, rfl, _⟩
 ·have : l = [] := List.length_eq_zero_iff.1 e
  subst this
  exact ⟨none, 0, 0, 0, rfl, ⟨Nat.le_refl _, by simp [maxLen], .inl rfl, fun _ => rfl⟩, fun j hj => by simp at hj⟩
 ·have hle := h.le
  refine ⟨_, cap, g, 0, rfl, ⟨hle.1, hle.2, .inr rfl, fun h => by cases h⟩, fun j hj => ⟨hv g rfl, ?_⟩⟩
  obtain ⟨cs, k1, k2⟩ := h.at rfl j hj
  exact ⟨cs, k1, El.lies_keep (fun _ _ => rfl) hT k2⟩
end Go.Proofs.YtdgfjdhobdfglaaGreatDoor
set_option maxRecDepth 100000
namespace Go.Proofs.YtdgfjdhobdfglaaGreatDoor
open Go.RowKit Go.Lib
def EQ (p : List El) (w : World) (S : Nat -> Prop) (cs : List Value) : Prop := ∃ v, cs = [v] /\ Pl.lies w S p v
theorem keepQ : KeepE EQ := fun x w w' S S' cs hw hS h => by
 obtain ⟨v, e, h⟩ := h
 exact ⟨v, e, Pl.keep hw hS h⟩
abbrev OwnQ := OwnR EQ 46 1
theorem info33 : (Tryz.prog.info? 46).map (fun i => (i.zero, i.size, i.bytes)) = some (some (.slice none 0 0), 1, 24) := by kernel_rfl
theorem oneQ {p : Option Addr} {n c : Nat} : ∀ u ∈ [Value.slice p n c], u.oneCell' = true := by
 intro u hu
 simp at hu
 rw [hu]; rfl
theorem own_listQ {w : World} {N : Nat} {S T : Nat -> Prop} {v : Value} {l : List (List El)} (h : OwnQ w N S v l) (hT : ∀ b, S b -> T b) (hv : ∀ g, v.ownBlock = some g -> T g) : ∃ a c b o, v = .slice a l.length c /\ Headed a l.length c b o /\ liesQ w T l b o := by
 have h' := h
 obtain ⟨⟨xs, h1, h2⟩, h3⟩ := h'
 rcases h1.2 with ⟨rfl, e⟩ | ⟨g, cap, cur, rfl, _⟩
 ·have : l = [] := List.length_eq_zero_iff.1 e
  subst this
  exact ⟨none, 0, 0, 0, rfl, ⟨Nat.le_refl _, by simp [maxLen], .inl rfl, fun _ => rfl⟩, fun j hj => by simp at hj⟩
 ·have hle := h.le
  refine ⟨_, cap, g, 0, rfl, ⟨hle.1, hle.2, .inr rfl, fun h => by cases h⟩, fun j hj => ⟨hv g rfl, ?_⟩⟩
  obtain ⟨cs, k1, u, rfl, k2⟩ := h.at rfl j hj
  refine ⟨u, ?_, Pl.keep (fun _ _ => rfl) hT k2⟩
  have := k1 0 _ rfl
  simpa using this
end Go.Proofs.YtdgfjdhobdfglaaGreatDoor
