/- joined: RblS PlnJ RndA ValS -/
import Derived.Test.YthlhkhcbkgbhfaaGreatDoorSamS
import Derived.RangeFuncNested
import Derived.RangeFuncBound
import Derived.RangeFuncCalls
import Derived.RangeFuncLeaves
import Derived.Shelf.RegionOpen
import Derived.Shelf.Abstract
import Derived.OwnWalkIn
import Derived.TacticsInMore
import Derived.LoopNIn
import Derived.LoopIn
/- The document's Below and Ends. -/
set_option linter.unusedSimpArgs false
set_option linter.unusedVariables false
namespace Go.Proofs.YthlhkhcbkgbhfaaGreatDoor
open Go.RowKit Go.Lib
/-- what is answered: a list and an error -/
def BwPost (R : List (List El)) (er : Nat) (S : Nat → Prop) (w : World) (e : Ending) (w' : World) : Prop := ∃ a c b o, e = .returned (.tuple #[.slice a R.length c, .int .i64 (er : Int)]) ∧ Headed a R.length c b o ∧ liesQ w' (Tw S w w') R b o ∧ Below w.heap.size w w'
theorem bw_nil {er : Nat} {S : Nat → Prop} {w w' : World} (hb : Below w.heap.size w w') {e : Ending} (he : e = .returned (.tuple #[.slice none 0 0, .int .i64 (er : Int)])) : BwPost [] er S w e w' :=
  ⟨none, 0, 0, 0, he, ⟨Nat.le_refl _, by simp [maxLen], .inl rfl, fun _ => rfl⟩, fun j hj => by simp at hj, hb⟩
end Go.Proofs.YthlhkhcbkgbhfaaGreatDoor
/- Two sets gone over at once: what is told, plainly. -/
namespace Go.Proofs.YthlhkhcbkgbhfaaGreatDoor
open Go.RowKit Go.Lib
/-- which of two lists has what comes next -/
def fstC {α : Type} (f : α → α → Int) : List α → List α → Int
  | _, [] => -1
  | [], _ :: _ => 1
  | x :: _, y :: _ => f x y
def oneIf {α : Type} (c : Bool) (x : α) : List α := if c = true then [x] else []
/-- two lists gone over at once: those that t takes -/
def wkL {α : Type} (f : α → α → Int) (t : Bool → Bool → Bool) : List α → List α → List α
  | [], [] => []
  | [], y :: b => oneIf (t false true) y ++ wkL f t [] b
  | x :: a, [] => oneIf (t true false) x ++ wkL f t a []
  | x :: a, y :: b =>
    if f x y < 0 then oneIf (t true false) x ++ wkL f t a (y :: b)
    else if 0 < f x y then oneIf (t false true) y ++ wkL f t (x :: a) b
    else oneIf (t true true) y ++ wkL f t a b
termination_by a b => a.length + b.length
theorem wk_lt {α : Type} {f : α → α → Int} {t : Bool → Bool → Bool} {a b : List α} {x : α} (h : fstC f (x :: a) b < 0) : wkL f t (x :: a) b = oneIf (t true false) x ++ wkL f t a b := by
  cases b with
  | nil => rw [wkL]
  | cons y b => rw [fstC] at h; rw [wkL, if_pos h]
theorem wk_gt {α : Type} {f : α → α → Int} {t : Bool → Bool → Bool} {a b : List α} {y : α} (h : 0 < fstC f a (y :: b)) : wkL f t a (y :: b) = oneIf (t false true) y ++ wkL f t a b := by
  cases a with
  | nil => rw [wkL]
  | cons x a => rw [fstC] at h; rw [wkL, if_neg (by omega), if_pos h]
theorem wk_eq {α : Type} {f : α → α → Int} {t : Bool → Bool → Bool} {a b : List α} {x y : α} (h : f x y = 0) : wkL f t (x :: a) (y :: b) = oneIf (t true true) y ++ wkL f t a b := by
  rw [wkL, if_neg (by omega), if_neg (by omega)]
theorem fst_lt {α : Type} {f : α → α → Int} {a b : List α} (h : fstC f a b < 0) (hn : 0 < a.length + b.length) : ∃ x a', a = x :: a' := by
  cases a with
  | cons x a => exact ⟨x, a, rfl⟩
  | nil => cases b with
    | nil => simp at hn
    | cons y b => rw [fstC] at h; omega
theorem fst_gt {α : Type} {f : α → α → Int} {a b : List α} (h : 0 < fstC f a b) : ∃ y b', b = y :: b' := by
  cases b with
  | nil => simp [fstC] at h
  | cons y b => exact ⟨y, b, rfl⟩
theorem fst_eq {α : Type} {f : α → α → Int} {a b : List α} (h : fstC f a b = 0) : ∃ x a' y b', a = x :: a' ∧ b = y :: b' ∧ f x y = 0 := by
  cases b with
  | nil => simp [fstC] at h
  | cons y b => cases a with
    | nil => simp [fstC] at h
    | cons x a => rw [fstC] at h; exact ⟨x, a, y, b, rfl, rfl, h⟩
theorem map_oneIf {α β : Type} (g : α → β) (c : Bool) (x : α) : (oneIf c x).map g = oneIf c (g x) := by cases c <;> rfl
theorem wk_map {α β : Type} (g : α → β) (f : β → β → Int) (t : Bool → Bool → Bool) (a b : List α) : (wkL (fun x y => f (g x) (g y)) t a b).map g = wkL f t (a.map g) (b.map g) := by
  fun_induction wkL (fun x y => f (g x) (g y)) t a b
  case case6 h1 h2 ih => rw [List.map_append, map_oneIf, ih, List.map_cons, List.map_cons, wkL, if_neg h1, if_neg h2]
  case case5 h1 h2 ih => rw [List.map_append, map_oneIf, ih, List.map_cons, List.map_cons, wkL, if_neg h1, if_pos h2]
  all_goals simp_all [wkL, map_oneIf]
theorem mem_oneIf {α : Type} {c : Bool} {x p : α} : p ∈ oneIf c x ↔ c = true ∧ p = x := by cases c <;> simp [oneIf]
theorem len_oneIf {α : Type} (c : Bool) (x : α) : (oneIf c x).length ≤ 1 := by cases c <;> simp [oneIf]
theorem wk_mem {α : Type} (f : α → α → Int) (t : Bool → Bool → Bool) (a b : List α) : ∀ p, p ∈ wkL f t a b → p ∈ a ∨ p ∈ b := by
  fun_induction wkL f t a b <;> simp_all [mem_oneIf] <;> grind
theorem wk_len {α : Type} (f : α → α → Int) (t : Bool → Bool → Bool) (a b : List α) : (wkL f t a b).length ≤ a.length + b.length := by
  fun_induction wkL f t a b
  case case1 => simp
  all_goals
    simp only [List.length_append, List.length_cons, List.length_nil] at *
    grind [len_oneIf]
def Up {α : Type} (f : α → α → Int) (l : List α) : Prop := l.Pairwise (fun a b => f a b < 0)
theorem up_one {α : Type} {f : α → α → Int} {c : Bool} {x : α} {L : List α} (hL : Up f L) (h : ∀ p ∈ L, f x p < 0) : Up f (oneIf c x ++ L) := by
  cases c with
  | false => exact hL
  | true => exact List.pairwise_cons.2 ⟨h, hL⟩
theorem up_cons {α : Type} {f : α → α → Int} {x : α} {a : List α} (h : Up f (x :: a)) : (∀ p ∈ a, f x p < 0) ∧ Up f a := List.pairwise_cons.1 h
def wkM {α : Type} (t : Bool → Bool → Bool) (a b : List α) (p : α) : Prop := (p ∈ a ∧ p ∉ b ∧ t true false = true) ∨ (p ∉ a ∧ p ∈ b ∧ t false true = true) ∨ (p ∈ a ∧ p ∈ b ∧ t true true = true)
theorem wk_spec {α : Type} {f : α → α → Int} (hf : Wko f) (t : Bool → Bool → Bool) (a b : List α) (ha : Up f a) (hb : Up f b) (hs : ∀ x ∈ a, ∀ y ∈ b, f x y = 0 → x = y) : Up f (wkL f t a b) ∧ ∀ p, p ∈ wkL f t a b ↔ wkM t a b p := by
  fun_induction wkL f t a b
  case case1 => exact ⟨by simp [Up], by simp [wkM]⟩
  case case2 y b ih =>
    obtain ⟨h1, h2⟩ := up_cons hb
    obtain ⟨i1, i2⟩ := ih ha h2 (by simp)
    refine ⟨up_one i1 (fun p hp => ?_), fun p => ?_⟩
    · rcases wk_mem f t _ _ p hp with h | h
      · cases h
      · exact h1 p h
    · have hn : y ∉ b := fun h => by have := h1 y h; have := hf.self y; omega
      rw [List.mem_append, mem_oneIf, i2]
      simp only [wkM]
      grind
  case case3 x a ih =>
    obtain ⟨h1, h2⟩ := up_cons ha
    obtain ⟨i1, i2⟩ := ih h2 hb (by simp)
    refine ⟨up_one i1 (fun p hp => ?_), fun p => ?_⟩
    · rcases wk_mem f t _ _ p hp with h | h
      · exact h1 p h
      · cases h
    · have hn : x ∉ a := fun h => by have := h1 x h; have := hf.self x; omega
      rw [List.mem_append, mem_oneIf, i2]
      simp only [wkM]
      grind
  case case4 x a y b hlt ih =>
    obtain ⟨h1, h2⟩ := up_cons ha
    obtain ⟨k1, k2⟩ := up_cons hb
    obtain ⟨i1, i2⟩ := ih h2 hb (fun u hu v hv => hs u (List.mem_cons_of_mem _ hu) v hv)
    have hxb : ∀ p ∈ y :: b, f x p < 0 := fun p hp => by
      rcases List.mem_cons.1 hp with rfl | hp
      · exact hlt
      · exact hf.tri _ _ _ hlt (k1 p hp)
    refine ⟨up_one i1 (fun p hp => ?_), fun p => ?_⟩
    · rcases wk_mem f t _ _ p hp with h | h
      · exact h1 p h
      · exact hxb p h
    · have hn : x ∉ a := fun h => by have := h1 x h; have := hf.self x; omega
      have hm : x ∉ y :: b := fun h => by have := hxb x h; have := hf.self x; omega
      rw [List.mem_append, mem_oneIf, i2]
      simp only [wkM]
      grind
  case case5 x a y b hlt hgt ih =>
    obtain ⟨h1, h2⟩ := up_cons ha
    obtain ⟨k1, k2⟩ := up_cons hb
    obtain ⟨i1, i2⟩ := ih ha k2 (fun u hu v hv => hs u hu v (List.mem_cons_of_mem _ hv))
    have hyx : f y x < 0 := by have := hf.anti y x; omega
    have hya : ∀ p ∈ x :: a, f y p < 0 := fun p hp => by
      rcases List.mem_cons.1 hp with rfl | hp
      · exact hyx
      · exact hf.tri _ _ _ hyx (h1 p hp)
    refine ⟨up_one i1 (fun p hp => ?_), fun p => ?_⟩
    · rcases wk_mem f t _ _ p hp with h | h
      · exact hya p h
      · exact k1 p h
    · have hn : y ∉ b := fun h => by have := k1 y h; have := hf.self y; omega
      have hm : y ∉ x :: a := fun h => by have := hya y h; have := hf.self y; omega
      rw [List.mem_append, mem_oneIf, i2]
      simp only [wkM]
      grind
  case case6 x a y b hlt hgt ih =>
    obtain ⟨h1, h2⟩ := up_cons ha
    obtain ⟨k1, k2⟩ := up_cons hb
    obtain ⟨i1, i2⟩ := ih h2 k2 (fun u hu v hv => hs u (List.mem_cons_of_mem _ hu) v (List.mem_cons_of_mem _ hv))
    have e : x = y := hs x List.mem_cons_self y List.mem_cons_self (by omega)
    subst e
    refine ⟨up_one i1 (fun p hp => ?_), fun p => ?_⟩
    · rcases wk_mem f t _ _ p hp with h | h
      · exact h1 p h
      · exact k1 p h
    · have hn : x ∉ a := fun h => by have := h1 x h; have := hf.self x; omega
      have hm : x ∉ b := fun h => by have := k1 x h; have := hf.self x; omega
      rw [List.mem_append, mem_oneIf, i2]
      simp only [wkM]
      grind
def errJ (a b : List (List El)) : Nat := if errS a = 0 then errS b else errS a
def joL (t : Bool → Bool → Bool) (a b : List (List El)) : List (List El) := if errJ a b = 0 then wkL (lexL oeE) t a b else []
def tU : Bool → Bool → Bool := fun _ _ => true
def tM : Bool → Bool → Bool := fun x y => x && y
def tN : Bool → Bool → Bool := fun x y => x && !y
def chL (yes : Bool) (a b : List (List El)) : List (List El) := if errJ a b = 0 then a.filter (fun p => memB b p == yes) else []
theorem errJ_zero {a b : List (List El)} (h : errJ a b = 0) : errS a = 0 ∧ errS b = 0 := by
  rw [errJ] at h
  split at h
  · rename_i h1; exact ⟨h1, h⟩
  · rename_i h1; exact absurd h h1
theorem mem_memB {l : List (List El)} (hl : ∀ q ∈ l, pathB q = true) {p : List El} (hp : pathB p = true) : memB l p = true ↔ p ∈ l := by
  rw [memB, List.any_eq_true]
  constructor
  · rintro ⟨q, hq, e⟩
    rw [decide_eq_true_eq] at e
    rw [← (path_same (hl q hq) hp).1 e]
    exact hq
  · intro h
    exact ⟨p, h, by rw [decide_eq_true_eq]; exact wk_P.self p⟩
theorem wk_two {a b : List (List El)} (t : Bool → Bool → Bool) (h : errJ a b = 0) : Up (lexL oeE) (wkL (lexL oeE) t a b) ∧ ∀ p, p ∈ wkL (lexL oeE) t a b ↔ wkM t a b p := by
  obtain ⟨h1, h2⟩ := errJ_zero h
  have a1 := setC_zero h1
  have b1 := setC_zero h2
  exact wk_spec wk_P t a b a1.2.1 b1.2.1 (fun x hx y hy e => (path_same (a1.1 x hx) (b1.1 y hy)).1 e)
theorem jo_chosen {a b : List (List El)} (h : errJ a b = 0) (yes : Bool) : a.filter (fun p => memB b p == yes) = joL (if yes then tM else tN) a b := by
  obtain ⟨h1, h2⟩ := wk_two (if yes then tM else tN) h
  obtain ⟨e1, e2⟩ := errJ_zero h
  have a1 := setC_zero e1
  have b1 := setC_zero e2
  rw [joL, if_pos h]
  refine rise_uniq wk_P _ _ (a1.2.1.sublist List.filter_sublist) h1 (fun p => ?_)
  rw [h2 p, List.mem_filter, wkM]
  by_cases hp : p ∈ a
  · have := mem_memB b1.1 (a1.1 p hp)
    cases yes <;> cases hm : memB b p <;> simp_all [tM, tN]
  · cases yes <;> simp [hp, tM, tN]
theorem ch_minus (a b : List (List El)) : chL false a b = joL tN a b := by
  by_cases h : errJ a b = 0
  · rw [chL, if_pos h, jo_chosen h false]; rfl
  · rw [chL, joL, if_neg h, if_neg h]
end Go.Proofs.YthlhkhcbkgbhfaaGreatDoor
/- A region that draws, in a round of a range over a function: walked as a plain one. -/
namespace Go.Proofs.YthlhkhcbkgbhfaaGreatDoor
open Go Go.RowKit
theorem upon_round {P : Program} {o : Oper} {a : Act} {K : Act → World → Prop} {Q : Exit → Act → World → Prop} {l n : Nat} : ∀ {r : Result Next}, o.upon P a K Q r → o.uponIn (Fence.wide.inRound l) n P a K Q r
  | .ok (.value v) w', h => h
  | .ok .skip w', h => h
  | .ok (.defer d) w', h => h
  | .ok (.enter f args) w', h => ⟨fun q => (by cases q), CallsIn.inRound l (callsIn_wide.2 h)⟩
  | .ok (.row row args) w', h => ⟨fun q => (by cases q), fun c cs _ => by
      obtain ⟨v, w'', r, s⟩ := h c cs
      exact ⟨v, w'', r, stepsIn_wide.2 s⟩⟩
  | .halt (.panic v) w', h => h
theorem oper_round {P : Program} {o : Oper} {a : Act} {w : World} {K : Act → World → Prop} {Q : Exit → Act → World → Prop} {l n : Nat} (hd : ∀ c, o.op ≠ .defer c) (h : o.wp P a w K Q) : o.wpIn (Fence.wide.inRound l) n P a w K Q := by
  refine ⟨fun _ _ => trivial, ?_⟩
  rw [Oper.semAt_eq _ _ _ hd]
  exact upon_round h
theorem any_round {P : Program} {md : Region.Mode} {ops : Array Oper} {Q : Exit → Act → World → Prop} {l n : Nat} (hd : ∀ (i : Nat) o, ops[i]? = some o → ∀ c, o.op ≠ .defer c) (hq : ¬ LetsOut Q) :
    ∀ (fuel : Nat) (listed : Array Bool) (a : Act) (w : World), wpAny P md ops Q fuel listed a w → wpAnyIn (Fence.wide.inRound l) n P md ops Q fuel listed a w
  | 0, listed, a, w, h => h
  | fuel + 1, listed, a, w, h => by
    refine ⟨h.1, fun i hi => ?_⟩
    have h2 := h.2 i hi
    unfold wpOp at h2
    unfold wpOpIn
    cases ho : ops[i]? with
    | none =>
      rw [ho] at h2
      exact any_round hd hq fuel _ _ _ h2
    | some o =>
      rw [ho] at h2
      simp only at h2 ⊢
      by_cases hw : Region.wanted o (yielded ops a.tmps) = true
      · rw [if_pos hw] at h2 ⊢
        rcases h2 with h2 | h2
        · exact Oper.wpIn_mono (fun a w h => any_round hd hq fuel _ a w h) (oper_round (hd i o ho) h2)
        · exact absurd h2.2 hq
      · rw [if_neg hw] at h2 ⊢
        exact ⟨fun _ _ => trivial, any_round hd hq fuel _ _ _ h2⟩
/-- none of the operations is a defer statement -/
def noDefer (ops : List Oper) : Bool := ops.all fun o => match o.op with | .defer _ => false | _ => true
theorem noDefer_of {ops : List Oper} (h : noDefer ops = true) : ∀ (i : Nat) o, ops.toArray[i]? = some o → ∀ c, o.op ≠ .defer c := by
  intro i o ho c hc
  have hm : o ∈ ops := by
    rw [List.getElem?_toArray] at ho
    exact List.mem_of_getElem? ho
  have := List.all_eq_true.1 h o hm
  simp only [hc] at this
  cases this
theorem round_held_drew {P : Program} {ops : List Oper} {Q : Exit → Act → World → Prop} {S : World → Prop} {id l n : Nat} {a : Act} {w : World} (hm : P.follows .mixedOrders = true) (hd : noDefer ops = true) (hq : ¬ LetsOut Q) (hS : S w.drew)
    (h : S w.drew → wpAnyH P .any ops.toArray Q S ops.toArray.size (Array.replicate ops.toArray.size false) a w.drew) : (Code.region id ops.toArray true).wpIn (Fence.wide.inRound l) n P Q a w :=
  wpIn_region_any hm (any_round (noDefer_of hd) hq _ _ _ _ (wpAny_of_held _ _ _ _ (h hS)))
end Go.Proofs.YthlhkhcbkgbhfaaGreatDoor
/- slices.Values over paths: the paths, one by one. -/
namespace Go.Proofs.YthlhkhcbkgbhfaaGreatDoor
open Go Go.RowKit Go.Lib Go.Shelf
/-- all below n0 but vx is as it was -/
structure Kx (n0 vx : Nat) (w w' : World) : Prop where
  os : w'.os = w.os
  tape : w'.tape = w.tape
  output : w'.output = w.output
  size : w.heap.size ≤ w'.heap.size
  block : ∀ k, k < n0 → k ≠ vx → w'.heap[k]? = w.heap[k]?
theorem kx_of {n0 vx : Nat} {w w' : World} (h : Below n0 w w') : Kx n0 vx w w' := ⟨h.os, h.tape, h.output, h.size, fun k hk _ => h.block k hk⟩
theorem Kx.trans {n0 vx : Nat} {a b c : World} (h : Kx n0 vx a b) (k : Kx n0 vx b c) : Kx n0 vx a c := ⟨k.os.trans h.os, k.tape.trans h.tape, k.output.trans h.output, Nat.le_trans h.size k.size, fun q hq hv => (k.block q hq hv).trans (h.block q hq hv)⟩
theorem Kx.refl (n0 vx : Nat) (w : World) : Kx n0 vx w w := ⟨rfl, rfl, rfl, Nat.le_refl _, fun _ _ _ => rfl⟩
theorem Kx.cell {n0 vx : Nat} {w w' : World} (h : Kx n0 vx w w') {p : Addr} (hp : p.block < n0) (hv : p.block ≠ vx) : w'.cell? p = w.cell? p := World.cell?_of_block (h.block _ hp hv)
end Go.Proofs.YthlhkhcbkgbhfaaGreatDoor
