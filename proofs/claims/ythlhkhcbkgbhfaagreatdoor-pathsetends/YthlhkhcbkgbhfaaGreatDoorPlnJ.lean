import Derived.Test.YthlhkhcbkgbhfaaGreatDoorG33
/- Two sets gone over at once: what is told, plainly. -/
set_option linter.unusedSimpArgs false
set_option linter.unusedVariables false
namespace Go.Proofs.YthlhkhcbkgbhfaaGreatDoor
open Go.RowKit Go.Lib
/-- which of two lists has what comes next -/
def fstC {α : Type} (f : α → α → Int) : List α → List α → Int
  | _, [] => -1
  | [], _ :: _ => 1
  | x :: _, y :: _ => f x y
def oneIf {α : Type} (c : Bool) (x : α) : List α := if c = true then [x] else []
/-- two lists gone over at once: those that t takes -/
def wkL {α : Type} (f : α → α → Int) (t : Bool → Bool → Bool) : List α → List α → List α
  | [], [] => []
  | [], y :: b => oneIf (t false true) y ++ wkL f t [] b
  | x :: a, [] => oneIf (t true false) x ++ wkL f t a []
  | x :: a, y :: b =>
    if f x y < 0 then oneIf (t true false) x ++ wkL f t a (y :: b)
    else if 0 < f x y then oneIf (t false true) y ++ wkL f t (x :: a) b
    else oneIf (t true true) y ++ wkL f t a b
termination_by a b => a.length + b.length
theorem wk_lt {α : Type} {f : α → α → Int} {t : Bool → Bool → Bool} {a b : List α} {x : α} (h : fstC f (x :: a) b < 0) : wkL f t (x :: a) b = oneIf (t true false) x ++ wkL f t a b := by
  cases b with
  | nil => rw [wkL]
  | cons y b => rw [fstC] at h; rw [wkL, if_pos h]
theorem wk_gt {α : Type} {f : α → α → Int} {t : Bool → Bool → Bool} {a b : List α} {y : α} (h : 0 < fstC f a (y :: b)) : wkL f t a (y :: b) = oneIf (t false true) y ++ wkL f t a b := by
  cases a with
  | nil => rw [wkL]
  | cons x a => rw [fstC] at h; rw [wkL, if_neg (by omega), if_pos h]
theorem wk_eq {α : Type} {f : α → α → Int} {t : Bool → Bool → Bool} {a b : List α} {x y : α} (h : f x y = 0) : wkL f t (x :: a) (y :: b) = oneIf (t true true) y ++ wkL f t a b := by
  rw [wkL, if_neg (by omega), if_neg (by omega)]
theorem fst_lt {α : Type} {f : α → α → Int} {a b : List α} (h : fstC f a b < 0) (hn : 0 < a.length + b.length) : ∃ x a', a = x :: a' := by
  cases a with
  | cons x a => exact ⟨x, a, rfl⟩
  | nil => cases b with
    | nil => simp at hn
    | cons y b => rw [fstC] at h; omega
theorem fst_gt {α : Type} {f : α → α → Int} {a b : List α} (h : 0 < fstC f a b) : ∃ y b', b = y :: b' := by
  cases b with
  | nil => simp [fstC] at h
  | cons y b => exact ⟨y, b, rfl⟩
theorem fst_eq {α : Type} {f : α → α → Int} {a b : List α} (h : fstC f a b = 0) : ∃ x a' y b', a = x :: a' ∧ b = y :: b' ∧ f x y = 0 := by
  cases b with
  | nil => simp [fstC] at h
  | cons y b => cases a with
    | nil => simp [fstC] at h
    | cons x a => rw [fstC] at h; exact ⟨x, a, y, b, rfl, rfl, h⟩
theorem map_oneIf {α β : Type} (g : α → β) (c : Bool) (x : α) : (oneIf c x).map g = oneIf c (g x) := by cases c <;> rfl
theorem wk_map {α β : Type} (g : α → β) (f : β → β → Int) (t : Bool → Bool → Bool) (a b : List α) : (wkL (fun x y => f (g x) (g y)) t a b).map g = wkL f t (a.map g) (b.map g) := by
  fun_induction wkL (fun x y => f (g x) (g y)) t a b
  case case6 h1 h2 ih => rw [List.map_append, map_oneIf, ih, List.map_cons, List.map_cons, wkL, if_neg h1, if_neg h2]
  case case5 h1 h2 ih => rw [List.map_append, map_oneIf, ih, List.map_cons, List.map_cons, wkL, if_neg h1, if_pos h2]
  all_goals simp_all [wkL, map_oneIf]
theorem mem_oneIf {α : Type} {c : Bool} {x p : α} : p ∈ oneIf c x ↔ c = true ∧ p = x := by cases c <;> simp [oneIf]
theorem len_oneIf {α : Type} (c : Bool) (x : α) : (oneIf c x).length ≤ 1 := by cases c <;> simp [oneIf]
theorem wk_mem {α : Type} (f : α → α → Int) (t : Bool → Bool → Bool) (a b : List α) : ∀ p, p ∈ wkL f t a b → p ∈ a ∨ p ∈ b := by
  fun_induction wkL f t a b <;> simp_all [mem_oneIf] <;> grind
theorem wk_len {α : Type} (f : α → α → Int) (t : Bool → Bool → Bool) (a b : List α) : (wkL f t a b).length ≤ a.length + b.length := by
  fun_induction wkL f t a b
  case case1 => simp
  all_goals
    simp only [List.length_append, List.length_cons, List.length_nil] at *
    grind [len_oneIf]
def Up {α : Type} (f : α → α → Int) (l : List α) : Prop := l.Pairwise (fun a b => f a b < 0)
theorem up_one {α : Type} {f : α → α → Int} {c : Bool} {x : α} {L : List α} (hL : Up f L) (h : ∀ p ∈ L, f x p < 0) : Up f (oneIf c x ++ L) := by
  cases c with
  | false => exact hL
  | true => exact List.pairwise_cons.2 ⟨h, hL⟩
theorem up_cons {α : Type} {f : α → α → Int} {x : α} {a : List α} (h : Up f (x :: a)) : (∀ p ∈ a, f x p < 0) ∧ Up f a := List.pairwise_cons.1 h
def wkM {α : Type} (t : Bool → Bool → Bool) (a b : List α) (p : α) : Prop := (p ∈ a ∧ p ∉ b ∧ t true false = true) ∨ (p ∉ a ∧ p ∈ b ∧ t false true = true) ∨ (p ∈ a ∧ p ∈ b ∧ t true true = true)
theorem wk_spec {α : Type} {f : α → α → Int} (hf : Wko f) (t : Bool → Bool → Bool) (a b : List α) (ha : Up f a) (hb : Up f b) (hs : ∀ x ∈ a, ∀ y ∈ b, f x y = 0 → x = y) : Up f (wkL f t a b) ∧ ∀ p, p ∈ wkL f t a b ↔ wkM t a b p := by
  fun_induction wkL f t a b
  case case1 => exact ⟨by simp [Up], by simp [wkM]⟩
  case case2 y b ih =>
    obtain ⟨h1, h2⟩ := up_cons hb
    obtain ⟨i1, i2⟩ := ih ha h2 (by simp)
    refine ⟨up_one i1 (fun p hp => ?_), fun p => ?_⟩
    · rcases wk_mem f t _ _ p hp with h | h
      · cases h
      · exact h1 p h
    · have hn : y ∉ b := fun h => by have := h1 y h; have := hf.self y; omega
      rw [List.mem_append, mem_oneIf, i2]
      simp only [wkM]
      grind
  case case3 x a ih =>
    obtain ⟨h1, h2⟩ := up_cons ha
    obtain ⟨i1, i2⟩ := ih h2 hb (by simp)
    refine ⟨up_one i1 (fun p hp => ?_), fun p => ?_⟩
    · rcases wk_mem f t _ _ p hp with h | h
      · exact h1 p h
      · cases h
    · have hn : x ∉ a := fun h => by have := h1 x h; have := hf.self x; omega
      rw [List.mem_append, mem_oneIf, i2]
      simp only [wkM]
      grind
  case case4 x a y b hlt ih =>
    obtain ⟨h1, h2⟩ := up_cons ha
    obtain ⟨k1, k2⟩ := up_cons hb
    obtain ⟨i1, i2⟩ := ih h2 hb (fun u hu v hv => hs u (List.mem_cons_of_mem _ hu) v hv)
    have hxb : ∀ p ∈ y :: b, f x p < 0 := fun p hp => by
      rcases List.mem_cons.1 hp with rfl | hp
      · exact hlt
      · exact hf.tri _ _ _ hlt (k1 p hp)
    refine ⟨up_one i1 (fun p hp => ?_), fun p => ?_⟩
    · rcases wk_mem f t _ _ p hp with h | h
      · exact h1 p h
      · exact hxb p h
    · have hn : x ∉ a := fun h => by have := h1 x h; have := hf.self x; omega
      have hm : x ∉ y :: b := fun h => by have := hxb x h; have := hf.self x; omega
      rw [List.mem_append, mem_oneIf, i2]
      simp only [wkM]
      grind
  case case5 x a y b hlt hgt ih =>
    obtain ⟨h1, h2⟩ := up_cons ha
    obtain ⟨k1, k2⟩ := up_cons hb
    obtain ⟨i1, i2⟩ := ih ha k2 (fun u hu v hv => hs u hu v (List.mem_cons_of_mem _ hv))
    have hyx : f y x < 0 := by have := hf.anti y x; omega
    have hya : ∀ p ∈ x :: a, f y p < 0 := fun p hp => by
      rcases List.mem_cons.1 hp with rfl | hp
      · exact hyx
      · exact hf.tri _ _ _ hyx (h1 p hp)
    refine ⟨up_one i1 (fun p hp => ?_), fun p => ?_⟩
    · rcases wk_mem f t _ _ p hp with h | h
      · exact hya p h
      · exact k1 p h
    · have hn : y ∉ b := fun h => by have := k1 y h; have := hf.self y; omega
      have hm : y ∉ x :: a := fun h => by have := hya y h; have := hf.self y; omega
      rw [List.mem_append, mem_oneIf, i2]
      simp only [wkM]
      grind
  case case6 x a y b hlt hgt ih =>
    obtain ⟨h1, h2⟩ := up_cons ha
    obtain ⟨k1, k2⟩ := up_cons hb
    obtain ⟨i1, i2⟩ := ih h2 k2 (fun u hu v hv => hs u (List.mem_cons_of_mem _ hu) v (List.mem_cons_of_mem _ hv))
    have e : x = y := hs x List.mem_cons_self y List.mem_cons_self (by omega)
    subst e
    refine ⟨up_one i1 (fun p hp => ?_), fun p => ?_⟩
    · rcases wk_mem f t _ _ p hp with h | h
      · exact h1 p h
      · exact k1 p h
    · have hn : x ∉ a := fun h => by have := h1 x h; have := hf.self x; omega
      have hm : x ∉ b := fun h => by have := k1 x h; have := hf.self x; omega
      rw [List.mem_append, mem_oneIf, i2]
      simp only [wkM]
      grind
def errJ (a b : List (List El)) : Nat := if errS a = 0 then errS b else errS a
def joL (t : Bool → Bool → Bool) (a b : List (List El)) : List (List El) := if errJ a b = 0 then wkL (lexL oeE) t a b else []
def tM : Bool → Bool → Bool := fun x y => x && y
def tN : Bool → Bool → Bool := fun x y => x && !y
def chL (yes : Bool) (a b : List (List El)) : List (List El) := if errJ a b = 0 then a.filter (fun p => memB b p == yes) else []
theorem errJ_zero {a b : List (List El)} (h : errJ a b = 0) : errS a = 0 ∧ errS b = 0 := by
  rw [errJ] at h
  split at h
  · rename_i h1; exact ⟨h1, h⟩
  · rename_i h1; exact absurd h h1
theorem mem_memB {l : List (List El)} (hl : ∀ q ∈ l, pathB q = true) {p : List El} (hp : pathB p = true) : memB l p = true ↔ p ∈ l := by
  rw [memB, List.any_eq_true]
  constructor
  · rintro ⟨q, hq, e⟩
    rw [decide_eq_true_eq] at e
    rw [← (path_same (hl q hq) hp).1 e]
    exact hq
  · intro h
    exact ⟨p, h, by rw [decide_eq_true_eq]; exact wk_P.self p⟩
theorem wk_two {a b : List (List El)} (t : Bool → Bool → Bool) (h : errJ a b = 0) : Up (lexL oeE) (wkL (lexL oeE) t a b) ∧ ∀ p, p ∈ wkL (lexL oeE) t a b ↔ wkM t a b p := by
  obtain ⟨h1, h2⟩ := errJ_zero h
  have a1 := setC_zero h1
  have b1 := setC_zero h2
  exact wk_spec wk_P t a b a1.2.1 b1.2.1 (fun x hx y hy e => (path_same (a1.1 x hx) (b1.1 y hy)).1 e)
theorem jo_chosen {a b : List (List El)} (h : errJ a b = 0) (yes : Bool) : a.filter (fun p => memB b p == yes) = joL (if yes then tM else tN) a b := by
  obtain ⟨h1, h2⟩ := wk_two (if yes then tM else tN) h
  obtain ⟨e1, e2⟩ := errJ_zero h
  have a1 := setC_zero e1
  have b1 := setC_zero e2
  rw [joL, if_pos h]
  refine rise_uniq wk_P _ _ (a1.2.1.sublist List.filter_sublist) h1 (fun p => ?_)
  rw [h2 p, List.mem_filter, wkM]
  by_cases hp : p ∈ a
  · have := mem_memB b1.1 (a1.1 p hp)
    cases yes <;> cases hm : memB b p <;> simp_all [tM, tN]
  · cases yes <;> simp [hp, tM, tN]
theorem ch_minus (a b : List (List El)) : chL false a b = joL tN a b := by
  by_cases h : errJ a b = 0
  · rw [chL, if_pos h, jo_chosen h false]; rfl
  · rw [chL, joL, if_neg h, if_neg h]
end Go.Proofs.YthlhkhcbkgbhfaaGreatDoor
