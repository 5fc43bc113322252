import Derived.Test.YthlhkhcbkgbhfaaGreatDoorSmhL
import Derived.Test.YthlhkhcbkgbhfaaGreatDoorPlnJ
import Derived.Test.YthlhkhcbkgbhfaaGreatDoorBelS
/- samePath of paths that may be; what is below stands side by side; each path is at or above an end. -/
set_option linter.unusedSimpArgs false
set_option linter.unusedVariables false
namespace Go.Proofs.YthlhkhcbkgbhfaaGreatDoor
open Go.RowKit Go.Lib
theorem sV_os {v u : V} (h : sV v u = true) : osV v u = 0 := by
  obtain ⟨k, b, i, s, l, m⟩ := v
  obtain ⟨k2, b2, i2, s2, l2, m2⟩ := u
  rw [sV, sv6] at h
  obtain ⟨rfl, rfl, rfl, rfl, _, _⟩ := of_decide_eq_true h
  rw [osV_then]
  show (if cmpI k k = 0 then (if cmpB b b = 0 then (if cmpI i i = 0 then cmpS s s else cmpI i i) else cmpB b b) else cmpI k k) = 0
  rw [if_pos ((cmpI_nul _ _).2 rfl), if_pos ((cmpB_nul _ _).2 rfl), if_pos ((cmpI_nul _ _).2 rfl)]
  exact wk_S.self s
theorem sV_refl (v : V) : sV v v = true := by
  obtain ⟨k, b, i, s, l, m⟩ := v
  rw [sV, sv6]
  exact decide_eq_true ⟨rfl, rfl, rfl, rfl, rfl, rfl⟩
theorem lex_zero {α : Type} {f : α → α → Int} : ∀ (a b : List α), a.length = b.length → (∀ i, (h : i < a.length) → (h' : i < b.length) → f a[i] b[i] = 0) → lexL f a b = 0
  | [], [], _, _ => rfl
  | [], y :: b, h, _ => by simp at h
  | x :: a, [], h, _ => by simp at h
  | x :: a, y :: b, h, hf => by
    have h0 := hf 0 (by simp) (by simp)
    simp only [List.getElem_cons_zero] at h0
    rw [lexL, if_pos h0]
    refine lex_zero a b (by simpa using h) fun i hi hi' => ?_
    have := hf (i + 1) (by simp; omega) (by simp; omega)
    simpa using this
theorem sM_om {a b : Mem} (h : sM a b = true) : omM a b = 0 := by
  rw [sM] at h
  obtain ⟨h1, h2⟩ := of_decide_eq_true h
  rw [omM_then]
  show (if cmpS a.1 b.1 = 0 then osV a.2 b.2 else cmpS a.1 b.1) = 0
  rw [h1, if_pos (wk_S.self _)]
  exact sV_os h2
theorem sPr_lex {p q : List El} (h : sPr p q) : lexL oeE p q = 0 := by
  refine lex_zero p q h.1 fun j hj hj' => ?_
  obtain ⟨h1, h2⟩ := h.2 j hj hj'
  rw [sE] at h1
  obtain ⟨e1, e2, e3, e4⟩ := of_decide_eq_true h1
  have hk : lexL omM p[j].key q[j].key = 0 := lex_zero _ _ e3 fun i hi hi' => sM_om (h2 i hi hi')
  rw [oeE_then]
  show (if cmpI p[j].kind q[j].kind = 0 then gE p[j].kind p[j] q[j] else cmpI p[j].kind q[j].kind) = 0
  rw [e1, if_pos ((cmpI_nul _ _).2 rfl), gE]
  split
  · rw [e2]; exact wk_S.self _
  · split
    · exact hk
    · exact sV_os e4
theorem sPr_refl (p : List El) : sPr p p := ⟨rfl, fun j h h' => ⟨by rw [sE]; exact decide_eq_true ⟨rfl, rfl, rfl, sV_refl _⟩, fun i hi hi' => by rw [sM]; exact decide_eq_true ⟨rfl, sV_refl _⟩⟩⟩
/-- of paths that may be: samePath tells whether they are the same -/
theorem sP_lex {p q : List El} (hp : pathB p = true) (hq : pathB q = true) : sP p q = decide (lexL oeE p q = 0) := by
  by_cases h : lexL oeE p q = 0
  · rw [decide_eq_true h]
    have e := (path_same hp hq).1 h
    rw [e]
    exact sP_yes (sPr_refl q)
  · rw [decide_eq_false h]
    exact sP_no fun hh => h (sPr_lex hh)
theorem spathE_any (p q : List El) (S S' : Nat → Prop) (ap : Option Addr) (cp bp op : Nat) (ap' : Option Addr) (cp' bp' op' : Nat) (w : World) (hap : Headed ap p.length cp bp op) (hp : liesP w S p bp op) (hap' : Headed ap' q.length cp' bp' op') (hp' : liesP w S' q bp' op') (hS : ∀ x, S x → x < w.heap.size) (hS' : ∀ x, S' x → x < w.heap.size) (h1 : pathB p = true) (h2 : pathB q = true) :
    Calls Tryz.prog 25 #[.slice ap p.length cp, .slice ap' q.length cp'] w (BPost (decide (lexL oeE p q = 0)) w) := by
  have := spathG_any p q S S' ap cp bp op ap' cp' bp' op' w hap hp hap' hp' hS hS'
  rwa [sP_lex h1 h2] at this
/-- in a rising list the place tells the path -/
theorem rise_at {l : List (List El)} (hr : l.Pairwise (fun a b => lexL oeE a b < 0)) {i j : Nat} (hi : i < l.length) (hj : j < l.length) : lexL oeE l[i] l[j] < 0 ↔ i < j := by
  constructor
  · intro h
    rcases Nat.lt_trichotomy i j with h1 | h1 | h1
    · exact h1
    · subst h1; have := wk_P.self l[i]; omega
    · have := List.pairwise_iff_getElem.1 hr j i hj hi h1
      have := wk_P.anti l[i] l[j]
      omega
  · exact fun h => List.pairwise_iff_getElem.1 hr i j hi hj h
theorem filter_run {α : Type} {f : α → Bool} {l : List α} {F i : Nat} (hF : F ≤ i) (hi : i < l.length) (h1 : ∀ k, (hk : k < l.length) → k < F → f l[k] = false) (h2 : ∀ k, (hk : k < l.length) → F ≤ k → k ≤ i → f l[k] = true) : ∃ h : i - F < (l.filter f).length, (l.filter f)[i - F] = l[i] := by
  have e1 : l.filter f = ((l.drop F).take (i - F + 1)) ++ ((l.drop F).drop (i - F + 1)).filter f := by
    have e0 : l = l.take F ++ ((l.drop F).take (i - F + 1) ++ (l.drop F).drop (i - F + 1)) := by rw [List.take_append_drop, List.take_append_drop]
    have n1 : (l.take F).filter f = [] := by
      rw [List.filter_eq_nil_iff]
      intro a ha
      obtain ⟨k, hk, rfl⟩ := List.getElem_of_mem ha
      rw [List.length_take] at hk
      rw [List.getElem_take, h1 k (by omega) (by omega)]
      simp
    have n2 : ((l.drop F).take (i - F + 1)).filter f = (l.drop F).take (i - F + 1) := by
      rw [List.filter_eq_self]
      intro a ha
      obtain ⟨k, hk, rfl⟩ := List.getElem_of_mem ha
      rw [List.length_take, List.length_drop] at hk
      rw [List.getElem_take, List.getElem_drop]
      exact h2 (F + k) (by omega) (by omega) (by omega)
    conv => lhs; rw [e0]
    rw [List.filter_append, List.filter_append, n1, n2, List.nil_append]
  have hl : ((l.drop F).take (i - F + 1)).length = i - F + 1 := by rw [List.length_take, List.length_drop]; omega
  have hlt : i - F < (l.filter f).length := by rw [e1, List.length_append, hl]; omega
  refine ⟨hlt, ?_⟩
  have : (l.filter f)[i - F]? = some l[i] := by
    rw [e1, List.getElem?_append_left (by rw [hl]; omega), List.getElem?_take_of_lt (by omega), List.getElem?_drop, show F + (i - F) = i by omega, List.getElem?_eq_getElem hi]
  rw [List.getElem?_eq_getElem hlt] at this
  exact Option.some.inj this
/-- what lies below a path stands side by side -/
theorem below_at {l : List (List El)} (hr : l.Pairwise (fun a b => lexL oeE a b < 0)) {p : List El} {F i : Nat} (hF : F ≤ i) (hi : i < l.length) (h1 : ∀ k, (hk : k < l.length) → k < F → isB p l[k] = false) (h2 : isB p (l[F]'(by omega)) = true) (h3 : isB p l[i] = true) : ∃ h : i - F < (l.filter (isB p)).length, (l.filter (isB p))[i - F] = l[i] := by
  refine filter_run hF hi h1 fun k hk hFk hki => ?_
  rcases Nat.eq_or_lt_of_le hFk with rfl | a1
  · exact h2
  rcases Nat.eq_or_lt_of_le hki with rfl | a2
  · exact h3
  have b2 := (isB_iff.1 h2).2
  have b3 := (isB_iff.1 h3).1
  have c1 := (rise_at hr (by omega) hk).2 a1
  have c2 := (rise_at hr hk hi).2 a2
  have d := wk_P.tri _ _ _ b2 c1
  exact isB_iff.2 ⟨cab_between b3 d c2, d⟩
theorem cab_refl (p : List El) : cabP p p = true := by
  induction p with
  | nil => exact cab_nil
  | cons a t ih => rw [cab_cons, ih, decide_eq_true (wk_E.self a)]; rfl
theorem cab_trans : ∀ {p q r : List El}, cabP p q = true → cabP q r = true → cabP p r = true
  | [], q, r, _, _ => cab_nil
  | a :: p, [], r, h, _ => by rw [cab_nil_r] at h; cases h
  | a :: p, b :: q, [], _, h => by rw [cab_nil_r] at h; cases h
  | a :: p, b :: q, c :: r, h, h' => by
    rw [cab_cons, Bool.and_eq_true, decide_eq_true_eq] at h h' ⊢
    exact ⟨by rw [wk_E.cong _ _ _ h.1]; exact h'.1, cab_trans h.2 h'.2⟩
/-- each path is at or above an end -/
theorem to_end {l : List (List El)} (hp : ∀ x ∈ l, x.length ≤ 32) : ∀ (n : Nat) (x : List El), x ∈ l → 32 - x.length ≤ n → ∃ e ∈ l.filter (endB l), cabP x e = true
  | 0, x, hx, hn => by
    refine ⟨x, List.mem_filter.2 ⟨hx, ?_⟩, cab_refl x⟩
    rw [endB, Bool.not_eq_true']
    rw [List.any_eq_false]
    intro y hy hb
    have h1 := hp y hy
    simp only [isB, Bool.and_eq_true, decide_eq_true_eq] at hb
    omega
  | n + 1, x, hx, hn => by
    cases he : endB l x with
    | true => exact ⟨x, List.mem_filter.2 ⟨hx, he⟩, cab_refl x⟩
    | false =>
      rw [endB, Bool.not_eq_false', List.any_eq_true] at he
      obtain ⟨y, hy, hb⟩ := he
      simp only [isB, Bool.and_eq_true, decide_eq_true_eq] at hb
      obtain ⟨e, h1, h2⟩ := to_end hp n y hy (by omega)
      exact ⟨e, h1, cab_trans hb.2 h2⟩
/-- another one at or below it: it is no end -/
theorem over_end {l : List (List El)} (hr : l.Pairwise (fun a b => lexL oeE a b < 0)) {i : Nat} (hi : i < l.length) : endB l l[i] = !decide (∃ k, ∃ h : k < l.length, k ≠ i ∧ cabP l[i] l[k] = true) := by
  by_cases h : ∃ k, ∃ h : k < l.length, k ≠ i ∧ cabP l[i] l[k] = true
  · rw [decide_eq_true h]
    obtain ⟨k, hk, hne, hc⟩ := h
    have h1 := cab_le hc
    have h2 : lexL oeE l[i] l[k] ≠ 0 := fun e => by
      rcases Nat.lt_trichotomy i k with a | a | a
      · have := (rise_at hr hi hk).2 a; omega
      · omega
      · have := (rise_at hr hk hi).2 a; have := wk_P.anti l[i] l[k]; omega
    rw [endB, List.any_eq_true.2 ⟨l[k], List.getElem_mem hk, isB_iff.2 ⟨hc, by omega⟩⟩]
  · rw [decide_eq_false h, endB]
    rw [List.any_eq_false.2]
    intro y hy hb
    obtain ⟨k, hk, rfl⟩ := List.getElem_of_mem hy
    have hb := isB_iff.1 hb
    exact h ⟨k, hk, fun e => by subst e; have := wk_P.self l[k]; omega, hb.1⟩
theorem mem_filter_memB {l : List (List El)} (hp : ∀ q ∈ l, pathB q = true) (f : List El → Bool) {i : Nat} (hi : i < l.length) : memB (l.filter f) l[i] = f l[i] := by
  have := mem_memB (l := l.filter f) (fun q hq => hp q (List.mem_filter.1 hq).1) (hp _ (List.getElem_mem hi))
  cases hf : f l[i] with
  | true => exact this.2 (List.mem_filter.2 ⟨List.getElem_mem hi, hf⟩)
  | false =>
    rw [Bool.eq_false_iff]
    intro h
    rw [(List.mem_filter.1 (this.1 h)).2] at hf
    cases hf
/-- a set of some paths weighs no more than they -/
theorem set_wt : ∀ (R l : List (List El)), R.Pairwise (fun a b => lexL oeE a b < 0) → (∀ p ∈ R, p ∈ l) → R.length + wtQ R ≤ l.length + wtQ l
  | [], l, _, _ => by simp [wtQ]
  | x :: t, l, hr, hs => by
    obtain ⟨l1, l2, rfl⟩ := List.append_of_mem (hs x List.mem_cons_self)
    rw [List.pairwise_cons] at hr
    have ih := set_wt t (l1 ++ l2) hr.2 fun p hp => by
      have h1 := hs p (List.mem_cons_of_mem _ hp)
      have hne : p ≠ x := fun e => by have := hr.1 p hp; rw [e, wk_P.self] at this; omega
      rw [List.mem_append, List.mem_cons] at h1
      rw [List.mem_append]
      exact h1.elim .inl (fun h => h.elim (fun e => absurd e hne) .inr)
    simp only [List.length_append, List.length_cons, wtQ_app, wtQ] at ih ⊢
    omega
end Go.Proofs.YthlhkhcbkgbhfaaGreatDoor
