/- joined: AbvR OrzP -/
import Derived.Test.YtihcggepeadklaaGreatDoorG16
/- Above: of paths that were looked at, and of any. -/
set_option linter.unusedSimpArgs false
set_option linter.unusedVariables false
namespace Go.Proofs.YtihcggepeadklaaGreatDoor
open Go.RowKit Go.Lib
/-- is the one at or above the other, by the order of paths alone -/
def cabP (a b : List El) : Bool := decide (a.length ≤ b.length) && decide (lexL oeE a (b.take a.length) = 0)
theorem abvP_cab {a b : List El} (ha : pathB a = true) (hb : pathB b = true) : abvP a b = cabP a b := by
  by_cases hlen : a.length ≤ b.length
  · rw [abvP_yes ha hb hlen, cabP, op_rp (pathB_all ha).2 (fun x hx => (pathB_all hb).2 x (List.mem_of_mem_take hx))]
    simp [hlen]
  · rw [abvP_len hlen, cabP]; simp [hlen]
set_option maxHeartbeats 8000000 in
set_option maxRecDepth 100000 in
theorem cabP_any (a b : List El) (S S' : Nat → Prop) (aa : Option Addr) (ca ba oa : Nat) (ab : Option Addr) (cb bb ob : Nat) (w : World) (hha : Headed aa a.length ca ba oa) (hla : liesP w S a ba oa) (hhb : Headed ab b.length cb bb ob) (hlb : liesP w S' b bb ob) (hS : ∀ x, S x → x < w.heap.size) (hS' : ∀ x, S' x → x < w.heap.size) :
    Calls Tryz.prog 26 #[.slice aa a.length ca, .slice ab b.length cb] w (BPost (cabP a b) w) := by
  have HA := hmk hla
  have HB := hmk hlb
  clear hla hlb
  have hna : a.length ≤ 9223372036854775807 := Nat.le_trans hha.le hha.max
  have hnb : b.length ≤ 9223372036854775807 := Nat.le_trans hhb.le hhb.max
  by_cases hlen : a.length ≤ b.length
  case neg =>
    have HF : Hid (cabP a b = false) := by show _ = _; rw [cabP]; simp [hlen]
    have y8 : ¬ (a.length : Int) ≤ b.length := by omega
    generalize cabP a b = RR at *
    go_enter Tryz.func26, Tryz.ntmps26
    go_wp2_with fail
    go_ret
    exact ⟨by rw [HF.out]; rfl, Below.refl _ _⟩
  have y8 : (a.length : Int) ≤ b.length := by omega
  have y9 : (a.length : Int) ≤ cb := by have := hhb.le; omega
  have htl : (b.take a.length).length = a.length := by simp; omega
  have HC : Hid (cabP a b = decide (lexL oeE a (b.take a.length) = 0)) := by show _ = _; rw [cabP]; simp [hlen]
  have hhc : Headed ab (b.take a.length).length cb bb ob := ⟨by rw [htl]; have := hhb.le; omega, hhb.max, by
    rcases hhb.at_ with h | h
    · exact .inl (by rw [htl]; omega)
    · exact .inr h, hhb.nil⟩
  have c := hmk (opaths_any a (b.take a.length) S S' aa ca ba oa ab cb bb ob w hha HA.out hhc (liesP_sub HB.out a.length) hS hS')
  rw [htl] at c
  generalize cabP a b = RR at *
  generalize lexL oeE a (b.take a.length) = ZZ at *
  clear htl hhc
  have HZ : Hid (decide (ZZ = 0) = (ZZ == 0)) := by show _ = _; by_cases h : ZZ = 0 <;> simp [h]
  cases ab with
  | none =>
    have hc0 : cb = 0 := hhb.nil rfl
    have h0 : a.length = 0 := by have := hhb.le; omega
    rw [h0, hc0] at c
    go_enter Tryz.func26, Tryz.ntmps26
    go_wp2_with fail
    refine c.out.mono ?_
    rintro e w3 ⟨rfl, b3⟩
    go_wp2_with fail
    go_ret
    exact ⟨by rw [HC.out, HZ.out]; rfl, b3⟩
  | some ad =>
    go_enter Tryz.func26, Tryz.ntmps26
    go_wp2_with fail
    refine c.out.mono ?_
    rintro e w3 ⟨rfl, b3⟩
    go_wp2_with fail
    go_ret
    exact ⟨by rw [HC.out, HZ.out]; rfl, b3⟩
set_option maxHeartbeats 8000000 in
set_option maxRecDepth 100000 in
theorem abvP_any (a b : List El) (S S' : Nat → Prop) (aa : Option Addr) (ca ba oa : Nat) (ab : Option Addr) (cb bb ob : Nat) (w : World) (tb : Tb w) (hha : Headed aa a.length ca ba oa) (hla : liesP w S a ba oa) (hhb : Headed ab b.length cb bb ob) (hlb : liesP w S' b bb ob) (hS : ∀ x, S x → x < w.heap.size) (hS' : ∀ x, S' x → x < w.heap.size) (hwa : wtP a ≤ 2147483647) (hwb : wtP b ≤ 2147483647) :
    Calls Tryz.prog 14 #[.slice aa a.length ca, .slice ab b.length cb] w (BPost (abvP a b) w) := by
  have HA := hmk hla
  have HB := hmk hlb
  clear hla hlb
  have hna : a.length ≤ 9223372036854775807 := Nat.le_trans hha.le hha.max
  have hnb : b.length ≤ 9223372036854775807 := Nat.le_trans hhb.le hhb.max
  have ca_ := hmk (pcheck_any a S aa ca ba oa w tb hha HA.out hS hwa)
  cases ha : pathB a with
  | false =>
    have ya : (((errP a : Nat) : Int) == 0) = false := by rw [errP_no ha]; rfl
    generalize errP a = Ea at *
    go_enter Tryz.func14, Tryz.ntmps14
    go_wp2_with fail
    refine ca_.out.mono ?_
    rintro e w1 ⟨rfl, b1⟩
    go_wp2_with fail
    go_ret
    exact ⟨by rw [abvP_no (by rw [ha]; simp)]; rfl, b1⟩
  | true =>
  cases hb : pathB b with
  | false =>
    have ya : (((errP a : Nat) : Int) == 0) = true := by rw [errP_yes ha]; rfl
    have yb : (((errP b : Nat) : Int) == 0) = false := by rw [errP_no hb]; rfl
    have cb_ : Hid (∀ W, Below w.heap.size w W → Calls Tryz.prog 10 #[.slice ab b.length cb] W (NPost (errP b) W)) := fun W h => pcheck_any b S' ab cb bb ob W (tb.below h tb.z) hhb (liesP_keep (fun x hx => h.block x (hS' x hx)) (fun _ h => h) HB.out) (fun x hx => Nat.lt_of_lt_of_le (hS' x hx) h.size) hwb
    generalize errP a = Ea at *
    generalize errP b = Eb at *
    go_enter Tryz.func14, Tryz.ntmps14
    go_wp2_with fail
    refine ca_.out.mono ?_
    rintro e w1 ⟨rfl, b1⟩
    go_wp2_with fail
    refine (cb_.out w1 b1).mono ?_
    rintro e w2 ⟨rfl, b2⟩
    have b2' := b1.trans (b2.mono b1.size)
    go_wp2_with fail
    go_ret
    exact ⟨by rw [abvP_no (by rw [hb]; simp)]; rfl, b2'⟩
  | true =>
    have ya : (((errP a : Nat) : Int) == 0) = true := by rw [errP_yes ha]; rfl
    have yb : (((errP b : Nat) : Int) == 0) = true := by rw [errP_yes hb]; rfl
    have cb_ : Hid (∀ W, Below w.heap.size w W → Calls Tryz.prog 10 #[.slice ab b.length cb] W (NPost (errP b) W)) := fun W h => pcheck_any b S' ab cb bb ob W (tb.below h tb.z) hhb (liesP_keep (fun x hx => h.block x (hS' x hx)) (fun _ h => h) HB.out) (fun x hx => Nat.lt_of_lt_of_le (hS' x hx) h.size) hwb
    generalize errP a = Ea at *
    generalize errP b = Eb at *
    go_enter Tryz.func14, Tryz.ntmps14
    go_wp2_with fail
    refine ca_.out.mono ?_
    rintro e w1 ⟨rfl, b1⟩
    go_wp2_with fail
    refine (cb_.out w1 b1).mono ?_
    rintro e w2 ⟨rfl, b2⟩
    have b2' := b1.trans (b2.mono b1.size)
    have HC := hmk (abvP_cab ha hb)
    have c := hmk (cabP_any a b S S' aa ca ba oa ab cb bb ob w2 hha (liesP_keep (fun x hx => b2'.block x (hS x hx)) (fun _ h => h) HA.out) hhb (liesP_keep (fun x hx => b2'.block x (hS' x hx)) (fun _ h => h) HB.out) (fun x hx => Nat.lt_of_lt_of_le (hS x hx) b2'.size) (fun x hx => Nat.lt_of_lt_of_le (hS' x hx) b2'.size))
    clear b1 b2 ca_ cb_
    generalize abvP a b = RR at *
    generalize cabP a b = ZZ at *
    clear ha hb
    go_wp2_with fail
    refine c.out.mono ?_
    rintro e w3 ⟨rfl, b3⟩
    go_wp2_with fail
    go_ret
    exact ⟨by rw [HC.out]; rfl, b2'.trans (b3.mono b2'.size)⟩
end Go.Proofs.YtihcggepeadklaaGreatDoor
/- One order of paths, as PathOrder asks it. -/
namespace Go.Proofs.YtihcggepeadklaaGreatDoor
open Go.RowKit Go.Lib
/-- an answer of a comparison: -1, 0 or 1 -/
def Tri3 (x : Int) : Prop := x = -1 ∨ x = 0 ∨ x = 1
theorem t3_I (a b : Int) : Tri3 (cmpI a b) := by unfold cmpI Tri3; split <;> (try split) <;> simp
theorem t3_B (a b : Bool) : Tri3 (cmpB a b) := by unfold cmpB Tri3; split <;> (try split) <;> simp
theorem t3_S (a b : ByteArray) : Tri3 (cmpS a b) := by
  unfold cmpS
  generalize a.data.toList = l
  generalize b.data.toList = m
  induction l generalizing m with
  | nil => cases m <;> simp [compareBytes, Tri3]
  | cons x t ih =>
    cases m with
    | nil => simp [compareBytes, Tri3]
    | cons y u =>
      unfold compareBytes
      split
      · simp [Tri3]
      · split
        · simp [Tri3]
        · exact ih u
theorem t3_V : ∀ v u : V, Tri3 (osV v u)
  | .mk k b i s l m, .mk k' b' i' s' l' m' => by
    unfold osV osB
    repeat' split
    all_goals first | exact t3_I _ _ | exact t3_S _ _ | exact t3_B _ _ | simp [Tri3]
theorem t3_L {α : Type} {f : α → α → Int} (h : ∀ x y, Tri3 (f x y)) : ∀ a b : List α, Tri3 (lexL f a b)
  | [], b => by rw [lex_nil_l]; exact t3_I _ _
  | x :: a, [] => by rw [lex_nil_r]; exact t3_I _ _
  | x :: a, y :: b => by
    rw [lexL]
    split
    · exact t3_L h a b
    · exact h x y
theorem t3_M (x y : Mem) : Tri3 (omM x y) := by
  unfold omM
  split
  · exact t3_V _ _
  · exact t3_S _ _
theorem t3_E (x y : El) : Tri3 (oeE x y) := by
  unfold oeE
  split
  · split
    · exact t3_S _ _
    · split
      · exact t3_L t3_M _ _
      · exact t3_V _ _
  · exact t3_I _ _
theorem lex_cgr {α : Type} {f g : α → α → Int} : ∀ a b : List α, (∀ x ∈ a, ∀ y ∈ b, f x y = g x y) → lexL f a b = lexL g a b
  | [], b, h => by rw [lex_nil_l, lex_nil_l]
  | x :: a, [], h => by rw [lex_nil_r, lex_nil_r]
  | x :: a, y :: b, h => by
    have e := h x (by simp) y (by simp)
    rw [lexL, lexL, e, lex_cgr a b (fun u hu v hv => h u (by simp [hu]) v (by simp [hv]))]
theorem cmp_oe {p q : List El} (hp : pathB p = true) (hq : pathB q = true) : cmpP p q = lexL oeE p q := by
  rw [cmpP_yes hp hq]
  exact (lex_cgr p q (fun x hx y hy => oe_re ((pathB_all hp).2 x hx) ((pathB_all hq).2 y hy))).symm
theorem pathB_take {p : List El} (h : pathB p = true) (n : Nat) : pathB (p.take n) = true := by
  unfold pathB at *
  simp only [Bool.and_eq_true, decide_eq_true_eq, List.all_eq_true] at *
  exact ⟨by rw [List.length_take]; omega, fun x hx => h.2 x (List.mem_of_mem_take hx)⟩
/-- of two paths -/
structure Or2 (p q : List El) : Prop where
  self : cmpP p p = 0
  anti : cmpP q p = - cmpP p q
  same : cmpP p q = 0 ↔ p = q
  lo : ¬ cmpP p q < -1
  hi : ¬ cmpP p q > 1
  abv : abvP p q = true ↔ p.length ≤ q.length ∧ p = q.take p.length
theorem or2_of {p q : List El} (hp : pathB p = true) (hq : pathB q = true) : Or2 p q := by
  have t := t3_L t3_E p q
  refine ⟨?_, ?_, ?_, ?_, ?_, ?_⟩
  · rw [cmp_oe hp hp]; exact wk_P.self p
  · rw [cmp_oe hp hq, cmp_oe hq hp]; exact wk_P.anti q p
  · rw [cmp_oe hp hq]; exact path_same hp hq
  · rw [cmp_oe hp hq]; rcases t with h | h | h <;> rw [h] <;> decide
  · rw [cmp_oe hp hq]; rcases t with h | h | h <;> rw [h] <;> decide
  · rw [abvP]
    by_cases hl : p.length ≤ q.length
    · rw [if_pos ⟨hp, hq, hl⟩, decide_eq_true_eq]
      have e : lexL reE p (q.take p.length) = lexL oeE p (q.take p.length) := (lex_cgr p _ (fun x hx y hy => oe_re ((pathB_all hp).2 x hx) ((pathB_all hq).2 y (List.mem_of_mem_take hy)))).symm
      rw [e, path_same hp (pathB_take hq _)]
      exact ⟨fun h => ⟨hl, h⟩, fun h => h.2⟩
    · rw [if_neg (fun h => hl h.2.2)]
      exact ⟨fun h => (by cases h), fun h => absurd h.1 hl⟩
theorem lex_pre {α : Type} {f : α → α → Int} (hs : ∀ x, f x x = 0) : ∀ p t : List α, lexL f p (p ++ t) ≤ 0
  | [], t => by rw [lex_nil_l, cmpI]; split <;> (try split) <;> (try omega)
  | x :: p, t => by
    show lexL f (x :: p) (x :: (p ++ t)) ≤ 0
    rw [lexL, if_pos (hs x)]
    exact lex_pre hs p t
theorem abv_le {p q : List El} (hp : pathB p = true) (hq : pathB q = true) (h : abvP p q = true) : ¬ cmpP p q > 0 := by
  have e := ((or2_of hp hq).abv.1 h).2
  rw [cmp_oe hp hq]
  have := lex_pre (f := oeE) wk_E.self p (q.drop p.length)
  have e2 : p ++ q.drop p.length = q := by
    conv => lhs; lhs; rw [e]
    exact List.take_append_drop _ _
  rw [e2] at this
  omega
/-- of three -/
theorem or3_tri {p q r : List El} (hp : pathB p = true) (hq : pathB q = true) (hr : pathB r = true) (h1 : cmpP p q ≤ 0) (h2 : cmpP q r ≤ 0) : ¬ cmpP p r > 0 ∧ (cmpP p r = 0 → cmpP p q = 0 ∧ cmpP q r = 0) := by
  rw [cmp_oe hp hq] at h1 ⊢
  rw [cmp_oe hq hr] at h2 ⊢
  rw [cmp_oe hp hr]
  by_cases e1 : lexL oeE p q = 0
  · have := (path_same hp hq).1 e1
    subst this
    exact ⟨by omega, fun h => ⟨e1, h⟩⟩
  · by_cases e2 : lexL oeE q r = 0
    · have := (path_same hq hr).1 e2
      subst this
      exact ⟨by omega, fun h => ⟨h, e2⟩⟩
    · have := wk_P.tri p q r (by omega) (by omega)
      exact ⟨by omega, fun h => by omega⟩
/-- what lies between two paths that a path is above, it is above too -/
theorem lex_mid {α : Type} {f : α → α → Int} (hw : Wko f) : ∀ p q t : List α, lexL f p q ≤ 0 → lexL f q (p ++ t) ≤ 0 → p.length ≤ q.length ∧ lexL f p (q.take p.length) = 0
  | [], q, t, h1, h2 => ⟨Nat.zero_le _, by simp [lexL, cmpI]⟩
  | x :: p, [], t, h1, h2 => by
    rw [lex_nil_r, List.length_cons, cmpI_s0] at h1
    omega
  | x :: p, y :: q, t, h1, h2 => by
    rw [lexL] at h1
    have h2' : lexL f (y :: q) (x :: (p ++ t)) ≤ 0 := h2
    rw [lexL] at h2'
    have ha := hw.anti x y
    by_cases e : f x y = 0
    · rw [if_pos e] at h1
      rw [if_pos (by omega)] at h2'
      obtain ⟨h3, h4⟩ := lex_mid hw p q t h1 h2'
      refine ⟨by simp; omega, ?_⟩
      show lexL f (x :: p) (y :: (q.take p.length)) = 0
      rw [lexL, if_pos e]; exact h4
    · rw [if_neg e] at h1
      rw [if_neg (by omega)] at h2'
      omega
theorem or3_mid {p q r : List El} (hp : pathB p = true) (hq : pathB q = true) (hr : pathB r = true) (h : abvP p r = true) (h1 : cmpP p q ≤ 0) (h2 : cmpP q r ≤ 0) : abvP p q = true := by
  have e := ((or2_of hp hr).abv.1 h).2
  rw [cmp_oe hp hq] at h1
  rw [cmp_oe hq hr] at h2
  have e2 : p ++ r.drop p.length = r := by
    conv => lhs; lhs; rw [e]
    exact List.take_append_drop _ _
  rw [← e2] at h2
  obtain ⟨h3, h4⟩ := lex_mid wk_E p q _ h1 h2
  exact (or2_of hp hq).abv.2 ⟨h3, (path_same hp (pathB_take hq _)).1 h4⟩
end Go.Proofs.YtihcggepeadklaaGreatDoor
