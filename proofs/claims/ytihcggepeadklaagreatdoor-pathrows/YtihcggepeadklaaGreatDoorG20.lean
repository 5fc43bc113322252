/- joined: AbvR OrzP SmzA NamP -/
import Derived.Test.YtihcggepeadklaaGreatDoorG19
import Derived.Laws.RangeAny
/- Above: of paths that were looked at, and of any. -/
set_option linter.unusedSimpArgs false
set_option linter.unusedVariables false
namespace Go.Proofs.YtihcggepeadklaaGreatDoor
open Go.RowKit Go.Lib
/-- is the one at or above the other, by the order of paths alone -/
def cabP (a b : List El) : Bool := decide (a.length ≤ b.length) && decide (lexL oeE a (b.take a.length) = 0)
theorem abvP_cab {a b : List El} (ha : pathB a = true) (hb : pathB b = true) : abvP a b = cabP a b := by
  by_cases hlen : a.length ≤ b.length
  · rw [abvP_yes ha hb hlen, cabP, op_rp (pathB_all ha).2 (fun x hx => (pathB_all hb).2 x (List.mem_of_mem_take hx))]
    simp [hlen]
  · rw [abvP_len hlen, cabP]; simp [hlen]
set_option maxHeartbeats 8000000 in
set_option maxRecDepth 100000 in
theorem cabP_any (a b : List El) (S S' : Nat → Prop) (aa : Option Addr) (ca ba oa : Nat) (ab : Option Addr) (cb bb ob : Nat) (w : World) (hha : Headed aa a.length ca ba oa) (hla : liesP w S a ba oa) (hhb : Headed ab b.length cb bb ob) (hlb : liesP w S' b bb ob) (hS : ∀ x, S x → x < w.heap.size) (hS' : ∀ x, S' x → x < w.heap.size) :
    Calls Tryz.prog 26 #[.slice aa a.length ca, .slice ab b.length cb] w (BPost (cabP a b) w) := by
  have HA := hmk hla
  have HB := hmk hlb
  clear hla hlb
  have hna : a.length ≤ 9223372036854775807 := Nat.le_trans hha.le hha.max
  have hnb : b.length ≤ 9223372036854775807 := Nat.le_trans hhb.le hhb.max
  by_cases hlen : a.length ≤ b.length
  case neg =>
    have HF : Hid (cabP a b = false) := by show _ = _; rw [cabP]; simp [hlen]
    have y8 : ¬ (a.length : Int) ≤ b.length := by omega
    generalize cabP a b = RR at *
    go_enter Tryz.func26, Tryz.ntmps26
    go_wp2_with fail
    go_ret
    exact ⟨by rw [HF.out]; rfl, Below.refl _ _⟩
  have y8 : (a.length : Int) ≤ b.length := by omega
  have y9 : (a.length : Int) ≤ cb := by have := hhb.le; omega
  have htl : (b.take a.length).length = a.length := by simp; omega
  have HC : Hid (cabP a b = decide (lexL oeE a (b.take a.length) = 0)) := by show _ = _; rw [cabP]; simp [hlen]
  have hhc : Headed ab (b.take a.length).length cb bb ob := ⟨by rw [htl]; have := hhb.le; omega, hhb.max, by
    rcases hhb.at_ with h | h
    · exact .inl (by rw [htl]; omega)
    · exact .inr h, hhb.nil⟩
  have c := hmk (opaths_any a (b.take a.length) S S' aa ca ba oa ab cb bb ob w hha HA.out hhc (liesP_sub HB.out a.length) hS hS')
  rw [htl] at c
  generalize cabP a b = RR at *
  generalize lexL oeE a (b.take a.length) = ZZ at *
  clear htl hhc
  have HZ : Hid (decide (ZZ = 0) = (ZZ == 0)) := by show _ = _; by_cases h : ZZ = 0 <;> simp [h]
  cases ab with
  | none =>
    have hc0 : cb = 0 := hhb.nil rfl
    have h0 : a.length = 0 := by have := hhb.le; omega
    rw [h0, hc0] at c
    go_enter Tryz.func26, Tryz.ntmps26
    go_wp2_with fail
    refine c.out.mono ?_
    rintro e w3 ⟨rfl, b3⟩
    go_wp2_with fail
    go_ret
    exact ⟨by rw [HC.out, HZ.out]; rfl, b3⟩
  | some ad =>
    go_enter Tryz.func26, Tryz.ntmps26
    go_wp2_with fail
    refine c.out.mono ?_
    rintro e w3 ⟨rfl, b3⟩
    go_wp2_with fail
    go_ret
    exact ⟨by rw [HC.out, HZ.out]; rfl, b3⟩
set_option maxHeartbeats 8000000 in
set_option maxRecDepth 100000 in
theorem abvP_any (a b : List El) (S S' : Nat → Prop) (aa : Option Addr) (ca ba oa : Nat) (ab : Option Addr) (cb bb ob : Nat) (w : World) (tb : Tb w) (hha : Headed aa a.length ca ba oa) (hla : liesP w S a ba oa) (hhb : Headed ab b.length cb bb ob) (hlb : liesP w S' b bb ob) (hS : ∀ x, S x → x < w.heap.size) (hS' : ∀ x, S' x → x < w.heap.size) (hwa : wtP a ≤ 2147483647) (hwb : wtP b ≤ 2147483647) :
    Calls Tryz.prog 14 #[.slice aa a.length ca, .slice ab b.length cb] w (BPost (abvP a b) w) := by
  have HA := hmk hla
  have HB := hmk hlb
  clear hla hlb
  have hna : a.length ≤ 9223372036854775807 := Nat.le_trans hha.le hha.max
  have hnb : b.length ≤ 9223372036854775807 := Nat.le_trans hhb.le hhb.max
  have ca_ := hmk (pcheck_any a S aa ca ba oa w tb hha HA.out hS hwa)
  cases ha : pathB a with
  | false =>
    have ya : (((errP a : Nat) : Int) == 0) = false := by rw [errP_no ha]; rfl
    generalize errP a = Ea at *
    go_enter Tryz.func14, Tryz.ntmps14
    go_wp2_with fail
    refine ca_.out.mono ?_
    rintro e w1 ⟨rfl, b1⟩
    go_wp2_with fail
    go_ret
    exact ⟨by rw [abvP_no (by rw [ha]; simp)]; rfl, b1⟩
  | true =>
  cases hb : pathB b with
  | false =>
    have ya : (((errP a : Nat) : Int) == 0) = true := by rw [errP_yes ha]; rfl
    have yb : (((errP b : Nat) : Int) == 0) = false := by rw [errP_no hb]; rfl
    have cb_ : Hid (∀ W, Below w.heap.size w W → Calls Tryz.prog 10 #[.slice ab b.length cb] W (NPost (errP b) W)) := fun W h => pcheck_any b S' ab cb bb ob W (tb.below h tb.z) hhb (liesP_keep (fun x hx => h.block x (hS' x hx)) (fun _ h => h) HB.out) (fun x hx => Nat.lt_of_lt_of_le (hS' x hx) h.size) hwb
    generalize errP a = Ea at *
    generalize errP b = Eb at *
    go_enter Tryz.func14, Tryz.ntmps14
    go_wp2_with fail
    refine ca_.out.mono ?_
    rintro e w1 ⟨rfl, b1⟩
    go_wp2_with fail
    refine (cb_.out w1 b1).mono ?_
    rintro e w2 ⟨rfl, b2⟩
    have b2' := b1.trans (b2.mono b1.size)
    go_wp2_with fail
    go_ret
    exact ⟨by rw [abvP_no (by rw [hb]; simp)]; rfl, b2'⟩
  | true =>
    have ya : (((errP a : Nat) : Int) == 0) = true := by rw [errP_yes ha]; rfl
    have yb : (((errP b : Nat) : Int) == 0) = true := by rw [errP_yes hb]; rfl
    have cb_ : Hid (∀ W, Below w.heap.size w W → Calls Tryz.prog 10 #[.slice ab b.length cb] W (NPost (errP b) W)) := fun W h => pcheck_any b S' ab cb bb ob W (tb.below h tb.z) hhb (liesP_keep (fun x hx => h.block x (hS' x hx)) (fun _ h => h) HB.out) (fun x hx => Nat.lt_of_lt_of_le (hS' x hx) h.size) hwb
    generalize errP a = Ea at *
    generalize errP b = Eb at *
    go_enter Tryz.func14, Tryz.ntmps14
    go_wp2_with fail
    refine ca_.out.mono ?_
    rintro e w1 ⟨rfl, b1⟩
    go_wp2_with fail
    refine (cb_.out w1 b1).mono ?_
    rintro e w2 ⟨rfl, b2⟩
    have b2' := b1.trans (b2.mono b1.size)
    have HC := hmk (abvP_cab ha hb)
    have c := hmk (cabP_any a b S S' aa ca ba oa ab cb bb ob w2 hha (liesP_keep (fun x hx => b2'.block x (hS x hx)) (fun _ h => h) HA.out) hhb (liesP_keep (fun x hx => b2'.block x (hS' x hx)) (fun _ h => h) HB.out) (fun x hx => Nat.lt_of_lt_of_le (hS x hx) b2'.size) (fun x hx => Nat.lt_of_lt_of_le (hS' x hx) b2'.size))
    clear b1 b2 ca_ cb_
    generalize abvP a b = RR at *
    generalize cabP a b = ZZ at *
    clear ha hb
    go_wp2_with fail
    refine c.out.mono ?_
    rintro e w3 ⟨rfl, b3⟩
    go_wp2_with fail
    go_ret
    exact ⟨by rw [HC.out]; rfl, b2'.trans (b3.mono b2'.size)⟩
end Go.Proofs.YtihcggepeadklaaGreatDoor
/- One order of paths, as PathOrder asks it. -/
namespace Go.Proofs.YtihcggepeadklaaGreatDoor
open Go.RowKit Go.Lib
/-- an answer of a comparison: -1, 0 or 1 -/
def Tri3 (x : Int) : Prop := x = -1 ∨ x = 0 ∨ x = 1
theorem t3_I (a b : Int) : Tri3 (cmpI a b) := by unfold cmpI Tri3; split <;> (try split) <;> simp
theorem t3_B (a b : Bool) : Tri3 (cmpB a b) := by unfold cmpB Tri3; split <;> (try split) <;> simp
theorem t3_S (a b : ByteArray) : Tri3 (cmpS a b) := by
  unfold cmpS
  generalize a.data.toList = l
  generalize b.data.toList = m
  induction l generalizing m with
  | nil => cases m <;> simp [compareBytes, Tri3]
  | cons x t ih =>
    cases m with
    | nil => simp [compareBytes, Tri3]
    | cons y u =>
      unfold compareBytes
      split
      · simp [Tri3]
      · split
        · simp [Tri3]
        · exact ih u
theorem t3_V : ∀ v u : V, Tri3 (osV v u)
  | .mk k b i s l m, .mk k' b' i' s' l' m' => by
    unfold osV osB
    repeat' split
    all_goals first | exact t3_I _ _ | exact t3_S _ _ | exact t3_B _ _ | simp [Tri3]
theorem t3_L {α : Type} {f : α → α → Int} (h : ∀ x y, Tri3 (f x y)) : ∀ a b : List α, Tri3 (lexL f a b)
  | [], b => by rw [lex_nil_l]; exact t3_I _ _
  | x :: a, [] => by rw [lex_nil_r]; exact t3_I _ _
  | x :: a, y :: b => by
    rw [lexL]
    split
    · exact t3_L h a b
    · exact h x y
theorem t3_M (x y : Mem) : Tri3 (omM x y) := by
  unfold omM
  split
  · exact t3_V _ _
  · exact t3_S _ _
theorem t3_E (x y : El) : Tri3 (oeE x y) := by
  unfold oeE
  split
  · split
    · exact t3_S _ _
    · split
      · exact t3_L t3_M _ _
      · exact t3_V _ _
  · exact t3_I _ _
theorem lex_cgr {α : Type} {f g : α → α → Int} : ∀ a b : List α, (∀ x ∈ a, ∀ y ∈ b, f x y = g x y) → lexL f a b = lexL g a b
  | [], b, h => by rw [lex_nil_l, lex_nil_l]
  | x :: a, [], h => by rw [lex_nil_r, lex_nil_r]
  | x :: a, y :: b, h => by
    have e := h x (by simp) y (by simp)
    rw [lexL, lexL, e, lex_cgr a b (fun u hu v hv => h u (by simp [hu]) v (by simp [hv]))]
theorem cmp_oe {p q : List El} (hp : pathB p = true) (hq : pathB q = true) : cmpP p q = lexL oeE p q := by
  rw [cmpP_yes hp hq]
  exact (lex_cgr p q (fun x hx y hy => oe_re ((pathB_all hp).2 x hx) ((pathB_all hq).2 y hy))).symm
end Go.Proofs.YtihcggepeadklaaGreatDoor
/- valueSame of unlike scalars. -/
namespace Go.Proofs.YtihcggepeadklaaGreatDoor
open Go.RowKit Go.Lib
set_option maxHeartbeats 8000000 in
set_option maxRecDepth 100000 in
theorem vdiff_any (k : Int) (b : Bool) (i : Int) (s : ByteArray) (al : Option Addr) (cl : Nat) (am : Option Addr) (cm : Nat) (k2 : Int) (b2 : Bool) (i2 : Int) (s2 : ByteArray) (al2 : Option Addr) (cl2 : Nat) (am2 : Option Addr) (cm2 : Nat) (w : World) (hne : ¬ (k = k2 ∧ b = b2 ∧ i = i2 ∧ s = s2)) :
    Calls Tryz.prog 46 #[.agg #[.int .i64 k, .bool b, .int .i64 i, .string s, .slice al 0 cl, .slice am 0 cm], .agg #[.int .i64 k2, .bool b2, .int .i64 i2, .string s2, .slice al2 0 cl2, .slice am2 0 cm2], .int .i64 0] w (BPost false w) := by
  have HNE := hmk hne
  clear hne
  by_cases h0 : k = k2
  rotate_left
  · have y0 : (k != k2) = true := bne_iff_ne.2 h0
    clear h0
    have hb0 := box_row w [.int .i64 k, .bool b, .int .i64 i, .string s, .slice al 0 cl, .slice am 0 cm] 46
    have hb1 : rowAt ((w.alloc (.cells #[.int .i64 k, .bool b, .int .i64 i, .string s, .slice al 0 cl, .slice am 0 cm] 46)).alloc (.cells #[.int .i64 k2, .bool b2, .int .i64 i2, .string s2, .slice al2 0 cl2, .slice am2 0 cm2] 46)) w.heap.size 0 [.int .i64 k, .bool b, .int .i64 i, .string s, .slice al 0 cl, .slice am 0 cm] := hb0.keep (Below.heap_alloc _ _ _ (by rw [alloc_size]; omega))
    have hb2 : rowAt ((w.alloc (.cells #[.int .i64 k, .bool b, .int .i64 i, .string s, .slice al 0 cl, .slice am 0 cm] 46)).alloc (.cells #[.int .i64 k2, .bool b2, .int .i64 i2, .string s2, .slice al2 0 cl2, .slice am2 0 cm2] 46)) (w.heap.size + 1) 0 [.int .i64 k2, .bool b2, .int .i64 i2, .string s2, .slice al2 0 cl2, .slice am2 0 cm2] := by
      have := box_row (w.alloc (.cells #[.int .i64 k, .bool b, .int .i64 i, .string s, .slice al 0 cl, .slice am 0 cm] 46)) [.int .i64 k2, .bool b2, .int .i64 i2, .string s2, .slice al2 0 cl2, .slice am2 0 cm2] 46
      rwa [alloc_size] at this
    have B0 := two_below w (.cells #[.int .i64 k, .bool b, .int .i64 i, .string s, .slice al 0 cl, .slice am 0 cm] 46) (.cells #[.int .i64 k2, .bool b2, .int .i64 i2, .string s2, .slice al2 0 cl2, .slice am2 0 cm2] 46)
    obtain ⟨d0, d1, d2, d3, d4, d5⟩ := row6z hb1
    obtain ⟨g0, g1, g2, g3, g4, g5⟩ := row6z hb2
    have HB := hmk B0
    clear hb0 hb1 hb2 B0
    go_enter Tryz.func46, Tryz.ntmps46
    go_wp2_with fail
    go_ret
    exact ⟨rfl, HB.out⟩
  subst h0
  by_cases h1 : b = b2
  rotate_left
  · obtain rfl : b2 = !b := by cases b <;> cases b2 <;> first | rfl | exact absurd rfl h1
    have y1 : (b != !b) = true := by cases b <;> rfl
    have yy1 : (b == !b) = false := by cases b <;> rfl
    clear h1
    have hb0 := box_row w [.int .i64 k, .bool b, .int .i64 i, .string s, .slice al 0 cl, .slice am 0 cm] 46
    have hb1 : rowAt ((w.alloc (.cells #[.int .i64 k, .bool b, .int .i64 i, .string s, .slice al 0 cl, .slice am 0 cm] 46)).alloc (.cells #[.int .i64 k, .bool (!b), .int .i64 i2, .string s2, .slice al2 0 cl2, .slice am2 0 cm2] 46)) w.heap.size 0 [.int .i64 k, .bool b, .int .i64 i, .string s, .slice al 0 cl, .slice am 0 cm] := hb0.keep (Below.heap_alloc _ _ _ (by rw [alloc_size]; omega))
    have hb2 : rowAt ((w.alloc (.cells #[.int .i64 k, .bool b, .int .i64 i, .string s, .slice al 0 cl, .slice am 0 cm] 46)).alloc (.cells #[.int .i64 k, .bool (!b), .int .i64 i2, .string s2, .slice al2 0 cl2, .slice am2 0 cm2] 46)) (w.heap.size + 1) 0 [.int .i64 k, .bool (!b), .int .i64 i2, .string s2, .slice al2 0 cl2, .slice am2 0 cm2] := by
      have := box_row (w.alloc (.cells #[.int .i64 k, .bool b, .int .i64 i, .string s, .slice al 0 cl, .slice am 0 cm] 46)) [.int .i64 k, .bool (!b), .int .i64 i2, .string s2, .slice al2 0 cl2, .slice am2 0 cm2] 46
      rwa [alloc_size] at this
    have B0 := two_below w (.cells #[.int .i64 k, .bool b, .int .i64 i, .string s, .slice al 0 cl, .slice am 0 cm] 46) (.cells #[.int .i64 k, .bool (!b), .int .i64 i2, .string s2, .slice al2 0 cl2, .slice am2 0 cm2] 46)
    obtain ⟨d0, d1, d2, d3, d4, d5⟩ := row6z hb1
    obtain ⟨g0, g1, g2, g3, g4, g5⟩ := row6z hb2
    have HB := hmk B0
    clear hb0 hb1 hb2 B0
    go_enter Tryz.func46, Tryz.ntmps46
    go_wp2_with fail
    go_ret
    exact ⟨rfl, HB.out⟩
  subst h1
  by_cases h2 : i = i2
  rotate_left
  · have y2 : (i != i2) = true := bne_iff_ne.2 h2
    clear h2
    have hb0 := box_row w [.int .i64 k, .bool b, .int .i64 i, .string s, .slice al 0 cl, .slice am 0 cm] 46
    have hb1 : rowAt ((w.alloc (.cells #[.int .i64 k, .bool b, .int .i64 i, .string s, .slice al 0 cl, .slice am 0 cm] 46)).alloc (.cells #[.int .i64 k, .bool b, .int .i64 i2, .string s2, .slice al2 0 cl2, .slice am2 0 cm2] 46)) w.heap.size 0 [.int .i64 k, .bool b, .int .i64 i, .string s, .slice al 0 cl, .slice am 0 cm] := hb0.keep (Below.heap_alloc _ _ _ (by rw [alloc_size]; omega))
    have hb2 : rowAt ((w.alloc (.cells #[.int .i64 k, .bool b, .int .i64 i, .string s, .slice al 0 cl, .slice am 0 cm] 46)).alloc (.cells #[.int .i64 k, .bool b, .int .i64 i2, .string s2, .slice al2 0 cl2, .slice am2 0 cm2] 46)) (w.heap.size + 1) 0 [.int .i64 k, .bool b, .int .i64 i2, .string s2, .slice al2 0 cl2, .slice am2 0 cm2] := by
      have := box_row (w.alloc (.cells #[.int .i64 k, .bool b, .int .i64 i, .string s, .slice al 0 cl, .slice am 0 cm] 46)) [.int .i64 k, .bool b, .int .i64 i2, .string s2, .slice al2 0 cl2, .slice am2 0 cm2] 46
      rwa [alloc_size] at this
    have B0 := two_below w (.cells #[.int .i64 k, .bool b, .int .i64 i, .string s, .slice al 0 cl, .slice am 0 cm] 46) (.cells #[.int .i64 k, .bool b, .int .i64 i2, .string s2, .slice al2 0 cl2, .slice am2 0 cm2] 46)
    obtain ⟨d0, d1, d2, d3, d4, d5⟩ := row6z hb1
    obtain ⟨g0, g1, g2, g3, g4, g5⟩ := row6z hb2
    have HB := hmk B0
    clear hb0 hb1 hb2 B0
    go_enter Tryz.func46, Tryz.ntmps46
    go_wp2_with fail
    go_ret
    exact ⟨rfl, HB.out⟩
  subst h2
  by_cases h3 : s = s2
  rotate_left
  · have hn3 : s.toList ≠ s2.toList := fun h => h3 (bytes_eq h)
    have y3 : (s.toList != s2.toList) = true := bne_iff_ne.2 hn3
    have yy3 : (s.toList == s2.toList) = false := beq_eq_false_iff_ne.2 hn3
    clear h3
    have hb0 := box_row w [.int .i64 k, .bool b, .int .i64 i, .string s, .slice al 0 cl, .slice am 0 cm] 46
    have hb1 : rowAt ((w.alloc (.cells #[.int .i64 k, .bool b, .int .i64 i, .string s, .slice al 0 cl, .slice am 0 cm] 46)).alloc (.cells #[.int .i64 k, .bool b, .int .i64 i, .string s2, .slice al2 0 cl2, .slice am2 0 cm2] 46)) w.heap.size 0 [.int .i64 k, .bool b, .int .i64 i, .string s, .slice al 0 cl, .slice am 0 cm] := hb0.keep (Below.heap_alloc _ _ _ (by rw [alloc_size]; omega))
    have hb2 : rowAt ((w.alloc (.cells #[.int .i64 k, .bool b, .int .i64 i, .string s, .slice al 0 cl, .slice am 0 cm] 46)).alloc (.cells #[.int .i64 k, .bool b, .int .i64 i, .string s2, .slice al2 0 cl2, .slice am2 0 cm2] 46)) (w.heap.size + 1) 0 [.int .i64 k, .bool b, .int .i64 i, .string s2, .slice al2 0 cl2, .slice am2 0 cm2] := by
      have := box_row (w.alloc (.cells #[.int .i64 k, .bool b, .int .i64 i, .string s, .slice al 0 cl, .slice am 0 cm] 46)) [.int .i64 k, .bool b, .int .i64 i, .string s2, .slice al2 0 cl2, .slice am2 0 cm2] 46
      rwa [alloc_size] at this
    have B0 := two_below w (.cells #[.int .i64 k, .bool b, .int .i64 i, .string s, .slice al 0 cl, .slice am 0 cm] 46) (.cells #[.int .i64 k, .bool b, .int .i64 i, .string s2, .slice al2 0 cl2, .slice am2 0 cm2] 46)
    obtain ⟨d0, d1, d2, d3, d4, d5⟩ := row6z hb1
    obtain ⟨g0, g1, g2, g3, g4, g5⟩ := row6z hb2
    have HB := hmk B0
    clear hb0 hb1 hb2 B0
    go_enter Tryz.func46, Tryz.ntmps46
    go_wp2_with fail
    go_ret
    exact ⟨rfl, HB.out⟩
  subst h3
  exact absurd ⟨rfl, rfl, rfl, rfl⟩ HNE.out
/-- the same, as values: those of two scalars without lists -/
theorem vcmp_any (v u : V) (S S' : Nat → Prop) (cs ds : List Value) (w : World) (hv : ∃ k b i s, v = .mk k b i s [] []) (hu : ∃ k b i s, u = .mk k b i s [] []) (hl : v.lies false w S cs) (hl' : u.lies false w S' ds) (hS : ∀ x, S x → x < w.heap.size) (hS' : ∀ x, S' x → x < w.heap.size) (E : Bool) (hE : E = true ↔ v = u) :
    Calls Tryz.prog 46 #[.agg cs.toArray, .agg ds.toArray, .int .i64 0] w (BPost E w) := by
  cases E with
  | true =>
    obtain rfl := hE.1 rfl
    exact vsame_any v 0 S S' cs ds w (by omega) (by omega) hl hl' hS hS'
  | false =>
    obtain ⟨k, b, i, s, rfl⟩ := hv
    obtain ⟨k2, b2, i2, s2, rfl⟩ := hu
    rw [V.lies] at hl hl'
    obtain ⟨al, cl, bl, ol, am, cm, bm, om, rfl, _⟩ := hl
    obtain ⟨al2, cl2, bl2, ol2, am2, cm2, bm2, om2, rfl, _⟩ := hl'
    refine vdiff_any k b i s al cl am cm k2 b2 i2 s2 al2 cl2 am2 cm2 w (fun h => ?_)
    obtain ⟨rfl, rfl, rfl, rfl⟩ := h
    exact Bool.noConfusion (hE.2 rfl)
end Go.Proofs.YtihcggepeadklaaGreatDoor
/- Names that need not be quoted, as plain functions. -/
namespace Go.Proofs.YtihcggepeadklaaGreatDoor
open Go.RowKit Go.Lib
/-- a letter, or an underscore -/
def letR (r : Int) : Bool := (decide (65 ≤ r) && decide (r ≤ 90)) || (decide (97 ≤ r) && decide (r ≤ 122)) || decide (r = 95)
def digR (r : Int) : Bool := decide (48 ≤ r) && decide (r ≤ 57)
/-- may a byte stand at a place of a plain name? -/
def okR (i : Nat) (r : Int) : Bool := letR r || (decide (i ≠ 0) && (digR r || decide (r = 45)))
/-- how many bytes at the front are a plain name -/
def prefN : Nat → List UInt8 → Nat
  | i, [] => i
  | i, c :: t => if okR i c.toNat = true then prefN (i + 1) t else i
def allN : Nat → List UInt8 → Bool
  | _, [] => true
  | i, c :: t => okR i c.toNat && allN (i + 1) t
theorem prefN_le : ∀ (l : List UInt8) (i : Nat), i ≤ prefN i l ∧ prefN i l ≤ i + l.length
  | [], i => by simp [prefN]
  | c :: t, i => by
    have := prefN_le t (i + 1)
    rw [prefN]
    split
    · rw [List.length_cons]; omega
    · rw [List.length_cons]; omega
theorem prefN_all : ∀ (l : List UInt8) (i : Nat), (prefN i l = i + l.length) ↔ allN i l = true
  | [], i => by simp [prefN, allN]
  | c :: t, i => by
    rw [prefN, allN, List.length_cons, Bool.and_eq_true, ← prefN_all t (i + 1)]
    split
    · rename_i h; rw [h]; simp only [true_and]; omega
    · rename_i h
      have h1 : ¬ okR i c.toNat = true := h
      constructor
      · intro h2; omega
      · intro h2; exact absurd h2.1 h1
/-- need the name not be quoted? -/
def plnN (l : List UInt8) : Bool := !l.isEmpty && allN 0 l
/-- a name as it is written -/
def nmT (l : List UInt8) : List UInt8 := if plnN l = true then l else Q.qt l
theorem okR_hi (i : Nat) (r : Int) (h : 128 ≤ r) : okR i r = false := by
  have h1 : decide (r ≤ 90) = false := by rw [decide_eq_false_iff_not]; omega
  have h2 : decide (r ≤ 122) = false := by rw [decide_eq_false_iff_not]; omega
  have h3 : decide (r = 95) = false := by rw [decide_eq_false_iff_not]; omega
  have h4 : decide (r ≤ 57) = false := by rw [decide_eq_false_iff_not]; omega
  have h5 : decide (r = 45) = false := by rw [decide_eq_false_iff_not]; omega
  simp only [okR, letR, digR, h1, h2, h3, h4, h5, Bool.and_false, Bool.or_false]
theorem drop_consN (s : ByteArray) (k : Nat) (h : k < s.size) : s.data.toList.drop k = s[k] :: s.data.toList.drop (k + 1) := by
  rw [List.drop_eq_getElem_cons (by simpa using h)]; rfl
theorem drop_endN (s : ByteArray) (k : Nat) (h : ¬ k < s.size) : s.data.toList.drop k = [] := List.drop_eq_nil_of_le (by simpa using Nat.le_of_not_lt h)
theorem prefN_yes (s : ByteArray) (k : Nat) (h : k < s.size) (ho : okR k (s[k]'h).toNat = true) : prefN k (s.data.toList.drop k) = prefN (k + 1) (s.data.toList.drop (k + 1)) := by
  rw [drop_consN s k h, prefN, if_pos ho]
theorem prefN_no (s : ByteArray) (k : Nat) (h : k < s.size) (ho : okR k (s[k]'h).toNat = false) : prefN k (s.data.toList.drop k) = k := by
  rw [drop_consN s k h, prefN, if_neg (by rw [ho]; decide)]
theorem prefN_end (s : ByteArray) (k : Nat) (h : ¬ k < s.size) : prefN k (s.data.toList.drop k) = k := by rw [drop_endN s k h, prefN]
theorem okR_pos (i : Nat) (r : Int) (h : i ≠ 0) : okR i r = (letR r || digR r || decide (r = 45)) := by simp [okR, h, Bool.or_assoc]
end Go.Proofs.YtihcggepeadklaaGreatDoor
