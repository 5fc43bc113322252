import Derived.Test.YtihcggepeadklaaGreatDoorG12
/- The program's order: scalars, members, elements, paths. -/
set_option linter.unusedSimpArgs false
set_option linter.unusedVariables false
namespace Go.Proofs.YtihcggepeadklaaGreatDoor
open Go.RowKit Go.Lib
/-- the order of two scalars -/
def osB (k : Int) (b : Bool) (i : Int) (s : ByteArray) (k' : Int) (b' : Bool) (i' : Int) (s' : ByteArray) : Int :=
  if k = k' then (if b = b' then (if i = i' then cmpS s s' else cmpI i i') else if b' = true then -1 else 1) else cmpI k k'
def osV : V → V → Int
  | .mk k b i s _ _, .mk k' b' i' s' _ _ => osB k b i s k' b' i' s'
/-- members: by their keys, then by their values -/
def omM (x y : Mem) : Int := if x.1.toList = y.1.toList then osV x.2 y.2 else cmpS x.1 y.1
/-- lists: the first that are unlike say so, else the lengths -/
def lexL {α : Type} (f : α → α → Int) : List α → List α → Int
  | x :: a, y :: b => if f x y = 0 then lexL f a b else f x y
  | a, b => cmpI a.length b.length
def oeE (x y : El) : Int := if x.kind = y.kind then (if x.kind = 1 then cmpS x.name y.name else if x.kind = 2 then lexL omM x.key y.key else osV x.item y.item) else cmpI x.kind y.kind
theorem lex_drop {α : Type} (f : α → α → Int) {a b : List α} {j : Nat} (h : j < a.length) (h' : j < b.length) : lexL f (a.drop j) (b.drop j) = if f a[j] b[j] = 0 then lexL f (a.drop (j + 1)) (b.drop (j + 1)) else f a[j] b[j] := by
  rw [List.drop_eq_getElem_cons h, List.drop_eq_getElem_cons h', lexL]
theorem lex_end {α : Type} (f : α → α → Int) {a b : List α} {j : Nat} (h : j ≤ a.length) (h' : j ≤ b.length) (h2 : ¬ (j < a.length ∧ j < b.length)) : lexL f (a.drop j) (b.drop j) = cmpI a.length b.length := by
  have e : ∀ (c d : List α), (c = [] ∨ d = []) → lexL f c d = cmpI c.length d.length := fun c d hcd => by
    rcases hcd with rfl | rfl
    · cases d <;> rfl
    · cases c <;> rfl
  rw [e]
  · simp only [List.length_drop, cmpI]
    split <;> split <;> (try rfl) <;> (try omega)
    all_goals split <;> split <;> first | rfl | omega
  · by_cases ha : j < a.length
    · exact .inr (by rw [List.drop_eq_nil_iff]; omega)
    · exact .inl (by rw [List.drop_eq_nil_iff]; omega)
theorem osV_cells {R R' : Bool} {w w' : World} {S S' : Nat → Prop} {v u : V} (ek : Int) (eb : Bool) (ei : Int) (es : ByteArray) (eal : Option Addr) (enl ecl : Nat) (eam : Option Addr) (enm ecm : Nat) (fk : Int) (fb : Bool) (fi : Int) (fs : ByteArray) (fal : Option Addr) (fnl fcl : Nat) (fam : Option Addr) (fnm fcm : Nat) (h : v.lies R w S [.int .i64 ek, .bool eb, .int .i64 ei, .string es, .slice eal enl ecl, .slice eam enm ecm]) (h' : u.lies R' w' S' [.int .i64 fk, .bool fb, .int .i64 fi, .string fs, .slice fal fnl fcl, .slice fam fnm fcm]) : osV v u = osB ek eb ei es fk fb fi fs := by
  obtain ⟨k, b, i, s, l, m⟩ := v
  obtain ⟨k', b', i', s', l', m'⟩ := u
  rw [V.lies] at h h'
  obtain ⟨_, _, _, _, _, _, _, _, e, _⟩ := h
  obtain ⟨_, _, _, _, _, _, _, _, e', _⟩ := h'
  simp only [List.cons.injEq, Value.int.injEq, Value.bool.injEq, Value.string.injEq, true_and] at e e'
  obtain ⟨rfl, rfl, rfl, rfl, _⟩ := e
  obtain ⟨rfl, rfl, rfl, rfl, _⟩ := e'
  rfl
set_option maxHeartbeats 4000000 in
set_option maxRecDepth 100000 in
theorem oscal_any (ek : Int) (eb : Bool) (ei : Int) (es : ByteArray) (eal : Option Addr) (enl ecl : Nat) (eam : Option Addr) (enm ecm : Nat) (fk : Int) (fb : Bool) (fi : Int) (fs : ByteArray) (fal : Option Addr) (fnl fcl : Nat) (fam : Option Addr) (fnm fcm : Nat) (w : World) : Calls Tryz.prog 76 #[.agg #[.int .i64 ek, .bool eb, .int .i64 ei, .string es, .slice eal enl ecl, .slice eam enm ecm], .agg #[.int .i64 fk, .bool fb, .int .i64 fi, .string fs, .slice fal fnl fcl, .slice fam fnm fcm]] w (JPost (osB ek eb ei es fk fb fi fs) w) := by
  have hb0 := box_row w [.int .i64 ek, .bool eb, .int .i64 ei, .string es, .slice eal enl ecl, .slice eam enm ecm] 46
  have hb1 : rowAt ((w.alloc (.cells #[.int .i64 ek, .bool eb, .int .i64 ei, .string es, .slice eal enl ecl, .slice eam enm ecm] 46)).alloc (.cells #[.int .i64 fk, .bool fb, .int .i64 fi, .string fs, .slice fal fnl fcl, .slice fam fnm fcm] 46)) w.heap.size 0 [.int .i64 ek, .bool eb, .int .i64 ei, .string es, .slice eal enl ecl, .slice eam enm ecm] := hb0.keep (Below.heap_alloc _ _ _ (by rw [alloc_size]; omega))
  have hb2 : rowAt ((w.alloc (.cells #[.int .i64 ek, .bool eb, .int .i64 ei, .string es, .slice eal enl ecl, .slice eam enm ecm] 46)).alloc (.cells #[.int .i64 fk, .bool fb, .int .i64 fi, .string fs, .slice fal fnl fcl, .slice fam fnm fcm] 46)) (w.heap.size + 1) 0 [.int .i64 fk, .bool fb, .int .i64 fi, .string fs, .slice fal fnl fcl, .slice fam fnm fcm] := by
    have := box_row (w.alloc (.cells #[.int .i64 ek, .bool eb, .int .i64 ei, .string es, .slice eal enl ecl, .slice eam enm ecm] 46)) [.int .i64 fk, .bool fb, .int .i64 fi, .string fs, .slice fal fnl fcl, .slice fam fnm fcm] 46
    rwa [alloc_size] at this
  have B0 := two_below w (.cells #[.int .i64 ek, .bool eb, .int .i64 ei, .string es, .slice eal enl ecl, .slice eam enm ecm] 46) (.cells #[.int .i64 fk, .bool fb, .int .i64 fi, .string fs, .slice fal fnl fcl, .slice fam fnm fcm] 46)
  obtain ⟨d0, d1, d2, d3, d4, d5⟩ := row6z hb1
  obtain ⟨g0, g1, g2, g3, g4, g5⟩ := row6z hb2
  have HB := hmk B0
  by_cases hk : ek = fk
  case neg =>
    have y1 : (ek != fk) = true := by rw [bne_iff_ne]; exact hk
    have HF : Hid (osB ek eb ei es fk fb fi fs = cmpI ek fk) := by show _ = _; rw [osB, if_neg hk]
    have c := hmk (icompare_any ek fk ((w.alloc (.cells #[.int .i64 ek, .bool eb, .int .i64 ei, .string es, .slice eal enl ecl, .slice eam enm ecm] 46)).alloc (.cells #[.int .i64 fk, .bool fb, .int .i64 fi, .string fs, .slice fal fnl fcl, .slice fam fnm fcm] 46)))
    generalize osB ek eb ei es fk fb fi fs = RR at *
    clear hk
    go_enter Tryz.func76, Tryz.ntmps76
    go_wp2_with fail
    refine c.out.mono ?_
    rintro e w1 ⟨rfl, b1⟩
    go_wp2_with fail
    go_ret
    exact ⟨by rw [HF.out]; rfl, HB.out.trans (b1.mono HB.out.size)⟩
  subst hk
  by_cases hb : eb = fb
  case neg =>
    have y1 : (eb != fb) = true := by rw [bne_iff_ne]; exact hb
    have HF : Hid (osB ek eb ei es ek fb fi fs = if fb = true then -1 else 1) := by show _ = _; rw [osB, if_pos rfl, if_neg hb]
    generalize osB ek eb ei es ek fb fi fs = RR at *
    clear y1
    cases fb
    · obtain rfl : eb = true := by cases eb <;> simp_all
      clear hb
      go_enter Tryz.func76, Tryz.ntmps76
      go_wp2_with fail
      go_ret
      exact ⟨by rw [HF.out]; rfl, HB.out⟩
    · obtain rfl : eb = false := by cases eb <;> simp_all
      clear hb
      go_enter Tryz.func76, Tryz.ntmps76
      go_wp2_with fail
      go_ret
      exact ⟨by rw [HF.out]; rfl, HB.out⟩
  subst hb
  by_cases hi : ei = fi
  case neg =>
    have y1 : (ei != fi) = true := by rw [bne_iff_ne]; exact hi
    have HF : Hid (osB ek eb ei es ek eb fi fs = cmpI ei fi) := by show _ = _; rw [osB, if_pos rfl, if_pos rfl, if_neg hi]
    have c := hmk (icompare_any ei fi ((w.alloc (.cells #[.int .i64 ek, .bool eb, .int .i64 ei, .string es, .slice eal enl ecl, .slice eam enm ecm] 46)).alloc (.cells #[.int .i64 ek, .bool eb, .int .i64 fi, .string fs, .slice fal fnl fcl, .slice fam fnm fcm] 46)))
    generalize osB ek eb ei es ek eb fi fs = RR at *
    clear hi
    go_enter Tryz.func76, Tryz.ntmps76
    go_wp2_with fail
    refine c.out.mono ?_
    rintro e w1 ⟨rfl, b1⟩
    go_wp2_with fail
    go_ret
    exact ⟨by rw [HF.out]; rfl, HB.out.trans (b1.mono HB.out.size)⟩
  subst hi
  have HF : Hid (osB ek eb ei es ek eb ei fs = cmpS es fs) := by show _ = _; rw [osB, if_pos rfl, if_pos rfl, if_pos rfl]
  have c := hmk (scompare_any es fs ((w.alloc (.cells #[.int .i64 ek, .bool eb, .int .i64 ei, .string es, .slice eal enl ecl, .slice eam enm ecm] 46)).alloc (.cells #[.int .i64 ek, .bool eb, .int .i64 ei, .string fs, .slice fal fnl fcl, .slice fam fnm fcm] 46)))
  generalize osB ek eb ei es ek eb ei fs = RR at *
  go_enter Tryz.func76, Tryz.ntmps76
  go_wp2_with fail
  refine c.out.mono ?_
  rintro e w1 ⟨rfl, b1⟩
  go_wp2_with fail
  go_ret
  exact ⟨by rw [HF.out]; rfl, HB.out.trans (b1.mono HB.out.size)⟩
set_option maxHeartbeats 4000000 in
set_option maxRecDepth 100000 in
theorem omem_any (xs ys : ByteArray) (ek : Int) (eb : Bool) (ei : Int) (es : ByteArray) (eal : Option Addr) (enl ecl : Nat) (eam : Option Addr) (enm ecm : Nat) (fk : Int) (fb : Bool) (fi : Int) (fs : ByteArray) (fal : Option Addr) (fnl fcl : Nat) (fam : Option Addr) (fnm fcm : Nat) (w : World) : Calls Tryz.prog 75 #[.agg #[.string xs, .int .i64 ek, .bool eb, .int .i64 ei, .string es, .slice eal enl ecl, .slice eam enm ecm], .agg #[.string ys, .int .i64 fk, .bool fb, .int .i64 fi, .string fs, .slice fal fnl fcl, .slice fam fnm fcm]] w (JPost (if xs.toList = ys.toList then osB ek eb ei es fk fb fi fs else cmpS xs ys) w) := by
  have hb0 := box_row w [.string xs, .int .i64 ek, .bool eb, .int .i64 ei, .string es, .slice eal enl ecl, .slice eam enm ecm] 50
  have hb1 : rowAt ((w.alloc (.cells #[.string xs, .int .i64 ek, .bool eb, .int .i64 ei, .string es, .slice eal enl ecl, .slice eam enm ecm] 50)).alloc (.cells #[.string ys, .int .i64 fk, .bool fb, .int .i64 fi, .string fs, .slice fal fnl fcl, .slice fam fnm fcm] 50)) w.heap.size 0 [.string xs, .int .i64 ek, .bool eb, .int .i64 ei, .string es, .slice eal enl ecl, .slice eam enm ecm] := hb0.keep (Below.heap_alloc _ _ _ (by rw [alloc_size]; omega))
  have hb2 : rowAt ((w.alloc (.cells #[.string xs, .int .i64 ek, .bool eb, .int .i64 ei, .string es, .slice eal enl ecl, .slice eam enm ecm] 50)).alloc (.cells #[.string ys, .int .i64 fk, .bool fb, .int .i64 fi, .string fs, .slice fal fnl fcl, .slice fam fnm fcm] 50)) (w.heap.size + 1) 0 [.string ys, .int .i64 fk, .bool fb, .int .i64 fi, .string fs, .slice fal fnl fcl, .slice fam fnm fcm] := by
    have := box_row (w.alloc (.cells #[.string xs, .int .i64 ek, .bool eb, .int .i64 ei, .string es, .slice eal enl ecl, .slice eam enm ecm] 50)) [.string ys, .int .i64 fk, .bool fb, .int .i64 fi, .string fs, .slice fal fnl fcl, .slice fam fnm fcm] 50
    rwa [alloc_size] at this
  have B0 := two_below w (.cells #[.string xs, .int .i64 ek, .bool eb, .int .i64 ei, .string es, .slice eal enl ecl, .slice eam enm ecm] 50) (.cells #[.string ys, .int .i64 fk, .bool fb, .int .i64 fi, .string fs, .slice fal fnl fcl, .slice fam fnm fcm] 50)
  obtain ⟨d, d0, d1, d2, d3, d4, d5⟩ := row7 hb1
  obtain ⟨g, g0, g1, g2, g3, g4, g5⟩ := row7 hb2
  simp only [Nat.zero_add] at d d0 d1 d2 d3 d4 d5 g g0 g1 g2 g3 g4 g5
  have HB := hmk B0
  by_cases hk : xs.toList = ys.toList
  case neg =>
    have y1 : (xs.toList != ys.toList) = true := by rw [bne_iff_ne]; exact hk
    have y2 : (xs.toList == ys.toList) = false := beq_eq_false_iff_ne.2 hk
    have c := hmk (scompare_any xs ys ((w.alloc (.cells #[.string xs, .int .i64 ek, .bool eb, .int .i64 ei, .string es, .slice eal enl ecl, .slice eam enm ecm] 50)).alloc (.cells #[.string ys, .int .i64 fk, .bool fb, .int .i64 fi, .string fs, .slice fal fnl fcl, .slice fam fnm fcm] 50)))
    rw [if_neg hk]
    clear hk
    go_enter Tryz.func75, Tryz.ntmps75
    go_wp2_with fail
    refine c.out.mono ?_
    rintro e w1 ⟨rfl, b1⟩
    go_wp2_with fail
    go_ret
    exact ⟨rfl, HB.out.trans (b1.mono HB.out.size)⟩
  rw [if_pos hk]
  obtain rfl := bytes_eq hk
  have c := hmk (oscal_any ek eb ei es eal enl ecl eam enm ecm fk fb fi fs fal fnl fcl fam fnm fcm ((w.alloc (.cells #[.string xs, .int .i64 ek, .bool eb, .int .i64 ei, .string es, .slice eal enl ecl, .slice eam enm ecm] 50)).alloc (.cells #[.string xs, .int .i64 fk, .bool fb, .int .i64 fi, .string fs, .slice fal fnl fcl, .slice fam fnm fcm] 50)))
  generalize osB ek eb ei es fk fb fi fs = RR at *
  clear hk
  go_enter Tryz.func75, Tryz.ntmps75
  go_wp2_with fail
  refine c.out.mono ?_
  rintro e w1 ⟨rfl, b1⟩
  go_wp2_with fail
  go_ret
  exact ⟨rfl, HB.out.trans (b1.mono HB.out.size)⟩
end Go.Proofs.YtihcggepeadklaaGreatDoor
