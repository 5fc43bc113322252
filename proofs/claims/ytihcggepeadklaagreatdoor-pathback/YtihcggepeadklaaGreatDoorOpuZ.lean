import Derived.Test.YtihcggepeadklaaGreatDoorG4
/- A path opened: it weighs no more than its bulk. -/
set_option linter.unusedSimpArgs false
set_option linter.unusedVariables false
namespace Go.Proofs.YtihcggepeadklaaGreatDoor
open Go.Shelf Go.Lib Go.ChangeShapes Go.WideShapes Go.Deep Go.RowKit
theorem len2 {α : Type} {l : List α} (h : l.length = 2) : ∃ c0 c1, l = [c0, c1] := by
  match l, h with
  | [c0, c1], _ => exact ⟨_, _, rfl⟩
theorem len4 {α : Type} {l : List α} (h : l.length = 4) : ∃ c0 c1 c2 c3, l = [c0, c1, c2, c3] := by
  match l, h with
  | [c0, c1, c2, c3], _ => exact ⟨_, _, _, _, rfl⟩
section
variable {H : Type} {enc : TypeId × Value → H} {w : World} {spare : Nat → Bool} {held : Bool}
theorem elems_atI {α : Type} {a : Addr} {len k : Nat} {Q : Nat → α → List Value → Prop} (hk : 0 < k) (h : ∀ i, i < len → ∃ cs x, w.cells? 0 (a.add (i * k)) k = some cs ∧ Q i x cs) :
    ∃ (l : List α) (b o : Nat), l.length = len ∧ (len = 0 ∨ a = ⟨b, o, none⟩) ∧ ∀ (j : Nat) (hj : j < l.length), Old w b ∧ ∃ cs, rowAt w b (o + j * k) cs ∧ Q j l[j] cs := by
  by_cases h0 : len = 0
  · exact ⟨[], 0, 0, by simp [h0], .inl h0, fun j hj => by simp at hj⟩
  obtain ⟨cs0, x0, hc0, _⟩ := h 0 (by omega)
  have hz : a.add (0 * k) = a := by simp [Addr.add]
  rw [hz] at hc0
  obtain ⟨b, o, rfl, hb, _⟩ := row_of_cells hc0 hk
  have : ∃ l : List α, l.length = len ∧ ∀ (j : Nat) (hj : j < l.length), ∃ cs, rowAt w b (o + j * k) cs ∧ Q j l[j] cs := by
    clear hc0 hz h0
    induction len with
    | zero => exact ⟨[], rfl, fun j hj => by simp at hj⟩
    | succ n ih =>
      obtain ⟨l, hl, hq⟩ := ih fun i hi => h i (by omega)
      obtain ⟨cs, x, hc, hx⟩ := h n (by omega)
      rw [add_plain] at hc
      obtain ⟨b', o', e, _, hr⟩ := row_of_cells hc hk
      cases e
      refine ⟨l ++ [x], by simp [hl], fun j hj => ?_⟩
      by_cases hjl : j < l.length
      · rw [List.getElem_append_left hjl]; exact hq j hjl
      · have hjn : j = n := by simp at hj; omega
        subst hjn
        refine ⟨cs, hr, ?_⟩
        rw [List.getElem_append_right (by omega)]
        simpa using hx
  obtain ⟨l, hl, hq⟩ := this
  exact ⟨l, b, o, hl, .inr rfl, fun j hj => ⟨hb, hq j hj⟩⟩
theorem wtL_bulk : ∀ (l : List V) (es : List (DataW H × List MemPlace)), l.length = es.length → (∀ (j : Nat) (hj : j < l.length) (y : DataW H × List MemPlace), es[j]? = some y → l[j].wt ≤ Rows.uptoBulk y.1) → wtL l ≤ Rows.uptoBulkAll (es.map (·.1))
  | [], es, _, _ => by simp [wtL]
  | x :: l, [], h, _ => by simp at h
  | x :: l, e :: es, h, hb => by
    have h0 := hb 0 (by simp) e rfl
    have ih := wtL_bulk l es (by simpa using h) (fun j hj y hy => by
      have := hb (j + 1) (by simpa using hj) y (by simpa using hy)
      simpa using this)
    simp only [List.getElem_cons_zero] at h0
    skip
    simp only [wtL, List.map_cons, Rows.uptoBulkAll]
    try simp only at h0
    omega
theorem wtM_bulk : ∀ (l : List Mem) (es : List (DataW H × List MemPlace)), l.length = es.length → (∀ (j : Nat) (hj : j < l.length) (y : DataW H × List MemPlace), es[j]? = some y → (l[j]).1.size + (l[j]).2.wt ≤ Rows.uptoBulk y.1) → wtM l ≤ Rows.uptoBulkAll (es.map (·.1))
  | [], es, _, _ => by simp [wtM]
  | x :: l, [], h, _ => by simp at h
  | x :: l, e :: es, h, hb => by
    have h0 := hb 0 (by simp) e rfl
    have ih := wtM_bulk l es (by simpa using h) (fun j hj y hy => by
      have := hb (j + 1) (by simpa using hj) y (by simpa using hy)
      simpa using this)
    simp only [List.getElem_cons_zero] at h0
    obtain ⟨k, v⟩ := x
    simp only [wtM, List.map_cons, Rows.uptoBulkAll]
    try simp only at h0
    omega
theorem wtP_bulk : ∀ (l : List El) (es : List (DataW H × List MemPlace)), l.length = es.length → (∀ (j : Nat) (hj : j < l.length) (y : DataW H × List MemPlace), es[j]? = some y → l[j].wt ≤ Rows.uptoBulk y.1) → wtP l ≤ Rows.uptoBulkAll (es.map (·.1))
  | [], es, _, _ => by simp [wtP]
  | x :: l, [], h, _ => by simp at h
  | x :: l, e :: es, h, hb => by
    have h0 := hb 0 (by simp) e rfl
    have ih := wtP_bulk l es (by simpa using h) (fun j hj y hy => by
      have := hb (j + 1) (by simpa using hj) y (by simpa using hy)
      simpa using this)
    simp only [List.getElem_cons_zero] at h0
    skip
    simp only [wtP, List.map_cons, Rows.uptoBulkAll]
    try simp only at h0
    omega
theorem open_allU : ∀ n : Nat,
    (∀ cs x, DataW.trod enc Tryz.prog w 0 spare held n 46 cs = some x → ∃ v : V, v.lies false w (Old w) cs ∧ v.wt ≤ Rows.uptoBulk x.1) ∧
    (∀ cs x, DataW.trod enc Tryz.prog w 0 spare held n 50 cs = some x → ∃ (k : ByteArray) (v : V) (cs' : List Value), cs = .string k :: cs' ∧ k.size ≤ maxLen ∧ v.lies false w (Old w) cs' ∧ k.size + v.wt ≤ Rows.uptoBulk x.1) ∧
    (∀ cs x, DataW.trod enc Tryz.prog w 0 spare held n 44 cs = some x → ∃ (l : List V) (ao : Option Addr) (cap b o : Nat), cs = [.slice ao l.length cap] ∧ Headed ao l.length cap b o ∧ liesL false w (Old w) l b o ∧ wtL l ≤ Rows.uptoBulk x.1) ∧
    (∀ cs x, DataW.trod enc Tryz.prog w 0 spare held n 43 cs = some x → ∃ (l : List Mem) (ao : Option Addr) (cap b o : Nat), cs = [.slice ao l.length cap] ∧ Headed ao l.length cap b o ∧ liesM false w (Old w) l b o ∧ wtM l ≤ Rows.uptoBulk x.1) := by
  intro n
  induction n with
  | zero => refine ⟨?_, ?_, ?_, ?_⟩ <;> (intro cs x h; simp [DataW.trod] at h)
  | succ n ih =>
    obtain ⟨ihv, ihm, ihl, ihk⟩ := ih
    refine ⟨?_, ?_, ?_, ?_⟩
    · intro cs x h
      obtain ⟨xs, n', hn, hx, hl, hlen, hf⟩ := DataW.trod_struct Tryz.underlying46 h
      obtain rfl : n = n' := by omega
      rw [cells25] at hl
      obtain ⟨c0, c1, c2, c3, c4, c5, rfl⟩ := len6 hl
      have h6 : xs.length = 6 := hlen
      obtain ⟨x0, x1, x2, x3, x4, x5, rfl⟩ := len6 h6
      have f0 := hf 0 _ rfl
      simp only [List.getElem?_cons_zero, List.getElem?_cons_succ] at f0
      have f1 := hf 1 _ rfl
      simp only [List.getElem?_cons_zero, List.getElem?_cons_succ] at f1
      have f2 := hf 2 _ rfl
      simp only [List.getElem?_cons_zero, List.getElem?_cons_succ] at f2
      have f3 := hf 3 _ rfl
      simp only [List.getElem?_cons_zero, List.getElem?_cons_succ] at f3
      have f4 := hf 4 _ rfl
      simp only [List.getElem?_cons_zero, List.getElem?_cons_succ] at f4
      have f5 := hf 5 _ rfl
      simp only [List.getElem?_cons_zero, List.getElem?_cons_succ] at f5
      simp [cells3, cells4, cells9, cells22, cells23] at f0 f1 f2 f3 f4 f5
      obtain ⟨k, e0, q0, wk⟩ := DataW.trod_int Tryz.underlying3 f0
      obtain ⟨b, e1, q1⟩ := DataW.trod_bool Tryz.underlying4 f1
      obtain ⟨i, e2, q2, wi⟩ := DataW.trod_int Tryz.underlying3 f2
      obtain ⟨s, e3, q3, hs⟩ := DataW.trod_string Tryz.underlying9 f3
      obtain ⟨l, al, cl, bl, ol, e4, hl1, hl2, hl3⟩ := ihl _ _ f4
      obtain ⟨m, am, cm, bm, om, e5, hm1, hm2, hm3⟩ := ihk _ _ f5
      simp only [List.cons.injEq, and_true] at e0 e1 e2 e3 e4 e5
      subst e0 e1 e2 e3 e4 e5
      refine ⟨.mk k b i s l m, ?_, ?_⟩
      · rw [V.lies]
        exact ⟨al, cl, bl, ol, am, cm, bm, om, rfl, in64_of wk, in64_of wi, hs, hl1, hm1, hl2, hm2, fun h => by cases h⟩
      · rw [hx]
        simp only [List.map_cons, List.map_nil, Rows.uptoBulk, Rows.uptoBulkAll, q0, q1, q2, q3, V.wt]
        have hss : s.data.toList.length = s.size := by simp
        omega
    · intro cs x h
      obtain ⟨xs, n', hn, hx, hl, hlen, hf⟩ := DataW.trod_struct Tryz.underlying50 h
      obtain rfl : n = n' := by omega
      rw [cells44] at hl
      obtain ⟨c, c0, c1, c2, c3, c4, c5, rfl⟩ := len7 hl
      have h6 : xs.length = 2 := hlen
      obtain ⟨x0, x1, rfl⟩ := len2 h6
      have f0 := hf 0 _ rfl
      simp only [List.getElem?_cons_zero, List.getElem?_cons_succ] at f0
      have f1 := hf 1 _ rfl
      simp only [List.getElem?_cons_zero, List.getElem?_cons_succ] at f1
      simp [cells9, cells25] at f0 f1
      obtain ⟨s, e3, q3, hs⟩ := DataW.trod_string Tryz.underlying9 f0
      obtain ⟨v, hv, hvw⟩ := ihv _ _ f1
      simp only [List.cons.injEq, and_true] at e3
      subst e3
      refine ⟨s, v, _, rfl, hs, hv, ?_⟩
      rw [hx]
      simp only [List.map_cons, List.map_nil, Rows.uptoBulk, Rows.uptoBulkAll, q3]
      have hss : s.data.toList.length = s.size := by simp
      omega
    · intro cs x h
      rcases DataW.trod_slice Tryz.underlying44 h with ⟨rfl, _⟩ | ⟨a, len, cap, elems, rest, n', hn, rfl, hx, _, hlc, hcm, hlen, hel, _⟩
      · exact ⟨[], none, 0, 0, 0, rfl, ⟨Nat.le_refl _, by simp [maxLen], .inl rfl, fun _ => rfl⟩, by rw [liesL]; trivial, by simp [wtL]⟩
      obtain rfl : n = n' := by omega
      rw [cells25] at hel
      obtain ⟨l, b, o, hll, hao, hq⟩ := elems_atI (w := w) (a := a) (len := len) (k := 6) (Q := fun i (v : V) cs => v.lies false w (Old w) cs ∧ ∀ y, elems[i]? = some y → v.wt ≤ Rows.uptoBulk y.1) (by omega) (fun i hi => by
        have he := hel i hi
        rw [List.getElem?_eq_getElem (by omega)] at he
        obtain ⟨cs, h1, h2⟩ := Option.bind_eq_some_iff.1 he
        obtain ⟨v, hv, hvw⟩ := ihv _ _ h2
        exact ⟨cs, v, h1, hv, fun y hy => by rw [List.getElem?_eq_getElem (by omega)] at hy; rw [← Option.some.inj hy]; exact hvw⟩)
      subst hll
      refine ⟨l, some a, cap, b, o, rfl, ⟨hlc, hcm, ?_, fun h => by cases h⟩, liesL_mk fun j hj => ?_, ?_⟩
      · rcases hao with h | rfl
        · exact .inl h
        · exact .inr rfl
      · obtain ⟨h1, cs, h2, h3, _⟩ := hq j hj
        exact ⟨h1, cs, h2, h3⟩
      · rw [hx]
        have := wtL_bulk l elems hlen.symm (fun j hj y hy => by
          obtain ⟨_, _, _, _, h4⟩ := hq j hj
          exact h4 y hy)
        simp only [Rows.uptoBulk]
        omega
    · intro cs x h
      rcases DataW.trod_slice Tryz.underlying43 h with ⟨rfl, _⟩ | ⟨a, len, cap, elems, rest, n', hn, rfl, hx, _, hlc, hcm, hlen, hel, _⟩
      · exact ⟨[], none, 0, 0, 0, rfl, ⟨Nat.le_refl _, by simp [maxLen], .inl rfl, fun _ => rfl⟩, by rw [liesM]; trivial, by simp [wtM]⟩
      obtain rfl : n = n' := by omega
      rw [cells44] at hel
      obtain ⟨l, b, o, hll, hao, hq⟩ := elems_atI (w := w) (a := a) (len := len) (k := 7) (Q := fun i (v : Mem) cs => (∃ cs', cs = .string v.1 :: cs' ∧ v.1.size ≤ maxLen ∧ v.2.lies false w (Old w) cs') ∧ ∀ y, elems[i]? = some y → v.1.size + v.2.wt ≤ Rows.uptoBulk y.1) (by omega) (fun i hi => by
        have he := hel i hi
        rw [List.getElem?_eq_getElem (by omega)] at he
        obtain ⟨cs, h1, h2⟩ := Option.bind_eq_some_iff.1 he
        obtain ⟨k, v, cs', e, hk, hv, hvw⟩ := ihm _ _ h2
        exact ⟨cs, (k, v), h1, ⟨cs', e, hk, hv⟩, fun y hy => by rw [List.getElem?_eq_getElem (by omega)] at hy; rw [← Option.some.inj hy]; exact hvw⟩)
      subst hll
      refine ⟨l, some a, cap, b, o, rfl, ⟨hlc, hcm, ?_, fun h => by cases h⟩, liesM_mk fun j hj => ?_, ?_⟩
      · rcases hao with h | rfl
        · exact .inl h
        · exact .inr rfl
      · obtain ⟨h1, cs, h2, ⟨cs', e, h3, h4⟩, _⟩ := hq j hj
        subst e
        exact ⟨h1, h3, cs', h2, h4⟩
      · rw [hx]
        have := wtM_bulk l elems hlen.symm (fun j hj y hy => by
          obtain ⟨_, _, _, _, h4⟩ := hq j hj
          exact h4 y hy)
        simp only [Rows.uptoBulk]
        omega
theorem open_elemU {n : Nat} {cs : List Value} {x} (h : DataW.trod enc Tryz.prog w 0 spare held n 48 cs = some x) : ∃ e : El, e.lies w (Old w) cs ∧ e.wt ≤ Rows.uptoBulk x.1 := by
  cases n with
  | zero => simp [DataW.trod] at h
  | succ n =>
  obtain ⟨xs, n', hn, hx, hl, hlen, hf⟩ := DataW.trod_struct Tryz.underlying48 h
  obtain rfl : n = n' := by omega
  rw [cellsP35] at hl
  obtain ⟨c0, c1, c2, c3, c4, c5, c6, c7, c8, rfl⟩ := len9 hl
  have h6 : xs.length = 4 := hlen
  obtain ⟨x0, x1, x2, x3, rfl⟩ := len4 h6
  have f0 := hf 0 _ rfl
  simp only [List.getElem?_cons_zero, List.getElem?_cons_succ] at f0
  have f1 := hf 1 _ rfl
  simp only [List.getElem?_cons_zero, List.getElem?_cons_succ] at f1
  have f2 := hf 2 _ rfl
  simp only [List.getElem?_cons_zero, List.getElem?_cons_succ] at f2
  have f3 := hf 3 _ rfl
  simp only [List.getElem?_cons_zero, List.getElem?_cons_succ] at f3
  simp [cells3, cells9, cellsP30, cellsP33] at f0 f1 f2 f3
  obtain ⟨k, e0, q0, wk⟩ := DataW.trod_int Tryz.underlying3 f0
  obtain ⟨s, e1, q1, hs⟩ := DataW.trod_string Tryz.underlying9 f1
  obtain ⟨m, am, cm, bm, om, e2, hm1, hm2, hm3⟩ := (open_allU n).2.2.2 _ _ f2
  obtain ⟨v, hv, hvw⟩ := (open_allU n).1 _ _ f3
  simp only [List.cons.injEq, and_true] at e0 e1 e2
  subst e0 e1 e2
  refine ⟨⟨k, s, m, v⟩, ⟨am, cm, bm, om, _, rfl, in64_of wk, hs, hm1, hm2, hv⟩, ?_⟩
  rw [hx]
  simp only [List.map_cons, List.map_nil, Rows.uptoBulk, Rows.uptoBulkAll, q0, q1, El.wt]
  have hss : s.data.toList.length = s.size := by simp
  omega
theorem open_pathU {n : Nat} {cs : List Value} {x} (h : DataW.trod enc Tryz.prog w 0 spare held n 23 cs = some x) : ∃ (l : List El) (ao : Option Addr) (cap b o : Nat), cs = [.slice ao l.length cap] ∧ Headed ao l.length cap b o ∧ liesP w (Old w) l b o ∧ wtP l ≤ Rows.uptoBulk x.1 := by
  cases n with
  | zero => simp [DataW.trod] at h
  | succ n =>
  rcases DataW.trod_slice Tryz.underlying23 h with ⟨rfl, _⟩ | ⟨a, len, cap, elems, rest, n', hn, rfl, hx, _, hlc, hcm, hlen, hel, _⟩
  · exact ⟨[], none, 0, 0, 0, rfl, ⟨Nat.le_refl _, by simp [maxLen], .inl rfl, fun _ => rfl⟩, fun j hj => by simp at hj, by simp [wtP]⟩
  obtain rfl : n = n' := by omega
  rw [cellsP35] at hel
  obtain ⟨l, b, o, hll, hao, hq⟩ := elems_atI (w := w) (a := a) (len := len) (k := 9) (Q := fun i (e : El) cs => e.lies w (Old w) cs ∧ ∀ y, elems[i]? = some y → e.wt ≤ Rows.uptoBulk y.1) (by omega) (fun i hi => by
    have he := hel i hi
    rw [List.getElem?_eq_getElem (by omega)] at he
    obtain ⟨cs, h1, h2⟩ := Option.bind_eq_some_iff.1 he
    obtain ⟨e, he, hew⟩ := open_elemU h2
    exact ⟨cs, e, h1, he, fun y hy => by rw [List.getElem?_eq_getElem (by omega)] at hy; rw [← Option.some.inj hy]; exact hew⟩)
  subst hll
  refine ⟨l, some a, cap, b, o, rfl, ⟨hlc, hcm, ?_, fun h => by cases h⟩, fun j hj => ?_, ?_⟩
  · rcases hao with h | rfl
    · exact .inl h
    · exact .inr rfl
  · obtain ⟨h1, cs, h2, h3, _⟩ := hq j hj
    exact ⟨h1, cs, h2, h3⟩
  · rw [hx]
    have := wtP_bulk l elems hlen.symm (fun j hj y hy => by
      obtain ⟨_, _, _, _, h4⟩ := hq j hj
      exact h4 y hy)
    simp only [Rows.uptoBulk]
    omega
end
section
variable {H : Type} {enc : TypeId × Value → H}
theorem open23U {W : World} {spare : Nat → Bool} {held : Bool} {v : Value} {d : DataW H} {p : List MemPlace} (hsl : ∃ a n c, v = .slice a n c) (h : DataW.Trod enc Tryz.prog W 0 spare held 23 v d p) : ∃ (l : List El) (ao : Option Addr) (cap b o : Nat), v = .slice ao l.length cap ∧ Headed ao l.length cap b o ∧ liesP W (Old W) l b o ∧ wtP l ≤ Rows.uptoBulk d := by
  obtain ⟨n, hn⟩ := h
  obtain ⟨l, ao, cap, b, o, e, h1, h2, h3⟩ := open_pathU hn
  obtain ⟨a0, n0, c0, rfl⟩ := hsl
  refine ⟨l, ao, cap, b, o, ?_, h1, h2, h3⟩
  simpa [Value.cells] using e
end
end Go.Proofs.YtihcggepeadklaaGreatDoor
