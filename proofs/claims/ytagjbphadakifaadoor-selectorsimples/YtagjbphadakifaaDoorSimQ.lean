import Derived.Test.YtagjbphadakifaaDoorTrmY
/- SelectorSimples: the argument opened by its weights. -/
set_option linter.unusedSimpArgs false
set_option linter.unusedVariables false
namespace Go.Proofs.YtagjbphadakifaaDoor
open Go.Shelf Go.Lib Go.ChangeShapes Go.RowKit Go.WideShapes Go.Deep
variable {H : Type} {enc : TypeId × Value → H}
theorem mem_all {P : Program} {e : TypeId} : ∀ {l : List (DataW H)} {d : DataW H}, d ∈ l → ∀ n ∈ d.weights P e, n ∈ DataW.weightsAll P e l
  | x :: t, d, hd, n, hn => by
    rw [DataW.weightsAll, List.mem_append]
    rcases List.mem_cons.1 hd with rfl | h
    · exact .inl hn
    · exact .inr (mem_all h n hn)
section
variable {w : World} {spare : Nat → Bool} {held : Bool}
theorem openw_texts {n : Nat} {cs : List Value} {x} (h : DataW.trod enc Tryd.prog w 0 spare held n 48 cs = some x) (hr : ∀ m ∈ x.1.weights Tryd.prog 48, m ≤ 140737488355328) : ∃ (l : List ByteArray) (a : Option Addr) (c b o : Nat), cs = [.slice a l.length c] ∧ Headed a l.length c b o ∧ liesS w (Old w) l b o := by
  cases n with
  | zero => simp [DataW.trod] at h
  | succ n =>
  rcases DataW.trod_slice Tryd.underlying48 h with ⟨rfl, _⟩ | ⟨a, len, cap, elems, rest, n', hn, rfl, hx, _, hlc, hcm, hlen, hel, _⟩
  · exact ⟨[], none, 0, 0, 0, rfl, ⟨Nat.le_refl _, by simp [maxLen], .inl rfl, fun _ => rfl⟩, fun j hj => by simp at hj⟩
  rw [cells9] at hel
  obtain ⟨l, b, o, hll, hao, hq⟩ := elems_at (w := w) (a := a) (len := len) (k := 1) (Q := fun (s : ByteArray) cs => cs = [.string s] ∧ s.size ≤ 140737488355328) (by omega) (fun i hi => by
    have he := hel i hi
    rw [List.getElem?_eq_getElem (by omega)] at he
    obtain ⟨cs, h1, h2⟩ := Option.bind_eq_some_iff.1 he
    obtain ⟨s, e3, q3, hs⟩ := DataW.trod_string Tryd.underlying9 h2
    refine ⟨cs, s, h1, e3, ?_⟩
    have hm := hr s.data.toList.length (by
      rw [hx, DataW.weights, Tryd.underlying48]
      exact List.mem_cons_of_mem _ (List.mem_append_left _ (mem_all (List.mem_map.2 ⟨elems[i], List.getElem_mem _, rfl⟩) _ (by rw [q3]; simp [DataW.weights]))))
    have hss : s.data.toList.length = s.size := by simp
    omega)
  subst hll
  refine ⟨l, some a, cap, b, o, rfl, ⟨hlc, hcm, ?_, fun h => by cases h⟩, fun j hj => ?_⟩
  · rcases hao with h | rfl
    · exact .inl h
    · exact .inr rfl
  · obtain ⟨h1, cs, h2, rfl, h4⟩ := hq j hj
    refine ⟨h1, h4, ?_⟩
    have := h2 0 _ rfl
    simpa using this
theorem openw_term {n : Nat} {cs : List Value} {x} (h : DataW.trod enc Tryd.prog w 0 spare held n 50 cs = some x) (hr : ∀ m ∈ x.1.weights Tryd.prog 50, m ≤ 140737488355328) : ∃ t : Trm, Trm.lies false w (Old w) t cs := by
  cases n with
  | zero => simp [DataW.trod] at h
  | succ n =>
  obtain ⟨xs, n', hn, hx, hl, hlen, hf⟩ := DataW.trod_struct Tryd.underlying50 h
  rw [cells50] at hl
  obtain ⟨c0, c1, c2, rfl⟩ := len3 hl
  have h6 : xs.length = 3 := hlen
  obtain ⟨x0, x1, x2, rfl⟩ := len3 h6
  have f0 := hf 0 _ rfl
  simp only [List.getElem?_cons_zero, List.getElem?_cons_succ] at f0
  have f1 := hf 1 _ rfl
  simp only [List.getElem?_cons_zero, List.getElem?_cons_succ] at f1
  have f2 := hf 2 _ rfl
  simp only [List.getElem?_cons_zero, List.getElem?_cons_succ] at f2
  simp [cells3, cells9, cells48] at f0 f1 f2
  obtain ⟨s, e0, q0, hs⟩ := DataW.trod_string Tryd.underlying9 f0
  obtain ⟨k, e1, q1, wk⟩ := DataW.trod_int Tryd.underlying3 f1
  have hm := hr s.data.toList.length (by
    rw [hx, DataW.weights, Tryd.underlying50]
    exact DataW.weights_mem_each (j := 0) rfl rfl _ (by rw [q0]; simp [DataW.weights]))
  have hss : s.data.toList.length = s.size := by simp
  obtain ⟨l, a, c, b, o, e2, h1, h2⟩ := openw_texts f2 (fun m hm => hr m (by
    rw [hx, DataW.weights, Tryd.underlying50]
    exact DataW.weights_mem_each (j := 2) rfl rfl m hm))
  simp only [List.cons.injEq, and_true] at e0 e1 e2
  subst e0 e1 e2
  exact ⟨(s, k, l), a, c, b, o, rfl, in64_of wk, (by show s.size ≤ _; omega), h1, h2, fun h => by cases h⟩
theorem openw_terms {W : World} {spare : Nat → Bool} {held : Bool} {v : Value} {d : DataW H} {p : List MemPlace} (hsl : ∃ a n c, v = .slice a n c) (h : DataW.Trod enc Tryd.prog W 0 spare held 22 v d p) (hr : ∀ m ∈ d.weights Tryd.prog 22, m ≤ 140737488355328) : ∃ (l : List Trm) (a : Option Addr) (c b o : Nat), v = .slice a l.length c ∧ Headed a l.length c b o ∧ liesT false W (Old W) l b o := by
  obtain ⟨n, hn⟩ := h
  obtain ⟨a0, n0, c0, rfl⟩ := hsl
  rcases DataW.trod_slice Tryd.underlying22 hn with ⟨e, _⟩ | ⟨a, len, cap, elems, rest, n', _, e, hx, _, hlc, hcm, hlen, hel, _⟩
  · have hvv : (Value.slice a0 n0 c0) = .slice none 0 0 := by simpa [Value.cells] using e
    rw [hvv]
    exact ⟨[], none, 0, 0, 0, rfl, ⟨Nat.le_refl _, by simp [maxLen], .inl rfl, fun _ => rfl⟩, fun j hj => by simp at hj⟩
  have hvv : (Value.slice a0 n0 c0) = .slice (some a) len cap := by simpa [Value.cells] using e
  rw [hvv]
  rw [cells50] at hel
  have hd : d = .slice (elems.map (·.1)) (rest.map (·.1)) := congrArg Prod.fst hx
  obtain ⟨l, b, o, hll, hao, hq⟩ := elems_at (w := W) (a := a) (len := len) (k := 3) (Q := fun (t : Trm) cs => Trm.lies false W (Old W) t cs) (by omega) (fun i hi => by
    have he := hel i hi
    rw [List.getElem?_eq_getElem (by omega)] at he
    obtain ⟨cs, h1, h2⟩ := Option.bind_eq_some_iff.1 he
    obtain ⟨t, ht⟩ := openw_term h2 (fun m hm => hr m (by
      rw [hd, DataW.weights, Tryd.underlying22]
      exact List.mem_cons_of_mem _ (List.mem_append_left _ (mem_all (List.mem_map.2 ⟨_, List.getElem_mem _, rfl⟩) m hm))))
    exact ⟨cs, t, h1, ht⟩)
  subst hll
  refine ⟨l, some a, cap, b, o, rfl, ⟨hlc, hcm, ?_, fun h => by cases h⟩, fun j hj => ?_⟩
  · rcases hao with h | rfl
    · exact .inl h
    · exact .inr rfl
  · obtain ⟨h1, cs, h2, h3⟩ := hq j hj
    exact ⟨h1, cs, h2, h3⟩
end
end Go.Proofs.YtagjbphadakifaaDoor
