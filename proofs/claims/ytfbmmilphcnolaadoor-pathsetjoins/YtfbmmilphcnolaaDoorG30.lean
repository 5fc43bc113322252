/- joined: RsrP RsrR -/
import Derived.Test.YtfbmmilphcnolaaDoorG27
import Derived.Test.YtfbmmilphcnolaaDoorCpyR
import Derived.Test.YtfbmmilphcnolaaDoorOdcP
import Derived.Laws.AppendOwnNone
/- Rows that are put together: appends of slices; a path put in where it belongs. -/
set_option linter.unusedSimpArgs false
set_option linter.unusedVariables false
namespace Go.Proofs.YtfbmmilphcnolaaDoor
open Go.RowKit Go.Lib
section
variable {P : Program}
/-- append of a slice to a row of one's own -/
theorem wpl_catP {w : World} {ops : Array Oper} {rest : List Oper} {o : Oper} {a : Act} {Q : Exit → Act → World → Prop} (hgd : o.guard = none) (s x : Operand) (t : TypeId)
    (ho : o.op = .call { callee := .builtin .append, args := #[s, x], argTypes := #[t, t] })
    (base : Nat) (e : TypeId) (i : TypeInfo) (z : Value) (size bytes : Nat) (ht : P.underlying t = some (.slice e)) (hi : P.info? e = some i) (hz : i.zero = some z)
    (hsize : i.size = size) (hby : i.bytes = bytes) (hzs : z.cells.size = size) (hsz : 0 < size) (hb200 : bytes ≤ 200)
    (v : Value) (n : Nat) (xs : List Value) (hs : a.eval s = v) (hown : w.ownsRow base e size v n xs) (ao : Option Addr) (m c b q : Nat) (hx : a.eval x = .slice ao m c) (hd : Headed ao m c b q) (news : List Value) (hl : news.length = m * size)
    (hnews : ∀ j u, news[j]? = some u → w.cell? ⟨b, q + j, none⟩ = some u) (h1 : ∀ u ∈ news, u.oneCell' = true) (hm : n + m ≤ 4294967296) (hbase : base ≤ w.heap.size)
    (h : ∀ v' w', w'.ownsRow base e size v' (n + m) (xs ++ news) → w.grownBy w' v.ownBlock → wpList P ops Q rest (a.put o.dst v') w') : wpList P ops Q (o :: rest) a w := by
  cases ao with
  | none =>
    have hc := hd.nil rfl
    have hm0 : m = 0 := by have := hd.le; omega
    subst hm0 hc
    have hn0 : news = [] := List.eq_nil_of_length_eq_zero (by simpa using hl)
    subst hn0
    exact wpList_append_own_none hgd s x t ho base e i size ht hi v n xs hs hown hx (h _ _ (by simpa using hown) (World.grownBy.refl _ _))
  | some ad =>
    refine wpList_append_own w hgd s x t ho base e i z size bytes ht hi hz hsize hby hzs hsz v n xs hs hown ad m c news hx hl ?_ h1 (by simp only [maxLen]; omega) ?_ hbase ?_
    · intro j u hu
      rcases hd.at_ with h0 | h0
      · subst h0
        have hn0 : news = [] := List.eq_nil_of_length_eq_zero (by simpa using hl)
        subst hn0
        simp at hu
      · have := Option.some.inj h0
        subst this
        rw [Go.WideShapes.add_plain]
        exact hnews j u hu
    · have := Nat.mul_le_mul (show n + m ≤ 4294967296 by omega) hb200
      omega
    · intro v' w' r1 r2 _
      exact h v' w' r1 r2
end
theorem own_keep {w w' : World} {base e size n : Nat} {v : Value} {xs : List Value} {row : Option Nat} (h : w.ownsRow base e size v n xs) (hg : w.grownBy w' row) (hne : ∀ r, row = some r → v.ownBlock ≠ some r) : w'.ownsRow base e size v n xs := by
  refine h.kept hg ?_
  cases hv : v.ownBlock with
  | none => exact .inl rfl
  | some g =>
    refine .inr fun e => ?_
    exact hne g e.symm hv
theorem own_below {w w' : World} {base e size n : Nat} {v : Value} {xs : List Value} (h : w.ownsRow base e size v n xs) (hb : Below w.heap.size w w') : w'.ownsRow base e size v n xs := own_keep h (grown_of_below hb) (fun r e => by cases e)
theorem own_base {w : World} {base base' e size n : Nat} {v : Value} {xs : List Value} (h : w.ownsRow base e size v n xs) (hb : base' ≤ base) : w.ownsRow base' e size v n xs := by
  refine ⟨h.1, ?_⟩
  rcases h.2 with h | ⟨g, cap, cur, e, q, r⟩
  · exact .inl h
  · exact .inr ⟨g, cap, cur, e, Nat.le_trans hb q, r⟩
theorem own_cell {w : World} {base e g n cap : Nat} {xs : List Value} (h : w.ownsRow base e 1 (.slice (some ⟨g, 0, none⟩) n cap) n xs) {j : Nat} {u : Value} (hu : xs[j]? = some u) : w.cell? ⟨g, j, none⟩ = some u := by
  obtain ⟨hl, ⟨e, _⟩ | ⟨g', cap', cur, e, _, hb, _, _, _, hp⟩⟩ := h
  · cases e
  · cases e
    have hj : j < xs.length := (List.getElem?_eq_some_iff.1 hu).1
    rw [cell_of_block hb, ← Array.getElem?_toList, ← hu, ← hp, List.getElem?_take, if_pos (by omega)]
theorem own_facts {w : World} {base e g n cap : Nat} {xs : List Value} (h : w.ownsRow base e 1 (.slice (some ⟨g, 0, none⟩) n cap) n xs) : base ≤ g ∧ g < w.heap.size ∧ n ≤ cap ∧ cap ≤ maxLen := by
  obtain ⟨hl, ⟨e, _⟩ | ⟨g', cap', cur, e, hb0, hb, h1, h2, _, hp⟩⟩ := h
  · cases e
  · cases e
    exact ⟨hb0, (Array.getElem?_eq_some_iff.1 hb).1, h1, h2⟩
theorem own_form {w : World} {base e size n : Nat} {v : Value} {xs : List Value} (h : w.ownsRow base e size v n xs) : (v = .slice none 0 0 ∧ n = 0) ∨ ∃ g cap, v = .slice (some ⟨g, 0, none⟩) n cap := by
  rcases h.2 with h | ⟨g, cap, cur, e, _⟩
  · exact .inl h
  · exact .inr ⟨g, cap, e⟩
theorem own_lies {w0 w : World} {S T : Nat → Prop} {R : List (PC w0 S)} {base : Nat} {v : Value} (h : w.ownsRow base 24 1 v R.length (R.map PC.enc)) (hw : ∀ b, S b → w.heap[b]? = w0.heap[b]?) (hS : ∀ b, S b → T b) (hT : ∀ g, base ≤ g → g < w.heap.size → T g) : ∃ a c b o, v = .slice a (R.map PC.p).length c ∧ Headed a (R.map PC.p).length c b o ∧ liesQ w T (R.map PC.p) b o := by
  rcases own_form h with ⟨rfl, h0⟩ | ⟨g, cap, rfl⟩
  · have : R = [] := List.length_eq_zero_iff.1 h0
    subst this
    exact ⟨none, 0, 0, 0, rfl, ⟨Nat.le_refl _, by simp [maxLen], .inl rfl, fun _ => rfl⟩, fun j hj => by simp at hj⟩
  · have hf := own_facts h
    refine ⟨some ⟨g, 0, none⟩, cap, g, 0, by simp, ⟨by simpa using hf.2.2.1, hf.2.2.2, .inr rfl, fun h => by cases h⟩, fun j hj => ?_⟩
    have hj' : j < R.length := by simpa using hj
    refine ⟨hT g hf.1 hf.2.1, (R[j]).enc, by rw [Nat.zero_add]; exact own_cell h (by rw [List.getElem?_map, List.getElem?_eq_getElem hj']; rfl), ?_⟩
    rw [List.getElem_map]
    exact (R[j]).lies hw hS
theorem enc_one {w0 : World} {S : Nat → Prop} {R : List (PC w0 S)} : ∀ u ∈ R.map PC.enc, u.oneCell' = true := fun u hu => by
  obtain ⟨x, _, rfl⟩ := List.mem_map.1 hu
  rfl
/-- a path put in where it belongs -/
theorem rs_ins {l R : List (List El)} {p : List El} {k : Nat} (h : Rs l R) (hk : k ≤ R.length) (h1 : ∀ i, (hi : i < R.length) → k ≤ i → lexL oeE p R[i] < 0) (h2 : 0 < k → lexL oeE p R[k - 1]! > 0) : Rs (l ++ [p]) (R.take k ++ [p] ++ R.drop k) := by
  have hlow : ∀ a ∈ R.take k, lexL oeE a p < 0 := fun a ha => by
    obtain ⟨i, hi, rfl⟩ := List.getElem_of_mem ha
    rw [List.length_take] at hi
    rw [List.getElem_take]
    have hk0 : 0 < k := by omega
    have h3 := h2 hk0
    rw [getElem!_pos R (k - 1) (by omega)] at h3
    have h4 := wk_P.anti p R[k - 1]
    by_cases e : i = k - 1
    · subst e; omega
    · have h5 := List.pairwise_iff_getElem.1 h.1 i (k - 1) (by omega) (by omega) (by omega)
      exact wk_P.tri _ _ _ h5 (by omega)
  have hhigh : ∀ b ∈ R.drop k, lexL oeE p b < 0 := fun b hb => by
    obtain ⟨i, hi, rfl⟩ := List.getElem_of_mem hb
    rw [List.length_drop] at hi
    rw [List.getElem_drop]
    exact h1 (k + i) (by omega) (by omega)
  refine ⟨?_, fun q => ?_⟩
  · rw [List.append_assoc, List.pairwise_append]
    refine ⟨h.1.sublist (List.take_sublist _ _), ?_, fun a ha b hb => ?_⟩
    · rw [List.singleton_append, List.pairwise_cons]
      exact ⟨hhigh, h.1.sublist (List.drop_sublist _ _)⟩
    · rcases List.mem_append.1 hb with hb | hb
      · rw [List.mem_singleton.1 hb]; exact hlow a ha
      · exact wk_P.tri _ _ _ (hlow a ha) (hhigh b hb)
  · have e : q ∈ R ↔ q ∈ R.take k ∨ q ∈ R.drop k := by rw [← List.mem_append, List.take_append_drop]
    simp only [List.mem_append, List.mem_singleton]
    rw [← h.2 q, e]
    constructor
    · rintro ((h | h) | h)
      · exact .inl (.inl h)
      · exact .inr h
      · exact .inl (.inr h)
    · rintro ((h | h) | h)
      · exact .inl (.inl h)
      · exact .inr h
      · exact .inl (.inr h)
theorem rs_same {l R : List (List El)} {p : List El} (h : Rs l R) (hp : p ∈ R) : Rs (l ++ [p]) R := ⟨h.1, fun q => by
  simp only [List.mem_append, List.mem_singleton]
  rw [← h.2 q]
  exact ⟨.inl, fun h => h.elim id (fun e => e ▸ hp)⟩⟩
end Go.Proofs.YtfbmmilphcnolaaDoor
/- The document's Sort. -/
namespace Go.Proofs.YtfbmmilphcnolaaDoor
open Go.RowKit Go.Lib
theorem cmpP_oe {a b : List El} (ha : pathB a = true) (hb : pathB b = true) : cmpP a b = lexL oeE a b := by rw [cmpP_yes ha hb, op_rp (pathB_all ha).2 (pathB_all hb).2]
end Go.Proofs.YtfbmmilphcnolaaDoor
