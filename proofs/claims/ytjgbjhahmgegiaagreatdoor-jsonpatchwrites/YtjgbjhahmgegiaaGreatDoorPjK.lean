import Derived.Test.YtjgbjhahmgegiaaGreatDoorG39
/- what Parse answers, plain; sizes; rows of steps that are made. -/
set_option linter.unusedSimpArgs false
set_option linter.unusedVariables false
set_option maxRecDepth 100000
namespace Go.Proofs.YtjgbjhahmgegiaaGreatDoor
open Go.RowKit Go.Lib
/-- a step in its cells -/
def ET (s : Stp) (w : World) (S : Nat → Prop) (cs : List Value) : Prop := ∃ ds, cs = .string s.1 :: .string s.2.1 :: .string s.2.2.1 :: ds ∧ s.2.2.2.lies false w S ds
theorem keepT : KeepE ET := fun x w w' S S' cs hw hS ⟨ds, e, h⟩ => ⟨ds, e, V.lies_keep (fun h => h) hw hS _ h⟩
abbrev OwnT := OwnR ET 51 9
theorem infoT : (Tryz.prog.info? 51).map (fun i => (i.zero, i.size, i.bytes)) = some (some (.agg #[.string ⟨#[]⟩, .string ⟨#[]⟩, .string ⟨#[]⟩, .int .i64 0, .bool false, .int .i64 0, .string ⟨#[]⟩, .slice none 0 0, .slice none 0 0]), 9, 136) := by kernel_rfl
theorem oneT {a b c s : ByteArray} {k i : Int} {q : Bool} {p r : Option Addr} {n m n' m' : Nat} : ∀ u ∈ [Value.string a, .string b, .string c, .int .i64 k, .bool q, .int .i64 i, .string s, .slice p n m, .slice r n' m'], u.oneCell' = true := by
  intro u hu
  simp at hu
  rcases hu with rfl | rfl | rfl | rfl | rfl | rfl | rfl | rfl | rfl <;> rfl
theorem own_listT {w : World} {N : Nat} {S T : Nat → Prop} {v : Value} {l : List Stp} (h : OwnT w N S v l) (hT : ∀ b, S b → T b) (hv : ∀ g, v.ownBlock = some g → T g) : ∃ a c b o, v = .slice a l.length c ∧ Headed a l.length c b o ∧ liesT w T l b o := by
  have h' := h
  obtain ⟨⟨xs, h1, h2⟩, h3⟩ := h'
  rcases h1.2 with ⟨rfl, e⟩ | ⟨g, cap, cur, rfl, _⟩
  · have : l = [] := List.length_eq_zero_iff.1 e
    subst this
    exact ⟨none, 0, 0, 0, rfl, ⟨Nat.le_refl _, by simp [maxLen], .inl rfl, fun _ => rfl⟩, fun j hj => by simp at hj⟩
  · have hle := h.le
    refine ⟨_, cap, g, 0, rfl, ⟨hle.1, hle.2, .inr rfl, fun h => by cases h⟩, fun j hj => ⟨hv g rfl, ?_⟩⟩
    obtain ⟨cs, k1, ds, rfl, k3⟩ := h.at rfl j hj
    exact ⟨ds, k1, V.lies_keep (fun h => h) (fun _ _ => rfl) hT _ k3⟩
theorem set9_row {w : World} {g o : Nat} {arr : Array Value} {ty : TypeId} (h : w.heap[g]? = some (.cells arr ty (0, 0))) (ho : o + 9 ≤ arr.size) (c0 c1 c2 c3 c4 c5 c6 c7 c8 : Value) :
    ∃ arr', (((((((((w.setCell ⟨g, o, none⟩ c0).setCell ⟨g, o + 1, none⟩ c1).setCell ⟨g, o + 2, none⟩ c2).setCell ⟨g, o + 3, none⟩ c3).setCell ⟨g, o + 4, none⟩ c4).setCell ⟨g, o + 5, none⟩ c5).setCell ⟨g, o + 6, none⟩ c6).setCell ⟨g, o + 7, none⟩ c7).setCell ⟨g, o + 8, none⟩ c8).heap[g]? = some (.cells arr' ty (0, 0)) ∧ arr'.size = arr.size ∧ (∀ p, p < o → arr'[p]? = arr[p]?) ∧ rowAt (((((((((w.setCell ⟨g, o, none⟩ c0).setCell ⟨g, o + 1, none⟩ c1).setCell ⟨g, o + 2, none⟩ c2).setCell ⟨g, o + 3, none⟩ c3).setCell ⟨g, o + 4, none⟩ c4).setCell ⟨g, o + 5, none⟩ c5).setCell ⟨g, o + 6, none⟩ c6).setCell ⟨g, o + 7, none⟩ c7).setCell ⟨g, o + 8, none⟩ c8) g o [c0, c1, c2, c3, c4, c5, c6, c7, c8] ∧ (∀ x, x ≠ g → (((((((((w.setCell ⟨g, o, none⟩ c0).setCell ⟨g, o + 1, none⟩ c1).setCell ⟨g, o + 2, none⟩ c2).setCell ⟨g, o + 3, none⟩ c3).setCell ⟨g, o + 4, none⟩ c4).setCell ⟨g, o + 5, none⟩ c5).setCell ⟨g, o + 6, none⟩ c6).setCell ⟨g, o + 7, none⟩ c7).setCell ⟨g, o + 8, none⟩ c8).heap[x]? = w.heap[x]?) ∧ (((((((((w.setCell ⟨g, o, none⟩ c0).setCell ⟨g, o + 1, none⟩ c1).setCell ⟨g, o + 2, none⟩ c2).setCell ⟨g, o + 3, none⟩ c3).setCell ⟨g, o + 4, none⟩ c4).setCell ⟨g, o + 5, none⟩ c5).setCell ⟨g, o + 6, none⟩ c6).setCell ⟨g, o + 7, none⟩ c7).setCell ⟨g, o + 8, none⟩ c8).heap.size = w.heap.size := by
  have h0 : (w.setCell ⟨g, o, none⟩ c0).heap[g]? = some (.cells (arr.setIfInBounds (o) c0) ty (0, 0)) := by rw [set_block h]
  have h1 : ((w.setCell ⟨g, o, none⟩ c0).setCell ⟨g, o + 1, none⟩ c1).heap[g]? = some (.cells ((arr.setIfInBounds (o) c0).setIfInBounds (o + 1) c1) ty (0, 0)) := by rw [set_block h0]
  have h2 : (((w.setCell ⟨g, o, none⟩ c0).setCell ⟨g, o + 1, none⟩ c1).setCell ⟨g, o + 2, none⟩ c2).heap[g]? = some (.cells (((arr.setIfInBounds (o) c0).setIfInBounds (o + 1) c1).setIfInBounds (o + 2) c2) ty (0, 0)) := by rw [set_block h1]
  have h3 : ((((w.setCell ⟨g, o, none⟩ c0).setCell ⟨g, o + 1, none⟩ c1).setCell ⟨g, o + 2, none⟩ c2).setCell ⟨g, o + 3, none⟩ c3).heap[g]? = some (.cells ((((arr.setIfInBounds (o) c0).setIfInBounds (o + 1) c1).setIfInBounds (o + 2) c2).setIfInBounds (o + 3) c3) ty (0, 0)) := by rw [set_block h2]
  have h4 : (((((w.setCell ⟨g, o, none⟩ c0).setCell ⟨g, o + 1, none⟩ c1).setCell ⟨g, o + 2, none⟩ c2).setCell ⟨g, o + 3, none⟩ c3).setCell ⟨g, o + 4, none⟩ c4).heap[g]? = some (.cells (((((arr.setIfInBounds (o) c0).setIfInBounds (o + 1) c1).setIfInBounds (o + 2) c2).setIfInBounds (o + 3) c3).setIfInBounds (o + 4) c4) ty (0, 0)) := by rw [set_block h3]
  have h5 : ((((((w.setCell ⟨g, o, none⟩ c0).setCell ⟨g, o + 1, none⟩ c1).setCell ⟨g, o + 2, none⟩ c2).setCell ⟨g, o + 3, none⟩ c3).setCell ⟨g, o + 4, none⟩ c4).setCell ⟨g, o + 5, none⟩ c5).heap[g]? = some (.cells ((((((arr.setIfInBounds (o) c0).setIfInBounds (o + 1) c1).setIfInBounds (o + 2) c2).setIfInBounds (o + 3) c3).setIfInBounds (o + 4) c4).setIfInBounds (o + 5) c5) ty (0, 0)) := by rw [set_block h4]
  have h6 : (((((((w.setCell ⟨g, o, none⟩ c0).setCell ⟨g, o + 1, none⟩ c1).setCell ⟨g, o + 2, none⟩ c2).setCell ⟨g, o + 3, none⟩ c3).setCell ⟨g, o + 4, none⟩ c4).setCell ⟨g, o + 5, none⟩ c5).setCell ⟨g, o + 6, none⟩ c6).heap[g]? = some (.cells (((((((arr.setIfInBounds (o) c0).setIfInBounds (o + 1) c1).setIfInBounds (o + 2) c2).setIfInBounds (o + 3) c3).setIfInBounds (o + 4) c4).setIfInBounds (o + 5) c5).setIfInBounds (o + 6) c6) ty (0, 0)) := by rw [set_block h5]
  have h7 : ((((((((w.setCell ⟨g, o, none⟩ c0).setCell ⟨g, o + 1, none⟩ c1).setCell ⟨g, o + 2, none⟩ c2).setCell ⟨g, o + 3, none⟩ c3).setCell ⟨g, o + 4, none⟩ c4).setCell ⟨g, o + 5, none⟩ c5).setCell ⟨g, o + 6, none⟩ c6).setCell ⟨g, o + 7, none⟩ c7).heap[g]? = some (.cells ((((((((arr.setIfInBounds (o) c0).setIfInBounds (o + 1) c1).setIfInBounds (o + 2) c2).setIfInBounds (o + 3) c3).setIfInBounds (o + 4) c4).setIfInBounds (o + 5) c5).setIfInBounds (o + 6) c6).setIfInBounds (o + 7) c7) ty (0, 0)) := by rw [set_block h6]
  have h8 : (((((((((w.setCell ⟨g, o, none⟩ c0).setCell ⟨g, o + 1, none⟩ c1).setCell ⟨g, o + 2, none⟩ c2).setCell ⟨g, o + 3, none⟩ c3).setCell ⟨g, o + 4, none⟩ c4).setCell ⟨g, o + 5, none⟩ c5).setCell ⟨g, o + 6, none⟩ c6).setCell ⟨g, o + 7, none⟩ c7).setCell ⟨g, o + 8, none⟩ c8).heap[g]? = some (.cells (((((((((arr.setIfInBounds (o) c0).setIfInBounds (o + 1) c1).setIfInBounds (o + 2) c2).setIfInBounds (o + 3) c3).setIfInBounds (o + 4) c4).setIfInBounds (o + 5) c5).setIfInBounds (o + 6) c6).setIfInBounds (o + 7) c7).setIfInBounds (o + 8) c8) ty (0, 0)) := by rw [set_block h7]
  refine ⟨_, h8, by simp, fun p hp => ?_, ?_, fun x hx => ?_, by simp [size_set1]⟩
  · simp only [Array.getElem?_setIfInBounds]
    repeat (rw [if_neg (by omega)])
  · intro q u hu
    rw [cell_of_block h8]
    have hq : q < 9 := by
      rcases Nat.lt_or_ge q 9 with h | h
      · exact h
      · rw [List.getElem?_eq_none (by simpa using h)] at hu; cases hu
    rcases (show q = 0 ∨ q = 1 ∨ q = 2 ∨ q = 3 ∨ q = 4 ∨ q = 5 ∨ q = 6 ∨ q = 7 ∨ q = 8 by omega) with rfl | rfl | rfl | rfl | rfl | rfl | rfl | rfl | rfl
    all_goals
      simp only [List.getElem?_cons_zero, List.getElem?_cons_succ, Option.some.injEq] at hu
      subst hu
      simp (config := { maxSteps := 200000 }) only [Array.getElem?_setIfInBounds, Array.size_setIfInBounds]
      repeat (first | rw [if_pos trivial] | rw [if_neg (by omega)] | rw [if_pos (by omega)])
  · rw [set_other hx]; rw [set_other hx]; rw [set_other hx]; rw [set_other hx]; rw [set_other hx]; rw [set_other hx]; rw [set_other hx]; rw [set_other hx]; rw [set_other hx]
theorem Below.set9 {B M : Nat} {a w : World} (h : Below B a w) (hM : B ≤ M) (i0 i1 i2 i3 i4 i5 i6 i7 i8 : Nat) (u0 u1 u2 u3 u4 u5 u6 u7 u8 : Value) :
    Below B a (((((((((w.setCell ⟨M, i0, none⟩ u0).setCell ⟨M, i1, none⟩ u1).setCell ⟨M, i2, none⟩ u2).setCell ⟨M, i3, none⟩ u3).setCell ⟨M, i4, none⟩ u4).setCell ⟨M, i5, none⟩ u5).setCell ⟨M, i6, none⟩ u6).setCell ⟨M, i7, none⟩ u7).setCell ⟨M, i8, none⟩ u8) := by
  repeat (refine Below.setCell ?_ (by assumption) _)
  exact h
/-- the rows that stand so far in the block g -/
def RowsT (l : List Stp) (g : Nat) (w : World) : Prop := ∀ (i : Nat) (h : i < l.length), ∃ cs, rowAt w g (i * 9) cs ∧ cs.length = 9 ∧ ET l[i] w (fun x => g < x ∧ x < w.heap.size) cs
theorem RowsT.below {l : List Stp} {g : Nat} {w w' : World} (h : RowsT l g w) (hg : g < w.heap.size) (hb : Below w.heap.size w w') : RowsT l g w' := fun i hi => by
  obtain ⟨cs, r, hl, lies⟩ := h i hi
  exact ⟨cs, r.keep (hb.block g hg), hl, keepT _ _ _ _ _ _ (fun x hx => hb.block x hx.2) (fun x hx => ⟨hx.1, Nat.lt_of_lt_of_le hx.2 hb.size⟩) lies⟩
/-- one row more -/
theorem RowsT.store {l : List Stp} {s : Stp} {j g n : Nat} {w w3 : World} (h : RowsT l g w3) (hB : Blk g 51 n w3) (hj : l.length = j) (hn : j * 9 + 9 ≤ n) {c0 c1 c2 c3 c4 c5 c6 c7 c8 : Value} (hv : ET s w3 (fun x => g < x ∧ x < w3.heap.size) [c0, c1, c2, c3, c4, c5, c6, c7, c8]) (hw : Below w.heap.size w w3) (hg : w.heap.size ≤ g) :
    RowsT (l ++ [s]) g (((((((((w3.setCell ⟨g, j * 9, none⟩ c0).setCell ⟨g, j * 9 + 1, none⟩ c1).setCell ⟨g, j * 9 + 2, none⟩ c2).setCell ⟨g, j * 9 + 3, none⟩ c3).setCell ⟨g, j * 9 + 4, none⟩ c4).setCell ⟨g, j * 9 + 5, none⟩ c5).setCell ⟨g, j * 9 + 6, none⟩ c6).setCell ⟨g, j * 9 + 7, none⟩ c7).setCell ⟨g, j * 9 + 8, none⟩ c8) ∧ Blk g 51 n (((((((((w3.setCell ⟨g, j * 9, none⟩ c0).setCell ⟨g, j * 9 + 1, none⟩ c1).setCell ⟨g, j * 9 + 2, none⟩ c2).setCell ⟨g, j * 9 + 3, none⟩ c3).setCell ⟨g, j * 9 + 4, none⟩ c4).setCell ⟨g, j * 9 + 5, none⟩ c5).setCell ⟨g, j * 9 + 6, none⟩ c6).setCell ⟨g, j * 9 + 7, none⟩ c7).setCell ⟨g, j * 9 + 8, none⟩ c8) ∧ Below w.heap.size w (((((((((w3.setCell ⟨g, j * 9, none⟩ c0).setCell ⟨g, j * 9 + 1, none⟩ c1).setCell ⟨g, j * 9 + 2, none⟩ c2).setCell ⟨g, j * 9 + 3, none⟩ c3).setCell ⟨g, j * 9 + 4, none⟩ c4).setCell ⟨g, j * 9 + 5, none⟩ c5).setCell ⟨g, j * 9 + 6, none⟩ c6).setCell ⟨g, j * 9 + 7, none⟩ c7).setCell ⟨g, j * 9 + 8, none⟩ c8) := by
  obtain ⟨arr, h1, h2⟩ := hB
  obtain ⟨arr', e1, e2, e3, e4, e5, e6⟩ := set9_row h1 (o := j * 9) (by omega) c0 c1 c2 c3 c4 c5 c6 c7 c8
  have hBl := Below.set9 hw hg (j * 9) (j * 9 + 1) (j * 9 + 2) (j * 9 + 3) (j * 9 + 4) (j * 9 + 5) (j * 9 + 6) (j * 9 + 7) (j * 9 + 8) c0 c1 c2 c3 c4 c5 c6 c7 c8
  generalize (((((((((w3.setCell ⟨g, j * 9, none⟩ c0).setCell ⟨g, j * 9 + 1, none⟩ c1).setCell ⟨g, j * 9 + 2, none⟩ c2).setCell ⟨g, j * 9 + 3, none⟩ c3).setCell ⟨g, j * 9 + 4, none⟩ c4).setCell ⟨g, j * 9 + 5, none⟩ c5).setCell ⟨g, j * 9 + 6, none⟩ c6).setCell ⟨g, j * 9 + 7, none⟩ c7).setCell ⟨g, j * 9 + 8, none⟩ c8) = W at *
  refine ⟨fun i hi => ?_, ⟨arr', e1, by omega⟩, hBl⟩
  by_cases hij' : i < j
  · obtain ⟨cs, r, hl, lies⟩ := h i (by omega)
    rw [List.getElem_append_left (by omega)]
    refine ⟨cs, fun q u hu => ?_, hl, keepT _ _ _ _ _ _ (fun x hx => e5 x (by have := hx.1; omega)) (fun x hx => ⟨hx.1, by rw [e6]; exact hx.2⟩) lies⟩
    have := r q u hu
    have hq : q < 9 := by
      rcases Nat.lt_or_ge q 9 with h | h
      · exact h
      · rw [List.getElem?_eq_none (by omega)] at hu; cases hu
    rw [cell_of_block h1] at this
    rw [cell_of_block e1, e3 _ (by omega)]
    exact this
  · obtain rfl : i = j := by simp at hi; omega
    rw [List.getElem_append_right (by omega)]
    simp only [hj, Nat.sub_self, List.getElem_cons_zero]
    exact ⟨_, e4, rfl, keepT _ _ _ _ _ _ (fun x hx => e5 x (by have := hx.1; omega)) (fun x hx => ⟨hx.1, by rw [e6]; exact hx.2⟩) hv⟩
end Go.Proofs.YtjgbjhahmgegiaaGreatDoor
