import Derived.Test.YthgfomblodhoaaaDoorG41
/- Rows gone on with by marks: steps and what is kept. -/
set_option linter.unusedSimpArgs false
set_option linter.unusedVariables false
namespace Go.Proofs.YthgfomblodhoaaaDoor
open Go Go.RowKit Go.Lib Go.Shelf
section
variable {P : Program}
/-- what can be gone on with: a row of its own, or nothing at all -/
def Rw (w : World) (e size : Nat) (s : Value) (n c : Nat) (xs : List Value) : Prop :=
  (0 < c ∧ (∃ g, s = .slice (some ⟨g, 0, none⟩) n c) ∧ w.ownsRow 0 e size s n xs) ∨ (n = 0 ∧ c = 0 ∧ xs = [] ∧ ∃ a, s = .slice a 0 0)
/-- append to such a row: in its place, or in a new block -/
theorem run_append_rw (w : World) (t ty e : TypeId) (i : TypeInfo) (z : Value) (size bytes : Nat) (ht : P.underlying t = some (.slice e)) (hi : P.info? e = some i) (hz : i.zero = some z)
    (hsize : i.size = size) (hby : i.bytes = bytes) (hzs : z.cells.size = size) (hsz : 0 < size)
    (v : Value) (n c0 : Nat) (xs : List Value) (hown : Rw w e size v n c0 xs)
    (a : Addr) (c : Nat) (news : List Value) (hl : news.length = 1 * size) (hnews : ∀ j u, news[j]? = some u → w.cell? (a.add j) = some u) (h1 : ∀ u ∈ news, u.oneCell' = true)
    (h63 : n + 1 ≤ maxLen) (hbytes : (n + 1) * bytes ≤ 140737488355328) :
    ∃ g cap w', (Builtin.append_ #[t, t] ty #[v, .slice (some a) 1 c]).run P w = .ok (.slice (some ⟨g, 0, none⟩) (n + 1) cap) w' ∧ w'.ownsRow 0 e size (.slice (some ⟨g, 0, none⟩) (n + 1) cap) (n + 1) (xs ++ news) ∧
      ((sblk v = some g ∧ cap = c0 ∧ w.grownBy w' (some g)) ∨ (w.heap.size ≤ g ∧ w.grownBy w' none)) := by
  have hnew : ∀ v' w', (Builtin.append_ #[t, t] ty #[v, .slice (some a) 1 c]).run P w = .ok v' w' → w'.ownsRow w.heap.size e size v' (n + 1) (xs ++ news) → w.grownBy w' none →
      ∃ g cap w', (Builtin.append_ #[t, t] ty #[v, .slice (some a) 1 c]).run P w = .ok (.slice (some ⟨g, 0, none⟩) (n + 1) cap) w' ∧ w'.ownsRow 0 e size (.slice (some ⟨g, 0, none⟩) (n + 1) cap) (n + 1) (xs ++ news) ∧
      ((sblk v = some g ∧ cap = c0 ∧ w.grownBy w' (some g)) ∨ (w.heap.size ≤ g ∧ w.grownBy w' none)) := by
    intro v' w' hrun ho hg
    rcases ho.2 with ⟨_, h0⟩ | ⟨g, cap, cur, rfl, hb, hg1, hc1, hc2, hc3, hc4⟩
    · omega
    · exact ⟨g, cap, w', hrun, ⟨ho.1, .inr ⟨g, cap, cur, rfl, Nat.zero_le _, hg1, hc1, hc2, hc3, hc4⟩⟩, .inr ⟨hb, hg⟩⟩
  rcases hown with ⟨hn, ⟨g, rfl⟩, hown⟩ | ⟨rfl, rfl, rfl, a0, rfl⟩
  · by_cases hr : n + 1 ≤ c0
    · obtain ⟨w', hrun, r1, r2⟩ := run_append_fits (P := P) w 0 t ty e i size ht hi hsize g n c0 xs hown a 1 c news hl hnews h1 hr
      exact ⟨g, c0, w', hrun, r1, .inl ⟨sblk_some hn, rfl, r2⟩⟩
    · obtain ⟨v', w', hrun, r1, r2⟩ := run_append_arg_grows (P := P) w t ty e i z size bytes ht hi hz hsize hby hzs hsz ⟨g, 0, none⟩ n c0 xs hown.1 (hown.cells rfl) a 1 c news hl hnews (by omega) h63 hbytes
      exact hnew v' w' hrun r1 r2
  · cases a0 with
    | none =>
      obtain ⟨v', w', hrun, r1, r2, _⟩ := run_append_own (P := P) w w.heap.size t ty e i z size bytes ht hi hz hsize hby hzs hsz (.slice none 0 0) 0 [] (World.ownsRow_nil w _ e size) a 1 c news hl hnews h1 h63 hbytes (Nat.le_refl _)
      exact hnew v' w' hrun r1 r2
    | some b0 =>
      obtain ⟨v', w', hrun, r1, r2⟩ := run_append_arg_grows (P := P) w t ty e i z size bytes ht hi hz hsize hby hzs hsz b0 0 0 [] (by simp) (fun j u h => by simp at h) a 1 c news hl hnews (by omega) h63 hbytes
      exact hnew v' w' hrun r1 r2
end
def GD (v : Value) (c : Nat) (w w' : World) (g cap : Nat) : Prop := (sblk v = some g ∧ cap = c ∧ w.grownBy w' (some g)) ∨ (w.heap.size ≤ g ∧ w.grownBy w' none)
theorem infoLU : (Tryd.prog.info? 25).map (fun i => (i.zero, i.size, i.bytes)) = some (some (.agg #[.int .i64 0, .bool false, .int .i64 0, .string ⟨#[]⟩, .slice none 0 0, .slice none 0 0]), 6, 88) := by kernel_rfl
theorem wpl_rwL {ops : Array Oper} {rest : List Oper} {o : Oper} {a : Act} {Q : Exit → Act → World → Prop} (w : World) (hgd : o.guard = none) (s x : Operand) (ho : o.op = .call { callee := .builtin .append, args := #[s, x], argTypes := #[22, 22] })
    (v : Value) (n c : Nat) (xs : List Value) (hs : a.eval s = v) (hown : Rw w 25 6 v n c xs) (tb : Nat) (cx : List Value) (hcx : cx.length = 6) (h1c : ∀ u ∈ cx, u.oneCell' = true) (hx : a.eval x = .slice (some ⟨tb, 0, none⟩) 1 1) (htb : w.heap[tb]? = some (.cells cx.toArray 25)) (hlen : n ≤ 8589934592)
    (h : ∀ g cap w', w'.ownsRow 0 25 6 (.slice (some ⟨g, 0, none⟩) (n + 1) cap) (n + 1) (xs ++ cx) → GD v c w w' g cap → wpList Tryd.prog ops Q rest (a.put o.dst (.slice (some ⟨g, 0, none⟩) (n + 1) cap)) w') : wpList Tryd.prog ops Q (o :: rest) a w := by
  refine wpList_plain hgd fun K' hK' => ?_
  obtain ⟨i1, hi1, hy0, hy1, hy2⟩ := info_parts infoLU
  obtain ⟨g, cap, w', hrun, r1, r2⟩ := run_append_rw (P := Tryd.prog) w 22 o.type 25 i1 _ 6 88 Tryd.underlying22 hi1 hy0 hy1 hy2 rfl (by decide) v n c xs hown ⟨tb, 0, none⟩ 1 cx (by omega) (news_row htb) h1c (by unfold maxLen; omega) (by omega)
  unfold Oper.wp
  simp [execOp, ho, resolve, invoke, builtin, hs, hx, hrun, Result.andThen]
  exact hK' _ _ (h g cap w' r1 r2)
theorem wpl_rwM {ops : Array Oper} {rest : List Oper} {o : Oper} {a : Act} {Q : Exit → Act → World → Prop} (w : World) (hgd : o.guard = none) (s x : Operand) (ho : o.op = .call { callee := .builtin .append, args := #[s, x], argTypes := #[23, 23] })
    (v : Value) (n c : Nat) (xs : List Value) (hs : a.eval s = v) (hown : Rw w 38 7 v n c xs) (tb : Nat) (cx : List Value) (hcx : cx.length = 7) (h1c : ∀ u ∈ cx, u.oneCell' = true) (hx : a.eval x = .slice (some ⟨tb, 0, none⟩) 1 1) (htb : w.heap[tb]? = some (.cells cx.toArray 38)) (hlen : n ≤ 8589934592)
    (h : ∀ g cap w', w'.ownsRow 0 38 7 (.slice (some ⟨g, 0, none⟩) (n + 1) cap) (n + 1) (xs ++ cx) → GD v c w w' g cap → wpList Tryd.prog ops Q rest (a.put o.dst (.slice (some ⟨g, 0, none⟩) (n + 1) cap)) w') : wpList Tryd.prog ops Q (o :: rest) a w := by
  refine wpList_plain hgd fun K' hK' => ?_
  obtain ⟨i1, hi1, hy0, hy1, hy2⟩ := info_parts infoMU
  obtain ⟨g, cap, w', hrun, r1, r2⟩ := run_append_rw (P := Tryd.prog) w 23 o.type 38 i1 _ 7 104 Tryd.underlying23 hi1 hy0 hy1 hy2 rfl (by decide) v n c xs hown ⟨tb, 0, none⟩ 1 cx (by omega) (news_row htb) h1c (by unfold maxLen; omega) (by omega)
  unfold Oper.wp
  simp [execOp, ho, resolve, invoke, builtin, hs, hx, hrun, Result.andThen]
  exact hK' _ _ (h g cap w' r1 r2)
theorem wpl_slL {ops : Array Oper} {rest : List Oper} {o : Oper} {a : Act} {Q : Exit → Act → World → Prop} (w : World) (hgd : o.guard = none) (s x : Operand) (ho : o.op = .call { callee := .builtin .append, args := #[s, x], argTypes := #[46, 46] })
    (B : Nat) (v : Value) (n : Nat) (xs : List Value) (hs : a.eval s = v) (hown : w.ownsRow B 22 1 v n xs) (g0 : Nat) (q : Option Addr) (qn qc : Nat) (hx : a.eval x = .slice (some ⟨g0, 0, none⟩) 1 1) (hblk : w.heap[g0]? = some (.cells #[.slice q qn qc] 22)) (hlen : n ≤ 1000000000000) (hbase : B ≤ w.heap.size)
    (h : ∀ g cap w', w'.ownsRow B 22 1 (.slice (some ⟨g, 0, none⟩) (n + 1) cap) (n + 1) (xs ++ [.slice q qn qc]) → w.grownBy w' v.ownBlock → (v.ownBlock = some g ∨ w.heap.size ≤ g) → wpList Tryd.prog ops Q rest (a.put o.dst (.slice (some ⟨g, 0, none⟩) (n + 1) cap)) w') : wpList Tryd.prog ops Q (o :: rest) a w := by
  refine wpList_plain hgd fun K' hK' => ?_
  obtain ⟨i1, hi1, hy0, hy1, hy2⟩ := info_parts infoS22
  obtain ⟨g, cap, w', hrun, r1, r2, r3⟩ := run_append_new (P := Tryd.prog) w B 46 o.type 22 i1 _ 1 24 Tryd.underlying46 hi1 hy0 hy1 hy2 rfl (by decide) v n xs hown ⟨g0, 0, none⟩ 1 1 [.slice q qn qc] rfl (news_row hblk) (fun u hu => by rw [List.mem_singleton.1 hu]; rfl) (by unfold maxLen; omega) (by omega) hbase (by decide)
  unfold Oper.wp
  simp [execOp, ho, resolve, invoke, builtin, hs, hx, hrun, Result.andThen]
  exact hK' _ _ (h g cap w' r1 r2 r3)
theorem wpl_slM {ops : Array Oper} {rest : List Oper} {o : Oper} {a : Act} {Q : Exit → Act → World → Prop} (w : World) (hgd : o.guard = none) (s x : Operand) (ho : o.op = .call { callee := .builtin .append, args := #[s, x], argTypes := #[47, 47] })
    (B : Nat) (v : Value) (n : Nat) (xs : List Value) (hs : a.eval s = v) (hown : w.ownsRow B 23 1 v n xs) (g0 : Nat) (q : Option Addr) (qn qc : Nat) (hx : a.eval x = .slice (some ⟨g0, 0, none⟩) 1 1) (hblk : w.heap[g0]? = some (.cells #[.slice q qn qc] 23)) (hlen : n ≤ 1000000000000) (hbase : B ≤ w.heap.size)
    (h : ∀ g cap w', w'.ownsRow B 23 1 (.slice (some ⟨g, 0, none⟩) (n + 1) cap) (n + 1) (xs ++ [.slice q qn qc]) → w.grownBy w' v.ownBlock → (v.ownBlock = some g ∨ w.heap.size ≤ g) → wpList Tryd.prog ops Q rest (a.put o.dst (.slice (some ⟨g, 0, none⟩) (n + 1) cap)) w') : wpList Tryd.prog ops Q (o :: rest) a w := by
  refine wpList_plain hgd fun K' hK' => ?_
  obtain ⟨i1, hi1, hy0, hy1, hy2⟩ := info_parts infoS23
  obtain ⟨g, cap, w', hrun, r1, r2, r3⟩ := run_append_new (P := Tryd.prog) w B 47 o.type 23 i1 _ 1 24 Tryd.underlying47 hi1 hy0 hy1 hy2 rfl (by decide) v n xs hown ⟨g0, 0, none⟩ 1 1 [.slice q qn qc] rfl (news_row hblk) (fun u hu => by rw [List.mem_singleton.1 hu]; rfl) (by unfold maxLen; omega) (by omega) hbase (by decide)
  unfold Oper.wp
  simp [execOp, ho, resolve, invoke, builtin, hs, hx, hrun, Result.andThen]
  exact hK' _ _ (h g cap w' r1 r2 r3)
end Go.Proofs.YthgfomblodhoaaaDoor
