/- joined: TakP TakQ -/
import Derived.Test.YthgfomblodhoaaaDoorG15
import Derived.Test.YthgfomblodhoaaaDoorG13
/- a slice appended to a row of slices. -/
set_option linter.unusedSimpArgs false
set_option linter.unusedVariables false
namespace Go.Proofs.YthgfomblodhoaaaDoor
open Go Go.RowKit Go.Lib Go.Shelf
theorem infoS22 : (Tryd.prog.info? 22).map (fun i => (i.zero, i.size, i.bytes)) = some (some (.slice none 0 0), 1, 24) := by kernel_rfl
theorem infoS23 : (Tryd.prog.info? 23).map (fun i => (i.zero, i.size, i.bytes)) = some (some (.slice none 0 0), 1, 24) := by kernel_rfl
theorem step_slL {ops : Array Oper} {o : Oper} {a : Act} {w : World} {K' : Act → World → Prop} {Q : Exit → Act → World → Prop} {D : Prop} (hgd : o.guard = none) (s x : Operand)
    (ho : o.op = .call { callee := .builtin .append, args := #[s, x], argTypes := #[46, 46] })
    (B : Nat) (v : Value) (n : Nat) (xs : List Value) (hs : a.eval s = v) (hown : w.ownsRow B 22 1 v n xs) (g0 : Nat) (q : Option Addr) (qn qc : Nat) (hx : a.eval x = .slice (some ⟨g0, 0, none⟩) 1 1) (hblk : w.heap[g0]? = some (.cells #[.slice q qn qc] 22))
    (hlen : n ≤ 1000000000000) (hbase : B ≤ w.heap.size)
    (h : ∀ g cap w', w'.ownsRow B 22 1 (.slice (some ⟨g, 0, none⟩) (n + 1) cap) (n + 1) (xs ++ [.slice q qn qc]) → w.grownBy w' v.ownBlock → (v.ownBlock = some g ∨ w.heap.size ≤ g) → K' (a.put o.dst (.slice (some ⟨g, 0, none⟩) (n + 1) cap)) w') :
    if Region.wanted o (yielded ops a.tmps) = true then Oper.wp Tryd.prog o a w K' Q else D := by
  have hw : Region.wanted o (yielded ops a.tmps) = true := by simp [Region.wanted, hgd]
  rw [if_pos hw]
  obtain ⟨i1, hi1, hy0, hy1, hy2⟩ := info_parts infoS22
  obtain ⟨g, cap, w', hrun, r1, r2, r3⟩ := run_append_new (P := Tryd.prog) w B 46 o.type 22 i1 _ 1 24 Tryd.underlying46 hi1 hy0 hy1 hy2 rfl (by decide) v n xs hown ⟨g0, 0, none⟩ 1 1 [.slice q qn qc] rfl (news_row hblk) (fun u hu => by rw [List.mem_singleton.1 hu]; rfl) (by unfold maxLen; omega) (by omega) hbase (by decide)
  unfold Oper.wp
  simp [execOp, ho, resolve, invoke, builtin, hs, hx, hrun, Result.andThen]
  exact h g cap w' r1 r2 r3
theorem step_slM {ops : Array Oper} {o : Oper} {a : Act} {w : World} {K' : Act → World → Prop} {Q : Exit → Act → World → Prop} {D : Prop} (hgd : o.guard = none) (s x : Operand)
    (ho : o.op = .call { callee := .builtin .append, args := #[s, x], argTypes := #[47, 47] })
    (B : Nat) (v : Value) (n : Nat) (xs : List Value) (hs : a.eval s = v) (hown : w.ownsRow B 23 1 v n xs) (g0 : Nat) (q : Option Addr) (qn qc : Nat) (hx : a.eval x = .slice (some ⟨g0, 0, none⟩) 1 1) (hblk : w.heap[g0]? = some (.cells #[.slice q qn qc] 23))
    (hlen : n ≤ 1000000000000) (hbase : B ≤ w.heap.size)
    (h : ∀ g cap w', w'.ownsRow B 23 1 (.slice (some ⟨g, 0, none⟩) (n + 1) cap) (n + 1) (xs ++ [.slice q qn qc]) → w.grownBy w' v.ownBlock → (v.ownBlock = some g ∨ w.heap.size ≤ g) → K' (a.put o.dst (.slice (some ⟨g, 0, none⟩) (n + 1) cap)) w') :
    if Region.wanted o (yielded ops a.tmps) = true then Oper.wp Tryd.prog o a w K' Q else D := by
  have hw : Region.wanted o (yielded ops a.tmps) = true := by simp [Region.wanted, hgd]
  rw [if_pos hw]
  obtain ⟨i1, hi1, hy0, hy1, hy2⟩ := info_parts infoS23
  obtain ⟨g, cap, w', hrun, r1, r2, r3⟩ := run_append_new (P := Tryd.prog) w B 47 o.type 23 i1 _ 1 24 Tryd.underlying47 hi1 hy0 hy1 hy2 rfl (by decide) v n xs hown ⟨g0, 0, none⟩ 1 1 [.slice q qn qc] rfl (news_row hblk) (fun u hu => by rw [List.mem_singleton.1 hu]; rfl) (by unfold maxLen; omega) (by omega) hbase (by decide)
  unfold Oper.wp
  simp [execOp, ho, resolve, invoke, builtin, hs, hx, hrun, Result.andThen]
  exact h g cap w' r1 r2 r3
end Go.Proofs.YthgfomblodhoaaaDoor
/- Rows of slices in the fields of a box: what take keeps. -/
namespace Go.Proofs.YthgfomblodhoaaaDoor
open Go Go.RowKit Go.Lib Go.Shelf
theorem owns_keep {w w' : World} {B e sz n : Nat} {v : Value} {xs : List Value} (h : w.ownsRow B e sz v n xs) (k : ∀ g, v.ownBlock = some g → w'.heap[g]? = w.heap[g]?) : w'.ownsRow B e sz v n xs := by
  refine ⟨h.1, ?_⟩
  rcases h.2 with hn | ⟨g, cap, cur, rfl, hb, hg, rest⟩
  · exact .inl hn
  · exact .inr ⟨g, cap, cur, rfl, hb, (k g rfl).trans hg, rest⟩
theorem owns_at {w : World} {B e sz n : Nat} {v : Value} {xs : List Value} (h : w.ownsRow B e sz v n xs) {g : Nat} (hg : v.ownBlock = some g) : B ≤ g ∧ ∃ cur, w.heap[g]? = some (.cells cur e (0, 0)) := by
  rcases h.2 with ⟨rfl, _⟩ | ⟨g', cap, cur, rfl, hb, hg', rest⟩
  · cases hg
  · obtain rfl : g' = g := by simpa [Value.ownBlock] using hg
    exact ⟨hb, cur, hg'⟩
structure RowsAt (M B : Nat) (sl sm : Value) (ls ms : List Value) (W : World) : Prop where
  b : W.heap[M]? = some (.cells #[sl, sm] 49)
  l : W.ownsRow B 22 1 sl ls.length ls
  m : W.ownsRow B 23 1 sm ms.length ms
structure TkR (M : Nat) (sl sm sl' sm' : Value) (W W' : World) : Prop where
  os : W'.os = W.os
  tape : W'.tape = W.tape
  output : W'.output = W.output
  size : W.heap.size ≤ W'.heap.size
  blk : ∀ y, y < W.heap.size → y ≠ M → sl.ownBlock ≠ some y → sm.ownBlock ≠ some y → W'.heap[y]? = W.heap[y]?
  l : sl'.ownBlock = sl.ownBlock ∨ ∀ g, sl'.ownBlock = some g → W.heap.size ≤ g
  m : sm'.ownBlock = sm.ownBlock ∨ ∀ g, sm'.ownBlock = some g → W.heap.size ≤ g
theorem own_not {s s' : Value} {n y : Nat} (h : s'.ownBlock = s.ownBlock ∨ ∀ g, s'.ownBlock = some g → n ≤ g) (hy : y < n) (h1 : s.ownBlock ≠ some y) : s'.ownBlock ≠ some y := fun e => by
  rcases h with h | h
  · exact h1 (by rw [← h]; exact e)
  · have := h y e; omega
theorem own_trans {s s' s'' : Value} {n n' : Nat} (hn : n ≤ n') (h : s'.ownBlock = s.ownBlock ∨ ∀ g, s'.ownBlock = some g → n ≤ g) (h' : s''.ownBlock = s'.ownBlock ∨ ∀ g, s''.ownBlock = some g → n' ≤ g) : s''.ownBlock = s.ownBlock ∨ ∀ g, s''.ownBlock = some g → n ≤ g := by
  rcases h' with h' | h'
  · rcases h with h | h
    · exact .inl (h'.trans h)
    · exact .inr (fun g hg => h g (by rw [← h']; exact hg))
  · exact .inr (fun g hg => Nat.le_trans hn (h' g hg))
theorem TkR.trans {M : Nat} {sl sm sl' sm' sl'' sm'' : Value} {W W' W'' : World} (h : TkR M sl sm sl' sm' W W') (h' : TkR M sl' sm' sl'' sm'' W' W'') : TkR M sl sm sl'' sm'' W W'' :=
  ⟨h'.os.trans h.os, h'.tape.trans h.tape, h'.output.trans h.output, Nat.le_trans h.size h'.size,
   fun y hy hM h1 h2 => (h'.blk y (Nat.lt_of_lt_of_le hy h.size) hM (own_not h.l hy h1) (own_not h.m hy h2)).trans (h.blk y hy hM h1 h2), own_trans h.size h.l h'.l, own_trans h.size h.m h'.m⟩
theorem TkR.of_below {M : Nat} {sl sm : Value} {W W' : World} (h : Below W.heap.size W W') : TkR M sl sm sl sm W W' := ⟨h.os, h.tape, h.output, h.size, fun y hy _ _ _ => h.block y hy, .inl rfl, .inl rfl⟩
theorem RowsAt.below {M B : Nat} {sl sm : Value} {ls ms : List Value} {W W' : World} (h : RowsAt M B sl sm ls ms W) (hb : Below W.heap.size W W') : RowsAt M B sl sm ls ms W' := by
  have lt : ∀ {y : Nat} {o : Obj}, W.heap[y]? = some o → y < W.heap.size := fun {y o} e => by
    rcases Nat.lt_or_ge y W.heap.size with h | h
    · exact h
    · rw [Array.getElem?_eq_none h] at e; cases e
  refine ⟨(hb.block M (lt h.b)).trans h.b, owns_keep h.l fun g hg => ?_, owns_keep h.m fun g hg => ?_⟩
  · obtain ⟨_, cur, e⟩ := owns_at h.l hg; exact hb.block g (lt e)
  · obtain ⟨_, cur, e⟩ := owns_at h.m hg; exact hb.block g (lt e)
theorem rows_unlike {M B : Nat} {sl sm : Value} {ls ms : List Value} {W : World} (h : RowsAt M B sl sm ls ms W) {g : Nat} (h1 : sl.ownBlock = some g) (h2 : sm.ownBlock = some g) : False := by
  obtain ⟨_, c1, e1⟩ := owns_at h.l h1
  obtain ⟨_, c2, e2⟩ := owns_at h.m h2
  rw [e1] at e2
  simp at e2
theorem heap_lt {W : World} {y : Nat} {o : Obj} (e : W.heap[y]? = some o) : y < W.heap.size := by
  rcases Nat.lt_or_ge y W.heap.size with h | h
  · exact h
  · rw [Array.getElem?_eq_none h] at e; cases e
theorem rows_pushL {M B g cap : Nat} {sa sb x : Value} {ls ms : List Value} {wr w2 w5 : World} (R : RowsAt M B sa sb ls ms wr) (hM : M < B) (b2 : Below wr.heap.size wr w2) (h5 : w5.ownsRow B 22 1 (.slice (some ⟨g, 0, none⟩) (ls.length + 1) cap) (ls.length + 1) (ls ++ [x])) (g5 : w2.grownBy w5 sa.ownBlock) (l5 : sa.ownBlock = some g ∨ w2.heap.size ≤ g) :
    RowsAt M B (.slice (some ⟨g, 0, none⟩) (ls.length + 1) cap) sb (ls ++ [x]) ms (w5.setCell ⟨M, 0, none⟩ (.slice (some ⟨g, 0, none⟩) (ls.length + 1) cap)) ∧ TkR M sa sb (.slice (some ⟨g, 0, none⟩) (ls.length + 1) cap) sb wr (w5.setCell ⟨M, 0, none⟩ (.slice (some ⟨g, 0, none⟩) (ls.length + 1) cap)) := by
  have R2 := R.below b2
  have hMs : sa.ownBlock ≠ some M := fun e => by have := (owns_at R.l e).1; omega
  have hM5 : w5.heap[M]? = some (.cells #[sa, sb] 49) := (g5.block M (heap_lt R2.b) (fun e => hMs e.symm)).trans R2.b
  have hgB := (owns_at h5 (g := g) rfl).1
  have sz := b2.size
  refine ⟨⟨by rw [set_block hM5]; rfl, ?_, ?_⟩, ?_⟩
  · rw [List.length_append]
    exact owns_keep h5 fun g' e => by
      obtain rfl : g = g' := by simpa [Value.ownBlock] using e
      exact set_other (by omega)
  · refine owns_keep R2.m fun y e => ?_
    obtain ⟨hy, cur, e2⟩ := owns_at R2.m e
    rw [set_other (show y ≠ M by omega)]
    exact g5.block y (heap_lt e2) (fun e' => rows_unlike R2 e'.symm e)
  · refine ⟨g5.os.trans b2.os, g5.tape.trans b2.tape, g5.output.trans b2.output, by rw [size_set1]; exact Nat.le_trans b2.size g5.size, fun y hy hyM h1 h2 => ?_, ?_, .inl rfl⟩
    · rw [set_other hyM]
      exact (g5.block y (by omega) (fun e => h1 e.symm)).trans (b2.block y hy)
    · rcases l5 with l5 | l5
      · exact .inl (by rw [l5]; rfl)
      · exact .inr (fun g' e => by
          obtain rfl : g = g' := by simpa [Value.ownBlock] using e
          omega)
theorem rows_pushM {M B g cap : Nat} {sa sb x : Value} {ls ms : List Value} {wr w2 w5 : World} (R : RowsAt M B sa sb ls ms wr) (hM : M < B) (b2 : Below wr.heap.size wr w2) (h5 : w5.ownsRow B 23 1 (.slice (some ⟨g, 0, none⟩) (ms.length + 1) cap) (ms.length + 1) (ms ++ [x])) (g5 : w2.grownBy w5 sb.ownBlock) (l5 : sb.ownBlock = some g ∨ w2.heap.size ≤ g) :
    RowsAt M B sa (.slice (some ⟨g, 0, none⟩) (ms.length + 1) cap) ls (ms ++ [x]) (w5.setCell ⟨M, 1, none⟩ (.slice (some ⟨g, 0, none⟩) (ms.length + 1) cap)) ∧ TkR M sa sb sa (.slice (some ⟨g, 0, none⟩) (ms.length + 1) cap) wr (w5.setCell ⟨M, 1, none⟩ (.slice (some ⟨g, 0, none⟩) (ms.length + 1) cap)) := by
  have R2 := R.below b2
  have hMs : sb.ownBlock ≠ some M := fun e => by have := (owns_at R.m e).1; omega
  have hM5 : w5.heap[M]? = some (.cells #[sa, sb] 49) := (g5.block M (heap_lt R2.b) (fun e => hMs e.symm)).trans R2.b
  have hgB := (owns_at h5 (g := g) rfl).1
  have sz := b2.size
  refine ⟨⟨by rw [set_block hM5]; rfl, ?_, ?_⟩, ?_⟩
  · refine owns_keep R2.l fun y e => ?_
    obtain ⟨hy, cur, e2⟩ := owns_at R2.l e
    rw [set_other (show y ≠ M by omega)]
    exact g5.block y (heap_lt e2) (fun e' => rows_unlike R2 e e'.symm)
  · rw [List.length_append]
    exact owns_keep h5 fun g' e => by
      obtain rfl : g = g' := by simpa [Value.ownBlock] using e
      exact set_other (by omega)
  · refine ⟨g5.os.trans b2.os, g5.tape.trans b2.tape, g5.output.trans b2.output, by rw [size_set1]; exact Nat.le_trans b2.size g5.size, fun y hy hyM h1 h2 => ?_, .inl rfl, ?_⟩
    · rw [set_other hyM]
      exact (g5.block y (by omega) (fun e => h2 e.symm)).trans (b2.block y hy)
    · rcases l5 with l5 | l5
      · exact .inl (by rw [l5]; rfl)
      · exact .inr (fun g' e => by
          obtain rfl : g = g' := by simpa [Value.ownBlock] using e
          omega)
end Go.Proofs.YthgfomblodhoaaaDoor
