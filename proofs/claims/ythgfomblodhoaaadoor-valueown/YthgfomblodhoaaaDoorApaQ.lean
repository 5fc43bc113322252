import Derived.Test.YthgfomblodhoaaaDoorApaP
/- Rows gone on with by marks: how far, and what is kept. -/
set_option linter.unusedSimpArgs false
set_option linter.unusedVariables false
namespace Go.Proofs.YthgfomblodhoaaaDoor
open Go Go.RowKit Go.Lib Go.Shelf
theorem blk_lt {g ty n : Nat} {w : World} (h : Blk g ty n w) : g < w.heap.size := heap_lt h.choose_spec.1
theorem fl_at {W : World} {P : Nat → Prop} {s : Value} {a : Option Addr} {n c b : Nat} (h : FL W P s) (e : s = .slice a n c) (eb : sblk s = some b) : P b ∧ Blk b 25 (c * 6) W ∧ 0 < c := by
  subst e
  exact ⟨h.2 b eb, (h.1.blk eb).2.1, (h.1.blk eb).2.2⟩
theorem fm_at {W : World} {P : Nat → Prop} {s : Value} {a : Option Addr} {n c b : Nat} (h : FM W P s) (e : s = .slice a n c) (eb : sblk s = some b) : P b ∧ Blk b 38 (c * 7) W ∧ 0 < c := by
  subst e
  exact ⟨h.2 b eb, (h.1.blk eb).2.1, (h.1.blk eb).2.2⟩
/-- what was made since turned, or more was made: no marks are gone -/
theorem Fi.grow0 {ls ms : List Value} {P : Nat → Prop} {W0 W W' : World} {kl il km im : Nat} {row : Option Nat} (F : Fi ls ms P W0 kl il km im W) (hP : ∀ b, P b → b < W0.heap.size) (g : W.grownBy W' row) (hr : ∀ r, row = some r → W0.heap.size ≤ r) : Fi ls ms P W0 kl il km im W' := by
  have hb := blks_all F.fl F.fm
  have hk : ∀ y, y < W0.heap.size → W'.heap[y]? = W.heap[y]? := fun y hy => g.block y (by have := F.size; omega) (fun e => by have := hr y e.symm; omega)
  refine ⟨g.os.trans F.os, g.tape.trans F.tape, g.output.trans F.output, Nat.le_trans F.size g.size, fun y hl hy => (hk y hl).trans (F.fr y hl hy), fun s hs => ?_, fun s hs => ?_, ?_, ?_⟩
  · exact ⟨(F.fl s hs).1.keep (fun b e => hk b (hP b ((F.fl s hs).2 b e))), (F.fl s hs).2⟩
  · exact ⟨(F.fm s hs).1.keep (fun b e => hk b (hP b ((F.fm s hs).2 b e))), (F.fm s hs).2⟩
  · intro D k i b h a n c e eb hi hd
    rw [World.cell?_of_block (w := W) (a := ⟨b, i * 6, none⟩) (hk b (hP b (hb b (mem_blkL h eb))))]
    exact F.l D k i b h a n c e eb hi hd
  · intro D k i b h a n c e eb hi hd
    rw [World.cell?_of_block (w := W) (a := ⟨b, i * 7 + 1, none⟩) (hk b (hP b (hb b (mem_blkM h eb))))]
    exact F.m D k i b h a n c e eb hi hd
/-- a list was gone on with in its place -/
theorem Fi.growL {ls ms : List Value} {P : Nat → Prop} {W0 W W' : World} {kl il km im k g : Nat} {a : Option Addr} {n c : Nat} (F : Fi ls ms P W0 kl il km im W) (D : Dst ls ms) (gr : W.grownBy W' (some g)) (hk : k < ls.length) (e : ls[k] = .slice a n c) (eb : sblk ls[k] = some g) (hB : ∀ ty sz, Blk g ty sz W → Blk g ty sz W') (hc : ∀ q, q < n * 6 → W'.cell? ⟨g, q, none⟩ = W.cell? ⟨g, q, none⟩) : Fi ls ms P W0 kl il km im W' := by
  have o : ∀ y, y ≠ g → y < W.heap.size → W'.heap[y]? = W.heap[y]? := fun y hy hl => gr.block y hl (fun e => hy (Option.some.inj e))
  refine ⟨gr.os.trans F.os, gr.tape.trans F.tape, gr.output.trans F.output, Nat.le_trans F.size gr.size, fun y hl hy => (o y (fun q => hy (by rw [q]; exact mem_blkL hk eb)) (by have := F.size; omega)).trans (F.fr y hl hy), fun s hs => (F.fl s hs).put o hB, fun s hs => (F.fm s hs).put o hB, ?_, ?_⟩
  · intro _ k2 i2 b2 h2 a2 n2 c2 e2 eb2 hi2 hd
    by_cases hb : b2 = g
    · subst hb
      obtain rfl := D.ll _ _ _ h2 hk eb2 eb
      rw [e] at e2
      simp only [Value.slice.injEq] at e2
      rw [hc _ (by omega)]
      exact F.l D _ i2 _ h2 a n c e eb2 (by omega) hd
    · rw [World.cell?_of_block (w := W) (a := ⟨b2, i2 * 6, none⟩) (o b2 hb (blk_lt (fl_at (F.fl _ (List.getElem_mem h2)) e2 eb2).2.1))]
      exact F.l D k2 i2 b2 h2 a2 n2 c2 e2 eb2 hi2 hd
  · intro _ k2 i2 b2 h2 a2 n2 c2 e2 eb2 hi2 hd
    have hb : b2 ≠ g := fun q => D.lm _ _ _ hk h2 eb (by rw [eb2, q])
    rw [World.cell?_of_block (w := W) (a := ⟨b2, i2 * 7 + 1, none⟩) (o b2 hb (blk_lt (fm_at (F.fm _ (List.getElem_mem h2)) e2 eb2).2.1))]
    exact F.m D k2 i2 b2 h2 a2 n2 c2 e2 eb2 hi2 hd
theorem Fi.growM {ls ms : List Value} {P : Nat → Prop} {W0 W W' : World} {kl il km im k g : Nat} {a : Option Addr} {n c : Nat} (F : Fi ls ms P W0 kl il km im W) (D : Dst ls ms) (gr : W.grownBy W' (some g)) (hk : k < ms.length) (e : ms[k] = .slice a n c) (eb : sblk ms[k] = some g) (hB : ∀ ty sz, Blk g ty sz W → Blk g ty sz W') (hc : ∀ q, q < n * 7 → W'.cell? ⟨g, q, none⟩ = W.cell? ⟨g, q, none⟩) : Fi ls ms P W0 kl il km im W' := by
  have o : ∀ y, y ≠ g → y < W.heap.size → W'.heap[y]? = W.heap[y]? := fun y hy hl => gr.block y hl (fun e => hy (Option.some.inj e))
  refine ⟨gr.os.trans F.os, gr.tape.trans F.tape, gr.output.trans F.output, Nat.le_trans F.size gr.size, fun y hl hy => (o y (fun q => hy (by rw [q]; exact mem_blkM hk eb)) (by have := F.size; omega)).trans (F.fr y hl hy), fun s hs => (F.fl s hs).put o hB, fun s hs => (F.fm s hs).put o hB, ?_, ?_⟩
  · intro _ k2 i2 b2 h2 a2 n2 c2 e2 eb2 hi2 hd
    have hb : b2 ≠ g := fun q => D.lm _ _ _ h2 hk eb2 (by rw [eb, q])
    rw [World.cell?_of_block (w := W) (a := ⟨b2, i2 * 6, none⟩) (o b2 hb (blk_lt (fl_at (F.fl _ (List.getElem_mem h2)) e2 eb2).2.1))]
    exact F.l D k2 i2 b2 h2 a2 n2 c2 e2 eb2 hi2 hd
  · intro _ k2 i2 b2 h2 a2 n2 c2 e2 eb2 hi2 hd
    by_cases hb : b2 = g
    · subst hb
      obtain rfl := D.mm _ _ _ h2 hk eb2 eb
      rw [e] at e2
      simp only [Value.slice.injEq] at e2
      rw [hc _ (by omega)]
      exact F.m D _ i2 _ h2 a n c e eb2 (by omega) hd
    · rw [World.cell?_of_block (w := W) (a := ⟨b2, i2 * 7 + 1, none⟩) (o b2 hb (blk_lt (fm_at (F.fm _ (List.getElem_mem h2)) e2 eb2).2.1))]
      exact F.m D k2 i2 b2 h2 a2 n2 c2 e2 eb2 hi2 hd
/-- i marks stand behind the first n -/
structure Mks (sz off n i : Nat) (mark : Value) (xs : List Value) : Prop where
  len : xs.length = (n + i) * sz
  at_ : ∀ q, q < i → xs[(n + q) * sz + off]? = some mark
theorem Mks.zero {sz off n : Nat} {mark : Value} {xs : List Value} (h : xs.length = n * sz) : Mks sz off n 0 mark xs := ⟨h, fun q hq => by omega⟩
theorem Mks.push {sz off n i : Nat} {mark : Value} {xs cx : List Value} (h : Mks sz off n i mark xs) (hc : cx.length = sz) (ho : cx[off]? = some mark) (hof : off < sz) : Mks sz off n (i + 1) mark (xs ++ cx) := by
  refine ⟨by rw [List.length_append, h.len, hc, ← Nat.add_assoc, Nat.succ_mul], fun q hq => ?_⟩
  by_cases hqi : q = i
  · subst hqi
    rw [List.getElem?_append_right (by rw [h.len]; omega), h.len, show (n + q) * sz + off - (n + q) * sz = off by omega]
    exact ho
  · have h1 : (n + q + 1) * sz ≤ (n + i) * sz := Nat.mul_le_mul_right _ (by omega)
    rw [Nat.succ_mul] at h1
    rw [List.getElem?_append_left (by rw [h.len]; omega)]
    exact h.at_ q (by omega)
/-- a row that is being gone on with -/
structure HL (ty sz off : Nat) (s : Value) (N n i : Nat) (mark : Value) (g cap : Nat) (xs : List Value) (w : World) : Prop where
  own : w.ownsRow 0 ty sz (.slice (some ⟨g, 0, none⟩) (n + i) cap) (n + i) xs
  mk_ : Mks sz off n i mark xs
  at_ : sblk s = some g ∨ N ≤ g
theorem HL.blk {ty sz off : Nat} {s : Value} {N n i : Nat} {mark : Value} {g cap : Nat} {xs : List Value} {w : World} (h : HL ty sz off s N n i mark g cap xs w) : Blk g ty (cap * sz) w := by
  rcases h.own.2 with ⟨h, _⟩ | ⟨g', cap', cur, h, hb, hg, h1, h2, h3, h4⟩
  · simp at h
  · simp only [Value.slice.injEq, Option.some.injEq, Addr.mk.injEq, and_true, true_and] at h
    obtain ⟨rfl, rfl⟩ := h
    exact ⟨cur, hg, h3⟩
theorem HL.keep {ty sz off : Nat} {s : Value} {N n i : Nat} {mark : Value} {g cap : Nat} {xs : List Value} {w w' : World} {row : Option Nat} (h : HL ty sz off s N n i mark g cap xs w) (gr : w.grownBy w' row) (hr : row ≠ some g) : HL ty sz off s N n i mark g cap xs w' :=
  ⟨owns_keep h.own (fun g' e => by
    obtain rfl : g = g' := by simpa [Value.ownBlock] using e
    exact gr.block g (blk_lt h.blk) (fun e => hr e.symm)), h.mk_, h.at_⟩
theorem blk_ne {g h ty ty' n n' : Nat} {w : World} (a : Blk g ty n w) (b : Blk h ty' n' w) (ht : ty ≠ ty') : g ≠ h := fun e => by
  subst e
  obtain ⟨a1, e1, _⟩ := a
  obtain ⟨a2, e2, _⟩ := b
  rw [e1] at e2
  simp at e2
  exact ht e2.2
/-- what a round of going on leaves as it was -/
structure Cm (ls ms : List Value) (P : Nat → Prop) (W : World) (k : Nat) (sl sm : Value) (ws w : World) : Prop where
  f : Fi ls ms P W ls.length 0 ls.length 0 w
  kb : ∀ y, y < ws.heap.size → sblk sl ≠ some y → sblk sm ≠ some y → w.heap[y]? = ws.heap[y]?
  size : ws.heap.size ≤ w.heap.size
theorem Cm.grow0 {ls ms : List Value} {P : Nat → Prop} {W ws w w' : World} {k : Nat} {sl sm : Value} {row : Option Nat} (h : Cm ls ms P W k sl sm ws w) (hP : ∀ b, P b → b < W.heap.size) (hW : W.heap.size ≤ ws.heap.size) (g : w.grownBy w' row) (hr : ∀ r, row = some r → ws.heap.size ≤ r) : Cm ls ms P W k sl sm ws w' :=
  ⟨h.f.grow0 hP g (fun r e => by have := hr r e; omega), fun y hy h1 h2 => (g.block y (by have := h.size; omega) (fun e => by have := hr y e.symm; omega)).trans (h.kb y hy h1 h2), Nat.le_trans h.size g.size⟩
theorem own_cells {ty sz n cap g : Nat} {xs : List Value} {w : World} (h : w.ownsRow 0 ty sz (.slice (some ⟨g, 0, none⟩) n cap) n xs) {q : Nat} (hq : q < xs.length) : w.cell? ⟨g, q, none⟩ = some xs[q] := by
  have := h.cells (g := g) rfl q xs[q] (List.getElem?_eq_getElem hq)
  rw [show ((⟨g, 0, none⟩ : Addr).add q) = ⟨g, q, none⟩ by by_cases h0 : q = 0 <;> simp [Addr.add, h0]] at this
  exact this
/-- a row of its own is gone on with by one more: in its place, or in a new block -/
theorem HL.next {ty sz off : Nat} {s : Value} {N n i : Nat} {mark : Value} {g cap g' cap' : Nat} {xs cx : List Value} {w w' : World} (h : HL ty sz off s N n i mark g cap xs w) (hn : 0 < n + i) (hc : cx.length = sz) (ho : cx[off]? = some mark) (hof : off < sz) (hN : N ≤ w.heap.size)
    (o : w'.ownsRow 0 ty sz (.slice (some ⟨g', 0, none⟩) (n + i + 1) cap') (n + i + 1) (xs ++ cx)) (d : GD (.slice (some ⟨g, 0, none⟩) (n + i) cap) cap w w' g' cap') : HL ty sz off s N n (i + 1) mark g' cap' (xs ++ cx) w' := by
  refine ⟨o, h.mk_.push hc ho hof, ?_⟩
  rcases d with ⟨d, _⟩ | ⟨d, _⟩
  · obtain rfl : g = g' := sblk_inj d
    exact h.at_
  · exact .inr (by omega)
theorem blk_in {g ty n sz n2 cap : Nat} {xs ys : List Value} {w w' : World} (h : w.ownsRow 0 ty sz (.slice (some ⟨g, 0, none⟩) n cap) n xs) (h' : w'.ownsRow 0 ty sz (.slice (some ⟨g, 0, none⟩) n2 cap) n2 ys) : ∀ t z, Blk g t z w → Blk g t z w' := by
  have A : Blk g ty (cap * sz) w := by
    rcases h.2 with ⟨h, _⟩ | ⟨g', cap', cur, h, hb, hg, h1, h2, h3, h4⟩
    · simp at h
    · simp only [Value.slice.injEq, Option.some.injEq, Addr.mk.injEq, and_true, true_and] at h
      obtain ⟨rfl, rfl⟩ := h
      exact ⟨cur, hg, h3⟩
  have B : Blk g ty (cap * sz) w' := by
    rcases h'.2 with ⟨h, _⟩ | ⟨g', cap', cur, h, hb, hg, h1, h2, h3, h4⟩
    · simp at h
    · simp only [Value.slice.injEq, Option.some.injEq, Addr.mk.injEq, and_true, true_and] at h
      obtain ⟨rfl, rfl⟩ := h
      exact ⟨cur, hg, h3⟩
  exact fun t z k => blk_same A B k
/-- the round's frame behind an append to the list -/
theorem Cm.putL {ls ms : List Value} {P : Nat → Prop} {W ws w w' : World} {k : Nat} {sm : Value} {a : Option Addr} {n c m cap g g' cap' : Nat} {xs cx : List Value} (h : Cm ls ms P W k (.slice a n c) sm ws w) (D : Dst ls ms) (hP : ∀ b, P b → b < W.heap.size) (hW : W.heap.size ≤ ws.heap.size) (hk : k < ls.length) (e : ls[k] = .slice a n c) (hnm : n * 6 ≤ xs.length) (own : w.ownsRow 0 25 6 (.slice (some ⟨g, 0, none⟩) m cap) m xs) (at_ : sblk (.slice a n c) = some g ∨ ws.heap.size ≤ g)
    (o : w'.ownsRow 0 25 6 (.slice (some ⟨g', 0, none⟩) (m + 1) cap') (m + 1) (xs ++ cx)) (d : GD (.slice (some ⟨g, 0, none⟩) m cap) cap w w' g' cap') : Cm ls ms P W k (.slice a n c) sm ws w' := by
  rcases d with ⟨d, rfl, gr⟩ | ⟨d, gr⟩
  · obtain rfl : g = g' := sblk_inj d
    rcases at_ with at_ | at_
    · refine ⟨h.f.growL D gr hk e (by rw [e]; exact at_) (blk_in own o) (fun q hq => ?_), fun y hy h1 h2 => (gr.block y (by have := h.size; omega) (fun q => h1 (by rw [at_]; exact q.symm))).trans (h.kb y hy h1 h2), Nat.le_trans h.size gr.size⟩
      rw [own_cells own (q := q) (by omega), own_cells o (q := q) (by rw [List.length_append]; omega), List.getElem_append_left (by omega)]
    · exact h.grow0 hP hW gr (fun r e => by cases e; exact at_)
  · exact h.grow0 hP hW gr (fun r e => by cases e)
theorem Cm.putM {ls ms : List Value} {P : Nat → Prop} {W ws w w' : World} {k : Nat} {sl : Value} {a : Option Addr} {n c m cap g g' cap' : Nat} {xs cx : List Value} (h : Cm ls ms P W k sl (.slice a n c) ws w) (D : Dst ls ms) (hP : ∀ b, P b → b < W.heap.size) (hW : W.heap.size ≤ ws.heap.size) (hk : k < ms.length) (e : ms[k] = .slice a n c) (hnm : n * 7 ≤ xs.length) (own : w.ownsRow 0 38 7 (.slice (some ⟨g, 0, none⟩) m cap) m xs) (at_ : sblk (.slice a n c) = some g ∨ ws.heap.size ≤ g)
    (o : w'.ownsRow 0 38 7 (.slice (some ⟨g', 0, none⟩) (m + 1) cap') (m + 1) (xs ++ cx)) (d : GD (.slice (some ⟨g, 0, none⟩) m cap) cap w w' g' cap') : Cm ls ms P W k sl (.slice a n c) ws w' := by
  rcases d with ⟨d, rfl, gr⟩ | ⟨d, gr⟩
  · obtain rfl : g = g' := sblk_inj d
    rcases at_ with at_ | at_
    · refine ⟨h.f.growM D gr hk e (by rw [e]; exact at_) (blk_in own o) (fun q hq => ?_), fun y hy h1 h2 => (gr.block y (by have := h.size; omega) (fun q => h2 (by rw [at_]; exact q.symm))).trans (h.kb y hy h1 h2), Nat.le_trans h.size gr.size⟩
      rw [own_cells own (q := q) (by omega), own_cells o (q := q) (by rw [List.length_append]; omega), List.getElem_append_left (by omega)]
    · exact h.grow0 hP hW gr (fun r e => by cases e; exact at_)
  · exact h.grow0 hP hW gr (fun r e => by cases e)
/-- a list as a row that can be gone on with -/
theorem fl_rw {W : World} {P : Nat → Prop} {a : Option Addr} {n c : Nat} (h : FL W P (.slice a n c)) : ∃ xs, Rw W 25 6 (.slice a n c) n c xs ∧ xs.length = n * 6 := by
  by_cases hc : c = 0
  · obtain ⟨⟨a', n', c', b, e, h1, _⟩, _⟩ := h
    simp only [Value.slice.injEq] at e
    obtain ⟨rfl, rfl, rfl⟩ := e
    subst hc
    obtain rfl : n = 0 := by omega
    exact ⟨[], .inr ⟨rfl, rfl, rfl, a, rfl⟩, rfl⟩
  · obtain ⟨b, eb, rfl, arr, e1, e2⟩ := h.1.room (show 0 < c by omega)
    obtain ⟨⟨a', n', c', b', e, h1, h2, _⟩, _⟩ := h
    simp only [Value.slice.injEq] at e
    obtain ⟨_, rfl, rfl⟩ := e
    have hl : (arr.toList.take (n * 6)).length = n * 6 := by simp; omega
    exact ⟨arr.toList.take (n * 6), .inl ⟨by omega, ⟨b, rfl⟩, hl, .inr ⟨b, c, arr, rfl, Nat.zero_le _, e1, h1, h2, e2, rfl⟩⟩, hl⟩
theorem fm_rw {W : World} {P : Nat → Prop} {a : Option Addr} {n c : Nat} (h : FM W P (.slice a n c)) : ∃ xs, Rw W 38 7 (.slice a n c) n c xs ∧ xs.length = n * 7 := by
  by_cases hc : c = 0
  · obtain ⟨⟨a', n', c', b, e, h1, _⟩, _⟩ := h
    simp only [Value.slice.injEq] at e
    obtain ⟨rfl, rfl, rfl⟩ := e
    subst hc
    obtain rfl : n = 0 := by omega
    exact ⟨[], .inr ⟨rfl, rfl, rfl, a, rfl⟩, rfl⟩
  · obtain ⟨b, eb, rfl, arr, e1, e2⟩ := h.1.room (show 0 < c by omega)
    obtain ⟨⟨a', n', c', b', e, h1, h2, _⟩, _⟩ := h
    simp only [Value.slice.injEq] at e
    obtain ⟨_, rfl, rfl⟩ := e
    have hl : (arr.toList.take (n * 7)).length = n * 7 := by simp; omega
    exact ⟨arr.toList.take (n * 7), .inl ⟨by omega, ⟨b, rfl⟩, hl, .inr ⟨b, c, arr, rfl, Nat.zero_le _, e1, h1, h2, e2, rfl⟩⟩, hl⟩
/-- the first append of a round -/
theorem HL.first {ty sz off : Nat} {s : Value} {N n c : Nat} {mark : Value} {g' cap' : Nat} {xs cx : List Value} {w w' : World} (hl : xs.length = n * sz) (hc : cx.length = sz) (ho : cx[off]? = some mark) (hof : off < sz) (hN : N ≤ w.heap.size)
    (o : w'.ownsRow 0 ty sz (.slice (some ⟨g', 0, none⟩) (n + 1) cap') (n + 1) (xs ++ cx)) (d : GD s c w w' g' cap') : HL ty sz off s N n 1 mark g' cap' (xs ++ cx) w' := by
  refine ⟨o, (Mks.zero hl).push hc ho hof, ?_⟩
  rcases d with ⟨d, _⟩ | ⟨d, _⟩
  · exact .inl d
  · exact .inr (by omega)
theorem Cm.putL0 {ls ms : List Value} {P : Nat → Prop} {W ws w w' : World} {k : Nat} {sm : Value} {a : Option Addr} {n c g' cap' : Nat} {xs cx : List Value} (h : Cm ls ms P W k (.slice a n c) sm ws w) (D : Dst ls ms) (hP : ∀ b, P b → b < W.heap.size) (hW : W.heap.size ≤ ws.heap.size) (hk : k < ls.length) (e : ls[k] = .slice a n c) (rw_ : Rw w 25 6 (.slice a n c) n c xs)
    (o : w'.ownsRow 0 25 6 (.slice (some ⟨g', 0, none⟩) (n + 1) cap') (n + 1) (xs ++ cx)) (d : GD (.slice a n c) c w w' g' cap') : Cm ls ms P W k (.slice a n c) sm ws w' := by
  rcases rw_ with ⟨hn, ⟨g, e2⟩, own⟩ | ⟨rfl, rfl, rfl, a0, e2⟩
  · simp only [Value.slice.injEq, and_true] at e2
    subst e2
    exact h.putL D hP hW hk e (by rw [own.1]; exact Nat.le_refl _) own (.inl (sblk_some hn)) o d
  · rcases d with ⟨d, _⟩ | ⟨d, gr⟩
    · rw [sblk_zero] at d; cases d
    · exact h.grow0 hP hW gr (fun r e => by cases e)
theorem Cm.putM0 {ls ms : List Value} {P : Nat → Prop} {W ws w w' : World} {k : Nat} {sl : Value} {a : Option Addr} {n c g' cap' : Nat} {xs cx : List Value} (h : Cm ls ms P W k sl (.slice a n c) ws w) (D : Dst ls ms) (hP : ∀ b, P b → b < W.heap.size) (hW : W.heap.size ≤ ws.heap.size) (hk : k < ms.length) (e : ms[k] = .slice a n c) (rw_ : Rw w 38 7 (.slice a n c) n c xs)
    (o : w'.ownsRow 0 38 7 (.slice (some ⟨g', 0, none⟩) (n + 1) cap') (n + 1) (xs ++ cx)) (d : GD (.slice a n c) c w w' g' cap') : Cm ls ms P W k sl (.slice a n c) ws w' := by
  rcases rw_ with ⟨hn, ⟨g, e2⟩, own⟩ | ⟨rfl, rfl, rfl, a0, e2⟩
  · simp only [Value.slice.injEq, and_true] at e2
    subst e2
    exact h.putM D hP hW hk e (by rw [own.1]; exact Nat.le_refl _) own (.inl (sblk_some hn)) o d
  · rcases d with ⟨d, _⟩ | ⟨d, gr⟩
    · rw [sblk_zero] at d; cases d
    · exact h.grow0 hP hW gr (fun r e => by cases e)
/-- a row that was gone on with, as far as it is wanted -/
def Gr (ty sz off : Nat) (s mark : Value) (far N : Nat) (W : World) (x : Value) : Prop :=
  ∃ a n c g cap cur, s = .slice a n c ∧ x = .slice (some ⟨g, 0, none⟩) (n + far) cap ∧ n + far ≤ cap ∧ cap ≤ maxLen ∧ (sblk s = some g ∨ N ≤ g) ∧ W.heap[g]? = some (.cells cur ty (0, 0)) ∧ ∀ i, i < far → cur[(n + i) * sz + off]? = some mark
theorem Gr.keep {ty sz off : Nat} {s mark : Value} {far N : Nat} {W W' : World} {x : Value} (h : Gr ty sz off s mark far N W x) (k : ∀ g, (sblk s = some g ∨ N ≤ g) → (∃ cur, W.heap[g]? = some (.cells cur ty (0, 0))) → W'.heap[g]? = W.heap[g]?) : Gr ty sz off s mark far N W' x := by
  obtain ⟨a, n, c, g, cap, cur, e1, e2, h1, h2, h3, h4, h5⟩ := h
  exact ⟨a, n, c, g, cap, cur, e1, e2, h1, h2, h3, (k g h3 ⟨cur, h4⟩).trans h4, h5⟩
theorem HL.done {ty sz off : Nat} {s : Value} {a : Option Addr} {N n c i : Nat} {mark : Value} {g cap : Nat} {xs : List Value} {w : World} {N0 : Nat} (h : HL ty sz off s N n i mark g cap xs w) (e : s = .slice a n c) (hN : N0 ≤ N) : Gr ty sz off s mark i N0 w (.slice (some ⟨g, 0, none⟩) (n + i) cap) := by
  rcases h.own.2 with ⟨q, _⟩ | ⟨g', cap', cur, q, hb, hg, h1, h2, h3, h4⟩
  · simp at q
  · simp only [Value.slice.injEq, Option.some.injEq, Addr.mk.injEq, and_true, true_and] at q
    obtain ⟨rfl, rfl⟩ := q
    refine ⟨a, n, c, g, cap, cur, e, rfl, h1, h2, ?_, hg, fun q hq => ?_⟩
    · rcases h.at_ with p | p
      · exact .inl p
      · exact .inr (by omega)
    · have := h.mk_.at_ q hq
      rw [← h4, List.getElem?_take] at this
      split at this
      · simpa using this
      · cases this
end Go.Proofs.YthgfomblodhoaaaDoor
