import Derived.Test.YthgfomblodhoaaaDoorApaQ
/- Rows gone on with: the loop's relation. -/
set_option linter.unusedSimpArgs false
set_option linter.unusedVariables false
namespace Go.Proofs.YthgfomblodhoaaaDoor
open Go Go.RowKit Go.Lib Go.Shelf
theorem Rw.alloc {w : World} {e size : Nat} {s : Value} {n c : Nat} {xs : List Value} (h : Rw w e size s n c xs) (o : Obj) : Rw (w.alloc o) e size s n c xs := by
  rcases h with ⟨hn, ⟨g, rfl⟩, own⟩ | h
  · exact .inl ⟨hn, ⟨g, rfl⟩, own.kept (World.grownBy_alloc w o none) (.inr (by simp [Value.ownBlock]))⟩
  · exact .inr h
theorem Rw.blk {w : World} {e size : Nat} {s : Value} {n c : Nat} {xs : List Value} (h : Rw w e size s n c xs) {g : Nat} (hg : sblk s = some g) : Blk g e (c * size) w := by
  rcases h with ⟨hn, ⟨g', rfl⟩, own⟩ | ⟨rfl, rfl, rfl, a, rfl⟩
  · rw [sblk_some hn] at hg
    obtain rfl : g' = g := Option.some.inj hg
    rcases own.2 with ⟨q, _⟩ | ⟨g2, cap', cur, q, hb, hg, h1, h2, h3, h4⟩
    · simp at q
    · simp only [Value.slice.injEq, Option.some.injEq, Addr.mk.injEq, and_true, true_and] at q
      obtain ⟨rfl, rfl⟩ := q
      exact ⟨cur, hg, h3⟩
  · rw [sblk_zero] at hg; cases hg
theorem HL.rw_ {ty sz off : Nat} {s : Value} {N n i : Nat} {mark : Value} {g cap : Nat} {xs : List Value} {w : World} (h : HL ty sz off s N n i mark g cap xs w) (hn : 0 < n + i) : Rw w ty sz (.slice (some ⟨g, 0, none⟩) (n + i) cap) (n + i) cap xs := by
  refine .inl ⟨?_, ⟨g, rfl⟩, h.own⟩
  rcases h.own.2 with ⟨q, _⟩ | ⟨g', cap', cur, q, hb, hg, h1, h2, h3, h4⟩
  · simp at q
  · simp only [Value.slice.injEq, Option.some.injEq, Addr.mk.injEq, and_true, true_and] at q
    obtain ⟨rfl, rfl⟩ := q
    omega
theorem HL.alloc {ty sz off : Nat} {s : Value} {N n i : Nat} {mark : Value} {g cap : Nat} {xs : List Value} {w : World} (h : HL ty sz off s N n i mark g cap xs w) (o : Obj) : HL ty sz off s N n i mark g cap xs (w.alloc o) := h.keep (World.grownBy_alloc w o none) (by simp)
theorem HL.keepD {ty sz off : Nat} {s : Value} {N n i : Nat} {mark : Value} {g cap : Nat} {xs : List Value} {w w' : World} (h : HL ty sz off s N n i mark g cap xs w) {v : Value} {e size n' c' : Nat} {ys : List Value} (hv : Rw w e size v n' c' ys) (ht : ty ≠ e) {g' cap' : Nat} (d : GD v c' w w' g' cap') : HL ty sz off s N n i mark g cap xs w' := by
  rcases d with ⟨d, _, gr⟩ | ⟨_, gr⟩
  · exact h.keep gr (fun q => blk_ne h.blk (hv.blk d) ht (Option.some.inj q).symm)
  · exact h.keep gr (by simp)
theorem Cm.alloc {ls ms : List Value} {P : Nat → Prop} {W ws w : World} {k : Nat} {sl sm : Value} (h : Cm ls ms P W k sl sm ws w) (hP : ∀ b, P b → b < W.heap.size) (hW : W.heap.size ≤ ws.heap.size) (o : Obj) : Cm ls ms P W k sl sm ws (w.alloc o) := h.grow0 hP hW (World.grownBy_alloc w o none) (fun r e => by cases e)
theorem Cm.row {ls ms : List Value} {P : Nat → Prop} {W ws w : World} {k : Nat} {sl sm : Value} (h : Cm ls ms P W k sl sm ws w) (hl : ∀ y, sblk sl = some y → y < W.heap.size) (hm : ∀ y, sblk sm = some y → y < W.heap.size) {e n : Nat} {v : Value} {xs : List Value} (o : ws.ownsRow W.heap.size e 1 v n xs) : w.ownsRow W.heap.size e 1 v n xs :=
  owns_keep o (fun g q => by
    obtain ⟨h1, cur, h2⟩ := owns_at o q
    exact h.kb g (heap_lt h2) (fun z => by have := hl g z; omega) (fun z => by have := hm g z; omega))
theorem Gr.keepT {ty sz off : Nat} {s mark : Value} {far N : Nat} {W W' : World} {x : Value} {row : Option Nat} (h : Gr ty sz off s mark far N W x) (gr : W.grownBy W' row) (hr : ∀ r, row = some r → ∃ cur t, W.heap[r]? = some (.cells cur t (0, 0)) ∧ t ≠ ty) : Gr ty sz off s mark far N W' x :=
  h.keep fun g _ ⟨cur, hc⟩ => gr.block g (heap_lt hc) (fun e => by
    obtain ⟨cur', t, h1, h2⟩ := hr g e.symm
    rw [hc] at h1
    simp at h1
    exact h2 h1.2.symm)
theorem owns_row {w : World} {B e sz n : Nat} {v : Value} {xs : List Value} (h : w.ownsRow B e sz v n xs) {t : Nat} (ht : e ≠ t) : ∀ r, v.ownBlock = some r → ∃ cur t', w.heap[r]? = some (.cells cur t' (0, 0)) ∧ t' ≠ t := fun r hr => by
  obtain ⟨_, cur, h2⟩ := owns_at h hr
  exact ⟨cur, e, h2, ht⟩
/-- how far the rows are gone on with -/
structure AI (ls ms : List Value) (P : Nat → Prop) (W : World) (far k : Nat) (x4 x5 : Value) (ll mm : List Value) (w : World) : Prop where
  f : Fi ls ms P W ls.length 0 ls.length 0 w
  l4 : ll.length = k
  l5 : mm.length = k
  o4 : w.ownsRow W.heap.size 22 1 x4 k ll
  o5 : w.ownsRow W.heap.size 23 1 x5 k mm
  g4 : ∀ (j : Nat) (h1 : j < ls.length) (h2 : j < ll.length), Gr 25 6 0 ls[j] (.int .i64 (5000000 + (j : Int))) far W.heap.size w ll[j]
  g5 : ∀ (j : Nat) (h1 : j < ms.length) (h2 : j < mm.length), Gr 38 7 1 ms[j] (.int .i64 (-5000000 - (j : Int))) far W.heap.size w mm[j]
theorem AI.start {ls ms : List Value} {P : Nat → Prop} {W w : World} (far : Nat) (F : Fi ls ms P W ls.length 0 ls.length 0 w) : AI ls ms P W far 0 (.slice none 0 0) (.slice none 0 0) [] [] w :=
  ⟨F, rfl, rfl, World.ownsRow_nil _ _ _ _, World.ownsRow_nil _ _ _ _, fun j _ h => by simp at h, fun j _ h => by simp at h⟩
theorem rows_next {w w7 : World} {N k : Nat} {x4 x5 : Value} {ll mm : List Value} {O1 : Obj} (o4 : w.ownsRow N 22 1 x4 k ll) (o5 : w.ownsRow N 23 1 x5 k mm) (r7 : (w.alloc O1).grownBy w7 x4.ownBlock) : w7.ownsRow N 23 1 x5 k mm := by
  refine (o5.kept (World.grownBy_alloc w O1 none) (by cases x5.ownBlock <;> simp)).kept r7 ?_
  cases e5 : x5.ownBlock with
  | none => exact .inl rfl
  | some r =>
    refine .inr fun e4 => ?_
    obtain ⟨_, c1, h1⟩ := owns_at o5 e5
    obtain ⟨_, c2, h2⟩ := owns_at o4 e4.symm
    rw [h1] at h2
    simp at h2
/-- a round of going on is through: the two rows are set down -/
theorem AI.next {ls ms : List Value} {P : Nat → Prop} {W ws w w7 w8 : World} {far k : Nat} {x4 x5 : Value} {ll mm : List Value} {a a' : Option Addr} {n c n' c' g cap h cap' : Nat} {xs ys : List Value} {O1 O2 : Obj} {g7 c7 g8 c8 : Nat}
    (A : AI ls ms P W far k x4 x5 ll mm ws) (D : Dst ls ms) (hP : ∀ b, P b → b < W.heap.size) (hk : k < ls.length) (hk' : k < ms.length) (es : ls[k] = .slice a n c) (es' : ms[k] = .slice a' n' c')
    (K : Cm ls ms P W k (.slice a n c) (.slice a' n' c') ws w) (H : HL 25 6 0 (.slice a n c) ws.heap.size n far (.int .i64 (5000000 + (k : Int))) g cap xs w) (H' : HL 38 7 1 (.slice a' n' c') ws.heap.size n' far (.int .i64 (-5000000 - (k : Int))) h cap' ys w)
    (o7 : w7.ownsRow W.heap.size 22 1 (.slice (some ⟨g7, 0, none⟩) (k + 1) c7) (k + 1) (ll ++ [.slice (some ⟨g, 0, none⟩) (n + far) cap])) (r7 : (w.alloc O1).grownBy w7 x4.ownBlock)
    (o8 : w8.ownsRow W.heap.size 23 1 (.slice (some ⟨g8, 0, none⟩) (k + 1) c8) (k + 1) (mm ++ [.slice (some ⟨h, 0, none⟩) (n' + far) cap'])) (r8 : (w7.alloc O2).grownBy w8 x5.ownBlock) :
    AI ls ms P W far (k + 1) (.slice (some ⟨g7, 0, none⟩) (k + 1) c7) (.slice (some ⟨g8, 0, none⟩) (k + 1) c8) (ll ++ [.slice (some ⟨g, 0, none⟩) (n + far) cap]) (mm ++ [.slice (some ⟨h, 0, none⟩) (n' + far) cap']) w8 := by
  have hb := blks_all K.f.fl K.f.fm
  have hsl : ∀ y, sblk (.slice a n c) = some y → y < W.heap.size := fun y e => hP y (hb y (mem_blkL hk (by rw [es]; exact e)))
  have hsm : ∀ y, sblk (.slice a' n' c') = some y → y < W.heap.size := fun y e => hP y (hb y (mem_blkM hk' (by rw [es']; exact e)))
  have hWs := A.f.size
  have o4 := K.row hsl hsm A.o4
  have o5 := K.row hsl hsm A.o5
  have o4a := o4.kept (World.grownBy_alloc w O1 none) (by cases x4.ownBlock <;> simp)
  have o5a := o5.kept (World.grownBy_alloc w O1 none) (by cases x5.ownBlock <;> simp)
  have t4 : ∀ r, x4.ownBlock = some r → W.heap.size ≤ r := fun r e => (owns_at o4 e).1
  have t5 : ∀ r, x5.ownBlock = some r → W.heap.size ≤ r := fun r e => (owns_at o5 e).1
  have hne : x5.ownBlock = none ∨ x5.ownBlock ≠ x4.ownBlock := by
    cases e5 : x5.ownBlock with
    | none => exact .inl rfl
    | some r =>
      refine .inr fun e4 => ?_
      obtain ⟨_, c1, h1⟩ := owns_at o5 e5
      obtain ⟨_, c2, h2⟩ := owns_at o4 e4.symm
      rw [h1] at h2
      simp at h2
  have o5b := (o5a.kept r7 hne).kept (World.grownBy_alloc w7 O2 none) (by cases x5.ownBlock <;> simp)
  have o7a := o7.kept (World.grownBy_alloc w7 O2 none) (by simp [Value.ownBlock])
  have o7b : w8.ownsRow W.heap.size 22 1 (.slice (some ⟨g7, 0, none⟩) (k + 1) c7) (k + 1) (ll ++ [.slice (some ⟨g, 0, none⟩) (n + far) cap]) := by
    refine o7a.kept r8 (.inr fun e => ?_)
    obtain ⟨_, c1, h1⟩ := owns_at o7a (g := g7) rfl
    obtain ⟨_, c2, h2⟩ := owns_at o5b (g := g7) (by rw [← e]; rfl)
    rw [h1] at h2
    simp at h2
  have up : ∀ {ty sz off : Nat} {s mark x : Value}, ty ≠ 22 → ty ≠ 23 → Gr ty sz off s mark far W.heap.size w x → Gr ty sz off s mark far W.heap.size w8 x := fun {ty sz off s mark x} h1 h2 G =>
    (((G.keepT (World.grownBy_alloc w O1 none) (fun r e => by cases e)).keepT r7 (owns_row o4a (fun e => h1 e.symm))).keepT (World.grownBy_alloc w7 O2 none) (fun r e => by cases e)).keepT r8 (owns_row o5b (fun e => h2 e.symm))
  refine ⟨?_, by rw [List.length_append, A.l4]; rfl, by rw [List.length_append, A.l5]; rfl, o7b, o8, ?_, ?_⟩
  · exact (((K.f.grow0 hP (World.grownBy_alloc w O1 none) (fun r e => by cases e)).grow0 hP r7 t4).grow0 hP (World.grownBy_alloc w7 O2 none) (fun r e => by cases e)).grow0 hP r8 t5
  · intro j h1 h2
    refine up (by decide) (by decide) ?_
    by_cases hj : j < ll.length
    · rw [List.getElem_append_left hj]
      have hjk : j < k := by have := A.l4; omega
      refine (A.g4 j h1 hj).keep fun q hq ⟨cur, hc⟩ => K.kb q (heap_lt hc) (fun e => ?_) (fun e => ?_)
      · rcases hq with hq | hq
        · have := D.ll j k q h1 hk hq (by rw [es]; exact e); omega
        · have := hsl q e; omega
      · rcases hq with hq | hq
        · exact D.lm j k q h1 hk' hq (by rw [es']; exact e)
        · have := hsm q e; omega
    · have hl4 := A.l4
      obtain rfl : j = k := by rw [List.length_append] at h2; simp at h2; omega
      rw [List.getElem_append_right (by omega)]
      simp only [hl4, Nat.sub_self, List.getElem_singleton]
      rw [es]
      exact H.done rfl hWs
  · intro j h1 h2
    refine up (by decide) (by decide) ?_
    by_cases hj : j < mm.length
    · rw [List.getElem_append_left hj]
      have hjk : j < k := by have := A.l5; omega
      refine (A.g5 j h1 hj).keep fun q hq ⟨cur, hc⟩ => K.kb q (heap_lt hc) (fun e => ?_) (fun e => ?_)
      · rcases hq with hq | hq
        · exact D.lm k j q hk h1 (by rw [es]; exact e) hq
        · have := hsl q e; omega
      · rcases hq with hq | hq
        · have := D.mm j k q h1 hk' hq (by rw [es']; exact e); omega
        · have := hsm q e; omega
    · have hl5 := A.l5
      obtain rfl : j = k := by rw [List.length_append] at h2; simp at h2; omega
      rw [List.getElem_append_right (by omega)]
      simp only [hl5, Nat.sub_self, List.getElem_singleton]
      rw [es']
      exact H'.done rfl hWs
end Go.Proofs.YthgfomblodhoaaaDoor
