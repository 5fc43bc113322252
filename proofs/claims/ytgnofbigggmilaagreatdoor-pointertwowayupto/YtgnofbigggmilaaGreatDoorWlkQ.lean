import Derived.Test.YtgnofbigggmilaaGreatDoorG26
/- pointer.walk: what the region leaves. -/
set_option linter.unusedSimpArgs false
set_option linter.unusedVariables false
namespace Go.Proofs.YtgnofbigggmilaaGreatDoor
open Go.RowKit Go.Lib
/-- behind the walk below and the making of x's box X, ahead of the store -/
structure MidF (S : Nat → Prop) (G : Nat) (D : V → World → World → Prop) (w wy : World) (X : Nat) (y : V) (rx : Option V) (es : List Value) (vb : Obj) : Prop where
  g : w.grownBy wy (some G)
  lo : w.heap.size + 2 ≤ X
  hi : X < wy.heap.size
  bx : wy.heap[X]? = some (.cells #[.int .i64 0, .bool false, .int .i64 0, .string ⟨#[]⟩, .slice none 0 0, .slice none 0 0] 25)
  vb : wy.heap[w.heap.size]? = some vb
  rb : wy.heap[w.heap.size + 1]? = some (.cells #[.int .i64 0, .bool false, .int .i64 0, .string ⟨#[]⟩, .slice none 0 0, .slice none 0 0] 25)
  ly : y.lies false wy (fun x => S x ∨ (w.heap.size + 2 ≤ x ∧ x ≠ X ∧ x < wy.heap.size)) es
  lf : ∀ x, rx = some x → ∃ W0 W1, Below w.heap.size w W0 ∧ w.heap.size + 2 ≤ W0.heap.size ∧ D x W0 W1 ∧ W1.heap.size ≤ wy.heap.size ∧ (∀ b, (S b ∨ b = G ∨ New W0 W1 b) → wy.heap[b]? = W1.heap[b]? ∧ b ≠ X)
  nn : rx = none → Below w.heap.size w wy
/-- behind the store -/
structure EndF (S : Nat → Prop) (G : Nat) (D : V → World → World → Prop) (w wz : World) (X : Nat) (y : V) (rx : Option V) (es : List Value) (vb : Obj) : Prop where
  g : w.grownBy wz (some G)
  lo : w.heap.size + 2 ≤ X
  hi : X < wz.heap.size
  vb : wz.heap[w.heap.size]? = some vb
  rb : wz.heap[w.heap.size + 1]? = some (.cells #[.int .i64 0, .bool false, .int .i64 0, .string ⟨#[]⟩, .slice none 0 0, .slice none 0 0] 25)
  xr : rowAt wz X 0 es
  ly : y.lies false wz (fun x => S x ∨ (w.heap.size + 2 ≤ x ∧ x < wz.heap.size)) es
  lf : ∀ x, rx = some x → ∃ W0 W1, Below w.heap.size w W0 ∧ w.heap.size + 2 ≤ W0.heap.size ∧ D x W0 W1 ∧ W1.heap.size ≤ wz.heap.size ∧ (∀ b, (S b ∨ b = G ∨ New W0 W1 b) → wz.heap[b]? = W1.heap[b]?)
  nn : rx = none → Below w.heap.size w wz
theorem grown_of {w wh ww : World} {G : Nat} (BH : Below w.heap.size w wh) (gw : wh.grownBy ww (some G)) : w.grownBy ww (some G) :=
  ⟨gw.os.trans BH.os, gw.tape.trans BH.tape, gw.output.trans BH.output, Nat.le_trans BH.size gw.size, fun k hk hne => (gw.block k (Nat.lt_of_lt_of_le hk BH.size) hne).trans (BH.block k hk)⟩
/-- the box was made ahead of the walk below -/
theorem mid_before {S : Nat → Prop} {G : Nat} {D : V → World → World → Prop} {w wh ww : World} {X : Nat} {y : V} {rx : Option V} {es : List Value} {vb : Obj} (hS : ∀ b, S b → b < w.heap.size) (hG : G < w.heap.size) (BH : Below w.heap.size w wh) (h2 : w.heap.size + 2 ≤ X) (h3 : X < wh.heap.size)
    (bx : wh.heap[X]? = some (.cells #[.int .i64 0, .bool false, .int .i64 0, .string ⟨#[]⟩, .slice none 0 0, .slice none 0 0] 25)) (vb0 : wh.heap[w.heap.size]? = some vb) (rb0 : wh.heap[w.heap.size + 1]? = some (.cells #[.int .i64 0, .bool false, .int .i64 0, .string ⟨#[]⟩, .slice none 0 0, .slice none 0 0] 25))
    (hl : y.lies false ww (OrNew S wh ww) es) (gw : wh.grownBy ww (some G)) (lw : ∀ x, rx = some x → Left x S G D wh ww) (nw : rx = none → Below wh.heap.size wh ww) : MidF S G D w ww X y rx es vb := by
  have hs := gw.size
  have ne : ∀ b, w.heap.size ≤ b → some b ≠ some G := fun b hb e => by have := Option.some.inj e; omega
  refine ⟨grown_of BH gw, h2, by omega, (gw.block X h3 (by intro e; have := Option.some.inj e; omega)).trans bx, (gw.block _ (by omega) (by intro e; have := Option.some.inj e; omega)).trans vb0, (gw.block _ (by omega) (by intro e; have := Option.some.inj e; omega)).trans rb0, V.lies_keep (fun h => h) (fun _ _ => rfl) (fun x hx => ?_) _ hl, fun x hx => ?_, fun hn => BH.trans ((nw hn).mono BH.size)⟩
  · rcases hx with hx | hx
    · exact .inl hx
    · exact .inr ⟨by have := hx.1; omega, by have := hx.1; omega, hx.2⟩
  · obtain ⟨W0, W1, b0, d, sz, hb⟩ := lw x hx
    have hs0 := b0.size
    refine ⟨W0, W1, BH.trans (b0.mono BH.size), by omega, d, sz, fun b h => ⟨hb b h, ?_⟩⟩
    rcases h with h | h | h
    · have := hS b h; omega
    · omega
    · have := h.1; omega
/-- the box was made behind the walk below -/
theorem mid_after {S : Nat → Prop} {G : Nat} {D : V → World → World → Prop} {w wh ww : World} {y : V} {rx : Option V} {es : List Value} {vb : Obj} (hS : ∀ b, S b → b < w.heap.size) (hG : G < w.heap.size) (BH : Below w.heap.size w wh) (h3 : w.heap.size + 2 ≤ wh.heap.size)
    (vb0 : wh.heap[w.heap.size]? = some vb) (rb0 : wh.heap[w.heap.size + 1]? = some (.cells #[.int .i64 0, .bool false, .int .i64 0, .string ⟨#[]⟩, .slice none 0 0, .slice none 0 0] 25))
    (hl : y.lies false ww (OrNew S wh ww) es) (gw : wh.grownBy ww (some G)) (lw : ∀ x, rx = some x → Left x S G D wh ww) (nw : rx = none → Below wh.heap.size wh ww) : MidF S G D w (ww.alloc (.cells #[.int .i64 0, .bool false, .int .i64 0, .string ⟨#[]⟩, .slice none 0 0, .slice none 0 0] 25)) ww.heap.size y rx es vb := by
  have hs := gw.size
  have ba : Below ww.heap.size ww (ww.alloc (.cells #[.int .i64 0, .bool false, .int .i64 0, .string ⟨#[]⟩, .slice none 0 0, .slice none 0 0] 25)) := one_belowG _ _
  have hz : (ww.alloc (.cells #[.int .i64 0, .bool false, .int .i64 0, .string ⟨#[]⟩, .slice none 0 0, .slice none 0 0] 25)).heap.size = ww.heap.size + 1 := alloc_size _ _
  have hn := heap_alloc_new ww (.cells #[.int .i64 0, .bool false, .int .i64 0, .string ⟨#[]⟩, .slice none 0 0, .slice none 0 0] 25)
  generalize (ww.alloc (.cells #[.int .i64 0, .bool false, .int .i64 0, .string ⟨#[]⟩, .slice none 0 0, .slice none 0 0] 25)) = wy at *
  refine ⟨⟨ba.os.trans (grown_of BH gw).os, ba.tape.trans (grown_of BH gw).tape, ba.output.trans (grown_of BH gw).output, by have := (grown_of BH gw).size; omega, fun k hk hne => (ba.block k (by have := (grown_of BH gw).size; omega)).trans ((grown_of BH gw).block k hk hne)⟩, by omega, by omega, hn, (ba.block _ (by omega)).trans ((gw.block _ (by omega) (by intro e; have := Option.some.inj e; omega)).trans vb0), (ba.block _ (by omega)).trans ((gw.block _ (by omega) (by intro e; have := Option.some.inj e; omega)).trans rb0), V.lies_keep (fun h => h) (fun x hx => ba.block x ?_) (fun x hx => ?_) _ hl, fun x hx => ?_, fun hn => ?_⟩
  · rcases hx with hx | hx
    · have := hS x hx; omega
    · exact hx.2
  · rcases hx with hx | hx
    · exact .inl hx
    · exact .inr ⟨by have := hx.1; omega, by have := hx.2; omega, by have := hx.2; omega⟩
  · obtain ⟨W0, W1, b0, d, sz, hb⟩ := lw x hx
    have hs0 := b0.size
    refine ⟨W0, W1, BH.trans (b0.mono BH.size), by omega, d, by omega, fun b h => ?_⟩
    have hbw : b < ww.heap.size := by
      rcases h with h | h | h
      · have := hS b h; omega
      · omega
      · have := h.2; omega
    exact ⟨(ba.block b hbw).trans (hb b h), by omega⟩
  · have := BH.trans ((nw hn).mono BH.size)
    exact this.trans (ba.mono this.size)
theorem end_of_mid {S : Nat → Prop} {G : Nat} {D : V → World → World → Prop} {w wy : World} {X : Nat} {y : V} {rx : Option V} {vb : Obj} {c0 c1 c2 c3 c4 c5 : Value} (hS : ∀ b, S b → b < w.heap.size) (hG : G < w.heap.size) (h : MidF S G D w wy X y rx [c0, c1, c2, c3, c4, c5] vb) : EndF S G D w ((((((wy.setCell ⟨X, 0, none⟩ c0).setCell ⟨X, 1, none⟩ c1).setCell ⟨X, 2, none⟩ c2).setCell ⟨X, 3, none⟩ c3).setCell ⟨X, 4, none⟩ c4).setCell ⟨X, 5, none⟩ c5) X y rx [c0, c1, c2, c3, c4, c5] vb := by
  obtain ⟨arr', e1, e2, _, e4, e5, e6⟩ := set6_row (o := 0) h.bx (by decide) c0 c1 c2 c3 c4 c5
  have bb : rx = none → Below w.heap.size w ((((((wy.setCell ⟨X, 0, none⟩ c0).setCell ⟨X, 1, none⟩ c1).setCell ⟨X, 2, none⟩ c2).setCell ⟨X, 3, none⟩ c3).setCell ⟨X, 4, none⟩ c4).setCell ⟨X, 5, none⟩ c5) := fun hn => Below.set6 (h.nn hn) (by have := h.lo; omega) 0 1 2 3 4 5 c0 c1 c2 c3 c4 c5
  have gg : wy.grownBy ((((((wy.setCell ⟨X, 0, none⟩ c0).setCell ⟨X, 1, none⟩ c1).setCell ⟨X, 2, none⟩ c2).setCell ⟨X, 3, none⟩ c3).setCell ⟨X, 4, none⟩ c4).setCell ⟨X, 5, none⟩ c5) (some X) := grown_set (grown_set (grown_set (grown_set (grown_set (grown_set (World.grownBy.refl wy _) 0 c0) 1 c1) 2 c2) 3 c3) 4 c4) 5 c5
  simp only [Nat.zero_add] at e1 e4 e5 e6
  generalize ((((((wy.setCell ⟨X, 0, none⟩ c0).setCell ⟨X, 1, none⟩ c1).setCell ⟨X, 2, none⟩ c2).setCell ⟨X, 3, none⟩ c3).setCell ⟨X, 4, none⟩ c4).setCell ⟨X, 5, none⟩ c5) = wz at *
  have lo := h.lo
  have hi := h.hi
  refine ⟨⟨gg.os.trans h.g.os, gg.tape.trans h.g.tape, gg.output.trans h.g.output, Nat.le_trans h.g.size gg.size, fun k hk hne => (e5 k (by omega)).trans (h.g.block k hk hne)⟩, lo, by omega, (e5 _ (by omega)).trans h.vb, (e5 _ (by omega)).trans h.rb, e4, V.lies_keep (fun h => h) (fun x hx => e5 x ?_) (fun x hx => ?_) _ h.ly, fun x hx => ?_, bb⟩
  · rcases hx with hx | hx
    · have := hS x hx; omega
    · exact hx.2.1
  · rcases hx with hx | hx
    · exact .inl hx
    · exact .inr ⟨hx.1, by have := hx.2.2; omega⟩
  · obtain ⟨W0, W1, b0, b1, d, sz, hb⟩ := h.lf x hx
    exact ⟨W0, W1, b0, b1, d, by omega, fun b hb' => (e5 b (hb b hb').2).trans (hb b hb').1⟩
/-- the answer, stored into its box -/
theorem fin_of_end {S : Nat → Prop} {G : Nat} {D : V → World → World → Prop} {w wz wv : World} {X : Nat} {y z : V} {rx : Option V} {es ds : List Value} {vb : Obj} (hS : ∀ b, S b → b < w.heap.size) (hG : G < w.heap.size) (h : EndF S G D w wz X y rx es vb) (bv : Below wz.heap.size wz wv) (hz : z.lies false wv (OrNew (fun x => S x ∨ (w.heap.size + 2 ≤ x ∧ x < wz.heap.size)) wz wv) ds) (er : Int) (u0 u1 u2 u3 u4 u5 : Value) :
    WkPost (z, er, rx) S G D w (.returned (.tuple #[.agg ds.toArray, .int .i64 er])) ((((((wv.setCell ⟨w.heap.size + 1, 0, none⟩ u0).setCell ⟨w.heap.size + 1, 1, none⟩ u1).setCell ⟨w.heap.size + 1, 2, none⟩ u2).setCell ⟨w.heap.size + 1, 3, none⟩ u3).setCell ⟨w.heap.size + 1, 4, none⟩ u4).setCell ⟨w.heap.size + 1, 5, none⟩ u5) := by
  have hot : ∀ x, x ≠ w.heap.size + 1 → ((((((wv.setCell ⟨w.heap.size + 1, 0, none⟩ u0).setCell ⟨w.heap.size + 1, 1, none⟩ u1).setCell ⟨w.heap.size + 1, 2, none⟩ u2).setCell ⟨w.heap.size + 1, 3, none⟩ u3).setCell ⟨w.heap.size + 1, 4, none⟩ u4).setCell ⟨w.heap.size + 1, 5, none⟩ u5).heap[x]? = wv.heap[x]? := fun x hx => by
    repeat (rw [set_other hx])
  have bb : Below w.heap.size w wv → Below w.heap.size w ((((((wv.setCell ⟨w.heap.size + 1, 0, none⟩ u0).setCell ⟨w.heap.size + 1, 1, none⟩ u1).setCell ⟨w.heap.size + 1, 2, none⟩ u2).setCell ⟨w.heap.size + 1, 3, none⟩ u3).setCell ⟨w.heap.size + 1, 4, none⟩ u4).setCell ⟨w.heap.size + 1, 5, none⟩ u5) := fun hn => Below.set6 hn (by omega) 0 1 2 3 4 5 u0 u1 u2 u3 u4 u5
  have gg : wv.grownBy ((((((wv.setCell ⟨w.heap.size + 1, 0, none⟩ u0).setCell ⟨w.heap.size + 1, 1, none⟩ u1).setCell ⟨w.heap.size + 1, 2, none⟩ u2).setCell ⟨w.heap.size + 1, 3, none⟩ u3).setCell ⟨w.heap.size + 1, 4, none⟩ u4).setCell ⟨w.heap.size + 1, 5, none⟩ u5) (some (w.heap.size + 1)) := grown_set (grown_set (grown_set (grown_set (grown_set (grown_set (World.grownBy.refl wv _) 0 u0) 1 u1) 2 u2) 3 u3) 4 u4) 5 u5
  have hsz : ((((((wv.setCell ⟨w.heap.size + 1, 0, none⟩ u0).setCell ⟨w.heap.size + 1, 1, none⟩ u1).setCell ⟨w.heap.size + 1, 2, none⟩ u2).setCell ⟨w.heap.size + 1, 3, none⟩ u3).setCell ⟨w.heap.size + 1, 4, none⟩ u4).setCell ⟨w.heap.size + 1, 5, none⟩ u5).heap.size = wv.heap.size := by simp only [size_set1]
  generalize ((((((wv.setCell ⟨w.heap.size + 1, 0, none⟩ u0).setCell ⟨w.heap.size + 1, 1, none⟩ u1).setCell ⟨w.heap.size + 1, 2, none⟩ u2).setCell ⟨w.heap.size + 1, 3, none⟩ u3).setCell ⟨w.heap.size + 1, 4, none⟩ u4).setCell ⟨w.heap.size + 1, 5, none⟩ u5) = wf at *
  have s1 := h.g.size
  have s2 := bv.size
  have lo := h.lo
  have hi := h.hi
  refine ⟨ds, rfl, V.lies_keep (fun h => h) (fun x hx => hot x ?_) (fun x hx => ?_) _ hz, ⟨gg.os.trans (bv.os.trans h.g.os), gg.tape.trans (bv.tape.trans h.g.tape), gg.output.trans (bv.output.trans h.g.output), by omega, fun k hk hne => (hot k (by omega)).trans ((bv.block k (by omega)).trans (h.g.block k hk hne))⟩, fun x hx => ?_, fun hn => bb ((h.nn hn).trans (bv.mono (h.nn hn).size))⟩
  · rcases hx with (hx | hx) | hx
    · have := hS x hx; omega
    · have := hx.1; omega
    · have := hx.1; omega
  · rcases hx with (hx | hx) | hx
    · exact .inl hx
    · exact .inr ⟨by have := hx.1; omega, by have := hx.2; omega⟩
    · exact .inr ⟨by have := hx.1; omega, by have := hx.2; omega⟩
  · obtain ⟨W0, W1, b0, b1, d, sz, hb⟩ := h.lf x hx
    refine ⟨W0, W1, b0, d, by omega, fun b hb' => ?_⟩
    have hbz : b < wz.heap.size ∧ b ≠ w.heap.size + 1 := by
      rcases hb' with h | h | h
      · have := hS b h; exact ⟨by omega, by omega⟩
      · exact ⟨by omega, by omega⟩
      · have h1 := h.1; have h2 := h.2; exact ⟨by omega, by omega⟩
    exact (hot b hbz.2).trans ((bv.block b hbz.1).trans (hb b hb'))
end Go.Proofs.YtgnofbigggmilaaGreatDoor
