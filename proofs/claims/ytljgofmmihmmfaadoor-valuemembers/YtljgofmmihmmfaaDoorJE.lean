/- joined: RoomA LitA KepA -/
import Derived.Test.YtljgofmmihmmfaaDoorQSub
import Derived.Test.YtljgofmmihmmfaaDoorSamA
/- roomy: a twin with more room. -/
set_option linter.unusedSimpArgs false
set_option linter.unusedVariables false
namespace Go.Proofs.YtljgofmmihmmfaaDoor
open Go.RowKit

/-- the outermost list and map have marks behind them, n in all -/
def RoomPost (n : Nat) (k : Int) (b : Bool) (i : Int) (s : ByteArray) (l : List V) (m : List Mem) (w : World) (e : Ending) (w' : World) : Prop :=
  ∃ gl cl gm cm SL SM, e = .returned (.agg #[.int .i64 k, .bool b, .int .i64 i, .string s, .slice (some ⟨gl, 0, none⟩) l.length cl, .slice (some ⟨gm, 0, none⟩) m.length cm]) ∧ Below w.heap.size w w' ∧
    OwnL true w' w.heap.size SL (.slice (some ⟨gl, 0, none⟩) (l.length + n) cl) (l.map some ++ List.replicate n none) ∧ OwnM true w' w.heap.size SM (.slice (some ⟨gm, 0, none⟩) (m.length + n) cm) (m.map some ++ List.replicate n none)

structure RmF (w : World) (bw : Nat) (box loc : Array Value) (wr : World) : Prop where
  below : Below w.heap.size w wr
  b0 : wr.heap[w.heap.size]? = some (.cells box 25 (0, 0))
  b1 : wr.heap[w.heap.size + 1]? = some (.cells #[.int .i64 0, .bool false, .int .i64 0, .string ⟨#[]⟩, .slice none 0 0, .slice none 0 0] 25 (0, 0))
  b2 : wr.heap[bw]? = some (.cells loc 25 (0, 0))
theorem RmF.lt {w : World} {bw : Nat} {box loc : Array Value} {wr : World} (h : RmF w bw box loc wr) : bw < wr.heap.size ∧ w.heap.size + 1 < wr.heap.size := ⟨(Array.getElem?_eq_some_iff.1 h.b2).1, (Array.getElem?_eq_some_iff.1 h.b1).1⟩
theorem RmF.grown {w : World} {bw : Nat} {box loc : Array Value} {wr wr' : World} (h : RmF w bw box loc wr) {row : Option Nat} (g : wr.grownBy wr' row) (hr : ∀ r, row = some r → w.heap.size + 2 ≤ r ∧ r ≠ bw) : RmF w bw box loc wr' := by
  have hs := h.lt
  have hn : ∀ q, q < w.heap.size + 2 → some q ≠ row := fun q hq e => by have := (hr q e.symm).1; omega
  exact ⟨h.below.grown g (by have := h.below.size; omega) (fun r e => by have := hr r e; omega), (g.block _ (by omega) (hn _ (by omega))).trans h.b0, (g.block _ (by omega) (hn _ (by omega))).trans h.b1, (g.block _ hs.1 (fun e => (hr bw e.symm).2 rfl)).trans h.b2⟩
theorem RmF.set {w : World} {bw : Nat} {box loc loc' : Array Value} {wr : World} (h : RmF w bw box loc wr) (hb : w.heap.size + 2 ≤ bw) (i : Nat) (u : Value) (e : loc.setIfInBounds i u = loc') : RmF w bw box loc' (wr.setCell ⟨bw, i, none⟩ u) := by
  have hs := h.lt
  have g := grown_set1 wr bw i u
  have hn : ∀ q, q < w.heap.size + 2 → some q ≠ some bw := fun q hq e => by have := Option.some.inj e; omega
  refine ⟨h.below.grown g (by have := h.below.size; omega) (fun r e => by cases e; omega), (g.block _ (by omega) (hn _ (by omega))).trans h.b0, (g.block _ (by omega) (hn _ (by omega))).trans h.b1, ?_⟩
  rw [set_block h.b2, e]

theorem below_set6 {B M : Nat} {a w : World} (h : Below B a w) (hM : B ≤ M) (i1 i2 i3 i4 i5 i6 : Nat) (u1 u2 u3 u4 u5 u6 : Value) :
    Below B a ((((((w.setCell ⟨M, i1, none⟩ u1).setCell ⟨M, i2, none⟩ u2).setCell ⟨M, i3, none⟩ u3).setCell ⟨M, i4, none⟩ u4).setCell ⟨M, i5, none⟩ u5).setCell ⟨M, i6, none⟩ u6) :=
  (((((h.setCell (p := ⟨M, i1, none⟩) hM u1).setCell (p := ⟨M, i2, none⟩) hM u2).setCell (p := ⟨M, i3, none⟩) hM u3).setCell (p := ⟨M, i4, none⟩) hM u4).setCell (p := ⟨M, i5, none⟩) hM u5).setCell (p := ⟨M, i6, none⟩) hM u6
theorem OwnR.set6 {α : Type} {E : α → World → (Nat → Prop) → List Value → Prop} {ty sz : Nat} (K : KeepE E) {w : World} {base M : Nat} {S : Nat → Prop} {v : Value} {l : List α} (h : OwnR E ty sz w base S v l) (hM : M < base) (i1 i2 i3 i4 i5 i6 : Nat) (u1 u2 u3 u4 u5 u6 : Value) :
    OwnR E ty sz ((((((w.setCell ⟨M, i1, none⟩ u1).setCell ⟨M, i2, none⟩ u2).setCell ⟨M, i3, none⟩ u3).setCell ⟨M, i4, none⟩ u4).setCell ⟨M, i5, none⟩ u5).setCell ⟨M, i6, none⟩ u6) base S v l :=
  (((((h.set K hM i1 u1).set K hM i2 u2).set K hM i3 u3).set K hM i4 u4).set K hM i5 u5).set K hM i6 u6

/-- the two rows, apart from one another and from the block bw -/
structure RmR (base bw : Nat) (l : List V) (m : List Mem) (n n' : Nat) (gl cl gm cm : Nat) (SL SM : Nat → Prop) (wr : World) : Prop where
  L : OwnL true wr base SL (.slice (some ⟨gl, 0, none⟩) (l.length + n) cl) (l.map some ++ List.replicate n none)
  M : OwnM true wr base SM (.slice (some ⟨gm, 0, none⟩) (m.length + n') cm) (m.map some ++ List.replicate n' none)
  sl : ∀ x, SL x → x < bw
  sm : ∀ x, SM x → x < bw
  a1 : gl ≠ bw
  a2 : gm ≠ bw
  a3 : gl ≠ gm
  a4 : ¬ SL gm
  a5 : ¬ SM gl
theorem RmR.same {base bw : Nat} {l : List V} {m : List Mem} {n n' gl cl gm cm : Nat} {SL SM : Nat → Prop} {wr wr' : World} (h : RmR base bw l m n n' gl cl gm cm SL SM wr) {row : Option Nat} (g : wr.grownBy wr' row) (hr : ∀ r, row = some r → r = bw) : RmR base bw l m n n' gl cl gm cm SL SM wr' :=
  ⟨h.L.keep (keepL true) g (fun r e => ⟨fun hx => by have := h.sl r hx; have := hr r e; omega, fun e' => h.a1 (by have := hr r e; simp [Value.ownBlock] at e'; omega)⟩), h.M.keep (keepM true) g (fun r e => ⟨fun hx => by have := h.sm r hx; have := hr r e; omega, fun e' => h.a2 (by have := hr r e; simp [Value.ownBlock] at e'; omega)⟩), h.sl, h.sm, h.a1, h.a2, h.a3, h.a4, h.a5⟩
theorem RmR.pushL {base bw : Nat} {l : List V} {m : List Mem} {n n' gl cl gm cm g' c' : Nat} {SL SM : Nat → Prop} {wr wr' : World} (h : RmR base bw l m n n' gl cl gm cm SL SM wr) (hbw : bw < wr.heap.size)
    (o : OwnL true wr' base (fun b => SL b) (.slice (some ⟨g', 0, none⟩) (l.length + n + 1) c') (l.map some ++ (List.replicate n none ++ [none]))) (g : wr.grownBy wr' (some gl)) (e : some gl = some g' ∨ wr.heap.size ≤ g') :
    RmR base bw l m (n + 1) n' g' c' gm cm SL SM wr' := by
  have hM := h.M.lt (g := gm) rfl
  have hg : g' = gl ∨ wr.heap.size ≤ g' := e.elim (fun e => .inl (Option.some.inj e).symm) .inr
  refine ⟨?_, h.M.keep (keepM true) g (fun r e => by cases e; exact ⟨h.a5, fun e' => h.a3 (by simp [Value.ownBlock] at e'; omega)⟩), h.sl, h.sm, ?_, h.a2, ?_, h.a4, ?_⟩
  · rw [List.replicate_succ']
    exact o
  · have := h.a1; omega
  · have := h.a3; omega
  · rcases hg with rfl | hg
    · exact h.a5
    · exact fun hx => by have := h.sm _ hx; omega
theorem RmR.pushM {base bw : Nat} {l : List V} {m : List Mem} {n n' gl cl gm cm g' c' : Nat} {SL SM : Nat → Prop} {wr wr' : World} (h : RmR base bw l m n n' gl cl gm cm SL SM wr) (hbw : bw < wr.heap.size)
    (o : OwnM true wr' base (fun b => SM b) (.slice (some ⟨g', 0, none⟩) (m.length + n' + 1) c') (m.map some ++ (List.replicate n' none ++ [none]))) (g : wr.grownBy wr' (some gm)) (e : some gm = some g' ∨ wr.heap.size ≤ g') :
    RmR base bw l m n (n' + 1) gl cl g' c' SL SM wr' := by
  have hL := h.L.lt (g := gl) rfl
  have hg : g' = gm ∨ wr.heap.size ≤ g' := e.elim (fun e => .inl (Option.some.inj e).symm) .inr
  refine ⟨h.L.keep (keepL true) g (fun r e => by cases e; exact ⟨h.a4, fun e' => h.a3 (by simp [Value.ownBlock] at e'; omega)⟩), ?_, h.sl, h.sm, h.a1, ?_, ?_, ?_, h.a5⟩
  · rw [List.replicate_succ']
    exact o
  · have := h.a2; omega
  · have := h.a3; omega
  · rcases hg with rfl | hg
    · exact h.a4
    · exact fun hx => by have := h.sl _ hx; omega

set_option maxHeartbeats 8000000 in
set_option maxRecDepth 100000 in
theorem roomy_any (k : Int) (b : Bool) (i : Int) (s : ByteArray) (l : List V) (m : List Mem) (S : Nat → Prop) (cs : List Value) (w : World) (hl : (V.mk k b i s l m).lies false w S cs) (hS : ∀ b, S b → b < w.heap.size) (hwt : (V.mk k b i s l m).wt ≤ 2147483648) :
    Calls Tryd.prog 10 #[.agg cs.toArray] w (RoomPost 70 k b i s l m w) := by
  have ct := twin_any (V.mk k b i s l m) S cs
  have hl0 := hl
  rw [V.lies] at hl
  obtain ⟨al, cl, bl, ol, am, cm, bm, om, rfl, hk, hi, hs, hal, ham, _⟩ := hl
  have hwt' := hwt
  rw [V.wt] at hwt
  have hlm := wtL_len l
  have hmm := wtM_len m
  obtain ⟨i0, hi0, hz0, hz1, hz2⟩ := info_parts info25
  obtain ⟨i1, hi1, hy0, hy1, hy2⟩ := info_parts info44
  have hI : Hid (Tryd.prog.info? 25 = some i0 ∧ i0.zero = some (.agg #[.int .i64 0, .bool false, .int .i64 0, .string ⟨#[]⟩, .slice none 0 0, .slice none 0 0]) ∧ i0.size = 6 ∧ i0.bytes = 88) := ⟨hi0, hz0, hz1, hz2⟩
  have hJ : Hid (Tryd.prog.info? 44 = some i1 ∧ i1.zero = some (.agg #[.string ⟨#[]⟩, .int .i64 0, .bool false, .int .i64 0, .string ⟨#[]⟩, .slice none 0 0, .slice none 0 0]) ∧ i1.size = 7 ∧ i1.bytes = 104) := ⟨hi1, hy0, hy1, hy2⟩
  clear hi0 hz0 hz1 hz2 hi1 hy0 hy1 hy2
  let w0 := (w.alloc (.cells #[.int .i64 k, .bool b, .int .i64 i, .string s, .slice al l.length cl, .slice am m.length cm] 25)).alloc (.cells #[.int .i64 0, .bool false, .int .i64 0, .string ⟨#[]⟩, .slice none 0 0, .slice none 0 0] 25)
  have hz : w0.heap.size = w.heap.size + 1 + 1 := by show ((w.alloc _).alloc _).heap.size = _; rw [alloc_size, alloc_size]
  have hk0 : ∀ x, S x → w0.heap[x]? = w.heap[x]? := fun x hx => alloc2_keep w _ _ (hS x hx)
  have c := ct w0 (V.lies_keep (fun h => h) hk0 (fun _ h => h) _ hl0) (fun x hx => by have := hS x hx; omega) hwt'
  have B0 : Below w.heap.size w w0 := ((Below.refl w.heap.size w).alloc (Nat.le_refl _) _).alloc (by rw [alloc_size]; omega) _
  have v0 : w0.heap[w.heap.size]? = some (.cells #[.int .i64 k, .bool b, .int .i64 i, .string s, .slice al l.length cl, .slice am m.length cm] 25 (0, 0)) := (Below.heap_alloc _ _ _ (by rw [alloc_size]; omega)).trans (heap_alloc_new w _)
  have v1 : w0.heap[w.heap.size + 1]? = some (.cells #[.int .i64 0, .bool false, .int .i64 0, .string ⟨#[]⟩, .slice none 0 0, .slice none 0 0] 25 (0, 0)) := alloc2_new w _ _
  go_enter Tryd.func10, Tryd.ntmps10
  go_wp2_with fail
  refine c.mono ?_
  rintro e w1 ⟨gl, xl, gm, xm, SL, SM, rfl, b1, oL, oM, n1, n2, n3⟩
  have hz1 := b1.size
  have hwz : w.heap.size + 2 ≤ w1.heap.size := by omega
  have gA : w1.grownBy (w1.alloc (.cells #[.int .i64 k, .bool b, .int .i64 i, .string s, .slice (some ⟨gl, 0, none⟩) l.length xl, .slice (some ⟨gm, 0, none⟩) m.length xm] 25)) none := World.grownBy_alloc _ _ _
  have tA : RmF w w1.heap.size #[.int .i64 k, .bool b, .int .i64 i, .string s, .slice al l.length cl, .slice am m.length cm] #[.int .i64 k, .bool b, .int .i64 i, .string s, .slice (some ⟨gl, 0, none⟩) l.length xl, .slice (some ⟨gm, 0, none⟩) m.length xm] (w1.alloc (.cells #[.int .i64 k, .bool b, .int .i64 i, .string s, .slice (some ⟨gl, 0, none⟩) l.length xl, .slice (some ⟨gm, 0, none⟩) m.length xm] 25)) :=
    ⟨(B0.trans (b1.mono (by omega))).grown gA (by omega) (fun r e => by cases e), (gA.block _ (by omega) (by simp)).trans ((b1.block _ (by omega)).trans v0), (gA.block _ (by omega) (by simp)).trans ((b1.block _ (by omega)).trans v1), heap_alloc_new w1 _⟩
  have lL := oL.lt (g := gl) rfl
  have lM := oM.lt (g := gm) rfl
  rw [hz] at oL oM lL lM
  have rA : RmR (w.heap.size + 1 + 1) w1.heap.size l m 1 1 gl xl gm xm SL SM (w1.alloc (.cells #[.int .i64 k, .bool b, .int .i64 i, .string s, .slice (some ⟨gl, 0, none⟩) l.length xl, .slice (some ⟨gm, 0, none⟩) m.length xm] 25)) :=
    ⟨oL.alloc (keepL true) _, oM.alloc (keepM true) _, fun x hx => (oL.off x hx).2.1, fun x hx => (oM.off x hx).2.1, by omega, by omega, n3, n1, n2⟩
  have hll1 := oL.le
  have hmm1 := oM.le
  simp only [List.length_append, List.length_map, List.length_singleton] at hll1 hmm1
  have hz0w : w0.heap.size = w.heap.size + 1 + 1 := hz
  clear_value w0
  go_wp2_with fail
  go_loopw [4] (fun e wr => ∃ (j gl cl' gm cm' nl nm : Nat) (SL SM : Nat → Prop), 1 ≤ j ∧ j ≤ 70 ∧ e = .int .i64 (j : Int) ∧ nl ≤ cl' ∧ nm ≤ cm' ∧ RmF w w1.heap.size #[.int .i64 k, .bool b, .int .i64 i, .string s, .slice al l.length cl, .slice am m.length cm] #[.int .i64 k, .bool b, .int .i64 i, .string s, .slice (some ⟨gl, 0, none⟩) nl cl', .slice (some ⟨gm, 0, none⟩) nm cm'] wr ∧ RmR (w.heap.size + 1 + 1) w1.heap.size l m j j gl cl' gm cm' SL SM wr) (fun e _ => 70 - (RowKit.intOf e).toNat)
  case atStart => exact ⟨1, gl, xl, gm, xm, _, _, SL, SM, by omega, by omega, rfl, by omega, by omega, tA, rA⟩
  case round =>
    clear tA rA oL oM n1 n2 n3 lL lM hll1 hmm1 gA
    obtain ⟨j, g1, c1, g2, c2, nl, nm, SL, SM, hj1, hj, rfl, hnl, hnm, tj, rj⟩ := hrel
    have hlt := tj.lt
    have e4 : wr.cell? ⟨w.heap.size, 4, none⟩ = some (.slice al l.length cl) := by rw [cell_of_block tj.b0]; rfl
    have e5 : wr.cell? ⟨w.heap.size, 5, none⟩ = some (.slice am m.length cm) := by rw [cell_of_block tj.b0]; rfl
    have f4 : wr.cell? ⟨w1.heap.size, 4, none⟩ = some (.slice (some ⟨g1, 0, none⟩) nl c1) := by rw [cell_of_block tj.b2]; rfl
    have f5 : wr.cell? ⟨w1.heap.size, 5, none⟩ = some (.slice (some ⟨g2, 0, none⟩) nm c2) := by rw [cell_of_block tj.b2]; rfl
    have hc1 := rj.L.le
    have hc2 := rj.M.le
    simp only [List.length_append, List.length_map, List.length_replicate] at hc1 hc2
    have hL := rj.L.lt (g := g1) rfl
    have hM := rj.M.lt (g := g2) rfl
    have hll : (l.map some ++ List.replicate j (none : Option V)).length = l.length + j := by simp
    have hml : (m.map some ++ List.replicate j (none : Option Mem)).length = m.length + j := by simp
    have y1 : (l.length : Int) + j ≤ c1 := by omega
    have y2 : (m.length : Int) + j ≤ c2 := by omega
    by_cases hj7 : j < 70
    · have y3 : (j : Int) < 70 := by omega
      go_wp2_with (at_builtin; go_loud (refine wpl_push (keepL true) _ rfl (.tmp 18) (.tmp 20) 22 rfl (w.heap.size + 1 + 1) i0 _ 88 Tryd.underlying22 hI.out.1 hI.out.2.1 hI.out.2.2.1 hI.out.2.2.2 rfl (by decide) (by decide) (.slice (some ⟨g1, 0, none⟩) (l.length + j) c1) Option.none (Sx := fun _ => False) rfl (rj.L.alloc (keepL true) _) wr.heap.size 1 (0, 0) rfl (heap_alloc_new wr _) rfl one6 rfl (fun b hb => hb.elim) (by rw [hll]; omega) (by rw [alloc_size]; omega) ?_))
      intro g3 c3 w5 o5 gr5 e6
      have hzw := gr5.size
      rw [alloc_size] at hzw
      have hL5 := o5.lt (g := g3) rfl
      have t5 := (tj.grown (World.grownBy_alloc wr _ none) (fun r e => by cases e)).grown gr5 (fun r e => by simp [Value.ownBlock] at e; subst e; exact ⟨by omega, rj.a1⟩)
      have r5 := (rj.same (World.grownBy_alloc wr _ none) (fun r e => by cases e)).pushL (by rw [alloc_size]; omega) o5 gr5 (by rw [alloc_size]; exact e6)
      have p4 : w5.cell? ⟨w1.heap.size, 4, none⟩ = some (.slice (some ⟨g1, 0, none⟩) nl c1) := by rw [cell_of_block t5.b2]; rfl
      have p5 : w5.cell? ⟨w1.heap.size, 5, none⟩ = some (.slice (some ⟨g2, 0, none⟩) nm c2) := by rw [cell_of_block t5.b2]; rfl
      have pf : ∀ i, w5.frozen? ⟨w1.heap.size, i, none⟩ = false := frozen_of_block t5.b2
      have p6 : w5.cell? ⟨w.heap.size, 5, none⟩ = some (.slice am m.length cm) := by rw [cell_of_block t5.b0]; rfl
      have t6 := t5.set (by omega) 4 (.slice (some ⟨g3, 0, none⟩) (l.length + j + 1) c3) rfl
      have r6 := r5.same (grown_set1 w5 w1.heap.size 4 (.slice (some ⟨g3, 0, none⟩) (l.length + j + 1) c3)) (fun r e => by cases e; rfl)
      have hz6 : (w5.setCell ⟨w1.heap.size, 4, none⟩ (.slice (some ⟨g3, 0, none⟩) (l.length + j + 1) c3)).heap.size = w5.heap.size := by simp
      have hne : w.heap.size ≠ w1.heap.size := by omega
      have z5 : (w5.setCell ⟨w1.heap.size, 4, none⟩ (.slice (some ⟨g3, 0, none⟩) (l.length + j + 1) c3)).cell? ⟨w.heap.size, 5, none⟩ = some (.slice am m.length cm) := by rw [cell_of_block t6.b0]; rfl
      clear f4 e4 e5
      go_wp2_with (at_builtin; go_loud (refine wpl_push (keepM true) _ rfl (.tmp 30) (.tmp 32) 23 rfl (w.heap.size + 1 + 1) i1 _ 104 Tryd.underlying23 hJ.out.1 hJ.out.2.1 hJ.out.2.2.1 hJ.out.2.2.2 rfl (by decide) (by decide) (.slice (some ⟨g2, 0, none⟩) (m.length + j) c2) Option.none (Sx := fun _ => False) rfl (r6.M.alloc (keepM true) _) w5.heap.size 1 (0, 0) rfl (by rw [← hz6]; exact heap_alloc_new _ _) rfl one7 rfl (fun b hb => hb.elim) (by rw [hml]; omega) (by rw [alloc_size, hz6]; omega) ?_))
      intro g4 c4 w7 o7 gr7 e8
      have hz7 := gr7.size
      rw [alloc_size, hz6] at hz7
      have hM7 := o7.lt (g := g4) rfl
      have hM5 := r6.M.lt (g := g2) rfl
      have t7 := (t6.grown (World.grownBy_alloc _ _ none) (fun r e => by cases e)).grown gr7 (fun r e => by simp [Value.ownBlock] at e; subst e; exact ⟨by omega, r6.a2⟩)
      have r7 := (r6.same (World.grownBy_alloc _ _ none) (fun r e => by cases e)).pushM (by rw [alloc_size, hz6]; omega) o7 gr7 (by rw [alloc_size, hz6]; exact e8)
      have u5 : w7.cell? ⟨w1.heap.size, 5, none⟩ = some (.slice (some ⟨g2, 0, none⟩) nm c2) := by rw [cell_of_block t7.b2]; rfl
      have uf : ∀ i, w7.frozen? ⟨w1.heap.size, i, none⟩ = false := frozen_of_block t7.b2
      have t8 := t7.set (by omega) 5 (.slice (some ⟨g4, 0, none⟩) (m.length + j + 1) c4) rfl
      have r8 := r7.same (grown_set1 w7 w1.heap.size 5 (.slice (some ⟨g4, 0, none⟩) (m.length + j + 1) c4)) (fun r e => by cases e; rfl)
      have HR : Hid (RmF w w1.heap.size #[.int .i64 k, .bool b, .int .i64 i, .string s, .slice al l.length cl, .slice am m.length cm] #[.int .i64 k, .bool b, .int .i64 i, .string s, .slice (some ⟨g3, 0, none⟩) (l.length + j + 1) c3, .slice (some ⟨g4, 0, none⟩) (m.length + j + 1) c4] (w7.setCell ⟨w1.heap.size, 5, none⟩ (.slice (some ⟨g4, 0, none⟩) (m.length + j + 1) c4)) ∧ RmR (w.heap.size + 1 + 1) w1.heap.size l m (j + 1) (j + 1) g3 c3 g4 c4 SL SM (w7.setCell ⟨w1.heap.size, 5, none⟩ (.slice (some ⟨g4, 0, none⟩) (m.length + j + 1) c4))) := ⟨t8, r8⟩
      have hc3 := r8.L.le
      have hc4 := r8.M.le
      simp only [List.length_append, List.length_map, List.length_replicate] at hc3 hc4
      clear t5 t6 t7 t8 r5 r6 r7 r8 o5 o7 p4 p5 pf p6 z5 gr5 gr7 rj tj
      go_wp2_with fail
      go_roundw
      case rel => exact ⟨j + 1, g3, c3, g4, c4, _, _, SL, SM, by omega, by omega, by go_num, by omega, by omega, HR.out.1, HR.out.2⟩
      case measure => simp [RowKit.intOf]; omega
    · obtain rfl : j = 70 := by omega
      have HR : Hid (RmR (w.heap.size + 1 + 1) w1.heap.size l m 70 70 g1 c1 g2 c2 SL SM wr) := rj
      have q0 : wr.cell? ⟨w1.heap.size, 0, none⟩ = some (.int .i64 k) := by rw [cell_of_block tj.b2]; rfl
      have q1 : wr.cell? ⟨w1.heap.size, 1, none⟩ = some (.bool b) := by rw [cell_of_block tj.b2]; rfl
      have q2 : wr.cell? ⟨w1.heap.size, 2, none⟩ = some (.int .i64 i) := by rw [cell_of_block tj.b2]; rfl
      have q3 : wr.cell? ⟨w1.heap.size, 3, none⟩ = some (.string s) := by rw [cell_of_block tj.b2]; rfl
      have qf : ∀ i, wr.frozen? ⟨w1.heap.size, i, none⟩ = false := frozen_of_block tj.b2
      have r0 : wr.cell? ⟨w.heap.size + 1, 0, none⟩ = some (.int .i64 0) := by rw [cell_of_block tj.b1]; rfl
      have r1 : wr.cell? ⟨w.heap.size + 1, 1, none⟩ = some (.bool false) := by rw [cell_of_block tj.b1]; rfl
      have r2 : wr.cell? ⟨w.heap.size + 1, 2, none⟩ = some (.int .i64 0) := by rw [cell_of_block tj.b1]; rfl
      have r3 : wr.cell? ⟨w.heap.size + 1, 3, none⟩ = some (.string ⟨#[]⟩) := by rw [cell_of_block tj.b1]; rfl
      have r4 : wr.cell? ⟨w.heap.size + 1, 4, none⟩ = some (.slice none 0 0) := by rw [cell_of_block tj.b1]; rfl
      have r5 : wr.cell? ⟨w.heap.size + 1, 5, none⟩ = some (.slice none 0 0) := by rw [cell_of_block tj.b1]; rfl
      have rf : ∀ i, wr.frozen? ⟨w.heap.size + 1, i, none⟩ = false := frozen_of_block tj.b1
      have hne : w.heap.size ≠ w1.heap.size := by omega
      have hne2 : w.heap.size + 1 ≠ w1.heap.size := by omega
      have hne3 : w1.heap.size ≠ w.heap.size + 1 := by omega
      have hne4 : w1.heap.size ≠ w.heap.size := by omega
      have hB := tj.below
      have ya : (l.length : Int) ≤ c1 := by omega
      have yb : (m.length : Int) ≤ c2 := by omega
      clear tj rj y1 y2
      go_wp2_with fail
      (try simp only [Exit.inBlock, Exit.then])
      refine bodyPost_ret (v := .agg #[.int .i64 k, .bool b, .int .i64 i, .string s, .slice (some ⟨g1, 0, none⟩) l.length c1, .slice (some ⟨g2, 0, none⟩) m.length c2]) ?_ rfl ?_
      · rw [results_cell1 rfl]
        go_simp
      · have R2 := (HR.out.same (grown_set1 wr w1.heap.size 4 (.slice (some ⟨g1, 0, none⟩) l.length c1)) (fun r e => by cases e; rfl)).same (grown_set1 _ w1.heap.size 5 (.slice (some ⟨g2, 0, none⟩) m.length c2)) (fun r e => by cases e; rfl)
        have B2 := (hB.setCell (p := ⟨w1.heap.size, 4, none⟩) (by show w.heap.size ≤ w1.heap.size; omega) (.slice (some ⟨g1, 0, none⟩) l.length c1)).setCell (p := ⟨w1.heap.size, 5, none⟩) (by show w.heap.size ≤ w1.heap.size; omega) (.slice (some ⟨g2, 0, none⟩) m.length c2)
        exact ⟨g1, c1, g2, c2, SL, SM, rfl, below_set6 B2 (by omega) _ _ _ _ _ _ _ _ _ _ _ _, (R2.L.set6 (keepL true) (by omega) _ _ _ _ _ _ _ _ _ _ _ _).base (by omega), (R2.M.set6 (keepM true) (by omega) _ _ _ _ _ _ _ _ _ _ _ _).base (by omega)⟩
end Go.Proofs.YtljgofmmihmmfaaDoor

/- little: the room behind each list and map. -/
set_option linter.unusedSimpArgs false
set_option linter.unusedVariables false
namespace Go.Proofs.YtljgofmmihmmfaaDoor
open Go.RowKit

set_option maxHeartbeats 4000000 in
set_option maxRecDepth 100000 in
theorem little_any (v : V) : ∀ (S : Nat → Prop) (cs : List Value) (w : World), v.lies true w S cs → (∀ x, S x → x < w.heap.size) → v.wt ≤ 1099511627776 → Calls Tryd.prog 47 #[.agg cs.toArray] w (BPost true w) := by
  induction v using V.ind_v with
  | h k b i s l m ihl ihm =>
  intro S cs w hl hS hwt
  rw [V.lies] at hl
  obtain ⟨al, cl, bl, ol, am, cm, bm, om, rfl, hk, hi, hs, hal, ham, hl1, hm1, hR⟩ := hl
  obtain ⟨rfl, r2, r3, r4, rfl, r6, r7, r8⟩ := hR rfl
  have HL : Hid (liesL true w S l bl ol) := hl1
  have HM : Hid (liesM true w S m bm om) := hm1
  clear hl1 hm1 hR
  rw [V.wt] at hwt
  have hlm := wtL_len l
  have hmm := wtM_len m
  have B0 : Below w.heap.size w (w.alloc (.cells #[.int .i64 k, .bool b, .int .i64 i, .string s, .slice (some ⟨bl, ol, none⟩) l.length cl, .slice (some ⟨bm, om, none⟩) m.length cm] 25)) := (Below.refl _ _).alloc (Nat.le_refl _) _
  have hb0 := box_row w [.int .i64 k, .bool b, .int .i64 i, .string s, .slice (some ⟨bl, ol, none⟩) l.length cl, .slice (some ⟨bm, om, none⟩) m.length cm] 25
  have hz0 := alloc_size w (.cells #[.int .i64 k, .bool b, .int .i64 i, .string s, .slice (some ⟨bl, ol, none⟩) l.length cl, .slice (some ⟨bm, om, none⟩) m.length cm] 25)
  have hbl := hS _ r3
  have hbm := hS _ r7
  go_enter Tryd.func47, Tryd.ntmps47
  go_wp2_with fail
  generalize (w.alloc (.cells #[.int .i64 k, .bool b, .int .i64 i, .string s, .slice (some ⟨bl, ol, none⟩) l.length cl, .slice (some ⟨bm, om, none⟩) m.length cm] 25)) = w0 at *
  obtain ⟨d0, d1, d2, d3, d4, d5⟩ := row6z hb0
  have x4 : ∀ x : Sub w0.heap.size w0, _ := sub_cell d4 (by omega)
  have x5 : ∀ x : Sub w0.heap.size w0, _ := sub_cell d5 (by omega)
  have z4 : ∀ x : Sub w0.heap.size w0, _ := sub_cell ((B0.cell (p := ⟨bl, ol + l.length * 6, none⟩) hbl).trans r4) (by omega)
  have z5 : ∀ x : Sub w0.heap.size w0, _ := sub_cell ((B0.cell (p := ⟨bm, om + m.length * 7, none⟩) hbm).trans r8) (by omega)
  have y1 : (l.length : Int) + 1 ≤ cl := by omega
  have y2 : (m.length : Int) + 1 ≤ cm := by omega
  refine wp_region_sub w0.heap.size (by kernel_rfl) (by kernel_rfl) ?_
  repeat (go_big_quiet_step (fail))
  refine wpQuiet_nil ?_
  rintro wq ⟨⟨wq', bq⟩, hq⟩
  have hq' : wq = wq' := hq
  subst hq'
  clear hq
  have hzq := bq.size
  have B1 : Below w.heap.size w wq := B0.trans (bq.mono (by omega))
  have hb1 := hb0.keep (bq.block _ (by omega))
  obtain ⟨f0, f1, f2, f3, f4, f5⟩ := row6z hb1
  clear d0 d1 d2 d3 d4 d5 x4 x5 z4 z5
  go_wp2_with fail
  go_loopw [3] (fun e wr => ∃ j : Nat, j ≤ l.length ∧ e = .int .i64 (j : Int) ∧ Below wq.heap.size wq wr) (fun e _ => l.length - (RowKit.intOf e).toNat)
  case atStart => exact ⟨0, by omega, rfl, Below.refl _ _⟩
  case round =>
    clear f0 f1 f2 f3 f4 f5
    obtain ⟨j, hj, rfl, bj⟩ := hrel
    have hzr := bj.size
    obtain ⟨f0, f1, f2, f3, f4, f5⟩ := row6z (hb1.keep (bj.block _ (by omega)))
    by_cases hjl : j < l.length
    · have y3 : (j : Int) < l.length := by omega
      obtain ⟨hSb, csj, hrow, hlj⟩ := liesL_get HL.out j hjl
      have hkw : ∀ x, S x → wr.heap[x]? = w.heap[x]? := fun x hx => (bj.block x (by have := hS x hx; omega)).trans (B1.block x (hS x hx))
      have hlj' := V.lies_keep (R' := true) (S' := S) (fun h => h) hkw (fun _ h => h) _ hlj
      obtain ⟨ek, eb, ei, es, eal, enl, ecl, eam, enm, ecm, rfl⟩ := V.ten hlj
      obtain ⟨q0, q1, q2, q3, q4, q5⟩ := row6 (hrow.keep (hkw _ hSb))
      have ih := ihl l[j] (List.getElem_mem hjl) S _ wr hlj' (fun x hx => by have := hS x hx; omega) (by have := wtL_mem (List.getElem_mem hjl); omega)
      clear hlj hlj' hrow
      go_wp2_with fail
      refine ih.mono ?_
      rintro e w3 ⟨rfl, b3⟩
      go_wp2_with fail
      go_roundw
      case rel => exact ⟨j + 1, by omega, by go_num, bj.trans (b3.mono hzr)⟩
      case measure => simp [RowKit.intOf]; omega
    · obtain rfl : j = l.length := by omega
      have y3 : ¬ (l.length : Int) < l.length := by omega
      go_wp2_with fail
      rename World => wA
      go_loopw [5] (fun e wr => ∃ j : Nat, j ≤ m.length ∧ e = .int .i64 (j : Int) ∧ Below wq.heap.size wq wr) (fun e _ => m.length - (RowKit.intOf e).toNat)
      case atStart => exact ⟨0, by omega, rfl, bj⟩
      case round =>
        clear f0 f1 f2 f3 f4 f5 bj hzr
        obtain ⟨j, hj, rfl, bj⟩ := hrel
        have hzr := bj.size
        obtain ⟨f0, f1, f2, f3, f4, f5⟩ := row6z (hb1.keep (bj.block _ (by omega)))
        by_cases hjl : j < m.length
        · have y3 : (j : Int) < m.length := by omega
          obtain ⟨hSb, hks, csj, hrow, hlj⟩ := liesM_get HM.out j hjl
          have hkw : ∀ x, S x → wr.heap[x]? = w.heap[x]? := fun x hx => (bj.block x (by have := hS x hx; omega)).trans (B1.block x (hS x hx))
          have hlj' := V.lies_keep (R' := true) (S' := S) (fun h => h) hkw (fun _ h => h) _ hlj
          obtain ⟨ek, eb, ei, es, eal, enl, ecl, eam, enm, ecm, rfl⟩ := V.ten hlj
          obtain ⟨q, q0, q1, q2, q3, q4, q5⟩ := row7 (hrow.keep (hkw _ hSb))
          have ih := ihm m[j] (List.getElem_mem hjl) S _ wr hlj' (fun x hx => by have := hS x hx; omega) (by have := wtM_mem (List.getElem_mem hjl); omega)
          clear hlj hlj' hrow
          go_wp2_with fail
          refine ih.mono ?_
          rintro e w3 ⟨rfl, b3⟩
          go_wp2_with fail
          go_roundw
          case rel => exact ⟨j + 1, by omega, by go_num, bj.trans (b3.mono hzr)⟩
          case measure => simp [RowKit.intOf]; omega
        · obtain rfl : j = m.length := by omega
          have y3 : ¬ (m.length : Int) < m.length := by omega
          go_wp2_with fail
          go_ret
          exact ⟨rfl, B1.trans (bj.mono (by omega))⟩
end Go.Proofs.YtljgofmmihmmfaaDoor

/- kept: the value still, and its room. -/
set_option linter.unusedSimpArgs false
set_option linter.unusedVariables false
namespace Go.Proofs.YtljgofmmihmmfaaDoor
open Go.RowKit

/-- the rows of a value with room, in some world -/
structure Roomy (k : Int) (b : Bool) (i : Int) (s : ByteArray) (l : List V) (m : List Mem) (N gl cl gm cm : Nat) (SL SM : Nat → Prop) (w : World) : Prop where
  L : OwnL true w N SL (.slice (some ⟨gl, 0, none⟩) (l.length + 70) cl) (l.map some ++ List.replicate 70 none)
  M : OwnM true w N SM (.slice (some ⟨gm, 0, none⟩) (m.length + 70) cm) (m.map some ++ List.replicate 70 none)
theorem Roomy.below {k : Int} {b : Bool} {i : Int} {s : ByteArray} {l : List V} {m : List Mem} {N gl cl gm cm : Nat} {SL SM : Nat → Prop} {w w' : World} (h : Roomy k b i s l m N gl cl gm cm SL SM w) (hb : Below w.heap.size w w') : Roomy k b i s l m N gl cl gm cm SL SM w' := ⟨h.L.below (keepL true) hb, h.M.below (keepM true) hb⟩

theorem rep_at {α : Type} (l : List α) (n q : Nat) (x : α) (hq : q < n) : (l ++ List.replicate n x)[l.length + q]'(by simp; omega) = x := by
  rw [List.getElem_append_right (by omega)]
  simp
theorem Roomy.markL {k : Int} {b : Bool} {i : Int} {s : ByteArray} {l : List V} {m : List Mem} {N gl cl gm cm : Nat} {SL SM : Nat → Prop} {w : World} (h : Roomy k b i s l m N gl cl gm cm SL SM w) (q : Nat) (hq : q < 70) : w.cell? ⟨gl, (l.length + q) * 6, none⟩ = some (.int .i64 77) := by
  obtain ⟨cs, h1, h2⟩ := h.L.at (by simp) (l.length + q) (by simp; omega)
  have e := rep_at (l.map some) 70 q (none : Option V) hq
  simp only [List.length_map] at e
  rw [e] at h2
  have h3 : cs = [.int .i64 77, .bool false, .int .i64 0, .string ⟨#[]⟩, .slice none 0 0, .slice none 0 0] := h2
  subst h3
  have := h1 0 _ rfl
  simpa using this
theorem Roomy.markM {k : Int} {b : Bool} {i : Int} {s : ByteArray} {l : List V} {m : List Mem} {N gl cl gm cm : Nat} {SL SM : Nat → Prop} {w : World} (h : Roomy k b i s l m N gl cl gm cm SL SM w) (q : Nat) (hq : q < 70) : w.cell? ⟨gm, (m.length + q) * 7, none⟩ = some (.string ⟨#[114, 111, 111, 109]⟩) := by
  obtain ⟨cs, h1, h2⟩ := h.M.at (by simp) (m.length + q) (by simp; omega)
  have e := rep_at (m.map some) 70 q (none : Option Mem) hq
  simp only [List.length_map] at e
  rw [e] at h2
  have h3 : cs = [.string ⟨#[114, 111, 111, 109]⟩, .int .i64 0, .bool false, .int .i64 0, .string ⟨#[]⟩, .slice none 0 0, .slice none 0 0] := h2
  subst h3
  have := h1 0 _ rfl
  simpa using this
theorem Roomy.lies {k : Int} {b : Bool} {i : Int} {s : ByteArray} {l : List V} {m : List Mem} {N gl cl gm cm : Nat} {SL SM : Nat → Prop} {w : World} (h : Roomy k b i s l m N gl cl gm cm SL SM w) (hk : In64 k) (hi : In64 i) (hs : s.size ≤ maxLen) :
    (V.mk k b i s l m).lies true w (fun x => N ≤ x ∧ x < w.heap.size) [.int .i64 k, .bool b, .int .i64 i, .string s, .slice (some ⟨gl, 0, none⟩) l.length cl, .slice (some ⟨gm, 0, none⟩) m.length cm] := by
  have hl1 := h.L.le
  have hm1 := h.M.le
  have hgl := h.L.lt (g := gl) rfl
  have hgm := h.M.lt (g := gm) rfl
  have k1 := h.markL 0 (by omega)
  have k2 := h.markM 0 (by omega)
  simp at hl1 hm1
  rw [V.lies]
  refine ⟨_, _, gl, 0, _, _, gm, 0, rfl, hk, hi, hs, ⟨by omega, hl1.2, .inr rfl, fun h => by cases h⟩, ⟨by omega, hm1.2, .inr rfl, fun h => by cases h⟩, liesL_mk fun j hj => ⟨hgl, ?_⟩, liesM_mk fun j hj => ?_, fun _ => ⟨rfl, by omega, hgl, ?_, rfl, by omega, hgm, ?_⟩⟩
  · obtain ⟨cs, h1, h2⟩ := h.L.at (by simp) j (by simp; omega)
    refine ⟨cs, h1, ?_⟩
    rw [List.getElem_append_left (by simpa using hj), List.getElem_map] at h2
    exact V.lies_keep (fun h => h) (fun _ _ => rfl) (fun b hb => ⟨(h.L.off b hb).1, (h.L.off b hb).2.1⟩) _ h2
  · obtain ⟨cs, h1, h2⟩ := h.M.at (by simp) j (by simp; omega)
    rw [List.getElem_append_left (by simpa using hj), List.getElem_map] at h2
    obtain ⟨cs', rfl, hks, h3⟩ := h2
    exact ⟨hgm, hks, cs', h1, V.lies_keep (fun h => h) (fun _ _ => rfl) (fun b hb => ⟨(h.M.off b hb).1, (h.M.off b hb).2.1⟩) _ h3⟩
  · simpa using k1
  · simpa using k2

set_option maxHeartbeats 4000000 in
set_option maxRecDepth 100000 in
theorem kept_any (k : Int) (b : Bool) (i : Int) (s : ByteArray) (l : List V) (m : List Mem) (N gl cl gm cm : Nat) (SL SM S : Nat → Prop) (cs : List Value) (w : World) (h : Roomy k b i s l m N gl cl gm cm SL SM w) (hl : (V.mk k b i s l m).lies false w S cs) (hS : ∀ x, S x → x < w.heap.size) (hwt : (V.mk k b i s l m).wt ≤ 1099511627776) :
    Calls Tryd.prog 13 #[.agg #[.int .i64 k, .bool b, .int .i64 i, .string s, .slice (some ⟨gl, 0, none⟩) l.length cl, .slice (some ⟨gm, 0, none⟩) m.length cm], .agg cs.toArray] w (BPost true w) := by
  have hl0 := hl
  rw [V.lies] at hl
  obtain ⟨al, cl', bl, ol, am, cm', bm, om, rfl, hk, hi, hs, hal, ham, _⟩ := hl
  have hwt' := hwt
  rw [V.wt] at hwt
  have hlm := wtL_len l
  have hmm := wtM_len m
  have B0 := two_below w (.cells #[.int .i64 k, .bool b, .int .i64 i, .string s, .slice (some ⟨gl, 0, none⟩) l.length cl, .slice (some ⟨gm, 0, none⟩) m.length cm] 25) (.cells #[.int .i64 k, .bool b, .int .i64 i, .string s, .slice al l.length cl', .slice am m.length cm'] 25)
  have h0 := h.below B0
  have hli := h0.lies hk hi hs
  have hl1 := V.lies_keep (R' := false) (S' := S) (fun h => h) (fun x hx => B0.block x (hS x hx)) (fun _ h => h) _ hl0
  have hz0 : ((w.alloc (.cells #[.int .i64 k, .bool b, .int .i64 i, .string s, .slice (some ⟨gl, 0, none⟩) l.length cl, .slice (some ⟨gm, 0, none⟩) m.length cm] 25)).alloc (.cells #[.int .i64 k, .bool b, .int .i64 i, .string s, .slice al l.length cl', .slice am m.length cm'] 25)).heap.size = w.heap.size + 1 + 1 := by rw [alloc_size, alloc_size]
  have c1 := same_any (V.mk k b i s l m) true false (V.mk k b i s l m) _ S _ _ _ hli hl1 (fun x hx => hx.2) (fun x hx => by have := hS x hx; omega)
  rw [V.eqB_refl] at c1
  have hb0 : rowAt ((w.alloc (.cells #[.int .i64 k, .bool b, .int .i64 i, .string s, .slice (some ⟨gl, 0, none⟩) l.length cl, .slice (some ⟨gm, 0, none⟩) m.length cm] 25)).alloc (.cells #[.int .i64 k, .bool b, .int .i64 i, .string s, .slice al l.length cl', .slice am m.length cm'] 25)) w.heap.size 0 [.int .i64 k, .bool b, .int .i64 i, .string s, .slice (some ⟨gl, 0, none⟩) l.length cl, .slice (some ⟨gm, 0, none⟩) m.length cm] := (box_row w _ 25).keep (Below.heap_alloc _ _ _ (by rw [alloc_size]; omega))
  have hb1 : rowAt ((w.alloc (.cells #[.int .i64 k, .bool b, .int .i64 i, .string s, .slice (some ⟨gl, 0, none⟩) l.length cl, .slice (some ⟨gm, 0, none⟩) m.length cm] 25)).alloc (.cells #[.int .i64 k, .bool b, .int .i64 i, .string s, .slice al l.length cl', .slice am m.length cm'] 25)) (w.heap.size + 1) 0 [.int .i64 k, .bool b, .int .i64 i, .string s, .slice al l.length cl', .slice am m.length cm'] := by
    have := box_row (w.alloc (.cells #[.int .i64 k, .bool b, .int .i64 i, .string s, .slice (some ⟨gl, 0, none⟩) l.length cl, .slice (some ⟨gm, 0, none⟩) m.length cm] 25)) [.int .i64 k, .bool b, .int .i64 i, .string s, .slice al l.length cl', .slice am m.length cm'] 25
    rwa [alloc_size] at this
  have q1 := h.L.le
  have q2 := h.M.le
  simp only [List.length_append, List.length_map, List.length_replicate] at q1 q2
  have y1 : (l.length : Int) + 70 ≤ cl := by omega
  have y2 : (m.length : Int) + 70 ≤ cm := by omega
  clear hl0 hl1 hli
  go_enter Tryd.func13, Tryd.ntmps13
  go_wp2_with fail
  refine c1.mono ?_
  rintro e w1 ⟨rfl, b1⟩
  have h1 := h0.below b1
  have z1 := b1.size
  have cL := little_any (V.mk k b i s l m) _ _ w1 (h1.lies hk hi hs) (fun x hx => hx.2) hwt'
  obtain ⟨d0, d1, d2, d3, d4, d5⟩ := row6z (hb0.keep (b1.block _ (by omega)))
  go_wp2_with fail
  refine cL.mono ?_
  rintro e w2 ⟨rfl, b2⟩
  have h2 := h1.below b2
  have z2 := b2.size
  clear d0 d1 d2 d3 d4 d5
  obtain ⟨d0, d1, d2, d3, d4, d5⟩ := row6z ((hb0.keep (b1.block _ (by omega))).keep (b2.block _ (by omega)))
  obtain ⟨f0, f1, f2, f3, f4, f5⟩ := row6z ((hb1.keep (b1.block _ (by omega))).keep (b2.block _ (by omega)))
  have m1 := h2.markL
  have m2 := h2.markM
  have HB : Hid (Below w.heap.size w w2) := B0.trans ((b1.trans (b2.mono z1)).mono (by omega))
  clear h h0 h1 h2 hb0 hb1 c1 cL
  go_wp2_with fail
  go_loopw [8] (fun e wr => ∃ j : Nat, j ≤ 70 ∧ e = .int .i64 (j : Int) ∧ wr = w2) (fun e _ => 70 - (RowKit.intOf e).toNat)
  case atStart => exact ⟨0, by omega, rfl, rfl⟩
  case round =>
    obtain ⟨j, hj, rfl, rfl⟩ := hrel
    by_cases hj7 : j < 70
    · have y3 : (j : Int) < 70 := by omega
      have m1j := m1 j hj7
      have m2j := m2 j hj7
      clear m1 m2
      go_wp2_with fail
      go_roundw
      case rel => exact ⟨j + 1, by omega, by go_num, trivial⟩
      case measure => simp [RowKit.intOf]; omega
    · obtain rfl : j = 70 := by omega
      go_wp2_with fail
      go_ret
      exact ⟨rfl, HB.out⟩
end Go.Proofs.YtljgofmmihmmfaaDoor
