/- sameEvents. -/
import Derived.Test.YtpbejbpimcidjaaSwU
set_option linter.unusedSimpArgs false
set_option linter.unusedVariables false
namespace Go.Proofs.Ytpbejbpimcidjaa
open Go Go.Lib Go.RowKit Go.Maps Go.Sort

/-- these events, from a revision on, can be read there -/
def EvA (w : World) (v : Value) (r : Int) (es : List He) : Prop := ∃ a c, v = .slice a es.length c ∧ ∀ (j : Nat) (e : He), es[j]? = some e → ∃ g o dv, a = some ⟨g, o, none⟩ ∧ w.cell? ⟨g, o + j * 4, none⟩ = some (.int .i64 (r + 1 + (j : Int))) ∧ w.cell? ⟨g, o + j * 4 + 1, none⟩ = some (.int .i64 e.1) ∧ w.cell? ⟨g, o + j * 4 + 2, none⟩ = some (.string (nm e.2.1)) ∧ w.cell? ⟨g, o + j * 4 + 3, none⟩ = some dv ∧ BytA w dv e.2.2 ∧ e.2.2.size ≤ 4096
theorem EvA.below {w w' : World} {v : Value} {r : Int} {es : List He} (h : EvA w v r es) (b : Below w.heap.size w w') : EvA w' v r es := by
  obtain ⟨a, c, e1, h⟩ := h
  refine ⟨a, c, e1, fun j e he => ?_⟩
  obtain ⟨g, o, dv, q0, q1, q2, q3, q4, q5, q6⟩ := h j e he
  have k : ∀ (i : Nat) (v : Value), w.cell? ⟨g, i, none⟩ = some v → w'.cell? ⟨g, i, none⟩ = some v := fun i v hv => (b.cell (p := ⟨g, i, none⟩) (cell_lt hv)).trans hv
  exact ⟨g, o, dv, q0, k _ _ q1, k _ _ q2, k _ _ q3, k _ _ q4, q5.below b, q6⟩
set_option maxHeartbeats 8000000 in
set_option maxRecDepth 100000 in
theorem same_events (v v2 : Value) (r : Int) (es : List He) (w : World) (h : EvA w v r es) (h2 : EvA w v2 r es) (hl : es.length ≤ 1000) : Calls Try.prog 30 #[v, v2] w fun e w' => e = .returned (.bool true) ∧ Below w.heap.size w w' := by
  have H1 := hmk h
  have H2 := hmk h2
  obtain ⟨a, c, rfl, _⟩ := h
  obtain ⟨a2, c2, rfl, _⟩ := h2
  go_enter Try.func30, Try.ntmps30
  go_wp2_with fail
  go_loopw [5] (fun e5 wr => ∃ k : Nat, e5 = .int .i64 (k : Int) ∧ k ≤ es.length ∧ Hid (Below w.heap.size w wr)) (fun e5 _ => es.length - (RowKit.intOf e5).toNat)
  case atStart => exact ⟨0, rfl, by omega, Below.refl _ _⟩
  case round =>
    obtain ⟨k, rfl, hk, HI⟩ := hrel
    by_cases hlt : (k : Int) < (es.length : Int)
    · have hkl : k < es.length := by omega
      obtain ⟨⟨kd, kk, d⟩, hx⟩ : ∃ e, es[k]? = some e := ⟨es[k], List.getElem?_eq_getElem hkl⟩
      obtain ⟨a', c', e1, q⟩ := H1.out.below HI.out
      simp only [Value.slice.injEq] at e1
      obtain ⟨g, o, dv, q0, q1, q2, q3, q4, q5, q6⟩ := q k _ hx
      obtain rfl : a = some ⟨g, o, none⟩ := e1.1.trans q0
      obtain ⟨a', c', e2, p⟩ := H2.out.below HI.out
      simp only [Value.slice.injEq] at e2
      obtain ⟨g2, o2, dv2, p0, p1, p2, p3, p4, p5, p6⟩ := p k _ hx
      obtain rfl : a2 = some ⟨g2, o2, none⟩ := e2.1.trans p0
      clear q p e1 e2 q0 p0 H1 H2
      simp only at q2 q3 q5 q6 p2 p3 p5 p6
      have hg : g < wr.heap.size := cell_lt q1
      have hg2 : g2 < wr.heap.size := cell_lt p1
      have y0 : ∀ y : Sub wr.heap.size wr, _ := sub_cell q1 hg
      have y1 : ∀ y : Sub wr.heap.size wr, _ := sub_cell q2 hg
      have y2 : ∀ y : Sub wr.heap.size wr, _ := sub_cell q3 hg
      have y3 : ∀ y : Sub wr.heap.size wr, _ := sub_cell q4 hg
      have z0 : ∀ y : Sub wr.heap.size wr, _ := sub_cell p1 hg2
      have z1 : ∀ y : Sub wr.heap.size wr, _ := sub_cell p2 hg2
      have z2 : ∀ y : Sub wr.heap.size wr, _ := sub_cell p3 hg2
      have z3 : ∀ y : Sub wr.heap.size wr, _ := sub_cell p4 hg2
      have CS : Hid (∀ y : Sub wr.heap.size wr, Calls Try.prog 25 #[dv, dv2] y.w fun e w'' => e = .returned (.bool true) ∧ ∃ z : Sub wr.heap.size wr, w'' = z.w) :=
        sub_call fun w' hb => (same_bytes _ _ d w' (q5.below hb) (p5.below hb) (by omega)).mono (by rintro e w'' ⟨rfl, h2⟩; exact ⟨rfl, hb.trans (h2.mono hb.size)⟩)
      clear q1 q2 q3 q4 q5 q6 p1 p2 p3 p4 p5 p6 hx
      go_wp2_with fail
      refine wp_region_sub wr.heap.size (by kernel_rfl) (by kernel_rfl) ?_
      repeat (go_big_quiet_step (exact CS.out _))
      refine wpQuiet_nil ?_
      rintro _ ⟨⟨wq, bq⟩, rfl⟩
      have BQ := hmk (HI.out.trans (bq.mono HI.out.size))
      clear bq HI y0 y1 y2 y3 z0 z1 z2 z3 CS
      go_wp2_with fail
      refine ⟨⟨k + 1, congrArg (Value.int .i64) (by omega), by omega, BQ⟩, ?_⟩
      simp only [RowKit.intOf]
      omega
    · go_wp2_with fail
      (try simp only [Exit.inBlock, Exit.then])
      go_ret
      exact ⟨rfl, HI.out⟩
theorem eis_at {l : List Eit} {k : Nat} {x : Eit} (h : l[k]? = some x) : (eis l)[k * 4]? = some (.int .i64 x.r) ∧ (eis l)[k * 4 + 1]? = some (.int .i64 x.e.1) ∧ (eis l)[k * 4 + 2]? = some (.string x.e.2.1) ∧ (eis l)[k * 4 + 3]? = some (.slice (some ⟨x.g, 0, none⟩) x.e.2.2.size x.c) := by
  induction l generalizing k with
  | nil => simp at h
  | cons y t ih =>
    have hc : eis (y :: t) = eic y ++ eis t := by unfold eis; rw [List.flatMap_cons]
    have hl : (eic y).length = 4 := rfl
    rw [hc]
    rcases k with _ | k
    · simp only [List.getElem?_cons_zero, Option.some.injEq] at h
      subst h
      exact ⟨rfl, rfl, rfl, rfl⟩
    · rw [List.getElem?_cons_succ] at h
      obtain ⟨h1, h2, h3, h4⟩ := ih h
      refine ⟨?_, ?_, ?_, ?_⟩
      · rw [List.getElem?_append_right (by omega), hl, show (k + 1) * 4 - 4 = k * 4 by omega]; exact h1
      · rw [List.getElem?_append_right (by omega), hl, show (k + 1) * 4 + 1 - 4 = k * 4 + 1 by omega]; exact h2
      · rw [List.getElem?_append_right (by omega), hl, show (k + 1) * 4 + 2 - 4 = k * 4 + 2 by omega]; exact h3
      · rw [List.getElem?_append_right (by omega), hl, show (k + 1) * 4 + 3 - 4 = k * 4 + 3 by omega]; exact h4
theorem Eis.eva {w : World} {N : Nat} {after : Int} {es : List He} {v : Value} {l : List Eit} (h : Eis w N after (es.map toE) v l) (he : l.map Eit.e = es.map toE) (hok : ∀ e ∈ es, Hok e) : EvA w v after es := by
  have hll : l.length = es.length := by have := congrArg List.length he; simpa using this
  obtain ⟨a, c, rfl⟩ : ∃ a c, v = .slice a es.length c := by
    rcases h.row.2 with ⟨rfl, h0⟩ | ⟨g, cap, cur, rfl, _⟩
    · exact ⟨_, _, by rw [← hll, h0]⟩
    · exact ⟨_, _, by rw [hll]⟩
  refine ⟨a, c, rfl, fun j e hj => ?_⟩
  have hjl : j < es.length := (List.getElem?_eq_some_iff.1 hj).1
  obtain ⟨x, hx⟩ : ∃ x, l[j]? = some x := ⟨l[j]'(by omega), List.getElem?_eq_getElem (by omega)⟩
  have hxe : x.e = toE e := by
    have e1 : (l.map Eit.e)[j]? = some x.e := by rw [List.getElem?_map, hx]; rfl
    rw [he, List.getElem?_map, hj] at e1
    exact (Option.some.inj e1).symm
  obtain ⟨t0, t1, t2, t3⟩ := eis_at hx
  rw [h.revs j x hx] at t0
  rw [hxe] at t1 t2 t3
  obtain ⟨_, fr, hdb, _⟩ := h.dt x (List.mem_of_getElem? hx)
  rw [hxe] at hdb
  rcases h.row.2 with ⟨e1, h0⟩ | ⟨g, cap, cur, e1, p1, p2, p3⟩
  · omega
  · simp only [Value.slice.injEq] at e1
    have hc : ∀ i u, (eis l)[i]? = some u → w.cell? ⟨g, 0 + i, none⟩ = some u := fun i u hi => by
      have := h.row.cells (g := g) (by rw [e1.1]; simp [Value.ownBlock]) i u hi
      rwa [Go.WideShapes.add_plain] at this
    exact ⟨g, 0, _, e1.1, hc _ _ t0, hc _ _ t1, hc _ _ t2, hc _ _ t3, byt_of_conv hdb, (hok e (List.mem_of_getElem? hj)).2.2⟩
end Go.Proofs.Ytpbejbpimcidjaa
