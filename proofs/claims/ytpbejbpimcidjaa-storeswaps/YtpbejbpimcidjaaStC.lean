/- The past: a row of events, perhaps behind a beginning that is gone. -/
import Derived.Test.YtpbejbpimcidjaaStB
set_option linter.unusedSimpArgs false
set_option linter.unusedVariables false
namespace Go.Proofs.Ytpbejbpimcidjaa
open Go Go.Lib Go.RowKit

/-- an event's three cells -/
def ev (k : Int) (key d : ByteArray) : List Value := [.int .i64 k, .string key, .string d]
abbrev Evt := Int × ByteArray × ByteArray
def evs (l : List Evt) : List Value := l.flatMap (fun e => ev e.1 e.2.1 e.2.2)
theorem evs_len (l : List Evt) : (evs l).length = l.length * 3 := by
  induction l with
  | nil => rfl
  | cons x t ih => unfold evs at ih ⊢; rw [List.flatMap_cons, List.length_append, ih]; simp [ev]; omega
theorem evs_app (l : List Evt) (k : Int) (key d : ByteArray) : evs (l ++ [(k, key, d)]) = evs l ++ ev k key d := by unfold evs; rw [List.flatMap_append]; simp
theorem evs_one (l : List Evt) : ∀ v ∈ evs l, v.oneCell' = true := fun v hv => by
  unfold evs at hv
  obtain ⟨e, _, h⟩ := List.mem_flatMap.1 hv
  simp only [ev, List.mem_cons, List.mem_nil_iff, or_false] at h
  rcases h with rfl | rfl | rfl <;> rfl
theorem ev_one (k : Int) (key d : ByteArray) : ∀ v ∈ ev k key d, v.oneCell' = true := fun v h => by
  simp only [ev, List.mem_cons, List.mem_nil_iff, or_false] at h
  rcases h with rfl | rfl | rfl <;> rfl
/-- the events l stand in the slice pv, in a block that may be turned -/
structure Pst (W : World) (F : Nat → Prop) (pv : Value) (l : List Evt) : Prop where
  p : (l = [] ∧ pv = .slice none 0 0) ∨ ∃ g o c sz, pv = .slice (some ⟨g, o, none⟩) l.length c ∧ l.length ≤ c ∧ c ≤ maxLen ∧ ¬ F g ∧ Blk g 60 sz W ∧ o + c * 3 ≤ sz ∧ ∀ j u, (evs l)[j]? = some u → W.cell? ⟨g, o + j, none⟩ = some u
theorem blk_lt {g ty n : Nat} {W : World} (h : Blk g ty n W) : g < W.heap.size := (Array.getElem?_eq_some_iff.1 h.choose_spec.1).1
theorem Pst.keep {W W' : World} {F : Nat → Prop} {pv : Value} {l : List Evt} (h : Pst W F pv l) (k : ∀ g, pv.ownBlock = some g ∨ True → True) (q : ∀ g a n c, pv = .slice (some ⟨g, a, none⟩) n c → W'.heap[g]? = W.heap[g]?) : Pst W' F pv l := by
  rcases h.p with h | ⟨g, o, c, sz, rfl, h1, h2, h3, h4, h5, h6⟩
  · exact ⟨.inl h⟩
  · have e := q g o _ _ rfl
    exact ⟨.inr ⟨g, o, c, sz, rfl, h1, h2, h3, h4.keep e, h5, fun j u hj => (World.cell?_of_block (w := W) (a := ⟨g, o + j, none⟩) e).trans (h6 j u hj)⟩⟩
theorem info60 : (Try.prog.info? 60).map (fun i => (i.zero, i.size, i.bytes)) = some (some (.agg #[.int .i64 0, .string ⟨#[]⟩, .string ⟨#[]⟩]), 3, 40) := by kernel_rfl
theorem Pst.own {W W' : World} {F : Nat → Prop} {pv : Value} {l : List Evt} (h : W'.ownsRow W.heap.size 60 3 pv l.length (evs l)) (hN : ∀ y, W.heap.size ≤ y → ¬ F y) (hl : 0 < l.length) : Pst W' F pv l ∧ ∃ g a n c, pv = .slice (some ⟨g, a, none⟩) n c ∧ W.heap.size ≤ g := by
  rcases h.2 with ⟨rfl, h0⟩ | ⟨g, cap, cur, rfl, hb, hg, h1, h2, h3, h4⟩
  · omega
  · refine ⟨⟨.inr ⟨g, 0, cap, cap * 3, rfl, h1, h2, hN g hb, ⟨cur, hg, h3⟩, by omega, fun j u hj => ?_⟩⟩, g, 0, _, cap, rfl, hb⟩
    rw [Nat.zero_add, cell_of_block hg]
    have e : (cur.toList.take (l.length * 3))[j]? = some u := by rw [h4]; exact hj
    rw [List.getElem?_take] at e
    split at e
    · simpa using e
    · cases e
theorem grown_some {W W' : World} (g : Nat) (h : W.grownBy W' none) : W.grownBy W' (some g) := ⟨h.os, h.tape, h.output, h.size, fun k hk _ => h.block k hk (by simp)⟩
/-- one event more -/
theorem Pst.push {W : World} {F : Nat → Prop} {pv : Value} {l : List Evt} (h : Pst W F pv l) (ty : TypeId) {T : Nat} {k : Int} {key d : ByteArray} (hT : W.heap[T]? = some (.cells #[.int .i64 k, .string key, .string d] 60)) (hN : ∀ y, W.heap.size ≤ y → ¬ F y) (hl : l.length ≤ 1000000) (hne : ∀ g a n c, pv = .slice (some ⟨g, a, none⟩) n c → T ≠ g) :
    ∃ pv' W', (Builtin.append_ #[55, 55] ty #[pv, .slice (some ⟨T, 0, none⟩) 1 1]).run Try.prog W = .ok pv' W' ∧ Pst W' F pv' (l ++ [(k, key, d)]) ∧ (∃ g a n c, pv' = .slice (some ⟨g, a, none⟩) n c ∧ W.grownBy W' (some g) ∧ ((∃ a n c, pv = .slice (some ⟨g, a, none⟩) n c) ∨ W.heap.size ≤ g)) := by
  obtain ⟨i, hi, hz⟩ := Option.map_eq_some_iff.1 info60
  simp only [Prod.mk.injEq] at hz
  obtain ⟨z1, z2, z3⟩ := hz
  have hnews : ∀ j u, (ev k key d)[j]? = some u → W.cell? ((⟨T, 0, none⟩ : Addr).add j) = some u := fun j u hj => by
    rw [Go.WideShapes.add_plain, cell_of_block hT]
    simpa [ev] using hj
  have hg0 : ∀ (b : Addr) (n cap : Nat) (olds : List Value), pv = .slice (some b) n cap → olds = evs l → n = l.length → (∀ j u, olds[j]? = some u → W.cell? (b.add j) = some u) → cap < n + 1 → ∃ pv' W', (Builtin.append_ #[55, 55] ty #[pv, .slice (some ⟨T, 0, none⟩) 1 1]).run Try.prog W = .ok pv' W' ∧ W'.ownsRow W.heap.size 60 3 pv' (l.length + 1) (evs l ++ ev k key d) ∧ W.grownBy W' none := by
    rintro b n cap olds rfl rfl rfl ho hc
    exact run_append_arg_grows (P := Try.prog) W 55 ty 60 i _ 3 40 Try.underlying55 hi z1 z2 z3 rfl (by decide) b l.length cap (evs l) (evs_len l) ho ⟨T, 0, none⟩ 1 1 (ev k key d) rfl hnews hc (by unfold maxLen; omega) (by omega)
  have hfin : ∀ pv' W', (Builtin.append_ #[55, 55] ty #[pv, .slice (some ⟨T, 0, none⟩) 1 1]).run Try.prog W = .ok pv' W' → W'.ownsRow W.heap.size 60 3 pv' (l.length + 1) (evs l ++ ev k key d) → W.grownBy W' none → ∃ pv' W', (Builtin.append_ #[55, 55] ty #[pv, .slice (some ⟨T, 0, none⟩) 1 1]).run Try.prog W = .ok pv' W' ∧ Pst W' F pv' (l ++ [(k, key, d)]) ∧ (∃ g a n c, pv' = .slice (some ⟨g, a, none⟩) n c ∧ W.grownBy W' (some g) ∧ ((∃ a n c, pv = .slice (some ⟨g, a, none⟩) n c) ∨ W.heap.size ≤ g)) := by
    intro pv' W' hr ho hg
    have ho' : W'.ownsRow W.heap.size 60 3 pv' (l ++ [(k, key, d)]).length (evs (l ++ [(k, key, d)])) := by rw [evs_app, List.length_append]; exact ho
    obtain ⟨q, g, a, n, c, e, hge⟩ := Pst.own ho' hN (by simp)
    exact ⟨pv', W', hr, q, g, a, n, c, e, grown_some g hg, .inr hge⟩
  rcases h.p with ⟨rfl, rfl⟩ | ⟨g, o, c, sz, rfl, h1, h2, h3, h4, h5, h6⟩
  · obtain ⟨v', w', hr, r1, r2, _⟩ := run_append_own (P := Try.prog) W W.heap.size 55 ty 60 i _ 3 40 Try.underlying55 hi z1 z2 z3 rfl (by decide) (.slice none 0 0) 0 [] (World.ownsRow_nil W _ 60 3) ⟨T, 0, none⟩ 1 1 (ev k key d) rfl hnews (ev_one k key d) (by unfold maxLen; omega) (by omega) (Nat.le_refl _)
    exact hfin v' w' hr r1 r2
  · by_cases hc : l.length + 1 ≤ c
    · have hT' := hne g o _ _ rfl
      have hb0 := h4.set (o + l.length * 3) (.int .i64 k)
      have hb1 := hb0.set (o + l.length * 3 + 1) (.string key)
      have hb2 := hb1.set (o + l.length * 3 + 2) (.string d)
      have hr := run_append_room_cells (P := Try.prog) W 55 ty 60 i Try.underlying55 hi g o l.length c ⟨T, 0, none⟩ 1 1 (ev k key d) (by rw [z2]; rfl) hnews (ev_one k key d) hc (fun j hj => by
        have hj3 : j < 3 := hj
        obtain ⟨v, hv⟩ := h4.cell (o + l.length * i.size + j) (by rw [z2]; omega)
        rw [hv]; rfl) (fun j hj => h4.frozen _)
      rw [z2] at hr
      refine ⟨_, _, hr, ⟨.inr ⟨g, o, c, sz, by rw [List.length_append]; rfl, by rw [List.length_append]; exact hc, h2, h3, hb2, h5, fun j u hj => ?_⟩⟩, g, o, _, c, rfl, ?_, .inl ⟨o, _, c, rfl⟩⟩
      · rw [evs_app] at hj
        have hel := evs_len l
        show (((W.setCell ⟨g, o + l.length * 3, none⟩ (.int .i64 k)).setCell ⟨g, o + l.length * 3 + 1, none⟩ (.string key)).setCell ⟨g, o + l.length * 3 + 2, none⟩ (.string d)).cell? ⟨g, o + j, none⟩ = some u
        by_cases hjl : j < (evs l).length
        · rw [List.getElem?_append_left hjl] at hj
          rw [cell_set_off (by omega), cell_set_off (by omega), cell_set_off (by omega)]
          exact h6 j u hj
        · rw [List.getElem?_append_right (by omega)] at hj
          obtain ⟨q, rfl⟩ : ∃ q, j = (evs l).length + q := ⟨j - (evs l).length, by omega⟩
          rw [show (evs l).length + q - (evs l).length = q by omega] at hj
          rcases q with _ | _ | _ | q
          · obtain rfl : Value.int .i64 k = u := by simpa [ev] using hj
            rw [show o + ((evs l).length + 0) = o + l.length * 3 by omega, cell_set_off (by omega), cell_set_off (by omega)]
            exact h4.at_ _ (by omega)
          · obtain rfl : Value.string key = u := by simpa [ev] using hj
            rw [show o + ((evs l).length + (0 + 1)) = o + l.length * 3 + 1 by omega, cell_set_off (by omega)]
            exact hb0.at_ _ (by omega)
          · obtain rfl : Value.string d = u := by simpa [ev] using hj
            rw [show o + ((evs l).length + (0 + 1 + 1)) = o + l.length * 3 + 2 by omega]
            exact hb1.at_ _ (by omega)
          · simp [ev] at hj
      · exact grown_set (grown_set (grown_set (World.grownBy.refl W _) _ _) _ _) _ _
    · obtain ⟨v', w', hr, r1, r2⟩ := hg0 ⟨g, o, none⟩ l.length c (evs l) rfl rfl rfl (fun j u hj => by rw [Go.WideShapes.add_plain]; exact h6 j u hj) (by omega)
      exact hfin v' w' hr r1 r2
end Go.Proofs.Ytpbejbpimcidjaa
