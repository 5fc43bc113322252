/- forget, of one event. -/
import Derived.Test.YtkicbnklhnkfgaaPstD
import Derived.Lib.SliceRun
set_option linter.unusedSimpArgs false
set_option linter.unusedVariables false
namespace Go.Proofs.Ytkicbnklhnkfgaa
open Go Go.Lib Go.RowKit

theorem zero49 (w : World) : (zeroValue 49).run Try.prog w = .ok (.agg #[.int .i64 0, .string ⟨#[]⟩, .string ⟨#[]⟩]) w := by kernel_rfl
theorem zc49 : (Builtin.zeroCells (Value.cells (.agg #[.int .i64 0, .string ⟨#[]⟩, .string ⟨#[]⟩])) 1).toList = [.int .i64 0, .string ⟨#[]⟩, .string ⟨#[]⟩] := by kernel_rfl
theorem run_clear_ev (w : World) (ty : TypeId) (g o c : Nat) (hc : ∀ j, j < 3 → (w.cell? ⟨g, o + j, none⟩).isSome = true) (hf : ∀ j, j < 3 → w.frozen? ⟨g, o + j, none⟩ = false) :
    (Builtin.clear_ #[40] ty #[.slice (some ⟨g, o, none⟩) 1 c]).run Try.prog w = .ok (.tuple #[]) (w.setCells g o [.int .i64 0, .string ⟨#[]⟩, .string ⟨#[]⟩]) := by
  have hzc := zc49
  have hst := run_storeCells_cells (P := Try.prog) g o [.int .i64 0, .string ⟨#[]⟩, .string ⟨#[]⟩] 0 w (by simpa using hc) (by simpa using hf) (by intro v hv; simp only [List.mem_cons, List.mem_nil_iff, or_false] at hv; rcases hv with rfl | rfl | rfl <;> rfl)
  simp only [Nat.add_zero] at hst
  simp [Builtin.clear_, run_underlying Try.underlying40, zero49, hzc, hst]
theorem below_setCells_w3 {w0 W : World} {g o : Nat} {a b c : Value} (h : Below w0.heap.size w0 W) (hg : w0.heap.size ≤ g) : Below w0.heap.size w0 (W.setCells g o [a, b, c]) := by
  have h1 := below_grown h (grown_set1 W g o a) hg h.size
  have h2 := below_grown h1 (grown_set1 _ g (o + 1) b) hg h1.size
  exact below_grown h2 (grown_set1 _ g (o + 1 + 1) c) hg h2.size
set_option maxHeartbeats 8000000 in
set_option maxRecDepth 100000 in
theorem forget_one (w0 W : World) (S : Nat) (rev floor : Int) (bb bn n : Nat) (D : DataW Unit) (d d0 : ByteArray) (k0 : Int) (pv : Value) (l : List (Int × ByteArray)) (h : Sto w0 W S rev floor bb bn n D d pv ((k0, d0) :: l)) (hl : 0 < l.length) (hll : l.length ≤ 1000000) (hn : n < 500000) (hr : 0 ≤ floor ∧ floor < 1000000) :
    Calls Try.prog 16 #[.pointer (some ⟨S, 0, none⟩), .int .i64 (floor + 1)] W fun e W' => e = .returned (.tuple #[]) ∧ ∃ pv', Sto w0 W' S rev (floor + 1) bb bn (n + 1) (D.put kL (dat (floor + 1) d0)) d pv' l := by
  have hok : ∀ e ∈ l, e.1 = 1 ∨ e.1 = 2 := fun e he => h.ok e (List.mem_cons_of_mem _ he)
  have hk0 : k0 = 1 ∨ k0 = 2 := h.ok _ (List.mem_cons_self ..)
  rcases h.past.p with ⟨q, _⟩ | ⟨g, o, c, sz, rfl, p1, p2, p3, p4, p5, p6⟩
  · cases q
  obtain ⟨n1, n2, n3, n4, n5⟩ := h.ng (g := g) (a := o) (c := c) rfl
  rw [List.length_cons] at *
  have e0 : W.cell? ⟨g, o, none⟩ = some (.int .i64 k0) := by have := p6 0 (.int .i64 k0) rfl; simpa using this
  have e1 : W.cell? ⟨g, o + 1, none⟩ = some (.string kk) := p6 1 (.string kk) rfl
  have e2 : W.cell? ⟨g, o + 2, none⟩ = some (.string d0) := p6 2 (.string d0) rfl
  have P6 : Hid (∀ j u, (evs l)[j]? = some u → W.cell? ⟨g, o + 3 + j, none⟩ = some u) := fun j u hj => by
    have := p6 (j + 3) u (by show (ev k0 d0 ++ evs l)[j + 3]? = some u; rw [List.getElem?_append_right (by simp [ev])]; simpa [ev] using hj)
    rw [show o + 3 + j = o + (j + 3) from by omega]; exact this
  have hc1 : W.cell? ⟨S, 1, none⟩ = some (.int .i64 floor) := by rw [cell_of_block h.box]; rfl
  have hc4 : W.cell? ⟨S, 4, none⟩ = some (.slice (some ⟨g, o, none⟩) (l.length + 1) c) := by rw [cell_of_block h.box]; rfl
  have hsub : floor + 1 - floor = 1 := by omega
  have c1 : 1 ≤ c := by omega
  have hw1 : IntKind.i64.wrap 1 = 1 := by decide
  have CF := hmk (follow_one bb n D floor k0 d0 g o c W.drew.drew h.base (by omega) (by omega) hk0 e0 e1 e2)
  have P4 := hmk p4
  have HS := hmk h
  clear p6 p4 h e0 e1 e2
  go_enter Try.func16, Try.ntmps16
  go_wp2_with fail
  refine wp_region_held_drew (S := fun Y => Y.heap[S]? = some (.cells #[.int .i64 rev, .int .i64 floor, .map (some bb), .map (some bn), (.slice (some ⟨g, o, none⟩) (l.length + 1) c)] 42)) (by kernel_rfl) HS.out.box (fun hHeld => ?_)
  (refine wpAnyH_take (i := 0) (v := ?_) rfl (by kernel_rfl) (by kernel_rfl) (by kernel_rfl) (fun _ _ _ h => h) (Or.inl ⟨by kernel_rfl, ?_⟩) (by assumption) ?_; rotate_left 1; (intro W0 hSw; (have s1 : W0.cell? ⟨S, 1, none⟩ = some (.int .i64 floor) := (by rw [cell_of_block hSw]; rfl)); (have s2 : W0.cell? ⟨S, 2, none⟩ = some (.map (some bb)) := (by rw [cell_of_block hSw]; rfl)); (have s4 : W0.cell? ⟨S, 4, none⟩ = some (.slice (some ⟨g, o, none⟩) (l.length + 1) c) := (by rw [cell_of_block hSw]; rfl)); go_simp; (try with_reducible rfl)); (try simp only [Act.put, List.setIfInBounds_toArray, List.set_cons_zero, List.set_cons_succ]))
  (refine wpAnyH_take (i := 1) (v := ?_) rfl (by kernel_rfl) (by kernel_rfl) (by kernel_rfl) (fun _ _ _ h => h) (Or.inl ⟨by kernel_rfl, ?_⟩) (by assumption) ?_; rotate_left 1; (intro W0 hSw; (have s1 : W0.cell? ⟨S, 1, none⟩ = some (.int .i64 floor) := (by rw [cell_of_block hSw]; rfl)); (have s2 : W0.cell? ⟨S, 2, none⟩ = some (.map (some bb)) := (by rw [cell_of_block hSw]; rfl)); (have s4 : W0.cell? ⟨S, 4, none⟩ = some (.slice (some ⟨g, o, none⟩) (l.length + 1) c) := (by rw [cell_of_block hSw]; rfl)); go_simp; (try with_reducible rfl)); (try simp only [Act.put, List.setIfInBounds_toArray, List.set_cons_zero, List.set_cons_succ]))
  (refine wpAnyH_take (i := 2) (v := ?_) rfl (by kernel_rfl) (by kernel_rfl) (by kernel_rfl) (fun _ _ _ h => h) (Or.inl ⟨by kernel_rfl, ?_⟩) (by assumption) ?_; rotate_left 1; (intro W0 hSw; (have s1 : W0.cell? ⟨S, 1, none⟩ = some (.int .i64 floor) := (by rw [cell_of_block hSw]; rfl)); (have s2 : W0.cell? ⟨S, 2, none⟩ = some (.map (some bb)) := (by rw [cell_of_block hSw]; rfl)); (have s4 : W0.cell? ⟨S, 4, none⟩ = some (.slice (some ⟨g, o, none⟩) (l.length + 1) c) := (by rw [cell_of_block hSw]; rfl)); go_simp; (try with_reducible rfl)); (try simp only [Act.put, List.setIfInBounds_toArray, List.set_cons_zero, List.set_cons_succ]))
  (refine wpAnyH_take (i := 3) (v := ?_) rfl (by kernel_rfl) (by kernel_rfl) (by kernel_rfl) (fun _ _ _ h => h) (Or.inl ⟨by kernel_rfl, ?_⟩) (by assumption) ?_; rotate_left 1; (intro W0 hSw; (have s1 : W0.cell? ⟨S, 1, none⟩ = some (.int .i64 floor) := (by rw [cell_of_block hSw]; rfl)); (have s2 : W0.cell? ⟨S, 2, none⟩ = some (.map (some bb)) := (by rw [cell_of_block hSw]; rfl)); (have s4 : W0.cell? ⟨S, 4, none⟩ = some (.slice (some ⟨g, o, none⟩) (l.length + 1) c) := (by rw [cell_of_block hSw]; rfl)); go_simp; (try with_reducible rfl)); (try simp only [Act.put, List.setIfInBounds_toArray, List.set_cons_zero, List.set_cons_succ]))
  (refine wpAnyH_take (i := 4) (v := ?_) rfl (by kernel_rfl) (by kernel_rfl) (by kernel_rfl) (fun _ _ _ h => h) (Or.inl ⟨by kernel_rfl, ?_⟩) (by assumption) ?_; rotate_left 1; (intro W0 hSw; (have s1 : W0.cell? ⟨S, 1, none⟩ = some (.int .i64 floor) := (by rw [cell_of_block hSw]; rfl)); (have s2 : W0.cell? ⟨S, 2, none⟩ = some (.map (some bb)) := (by rw [cell_of_block hSw]; rfl)); (have s4 : W0.cell? ⟨S, 4, none⟩ = some (.slice (some ⟨g, o, none⟩) (l.length + 1) c) := (by rw [cell_of_block hSw]; rfl)); go_simp; (try with_reducible rfl)); (try simp only [Act.put, List.setIfInBounds_toArray, List.set_cons_zero, List.set_cons_succ]))
  (refine wpAnyH_take (i := 5) (v := ?_) rfl (by kernel_rfl) (by kernel_rfl) (by kernel_rfl) (fun _ _ _ h => h) (Or.inl ⟨by kernel_rfl, ?_⟩) (by assumption) ?_; rotate_left 1; (intro W0 hSw; (have s1 : W0.cell? ⟨S, 1, none⟩ = some (.int .i64 floor) := (by rw [cell_of_block hSw]; rfl)); (have s2 : W0.cell? ⟨S, 2, none⟩ = some (.map (some bb)) := (by rw [cell_of_block hSw]; rfl)); (have s4 : W0.cell? ⟨S, 4, none⟩ = some (.slice (some ⟨g, o, none⟩) (l.length + 1) c) := (by rw [cell_of_block hSw]; rfl)); go_simp; (try with_reducible rfl)); (try simp only [Act.put, List.setIfInBounds_toArray, List.set_cons_zero, List.set_cons_succ]))
  (refine wpAnyH_take (i := 6) (v := ?_) rfl (by kernel_rfl) (by kernel_rfl) (by kernel_rfl) (fun _ _ _ h => h) (Or.inl ⟨by kernel_rfl, ?_⟩) (by assumption) ?_; rotate_left 1; (intro W0 hSw; (have s1 : W0.cell? ⟨S, 1, none⟩ = some (.int .i64 floor) := (by rw [cell_of_block hSw]; rfl)); (have s2 : W0.cell? ⟨S, 2, none⟩ = some (.map (some bb)) := (by rw [cell_of_block hSw]; rfl)); (have s4 : W0.cell? ⟨S, 4, none⟩ = some (.slice (some ⟨g, o, none⟩) (l.length + 1) c) := (by rw [cell_of_block hSw]; rfl)); go_simp; (try with_reducible rfl)); (try simp only [Act.put, List.setIfInBounds_toArray, List.set_cons_zero, List.set_cons_succ]))
  (refine wpAnyH_take (i := 7) (v := ?_) rfl (by kernel_rfl) (by kernel_rfl) (by kernel_rfl) (fun _ _ _ h => h) (Or.inl ⟨by kernel_rfl, ?_⟩) (by assumption) ?_; rotate_left 1; (intro W0 hSw; (have s1 : W0.cell? ⟨S, 1, none⟩ = some (.int .i64 floor) := (by rw [cell_of_block hSw]; rfl)); (have s2 : W0.cell? ⟨S, 2, none⟩ = some (.map (some bb)) := (by rw [cell_of_block hSw]; rfl)); (have s4 : W0.cell? ⟨S, 4, none⟩ = some (.slice (some ⟨g, o, none⟩) (l.length + 1) c) := (by rw [cell_of_block hSw]; rfl)); go_simp; (try with_reducible rfl)); (try simp only [Act.put, List.setIfInBounds_toArray, List.set_cons_zero, List.set_cons_succ]))
  (refine wpAnyH_take (i := 8) (v := ?_) rfl (by kernel_rfl) (by kernel_rfl) (by kernel_rfl) (fun _ _ _ h => h) (Or.inl ⟨by kernel_rfl, ?_⟩) (by assumption) ?_; rotate_left 1; (intro W0 hSw; (have s1 : W0.cell? ⟨S, 1, none⟩ = some (.int .i64 floor) := (by rw [cell_of_block hSw]; rfl)); (have s2 : W0.cell? ⟨S, 2, none⟩ = some (.map (some bb)) := (by rw [cell_of_block hSw]; rfl)); (have s4 : W0.cell? ⟨S, 4, none⟩ = some (.slice (some ⟨g, o, none⟩) (l.length + 1) c) := (by rw [cell_of_block hSw]; rfl)); go_simp; (try with_reducible rfl)); (try simp only [Act.put, List.setIfInBounds_toArray, List.set_cons_zero, List.set_cons_succ]))
  (refine wpAnyH_take (i := 9) (v := ?_) rfl (by kernel_rfl) (by kernel_rfl) (by kernel_rfl) (fun _ _ _ h => h) (Or.inl ⟨by kernel_rfl, ?_⟩) (by assumption) ?_; rotate_left 1; (intro W0 hSw; (have s1 : W0.cell? ⟨S, 1, none⟩ = some (.int .i64 floor) := (by rw [cell_of_block hSw]; rfl)); (have s2 : W0.cell? ⟨S, 2, none⟩ = some (.map (some bb)) := (by rw [cell_of_block hSw]; rfl)); (have s4 : W0.cell? ⟨S, 4, none⟩ = some (.slice (some ⟨g, o, none⟩) (l.length + 1) c) := (by rw [cell_of_block hSw]; rfl)); go_simp; (try with_reducible rfl)); (try simp only [Act.put, List.setIfInBounds_toArray, List.set_cons_zero, List.set_cons_succ]))
  (refine wpAnyH_take (i := 10) (v := .slice (some ⟨g, o, none⟩) 1 c) rfl (by kernel_rfl) (by kernel_rfl) (by kernel_rfl) (fun _ _ _ h => h) (Or.inl ⟨by kernel_rfl, ?_⟩) (by assumption) ?_; (intro W0 hSw; (have s1 : W0.cell? ⟨S, 1, none⟩ = some (.int .i64 floor) := (by rw [cell_of_block hSw]; rfl)); (have s2 : W0.cell? ⟨S, 2, none⟩ = some (.map (some bb)) := (by rw [cell_of_block hSw]; rfl)); (have s4 : W0.cell? ⟨S, 4, none⟩ = some (.slice (some ⟨g, o, none⟩) (l.length + 1) c) := (by rw [cell_of_block hSw]; rfl)); go_simp; intro q; exfalso; omega); (try simp only [Act.put, List.setIfInBounds_toArray, List.set_cons_zero, List.set_cons_succ]))
  refine wpAnyH_ready (rs := [11]) (by kernel_rfl) (by simp) ?_
  refine AllReadyH.cons rfl (fun K hK => ?_) AllReadyH.nil
  go_simp
  refine hK.out _ _ HS.out.box (fun hHeld => ?_)
  clear hK K
  (try simp only [Act.put, List.setIfInBounds_toArray, List.set_cons_zero, List.set_cons_succ])
  refine wpAnyH_done (by kernel_rfl) ?_ _
  (try dsimp only [Act.put, List.getElem_toArray, List.getElem_cons_succ, List.getElem_cons_zero, List.setIfInBounds_toArray, List.set_cons_zero, List.set_cons_succ])
  clear hHeld
  go_wp2_with fail
  refine wp_region_held_drew (S := fun Y => Y.heap[S]? = some (.cells #[.int .i64 rev, .int .i64 floor, .map (some bb), .map (some bn), (.slice (some ⟨g, o, none⟩) (l.length + 1) c)] 42)) (by kernel_rfl) HS.out.box (fun hHeld => ?_)
  (refine wpAnyH_take (i := 0) (v := ?_) rfl (by kernel_rfl) (by kernel_rfl) (by kernel_rfl) (fun _ _ _ h => h) (Or.inl ⟨by kernel_rfl, ?_⟩) (by assumption) ?_; rotate_left 1; (intro W0 hSw; (have s1 : W0.cell? ⟨S, 1, none⟩ = some (.int .i64 floor) := (by rw [cell_of_block hSw]; rfl)); (have s2 : W0.cell? ⟨S, 2, none⟩ = some (.map (some bb)) := (by rw [cell_of_block hSw]; rfl)); (have s4 : W0.cell? ⟨S, 4, none⟩ = some (.slice (some ⟨g, o, none⟩) (l.length + 1) c) := (by rw [cell_of_block hSw]; rfl)); go_simp; (try with_reducible rfl)); (try simp only [Act.put, List.setIfInBounds_toArray, List.set_cons_zero, List.set_cons_succ]))
  (refine wpAnyH_take (i := 1) (v := ?_) rfl (by kernel_rfl) (by kernel_rfl) (by kernel_rfl) (fun _ _ _ h => h) (Or.inl ⟨by kernel_rfl, ?_⟩) (by assumption) ?_; rotate_left 1; (intro W0 hSw; (have s1 : W0.cell? ⟨S, 1, none⟩ = some (.int .i64 floor) := (by rw [cell_of_block hSw]; rfl)); (have s2 : W0.cell? ⟨S, 2, none⟩ = some (.map (some bb)) := (by rw [cell_of_block hSw]; rfl)); (have s4 : W0.cell? ⟨S, 4, none⟩ = some (.slice (some ⟨g, o, none⟩) (l.length + 1) c) := (by rw [cell_of_block hSw]; rfl)); go_simp; (try with_reducible rfl)); (try simp only [Act.put, List.setIfInBounds_toArray, List.set_cons_zero, List.set_cons_succ]))
  (refine wpAnyH_take (i := 2) (v := ?_) rfl (by kernel_rfl) (by kernel_rfl) (by kernel_rfl) (fun _ _ _ h => h) (Or.inl ⟨by kernel_rfl, ?_⟩) (by assumption) ?_; rotate_left 1; (intro W0 hSw; (have s1 : W0.cell? ⟨S, 1, none⟩ = some (.int .i64 floor) := (by rw [cell_of_block hSw]; rfl)); (have s2 : W0.cell? ⟨S, 2, none⟩ = some (.map (some bb)) := (by rw [cell_of_block hSw]; rfl)); (have s4 : W0.cell? ⟨S, 4, none⟩ = some (.slice (some ⟨g, o, none⟩) (l.length + 1) c) := (by rw [cell_of_block hSw]; rfl)); go_simp; (try with_reducible rfl)); (try simp only [Act.put, List.setIfInBounds_toArray, List.set_cons_zero, List.set_cons_succ]))
  (refine wpAnyH_take (i := 3) (v := ?_) rfl (by kernel_rfl) (by kernel_rfl) (by kernel_rfl) (fun _ _ _ h => h) (Or.inl ⟨by kernel_rfl, ?_⟩) (by assumption) ?_; rotate_left 1; (intro W0 hSw; (have s1 : W0.cell? ⟨S, 1, none⟩ = some (.int .i64 floor) := (by rw [cell_of_block hSw]; rfl)); (have s2 : W0.cell? ⟨S, 2, none⟩ = some (.map (some bb)) := (by rw [cell_of_block hSw]; rfl)); (have s4 : W0.cell? ⟨S, 4, none⟩ = some (.slice (some ⟨g, o, none⟩) (l.length + 1) c) := (by rw [cell_of_block hSw]; rfl)); go_simp; (try with_reducible rfl)); (try simp only [Act.put, List.setIfInBounds_toArray, List.set_cons_zero, List.set_cons_succ]))
  (refine wpAnyH_take (i := 4) (v := ?_) rfl (by kernel_rfl) (by kernel_rfl) (by kernel_rfl) (fun _ _ _ h => h) (Or.inl ⟨by kernel_rfl, ?_⟩) (by assumption) ?_; rotate_left 1; (intro W0 hSw; (have s1 : W0.cell? ⟨S, 1, none⟩ = some (.int .i64 floor) := (by rw [cell_of_block hSw]; rfl)); (have s2 : W0.cell? ⟨S, 2, none⟩ = some (.map (some bb)) := (by rw [cell_of_block hSw]; rfl)); (have s4 : W0.cell? ⟨S, 4, none⟩ = some (.slice (some ⟨g, o, none⟩) (l.length + 1) c) := (by rw [cell_of_block hSw]; rfl)); go_simp; (try with_reducible rfl)); (try simp only [Act.put, List.setIfInBounds_toArray, List.set_cons_zero, List.set_cons_succ]))
  (refine wpAnyH_take (i := 5) (v := ?_) rfl (by kernel_rfl) (by kernel_rfl) (by kernel_rfl) (fun _ _ _ h => h) (Or.inl ⟨by kernel_rfl, ?_⟩) (by assumption) ?_; rotate_left 1; (intro W0 hSw; (have s1 : W0.cell? ⟨S, 1, none⟩ = some (.int .i64 floor) := (by rw [cell_of_block hSw]; rfl)); (have s2 : W0.cell? ⟨S, 2, none⟩ = some (.map (some bb)) := (by rw [cell_of_block hSw]; rfl)); (have s4 : W0.cell? ⟨S, 4, none⟩ = some (.slice (some ⟨g, o, none⟩) (l.length + 1) c) := (by rw [cell_of_block hSw]; rfl)); go_simp; (try with_reducible rfl)); (try simp only [Act.put, List.setIfInBounds_toArray, List.set_cons_zero, List.set_cons_succ]))
  (refine wpAnyH_take (i := 6) (v := ?_) rfl (by kernel_rfl) (by kernel_rfl) (by kernel_rfl) (fun _ _ _ h => h) (Or.inl ⟨by kernel_rfl, ?_⟩) (by assumption) ?_; rotate_left 1; (intro W0 hSw; (have s1 : W0.cell? ⟨S, 1, none⟩ = some (.int .i64 floor) := (by rw [cell_of_block hSw]; rfl)); (have s2 : W0.cell? ⟨S, 2, none⟩ = some (.map (some bb)) := (by rw [cell_of_block hSw]; rfl)); (have s4 : W0.cell? ⟨S, 4, none⟩ = some (.slice (some ⟨g, o, none⟩) (l.length + 1) c) := (by rw [cell_of_block hSw]; rfl)); go_simp; (try with_reducible rfl)); (try simp only [Act.put, List.setIfInBounds_toArray, List.set_cons_zero, List.set_cons_succ]))
  (refine wpAnyH_take (i := 7) (v := ?_) rfl (by kernel_rfl) (by kernel_rfl) (by kernel_rfl) (fun _ _ _ h => h) (Or.inl ⟨by kernel_rfl, ?_⟩) (by assumption) ?_; rotate_left 1; (intro W0 hSw; (have s1 : W0.cell? ⟨S, 1, none⟩ = some (.int .i64 floor) := (by rw [cell_of_block hSw]; rfl)); (have s2 : W0.cell? ⟨S, 2, none⟩ = some (.map (some bb)) := (by rw [cell_of_block hSw]; rfl)); (have s4 : W0.cell? ⟨S, 4, none⟩ = some (.slice (some ⟨g, o, none⟩) (l.length + 1) c) := (by rw [cell_of_block hSw]; rfl)); go_simp; (try with_reducible rfl)); (try simp only [Act.put, List.setIfInBounds_toArray, List.set_cons_zero, List.set_cons_succ]))
  (refine wpAnyH_take (i := 8) (v := ?_) rfl (by kernel_rfl) (by kernel_rfl) (by kernel_rfl) (fun _ _ _ h => h) (Or.inl ⟨by kernel_rfl, ?_⟩) (by assumption) ?_; rotate_left 1; (intro W0 hSw; (have s1 : W0.cell? ⟨S, 1, none⟩ = some (.int .i64 floor) := (by rw [cell_of_block hSw]; rfl)); (have s2 : W0.cell? ⟨S, 2, none⟩ = some (.map (some bb)) := (by rw [cell_of_block hSw]; rfl)); (have s4 : W0.cell? ⟨S, 4, none⟩ = some (.slice (some ⟨g, o, none⟩) (l.length + 1) c) := (by rw [cell_of_block hSw]; rfl)); go_simp; (try with_reducible rfl)); (try simp only [Act.put, List.setIfInBounds_toArray, List.set_cons_zero, List.set_cons_succ]))
  refine wpAnyH_ready (rs := [9]) (by kernel_rfl) (by simp) ?_
  refine AllReadyH.cons rfl (fun K hK => ?_) AllReadyH.nil
  go_simp
  refine CF.out.mono ?_
  clear CF
  rintro e W5 ⟨rfl, n5', g5⟩
  have hz5 := g5.size
  have hSlt := lt_of_block HS.out.box
  have hnS : S ≠ bb := fun q => map_ne HS.out.base HS.out.box q.symm
  have hnS2 : S ≠ bn := fun q => map_ne HS.out.now HS.out.box q.symm
  have hbS := (g5.block S hSlt (fun e => hnS (Option.some.inj e))).trans HS.out.box
  have hG5 : W5.heap[g]? = W.heap[g]? := g5.block g n5 (fun e => n2 (Option.some.inj e))
  have hbn : W5.ownsMap Try.prog 9 oR bn n (one rev d) := map_keep HS.out.now (g5.block bn HS.out.now.lt (fun e => HS.out.ne (Option.some.inj e).symm))
  have hB5 : Below w0.heap.size w0 W5 := below_grown (HS.out.bel.drew.drew) g5 HS.out.b1 HS.out.bel.size
  refine hK.out _ _ hbS (fun hHeld => ?_)
  clear hK K
  (try simp only [Act.put, List.setIfInBounds_toArray, List.set_cons_zero, List.set_cons_succ])
  refine wpAnyH_done (by kernel_rfl) ?_ _
  (try dsimp only [Act.put, List.getElem_toArray, List.getElem_cons_succ, List.getElem_cons_zero, List.setIfInBounds_toArray, List.set_cons_zero, List.set_cons_succ])
  clear hHeld
  have BS := hmk hbS
  have N5 := hmk n5'
  have BN := hmk hbn
  have B5 := hmk hB5
  have HG := hmk hG5
  have hs0 := HS.out.s
  have hb1 := HS.out.b1
  have hb2 := HS.out.b2
  have hne := HS.out.ne
  have C4 : W5.cell? ⟨S, 4, none⟩ = some (.slice (some ⟨g, o, none⟩) (l.length + 1) c) := by rw [cell_of_block hbS]; rfl
  have C1 : W5.cell? ⟨S, 1, none⟩ = some (.int .i64 floor) := by rw [cell_of_block hbS]; rfl
  have F5 : ∀ i, W5.frozen? ⟨S, i, none⟩ = false := frozen_of_block hbS
  clear hbS n5' hbn hB5 hG5 hc1 hc4 HS g5
  have hmax : maxLen = 9223372036854775807 := rfl
  go_wp2_with fail
  have hS6 := set_block BS.out 4 (.slice (some ⟨g, o + 3, none⟩) l.length (c - 1))
  have hS7 := set_block hS6 1 (.int .i64 (floor + 1))
  have k7 : ∀ y, y ≠ S → ((W5.setCell ⟨S, 4, none⟩ (.slice (some ⟨g, o + 3, none⟩) l.length (c - 1))).setCell ⟨S, 1, none⟩ (.int .i64 (floor + 1))).heap[y]? = W5.heap[y]? := fun y hy => (set_other hy).trans (set_other hy)
  have hB7 : Below w0.heap.size w0 ((W5.setCell ⟨S, 4, none⟩ (.slice (some ⟨g, o + 3, none⟩) l.length (c - 1))).setCell ⟨S, 1, none⟩ (.int .i64 (floor + 1))) := below_grown (below_grown B5.out (grown_set1 W5 S 4 _) hs0 B5.out.size) (grown_set1 _ S 1 _) hs0 (by rw [size_set1]; exact B5.out.size)
  have hG7 : Blk g 49 sz ((W5.setCell ⟨S, 4, none⟩ (.slice (some ⟨g, o + 3, none⟩) l.length (c - 1))).setCell ⟨S, 1, none⟩ (.int .i64 (floor + 1))) := P4.out.keep ((k7 g n1).trans HG.out)
  have hP7 : ∀ j u, (evs l)[j]? = some u → ((W5.setCell ⟨S, 4, none⟩ (.slice (some ⟨g, o + 3, none⟩) l.length (c - 1))).setCell ⟨S, 1, none⟩ (.int .i64 (floor + 1))).cell? ⟨g, o + 3 + j, none⟩ = some u := fun j u hj => (World.cell?_of_block (w := W) (a := ⟨g, o + 3 + j, none⟩) ((k7 g n1).trans HG.out)).trans (P6.out j u hj)
  have hbb7 := (map_keep N5.out (k7 bb (fun q => hnS q.symm)))
  have hbn7 := (map_keep BN.out (k7 bn (fun q => hnS2 q.symm))).mono (show n ≤ n + 1 by omega)
  clear k7 C4 C1 F5
  generalize ((W5.setCell ⟨S, 4, none⟩ (.slice (some ⟨g, o + 3, none⟩) l.length (c - 1))).setCell ⟨S, 1, none⟩ (.int .i64 (floor + 1))) = W7 at *
  rw [run_clear_ev W7 _ g o c (fun j hj => by obtain ⟨v, e⟩ := hG7.cell (o + j) (by omega); rw [e]; rfl) (fun j hj => hG7.frozen _)]
  have h8 : Hid (Sto w0 (W7.setCells g o [.int .i64 0, .string ⟨#[]⟩, .string ⟨#[]⟩]) S rev (floor + 1) bb bn (n + 1) (D.put kL (dat (floor + 1) d0)) d (.slice (some ⟨g, o + 3, none⟩) l.length (c - 1)) l) := by
    have k8 : ∀ y, y ≠ g → (W7.setCells g o [.int .i64 0, .string ⟨#[]⟩, .string ⟨#[]⟩]).heap[y]? = W7.heap[y]? := fun y hy => ((set_other hy).trans (set_other hy)).trans (set_other hy)
    refine ⟨below_setCells_w3 hB7 n4, (k8 S (fun q => n1 q.symm)).trans hS7, map_keep hbb7 (k8 bb (fun q => n2 q.symm)), map_keep hbn7 (k8 bn (fun q => n3 q.symm)), ⟨.inr ⟨g, o + 3, c - 1, sz, rfl, by omega, by omega, n4, ((hG7.set _ _).set _ _).set _ _, by omega, fun j u hj => ?_⟩⟩, hs0, hb1, hb2, hne, hok⟩
    rw [World.cell?_setCells_out g _ o W7 ⟨g, o + 3 + j, none⟩ (fun _ _ => .inr (by simp))]
    exact hP7 j u hj
  clear hP7 hbb7 hbn7 hB7 hG7 hS6 hS7
  go_simp
  go_wp2_with fail
  refine bodyPost_end (v := .tuple #[]) (results_none rfl _ _ _) rfl ?_
  exact ⟨rfl, _, h8.out⟩
end Go.Proofs.Ytkicbnklhnkfgaa
