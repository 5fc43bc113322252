/- forget, Compact. -/
import Derived.Test.YtpbejbpimcidjaaSwB
import Derived.Test.YtpbejbpimcidjaaQSub
import Derived.Lib.SliceRun
set_option linter.unusedSimpArgs false
set_option linter.unusedVariables false
namespace Go.Proofs.Ytpbejbpimcidjaa
open Go Go.Lib Go.RowKit Go.Maps

theorem evs_cut (l : List Evt) (k : Nat) : evs (l.take k) = (evs l).take (k * 3) ∧ evs (l.drop k) = (evs l).drop (k * 3) := by
  induction l generalizing k with
  | nil => simp [evs]
  | cons x t ih =>
    have hc : evs (x :: t) = ev x.1 x.2.1 x.2.2 ++ evs t := by unfold evs; rw [List.flatMap_cons]
    rcases k with _ | k
    · simp [evs]
    · have h3 : (ev x.1 x.2.1 x.2.2).length = 3 := rfl
      obtain ⟨h1, h2⟩ := ih k
      have hc2 : evs (x :: t.take k) = ev x.1 x.2.1 x.2.2 ++ evs (t.take k) := by unfold evs; rw [List.flatMap_cons]
      have h4 : (ev x.1 x.2.1 x.2.2).take ((k + 1) * 3) = ev x.1 x.2.1 x.2.2 := List.take_of_length_le (by omega)
      have h5 : (ev x.1 x.2.1 x.2.2).drop ((k + 1) * 3) = [] := List.drop_eq_nil_of_le (by omega)
      rw [List.take_succ_cons, List.drop_succ_cons, hc, hc2, h1, h2, List.take_append, List.drop_append, h3, h4, h5, show (k + 1) * 3 - 3 = k * 3 by omega]
      exact ⟨rfl, rfl⟩
theorem zero60 (w : World) : (zeroValue 60).run Try.prog w = .ok (.agg #[.int .i64 0, .string ⟨#[]⟩, .string ⟨#[]⟩]) w := by kernel_rfl
def zs (k : Nat) : List Value := (Builtin.zeroCells #[.int .i64 0, .string ⟨#[]⟩, .string ⟨#[]⟩] k).toList
theorem zs_len (k : Nat) : (zs k).length = k * 3 := by simp [zs, Builtin.zeroCells]
theorem zs_one (k : Nat) : ∀ v ∈ zs k, v.oneCell' = true := fun v hv => by
  simp only [zs, Builtin.zeroCells, Array.toList_map, List.mem_map] at hv
  obtain ⟨i, _, rfl⟩ := hv
  have h3 : i % 3 = 0 ∨ i % 3 = 1 ∨ i % 3 = 2 := by omega
  show (#[Value.int .i64 0, .string ⟨#[]⟩, .string ⟨#[]⟩][i % 3]!).oneCell' = true
  rcases h3 with h | h | h <;> rw [h] <;> rfl
theorem run_clear_evs (w : World) (ty : TypeId) (g o k c : Nat) (hk : 0 < k) (hc : ∀ j, j < k * 3 → (w.cell? ⟨g, o + j, none⟩).isSome = true) (hf : ∀ j, j < k * 3 → w.frozen? ⟨g, o + j, none⟩ = false) :
    (Builtin.clear_ #[55] ty #[.slice (some ⟨g, o, none⟩) k c]).run Try.prog w = .ok (.tuple #[]) (w.setCells g o (zs k)) := by
  have hst := run_storeCells_cells (P := Try.prog) g o (zs k) 0 w (by rw [zs_len]; simpa using hc) (by rw [zs_len]; simpa using hf) (zs_one k)
  simp only [Nat.add_zero] at hst
  obtain ⟨k, rfl⟩ : ∃ j, k = j + 1 := ⟨k - 1, by omega⟩
  have hz : (Builtin.zeroCells (Value.cells (.agg #[.int .i64 0, .string ⟨#[]⟩, .string ⟨#[]⟩])) (k + 1)).toList = zs (k + 1) := rfl
  simp [Builtin.clear_, run_underlying Try.underlying55, zero60, hz, hst]
theorem grown_setCells (g : Nat) : ∀ (xs : List Value) (o : Nat) (w : World), w.grownBy (w.setCells g o xs) (some g)
  | [], _, w => World.grownBy.refl w _
  | x :: xs, o, w => grown_trans (grown_set1 w g o x) (grown_setCells g xs (o + 1) _)
theorem blk_setCells {g ty sz : Nat} : ∀ (xs : List Value) (o : Nat) {w : World}, Blk g ty sz w → Blk g ty sz (w.setCells g o xs)
  | [], _, _, h => h
  | x :: xs, o, _, h => blk_setCells xs (o + 1) (h.set o x)
set_option maxHeartbeats 8000000 in
set_option maxRecDepth 100000 in
theorem forget_part (F : Nat → Prop) (w0 W : World) (S : Nat) (rev floor : Int) (bb bn n : Nat) (D DN : DataW Unit) (l : List Evt) (g o c : Nat) (k : Nat) (h : Sto F w0 W S rev floor bb bn n D DN (.slice (some ⟨g, o, none⟩) l.length c) l) (hck : k < c) (hk0 : 0 < k) (hkl : k ≤ l.length) (hll : l.length < 400000) (hcl : l.length ≤ c) (hcm : c ≤ maxLen) (hn : n < 500000) (hr : 0 ≤ floor ∧ floor + (k : Int) ≤ 9007199254740991)
    (sz : Nat) (p4 : Blk g 60 sz W) (p5 : o + c * 3 ≤ sz) (p6 : ∀ j u, (evs l)[j]? = some u → W.cell? ⟨g, o + j, none⟩ = some u) :
    Calls Try.prog 18 #[.pointer (some ⟨S, 0, none⟩), .int .i64 (floor + (k : Int))] W fun e W' => e = .returned (.tuple #[]) ∧ Sto F w0 W' S rev (floor + (k : Int)) bb bn (n + k) (fol D floor (l.take k)) DN (.slice (some ⟨g, o + k * 3, none⟩) (l.length - k) (c - k)) (l.drop k) := by
  obtain ⟨n1, n2, n3, n4, n5⟩ := h.ng (g := g) (a := o) (m := l.length) (c := c) rfl
  have hok := h.ok
  have hc1 : W.cell? ⟨S, 1, none⟩ = some (.int .i64 floor) := by rw [cell_of_block h.box]; rfl
  have hc4 : W.cell? ⟨S, 4, none⟩ = some (.slice (some ⟨g, o, none⟩) l.length c) := by rw [cell_of_block h.box]; rfl
  have hsub : floor + (k : Int) - floor = (k : Int) := by omega
  have hwk : IntKind.i64.wrap (k : Int) = (k : Int) := wrap_small _ (by omega) (by omega)
  have c1 : (k : Int) ≤ (c : Int) := by omega
  have c2 : (k : Int) ≤ (l.length : Int) := by omega
  have htk : (l.take k).length = k := by rw [List.length_take]; omega
  have CF0 := follow_many bb n D floor (l.take k) g o c W.drew.drew h.base hn (by omega) (by omega) (fun e he => hok e (List.mem_of_mem_take he)) n5 n2 (fun j u hj => by
    rw [(evs_cut l k).1, List.getElem?_take] at hj
    split at hj
    · exact p6 j u hj
    · cases hj)
  rw [htk] at CF0
  have CF := hmk CF0
  have P4 := hmk p4
  have P6 := hmk p6
  have HS := hmk h
  have HOK := hmk hok
  clear p6 p4 h CF0 hok htk
  go_enter Try.func18, Try.ntmps18
  go_wp2_with fail
  refine wp_region_held_drew (S := fun Y => Y.heap[S]? = some (.cells #[.int .i64 rev, .int .i64 floor, .map (some bb), .map (some bn), (.slice (some ⟨g, o, none⟩) l.length c)] 57)) (by kernel_rfl) HS.out.box (fun hHeld => ?_)
  (refine wpAnyH_take (i := 0) (v := ?_) rfl (by kernel_rfl) (by kernel_rfl) (by kernel_rfl) (fun _ _ _ h => h) (Or.inl ⟨by kernel_rfl, ?_⟩) (by assumption) ?_; rotate_left 1; (intro W0 hSw; (have s1 : W0.cell? ⟨S, 1, none⟩ = some (.int .i64 floor) := (by rw [cell_of_block hSw]; rfl)); (have s2 : W0.cell? ⟨S, 2, none⟩ = some (.map (some bb)) := (by rw [cell_of_block hSw]; rfl)); (have s4 : W0.cell? ⟨S, 4, none⟩ = some (.slice (some ⟨g, o, none⟩) l.length c) := (by rw [cell_of_block hSw]; rfl)); go_simp; (try with_reducible rfl)); (try simp only [Act.put, List.setIfInBounds_toArray, List.set_cons_zero, List.set_cons_succ]))
  (refine wpAnyH_take (i := 1) (v := ?_) rfl (by kernel_rfl) (by kernel_rfl) (by kernel_rfl) (fun _ _ _ h => h) (Or.inl ⟨by kernel_rfl, ?_⟩) (by assumption) ?_; rotate_left 1; (intro W0 hSw; (have s1 : W0.cell? ⟨S, 1, none⟩ = some (.int .i64 floor) := (by rw [cell_of_block hSw]; rfl)); (have s2 : W0.cell? ⟨S, 2, none⟩ = some (.map (some bb)) := (by rw [cell_of_block hSw]; rfl)); (have s4 : W0.cell? ⟨S, 4, none⟩ = some (.slice (some ⟨g, o, none⟩) l.length c) := (by rw [cell_of_block hSw]; rfl)); go_simp; (try with_reducible rfl)); (try simp only [Act.put, List.setIfInBounds_toArray, List.set_cons_zero, List.set_cons_succ]))
  (refine wpAnyH_take (i := 2) (v := ?_) rfl (by kernel_rfl) (by kernel_rfl) (by kernel_rfl) (fun _ _ _ h => h) (Or.inl ⟨by kernel_rfl, ?_⟩) (by assumption) ?_; rotate_left 1; (intro W0 hSw; (have s1 : W0.cell? ⟨S, 1, none⟩ = some (.int .i64 floor) := (by rw [cell_of_block hSw]; rfl)); (have s2 : W0.cell? ⟨S, 2, none⟩ = some (.map (some bb)) := (by rw [cell_of_block hSw]; rfl)); (have s4 : W0.cell? ⟨S, 4, none⟩ = some (.slice (some ⟨g, o, none⟩) l.length c) := (by rw [cell_of_block hSw]; rfl)); go_simp; (try with_reducible rfl)); (try simp only [Act.put, List.setIfInBounds_toArray, List.set_cons_zero, List.set_cons_succ]))
  (refine wpAnyH_take (i := 3) (v := ?_) rfl (by kernel_rfl) (by kernel_rfl) (by kernel_rfl) (fun _ _ _ h => h) (Or.inl ⟨by kernel_rfl, ?_⟩) (by assumption) ?_; rotate_left 1; (intro W0 hSw; (have s1 : W0.cell? ⟨S, 1, none⟩ = some (.int .i64 floor) := (by rw [cell_of_block hSw]; rfl)); (have s2 : W0.cell? ⟨S, 2, none⟩ = some (.map (some bb)) := (by rw [cell_of_block hSw]; rfl)); (have s4 : W0.cell? ⟨S, 4, none⟩ = some (.slice (some ⟨g, o, none⟩) l.length c) := (by rw [cell_of_block hSw]; rfl)); go_simp; (try with_reducible rfl)); (try simp only [Act.put, List.setIfInBounds_toArray, List.set_cons_zero, List.set_cons_succ]))
  (refine wpAnyH_take (i := 4) (v := ?_) rfl (by kernel_rfl) (by kernel_rfl) (by kernel_rfl) (fun _ _ _ h => h) (Or.inl ⟨by kernel_rfl, ?_⟩) (by assumption) ?_; rotate_left 1; (intro W0 hSw; (have s1 : W0.cell? ⟨S, 1, none⟩ = some (.int .i64 floor) := (by rw [cell_of_block hSw]; rfl)); (have s2 : W0.cell? ⟨S, 2, none⟩ = some (.map (some bb)) := (by rw [cell_of_block hSw]; rfl)); (have s4 : W0.cell? ⟨S, 4, none⟩ = some (.slice (some ⟨g, o, none⟩) l.length c) := (by rw [cell_of_block hSw]; rfl)); go_simp; (try with_reducible rfl)); (try simp only [Act.put, List.setIfInBounds_toArray, List.set_cons_zero, List.set_cons_succ]))
  (refine wpAnyH_take (i := 5) (v := ?_) rfl (by kernel_rfl) (by kernel_rfl) (by kernel_rfl) (fun _ _ _ h => h) (Or.inl ⟨by kernel_rfl, ?_⟩) (by assumption) ?_; rotate_left 1; (intro W0 hSw; (have s1 : W0.cell? ⟨S, 1, none⟩ = some (.int .i64 floor) := (by rw [cell_of_block hSw]; rfl)); (have s2 : W0.cell? ⟨S, 2, none⟩ = some (.map (some bb)) := (by rw [cell_of_block hSw]; rfl)); (have s4 : W0.cell? ⟨S, 4, none⟩ = some (.slice (some ⟨g, o, none⟩) l.length c) := (by rw [cell_of_block hSw]; rfl)); go_simp; (try with_reducible rfl)); (try simp only [Act.put, List.setIfInBounds_toArray, List.set_cons_zero, List.set_cons_succ]))
  (refine wpAnyH_take (i := 6) (v := ?_) rfl (by kernel_rfl) (by kernel_rfl) (by kernel_rfl) (fun _ _ _ h => h) (Or.inl ⟨by kernel_rfl, ?_⟩) (by assumption) ?_; rotate_left 1; (intro W0 hSw; (have s1 : W0.cell? ⟨S, 1, none⟩ = some (.int .i64 floor) := (by rw [cell_of_block hSw]; rfl)); (have s2 : W0.cell? ⟨S, 2, none⟩ = some (.map (some bb)) := (by rw [cell_of_block hSw]; rfl)); (have s4 : W0.cell? ⟨S, 4, none⟩ = some (.slice (some ⟨g, o, none⟩) l.length c) := (by rw [cell_of_block hSw]; rfl)); go_simp; (try with_reducible rfl)); (try simp only [Act.put, List.setIfInBounds_toArray, List.set_cons_zero, List.set_cons_succ]))
  (refine wpAnyH_take (i := 7) (v := ?_) rfl (by kernel_rfl) (by kernel_rfl) (by kernel_rfl) (fun _ _ _ h => h) (Or.inl ⟨by kernel_rfl, ?_⟩) (by assumption) ?_; rotate_left 1; (intro W0 hSw; (have s1 : W0.cell? ⟨S, 1, none⟩ = some (.int .i64 floor) := (by rw [cell_of_block hSw]; rfl)); (have s2 : W0.cell? ⟨S, 2, none⟩ = some (.map (some bb)) := (by rw [cell_of_block hSw]; rfl)); (have s4 : W0.cell? ⟨S, 4, none⟩ = some (.slice (some ⟨g, o, none⟩) l.length c) := (by rw [cell_of_block hSw]; rfl)); go_simp; (try with_reducible rfl)); (try simp only [Act.put, List.setIfInBounds_toArray, List.set_cons_zero, List.set_cons_succ]))
  (refine wpAnyH_take (i := 8) (v := ?_) rfl (by kernel_rfl) (by kernel_rfl) (by kernel_rfl) (fun _ _ _ h => h) (Or.inl ⟨by kernel_rfl, ?_⟩) (by assumption) ?_; rotate_left 1; (intro W0 hSw; (have s1 : W0.cell? ⟨S, 1, none⟩ = some (.int .i64 floor) := (by rw [cell_of_block hSw]; rfl)); (have s2 : W0.cell? ⟨S, 2, none⟩ = some (.map (some bb)) := (by rw [cell_of_block hSw]; rfl)); (have s4 : W0.cell? ⟨S, 4, none⟩ = some (.slice (some ⟨g, o, none⟩) l.length c) := (by rw [cell_of_block hSw]; rfl)); go_simp; (try with_reducible rfl)); (try simp only [Act.put, List.setIfInBounds_toArray, List.set_cons_zero, List.set_cons_succ]))
  (refine wpAnyH_take (i := 9) (v := ?_) rfl (by kernel_rfl) (by kernel_rfl) (by kernel_rfl) (fun _ _ _ h => h) (Or.inl ⟨by kernel_rfl, ?_⟩) (by assumption) ?_; rotate_left 1; (intro W0 hSw; (have s1 : W0.cell? ⟨S, 1, none⟩ = some (.int .i64 floor) := (by rw [cell_of_block hSw]; rfl)); (have s2 : W0.cell? ⟨S, 2, none⟩ = some (.map (some bb)) := (by rw [cell_of_block hSw]; rfl)); (have s4 : W0.cell? ⟨S, 4, none⟩ = some (.slice (some ⟨g, o, none⟩) l.length c) := (by rw [cell_of_block hSw]; rfl)); go_simp; (try with_reducible rfl)); (try simp only [Act.put, List.setIfInBounds_toArray, List.set_cons_zero, List.set_cons_succ]))
  (refine wpAnyH_take (i := 10) (v := .slice (some ⟨g, o, none⟩) k c) rfl (by kernel_rfl) (by kernel_rfl) (by kernel_rfl) (fun _ _ _ h => h) (Or.inl ⟨by kernel_rfl, ?_⟩) (by assumption) ?_; (intro W0 hSw; (have s1 : W0.cell? ⟨S, 1, none⟩ = some (.int .i64 floor) := (by rw [cell_of_block hSw]; rfl)); (have s2 : W0.cell? ⟨S, 2, none⟩ = some (.map (some bb)) := (by rw [cell_of_block hSw]; rfl)); (have s4 : W0.cell? ⟨S, 4, none⟩ = some (.slice (some ⟨g, o, none⟩) l.length c) := (by rw [cell_of_block hSw]; rfl)); go_simp); (try simp only [Act.put, List.setIfInBounds_toArray, List.set_cons_zero, List.set_cons_succ]))
  refine wpAnyH_ready (rs := [11]) (by kernel_rfl) (by simp) ?_
  refine AllReadyH.cons rfl (fun K hK => ?_) AllReadyH.nil
  go_simp
  refine hK.out _ _ (HS.out.box) (fun hHeld => ?_)
  clear hK K
  (try simp only [Act.put, List.setIfInBounds_toArray, List.set_cons_zero, List.set_cons_succ])
  refine wpAnyH_done (by kernel_rfl) ?_ _
  (try dsimp only [Act.put, List.getElem_toArray, List.getElem_cons_succ, List.getElem_cons_zero, List.setIfInBounds_toArray, List.set_cons_zero, List.set_cons_succ])
  clear hHeld
  go_wp2_with fail
  refine wp_region_held_drew (S := fun Y => Y.heap[S]? = some (.cells #[.int .i64 rev, .int .i64 floor, .map (some bb), .map (some bn), (.slice (some ⟨g, o, none⟩) l.length c)] 57)) (by kernel_rfl) HS.out.box (fun hHeld => ?_)
  (refine wpAnyH_take (i := 0) (v := ?_) rfl (by kernel_rfl) (by kernel_rfl) (by kernel_rfl) (fun _ _ _ h => h) (Or.inl ⟨by kernel_rfl, ?_⟩) (by assumption) ?_; rotate_left 1; (intro W0 hSw; (have s1 : W0.cell? ⟨S, 1, none⟩ = some (.int .i64 floor) := (by rw [cell_of_block hSw]; rfl)); (have s2 : W0.cell? ⟨S, 2, none⟩ = some (.map (some bb)) := (by rw [cell_of_block hSw]; rfl)); (have s4 : W0.cell? ⟨S, 4, none⟩ = some (.slice (some ⟨g, o, none⟩) l.length c) := (by rw [cell_of_block hSw]; rfl)); go_simp; (try with_reducible rfl)); (try simp only [Act.put, List.setIfInBounds_toArray, List.set_cons_zero, List.set_cons_succ]))
  (refine wpAnyH_take (i := 1) (v := ?_) rfl (by kernel_rfl) (by kernel_rfl) (by kernel_rfl) (fun _ _ _ h => h) (Or.inl ⟨by kernel_rfl, ?_⟩) (by assumption) ?_; rotate_left 1; (intro W0 hSw; (have s1 : W0.cell? ⟨S, 1, none⟩ = some (.int .i64 floor) := (by rw [cell_of_block hSw]; rfl)); (have s2 : W0.cell? ⟨S, 2, none⟩ = some (.map (some bb)) := (by rw [cell_of_block hSw]; rfl)); (have s4 : W0.cell? ⟨S, 4, none⟩ = some (.slice (some ⟨g, o, none⟩) l.length c) := (by rw [cell_of_block hSw]; rfl)); go_simp; (try with_reducible rfl)); (try simp only [Act.put, List.setIfInBounds_toArray, List.set_cons_zero, List.set_cons_succ]))
  (refine wpAnyH_take (i := 2) (v := ?_) rfl (by kernel_rfl) (by kernel_rfl) (by kernel_rfl) (fun _ _ _ h => h) (Or.inl ⟨by kernel_rfl, ?_⟩) (by assumption) ?_; rotate_left 1; (intro W0 hSw; (have s1 : W0.cell? ⟨S, 1, none⟩ = some (.int .i64 floor) := (by rw [cell_of_block hSw]; rfl)); (have s2 : W0.cell? ⟨S, 2, none⟩ = some (.map (some bb)) := (by rw [cell_of_block hSw]; rfl)); (have s4 : W0.cell? ⟨S, 4, none⟩ = some (.slice (some ⟨g, o, none⟩) l.length c) := (by rw [cell_of_block hSw]; rfl)); go_simp; (try with_reducible rfl)); (try simp only [Act.put, List.setIfInBounds_toArray, List.set_cons_zero, List.set_cons_succ]))
  (refine wpAnyH_take (i := 3) (v := ?_) rfl (by kernel_rfl) (by kernel_rfl) (by kernel_rfl) (fun _ _ _ h => h) (Or.inl ⟨by kernel_rfl, ?_⟩) (by assumption) ?_; rotate_left 1; (intro W0 hSw; (have s1 : W0.cell? ⟨S, 1, none⟩ = some (.int .i64 floor) := (by rw [cell_of_block hSw]; rfl)); (have s2 : W0.cell? ⟨S, 2, none⟩ = some (.map (some bb)) := (by rw [cell_of_block hSw]; rfl)); (have s4 : W0.cell? ⟨S, 4, none⟩ = some (.slice (some ⟨g, o, none⟩) l.length c) := (by rw [cell_of_block hSw]; rfl)); go_simp; (try with_reducible rfl)); (try simp only [Act.put, List.setIfInBounds_toArray, List.set_cons_zero, List.set_cons_succ]))
  (refine wpAnyH_take (i := 4) (v := ?_) rfl (by kernel_rfl) (by kernel_rfl) (by kernel_rfl) (fun _ _ _ h => h) (Or.inl ⟨by kernel_rfl, ?_⟩) (by assumption) ?_; rotate_left 1; (intro W0 hSw; (have s1 : W0.cell? ⟨S, 1, none⟩ = some (.int .i64 floor) := (by rw [cell_of_block hSw]; rfl)); (have s2 : W0.cell? ⟨S, 2, none⟩ = some (.map (some bb)) := (by rw [cell_of_block hSw]; rfl)); (have s4 : W0.cell? ⟨S, 4, none⟩ = some (.slice (some ⟨g, o, none⟩) l.length c) := (by rw [cell_of_block hSw]; rfl)); go_simp; (try with_reducible rfl)); (try simp only [Act.put, List.setIfInBounds_toArray, List.set_cons_zero, List.set_cons_succ]))
  (refine wpAnyH_take (i := 5) (v := ?_) rfl (by kernel_rfl) (by kernel_rfl) (by kernel_rfl) (fun _ _ _ h => h) (Or.inl ⟨by kernel_rfl, ?_⟩) (by assumption) ?_; rotate_left 1; (intro W0 hSw; (have s1 : W0.cell? ⟨S, 1, none⟩ = some (.int .i64 floor) := (by rw [cell_of_block hSw]; rfl)); (have s2 : W0.cell? ⟨S, 2, none⟩ = some (.map (some bb)) := (by rw [cell_of_block hSw]; rfl)); (have s4 : W0.cell? ⟨S, 4, none⟩ = some (.slice (some ⟨g, o, none⟩) l.length c) := (by rw [cell_of_block hSw]; rfl)); go_simp; (try with_reducible rfl)); (try simp only [Act.put, List.setIfInBounds_toArray, List.set_cons_zero, List.set_cons_succ]))
  (refine wpAnyH_take (i := 6) (v := ?_) rfl (by kernel_rfl) (by kernel_rfl) (by kernel_rfl) (fun _ _ _ h => h) (Or.inl ⟨by kernel_rfl, ?_⟩) (by assumption) ?_; rotate_left 1; (intro W0 hSw; (have s1 : W0.cell? ⟨S, 1, none⟩ = some (.int .i64 floor) := (by rw [cell_of_block hSw]; rfl)); (have s2 : W0.cell? ⟨S, 2, none⟩ = some (.map (some bb)) := (by rw [cell_of_block hSw]; rfl)); (have s4 : W0.cell? ⟨S, 4, none⟩ = some (.slice (some ⟨g, o, none⟩) l.length c) := (by rw [cell_of_block hSw]; rfl)); go_simp; (try with_reducible rfl)); (try simp only [Act.put, List.setIfInBounds_toArray, List.set_cons_zero, List.set_cons_succ]))
  (refine wpAnyH_take (i := 7) (v := ?_) rfl (by kernel_rfl) (by kernel_rfl) (by kernel_rfl) (fun _ _ _ h => h) (Or.inl ⟨by kernel_rfl, ?_⟩) (by assumption) ?_; rotate_left 1; (intro W0 hSw; (have s1 : W0.cell? ⟨S, 1, none⟩ = some (.int .i64 floor) := (by rw [cell_of_block hSw]; rfl)); (have s2 : W0.cell? ⟨S, 2, none⟩ = some (.map (some bb)) := (by rw [cell_of_block hSw]; rfl)); (have s4 : W0.cell? ⟨S, 4, none⟩ = some (.slice (some ⟨g, o, none⟩) l.length c) := (by rw [cell_of_block hSw]; rfl)); go_simp; (try with_reducible rfl)); (try simp only [Act.put, List.setIfInBounds_toArray, List.set_cons_zero, List.set_cons_succ]))
  (refine wpAnyH_take (i := 8) (v := ?_) rfl (by kernel_rfl) (by kernel_rfl) (by kernel_rfl) (fun _ _ _ h => h) (Or.inl ⟨by kernel_rfl, ?_⟩) (by assumption) ?_; rotate_left 1; (intro W0 hSw; (have s1 : W0.cell? ⟨S, 1, none⟩ = some (.int .i64 floor) := (by rw [cell_of_block hSw]; rfl)); (have s2 : W0.cell? ⟨S, 2, none⟩ = some (.map (some bb)) := (by rw [cell_of_block hSw]; rfl)); (have s4 : W0.cell? ⟨S, 4, none⟩ = some (.slice (some ⟨g, o, none⟩) l.length c) := (by rw [cell_of_block hSw]; rfl)); go_simp; (try with_reducible rfl)); (try simp only [Act.put, List.setIfInBounds_toArray, List.set_cons_zero, List.set_cons_succ]))
  refine wpAnyH_ready (rs := [9]) (by kernel_rfl) (by simp) ?_
  refine AllReadyH.cons rfl (fun K hK => ?_) AllReadyH.nil
  go_simp
  refine CF.out.mono ?_
  clear CF
  rintro e W5 ⟨rfl, n5', g5⟩
  have hz5 := g5.size
  have hSlt := lt_of_block HS.out.box
  have hnS : S ≠ bb := fun q => map_ne HS.out.base HS.out.box q.symm
  have hnS2 : S ≠ bn := fun q => map_ne HS.out.now HS.out.box q.symm
  have hbS := (g5.block S hSlt (fun e => hnS (Option.some.inj e))).trans HS.out.box
  have hG5 : W5.heap[g]? = W.heap[g]? := g5.block g n5 (fun e => n2 (Option.some.inj e))
  have hbn : W5.ownsMap Try.prog 9 oR bn n DN := map_keep HS.out.now (g5.block bn HS.out.now.lt (fun e => HS.out.ne (Option.some.inj e).symm))
  have hB5 : Fr F w0 W5 := Fr.grown (w := W.drew.drew) ⟨HS.out.bel.os, HS.out.bel.tape, HS.out.bel.output, HS.out.bel.size, HS.out.bel.block, HS.out.bel.lt⟩ g5 HS.out.b1
  refine hK.out _ _ (hbS) (fun hHeld => ?_)
  clear hK K
  (try simp only [Act.put, List.setIfInBounds_toArray, List.set_cons_zero, List.set_cons_succ])
  refine wpAnyH_done (by kernel_rfl) ?_ _
  (try dsimp only [Act.put, List.getElem_toArray, List.getElem_cons_succ, List.getElem_cons_zero, List.setIfInBounds_toArray, List.set_cons_zero, List.set_cons_succ])
  clear hHeld
  have BS := hmk hbS
  have N5 := hmk n5'
  have BN := hmk hbn
  have B5 := hmk hB5
  have HG := hmk hG5
  have hs0 := HS.out.s
  have hb1 := HS.out.b1
  have hb2 := HS.out.b2
  have hne := HS.out.ne
  have C4 : W5.cell? ⟨S, 4, none⟩ = some (.slice (some ⟨g, o, none⟩) l.length c) := by rw [cell_of_block hbS]; rfl
  have C1 : W5.cell? ⟨S, 1, none⟩ = some (.int .i64 floor) := by rw [cell_of_block hbS]; rfl
  have F5 : ∀ i, W5.frozen? ⟨S, i, none⟩ = false := frozen_of_block hbS
  clear hbS n5' hbn hB5 hG5 hc1 hc4 HS g5
  have hmax : maxLen = 9223372036854775807 := rfl
  go_wp2_with fail
  have hS6 := set_block BS.out 4 (.slice (some ⟨g, o + k * 3, none⟩) (l.length - k) (c - k))
  have hS7 := set_block hS6 1 (.int .i64 (floor + (k : Int)))
  have k7 : ∀ y, y ≠ S → ((W5.setCell ⟨S, 4, none⟩ (.slice (some ⟨g, o + k * 3, none⟩) (l.length - k) (c - k))).setCell ⟨S, 1, none⟩ (.int .i64 (floor + (k : Int)))).heap[y]? = W5.heap[y]? := fun y hy => (set_other hy).trans (set_other hy)
  have hB7 : Fr F w0 ((W5.setCell ⟨S, 4, none⟩ (.slice (some ⟨g, o + k * 3, none⟩) (l.length - k) (c - k))).setCell ⟨S, 1, none⟩ (.int .i64 (floor + (k : Int)))) := (B5.out.grown (grown_set1 W5 S 4 _) hs0).grown (grown_set1 _ S 1 _) hs0
  have hG7 : Blk g 60 sz ((W5.setCell ⟨S, 4, none⟩ (.slice (some ⟨g, o + k * 3, none⟩) (l.length - k) (c - k))).setCell ⟨S, 1, none⟩ (.int .i64 (floor + (k : Int)))) := P4.out.keep ((k7 g n1).trans HG.out)
  have hP7 : ∀ j u, (evs l)[j]? = some u → ((W5.setCell ⟨S, 4, none⟩ (.slice (some ⟨g, o + k * 3, none⟩) (l.length - k) (c - k))).setCell ⟨S, 1, none⟩ (.int .i64 (floor + (k : Int)))).cell? ⟨g, o + j, none⟩ = some u := fun j u hj => (World.cell?_of_block (w := W) (a := ⟨g, o + j, none⟩) ((k7 g n1).trans HG.out)).trans (P6.out j u hj)
  have hbb7 := (map_keep N5.out (k7 bb (fun q => hnS q.symm)))
  have hbn7 := (map_keep BN.out (k7 bn (fun q => hnS2 q.symm))).mono (show n ≤ n + k by omega)
  clear k7 C4 C1 F5
  generalize ((W5.setCell ⟨S, 4, none⟩ (.slice (some ⟨g, o + k * 3, none⟩) (l.length - k) (c - k))).setCell ⟨S, 1, none⟩ (.int .i64 (floor + (k : Int)))) = W7 at *
  rw [run_clear_evs W7 _ g o k c hk0 (fun j hj => by obtain ⟨v, e⟩ := hG7.cell (o + j) (by omega); rw [e]; rfl) (fun j hj => hG7.frozen _)]
  have h8 : Hid (Sto F w0 (W7.setCells g o (zs k)) S rev (floor + (k : Int)) bb bn (n + k) (fol D floor (l.take k)) DN (.slice (some ⟨g, o + k * 3, none⟩) (l.length - k) (c - k)) (l.drop k)) := by
    have g8 := grown_setCells g (zs k) o W7
    have k8 : ∀ y, y < W7.heap.size → y ≠ g → (W7.setCells g o (zs k)).heap[y]? = W7.heap[y]? := fun y hy hn => g8.block y hy (fun e => hn (Option.some.inj e))
    refine ⟨hB7.grown g8 n4, (k8 S (lt_of_block hS7) (fun q => n1 q.symm)).trans hS7, map_keep hbb7 (k8 bb hbb7.lt (fun q => n2 q.symm)), map_keep hbn7 (k8 bn hbn7.lt (fun q => n3 q.symm)), ⟨.inr ?_⟩, hs0, hb1, hb2, hne, ?_⟩
    · refine ⟨g, o + k * 3, c - k, sz, by rw [List.length_drop], by rw [List.length_drop]; omega, by omega, n4, blk_setCells _ _ hG7, by omega, fun j u hj => ?_⟩
      rw [World.cell?_setCells_out g _ o W7 ⟨g, o + k * 3 + j, none⟩ (fun _ _ => .inr (by rw [zs_len]; simp))]
      rw [(evs_cut l k).2, List.getElem?_drop] at hj
      rw [Nat.add_assoc]
      exact hP7 _ u hj
    · intro e he
      exact HOK.out e (List.mem_of_mem_drop he)
  clear hP7 hbb7 hbn7 hB7 hG7 hS6 hS7
  go_simp
  go_wp2_with fail
  refine bodyPost_end (v := .tuple #[]) (results_none rfl _ _ _) rfl ?_
  exact ⟨rfl, h8.out⟩
set_option maxHeartbeats 8000000 in
set_option maxRecDepth 100000 in
theorem forget_all (F : Nat → Prop) (w0 W : World) (S : Nat) (rev floor : Int) (bb bn n : Nat) (D DN : DataW Unit) (l : List Evt) (g o : Nat) (k : Nat) (h : Sto F w0 W S rev floor bb bn n D DN (.slice (some ⟨g, o, none⟩) k k) l) (hlk : l.length = k) (hk0 : 0 < k) (hkl : k ≤ k) (hll : k < 400000) (hcl : k ≤ k) (hcm : k ≤ maxLen) (hn : n < 500000) (hr : 0 ≤ floor ∧ floor + (k : Int) ≤ 9007199254740991)
    (sz : Nat) (p4 : Blk g 60 sz W) (p5 : o + k * 3 ≤ sz) (p6 : ∀ j u, (evs l)[j]? = some u → W.cell? ⟨g, o + j, none⟩ = some u) :
    Calls Try.prog 18 #[.pointer (some ⟨S, 0, none⟩), .int .i64 (floor + (k : Int))] W fun e W' => e = .returned (.tuple #[]) ∧ Sto F w0 W' S rev (floor + (k : Int)) bb bn (n + k) (fol D floor (l.take k)) DN (.slice (some ⟨g, o, none⟩) 0 0) [] := by
  obtain ⟨n1, n2, n3, n4, n5⟩ := h.ng (g := g) (a := o) (m := k) (c := k) rfl
  have hok := h.ok
  have hc1 : W.cell? ⟨S, 1, none⟩ = some (.int .i64 floor) := by rw [cell_of_block h.box]; rfl
  have hc4 : W.cell? ⟨S, 4, none⟩ = some (.slice (some ⟨g, o, none⟩) k k) := by rw [cell_of_block h.box]; rfl
  have hsub : floor + (k : Int) - floor = (k : Int) := by omega
  have hwk : IntKind.i64.wrap (k : Int) = (k : Int) := wrap_small _ (by omega) (by omega)
  have c1 : (k : Int) ≤ (k : Int) := by omega
  have c2 : (k : Int) ≤ (k : Int) := by omega
  have htk : (l.take k).length = k := by rw [List.length_take]; omega
  have CF0 := follow_many bb n D floor (l.take k) g o k W.drew.drew h.base hn (by omega) (by omega) (fun e he => hok e (List.mem_of_mem_take he)) n5 n2 (fun j u hj => by
    rw [(evs_cut l k).1, List.getElem?_take] at hj
    split at hj
    · exact p6 j u hj
    · cases hj)
  rw [htk] at CF0
  have CF := hmk CF0
  have P4 := hmk p4
  have P6 := hmk p6
  have HS := hmk h
  have HOK := hmk hok
  clear p6 p4 h CF0 hok htk hlk
  go_enter Try.func18, Try.ntmps18
  go_wp2_with fail
  refine wp_region_held_drew (S := fun Y => Y.heap[S]? = some (.cells #[.int .i64 rev, .int .i64 floor, .map (some bb), .map (some bn), (.slice (some ⟨g, o, none⟩) k k)] 57)) (by kernel_rfl) HS.out.box (fun hHeld => ?_)
  (refine wpAnyH_take (i := 0) (v := ?_) rfl (by kernel_rfl) (by kernel_rfl) (by kernel_rfl) (fun _ _ _ h => h) (Or.inl ⟨by kernel_rfl, ?_⟩) (by assumption) ?_; rotate_left 1; (intro W0 hSw; (have s1 : W0.cell? ⟨S, 1, none⟩ = some (.int .i64 floor) := (by rw [cell_of_block hSw]; rfl)); (have s2 : W0.cell? ⟨S, 2, none⟩ = some (.map (some bb)) := (by rw [cell_of_block hSw]; rfl)); (have s4 : W0.cell? ⟨S, 4, none⟩ = some (.slice (some ⟨g, o, none⟩) k k) := (by rw [cell_of_block hSw]; rfl)); go_simp; (try with_reducible rfl)); (try simp only [Act.put, List.setIfInBounds_toArray, List.set_cons_zero, List.set_cons_succ]))
  (refine wpAnyH_take (i := 1) (v := ?_) rfl (by kernel_rfl) (by kernel_rfl) (by kernel_rfl) (fun _ _ _ h => h) (Or.inl ⟨by kernel_rfl, ?_⟩) (by assumption) ?_; rotate_left 1; (intro W0 hSw; (have s1 : W0.cell? ⟨S, 1, none⟩ = some (.int .i64 floor) := (by rw [cell_of_block hSw]; rfl)); (have s2 : W0.cell? ⟨S, 2, none⟩ = some (.map (some bb)) := (by rw [cell_of_block hSw]; rfl)); (have s4 : W0.cell? ⟨S, 4, none⟩ = some (.slice (some ⟨g, o, none⟩) k k) := (by rw [cell_of_block hSw]; rfl)); go_simp; (try with_reducible rfl)); (try simp only [Act.put, List.setIfInBounds_toArray, List.set_cons_zero, List.set_cons_succ]))
  (refine wpAnyH_take (i := 2) (v := ?_) rfl (by kernel_rfl) (by kernel_rfl) (by kernel_rfl) (fun _ _ _ h => h) (Or.inl ⟨by kernel_rfl, ?_⟩) (by assumption) ?_; rotate_left 1; (intro W0 hSw; (have s1 : W0.cell? ⟨S, 1, none⟩ = some (.int .i64 floor) := (by rw [cell_of_block hSw]; rfl)); (have s2 : W0.cell? ⟨S, 2, none⟩ = some (.map (some bb)) := (by rw [cell_of_block hSw]; rfl)); (have s4 : W0.cell? ⟨S, 4, none⟩ = some (.slice (some ⟨g, o, none⟩) k k) := (by rw [cell_of_block hSw]; rfl)); go_simp; (try with_reducible rfl)); (try simp only [Act.put, List.setIfInBounds_toArray, List.set_cons_zero, List.set_cons_succ]))
  (refine wpAnyH_take (i := 3) (v := ?_) rfl (by kernel_rfl) (by kernel_rfl) (by kernel_rfl) (fun _ _ _ h => h) (Or.inl ⟨by kernel_rfl, ?_⟩) (by assumption) ?_; rotate_left 1; (intro W0 hSw; (have s1 : W0.cell? ⟨S, 1, none⟩ = some (.int .i64 floor) := (by rw [cell_of_block hSw]; rfl)); (have s2 : W0.cell? ⟨S, 2, none⟩ = some (.map (some bb)) := (by rw [cell_of_block hSw]; rfl)); (have s4 : W0.cell? ⟨S, 4, none⟩ = some (.slice (some ⟨g, o, none⟩) k k) := (by rw [cell_of_block hSw]; rfl)); go_simp; (try with_reducible rfl)); (try simp only [Act.put, List.setIfInBounds_toArray, List.set_cons_zero, List.set_cons_succ]))
  (refine wpAnyH_take (i := 4) (v := ?_) rfl (by kernel_rfl) (by kernel_rfl) (by kernel_rfl) (fun _ _ _ h => h) (Or.inl ⟨by kernel_rfl, ?_⟩) (by assumption) ?_; rotate_left 1; (intro W0 hSw; (have s1 : W0.cell? ⟨S, 1, none⟩ = some (.int .i64 floor) := (by rw [cell_of_block hSw]; rfl)); (have s2 : W0.cell? ⟨S, 2, none⟩ = some (.map (some bb)) := (by rw [cell_of_block hSw]; rfl)); (have s4 : W0.cell? ⟨S, 4, none⟩ = some (.slice (some ⟨g, o, none⟩) k k) := (by rw [cell_of_block hSw]; rfl)); go_simp; (try with_reducible rfl)); (try simp only [Act.put, List.setIfInBounds_toArray, List.set_cons_zero, List.set_cons_succ]))
  (refine wpAnyH_take (i := 5) (v := ?_) rfl (by kernel_rfl) (by kernel_rfl) (by kernel_rfl) (fun _ _ _ h => h) (Or.inl ⟨by kernel_rfl, ?_⟩) (by assumption) ?_; rotate_left 1; (intro W0 hSw; (have s1 : W0.cell? ⟨S, 1, none⟩ = some (.int .i64 floor) := (by rw [cell_of_block hSw]; rfl)); (have s2 : W0.cell? ⟨S, 2, none⟩ = some (.map (some bb)) := (by rw [cell_of_block hSw]; rfl)); (have s4 : W0.cell? ⟨S, 4, none⟩ = some (.slice (some ⟨g, o, none⟩) k k) := (by rw [cell_of_block hSw]; rfl)); go_simp; (try with_reducible rfl)); (try simp only [Act.put, List.setIfInBounds_toArray, List.set_cons_zero, List.set_cons_succ]))
  (refine wpAnyH_take (i := 6) (v := ?_) rfl (by kernel_rfl) (by kernel_rfl) (by kernel_rfl) (fun _ _ _ h => h) (Or.inl ⟨by kernel_rfl, ?_⟩) (by assumption) ?_; rotate_left 1; (intro W0 hSw; (have s1 : W0.cell? ⟨S, 1, none⟩ = some (.int .i64 floor) := (by rw [cell_of_block hSw]; rfl)); (have s2 : W0.cell? ⟨S, 2, none⟩ = some (.map (some bb)) := (by rw [cell_of_block hSw]; rfl)); (have s4 : W0.cell? ⟨S, 4, none⟩ = some (.slice (some ⟨g, o, none⟩) k k) := (by rw [cell_of_block hSw]; rfl)); go_simp; (try with_reducible rfl)); (try simp only [Act.put, List.setIfInBounds_toArray, List.set_cons_zero, List.set_cons_succ]))
  (refine wpAnyH_take (i := 7) (v := ?_) rfl (by kernel_rfl) (by kernel_rfl) (by kernel_rfl) (fun _ _ _ h => h) (Or.inl ⟨by kernel_rfl, ?_⟩) (by assumption) ?_; rotate_left 1; (intro W0 hSw; (have s1 : W0.cell? ⟨S, 1, none⟩ = some (.int .i64 floor) := (by rw [cell_of_block hSw]; rfl)); (have s2 : W0.cell? ⟨S, 2, none⟩ = some (.map (some bb)) := (by rw [cell_of_block hSw]; rfl)); (have s4 : W0.cell? ⟨S, 4, none⟩ = some (.slice (some ⟨g, o, none⟩) k k) := (by rw [cell_of_block hSw]; rfl)); go_simp; (try with_reducible rfl)); (try simp only [Act.put, List.setIfInBounds_toArray, List.set_cons_zero, List.set_cons_succ]))
  (refine wpAnyH_take (i := 8) (v := ?_) rfl (by kernel_rfl) (by kernel_rfl) (by kernel_rfl) (fun _ _ _ h => h) (Or.inl ⟨by kernel_rfl, ?_⟩) (by assumption) ?_; rotate_left 1; (intro W0 hSw; (have s1 : W0.cell? ⟨S, 1, none⟩ = some (.int .i64 floor) := (by rw [cell_of_block hSw]; rfl)); (have s2 : W0.cell? ⟨S, 2, none⟩ = some (.map (some bb)) := (by rw [cell_of_block hSw]; rfl)); (have s4 : W0.cell? ⟨S, 4, none⟩ = some (.slice (some ⟨g, o, none⟩) k k) := (by rw [cell_of_block hSw]; rfl)); go_simp; (try with_reducible rfl)); (try simp only [Act.put, List.setIfInBounds_toArray, List.set_cons_zero, List.set_cons_succ]))
  (refine wpAnyH_take (i := 9) (v := ?_) rfl (by kernel_rfl) (by kernel_rfl) (by kernel_rfl) (fun _ _ _ h => h) (Or.inl ⟨by kernel_rfl, ?_⟩) (by assumption) ?_; rotate_left 1; (intro W0 hSw; (have s1 : W0.cell? ⟨S, 1, none⟩ = some (.int .i64 floor) := (by rw [cell_of_block hSw]; rfl)); (have s2 : W0.cell? ⟨S, 2, none⟩ = some (.map (some bb)) := (by rw [cell_of_block hSw]; rfl)); (have s4 : W0.cell? ⟨S, 4, none⟩ = some (.slice (some ⟨g, o, none⟩) k k) := (by rw [cell_of_block hSw]; rfl)); go_simp; (try with_reducible rfl)); (try simp only [Act.put, List.setIfInBounds_toArray, List.set_cons_zero, List.set_cons_succ]))
  (refine wpAnyH_take (i := 10) (v := .slice (some ⟨g, o, none⟩) k k) rfl (by kernel_rfl) (by kernel_rfl) (by kernel_rfl) (fun _ _ _ h => h) (Or.inl ⟨by kernel_rfl, ?_⟩) (by assumption) ?_; (intro W0 hSw; (have s1 : W0.cell? ⟨S, 1, none⟩ = some (.int .i64 floor) := (by rw [cell_of_block hSw]; rfl)); (have s2 : W0.cell? ⟨S, 2, none⟩ = some (.map (some bb)) := (by rw [cell_of_block hSw]; rfl)); (have s4 : W0.cell? ⟨S, 4, none⟩ = some (.slice (some ⟨g, o, none⟩) k k) := (by rw [cell_of_block hSw]; rfl)); go_simp); (try simp only [Act.put, List.setIfInBounds_toArray, List.set_cons_zero, List.set_cons_succ]))
  refine wpAnyH_ready (rs := [11]) (by kernel_rfl) (by simp) ?_
  refine AllReadyH.cons rfl (fun K hK => ?_) AllReadyH.nil
  go_simp
  refine hK.out _ _ (HS.out.box) (fun hHeld => ?_)
  clear hK K
  (try simp only [Act.put, List.setIfInBounds_toArray, List.set_cons_zero, List.set_cons_succ])
  refine wpAnyH_done (by kernel_rfl) ?_ _
  (try dsimp only [Act.put, List.getElem_toArray, List.getElem_cons_succ, List.getElem_cons_zero, List.setIfInBounds_toArray, List.set_cons_zero, List.set_cons_succ])
  clear hHeld
  go_wp2_with fail
  refine wp_region_held_drew (S := fun Y => Y.heap[S]? = some (.cells #[.int .i64 rev, .int .i64 floor, .map (some bb), .map (some bn), (.slice (some ⟨g, o, none⟩) k k)] 57)) (by kernel_rfl) HS.out.box (fun hHeld => ?_)
  (refine wpAnyH_take (i := 0) (v := ?_) rfl (by kernel_rfl) (by kernel_rfl) (by kernel_rfl) (fun _ _ _ h => h) (Or.inl ⟨by kernel_rfl, ?_⟩) (by assumption) ?_; rotate_left 1; (intro W0 hSw; (have s1 : W0.cell? ⟨S, 1, none⟩ = some (.int .i64 floor) := (by rw [cell_of_block hSw]; rfl)); (have s2 : W0.cell? ⟨S, 2, none⟩ = some (.map (some bb)) := (by rw [cell_of_block hSw]; rfl)); (have s4 : W0.cell? ⟨S, 4, none⟩ = some (.slice (some ⟨g, o, none⟩) k k) := (by rw [cell_of_block hSw]; rfl)); go_simp; (try with_reducible rfl)); (try simp only [Act.put, List.setIfInBounds_toArray, List.set_cons_zero, List.set_cons_succ]))
  (refine wpAnyH_take (i := 1) (v := ?_) rfl (by kernel_rfl) (by kernel_rfl) (by kernel_rfl) (fun _ _ _ h => h) (Or.inl ⟨by kernel_rfl, ?_⟩) (by assumption) ?_; rotate_left 1; (intro W0 hSw; (have s1 : W0.cell? ⟨S, 1, none⟩ = some (.int .i64 floor) := (by rw [cell_of_block hSw]; rfl)); (have s2 : W0.cell? ⟨S, 2, none⟩ = some (.map (some bb)) := (by rw [cell_of_block hSw]; rfl)); (have s4 : W0.cell? ⟨S, 4, none⟩ = some (.slice (some ⟨g, o, none⟩) k k) := (by rw [cell_of_block hSw]; rfl)); go_simp; (try with_reducible rfl)); (try simp only [Act.put, List.setIfInBounds_toArray, List.set_cons_zero, List.set_cons_succ]))
  (refine wpAnyH_take (i := 2) (v := ?_) rfl (by kernel_rfl) (by kernel_rfl) (by kernel_rfl) (fun _ _ _ h => h) (Or.inl ⟨by kernel_rfl, ?_⟩) (by assumption) ?_; rotate_left 1; (intro W0 hSw; (have s1 : W0.cell? ⟨S, 1, none⟩ = some (.int .i64 floor) := (by rw [cell_of_block hSw]; rfl)); (have s2 : W0.cell? ⟨S, 2, none⟩ = some (.map (some bb)) := (by rw [cell_of_block hSw]; rfl)); (have s4 : W0.cell? ⟨S, 4, none⟩ = some (.slice (some ⟨g, o, none⟩) k k) := (by rw [cell_of_block hSw]; rfl)); go_simp; (try with_reducible rfl)); (try simp only [Act.put, List.setIfInBounds_toArray, List.set_cons_zero, List.set_cons_succ]))
  (refine wpAnyH_take (i := 3) (v := ?_) rfl (by kernel_rfl) (by kernel_rfl) (by kernel_rfl) (fun _ _ _ h => h) (Or.inl ⟨by kernel_rfl, ?_⟩) (by assumption) ?_; rotate_left 1; (intro W0 hSw; (have s1 : W0.cell? ⟨S, 1, none⟩ = some (.int .i64 floor) := (by rw [cell_of_block hSw]; rfl)); (have s2 : W0.cell? ⟨S, 2, none⟩ = some (.map (some bb)) := (by rw [cell_of_block hSw]; rfl)); (have s4 : W0.cell? ⟨S, 4, none⟩ = some (.slice (some ⟨g, o, none⟩) k k) := (by rw [cell_of_block hSw]; rfl)); go_simp; (try with_reducible rfl)); (try simp only [Act.put, List.setIfInBounds_toArray, List.set_cons_zero, List.set_cons_succ]))
  (refine wpAnyH_take (i := 4) (v := ?_) rfl (by kernel_rfl) (by kernel_rfl) (by kernel_rfl) (fun _ _ _ h => h) (Or.inl ⟨by kernel_rfl, ?_⟩) (by assumption) ?_; rotate_left 1; (intro W0 hSw; (have s1 : W0.cell? ⟨S, 1, none⟩ = some (.int .i64 floor) := (by rw [cell_of_block hSw]; rfl)); (have s2 : W0.cell? ⟨S, 2, none⟩ = some (.map (some bb)) := (by rw [cell_of_block hSw]; rfl)); (have s4 : W0.cell? ⟨S, 4, none⟩ = some (.slice (some ⟨g, o, none⟩) k k) := (by rw [cell_of_block hSw]; rfl)); go_simp; (try with_reducible rfl)); (try simp only [Act.put, List.setIfInBounds_toArray, List.set_cons_zero, List.set_cons_succ]))
  (refine wpAnyH_take (i := 5) (v := ?_) rfl (by kernel_rfl) (by kernel_rfl) (by kernel_rfl) (fun _ _ _ h => h) (Or.inl ⟨by kernel_rfl, ?_⟩) (by assumption) ?_; rotate_left 1; (intro W0 hSw; (have s1 : W0.cell? ⟨S, 1, none⟩ = some (.int .i64 floor) := (by rw [cell_of_block hSw]; rfl)); (have s2 : W0.cell? ⟨S, 2, none⟩ = some (.map (some bb)) := (by rw [cell_of_block hSw]; rfl)); (have s4 : W0.cell? ⟨S, 4, none⟩ = some (.slice (some ⟨g, o, none⟩) k k) := (by rw [cell_of_block hSw]; rfl)); go_simp; (try with_reducible rfl)); (try simp only [Act.put, List.setIfInBounds_toArray, List.set_cons_zero, List.set_cons_succ]))
  (refine wpAnyH_take (i := 6) (v := ?_) rfl (by kernel_rfl) (by kernel_rfl) (by kernel_rfl) (fun _ _ _ h => h) (Or.inl ⟨by kernel_rfl, ?_⟩) (by assumption) ?_; rotate_left 1; (intro W0 hSw; (have s1 : W0.cell? ⟨S, 1, none⟩ = some (.int .i64 floor) := (by rw [cell_of_block hSw]; rfl)); (have s2 : W0.cell? ⟨S, 2, none⟩ = some (.map (some bb)) := (by rw [cell_of_block hSw]; rfl)); (have s4 : W0.cell? ⟨S, 4, none⟩ = some (.slice (some ⟨g, o, none⟩) k k) := (by rw [cell_of_block hSw]; rfl)); go_simp; (try with_reducible rfl)); (try simp only [Act.put, List.setIfInBounds_toArray, List.set_cons_zero, List.set_cons_succ]))
  (refine wpAnyH_take (i := 7) (v := ?_) rfl (by kernel_rfl) (by kernel_rfl) (by kernel_rfl) (fun _ _ _ h => h) (Or.inl ⟨by kernel_rfl, ?_⟩) (by assumption) ?_; rotate_left 1; (intro W0 hSw; (have s1 : W0.cell? ⟨S, 1, none⟩ = some (.int .i64 floor) := (by rw [cell_of_block hSw]; rfl)); (have s2 : W0.cell? ⟨S, 2, none⟩ = some (.map (some bb)) := (by rw [cell_of_block hSw]; rfl)); (have s4 : W0.cell? ⟨S, 4, none⟩ = some (.slice (some ⟨g, o, none⟩) k k) := (by rw [cell_of_block hSw]; rfl)); go_simp; (try with_reducible rfl)); (try simp only [Act.put, List.setIfInBounds_toArray, List.set_cons_zero, List.set_cons_succ]))
  (refine wpAnyH_take (i := 8) (v := ?_) rfl (by kernel_rfl) (by kernel_rfl) (by kernel_rfl) (fun _ _ _ h => h) (Or.inl ⟨by kernel_rfl, ?_⟩) (by assumption) ?_; rotate_left 1; (intro W0 hSw; (have s1 : W0.cell? ⟨S, 1, none⟩ = some (.int .i64 floor) := (by rw [cell_of_block hSw]; rfl)); (have s2 : W0.cell? ⟨S, 2, none⟩ = some (.map (some bb)) := (by rw [cell_of_block hSw]; rfl)); (have s4 : W0.cell? ⟨S, 4, none⟩ = some (.slice (some ⟨g, o, none⟩) k k) := (by rw [cell_of_block hSw]; rfl)); go_simp; (try with_reducible rfl)); (try simp only [Act.put, List.setIfInBounds_toArray, List.set_cons_zero, List.set_cons_succ]))
  refine wpAnyH_ready (rs := [9]) (by kernel_rfl) (by simp) ?_
  refine AllReadyH.cons rfl (fun K hK => ?_) AllReadyH.nil
  go_simp
  refine CF.out.mono ?_
  clear CF
  rintro e W5 ⟨rfl, n5', g5⟩
  have hz5 := g5.size
  have hSlt := lt_of_block HS.out.box
  have hnS : S ≠ bb := fun q => map_ne HS.out.base HS.out.box q.symm
  have hnS2 : S ≠ bn := fun q => map_ne HS.out.now HS.out.box q.symm
  have hbS := (g5.block S hSlt (fun e => hnS (Option.some.inj e))).trans HS.out.box
  have hG5 : W5.heap[g]? = W.heap[g]? := g5.block g n5 (fun e => n2 (Option.some.inj e))
  have hbn : W5.ownsMap Try.prog 9 oR bn n DN := map_keep HS.out.now (g5.block bn HS.out.now.lt (fun e => HS.out.ne (Option.some.inj e).symm))
  have hB5 : Fr F w0 W5 := Fr.grown (w := W.drew.drew) ⟨HS.out.bel.os, HS.out.bel.tape, HS.out.bel.output, HS.out.bel.size, HS.out.bel.block, HS.out.bel.lt⟩ g5 HS.out.b1
  refine hK.out _ _ (hbS) (fun hHeld => ?_)
  clear hK K
  (try simp only [Act.put, List.setIfInBounds_toArray, List.set_cons_zero, List.set_cons_succ])
  refine wpAnyH_done (by kernel_rfl) ?_ _
  (try dsimp only [Act.put, List.getElem_toArray, List.getElem_cons_succ, List.getElem_cons_zero, List.setIfInBounds_toArray, List.set_cons_zero, List.set_cons_succ])
  clear hHeld
  have BS := hmk hbS
  have N5 := hmk n5'
  have BN := hmk hbn
  have B5 := hmk hB5
  have HG := hmk hG5
  have hs0 := HS.out.s
  have hb1 := HS.out.b1
  have hb2 := HS.out.b2
  have hne := HS.out.ne
  have C4 : W5.cell? ⟨S, 4, none⟩ = some (.slice (some ⟨g, o, none⟩) k k) := by rw [cell_of_block hbS]; rfl
  have C1 : W5.cell? ⟨S, 1, none⟩ = some (.int .i64 floor) := by rw [cell_of_block hbS]; rfl
  have F5 : ∀ i, W5.frozen? ⟨S, i, none⟩ = false := frozen_of_block hbS
  clear hbS n5' hbn hB5 hG5 hc1 hc4 HS g5
  have hmax : maxLen = 9223372036854775807 := rfl
  go_wp2_with fail
  have hS6 := set_block BS.out 4 (.slice (some ⟨g, o, none⟩) 0 0)
  have hS7 := set_block hS6 1 (.int .i64 (floor + (k : Int)))
  have k7 : ∀ y, y ≠ S → ((W5.setCell ⟨S, 4, none⟩ (.slice (some ⟨g, o, none⟩) 0 0)).setCell ⟨S, 1, none⟩ (.int .i64 (floor + (k : Int)))).heap[y]? = W5.heap[y]? := fun y hy => (set_other hy).trans (set_other hy)
  have hB7 : Fr F w0 ((W5.setCell ⟨S, 4, none⟩ (.slice (some ⟨g, o, none⟩) 0 0)).setCell ⟨S, 1, none⟩ (.int .i64 (floor + (k : Int)))) := (B5.out.grown (grown_set1 W5 S 4 _) hs0).grown (grown_set1 _ S 1 _) hs0
  have hG7 : Blk g 60 sz ((W5.setCell ⟨S, 4, none⟩ (.slice (some ⟨g, o, none⟩) 0 0)).setCell ⟨S, 1, none⟩ (.int .i64 (floor + (k : Int)))) := P4.out.keep ((k7 g n1).trans HG.out)
  have hP7 : ∀ j u, (evs l)[j]? = some u → ((W5.setCell ⟨S, 4, none⟩ (.slice (some ⟨g, o, none⟩) 0 0)).setCell ⟨S, 1, none⟩ (.int .i64 (floor + (k : Int)))).cell? ⟨g, o + j, none⟩ = some u := fun j u hj => (World.cell?_of_block (w := W) (a := ⟨g, o + j, none⟩) ((k7 g n1).trans HG.out)).trans (P6.out j u hj)
  have hbb7 := (map_keep N5.out (k7 bb (fun q => hnS q.symm)))
  have hbn7 := (map_keep BN.out (k7 bn (fun q => hnS2 q.symm))).mono (show n ≤ n + k by omega)
  clear k7 C4 C1 F5
  generalize ((W5.setCell ⟨S, 4, none⟩ (.slice (some ⟨g, o, none⟩) 0 0)).setCell ⟨S, 1, none⟩ (.int .i64 (floor + (k : Int)))) = W7 at *
  rw [run_clear_evs W7 _ g o k k hk0 (fun j hj => by obtain ⟨v, e⟩ := hG7.cell (o + j) (by omega); rw [e]; rfl) (fun j hj => hG7.frozen _)]
  have h8 : Hid (Sto F w0 (W7.setCells g o (zs k)) S rev (floor + (k : Int)) bb bn (n + k) (fol D floor (l.take k)) DN (.slice (some ⟨g, o, none⟩) 0 0) []) := by
    have g8 := grown_setCells g (zs k) o W7
    have k8 : ∀ y, y < W7.heap.size → y ≠ g → (W7.setCells g o (zs k)).heap[y]? = W7.heap[y]? := fun y hy hn => g8.block y hy (fun e => hn (Option.some.inj e))
    refine ⟨hB7.grown g8 n4, (k8 S (lt_of_block hS7) (fun q => n1 q.symm)).trans hS7, map_keep hbb7 (k8 bb hbb7.lt (fun q => n2 q.symm)), map_keep hbn7 (k8 bn hbn7.lt (fun q => n3 q.symm)), ⟨.inr ?_⟩, hs0, hb1, hb2, hne, ?_⟩
    · exact ⟨g, o, 0, sz, rfl, by simp, by omega, n4, blk_setCells _ _ hG7, by omega, fun j u hj => by simp [evs] at hj⟩
    · intro e he
      cases he
  clear hP7 hbb7 hbn7 hB7 hG7 hS6 hS7
  go_simp
  go_wp2_with fail
  refine bodyPost_end (v := .tuple #[]) (results_none rfl _ _ _) rfl ?_
  exact ⟨rfl, h8.out⟩
theorem forget_many (F : Nat → Prop) (w0 W : World) (S : Nat) (rev floor : Int) (bb bn n : Nat) (D DN : DataW Unit) (pv : Value) (l : List Evt) (k : Nat) (h : Sto F w0 W S rev floor bb bn n D DN pv l) (hk0 : 0 < k) (hkl : k ≤ l.length) (hll : l.length < 400000) (hn : n < 500000) (hr : 0 ≤ floor ∧ floor + (k : Int) ≤ 9007199254740991) :
    Calls Try.prog 18 #[.pointer (some ⟨S, 0, none⟩), .int .i64 (floor + (k : Int))] W fun e W' => e = .returned (.tuple #[]) ∧ ∃ pv', Sto F w0 W' S rev (floor + (k : Int)) bb bn (n + k) (fol D floor (l.take k)) DN pv' (l.drop k) := by
  rcases h.past.p with ⟨q, _⟩ | ⟨g, o, c, sz, rfl, p1, p2, p3, p4, p5, p6⟩
  · rw [q] at hkl; simp at hkl; omega
  · by_cases hc : k < c
    · refine (forget_part F w0 W S rev floor bb bn n D DN l g o c k h hc hk0 hkl hll p1 p2 hn hr sz p4 p5 p6).mono ?_
      rintro e W' ⟨rfl, hS⟩
      exact ⟨rfl, _, hS⟩
    · obtain rfl : c = k := by omega
      have hlk : l.length = c := by omega
      have hd : l.drop c = [] := List.drop_eq_nil_of_le (by omega)
      rw [hlk] at h
      rw [hd]
      refine (forget_all F w0 W S rev floor bb bn n D DN l g o c h hlk hk0 (Nat.le_refl _) (by omega) (Nat.le_refl _) p2 hn hr sz p4 p5 p6).mono ?_
      rintro e W' ⟨rfl, hS⟩
      exact ⟨rfl, _, hS⟩
set_option maxHeartbeats 4000000 in
set_option maxRecDepth 100000 in
theorem compact_many (F : Nat → Prop) (w0 W : World) (S : Nat) (rev floor : Int) (bb bn n : Nat) (D DN : DataW Unit) (pv : Value) (l : List Evt) (k : Nat) (h : Sto F w0 W S rev floor bb bn n D DN pv l) (hk0 : 0 < k) (hkl : k ≤ l.length) (hll : l.length < 400000) (hn : n < 500000) (hr : 0 ≤ floor ∧ floor + (k : Int) ≤ 9007199254740991) (hrev : floor + (k : Int) ≤ rev) :
    Calls Try.prog 7 #[.pointer (some ⟨S, 0, none⟩), .int .i64 (floor + (k : Int))] W fun e W' => e = .returned (.int .i64 0) ∧ ∃ pv', Sto F w0 W' S rev (floor + (k : Int)) bb bn (n + k) (fol D floor (l.take k)) DN pv' (l.drop k) := by
  have c0 : W.cell? ⟨S, 0, none⟩ = some (.int .i64 rev) := by rw [cell_of_block h.box]; rfl
  have c1 : W.cell? ⟨S, 1, none⟩ = some (.int .i64 floor) := by rw [cell_of_block h.box]; rfl
  have y1 : ¬ floor + (k : Int) < 0 := by omega
  have y2 : ¬ rev < floor + (k : Int) := by omega
  have y3 : floor < floor + (k : Int) := by omega
  have C1 := hmk (forget_many F w0 W S rev floor bb bn n D DN pv l k h hk0 hkl hll hn hr)
  clear h
  go_enter Try.func7, Try.ntmps7
  go_wp2_with fail
  refine C1.out.mono ?_
  rintro e W2 ⟨rfl, pv', hS⟩
  have HS := hmk hS
  clear hS C1
  go_wp2_with fail
  go_ret
  exact ⟨rfl, pv', HS.out⟩
set_option maxHeartbeats 4000000 in
theorem compact_same (S : Nat) (rev floor : Int) (mb mn pv : Value) (w : World) (h : w.heap[S]? = some (.cells #[.int .i64 rev, .int .i64 floor, mb, mn, pv] 57)) (h1 : 0 ≤ floor) (h2 : floor ≤ rev) :
    Calls Try.prog 7 #[.pointer (some ⟨S, 0, none⟩), .int .i64 floor] w fun e w' => e = .returned (.int .i64 0) ∧ w' = w := by
  have c0 : w.cell? ⟨S, 0, none⟩ = some (.int .i64 rev) := by rw [cell_of_block h]; rfl
  have c1 : w.cell? ⟨S, 1, none⟩ = some (.int .i64 floor) := by rw [cell_of_block h]; rfl
  have y1 : ¬ floor < 0 := by omega
  have y2 : ¬ rev < floor := by omega
  clear h
  go_enter Try.func7, Try.ntmps7
  go_wp2_with fail
  go_ret
  exact ⟨rfl, rfl⟩
set_option maxHeartbeats 4000000 in
theorem compact_future (S : Nat) (rev floor r : Int) (mb mn pv : Value) (w : World) (h : w.heap[S]? = some (.cells #[.int .i64 rev, .int .i64 floor, mb, mn, pv] 57)) (h1 : 0 ≤ r) (h2 : rev < r) :
    Calls Try.prog 7 #[.pointer (some ⟨S, 0, none⟩), .int .i64 r] w fun e w' => e = .returned (.int .i64 196) ∧ w' = w := by
  have c0 : w.cell? ⟨S, 0, none⟩ = some (.int .i64 rev) := by rw [cell_of_block h]; rfl
  have c1 : w.cell? ⟨S, 1, none⟩ = some (.int .i64 floor) := by rw [cell_of_block h]; rfl
  have y1 : ¬ r < 0 := by omega
  clear h
  go_enter Try.func7, Try.ntmps7
  go_wp2_with fail
  go_ret
  exact ⟨rfl, rfl⟩
end Go.Proofs.Ytpbejbpimcidjaa
