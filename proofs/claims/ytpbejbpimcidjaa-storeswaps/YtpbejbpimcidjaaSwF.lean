/- maps.Clone, asOf. -/
import Derived.Test.YtpbejbpimcidjaaSwE
import Derived.Shelf.SlMaps.Clone
set_option linter.unusedSimpArgs false
set_option linter.unusedVariables false
namespace Go.Proofs.Ytpbejbpimcidjaa
open Go Go.Lib Go.RowKit Go.Maps

set_option maxHeartbeats 4000000 in
set_option maxRecDepth 100000 in
theorem clone_map (b n : Nat) (D : DataW Unit) (w : World) (hown : w.ownsMap Try.prog 9 oR b n D) :
    Calls Try.prog 37 #[.map (some b)] w fun e w' => e = .returned (.map (some w.heap.size)) ∧ w'.ownsMap Try.prog 9 oR w.heap.size n D ∧ Below w.heap.size w w' := by
  obtain ⟨es, clock, hb, F, hs, hD⟩ := hown
  have hq := fun w => run_eql_map_nil_sl (P := Try.prog) w 54 _ _ (some b) Try.underlying54
  have hfin : Hid (∀ w', w' = w.alloc (.map es clock) → w'.ownsMap Try.prog 9 oR w.heap.size n D ∧ Below w.heap.size w w') := fun w' e => by
    subst e
    exact ⟨⟨es, clock, (MapKept.heap_alloc w _).1, F, hs, hD⟩, one_belowG _ _⟩
  go_enter Try.func37, Try.ntmps37
  go_wp2_with fail
  rw [run_callFunc_extern Try.func40 (by kernel_rfl) (by kernel_rfl) (by kernel_rfl) (e := Extern.MapsClone.clone) (by kernel_rfl), run_maps_clone_sl w 54 hb]
  simp only [Result.andThen]
  rw [Oper.upon_value]
  go_wp2_with fail
  rw [run_typeAssert_map_sl _ 54 20 _ _ _ Try.underlying54]
  simp only [Result.andThen]
  rw [Oper.upon_value]
  go_wp2_with fail
  go_ret
  exact ⟨rfl, hfin.out _ rfl⟩
set_option maxHeartbeats 8000000 in
set_option maxRecDepth 100000 in
theorem asof_gen (W : World) (S : Nat) (rev floor : Int) (bb n : Nat) (D D' : DataW Unit) (mn : Value) (g o L c k : Nat) (hbox : W.heap[S]? = some (.cells #[.int .i64 rev, .int .i64 floor, .map (some bb), mn, (.slice (some ⟨g, o, none⟩) L c)] 57)) (hm : W.ownsMap Try.prog 9 oR bb n D) (hr : ¬ floor + (k : Int) = rev) (hk : k ≤ L) (hLc : L ≤ c) (hL : L < 400000) (hcm : c ≤ maxLen)
    (hfo : ∀ W1, Below W.heap.size W W1 → W1.ownsMap Try.prog 9 oR W.heap.size n D → Calls Try.prog 32 #[.map (some W.heap.size), .int .i64 floor, .slice (some ⟨g, o, none⟩) k c] W1 (FoPost W.heap.size (n + k) D' W1)) :
    Calls Try.prog 34 #[.pointer (some ⟨S, 0, none⟩), .int .i64 (floor + (k : Int))] W fun e W' => (∃ v m, e = .returned v ∧ MpV W' v m D') ∧ Below W.heap.size W W' := by
  have c0 : W.cell? ⟨S, 0, none⟩ = some (.int .i64 rev) := by rw [cell_of_block hbox]; rfl
  have c2 : W.cell? ⟨S, 2, none⟩ = some (.map (some bb)) := by rw [cell_of_block hbox]; rfl
  have hSl := lt_of_block hbox
  have hsub : floor + (k : Int) - floor = (k : Int) := by omega
  have hwk : IntKind.i64.wrap (k : Int) = (k : Int) := wrap_small _ (by omega) (by omega)
  have c1 : (k : Int) ≤ (c : Int) := by omega
  have y' : (floor + (k : Int) == rev) = false := by rw [beq_eq_false_iff_ne]; exact hr
  have C1 := hmk (clone_map bb n D W hm)
  have HB := hmk hbox
  have HF := hmk hfo
  clear hbox hm hfo
  go_enter Try.func34, Try.ntmps34
  go_wp2_with fail
  refine C1.out.mono ?_
  rintro e W1 ⟨rfl, m1, b1⟩
  clear C1
  have hb1 := (b1.block S hSl).trans HB.out
  have CF := hmk (HF.out W1.drew b1.drew m1)
  have B1 := hmk b1
  have HB1 := hmk hb1
  clear HF b1 hb1 c0 c2
  go_wp2_with fail
  refine wp_region_held_drew (S := fun Y => Y.heap[S]? = some (.cells #[.int .i64 rev, .int .i64 floor, .map (some bb), mn, (.slice (some ⟨g, o, none⟩) L c)] 57)) (by kernel_rfl) HB1.out (fun hHeld => ?_)
  (refine wpAnyH_take (i := 0) (v := ?_) rfl (by kernel_rfl) (by kernel_rfl) (by kernel_rfl) (fun _ _ _ h => h) (Or.inl ⟨by kernel_rfl, ?_⟩) (by assumption) ?_; rotate_left 1; (intro W0 hSw; (have s1 : W0.cell? ⟨S, 1, none⟩ = some (.int .i64 floor) := (by rw [cell_of_block hSw]; rfl)); (have s4 : W0.cell? ⟨S, 4, none⟩ = some (.slice (some ⟨g, o, none⟩) L c) := (by rw [cell_of_block hSw]; rfl)); go_simp; (try with_reducible rfl)); (try simp only [Act.put, List.setIfInBounds_toArray, List.set_cons_zero, List.set_cons_succ]))
  (refine wpAnyH_take (i := 1) (v := ?_) rfl (by kernel_rfl) (by kernel_rfl) (by kernel_rfl) (fun _ _ _ h => h) (Or.inl ⟨by kernel_rfl, ?_⟩) (by assumption) ?_; rotate_left 1; (intro W0 hSw; (have s1 : W0.cell? ⟨S, 1, none⟩ = some (.int .i64 floor) := (by rw [cell_of_block hSw]; rfl)); (have s4 : W0.cell? ⟨S, 4, none⟩ = some (.slice (some ⟨g, o, none⟩) L c) := (by rw [cell_of_block hSw]; rfl)); go_simp; (try with_reducible rfl)); (try simp only [Act.put, List.setIfInBounds_toArray, List.set_cons_zero, List.set_cons_succ]))
  (refine wpAnyH_take (i := 2) (v := ?_) rfl (by kernel_rfl) (by kernel_rfl) (by kernel_rfl) (fun _ _ _ h => h) (Or.inl ⟨by kernel_rfl, ?_⟩) (by assumption) ?_; rotate_left 1; (intro W0 hSw; (have s1 : W0.cell? ⟨S, 1, none⟩ = some (.int .i64 floor) := (by rw [cell_of_block hSw]; rfl)); (have s4 : W0.cell? ⟨S, 4, none⟩ = some (.slice (some ⟨g, o, none⟩) L c) := (by rw [cell_of_block hSw]; rfl)); go_simp; (try with_reducible rfl)); (try simp only [Act.put, List.setIfInBounds_toArray, List.set_cons_zero, List.set_cons_succ]))
  (refine wpAnyH_take (i := 3) (v := ?_) rfl (by kernel_rfl) (by kernel_rfl) (by kernel_rfl) (fun _ _ _ h => h) (Or.inl ⟨by kernel_rfl, ?_⟩) (by assumption) ?_; rotate_left 1; (intro W0 hSw; (have s1 : W0.cell? ⟨S, 1, none⟩ = some (.int .i64 floor) := (by rw [cell_of_block hSw]; rfl)); (have s4 : W0.cell? ⟨S, 4, none⟩ = some (.slice (some ⟨g, o, none⟩) L c) := (by rw [cell_of_block hSw]; rfl)); go_simp; (try with_reducible rfl)); (try simp only [Act.put, List.setIfInBounds_toArray, List.set_cons_zero, List.set_cons_succ]))
  (refine wpAnyH_take (i := 4) (v := ?_) rfl (by kernel_rfl) (by kernel_rfl) (by kernel_rfl) (fun _ _ _ h => h) (Or.inl ⟨by kernel_rfl, ?_⟩) (by assumption) ?_; rotate_left 1; (intro W0 hSw; (have s1 : W0.cell? ⟨S, 1, none⟩ = some (.int .i64 floor) := (by rw [cell_of_block hSw]; rfl)); (have s4 : W0.cell? ⟨S, 4, none⟩ = some (.slice (some ⟨g, o, none⟩) L c) := (by rw [cell_of_block hSw]; rfl)); go_simp; (try with_reducible rfl)); (try simp only [Act.put, List.setIfInBounds_toArray, List.set_cons_zero, List.set_cons_succ]))
  (refine wpAnyH_take (i := 5) (v := ?_) rfl (by kernel_rfl) (by kernel_rfl) (by kernel_rfl) (fun _ _ _ h => h) (Or.inl ⟨by kernel_rfl, ?_⟩) (by assumption) ?_; rotate_left 1; (intro W0 hSw; (have s1 : W0.cell? ⟨S, 1, none⟩ = some (.int .i64 floor) := (by rw [cell_of_block hSw]; rfl)); (have s4 : W0.cell? ⟨S, 4, none⟩ = some (.slice (some ⟨g, o, none⟩) L c) := (by rw [cell_of_block hSw]; rfl)); go_simp; (try with_reducible rfl)); (try simp only [Act.put, List.setIfInBounds_toArray, List.set_cons_zero, List.set_cons_succ]))
  (refine wpAnyH_take (i := 6) (v := ?_) rfl (by kernel_rfl) (by kernel_rfl) (by kernel_rfl) (fun _ _ _ h => h) (Or.inl ⟨by kernel_rfl, ?_⟩) (by assumption) ?_; rotate_left 1; (intro W0 hSw; (have s1 : W0.cell? ⟨S, 1, none⟩ = some (.int .i64 floor) := (by rw [cell_of_block hSw]; rfl)); (have s4 : W0.cell? ⟨S, 4, none⟩ = some (.slice (some ⟨g, o, none⟩) L c) := (by rw [cell_of_block hSw]; rfl)); go_simp; (try with_reducible rfl)); (try simp only [Act.put, List.setIfInBounds_toArray, List.set_cons_zero, List.set_cons_succ]))
  (refine wpAnyH_take (i := 7) (v := ?_) rfl (by kernel_rfl) (by kernel_rfl) (by kernel_rfl) (fun _ _ _ h => h) (Or.inl ⟨by kernel_rfl, ?_⟩) (by assumption) ?_; rotate_left 1; (intro W0 hSw; (have s1 : W0.cell? ⟨S, 1, none⟩ = some (.int .i64 floor) := (by rw [cell_of_block hSw]; rfl)); (have s4 : W0.cell? ⟨S, 4, none⟩ = some (.slice (some ⟨g, o, none⟩) L c) := (by rw [cell_of_block hSw]; rfl)); go_simp; (try with_reducible rfl)); (try simp only [Act.put, List.setIfInBounds_toArray, List.set_cons_zero, List.set_cons_succ]))
  (refine wpAnyH_take (i := 8) (v := ?_) rfl (by kernel_rfl) (by kernel_rfl) (by kernel_rfl) (fun _ _ _ h => h) (Or.inl ⟨by kernel_rfl, ?_⟩) (by assumption) ?_; rotate_left 1; (intro W0 hSw; (have s1 : W0.cell? ⟨S, 1, none⟩ = some (.int .i64 floor) := (by rw [cell_of_block hSw]; rfl)); (have s4 : W0.cell? ⟨S, 4, none⟩ = some (.slice (some ⟨g, o, none⟩) L c) := (by rw [cell_of_block hSw]; rfl)); go_simp; (try with_reducible rfl)); (try simp only [Act.put, List.setIfInBounds_toArray, List.set_cons_zero, List.set_cons_succ]))
  (refine wpAnyH_take (i := 9) (v := ?_) rfl (by kernel_rfl) (by kernel_rfl) (by kernel_rfl) (fun _ _ _ h => h) (Or.inl ⟨by kernel_rfl, ?_⟩) (by assumption) ?_; rotate_left 1; (intro W0 hSw; (have s1 : W0.cell? ⟨S, 1, none⟩ = some (.int .i64 floor) := (by rw [cell_of_block hSw]; rfl)); (have s4 : W0.cell? ⟨S, 4, none⟩ = some (.slice (some ⟨g, o, none⟩) L c) := (by rw [cell_of_block hSw]; rfl)); go_simp; (try with_reducible rfl)); (try simp only [Act.put, List.setIfInBounds_toArray, List.set_cons_zero, List.set_cons_succ]))
  (refine wpAnyH_take (i := 10) (v := ?_) rfl (by kernel_rfl) (by kernel_rfl) (by kernel_rfl) (fun _ _ _ h => h) (Or.inl ⟨by kernel_rfl, ?_⟩) (by assumption) ?_; rotate_left 1; (intro W0 hSw; (have s1 : W0.cell? ⟨S, 1, none⟩ = some (.int .i64 floor) := (by rw [cell_of_block hSw]; rfl)); (have s4 : W0.cell? ⟨S, 4, none⟩ = some (.slice (some ⟨g, o, none⟩) L c) := (by rw [cell_of_block hSw]; rfl)); go_simp; (try with_reducible rfl)); (try simp only [Act.put, List.setIfInBounds_toArray, List.set_cons_zero, List.set_cons_succ]))
  (refine wpAnyH_take (i := 11) (v := ?_) rfl (by kernel_rfl) (by kernel_rfl) (by kernel_rfl) (fun _ _ _ h => h) (Or.inl ⟨by kernel_rfl, ?_⟩) (by assumption) ?_; rotate_left 1; (intro W0 hSw; (have s1 : W0.cell? ⟨S, 1, none⟩ = some (.int .i64 floor) := (by rw [cell_of_block hSw]; rfl)); (have s4 : W0.cell? ⟨S, 4, none⟩ = some (.slice (some ⟨g, o, none⟩) L c) := (by rw [cell_of_block hSw]; rfl)); go_simp; (try with_reducible rfl)); (try simp only [Act.put, List.setIfInBounds_toArray, List.set_cons_zero, List.set_cons_succ]))
  (refine wpAnyH_take (i := 12) (v := ?_) rfl (by kernel_rfl) (by kernel_rfl) (by kernel_rfl) (fun _ _ _ h => h) (Or.inl ⟨by kernel_rfl, ?_⟩) (by assumption) ?_; rotate_left 1; (intro W0 hSw; (have s1 : W0.cell? ⟨S, 1, none⟩ = some (.int .i64 floor) := (by rw [cell_of_block hSw]; rfl)); (have s4 : W0.cell? ⟨S, 4, none⟩ = some (.slice (some ⟨g, o, none⟩) L c) := (by rw [cell_of_block hSw]; rfl)); go_simp; (try with_reducible rfl)); (try simp only [Act.put, List.setIfInBounds_toArray, List.set_cons_zero, List.set_cons_succ]))
  (refine wpAnyH_take (i := 13) (v := ?_) rfl (by kernel_rfl) (by kernel_rfl) (by kernel_rfl) (fun _ _ _ h => h) (Or.inl ⟨by kernel_rfl, ?_⟩) (by assumption) ?_; rotate_left 1; (intro W0 hSw; (have s1 : W0.cell? ⟨S, 1, none⟩ = some (.int .i64 floor) := (by rw [cell_of_block hSw]; rfl)); (have s4 : W0.cell? ⟨S, 4, none⟩ = some (.slice (some ⟨g, o, none⟩) L c) := (by rw [cell_of_block hSw]; rfl)); go_simp; (try with_reducible rfl)); (try simp only [Act.put, List.setIfInBounds_toArray, List.set_cons_zero, List.set_cons_succ]))
  (refine wpAnyH_take (i := 14) (v := ?_) rfl (by kernel_rfl) (by kernel_rfl) (by kernel_rfl) (fun _ _ _ h => h) (Or.inl ⟨by kernel_rfl, ?_⟩) (by assumption) ?_; rotate_left 1; (intro W0 hSw; (have s1 : W0.cell? ⟨S, 1, none⟩ = some (.int .i64 floor) := (by rw [cell_of_block hSw]; rfl)); (have s4 : W0.cell? ⟨S, 4, none⟩ = some (.slice (some ⟨g, o, none⟩) L c) := (by rw [cell_of_block hSw]; rfl)); go_simp; (try with_reducible rfl)); (try simp only [Act.put, List.setIfInBounds_toArray, List.set_cons_zero, List.set_cons_succ]))
  (refine wpAnyH_take (i := 15) (v := .slice (some ⟨g, o, none⟩) k c) rfl (by kernel_rfl) (by kernel_rfl) (by kernel_rfl) (fun _ _ _ h => h) (Or.inl ⟨by kernel_rfl, ?_⟩) (by assumption) ?_; (intro W0 hSw; (have s1 : W0.cell? ⟨S, 1, none⟩ = some (.int .i64 floor) := (by rw [cell_of_block hSw]; rfl)); (have s4 : W0.cell? ⟨S, 4, none⟩ = some (.slice (some ⟨g, o, none⟩) L c) := (by rw [cell_of_block hSw]; rfl)); go_simp); (try simp only [Act.put, List.setIfInBounds_toArray, List.set_cons_zero, List.set_cons_succ]))
  refine wpAnyH_ready (rs := [16]) (by kernel_rfl) (by simp) ?_
  refine AllReadyH.cons rfl (fun K hK => ?_) AllReadyH.nil
  go_simp
  refine CF.out.mono ?_
  clear CF
  rintro e W5 ⟨rfl, m5, g5⟩
  have hne : S ≠ W.heap.size := by omega
  have hz1 := B1.out.size
  have hb5 := (g5.block S (lt_of_block HB1.out) (fun e => hne (Option.some.inj e))).trans HB1.out
  have hB5 : Below W.heap.size W W5 := ⟨g5.os.trans B1.out.os, g5.tape.trans B1.out.tape, g5.output.trans B1.out.output, Nat.le_trans B1.out.size g5.size, fun y hy => (g5.block y (Nat.lt_of_lt_of_le hy B1.out.size) (fun e => by have := Option.some.inj e; omega)).trans (B1.out.block y hy)⟩
  refine hK.out _ _ (hb5) (fun hHeld => ?_)
  clear hK K
  (try simp only [Act.put, List.setIfInBounds_toArray, List.set_cons_zero, List.set_cons_succ])
  refine wpAnyH_done (by kernel_rfl) ?_ _
  (try dsimp only [Act.put, List.getElem_toArray, List.getElem_cons_succ, List.getElem_cons_zero, List.setIfInBounds_toArray, List.set_cons_zero, List.set_cons_succ])
  clear hHeld
  have M5 := hmk m5
  have HB5 := hmk hB5
  clear m5 hB5 g5 hb5 HB1 HB
  go_wp2_with fail
  go_ret
  exact ⟨⟨_, _, rfl, .inr ⟨_, rfl, M5.out⟩⟩, HB5.out⟩
theorem asof_past (F : Nat → Prop) (w0 W : World) (S : Nat) (rev floor : Int) (bb bn n : Nat) (D DN : DataW Unit) (pv : Value) (l : List Evt) (k : Nat) (h : Sto F w0 W S rev floor bb bn n D DN pv l) (hkl : k < l.length) (hll : l.length < 400000) (hn : n < 500000) (hr : 0 ≤ floor ∧ floor + (l.length : Int) ≤ 9007199254740991) (hrev : ¬ floor + (k : Int) = rev) :
    Calls Try.prog 34 #[.pointer (some ⟨S, 0, none⟩), .int .i64 (floor + (k : Int))] W fun e W' => (∃ v m, e = .returned v ∧ MpV W' v m (fol D floor (l.take k))) ∧ Below W.heap.size W W' := by
  rcases h.past.p with ⟨q, _⟩ | ⟨g, o, c, sz, rfl, p1, p2, p3, p4, p5, p6⟩
  · rw [q] at hkl; simp at hkl
  · obtain ⟨n1, n2, n3, n4, n5⟩ := h.ng (g := g) (a := o) (m := l.length) (c := c) rfl
    refine asof_gen W S rev floor bb n D _ (.map (some bn)) g o l.length c k h.box h.base hrev (by omega) p1 (by omega) p2 (fun W1 b1 m1 => ?_)
    rcases Nat.eq_zero_or_pos k with rfl | hk0
    · refine (follow_none (.map (some W.heap.size)) floor (some ⟨g, o, none⟩) c W1).mono ?_
      rintro e w' ⟨rfl, rfl⟩
      exact ⟨rfl, m1, World.grownBy.refl _ _⟩
    · have htk : (l.take k).length = k := by rw [List.length_take]; omega
      have C := follow_many W.heap.size n D floor (l.take k) g o c W1 m1 hn (by omega) (by omega) (fun e he => h.ok e (List.mem_of_mem_take he)) (Nat.lt_of_lt_of_le n5 b1.size) (by omega) (fun j u hj => by
        rw [(evs_cut l k).1, List.getElem?_take] at hj
        split at hj
        · exact (World.cell?_of_block (w := W) (a := ⟨g, o + j, none⟩) (b1.block g n5)).trans (p6 j u hj)
        · cases hj)
      rw [htk] at C
      exact C
end Go.Proofs.Ytpbejbpimcidjaa
