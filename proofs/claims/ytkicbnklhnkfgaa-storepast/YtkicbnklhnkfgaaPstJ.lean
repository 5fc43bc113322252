/- Events, one from the floor on. -/
import Derived.Test.YtkicbnklhnkfgaaPstI
set_option linter.unusedSimpArgs false
set_option linter.unusedVariables false
namespace Go.Proofs.Ytkicbnklhnkfgaa
open Go Go.Lib Go.RowKit

theorem info36 : (Try.prog.info? 36).map (fun i => (i.zero, i.size, i.bytes)) = some (some (.agg #[.int .i64 0, .int .i64 0, .string ⟨#[]⟩, .slice none 0 0]), 4, 56) := by kernel_rfl
theorem conv_any (s : ByteArray) (w : World) : ∃ c w', (convert 9 30 (.string s)).run Try.prog w = .ok (.slice (some ⟨w.heap.size, 0, none⟩) s.size c) w' ∧ Below w.heap.size w w' :=
  ⟨_, _, run_bytes_of_string w 9 30 5 s Try.underlying9 Try.underlying30 Try.underlying5, ((Below.refl _ w).drew).trans (one_belowG w.drew _)⟩
set_option maxHeartbeats 8000000 in
set_option maxRecDepth 100000 in
theorem events_one (S : Nat) (rev floor : Int) (mb mn : Value) (g o L c : Nat) (k0 : Int) (d0 : ByteArray) (W : World) (hbox : W.heap[S]? = some (.cells #[.int .i64 rev, .int .i64 floor, mb, mn, (.slice (some ⟨g, o, none⟩) L c)] 42)) (h1 : 0 ≤ floor) (h2 : floor ≤ rev) (h3 : rev < 1000000) (hL : 1 ≤ L) (hL2 : L ≤ 1000000) (hc : L ≤ c) (hcm : c ≤ maxLen)
    (e0 : W.cell? ⟨g, o, none⟩ = some (.int .i64 k0)) (e1 : W.cell? ⟨g, o + 1, none⟩ = some (.string kk)) (e2 : W.cell? ⟨g, o + 2, none⟩ = some (.string d0)) :
    Calls Try.prog 9 #[.pointer (some ⟨S, 0, none⟩), .int .i64 floor, .int .i64 1] W fun e W' => (∃ g' c', e = .returned (.tuple #[.slice (some ⟨g', 0, none⟩) 1 c', .int .i64 0]) ∧ W'.cell? ⟨g', 0, none⟩ = some (.int .i64 (floor + 1))) ∧ Below W.heap.size W W' := by
  have hSl := lt_of_block hbox
  have C1 := hmk (past_ok S rev floor mb mn (.slice (some ⟨g, o, none⟩) L c) W hbox h1 h2)
  have HS := hmk hbox
  have hsub : floor - floor = 0 := by omega
  have hw0 : IntKind.i64.wrap 0 = 0 := by decide
  have hmax : maxLen = 9223372036854775807 := rfl
  have hmin : min (1 : Int) (L : Int) = 1 := by omega
  clear hbox
  go_enter Try.func9, Try.ntmps9
  go_wp2_with fail
  refine C1.out.mono ?_
  rintro e W1 ⟨rfl, rfl⟩
  clear C1
  go_wp2_with fail
  refine wp_region_held_drew (S := fun Y => Y.heap[S]? = some (.cells #[.int .i64 rev, .int .i64 floor, mb, mn, (.slice (some ⟨g, o, none⟩) L c)] 42)) (by kernel_rfl) HS.out (fun hHeld => ?_)
  (refine wpAnyH_take (i := 0) (v := ?_) rfl (by kernel_rfl) (by kernel_rfl) (by kernel_rfl) (fun _ _ _ h => h) (Or.inl ⟨by kernel_rfl, ?_⟩) (by assumption) ?_; rotate_left 1; (intro W0 hSw; (have s1 : W0.cell? ⟨S, 1, none⟩ = some (.int .i64 floor) := (by rw [cell_of_block hSw]; rfl)); (have s4 : W0.cell? ⟨S, 4, none⟩ = some (.slice (some ⟨g, o, none⟩) L c) := (by rw [cell_of_block hSw]; rfl)); go_simp; (try with_reducible rfl)); (try simp only [Act.put, List.setIfInBounds_toArray, List.set_cons_zero, List.set_cons_succ]))
  (refine wpAnyH_take (i := 1) (v := ?_) rfl (by kernel_rfl) (by kernel_rfl) (by kernel_rfl) (fun _ _ _ h => h) (Or.inl ⟨by kernel_rfl, ?_⟩) (by assumption) ?_; rotate_left 1; (intro W0 hSw; (have s1 : W0.cell? ⟨S, 1, none⟩ = some (.int .i64 floor) := (by rw [cell_of_block hSw]; rfl)); (have s4 : W0.cell? ⟨S, 4, none⟩ = some (.slice (some ⟨g, o, none⟩) L c) := (by rw [cell_of_block hSw]; rfl)); go_simp; (try with_reducible rfl)); (try simp only [Act.put, List.setIfInBounds_toArray, List.set_cons_zero, List.set_cons_succ]))
  (refine wpAnyH_take (i := 2) (v := ?_) rfl (by kernel_rfl) (by kernel_rfl) (by kernel_rfl) (fun _ _ _ h => h) (Or.inl ⟨by kernel_rfl, ?_⟩) (by assumption) ?_; rotate_left 1; (intro W0 hSw; (have s1 : W0.cell? ⟨S, 1, none⟩ = some (.int .i64 floor) := (by rw [cell_of_block hSw]; rfl)); (have s4 : W0.cell? ⟨S, 4, none⟩ = some (.slice (some ⟨g, o, none⟩) L c) := (by rw [cell_of_block hSw]; rfl)); go_simp; (try with_reducible rfl)); (try simp only [Act.put, List.setIfInBounds_toArray, List.set_cons_zero, List.set_cons_succ]))
  (refine wpAnyH_take (i := 3) (v := ?_) rfl (by kernel_rfl) (by kernel_rfl) (by kernel_rfl) (fun _ _ _ h => h) (Or.inl ⟨by kernel_rfl, ?_⟩) (by assumption) ?_; rotate_left 1; (intro W0 hSw; (have s1 : W0.cell? ⟨S, 1, none⟩ = some (.int .i64 floor) := (by rw [cell_of_block hSw]; rfl)); (have s4 : W0.cell? ⟨S, 4, none⟩ = some (.slice (some ⟨g, o, none⟩) L c) := (by rw [cell_of_block hSw]; rfl)); go_simp; (try with_reducible rfl)); (try simp only [Act.put, List.setIfInBounds_toArray, List.set_cons_zero, List.set_cons_succ]))
  (refine wpAnyH_take (i := 4) (v := ?_) rfl (by kernel_rfl) (by kernel_rfl) (by kernel_rfl) (fun _ _ _ h => h) (Or.inl ⟨by kernel_rfl, ?_⟩) (by assumption) ?_; rotate_left 1; (intro W0 hSw; (have s1 : W0.cell? ⟨S, 1, none⟩ = some (.int .i64 floor) := (by rw [cell_of_block hSw]; rfl)); (have s4 : W0.cell? ⟨S, 4, none⟩ = some (.slice (some ⟨g, o, none⟩) L c) := (by rw [cell_of_block hSw]; rfl)); go_simp; (try with_reducible rfl)); (try simp only [Act.put, List.setIfInBounds_toArray, List.set_cons_zero, List.set_cons_succ]))
  (refine wpAnyH_take (i := 5) (v := ?_) rfl (by kernel_rfl) (by kernel_rfl) (by kernel_rfl) (fun _ _ _ h => h) (Or.inl ⟨by kernel_rfl, ?_⟩) (by assumption) ?_; rotate_left 1; (intro W0 hSw; (have s1 : W0.cell? ⟨S, 1, none⟩ = some (.int .i64 floor) := (by rw [cell_of_block hSw]; rfl)); (have s4 : W0.cell? ⟨S, 4, none⟩ = some (.slice (some ⟨g, o, none⟩) L c) := (by rw [cell_of_block hSw]; rfl)); go_simp; (try with_reducible rfl)); (try simp only [Act.put, List.setIfInBounds_toArray, List.set_cons_zero, List.set_cons_succ]))
  (refine wpAnyH_take (i := 6) (v := ?_) rfl (by kernel_rfl) (by kernel_rfl) (by kernel_rfl) (fun _ _ _ h => h) (Or.inl ⟨by kernel_rfl, ?_⟩) (by assumption) ?_; rotate_left 1; (intro W0 hSw; (have s1 : W0.cell? ⟨S, 1, none⟩ = some (.int .i64 floor) := (by rw [cell_of_block hSw]; rfl)); (have s4 : W0.cell? ⟨S, 4, none⟩ = some (.slice (some ⟨g, o, none⟩) L c) := (by rw [cell_of_block hSw]; rfl)); go_simp; (try with_reducible rfl)); (try simp only [Act.put, List.setIfInBounds_toArray, List.set_cons_zero, List.set_cons_succ]))
  (refine wpAnyH_take (i := 7) (v := ?_) rfl (by kernel_rfl) (by kernel_rfl) (by kernel_rfl) (fun _ _ _ h => h) (Or.inl ⟨by kernel_rfl, ?_⟩) (by assumption) ?_; rotate_left 1; (intro W0 hSw; (have s1 : W0.cell? ⟨S, 1, none⟩ = some (.int .i64 floor) := (by rw [cell_of_block hSw]; rfl)); (have s4 : W0.cell? ⟨S, 4, none⟩ = some (.slice (some ⟨g, o, none⟩) L c) := (by rw [cell_of_block hSw]; rfl)); go_simp; (try with_reducible rfl)); (try simp only [Act.put, List.setIfInBounds_toArray, List.set_cons_zero, List.set_cons_succ]))
  (refine wpAnyH_take (i := 8) (v := ?_) rfl (by kernel_rfl) (by kernel_rfl) (by kernel_rfl) (fun _ _ _ h => h) (Or.inl ⟨by kernel_rfl, ?_⟩) (by assumption) ?_; rotate_left 1; (intro W0 hSw; (have s1 : W0.cell? ⟨S, 1, none⟩ = some (.int .i64 floor) := (by rw [cell_of_block hSw]; rfl)); (have s4 : W0.cell? ⟨S, 4, none⟩ = some (.slice (some ⟨g, o, none⟩) L c) := (by rw [cell_of_block hSw]; rfl)); go_simp; (try with_reducible rfl)); (try simp only [Act.put, List.setIfInBounds_toArray, List.set_cons_zero, List.set_cons_succ]))
  (refine wpAnyH_take (i := 9) (v := ?_) rfl (by kernel_rfl) (by kernel_rfl) (by kernel_rfl) (fun _ _ _ h => h) (Or.inl ⟨by kernel_rfl, ?_⟩) (by assumption) ?_; rotate_left 1; (intro W0 hSw; (have s1 : W0.cell? ⟨S, 1, none⟩ = some (.int .i64 floor) := (by rw [cell_of_block hSw]; rfl)); (have s4 : W0.cell? ⟨S, 4, none⟩ = some (.slice (some ⟨g, o, none⟩) L c) := (by rw [cell_of_block hSw]; rfl)); go_simp; (try with_reducible rfl)); (try simp only [Act.put, List.setIfInBounds_toArray, List.set_cons_zero, List.set_cons_succ]))
  (refine wpAnyH_take (i := 10) (v := .slice (some ⟨g, o, none⟩) L c) rfl (by kernel_rfl) (by kernel_rfl) (by kernel_rfl) (fun _ _ _ h => h) (Or.inl ⟨by kernel_rfl, ?_⟩) (by assumption) ?_; (intro W0 hSw; (have s1 : W0.cell? ⟨S, 1, none⟩ = some (.int .i64 floor) := (by rw [cell_of_block hSw]; rfl)); (have s4 : W0.cell? ⟨S, 4, none⟩ = some (.slice (some ⟨g, o, none⟩) L c) := (by rw [cell_of_block hSw]; rfl)); go_simp); (try simp only [Act.put, List.setIfInBounds_toArray, List.set_cons_zero, List.set_cons_succ]))
  refine wpAnyH_ready (rs := [11]) (by kernel_rfl) (by simp) ?_
  refine AllReadyH.cons rfl (fun K hK => ?_) AllReadyH.nil
  go_simp
  refine hK.out _ _ HS.out (fun hHeld => ?_)
  clear hK K
  (try simp only [Act.put, List.setIfInBounds_toArray, List.set_cons_zero, List.set_cons_succ])
  refine wpAnyH_done (by kernel_rfl) ?_ _
  (try dsimp only [Act.put, List.getElem_toArray, List.getElem_cons_succ, List.getElem_cons_zero, List.setIfInBounds_toArray, List.set_cons_zero, List.set_cons_succ])
  clear hHeld
  go_wp2_with fail
  clear hHeld
  obtain ⟨c2, V2, hcv, b2⟩ := conv_any d0 (W1.alloc (.cells #[.int .i64 k0, .string kk, .string d0] 49)).drew
  rw [show (W1.alloc (.cells #[.int .i64 k0, .string kk, .string d0] 49)).drew.heap.size = W1.heap.size + 1 from alloc_size _ _] at hcv
  have Q2 : Hid (Below W1.heap.size W1 V2) := by
    have q1 : Below W1.heap.size W1 (W1.alloc (.cells #[.int .i64 k0, .string kk, .string d0] 49)).drew := (one_belowG W1 _).drew
    exact q1.trans (b2.mono q1.size)
  clear b2
  go_loopw [10, 38] (fun e10 e38 wr => (e10 = .slice none 0 0 ∧ e38 = .int .i64 0 ∧ wr = W1.drew) ∨ (∃ g' c', e10 = .slice (some ⟨g', 0, none⟩) 1 c' ∧ e38 = .int .i64 1 ∧ Hid (wr.cell? ⟨g', 0, none⟩ = some (.int .i64 (floor + 1)) ∧ Below W1.heap.size W1 wr))) (fun _ e38 _ => 1 - (RowKit.intOf e38).toNat)
  case atStart => exact .inl ⟨rfl, rfl, rfl⟩
  case round =>
    rcases hrel with ⟨rfl, rfl, rfl⟩ | ⟨g', c', rfl, rfl, HQ⟩
    · go_wp2_with fail
      refine ⟨.inr ⟨_, _, rfl, rfl, ⟨?_, ?_⟩⟩, by simp [RowKit.intOf]⟩
      · show ((V2.alloc _).alloc _).cell? _ = _
        have hT := heap_alloc_new (V2.alloc (.cells #[.int .i64 (floor + 1), .int .i64 k0, .string kk, .slice (some ⟨W1.heap.size + 1, 0, none⟩) d0.size c2] 36)) (.cells (#[.int .i64 (floor + 1), .int .i64 k0, .string kk, .slice (some ⟨W1.heap.size + 1, 0, none⟩) d0.size c2] ++ Builtin.zeroCells #[.int .i64 0, .int .i64 0, .string ⟨#[]⟩, .slice none 0 0] ((Question.appendCap 1 0 36).cut (V2.tape V2.drawn (Question.appendCap 1 0 36)) - 1)) 36)
        rw [alloc_size] at hT
        rw [cell_of_block hT]
        simp [Array.getElem?_append]
      · exact ((Q2.out.alloc Q2.out.size _).alloc (by rw [alloc_size]; have := Q2.out.size; omega) _).drew
    · go_wp2_with fail
      (try simp only [Exit.inBlock, Exit.then])
      go_ret2
      exact ⟨⟨_, _, rfl, HQ.out.1⟩, HQ.out.2⟩
end Go.Proofs.Ytkicbnklhnkfgaa
