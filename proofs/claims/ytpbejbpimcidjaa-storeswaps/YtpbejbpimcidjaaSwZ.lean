/- begun. -/
import Derived.Test.YtpbejbpimcidjaaSwY0
import Derived.Deep.CutBlock
set_option linter.unusedSimpArgs false
set_option linter.unusedVariables false
namespace Go.Proofs.Ytpbejbpimcidjaa
open Go Go.Lib Go.RowKit Go.Maps Go.Sort

def row0 : List Value := [.bool false, .int .i64 0, .slice none 0 0, .bool false, .int .i64 0, .slice none 0 0, .bool false, .int .i64 0, .slice none 0 0, .bool false, .int .i64 0, .slice none 0 0, .bool false, .int .i64 0, .slice none 0 0]
theorem row0_15 (w : World) : Row15 w A0 row0 := ⟨rfl, fun k hk => by
  have h : k = 0 ∨ k = 1 ∨ k = 2 ∨ k = 3 ∨ k = 4 := by omega
  rcases h with rfl | rfl | rfl | rfl | rfl <;> exact ⟨_, _, _, rfl, rfl, rfl, rfl, rfl, rfl⟩⟩
theorem begin_mk {w0 wc W6 W7 : World} {S B : Nat} {first : Int} {sv2 : Value} {row : List Value}
    (hBB : wc.heap[B]? = some (.cells (bbx first row (.slice none 0 0) (.slice none 0 0)) 37)) (hSS : wc.heap[S]? = some (.cells #[.int .i64 first, .int .i64 first, .map none, .map none, .slice none 0 0] 57)) (hrow : Row15 wc A0 row) (hl : row.length = 15) (hz : Below w0.heap.size w0 wc) (hb : w0.heap.size ≤ B)
    (b6 : Below wc.heap.size wc W6) (q1 : W7.ownsRow w0.heap.size 33 15 sv2 (0 + 1) ([] ++ row)) (q2 : W6.grownBy W7 (Value.slice none 0 0).ownBlock) :
    (W7.setCell ⟨B, 16, none⟩ sv2).heap[S]? = some (.cells #[.int .i64 first, .int .i64 first, .map none, .map none, .slice none 0 0] 57) ∧ Bok w0 (W7.setCell ⟨B, 16, none⟩ sv2) B first first [] row sv2 (.slice none 0 0) ∧ Below w0.heap.size w0 (W7.setCell ⟨B, 16, none⟩ sv2) := by
  have k7 : ∀ (y : Nat) (o : Obj), wc.heap[y]? = some o → W7.heap[y]? = wc.heap[y]? := fun y o e => (q2.block y (Nat.lt_of_lt_of_le (lt_of_block e) b6.size) (by simp [Value.ownBlock])).trans (b6.block y (lt_of_block e))
  have hB7 := (k7 B _ hBB).trans hBB
  have hne : S ≠ B := fun q => by rw [q, hBB] at hSS; simp at hSS
  have k5 : ∀ (y : Nat) (c : Array Value) (fr : Nat × Nat), wc.heap[y]? = some (Obj.cells c 5 fr) → (W7.setCell ⟨B, 16, none⟩ sv2).heap[y]? = wc.heap[y]? := fun y c fr e => (set_other (fun q => by rw [q, hBB] at e; simp at e)).trans (k7 y _ e)
  have hr := hrow.keep k5
  have f0 : Fr (F0 w0) w0 wc := ⟨hz.os, hz.tape, hz.output, hz.size, fun y hy => hz.block y hy, fun y hy => hy⟩
  refine ⟨((set_other hne).trans (k7 S _ hSS)).trans hSS, ⟨?_, hr, ⟨[row], rfl, ?_, fun i rw hi => ?_⟩, ⟨[], rfl, ⟨rfl, .inl ⟨rfl, rfl⟩⟩, fun x hx => (by cases hx)⟩, hb, fun e he => (by cases he)⟩, Fr.bel0 (((f0.below b6).grownO q2 (fun g hg => (by cases hg))).grown (grown_set1 W7 B 16 sv2) (fun q => by unfold F0 at q; omega))⟩
  · have := set_block hB7 16 sv2
    rw [bbx_set16 _ _ _ _ _ hl] at this
    exact this
  · have := row_keep q1 (fun y c fr e => set_other (w := W7) (g := B) (o := 16) (u := sv2) (fun q => by rw [q, hB7] at e; simp at e))
    simpa using this
  · rcases i with _ | i
    · obtain rfl : row = rw := by simpa using hi
      exact hr
    · simp at hi
def BegPost (w : World) (e : Ending) (w' : World) : Prop := ∃ (S B : Nat) (first : Int) (row : List Value) (sv : Value), e = .returned (.tuple #[.pointer (some ⟨S, 0, none⟩), .pointer (some ⟨B, 0, none⟩)]) ∧ 0 ≤ first ∧ first ≤ 9007199254740991 ∧ w'.heap[S]? = some (.cells #[.int .i64 first, .int .i64 first, .map none, .map none, .slice none 0 0] 57) ∧ w.heap.size ≤ S ∧ Bok w w' B first first [] row sv (.slice none 0 0) ∧ Below w.heap.size w w'
set_option maxHeartbeats 8000000 in
set_option maxRecDepth 100000 in
theorem begun_any (z : Int) (far : Bool) (w : World) :
    Calls Try.prog 4 #[.int .i64 z, .bool far] w (BegPost w) := by
  have C1 := hmk (within_any z 1000 w (by decide) (by decide))
  go_enter Try.func4, Try.ntmps4
  go_wp2_with fail
  refine C1.out.mono ?_
  rintro e w1 ⟨⟨p, hp, rfl⟩, b1⟩
  clear C1
  have B1 := hmk b1
  clear b1
  go_upto_if 11 with fail
  go_cut [0] (fun e0 wx => ∃ first : Int, e0 = .int .i64 first ∧ 0 ≤ first ∧ first ≤ 9007199254740991 ∧ Hid (Below w.heap.size w wx))
  case first =>
    cases far
    · go_wp2_with fail
      go_meet
      exact ⟨_, rfl, by omega, by omega, B1⟩
    · have C2 := hmk (within_any (p : Int) 7 w1 (by decide) (by decide))
      go_wp2_with fail
      refine C2.out.mono ?_
      rintro e w2 ⟨⟨q, hq, rfl⟩, b2⟩
      have B2 := hmk (B1.out.trans (b2.mono B1.out.size))
      clear C2 b2
      go_wp2_with fail
      go_meet
      exact ⟨_, rfl, by omega, by omega, B2⟩
  case rest =>
    obtain ⟨first, rfl, h0, h1, HB⟩ := hcut
    clear B1
    have C3 := hmk (new_any first wc h0 h1)
    go_wp2_with fail
    refine C3.out.mono ?_
    rintro e w3 ⟨rfl, hw3⟩
    clear C3
    have hSS := heap_alloc_new wc (.cells #[.int .i64 first, .int .i64 first, .map none, .map none, .slice none 0 0] 57)
    rw [← hw3] at hSS
    have hz3 : Below w.heap.size w w3 := by rw [hw3]; exact HB.out.alloc HB.out.size _
    have hSz := HB.out.size
    have HSS2 := hmk hSz
    clear hw3 HB hSz
    generalize wc.heap.size = S at *
    have hBB : (w3.alloc (.cells #[.int .i64 first, .bool false, .int .i64 0, .slice none 0 0, .bool false, .int .i64 0, .slice none 0 0, .bool false, .int .i64 0, .slice none 0 0, .bool false, .int .i64 0, .slice none 0 0, .bool false, .int .i64 0, .slice none 0 0, .slice none 0 0, .slice none 0 0] 37)).heap[w3.heap.size]? = some (.cells (bbx first row0 (.slice none 0 0) (.slice none 0 0)) 37) := heap_alloc_new w3 _
    have hSS4 := (((one_belowG w3 (.cells #[.int .i64 first, .bool false, .int .i64 0, .slice none 0 0, .bool false, .int .i64 0, .slice none 0 0, .bool false, .int .i64 0, .slice none 0 0, .bool false, .int .i64 0, .slice none 0 0, .bool false, .int .i64 0, .slice none 0 0, .slice none 0 0, .slice none 0 0] 37)).block S (lt_of_block hSS)).trans hSS)
    have hz4 : Below w.heap.size w (w3.alloc (.cells #[.int .i64 first, .bool false, .int .i64 0, .slice none 0 0, .bool false, .int .i64 0, .slice none 0 0, .bool false, .int .i64 0, .slice none 0 0, .bool false, .int .i64 0, .slice none 0 0, .bool false, .int .i64 0, .slice none 0 0, .slice none 0 0, .slice none 0 0] 37)) := hz3.alloc hz3.size _
    have HBB := hmk hBB
    have HSS := hmk hSS4
    have HW0 := hmk hz4
    have HBb := hmk hz3.size
    have H0 := hmk (And.intro h0 h1)
    clear hBB hSS hSS4 hz4 hz3 h0 h1
    go_wp2_with fail
    generalize (w3.alloc (.cells #[.int .i64 first, .bool false, .int .i64 0, .slice none 0 0, .bool false, .int .i64 0, .slice none 0 0, .bool false, .int .i64 0, .slice none 0 0, .bool false, .int .i64 0, .slice none 0 0, .bool false, .int .i64 0, .slice none 0 0, .slice none 0 0, .slice none 0 0] 37)) = wc at *
    generalize w3.heap.size = B at *
    have HROW := hmk (row0_15 wc)
    have hl0 : row0.length = 15 := rfl
    generalize row0 = rr at *
    obtain ⟨v0, v1, v2, v3, v4, v5, v6, v7, v8, v9, v10, v11, v12, v13, v14, rfl⟩ := fifteen hl0
    clear hl0
    have HR2 : Hid (wc.ownsRow w.heap.size 33 15 (.slice none 0 0) 0 []) := ⟨rfl, .inl ⟨rfl, rfl⟩⟩
    have hS0 : ∀ (j : Nat) (v : Value), (bbx first [v0, v1, v2, v3, v4, v5, v6, v7, v8, v9, v10, v11, v12, v13, v14] (.slice none 0 0) (.slice none 0 0))[j]? = some v → j < 16 → wc.cell? ⟨B, j, none⟩ = some v := fun j v hv _ => by rw [cell_of_block HBB.out]; exact hv
    have HS0 := hmk hS0
    clear hS0
    have p16 : wc.drew.cell? ⟨B, 16, none⟩ = some (.slice none 0 0) := by show wc.cell? ⟨B, 16, none⟩ = some (.slice none 0 0); rw [cell_of_block HBB.out]; exact bbx_c16 _ _ _ _ rfl
    refine wp_region_held_drew (S := fun Y => ∀ (j : Nat) (v : Value), (bbx first [v0, v1, v2, v3, v4, v5, v6, v7, v8, v9, v10, v11, v12, v13, v14] (.slice none 0 0) (.slice none 0 0))[j]? = some v → j < 16 → Y.cell? ⟨B, j, none⟩ = some v) (by kernel_rfl) HS0.out (fun hHeld => ?_)
    (refine wpAnyH_take (i := 0) (v := ?_) rfl (by kernel_rfl) (by kernel_rfl) (by kernel_rfl) (fun _ _ _ h => h) (Or.inl ⟨by kernel_rfl, ?_⟩) (by assumption) ?_; rotate_left 1; (intro W0 hSw; skip; go_simp; (try with_reducible rfl)); (try simp only [Act.put, List.setIfInBounds_toArray, List.set_cons_zero, List.set_cons_succ]))
    (refine wpAnyH_take (i := 1) (v := ?_) rfl (by kernel_rfl) (by kernel_rfl) (by kernel_rfl) (fun _ _ _ h => h) (Or.inl ⟨by kernel_rfl, ?_⟩) (by assumption) ?_; rotate_left 1; (intro W0 hSw; skip; go_simp; (try with_reducible rfl)); (try simp only [Act.put, List.setIfInBounds_toArray, List.set_cons_zero, List.set_cons_succ]))
    (refine wpAnyH_take (i := 2) (v := ?_) rfl (by kernel_rfl) (by kernel_rfl) (by kernel_rfl) (fun _ _ _ h => h) (Or.inl ⟨by kernel_rfl, ?_⟩) (by assumption) ?_; rotate_left 1; (intro W0 hSw; skip; go_simp; (try with_reducible rfl)); (try simp only [Act.put, List.setIfInBounds_toArray, List.set_cons_zero, List.set_cons_succ]))
    (refine wpAnyH_take (i := 3) (v := ?_) rfl (by kernel_rfl) (by kernel_rfl) (by kernel_rfl) (fun _ _ _ h => h) (Or.inl ⟨by kernel_rfl, ?_⟩) (by assumption) ?_; rotate_left 1; (intro W0 hSw; skip; go_simp; (try with_reducible rfl)); (try simp only [Act.put, List.setIfInBounds_toArray, List.set_cons_zero, List.set_cons_succ]))
    (refine wpAnyH_take (i := 5) (v := ?_) rfl (by kernel_rfl) (by kernel_rfl) (by kernel_rfl) (fun _ _ _ h => h) (Or.inl ⟨by kernel_rfl, ?_⟩) (by assumption) ?_; rotate_left 1; (intro W0 hSw; skip; go_simp; (try with_reducible rfl)); (try simp only [Act.put, List.setIfInBounds_toArray, List.set_cons_zero, List.set_cons_succ]))
    (refine wpAnyH_take (i := 6) (v := ?_) rfl (by kernel_rfl) (by kernel_rfl) (by kernel_rfl) (fun _ _ _ h => h) (Or.inl ⟨by kernel_rfl, ?_⟩) (by assumption) ?_; rotate_left 1; (intro W0 hSw; skip; go_simp; (try with_reducible rfl)); (try simp only [Act.put, List.setIfInBounds_toArray, List.set_cons_zero, List.set_cons_succ]))
    (refine wpAnyH_take (i := 7) (v := ?_) rfl (by kernel_rfl) (by kernel_rfl) (by kernel_rfl) (fun _ _ _ h => h) (Or.inl ⟨by kernel_rfl, ?_⟩) (by assumption) ?_; rotate_left 1; (intro W0 hSw; skip; go_simp; (try with_reducible rfl)); (try simp only [Act.put, List.setIfInBounds_toArray, List.set_cons_zero, List.set_cons_succ]))
    (refine wpAnyH_take (i := 8) (v := ?_) rfl (by kernel_rfl) (by kernel_rfl) (by kernel_rfl) (fun _ _ _ h => h) (Or.inl ⟨by kernel_rfl, ?_⟩) (by assumption) ?_; rotate_left 1; (intro W0 hSw; (have d1 : W0.cell? ⟨B, 1, none⟩ = some v0 := hSw 1 v0 (bbx_cr (j := 0) _ _ _ _ _ rfl) (by decide)); (have d2 : W0.cell? ⟨B, 2, none⟩ = some v1 := hSw 2 v1 (bbx_cr (j := 1) _ _ _ _ _ rfl) (by decide)); (have d3 : W0.cell? ⟨B, 3, none⟩ = some v2 := hSw 3 v2 (bbx_cr (j := 2) _ _ _ _ _ rfl) (by decide)); (have d4 : W0.cell? ⟨B, 4, none⟩ = some v3 := hSw 4 v3 (bbx_cr (j := 3) _ _ _ _ _ rfl) (by decide)); (have d5 : W0.cell? ⟨B, 5, none⟩ = some v4 := hSw 5 v4 (bbx_cr (j := 4) _ _ _ _ _ rfl) (by decide)); (have d6 : W0.cell? ⟨B, 6, none⟩ = some v5 := hSw 6 v5 (bbx_cr (j := 5) _ _ _ _ _ rfl) (by decide)); (have d7 : W0.cell? ⟨B, 7, none⟩ = some v6 := hSw 7 v6 (bbx_cr (j := 6) _ _ _ _ _ rfl) (by decide)); (have d8 : W0.cell? ⟨B, 8, none⟩ = some v7 := hSw 8 v7 (bbx_cr (j := 7) _ _ _ _ _ rfl) (by decide)); (have d9 : W0.cell? ⟨B, 9, none⟩ = some v8 := hSw 9 v8 (bbx_cr (j := 8) _ _ _ _ _ rfl) (by decide)); (have d10 : W0.cell? ⟨B, 10, none⟩ = some v9 := hSw 10 v9 (bbx_cr (j := 9) _ _ _ _ _ rfl) (by decide)); (have d11 : W0.cell? ⟨B, 11, none⟩ = some v10 := hSw 11 v10 (bbx_cr (j := 10) _ _ _ _ _ rfl) (by decide)); (have d12 : W0.cell? ⟨B, 12, none⟩ = some v11 := hSw 12 v11 (bbx_cr (j := 11) _ _ _ _ _ rfl) (by decide)); (have d13 : W0.cell? ⟨B, 13, none⟩ = some v12 := hSw 13 v12 (bbx_cr (j := 12) _ _ _ _ _ rfl) (by decide)); (have d14 : W0.cell? ⟨B, 14, none⟩ = some v13 := hSw 14 v13 (bbx_cr (j := 13) _ _ _ _ _ rfl) (by decide)); (have d15 : W0.cell? ⟨B, 15, none⟩ = some v14 := hSw 15 v14 (bbx_cr (j := 14) _ _ _ _ _ rfl) (by decide)); clear hSw; go_simp; (try with_reducible rfl)); (try simp only [Act.put, List.setIfInBounds_toArray, List.set_cons_zero, List.set_cons_succ]))
    refine wpAnyH_ready (rs := [4, 9]) (by kernel_rfl) (by simp) ?_
    refine (AllReadyH.cons rfl (fun K hK => ?_) (AllReadyH.cons rfl (fun K hK => ?_) AllReadyH.nil))
    · go_simp
      refine hK.out _ _ HS0.out (fun hHeld => ?_)
      clear hK K p16
      (try simp only [Act.put, List.setIfInBounds_toArray, List.set_cons_zero, List.set_cons_succ])
      have b6 : Below wc.heap.size wc ((wc.alloc (.cells #[v0, v1, v2, v3, v4, v5, v6, v7, v8, v9, v10, v11, v12, v13, v14] 33)).drew) := (one_belowG wc _).drew
      have hT6 : ((wc.alloc (.cells #[v0, v1, v2, v3, v4, v5, v6, v7, v8, v9, v10, v11, v12, v13, v14] 33)).drew).heap[wc.heap.size]? = some (.cells #[v0, v1, v2, v3, v4, v5, v6, v7, v8, v9, v10, v11, v12, v13, v14] 33) := heap_alloc_new wc _
      have hB6 := (b6.block B (lt_of_block HBB.out)).trans HBB.out
      have p6 : ((wc.alloc (.cells #[v0, v1, v2, v3, v4, v5, v6, v7, v8, v9, v10, v11, v12, v13, v14] 33)).drew).cell? ⟨B, 16, none⟩ = some (.slice none 0 0) := by rw [cell_of_block hB6]; exact bbx_c16 _ _ _ _ rfl
      have hS6 : ∀ (j : Nat) (v : Value), (bbx first [v0, v1, v2, v3, v4, v5, v6, v7, v8, v9, v10, v11, v12, v13, v14] (.slice none 0 0) (.slice none 0 0))[j]? = some v → j < 16 → ((wc.alloc (.cells #[v0, v1, v2, v3, v4, v5, v6, v7, v8, v9, v10, v11, v12, v13, v14] 33)).drew).cell? ⟨B, j, none⟩ = some v := fun j v hv _ => by rw [cell_of_block hB6]; exact hv
      have HS6 := hmk hS6
      clear hS6
      refine wpAnyH_ready (rs := [9]) (by kernel_rfl) (by simp) ?_
      refine AllReadyH.cons rfl (fun K hK => ?_) AllReadyH.nil
      go_simp
      refine hK.out _ _ HS6.out (fun hHeld => ?_)
      clear hK K
      (try simp only [Act.put, List.setIfInBounds_toArray, List.set_cons_zero, List.set_cons_succ])
      have HT6 := hmk hT6
      have BX6 := hmk b6
      clear hT6 p6 b6 HS6 hB6
      generalize ((wc.alloc (.cells #[v0, v1, v2, v3, v4, v5, v6, v7, v8, v9, v10, v11, v12, v13, v14] 33)).drew) = W6x at *
      obtain ⟨i, hi, hz⟩ := Option.map_eq_some_iff.1 info33
      simp only [Prod.mk.injEq] at hz
      obtain ⟨z1, z2, z3⟩ := hz
      have hnews : ∀ j u, ([v0, v1, v2, v3, v4, v5, v6, v7, v8, v9, v10, v11, v12, v13, v14] : List Value)[j]? = some u → W6x.cell? ((⟨wc.heap.size, 0, none⟩ : Addr).add j) = some u := fun j u hj => by
        rw [Go.WideShapes.add_plain, Nat.zero_add, cell_of_block HT6.out]
        simpa using hj
      have hzz := BX6.out.size
      have hrow6 := HR2.out.kept (below_all BX6.out) (.inl rfl)
      obtain ⟨sv2, W7, hrun, q1, q2, _⟩ := run_append_own (P := Try.prog) W6x w.heap.size 34 34 33 i _ 15 200 Try.underlying34 hi z1 z2 z3 rfl (by decide) (.slice none 0 0) 0 [] hrow6 ⟨wc.heap.size, 0, none⟩ 1 1 [v0, v1, v2, v3, v4, v5, v6, v7, v8, v9, v10, v11, v12, v13, v14] rfl hnews (row_one HROW.out) (by unfold maxLen; omega) (by omega) (by have := HW0.out.size; omega)
      obtain ⟨g2, cap2, rfl⟩ : ∃ g cap, sv2 = .slice (some ⟨g, 0, none⟩) (0 + 1) cap := by
        rcases q1.2 with ⟨_, e⟩ | ⟨g, cap, cur, e, _⟩
        · omega
        · exact ⟨g, cap, e⟩
      have hsB : some B ≠ (Value.slice none 0 0).ownBlock := fun q => by
        rcases HR2.out.2 with ⟨e2, _⟩ | ⟨g', cap, cur, e2, _, p2, _⟩
        · rw [e2] at q; simp [Value.ownBlock] at q
        · rw [e2] at q
          have : B = g' := by simpa [Value.ownBlock] using q
          rw [← this, HBB.out] at p2
          simp at p2
      have hB7 := ((q2.block B (by have := lt_of_block HBB.out; omega) hsB).trans (BX6.out.block B (lt_of_block HBB.out))).trans HBB.out
      have s16 : W7.cell? ⟨B, 16, none⟩ = some (.slice none 0 0) := by rw [cell_of_block hB7]; exact bbx_c16 _ _ _ _ rfl
      have f16 : W7.frozen? ⟨B, 16, none⟩ = false := frozen_of_block hB7 16
      have hS7 : ∀ (j : Nat) (v : Value), (bbx first [v0, v1, v2, v3, v4, v5, v6, v7, v8, v9, v10, v11, v12, v13, v14] (.slice none 0 0) (.slice none 0 0))[j]? = some v → j < 16 → W7.cell? ⟨B, j, none⟩ = some v := fun j v hv _ => by rw [cell_of_block hB7]; exact hv
      have HS7 := hmk hS7
      clear hS7
      refine wpAnyH_ready (rs := [10]) (by kernel_rfl) (by simp) ?_
      refine AllReadyH.cons rfl (fun K hK => ?_) AllReadyH.nil
      refine step_app rfl (.tmp 33) (.tmp 38) 34 rfl (.slice none 0 0) (.slice (some ⟨wc.heap.size, 0, none⟩) 1 1) _ rfl rfl hrun ?_
      refine hK.out _ _ HS7.out (fun hHeld => ?_)
      clear hK K hrun
      (try simp only [Act.put, List.setIfInBounds_toArray, List.set_cons_zero, List.set_cons_succ])
      (refine wpAnyH_take (i := 11) (v := ?_) rfl (by kernel_rfl) (by kernel_rfl) (by kernel_rfl) (fun _ _ _ h => h) (Or.inl ⟨by kernel_rfl, ?_⟩) (by assumption) ?_; rotate_left 1; (intro W0 hSw; skip; go_simp; (try with_reducible rfl)); (try simp only [Act.put, List.setIfInBounds_toArray, List.set_cons_zero, List.set_cons_succ]))
      (refine wpAnyH_take (i := 12) (v := ?_) rfl (by kernel_rfl) (by kernel_rfl) (by kernel_rfl) (fun _ _ _ h => h) (Or.inl ⟨by kernel_rfl, ?_⟩) (by assumption) ?_; rotate_left 1; (intro W0 hSw; skip; go_simp; (try with_reducible rfl)); (try simp only [Act.put, List.setIfInBounds_toArray, List.set_cons_zero, List.set_cons_succ]))
      refine wpAnyH_ready (rs := [13]) (by kernel_rfl) (by simp) ?_
      refine AllReadyH.cons rfl (fun K hK => ?_) AllReadyH.nil
      go_simp
      refine hK.out _ _ (fun j v hv hj => (cell_set_off (by omega)).trans (HS7.out j v hv hj)) (fun hHeld => ?_)
      clear hK K
      (try simp only [Act.put, List.setIfInBounds_toArray, List.set_cons_zero, List.set_cons_succ])
      refine wpAnyH_done (by kernel_rfl) ?_ _
      (try dsimp only [Act.put, List.getElem_toArray, List.getElem_cons_succ, List.getElem_cons_zero, List.setIfInBounds_toArray, List.set_cons_zero, List.set_cons_succ])
      clear hHeld s16 f16 HS7
      have HFIN := hmk (begin_mk HBB.out HSS.out HROW.out rfl HW0.out HBb.out BX6.out q1 q2)
      clear q1 q2 hB7 hrow6 hnews
      go_wp2_with fail
      go_ret2
      exact ⟨S, B, first, [v0, v1, v2, v3, v4, v5, v6, v7, v8, v9, v10, v11, v12, v13, v14], _, rfl, H0.out.1, H0.out.2, HFIN.out.1, HSS2.out, HFIN.out.2.1, HFIN.out.2.2⟩
    · clear p16
      have b6 : Below wc.heap.size wc ((wc.alloc (.cells #[v0, v1, v2, v3, v4, v5, v6, v7, v8, v9, v10, v11, v12, v13, v14] 33)).drew) := (one_belowG wc _).drew
      have hT6 : ((wc.alloc (.cells #[v0, v1, v2, v3, v4, v5, v6, v7, v8, v9, v10, v11, v12, v13, v14] 33)).drew).heap[wc.heap.size]? = some (.cells #[v0, v1, v2, v3, v4, v5, v6, v7, v8, v9, v10, v11, v12, v13, v14] 33) := heap_alloc_new wc _
      have hB6 := (b6.block B (lt_of_block HBB.out)).trans HBB.out
      have p6 : ((wc.alloc (.cells #[v0, v1, v2, v3, v4, v5, v6, v7, v8, v9, v10, v11, v12, v13, v14] 33)).drew).cell? ⟨B, 16, none⟩ = some (.slice none 0 0) := by rw [cell_of_block hB6]; exact bbx_c16 _ _ _ _ rfl
      have hS6 : ∀ (j : Nat) (v : Value), (bbx first [v0, v1, v2, v3, v4, v5, v6, v7, v8, v9, v10, v11, v12, v13, v14] (.slice none 0 0) (.slice none 0 0))[j]? = some v → j < 16 → ((wc.alloc (.cells #[v0, v1, v2, v3, v4, v5, v6, v7, v8, v9, v10, v11, v12, v13, v14] 33)).drew).cell? ⟨B, j, none⟩ = some v := fun j v hv _ => by rw [cell_of_block hB6]; exact hv
      have HS6 := hmk hS6
      clear hS6
      go_simp
      refine hK.out _ _ HS6.out (fun hHeld => ?_)
      clear hK K
      (try simp only [Act.put, List.setIfInBounds_toArray, List.set_cons_zero, List.set_cons_succ])
      refine wpAnyH_ready (rs := [4]) (by kernel_rfl) (by simp) ?_
      refine AllReadyH.cons rfl (fun K hK => ?_) AllReadyH.nil
      go_simp
      refine hK.out _ _ HS6.out (fun hHeld => ?_)
      clear hK K
      (try simp only [Act.put, List.setIfInBounds_toArray, List.set_cons_zero, List.set_cons_succ])
      have HT6 := hmk hT6
      have BX6 := hmk b6
      clear hT6 p6 b6 HS6 hB6
      generalize ((wc.alloc (.cells #[v0, v1, v2, v3, v4, v5, v6, v7, v8, v9, v10, v11, v12, v13, v14] 33)).drew) = W6x at *
      obtain ⟨i, hi, hz⟩ := Option.map_eq_some_iff.1 info33
      simp only [Prod.mk.injEq] at hz
      obtain ⟨z1, z2, z3⟩ := hz
      have hnews : ∀ j u, ([v0, v1, v2, v3, v4, v5, v6, v7, v8, v9, v10, v11, v12, v13, v14] : List Value)[j]? = some u → W6x.cell? ((⟨wc.heap.size, 0, none⟩ : Addr).add j) = some u := fun j u hj => by
        rw [Go.WideShapes.add_plain, Nat.zero_add, cell_of_block HT6.out]
        simpa using hj
      have hzz := BX6.out.size
      have hrow6 := HR2.out.kept (below_all BX6.out) (.inl rfl)
      obtain ⟨sv2, W7, hrun, q1, q2, _⟩ := run_append_own (P := Try.prog) W6x w.heap.size 34 34 33 i _ 15 200 Try.underlying34 hi z1 z2 z3 rfl (by decide) (.slice none 0 0) 0 [] hrow6 ⟨wc.heap.size, 0, none⟩ 1 1 [v0, v1, v2, v3, v4, v5, v6, v7, v8, v9, v10, v11, v12, v13, v14] rfl hnews (row_one HROW.out) (by unfold maxLen; omega) (by omega) (by have := HW0.out.size; omega)
      obtain ⟨g2, cap2, rfl⟩ : ∃ g cap, sv2 = .slice (some ⟨g, 0, none⟩) (0 + 1) cap := by
        rcases q1.2 with ⟨_, e⟩ | ⟨g, cap, cur, e, _⟩
        · omega
        · exact ⟨g, cap, e⟩
      have hsB : some B ≠ (Value.slice none 0 0).ownBlock := fun q => by
        rcases HR2.out.2 with ⟨e2, _⟩ | ⟨g', cap, cur, e2, _, p2, _⟩
        · rw [e2] at q; simp [Value.ownBlock] at q
        · rw [e2] at q
          have : B = g' := by simpa [Value.ownBlock] using q
          rw [← this, HBB.out] at p2
          simp at p2
      have hB7 := ((q2.block B (by have := lt_of_block HBB.out; omega) hsB).trans (BX6.out.block B (lt_of_block HBB.out))).trans HBB.out
      have s16 : W7.cell? ⟨B, 16, none⟩ = some (.slice none 0 0) := by rw [cell_of_block hB7]; exact bbx_c16 _ _ _ _ rfl
      have f16 : W7.frozen? ⟨B, 16, none⟩ = false := frozen_of_block hB7 16
      have hS7 : ∀ (j : Nat) (v : Value), (bbx first [v0, v1, v2, v3, v4, v5, v6, v7, v8, v9, v10, v11, v12, v13, v14] (.slice none 0 0) (.slice none 0 0))[j]? = some v → j < 16 → W7.cell? ⟨B, j, none⟩ = some v := fun j v hv _ => by rw [cell_of_block hB7]; exact hv
      have HS7 := hmk hS7
      clear hS7
      refine wpAnyH_ready (rs := [10]) (by kernel_rfl) (by simp) ?_
      refine AllReadyH.cons rfl (fun K hK => ?_) AllReadyH.nil
      refine step_app rfl (.tmp 33) (.tmp 38) 34 rfl (.slice none 0 0) (.slice (some ⟨wc.heap.size, 0, none⟩) 1 1) _ rfl rfl hrun ?_
      refine hK.out _ _ HS7.out (fun hHeld => ?_)
      clear hK K hrun
      (try simp only [Act.put, List.setIfInBounds_toArray, List.set_cons_zero, List.set_cons_succ])
      (refine wpAnyH_take (i := 11) (v := ?_) rfl (by kernel_rfl) (by kernel_rfl) (by kernel_rfl) (fun _ _ _ h => h) (Or.inl ⟨by kernel_rfl, ?_⟩) (by assumption) ?_; rotate_left 1; (intro W0 hSw; skip; go_simp; (try with_reducible rfl)); (try simp only [Act.put, List.setIfInBounds_toArray, List.set_cons_zero, List.set_cons_succ]))
      (refine wpAnyH_take (i := 12) (v := ?_) rfl (by kernel_rfl) (by kernel_rfl) (by kernel_rfl) (fun _ _ _ h => h) (Or.inl ⟨by kernel_rfl, ?_⟩) (by assumption) ?_; rotate_left 1; (intro W0 hSw; skip; go_simp; (try with_reducible rfl)); (try simp only [Act.put, List.setIfInBounds_toArray, List.set_cons_zero, List.set_cons_succ]))
      refine wpAnyH_ready (rs := [13]) (by kernel_rfl) (by simp) ?_
      refine AllReadyH.cons rfl (fun K hK => ?_) AllReadyH.nil
      go_simp
      refine hK.out _ _ (fun j v hv hj => (cell_set_off (by omega)).trans (HS7.out j v hv hj)) (fun hHeld => ?_)
      clear hK K
      (try simp only [Act.put, List.setIfInBounds_toArray, List.set_cons_zero, List.set_cons_succ])
      refine wpAnyH_done (by kernel_rfl) ?_ _
      (try dsimp only [Act.put, List.getElem_toArray, List.getElem_cons_succ, List.getElem_cons_zero, List.setIfInBounds_toArray, List.set_cons_zero, List.set_cons_succ])
      clear hHeld s16 f16 HS7
      have HFIN := hmk (begin_mk HBB.out HSS.out HROW.out rfl HW0.out HBb.out BX6.out q1 q2)
      clear q1 q2 hB7 hrow6 hnews
      go_wp2_with fail
      go_ret2
      exact ⟨S, B, first, [v0, v1, v2, v3, v4, v5, v6, v7, v8, v9, v10, v11, v12, v13, v14], _, rfl, H0.out.1, H0.out.2, HFIN.out.1, HSS2.out, HFIN.out.2.1, HFIN.out.2.2⟩
end Go.Proofs.Ytpbejbpimcidjaa
