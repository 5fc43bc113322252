/- Events. -/
import Derived.Test.YtpbejbpimcidjaaSwJ
set_option linter.unusedSimpArgs false
set_option linter.unusedVariables false
namespace Go.Proofs.Ytpbejbpimcidjaa
open Go Go.Lib Go.RowKit Go.Maps Go.Sort

/-- an event that is told: its revision, what it was, where its bytes lie -/
structure Eit where
  r : Int
  e : Evt
  g : Nat
  c : Nat
def eic (x : Eit) : List Value := [.int .i64 x.r, .int .i64 x.e.1, .string x.e.2.1, .slice (some ⟨x.g, 0, none⟩) x.e.2.2.size x.c]
def eis (l : List Eit) : List Value := l.flatMap eic
theorem eis_app (l : List Eit) (x : Eit) : eis (l ++ [x]) = eis l ++ eic x := by unfold eis; rw [List.flatMap_append]; simp
def De (w : World) (N : Nat) (x : Eit) : Prop := N ≤ x.g ∧ ∃ fr, w.heap[x.g]? = some (.cells (bytesRow x.e.2.2 x.c) 5 fr) ∧ fr ≠ (0, 0)
theorem De.keep {w w' : World} {N : Nat} {x : Eit} (h : De w N x) (e : w'.heap[x.g]? = w.heap[x.g]?) : De w' N x := by
  obtain ⟨h1, fr, h2, h3⟩ := h
  exact ⟨h1, fr, e.trans h2, h3⟩
theorem De.ne {w : World} {N M : Nat} {x : Eit} (h : De w N x) {v : Value} {n : Nat} {xs : List Value} (hr : w.ownsRow M 70 4 v n xs) : v.ownBlock ≠ some x.g := by
  obtain ⟨h1, fr, h2, h3⟩ := h
  rcases hr.2 with ⟨rfl, _⟩ | ⟨g, cap, cur, rfl, hb, hg, rest⟩
  · simp [Value.ownBlock]
  · intro e
    have e2 : g = x.g := by simpa [Value.ownBlock] using e
    rw [e2, h2] at hg
    simp only [Option.some.injEq, Obj.cells.injEq] at hg
    exact h3 hg.2.2
/-- the first of the events behind a revision -/
structure Eis (w : World) (N : Nat) (after : Int) (src : List Evt) (v : Value) (l : List Eit) : Prop where
  row : w.ownsRow N 70 4 v l.length (eis l)
  evs : l.map Eit.e = src.take l.length
  revs : ∀ (j : Nat) (x : Eit), l[j]? = some x → x.r = after + 1 + (j : Int)
  dt : ∀ x ∈ l, De w N x
theorem Eis.step {w w' : World} {N : Nat} {after : Int} {src : List Evt} {v v' : Value} {l : List Eit} (h : Eis w N after src v l) {x : Eit} (hrow : w'.ownsRow N 70 4 v' (l.length + 1) (eis l ++ eic x)) (hk : src[l.length]? = some x.e) (hr : x.r = after + 1 + (l.length : Int)) (hd : De w' N x) (hkeep : ∀ y ∈ l, De w' N y) : Eis w' N after src v' (l ++ [x]) := by
  refine ⟨by rw [eis_app, List.length_append]; exact hrow, ?_, ?_, ?_⟩
  · rw [List.map_append, h.evs, List.length_append, List.length_singleton, List.take_add_one, hk]
    rfl
  · intro j y hy
    rcases Nat.lt_or_ge j l.length with hj | hj
    · rw [List.getElem?_append_left hj] at hy
      exact h.revs j y hy
    · rw [List.getElem?_append_right hj] at hy
      have h0 : j - l.length = 0 := by
        rcases Nat.eq_zero_or_pos (j - l.length) with h | h
        · exact h
        · rw [List.getElem?_eq_none (by simp; omega)] at hy; cases hy
      rw [h0] at hy
      obtain rfl : x = y := by simpa using hy
      rw [hr]
      omega
  · intro y hy
    rcases List.mem_append.1 hy with hy | hy
    · exact hkeep y hy
    · rw [List.mem_singleton.1 hy]; exact hd
def EvPost (after : Int) (src : List Evt) (most : Nat) (W : World) (e : Ending) (W' : World) : Prop := ∃ (v : Value) (l : List Eit), e = .returned (.tuple #[v, .int .i64 0]) ∧ l.length = min most src.length ∧ Eis W' W.heap.size after src v l ∧ Below W.heap.size W W'
theorem info70 : (Try.prog.info? 70).map (fun i => (i.zero, i.size, i.bytes)) = some (some (.agg #[.int .i64 0, .int .i64 0, .string ⟨#[]⟩, .slice none 0 0]), 4, 56) := by kernel_rfl
set_option maxHeartbeats 8000000 in
set_option maxRecDepth 100000 in
theorem events_nil (S : Nat) (rev floor : Int) (mb mn : Value)  (most : Nat) (W : World) (hbox : W.heap[S]? = some (.cells #[.int .i64 rev, .int .i64 floor, mb, mn, (.slice none 0 0)] 57)) (h1 : 0 ≤ floor) (h2 : floor ≤ rev) (h3 : rev ≤ 9007199254740991) (hmost : most ≤ 1000000)  :
    Calls Try.prog 29 #[.pointer (some ⟨S, 0, none⟩), .int .i64 floor, .int .i64 (most : Int)] W (EvPost floor [] most W) := by
  have C1 := hmk (past_ok S rev floor floor most mb mn (.slice none 0 0) W hbox (by omega) (by omega) h2 (by omega))
  have HS := hmk hbox
  have hsub : floor - floor = 0 := by omega
  have hw0 : IntKind.i64.wrap 0 = 0 := by decide
  clear hbox
  go_enter Try.func29, Try.ntmps29
  go_wp2_with fail
  refine C1.out.mono ?_
  rintro e W1 ⟨rfl, rfl⟩
  clear C1
  go_wp2_with fail
  refine wp_region_held_drew (S := fun Y => Y.heap[S]? = some (.cells #[.int .i64 rev, .int .i64 floor, mb, mn, (.slice none 0 0)] 57)) (by kernel_rfl) HS.out (fun hHeld => ?_)
  (refine wpAnyH_take (i := 0) (v := ?_) rfl (by kernel_rfl) (by kernel_rfl) (by kernel_rfl) (fun _ _ _ h => h) (Or.inl ⟨by kernel_rfl, ?_⟩) (by assumption) ?_; rotate_left 1; (intro W0 hSw; (have s1 : W0.cell? ⟨S, 1, none⟩ = some (.int .i64 floor) := (by rw [cell_of_block hSw]; rfl)); (have s4 : W0.cell? ⟨S, 4, none⟩ = some (.slice none 0 0) := (by rw [cell_of_block hSw]; rfl)); go_simp; (try with_reducible rfl)); (try simp only [Act.put, List.setIfInBounds_toArray, List.set_cons_zero, List.set_cons_succ]))
  (refine wpAnyH_take (i := 1) (v := ?_) rfl (by kernel_rfl) (by kernel_rfl) (by kernel_rfl) (fun _ _ _ h => h) (Or.inl ⟨by kernel_rfl, ?_⟩) (by assumption) ?_; rotate_left 1; (intro W0 hSw; (have s1 : W0.cell? ⟨S, 1, none⟩ = some (.int .i64 floor) := (by rw [cell_of_block hSw]; rfl)); (have s4 : W0.cell? ⟨S, 4, none⟩ = some (.slice none 0 0) := (by rw [cell_of_block hSw]; rfl)); go_simp; (try with_reducible rfl)); (try simp only [Act.put, List.setIfInBounds_toArray, List.set_cons_zero, List.set_cons_succ]))
  (refine wpAnyH_take (i := 2) (v := ?_) rfl (by kernel_rfl) (by kernel_rfl) (by kernel_rfl) (fun _ _ _ h => h) (Or.inl ⟨by kernel_rfl, ?_⟩) (by assumption) ?_; rotate_left 1; (intro W0 hSw; (have s1 : W0.cell? ⟨S, 1, none⟩ = some (.int .i64 floor) := (by rw [cell_of_block hSw]; rfl)); (have s4 : W0.cell? ⟨S, 4, none⟩ = some (.slice none 0 0) := (by rw [cell_of_block hSw]; rfl)); go_simp; (try with_reducible rfl)); (try simp only [Act.put, List.setIfInBounds_toArray, List.set_cons_zero, List.set_cons_succ]))
  (refine wpAnyH_take (i := 3) (v := ?_) rfl (by kernel_rfl) (by kernel_rfl) (by kernel_rfl) (fun _ _ _ h => h) (Or.inl ⟨by kernel_rfl, ?_⟩) (by assumption) ?_; rotate_left 1; (intro W0 hSw; (have s1 : W0.cell? ⟨S, 1, none⟩ = some (.int .i64 floor) := (by rw [cell_of_block hSw]; rfl)); (have s4 : W0.cell? ⟨S, 4, none⟩ = some (.slice none 0 0) := (by rw [cell_of_block hSw]; rfl)); go_simp; (try with_reducible rfl)); (try simp only [Act.put, List.setIfInBounds_toArray, List.set_cons_zero, List.set_cons_succ]))
  (refine wpAnyH_take (i := 4) (v := ?_) rfl (by kernel_rfl) (by kernel_rfl) (by kernel_rfl) (fun _ _ _ h => h) (Or.inl ⟨by kernel_rfl, ?_⟩) (by assumption) ?_; rotate_left 1; (intro W0 hSw; (have s1 : W0.cell? ⟨S, 1, none⟩ = some (.int .i64 floor) := (by rw [cell_of_block hSw]; rfl)); (have s4 : W0.cell? ⟨S, 4, none⟩ = some (.slice none 0 0) := (by rw [cell_of_block hSw]; rfl)); go_simp; (try with_reducible rfl)); (try simp only [Act.put, List.setIfInBounds_toArray, List.set_cons_zero, List.set_cons_succ]))
  (refine wpAnyH_take (i := 5) (v := ?_) rfl (by kernel_rfl) (by kernel_rfl) (by kernel_rfl) (fun _ _ _ h => h) (Or.inl ⟨by kernel_rfl, ?_⟩) (by assumption) ?_; rotate_left 1; (intro W0 hSw; (have s1 : W0.cell? ⟨S, 1, none⟩ = some (.int .i64 floor) := (by rw [cell_of_block hSw]; rfl)); (have s4 : W0.cell? ⟨S, 4, none⟩ = some (.slice none 0 0) := (by rw [cell_of_block hSw]; rfl)); go_simp; (try with_reducible rfl)); (try simp only [Act.put, List.setIfInBounds_toArray, List.set_cons_zero, List.set_cons_succ]))
  (refine wpAnyH_take (i := 6) (v := ?_) rfl (by kernel_rfl) (by kernel_rfl) (by kernel_rfl) (fun _ _ _ h => h) (Or.inl ⟨by kernel_rfl, ?_⟩) (by assumption) ?_; rotate_left 1; (intro W0 hSw; (have s1 : W0.cell? ⟨S, 1, none⟩ = some (.int .i64 floor) := (by rw [cell_of_block hSw]; rfl)); (have s4 : W0.cell? ⟨S, 4, none⟩ = some (.slice none 0 0) := (by rw [cell_of_block hSw]; rfl)); go_simp; (try with_reducible rfl)); (try simp only [Act.put, List.setIfInBounds_toArray, List.set_cons_zero, List.set_cons_succ]))
  (refine wpAnyH_take (i := 7) (v := ?_) rfl (by kernel_rfl) (by kernel_rfl) (by kernel_rfl) (fun _ _ _ h => h) (Or.inl ⟨by kernel_rfl, ?_⟩) (by assumption) ?_; rotate_left 1; (intro W0 hSw; (have s1 : W0.cell? ⟨S, 1, none⟩ = some (.int .i64 floor) := (by rw [cell_of_block hSw]; rfl)); (have s4 : W0.cell? ⟨S, 4, none⟩ = some (.slice none 0 0) := (by rw [cell_of_block hSw]; rfl)); go_simp; (try with_reducible rfl)); (try simp only [Act.put, List.setIfInBounds_toArray, List.set_cons_zero, List.set_cons_succ]))
  (refine wpAnyH_take (i := 8) (v := ?_) rfl (by kernel_rfl) (by kernel_rfl) (by kernel_rfl) (fun _ _ _ h => h) (Or.inl ⟨by kernel_rfl, ?_⟩) (by assumption) ?_; rotate_left 1; (intro W0 hSw; (have s1 : W0.cell? ⟨S, 1, none⟩ = some (.int .i64 floor) := (by rw [cell_of_block hSw]; rfl)); (have s4 : W0.cell? ⟨S, 4, none⟩ = some (.slice none 0 0) := (by rw [cell_of_block hSw]; rfl)); go_simp; (try with_reducible rfl)); (try simp only [Act.put, List.setIfInBounds_toArray, List.set_cons_zero, List.set_cons_succ]))
  (refine wpAnyH_take (i := 9) (v := ?_) rfl (by kernel_rfl) (by kernel_rfl) (by kernel_rfl) (fun _ _ _ h => h) (Or.inl ⟨by kernel_rfl, ?_⟩) (by assumption) ?_; rotate_left 1; (intro W0 hSw; (have s1 : W0.cell? ⟨S, 1, none⟩ = some (.int .i64 floor) := (by rw [cell_of_block hSw]; rfl)); (have s4 : W0.cell? ⟨S, 4, none⟩ = some (.slice none 0 0) := (by rw [cell_of_block hSw]; rfl)); go_simp; (try with_reducible rfl)); (try simp only [Act.put, List.setIfInBounds_toArray, List.set_cons_zero, List.set_cons_succ]))
  (refine wpAnyH_take (i := 10) (v := (.slice none 0 0)) rfl (by kernel_rfl) (by kernel_rfl) (by kernel_rfl) (fun _ _ _ h => h) (Or.inl ⟨by kernel_rfl, ?_⟩) (by assumption) ?_; (intro W0 hSw; (have s1 : W0.cell? ⟨S, 1, none⟩ = some (.int .i64 floor) := (by rw [cell_of_block hSw]; rfl)); (have s4 : W0.cell? ⟨S, 4, none⟩ = some (.slice none 0 0) := (by rw [cell_of_block hSw]; rfl)); go_simp); (try simp only [Act.put, List.setIfInBounds_toArray, List.set_cons_zero, List.set_cons_succ]))
  refine wpAnyH_ready (rs := [11]) (by kernel_rfl) (by simp) ?_
  refine AllReadyH.cons rfl (fun K hK => ?_) AllReadyH.nil
  go_simp
  refine hK.out _ _ (HS.out) (fun hHeld => ?_)
  clear hK K
  (try simp only [Act.put, List.setIfInBounds_toArray, List.set_cons_zero, List.set_cons_succ])
  refine wpAnyH_done (by kernel_rfl) ?_ _
  (try dsimp only [Act.put, List.getElem_toArray, List.getElem_cons_succ, List.getElem_cons_zero, List.setIfInBounds_toArray, List.set_cons_zero, List.set_cons_succ])
  clear hHeld
  have hmin : min (most : Int) 0 = 0 := by omega
  go_wp2_with fail
  refine wp_loop_rounds 1 ?_
  rw [rounds_succ]
  go_wp2_with fail
  go_ret2
  exact ⟨_, [], rfl, by simp, ⟨World.ownsRow_nil _ _ 70 4, rfl, by simp, by simp⟩, (Below.refl _ _).drew⟩
set_option maxHeartbeats 8000000 in
set_option maxRecDepth 100000 in
theorem events_all (S : Nat) (rev floor : Int) (mb mn : Value) (g o k : Nat) (most : Nat) (W : World) (hbox : W.heap[S]? = some (.cells #[.int .i64 rev, .int .i64 floor, mb, mn, (.slice (some ⟨g, o, none⟩) k k)] 57)) (h1 : 0 ≤ floor) (h2 : (floor + (k : Int)) ≤ rev) (h3 : rev ≤ 9007199254740991) (hmost : most ≤ 1000000) (hkm : k < 1000000) :
    Calls Try.prog 29 #[.pointer (some ⟨S, 0, none⟩), .int .i64 (floor + (k : Int)), .int .i64 (most : Int)] W (EvPost (floor + (k : Int)) [] most W) := by
  have C1 := hmk (past_ok S rev floor (floor + (k : Int)) most mb mn (.slice (some ⟨g, o, none⟩) k k) W hbox (by omega) (by omega) h2 (by omega))
  have HS := hmk hbox
  have hsub : floor + (k : Int) - floor = (k : Int) := by omega
  have hwk : IntKind.i64.wrap (k : Int) = (k : Int) := wrap_small _ (by omega) (by omega)
  clear hbox
  go_enter Try.func29, Try.ntmps29
  go_wp2_with fail
  refine C1.out.mono ?_
  rintro e W1 ⟨rfl, rfl⟩
  clear C1
  go_wp2_with fail
  refine wp_region_held_drew (S := fun Y => Y.heap[S]? = some (.cells #[.int .i64 rev, .int .i64 floor, mb, mn, (.slice (some ⟨g, o, none⟩) k k)] 57)) (by kernel_rfl) HS.out (fun hHeld => ?_)
  (refine wpAnyH_take (i := 0) (v := ?_) rfl (by kernel_rfl) (by kernel_rfl) (by kernel_rfl) (fun _ _ _ h => h) (Or.inl ⟨by kernel_rfl, ?_⟩) (by assumption) ?_; rotate_left 1; (intro W0 hSw; (have s1 : W0.cell? ⟨S, 1, none⟩ = some (.int .i64 floor) := (by rw [cell_of_block hSw]; rfl)); (have s4 : W0.cell? ⟨S, 4, none⟩ = some (.slice (some ⟨g, o, none⟩) k k) := (by rw [cell_of_block hSw]; rfl)); go_simp; (try with_reducible rfl)); (try simp only [Act.put, List.setIfInBounds_toArray, List.set_cons_zero, List.set_cons_succ]))
  (refine wpAnyH_take (i := 1) (v := ?_) rfl (by kernel_rfl) (by kernel_rfl) (by kernel_rfl) (fun _ _ _ h => h) (Or.inl ⟨by kernel_rfl, ?_⟩) (by assumption) ?_; rotate_left 1; (intro W0 hSw; (have s1 : W0.cell? ⟨S, 1, none⟩ = some (.int .i64 floor) := (by rw [cell_of_block hSw]; rfl)); (have s4 : W0.cell? ⟨S, 4, none⟩ = some (.slice (some ⟨g, o, none⟩) k k) := (by rw [cell_of_block hSw]; rfl)); go_simp; (try with_reducible rfl)); (try simp only [Act.put, List.setIfInBounds_toArray, List.set_cons_zero, List.set_cons_succ]))
  (refine wpAnyH_take (i := 2) (v := ?_) rfl (by kernel_rfl) (by kernel_rfl) (by kernel_rfl) (fun _ _ _ h => h) (Or.inl ⟨by kernel_rfl, ?_⟩) (by assumption) ?_; rotate_left 1; (intro W0 hSw; (have s1 : W0.cell? ⟨S, 1, none⟩ = some (.int .i64 floor) := (by rw [cell_of_block hSw]; rfl)); (have s4 : W0.cell? ⟨S, 4, none⟩ = some (.slice (some ⟨g, o, none⟩) k k) := (by rw [cell_of_block hSw]; rfl)); go_simp; (try with_reducible rfl)); (try simp only [Act.put, List.setIfInBounds_toArray, List.set_cons_zero, List.set_cons_succ]))
  (refine wpAnyH_take (i := 3) (v := ?_) rfl (by kernel_rfl) (by kernel_rfl) (by kernel_rfl) (fun _ _ _ h => h) (Or.inl ⟨by kernel_rfl, ?_⟩) (by assumption) ?_; rotate_left 1; (intro W0 hSw; (have s1 : W0.cell? ⟨S, 1, none⟩ = some (.int .i64 floor) := (by rw [cell_of_block hSw]; rfl)); (have s4 : W0.cell? ⟨S, 4, none⟩ = some (.slice (some ⟨g, o, none⟩) k k) := (by rw [cell_of_block hSw]; rfl)); go_simp; (try with_reducible rfl)); (try simp only [Act.put, List.setIfInBounds_toArray, List.set_cons_zero, List.set_cons_succ]))
  (refine wpAnyH_take (i := 4) (v := ?_) rfl (by kernel_rfl) (by kernel_rfl) (by kernel_rfl) (fun _ _ _ h => h) (Or.inl ⟨by kernel_rfl, ?_⟩) (by assumption) ?_; rotate_left 1; (intro W0 hSw; (have s1 : W0.cell? ⟨S, 1, none⟩ = some (.int .i64 floor) := (by rw [cell_of_block hSw]; rfl)); (have s4 : W0.cell? ⟨S, 4, none⟩ = some (.slice (some ⟨g, o, none⟩) k k) := (by rw [cell_of_block hSw]; rfl)); go_simp; (try with_reducible rfl)); (try simp only [Act.put, List.setIfInBounds_toArray, List.set_cons_zero, List.set_cons_succ]))
  (refine wpAnyH_take (i := 5) (v := ?_) rfl (by kernel_rfl) (by kernel_rfl) (by kernel_rfl) (fun _ _ _ h => h) (Or.inl ⟨by kernel_rfl, ?_⟩) (by assumption) ?_; rotate_left 1; (intro W0 hSw; (have s1 : W0.cell? ⟨S, 1, none⟩ = some (.int .i64 floor) := (by rw [cell_of_block hSw]; rfl)); (have s4 : W0.cell? ⟨S, 4, none⟩ = some (.slice (some ⟨g, o, none⟩) k k) := (by rw [cell_of_block hSw]; rfl)); go_simp; (try with_reducible rfl)); (try simp only [Act.put, List.setIfInBounds_toArray, List.set_cons_zero, List.set_cons_succ]))
  (refine wpAnyH_take (i := 6) (v := ?_) rfl (by kernel_rfl) (by kernel_rfl) (by kernel_rfl) (fun _ _ _ h => h) (Or.inl ⟨by kernel_rfl, ?_⟩) (by assumption) ?_; rotate_left 1; (intro W0 hSw; (have s1 : W0.cell? ⟨S, 1, none⟩ = some (.int .i64 floor) := (by rw [cell_of_block hSw]; rfl)); (have s4 : W0.cell? ⟨S, 4, none⟩ = some (.slice (some ⟨g, o, none⟩) k k) := (by rw [cell_of_block hSw]; rfl)); go_simp; (try with_reducible rfl)); (try simp only [Act.put, List.setIfInBounds_toArray, List.set_cons_zero, List.set_cons_succ]))
  (refine wpAnyH_take (i := 7) (v := ?_) rfl (by kernel_rfl) (by kernel_rfl) (by kernel_rfl) (fun _ _ _ h => h) (Or.inl ⟨by kernel_rfl, ?_⟩) (by assumption) ?_; rotate_left 1; (intro W0 hSw; (have s1 : W0.cell? ⟨S, 1, none⟩ = some (.int .i64 floor) := (by rw [cell_of_block hSw]; rfl)); (have s4 : W0.cell? ⟨S, 4, none⟩ = some (.slice (some ⟨g, o, none⟩) k k) := (by rw [cell_of_block hSw]; rfl)); go_simp; (try with_reducible rfl)); (try simp only [Act.put, List.setIfInBounds_toArray, List.set_cons_zero, List.set_cons_succ]))
  (refine wpAnyH_take (i := 8) (v := ?_) rfl (by kernel_rfl) (by kernel_rfl) (by kernel_rfl) (fun _ _ _ h => h) (Or.inl ⟨by kernel_rfl, ?_⟩) (by assumption) ?_; rotate_left 1; (intro W0 hSw; (have s1 : W0.cell? ⟨S, 1, none⟩ = some (.int .i64 floor) := (by rw [cell_of_block hSw]; rfl)); (have s4 : W0.cell? ⟨S, 4, none⟩ = some (.slice (some ⟨g, o, none⟩) k k) := (by rw [cell_of_block hSw]; rfl)); go_simp; (try with_reducible rfl)); (try simp only [Act.put, List.setIfInBounds_toArray, List.set_cons_zero, List.set_cons_succ]))
  (refine wpAnyH_take (i := 9) (v := ?_) rfl (by kernel_rfl) (by kernel_rfl) (by kernel_rfl) (fun _ _ _ h => h) (Or.inl ⟨by kernel_rfl, ?_⟩) (by assumption) ?_; rotate_left 1; (intro W0 hSw; (have s1 : W0.cell? ⟨S, 1, none⟩ = some (.int .i64 floor) := (by rw [cell_of_block hSw]; rfl)); (have s4 : W0.cell? ⟨S, 4, none⟩ = some (.slice (some ⟨g, o, none⟩) k k) := (by rw [cell_of_block hSw]; rfl)); go_simp; (try with_reducible rfl)); (try simp only [Act.put, List.setIfInBounds_toArray, List.set_cons_zero, List.set_cons_succ]))
  (refine wpAnyH_take (i := 10) (v := (.slice (some ⟨g, o, none⟩) 0 0)) rfl (by kernel_rfl) (by kernel_rfl) (by kernel_rfl) (fun _ _ _ h => h) (Or.inl ⟨by kernel_rfl, ?_⟩) (by assumption) ?_; (intro W0 hSw; (have s1 : W0.cell? ⟨S, 1, none⟩ = some (.int .i64 floor) := (by rw [cell_of_block hSw]; rfl)); (have s4 : W0.cell? ⟨S, 4, none⟩ = some (.slice (some ⟨g, o, none⟩) k k) := (by rw [cell_of_block hSw]; rfl)); go_simp); (try simp only [Act.put, List.setIfInBounds_toArray, List.set_cons_zero, List.set_cons_succ]))
  refine wpAnyH_ready (rs := [11]) (by kernel_rfl) (by simp) ?_
  refine AllReadyH.cons rfl (fun K hK => ?_) AllReadyH.nil
  go_simp
  refine hK.out _ _ (HS.out) (fun hHeld => ?_)
  clear hK K
  (try simp only [Act.put, List.setIfInBounds_toArray, List.set_cons_zero, List.set_cons_succ])
  refine wpAnyH_done (by kernel_rfl) ?_ _
  (try dsimp only [Act.put, List.getElem_toArray, List.getElem_cons_succ, List.getElem_cons_zero, List.setIfInBounds_toArray, List.set_cons_zero, List.set_cons_succ])
  clear hHeld
  have hmin : min (most : Int) 0 = 0 := by omega
  go_wp2_with fail
  refine wp_loop_rounds 1 ?_
  rw [rounds_succ]
  go_wp2_with fail
  go_ret2
  exact ⟨_, [], rfl, by simp, ⟨World.ownsRow_nil _ _ 70 4, rfl, by simp, by simp⟩, (Below.refl _ _).drew⟩
set_option maxHeartbeats 8000000 in
set_option maxRecDepth 100000 in
theorem events_part (S : Nat) (rev floor : Int) (mb mn : Value) (g o L c k : Nat) (l : List Evt) (most : Nat) (W : World) (hbox : W.heap[S]? = some (.cells #[.int .i64 rev, .int .i64 floor, mb, mn, (.slice (some ⟨g, o, none⟩) L c)] 57)) (h1 : 0 ≤ floor) (h2 : (floor + (k : Int)) ≤ rev) (h3 : rev ≤ 9007199254740991) (hmost : most ≤ 1000000) (hl : l.length = L - k) (hkc : k < c) (hkL : k ≤ L) (hLc : L ≤ c) (hL : L < 400000) (hcm : c ≤ maxLen) (hg : g < W.heap.size) (hc : ∀ j u, (evs l)[j]? = some u → W.cell? ⟨g, o + k * 3 + j, none⟩ = some u) :
    Calls Try.prog 29 #[.pointer (some ⟨S, 0, none⟩), .int .i64 (floor + (k : Int)), .int .i64 (most : Int)] W (EvPost (floor + (k : Int)) l most W) := by
  have C1 := hmk (past_ok S rev floor (floor + (k : Int)) most mb mn (.slice (some ⟨g, o, none⟩) L c) W hbox (by omega) (by omega) h2 (by omega))
  have HS := hmk hbox
  have hsub : floor + (k : Int) - floor = (k : Int) := by omega
  have hwk : IntKind.i64.wrap (k : Int) = (k : Int) := wrap_small _ (by omega) (by omega)
  obtain ⟨i, hi, hz⟩ := Option.map_eq_some_iff.1 info70
  simp only [Prod.mk.injEq] at hz
  obtain ⟨hz0, hz1, hz2⟩ := hz
  have HC := hmk hc
  have HL := hmk hl
  have c2 : (k : Int) ≤ (L : Int) := by omega
  have yck : ¬ c = k := by omega
  clear hc hl
  clear hbox
  go_enter Try.func29, Try.ntmps29
  go_wp2_with fail
  refine C1.out.mono ?_
  rintro e W1 ⟨rfl, rfl⟩
  clear C1
  go_wp2_with fail
  refine wp_region_held_drew (S := fun Y => Y.heap[S]? = some (.cells #[.int .i64 rev, .int .i64 floor, mb, mn, (.slice (some ⟨g, o, none⟩) L c)] 57)) (by kernel_rfl) HS.out (fun hHeld => ?_)
  (refine wpAnyH_take (i := 0) (v := ?_) rfl (by kernel_rfl) (by kernel_rfl) (by kernel_rfl) (fun _ _ _ h => h) (Or.inl ⟨by kernel_rfl, ?_⟩) (by assumption) ?_; rotate_left 1; (intro W0 hSw; (have s1 : W0.cell? ⟨S, 1, none⟩ = some (.int .i64 floor) := (by rw [cell_of_block hSw]; rfl)); (have s4 : W0.cell? ⟨S, 4, none⟩ = some (.slice (some ⟨g, o, none⟩) L c) := (by rw [cell_of_block hSw]; rfl)); go_simp; (try with_reducible rfl)); (try simp only [Act.put, List.setIfInBounds_toArray, List.set_cons_zero, List.set_cons_succ]))
  (refine wpAnyH_take (i := 1) (v := ?_) rfl (by kernel_rfl) (by kernel_rfl) (by kernel_rfl) (fun _ _ _ h => h) (Or.inl ⟨by kernel_rfl, ?_⟩) (by assumption) ?_; rotate_left 1; (intro W0 hSw; (have s1 : W0.cell? ⟨S, 1, none⟩ = some (.int .i64 floor) := (by rw [cell_of_block hSw]; rfl)); (have s4 : W0.cell? ⟨S, 4, none⟩ = some (.slice (some ⟨g, o, none⟩) L c) := (by rw [cell_of_block hSw]; rfl)); go_simp; (try with_reducible rfl)); (try simp only [Act.put, List.setIfInBounds_toArray, List.set_cons_zero, List.set_cons_succ]))
  (refine wpAnyH_take (i := 2) (v := ?_) rfl (by kernel_rfl) (by kernel_rfl) (by kernel_rfl) (fun _ _ _ h => h) (Or.inl ⟨by kernel_rfl, ?_⟩) (by assumption) ?_; rotate_left 1; (intro W0 hSw; (have s1 : W0.cell? ⟨S, 1, none⟩ = some (.int .i64 floor) := (by rw [cell_of_block hSw]; rfl)); (have s4 : W0.cell? ⟨S, 4, none⟩ = some (.slice (some ⟨g, o, none⟩) L c) := (by rw [cell_of_block hSw]; rfl)); go_simp; (try with_reducible rfl)); (try simp only [Act.put, List.setIfInBounds_toArray, List.set_cons_zero, List.set_cons_succ]))
  (refine wpAnyH_take (i := 3) (v := ?_) rfl (by kernel_rfl) (by kernel_rfl) (by kernel_rfl) (fun _ _ _ h => h) (Or.inl ⟨by kernel_rfl, ?_⟩) (by assumption) ?_; rotate_left 1; (intro W0 hSw; (have s1 : W0.cell? ⟨S, 1, none⟩ = some (.int .i64 floor) := (by rw [cell_of_block hSw]; rfl)); (have s4 : W0.cell? ⟨S, 4, none⟩ = some (.slice (some ⟨g, o, none⟩) L c) := (by rw [cell_of_block hSw]; rfl)); go_simp; (try with_reducible rfl)); (try simp only [Act.put, List.setIfInBounds_toArray, List.set_cons_zero, List.set_cons_succ]))
  (refine wpAnyH_take (i := 4) (v := ?_) rfl (by kernel_rfl) (by kernel_rfl) (by kernel_rfl) (fun _ _ _ h => h) (Or.inl ⟨by kernel_rfl, ?_⟩) (by assumption) ?_; rotate_left 1; (intro W0 hSw; (have s1 : W0.cell? ⟨S, 1, none⟩ = some (.int .i64 floor) := (by rw [cell_of_block hSw]; rfl)); (have s4 : W0.cell? ⟨S, 4, none⟩ = some (.slice (some ⟨g, o, none⟩) L c) := (by rw [cell_of_block hSw]; rfl)); go_simp; (try with_reducible rfl)); (try simp only [Act.put, List.setIfInBounds_toArray, List.set_cons_zero, List.set_cons_succ]))
  (refine wpAnyH_take (i := 5) (v := ?_) rfl (by kernel_rfl) (by kernel_rfl) (by kernel_rfl) (fun _ _ _ h => h) (Or.inl ⟨by kernel_rfl, ?_⟩) (by assumption) ?_; rotate_left 1; (intro W0 hSw; (have s1 : W0.cell? ⟨S, 1, none⟩ = some (.int .i64 floor) := (by rw [cell_of_block hSw]; rfl)); (have s4 : W0.cell? ⟨S, 4, none⟩ = some (.slice (some ⟨g, o, none⟩) L c) := (by rw [cell_of_block hSw]; rfl)); go_simp; (try with_reducible rfl)); (try simp only [Act.put, List.setIfInBounds_toArray, List.set_cons_zero, List.set_cons_succ]))
  (refine wpAnyH_take (i := 6) (v := ?_) rfl (by kernel_rfl) (by kernel_rfl) (by kernel_rfl) (fun _ _ _ h => h) (Or.inl ⟨by kernel_rfl, ?_⟩) (by assumption) ?_; rotate_left 1; (intro W0 hSw; (have s1 : W0.cell? ⟨S, 1, none⟩ = some (.int .i64 floor) := (by rw [cell_of_block hSw]; rfl)); (have s4 : W0.cell? ⟨S, 4, none⟩ = some (.slice (some ⟨g, o, none⟩) L c) := (by rw [cell_of_block hSw]; rfl)); go_simp; (try with_reducible rfl)); (try simp only [Act.put, List.setIfInBounds_toArray, List.set_cons_zero, List.set_cons_succ]))
  (refine wpAnyH_take (i := 7) (v := ?_) rfl (by kernel_rfl) (by kernel_rfl) (by kernel_rfl) (fun _ _ _ h => h) (Or.inl ⟨by kernel_rfl, ?_⟩) (by assumption) ?_; rotate_left 1; (intro W0 hSw; (have s1 : W0.cell? ⟨S, 1, none⟩ = some (.int .i64 floor) := (by rw [cell_of_block hSw]; rfl)); (have s4 : W0.cell? ⟨S, 4, none⟩ = some (.slice (some ⟨g, o, none⟩) L c) := (by rw [cell_of_block hSw]; rfl)); go_simp; (try with_reducible rfl)); (try simp only [Act.put, List.setIfInBounds_toArray, List.set_cons_zero, List.set_cons_succ]))
  (refine wpAnyH_take (i := 8) (v := ?_) rfl (by kernel_rfl) (by kernel_rfl) (by kernel_rfl) (fun _ _ _ h => h) (Or.inl ⟨by kernel_rfl, ?_⟩) (by assumption) ?_; rotate_left 1; (intro W0 hSw; (have s1 : W0.cell? ⟨S, 1, none⟩ = some (.int .i64 floor) := (by rw [cell_of_block hSw]; rfl)); (have s4 : W0.cell? ⟨S, 4, none⟩ = some (.slice (some ⟨g, o, none⟩) L c) := (by rw [cell_of_block hSw]; rfl)); go_simp; (try with_reducible rfl)); (try simp only [Act.put, List.setIfInBounds_toArray, List.set_cons_zero, List.set_cons_succ]))
  (refine wpAnyH_take (i := 9) (v := ?_) rfl (by kernel_rfl) (by kernel_rfl) (by kernel_rfl) (fun _ _ _ h => h) (Or.inl ⟨by kernel_rfl, ?_⟩) (by assumption) ?_; rotate_left 1; (intro W0 hSw; (have s1 : W0.cell? ⟨S, 1, none⟩ = some (.int .i64 floor) := (by rw [cell_of_block hSw]; rfl)); (have s4 : W0.cell? ⟨S, 4, none⟩ = some (.slice (some ⟨g, o, none⟩) L c) := (by rw [cell_of_block hSw]; rfl)); go_simp; (try with_reducible rfl)); (try simp only [Act.put, List.setIfInBounds_toArray, List.set_cons_zero, List.set_cons_succ]))
  (refine wpAnyH_take (i := 10) (v := (.slice (some ⟨g, o + k * 3, none⟩) (L - k) (c - k))) rfl (by kernel_rfl) (by kernel_rfl) (by kernel_rfl) (fun _ _ _ h => h) (Or.inl ⟨by kernel_rfl, ?_⟩) (by assumption) ?_; (intro W0 hSw; (have s1 : W0.cell? ⟨S, 1, none⟩ = some (.int .i64 floor) := (by rw [cell_of_block hSw]; rfl)); (have s4 : W0.cell? ⟨S, 4, none⟩ = some (.slice (some ⟨g, o, none⟩) L c) := (by rw [cell_of_block hSw]; rfl)); go_simp); (try simp only [Act.put, List.setIfInBounds_toArray, List.set_cons_zero, List.set_cons_succ]))
  refine wpAnyH_ready (rs := [11]) (by kernel_rfl) (by simp) ?_
  refine AllReadyH.cons rfl (fun K hK => ?_) AllReadyH.nil
  go_simp
  refine hK.out _ _ (HS.out) (fun hHeld => ?_)
  clear hK K
  (try simp only [Act.put, List.setIfInBounds_toArray, List.set_cons_zero, List.set_cons_succ])
  refine wpAnyH_done (by kernel_rfl) ?_ _
  (try dsimp only [Act.put, List.getElem_toArray, List.getElem_cons_succ, List.getElem_cons_zero, List.setIfInBounds_toArray, List.set_cons_zero, List.set_cons_succ])
  clear hHeld
  generalize hob : o + k * 3 = ob at *
  obtain ⟨m, hm⟩ : ∃ m : Nat, m = min most (L - k) := ⟨_, rfl⟩
  have hmin : min (most : Int) ((L - k : Nat) : Int) = (m : Int) := by omega
  have hml : m ≤ L - k := by omega
  have hmc : (m : Int) ≤ ((c - k : Nat) : Int) := by omega
  have HM := hmk hm
  clear hm hob hkc yck
  generalize hLk : L - k = Lk at *
  generalize hck : c - k = ck at *
  have hLk2 : Lk ≤ 400000 := by omega
  clear hLk hck hkL hLc c2 hL hcm
  go_wp2_with fail
  go_loopw [10, 38] (fun e10 e38 wr => ∃ j : Nat, e38 = .int .i64 (j : Int) ∧ j ≤ m ∧ Hid (∃ l', l'.length = j ∧ Eis wr W1.heap.size (floor + (k : Int)) l e10 l' ∧ Below W1.heap.size W1 wr)) (fun _ e38 _ => m - (RowKit.intOf e38).toNat)
  case atStart => exact ⟨0, rfl, by omega, [], rfl, ⟨World.ownsRow_nil _ _ 70 4, rfl, by simp, by simp⟩, (Below.refl _ _).drew⟩
  case round =>
    obtain ⟨j, rfl, hjm, HI⟩ := hrel
    by_cases hlt : (j : Int) < (m : Int)
    · obtain ⟨l', hlj, hI, hbw⟩ := HI.out
      have hjl : j < l.length := by rw [HL.out]; omega
      obtain ⟨⟨kd, key, d⟩, hx⟩ : ∃ e, l[j]? = some e := ⟨l[j], List.getElem?_eq_getElem hjl⟩
      obtain ⟨q1, q2, q3⟩ := evs_at hx
      have hkc : ∀ a : Nat, wr.cell? ⟨g, a, none⟩ = W1.cell? ⟨g, a, none⟩ := fun a => World.cell?_of_block (w := W1) (a := ⟨g, a, none⟩) (hbw.block g hg)
      have x0 : wr.cell? ⟨g, ob + j * 3, none⟩ = some (.int .i64 kd) := (hkc _).trans (HC.out _ _ q1)
      have x1 : wr.cell? ⟨g, ob + j * 3 + 1, none⟩ = some (.string key) := (hkc _).trans (HC.out _ _ q2)
      have x2 : wr.cell? ⟨g, ob + j * 3 + 2, none⟩ = some (.string d) := (hkc _).trans (HC.out _ _ q3)
      obtain ⟨c2, V2, hcv, hV2, b2⟩ := conv_any d (wr.alloc (.cells #[.int .i64 kd, .string key, .string d] 60)) (wr.heap.size + 1) (alloc_size _ _)
      have bV : Below wr.heap.size wr V2 := (one_belowG wr (.cells #[.int .i64 kd, .string key, .string d] 60)).trans (b2.mono (by rw [alloc_size]; omega))
      have bT := bV.trans ((one_belowG V2 (.cells #[.int .i64 (floor + (k : Int) + 1 + (j : Int)), .int .i64 kd, .string key, .slice (some ⟨wr.heap.size + 1, 0, none⟩) d.size c2] 70)).mono bV.size)
      have hT := heap_alloc_new V2 (.cells #[.int .i64 (floor + (k : Int) + 1 + (j : Int)), .int .i64 kd, .string key, .slice (some ⟨wr.heap.size + 1, 0, none⟩) d.size c2] 70)
      have hrT := hI.row.kept (below_all bT) (by cases hv : u10.ownBlock <;> simp)
      have hnews : ∀ a u, (eic ⟨floor + (k : Int) + 1 + (j : Int), (kd, key, d), wr.heap.size + 1, c2⟩)[a]? = some u → (V2.alloc (.cells #[.int .i64 (floor + (k : Int) + 1 + (j : Int)), .int .i64 kd, .string key, .slice (some ⟨wr.heap.size + 1, 0, none⟩) d.size c2] 70)).cell? ((⟨V2.heap.size, 0, none⟩ : Addr).add a) = some u := fun a u ha => by
        rw [Go.WideShapes.add_plain, Nat.zero_add, cell_of_block hT]
        simpa [eic] using ha
      have hone : ∀ u ∈ eic ⟨floor + (k : Int) + 1 + (j : Int), (kd, key, d), wr.heap.size + 1, c2⟩, u.oneCell' = true := fun u hu => by
        simp only [eic, List.mem_cons, List.mem_nil_iff, or_false] at hu
        rcases hu with rfl | rfl | rfl | rfl <;> rfl
      have HRT := hmk hrT
      have HNE := hmk hnews
      have HON := hmk hone
      have BT := hmk bT
      have HV2 := hmk hV2
      have HII := hmk hI
      have HBW := hmk hbw
      have HLK := hmk hlj
      clear hT hrT hnews hone bT b2 hV2 hI hbw bV HI hkc q1 q2 q3 hlj
      go_wp2_with (at_builtin; refine wpList_append_own _ rfl _ _ 35 rfl W1.heap.size 70 i _ 4 56 Try.underlying35 hi hz0 hz1 hz2 rfl (by decide) u10 l'.length (eis l') rfl HRT.out ⟨_, 0, none⟩ 1 1 (eic ⟨floor + (k : Int) + 1 + (j : Int), (kd, key, d), wr.heap.size + 1, c2⟩) rfl rfl HNE.out HON.out (by have := HLK.out; unfold maxLen at *; omega) (by have := HLK.out; omega) (by have := HBW.out.size; have := BT.out.size; omega) ?_; intro v' w3 hown' hg3 hnil3)
      have hbx : Below W1.heap.size W1 (V2.alloc (.cells #[.int .i64 (floor + (k : Int) + 1 + (j : Int)), .int .i64 kd, .string key, .slice (some ⟨wr.heap.size + 1, 0, none⟩) d.size c2] 70)) := HBW.out.trans (BT.out.mono HBW.out.size)
      have hkp : ∀ y, De (V2.alloc (.cells #[.int .i64 (floor + (k : Int) + 1 + (j : Int)), .int .i64 kd, .string key, .slice (some ⟨wr.heap.size + 1, 0, none⟩) d.size c2] 70)) W1.heap.size y → De w3 W1.heap.size y := fun y hy => hy.keep (hg3.block y.g (lt_of_block hy.2.choose_spec.1) (fun e => hy.ne HRT.out e.symm))
      have hdx : De (V2.alloc (.cells #[.int .i64 (floor + (k : Int) + 1 + (j : Int)), .int .i64 kd, .string key, .slice (some ⟨wr.heap.size + 1, 0, none⟩) d.size c2] 70)) W1.heap.size ⟨floor + (k : Int) + 1 + (j : Int), (kd, key, d), wr.heap.size + 1, c2⟩ := by
        obtain ⟨fr0, q5, q6⟩ := HV2.out
        exact ⟨by have := HBW.out.size; show W1.heap.size ≤ wr.heap.size + 1; omega, fr0, ((one_belowG V2 _).block _ (lt_of_block q5)).trans q5, q6⟩
      refine ⟨⟨j + 1, congrArg (Value.int .i64) (by omega), by omega, l' ++ [⟨floor + (k : Int) + 1 + (j : Int), (kd, key, d), wr.heap.size + 1, c2⟩], by rw [List.length_append, HLK.out]; rfl, HII.out.step hown' (by rw [HLK.out]; exact hx) (by rw [HLK.out]) (hkp _ hdx) (fun y hy => hkp y ((HII.out.dt y hy).keep (BT.out.block y.g (lt_of_block (HII.out.dt y hy).2.choose_spec.1)))), hbx.grown hg3 hbx.size (fun a ha => (HRT.out.lt a ha).1)⟩, ?_⟩
      simp only [RowKit.intOf]
      omega
    · go_wp2_with fail
      (try simp only [Exit.inBlock, Exit.then])
      go_ret2
      obtain ⟨l', hlj, hI, hbw⟩ := HI.out
      exact ⟨_, l', rfl, by rw [hlj, HL.out, ← HM.out]; omega, hI, hbw⟩
theorem events_any (F : Nat → Prop) (w0 W : World) (S : Nat) (rev floor : Int) (bb bn n : Nat) (D DN : DataW Unit) (pv : Value) (l : List Evt) (k most : Nat) (h : Sto F w0 W S rev floor bb bn n D DN pv l) (hkl : k ≤ l.length) (hll : l.length < 400000) (hr : 0 ≤ floor) (h3 : rev ≤ 9007199254740991) (hrev : floor + (k : Int) ≤ rev) (hmost : most ≤ 1000000) :
    Calls Try.prog 29 #[.pointer (some ⟨S, 0, none⟩), .int .i64 (floor + (k : Int)), .int .i64 (most : Int)] W (EvPost (floor + (k : Int)) (l.drop k) most W) := by
  rcases h.past.p with ⟨rfl, rfl⟩ | ⟨g, o, c, sz, rfl, p1, p2, p3, p4, p5, p6⟩
  · obtain rfl : k = 0 := by simpa using hkl
    rw [show floor + ((0 : Nat) : Int) = floor by omega] at *
    exact events_nil S rev floor _ _ most W h.box hr hrev h3 hmost
  · obtain ⟨n1, n2, n3, n4, n5⟩ := h.ng (g := g) (a := o) (m := l.length) (c := c) rfl
    by_cases hc : k < c
    · exact events_part S rev floor _ _ g o l.length c k (l.drop k) most W h.box hr hrev h3 hmost (by rw [List.length_drop]) hc hkl p1 (by omega) p2 n5 (fun j u hj => by
        rw [(evs_cut l k).2, List.getElem?_drop] at hj
        rw [Nat.add_assoc]
        exact p6 _ u hj)
    · obtain rfl : c = k := by omega
      have hlk : l.length = c := by omega
      have hd : l.drop c = [] := List.drop_eq_nil_of_le (by omega)
      have hb := h.box
      rw [hlk] at hb
      rw [hd]
      exact events_all S rev floor _ _ g o c most W hb hr hrev h3 hmost (by omega)
end Go.Proofs.Ytpbejbpimcidjaa
