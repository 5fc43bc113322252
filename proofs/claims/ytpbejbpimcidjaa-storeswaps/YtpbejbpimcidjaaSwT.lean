/- held, wish. -/
import Derived.Test.YtpbejbpimcidjaaSwS
set_option linter.unusedSimpArgs false
set_option linter.unusedVariables false
namespace Go.Proofs.Ytpbejbpimcidjaa
open Go Go.Lib Go.RowKit Go.Maps Go.Sort

section
variable {w0 W : World} {B : Nat} {at_ first : Int} {hh : List He} {row : List Value} {sv evv : Value} (h : Bok w0 W B at_ first hh row sv evv)
include h
theorem Bok.c0 : W.cell? ⟨B, 0, none⟩ = some (.int .i64 at_) := by
  rw [cell_of_block h.box]
  simp [Array.getElem?_append]
theorem Bok.cr {j : Nat} {v : Value} (hv : row[j]? = some v) : W.cell? ⟨B, 1 + j, none⟩ = some v := by
  have hl := h.now.1
  have hj : j < 15 := by
    rcases Nat.lt_or_ge j 15 with q | q
    · exact q
    · rw [List.getElem?_eq_none (by omega)] at hv; cases hv
  rw [cell_of_block h.box, Array.append_assoc, Array.getElem?_append_right (by simp), Array.getElem?_append_left (by simp; omega)]
  simpa using hv
theorem Bok.c16 : W.cell? ⟨B, 16, none⟩ = some sv := by
  have hl := h.now.1
  rw [cell_of_block h.box, Array.getElem?_append_right (by simp; omega)]
  simp [hl]
theorem Bok.c17 : W.cell? ⟨B, 17, none⟩ = some evv := by
  have hl := h.now.1
  rw [cell_of_block h.box, Array.getElem?_append_right (by simp; omega)]
  simp [hl]
theorem Bok.seen (k : Nat) (hk : k < 5) : ∃ a b c, W.cell? ⟨B, 1 + k * 3, none⟩ = some a ∧ W.cell? ⟨B, 1 + k * 3 + 1, none⟩ = some b ∧ W.cell? ⟨B, 1 + k * 3 + 2, none⟩ = some c ∧ SnC W (runA A0 first hh k) a b c := by
  obtain ⟨a, b, c, h1, h2, h3, h4⟩ := h.now.2 k hk
  exact ⟨a, b, c, h.cr h1, h.cr h2, h.cr h3, h4⟩
end
theorem SnC.rev {w : World} {s : Sn} {a b c : Value} (h : SnC w s a b c) : ∃ r : Int, b = .int .i64 r := by
  cases s with
  | none => exact ⟨_, h.2.1⟩
  | some x => exact ⟨_, h.2.1⟩
theorem SnC.there {w : World} {s : Sn} {a b c : Value} (h : SnC w s a b c) : a = .bool s.isSome := by
  cases s with
  | none => exact h.1
  | some x => exact h.1
theorem SnC.byt {w : World} {s : Sn} {a b c : Value} (h : SnC w s a b c) : Byt w c (dtS s) ∧ (dtS s).size ≤ 4096 := by
  cases s with
  | none => exact ⟨.inl ⟨h.2.2, rfl⟩, by decide⟩
  | some x => exact ⟨h.2.2.1, h.2.2.2⟩
set_option maxHeartbeats 4000000 in
theorem held_any (s : Sn) (a b c : Value) (rr : Int) (w : World) (h : SnC w s a b c) : Calls Try.prog 23 #[.agg #[a, b, c], .int .i64 rr] w fun e w' => e = .returned (.int .i64 (hdW s rr)) ∧ Below w.heap.size w w' := by
  cases s with
  | none =>
    obtain ⟨rfl, rfl, rfl⟩ := h
    go_enter Try.func23, Try.ntmps23
    go_wp2_with fail
    go_ret
    exact ⟨rfl, one_belowG _ _⟩
  | some x =>
    obtain ⟨r, d⟩ := x
    obtain ⟨rfl, rfl, h3, h4⟩ := h
    obtain ⟨a3, c3, rfl⟩ := h3.form
    clear h3 h4
    by_cases hr : r = rr
    · have e : hdW (some (r, d)) rr = 0 := by simp [hdW, hr]
      rw [e]
      subst hr
      go_enter Try.func23, Try.ntmps23
      go_wp2_with fail
      go_ret
      exact ⟨rfl, one_belowG _ _⟩
    · have e : hdW (some (r, d)) rr = 192 := by simp [hdW, hr]
      rw [e]
      clear e
      go_enter Try.func23, Try.ntmps23
      go_wp2_with fail
      go_ret
      exact ⟨rfl, one_belowG _ _⟩
set_option maxHeartbeats 4000000 in
set_option maxRecDepth 100000 in
theorem wish_any (w0 W : World) (B : Nat) (at_ first : Int) (hh : List He) (row : List Value) (sv evv : Value) (h : Bok w0 W B at_ first hh row sv evv) (pk pkd pr : Int) (a : Option Addr) (n c : Nat) : Calls Try.prog 20 #[.pointer (some ⟨B, 0, none⟩), .agg #[.int .i64 pk, .int .i64 pkd, .int .i64 pr, .slice a n c]] W fun e w' => (∃ rr : Int, e = .returned (.int .i64 rr)) ∧ Below W.heap.size W w' := by
  have hT := heap_alloc_new W (.cells #[.int .i64 pk, .int .i64 pkd, .int .i64 pr, .slice a n c] 42)
  have b1 := one_belowG W (.cells #[.int .i64 pk, .int .i64 pkd, .int .i64 pr, .slice a n c] 42)
  have x0 : (W.alloc (.cells #[.int .i64 pk, .int .i64 pkd, .int .i64 pr, .slice a n c] 42)).cell? ⟨W.heap.size, 0, none⟩ = some (.int .i64 pk) := by rw [cell_of_block hT]; rfl
  have HB := hmk h
  have HT := hmk hT
  have B1 := hmk b1
  have hz : W.heap.size < (W.alloc (.cells #[.int .i64 pk, .int .i64 pkd, .int .i64 pr, .slice a n c] 42)).heap.size := by rw [alloc_size]; omega
  clear h hT b1
  go_enter Try.func20, Try.ntmps20
  go_wp2_with fail
  clear x0
  generalize W.alloc (.cells #[.int .i64 pk, .int .i64 pkd, .int .i64 pr, .slice a n c] 42) = W1 at *
  refine (within_any pk 5 W1 (by decide) (by decide)).mono ?_
  rintro e W2 ⟨⟨k, hk, rfl⟩, b2⟩
  have hT2 := (b2.block _ hz).trans HT.out
  have x2 : W2.cell? ⟨W.heap.size, 2, none⟩ = some (.int .i64 pr) := by rw [cell_of_block hT2]; rfl
  have B2 := hmk (B1.out.trans (b2.mono B1.out.size))
  clear b2 hT2 B1 HT hz
  go_wp2_with fail
  refine (within_any pr 3 W2 (by decide) (by decide)).mono ?_
  rintro e W3 ⟨⟨q, hq, rfl⟩, b3⟩
  have B3 := hmk (B2.out.trans (b3.mono B2.out.size))
  have h3 := HB.out.keep (Kb.of_below B3.out)
  obtain ⟨va, vb, vc, y1, y2, y3, hsn⟩ := h3.seen k (by omega)
  obtain ⟨r, rfl⟩ := hsn.rev
  have c0 := h3.c0
  clear b3 B2 h3 y1 y3 hsn x2 HB
  have hk5 : (k : Int) < 5 := hk
  have hq3 : q = 0 ∨ q = 1 ∨ q = 2 := by omega
  rcases hq3 with rfl | rfl | rfl
  · go_wp2_with fail
    go_ret
    exact ⟨⟨_, rfl⟩, B3.out⟩
  · go_wp2_with fail
    go_ret
    exact ⟨⟨_, rfl⟩, B3.out⟩
  · go_wp2_with fail
    go_ret
    exact ⟨⟨_, rfl⟩, B3.out⟩
end Go.Proofs.Ytpbejbpimcidjaa
