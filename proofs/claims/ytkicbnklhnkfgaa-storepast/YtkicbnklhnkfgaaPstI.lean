/- Create, checkPast, what Events answers of what is gone. -/
import Derived.Test.YtkicbnklhnkfgaaPstH
set_option linter.unusedSimpArgs false
set_option linter.unusedVariables false
namespace Go.Proofs.Ytkicbnklhnkfgaa
open Go Go.Lib Go.RowKit

set_option maxHeartbeats 4000000 in
theorem create_first (w0 W : World) (S : Nat) (rev floor : Int) (hbel : Below w0.heap.size w0 W) (hbox : W.heap[S]? = some (.cells #[.int .i64 rev, .int .i64 floor, .map none, .map none, .slice none 0 0] 42)) (hS : w0.heap.size ≤ S) (hr : 0 ≤ rev ∧ rev < 1000000) :
    Calls Try.prog 6 #[.pointer (some ⟨S, 0, none⟩), .string kk, .slice none 0 0] W fun e W' => e = .returned (.tuple #[.int .i64 (rev + 1), .int .i64 0]) ∧ ∃ bb bn D d pv l, l.length = 1 ∧ Sto w0 W' S (rev + 1) floor bb bn 1 D d pv l := by
  have hSl := lt_of_block hbox
  have b1 := one_belowG W (.cells #[.int .i64 0, .string ⟨#[]⟩] 45)
  have hb1 := (b1.block S hSl).trans hbox
  have c3 : W.cell? ⟨S, 3, none⟩ = some (.map none) := by rw [cell_of_block hbox]; rfl
  have c3' : (W.alloc (.cells #[.int .i64 0, .string ⟨#[]⟩] 45)).cell? ⟨S, 3, none⟩ = some (.map none) := by rw [cell_of_block hb1]; rfl
  have hlk : ∀ w : World, (Instr.lookup 39 (.map none) (.string kk) true).run Try.prog w = .ok (.tuple #[.agg #[.int .i64 0, .string ⟨#[]⟩], .bool false]) w := fun w => Maps.look_nil true law9 Try.underlying39 (zero45 w) key_kk
  have hln : ∀ (w : World) (ty : TypeId), (Builtin.len_ #[39] ty #[.map none]).run Try.prog w = .ok (.int .i64 0) w := fun w ty => Maps.len_nil Try.underlying39 ty
  have hcv : ∀ w : World, (convert 30 9 (.slice none 0 0)).run Try.prog w = .ok (.string ByteArray.empty) w := fun w => run_convert_bytes_nil (P := Try.prog) w 30 5 Try.underlying30 Try.underlying5 0 0 9 Try.underlying9
  have C1 := hmk (check_any S kk none 0 0 W (by decide) (by decide) (by decide))
  have CW := hmk (write_first w0 (W.alloc (.cells #[.int .i64 0, .string ⟨#[]⟩] 45)) S rev floor 0 ByteArray.empty (.slice none 0 0) [] (hbel.trans (b1.mono hbel.size)) hb1 ⟨.inl ⟨rfl, rfl⟩⟩ hS (by simp) (by simp) (by omega) hr)
  clear b1 hb1 hbox hbel
  go_enter Try.func6, Try.ntmps6
  go_wp2_with fail
  refine C1.out.mono ?_
  rintro e W1 ⟨rfl, rfl⟩
  clear C1
  go_wp2_with fail
  refine CW.out.mono ?_
  rintro e W3 ⟨rfl, bb, bn, pv', hq⟩
  have HQ := hmk hq
  clear hq CW
  go_wp2_with fail
  go_ret2
  exact ⟨rfl, _, _, _, _, _, _, rfl, HQ.out⟩
set_option maxHeartbeats 4000000 in
theorem past_ok (S : Nat) (rev floor : Int) (mb mn pv : Value) (w : World) (h : w.heap[S]? = some (.cells #[.int .i64 rev, .int .i64 floor, mb, mn, pv] 42)) (h1 : 0 ≤ floor) (h2 : floor ≤ rev) :
    Calls Try.prog 13 #[.pointer (some ⟨S, 0, none⟩), .int .i64 floor, .int .i64 1] w fun e w' => e = .returned (.int .i64 0) ∧ w' = w := by
  have c0 : w.cell? ⟨S, 0, none⟩ = some (.int .i64 rev) := by rw [cell_of_block h]; rfl
  have c1 : w.cell? ⟨S, 1, none⟩ = some (.int .i64 floor) := by rw [cell_of_block h]; rfl
  have y1 : ¬ floor < 0 := by omega
  have y2 : ¬ rev < floor := by omega
  clear h
  go_enter Try.func13, Try.ntmps13
  go_wp2_with fail
  go_ret
  exact ⟨rfl, rfl⟩
set_option maxHeartbeats 4000000 in
theorem past_gone (S : Nat) (rev floor : Int) (mb mn pv : Value) (w : World) (h : w.heap[S]? = some (.cells #[.int .i64 rev, .int .i64 floor, mb, mn, pv] 42)) (h1 : 1 ≤ floor) :
    Calls Try.prog 13 #[.pointer (some ⟨S, 0, none⟩), .int .i64 (floor - 1), .int .i64 1] w fun e w' => e = .returned (.int .i64 195) ∧ w' = w := by
  have c0 : w.cell? ⟨S, 0, none⟩ = some (.int .i64 rev) := by rw [cell_of_block h]; rfl
  have c1 : w.cell? ⟨S, 1, none⟩ = some (.int .i64 floor) := by rw [cell_of_block h]; rfl
  have y1 : ¬ floor - 1 < 0 := by omega
  have y2 : floor - 1 < floor := by omega
  clear h
  go_enter Try.func13, Try.ntmps13
  go_wp2_with fail
  go_ret
  exact ⟨rfl, rfl⟩
set_option maxHeartbeats 4000000 in
theorem events_gone (S : Nat) (rev floor : Int) (mb mn pv : Value) (w : World) (h : w.heap[S]? = some (.cells #[.int .i64 rev, .int .i64 floor, mb, mn, pv] 42)) (h1 : 1 ≤ floor) :
    Calls Try.prog 9 #[.pointer (some ⟨S, 0, none⟩), .int .i64 (floor - 1), .int .i64 1] w fun e w' => e = .returned (.tuple #[.slice none 0 0, .int .i64 195]) ∧ w' = w := by
  have C1 := hmk (past_gone S rev floor mb mn pv w h h1)
  clear h
  go_enter Try.func9, Try.ntmps9
  go_wp2_with fail
  refine C1.out.mono ?_
  rintro e W1 ⟨rfl, rfl⟩
  clear C1
  go_wp2_with fail
  go_ret2
  exact ⟨rfl, rfl⟩
end Go.Proofs.Ytkicbnklhnkfgaa
