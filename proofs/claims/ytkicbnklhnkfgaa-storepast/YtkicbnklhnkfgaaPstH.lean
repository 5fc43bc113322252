/- standing, Swap. -/
import Derived.Test.YtkicbnklhnkfgaaPstF
import Derived.Test.YtkicbnklhnkfgaaPstG
import Derived.Laws.IdiomStrings
import Derived.Laws.BytesArg
set_option linter.unusedSimpArgs false
set_option linter.unusedVariables false
namespace Go.Proofs.Ytkicbnklhnkfgaa
open Go Go.Lib Go.RowKit

theorem dat_inv {v : Value} {r : Int} {d : ByteArray} {ps : List MemPlace} (h : oR v = some (dat r d, ps)) : ∃ s : ByteArray, v = .agg #[.int .i64 r, .string s] := by
  obtain ⟨s, e, _⟩ := oR_inv h
  exact ⟨s, e⟩
set_option maxHeartbeats 4000000 in
theorem standing_one (W : World) (S : Nat) (rev floor : Int) (mb pv : Value) (bn n : Nat) (d : ByteArray) (hbox : W.heap[S]? = some (.cells #[.int .i64 rev, .int .i64 floor, mb, .map (some bn), pv] 42)) (hnow : W.ownsMap Try.prog 9 oR bn n (one rev d)) :
    Calls Try.prog 12 #[.pointer (some ⟨S, 0, none⟩), .string kk, .int .i64 rev] W fun e W' => (∃ s : ByteArray, e = .returned (.tuple #[.agg #[.int .i64 rev, .string s], .int .i64 0])) ∧ Below W.heap.size W W' := by
  have hSl := lt_of_block hbox
  have b1 := one_belowG W (.cells #[.int .i64 0, .string ⟨#[]⟩] 45)
  have hb1 := (b1.block S hSl).trans hbox
  have c3 : (W.alloc (.cells #[.int .i64 0, .string ⟨#[]⟩] 45)).cell? ⟨S, 3, none⟩ = some (.map (some bn)) := by rw [cell_of_block hb1]; rfl
  obtain ⟨v, ps, hrun, hv⟩ := (hnow.alloc (.cells #[.int .i64 0, .string ⟨#[]⟩] 45)).look_ok law9 Try.underlying39 (zero45 _) (oR_mk 0 ⟨#[]⟩) key_kk
  rw [at_one] at hv
  obtain ⟨s, rfl⟩ := dat_inv hv
  rw [has_one] at hrun
  clear hv hb1 hbox hnow b1
  go_enter Try.func12, Try.ntmps12
  go_wp2_with fail
  refine bodyPost_ret (v := .tuple #[.agg #[.int .i64 rev, .string s], .int .i64 0]) ?_ rfl ⟨⟨s, rfl⟩, (one_belowG W _).trans ((one_belowG _ _).mono (by rw [alloc_size]; omega))⟩
  simp [results, Try.f12, go_sem]
set_option maxHeartbeats 4000000 in
theorem swap_gen (w0 W : World) (S : Nat) (rev floor : Int) (bb bn n : Nat) (D : DataW Unit) (d : ByteArray) (pv : Value) (l : List (Int × ByteArray)) (h : Sto w0 W S rev floor bb bn n D d pv l) (g : Nat) (x : UInt8) (hg : W.heap[g]? = some (.cells #[.int .u8 x.toNat] 5)) (Q : World → Prop)
    (hw : ∀ (W1 : World) (d' : ByteArray), Sto w0 W1 S rev floor bb bn n D d pv l → Calls Try.prog 11 #[.pointer (some ⟨S, 0, none⟩), .agg #[.int .i64 2, .string kk, .string d']] W1 fun e W' => e = .returned (.tuple #[.int .i64 (rev + 1), .int .i64 0]) ∧ Q W') :
    Calls Try.prog 7 #[.pointer (some ⟨S, 0, none⟩), .string kk, .int .i64 rev, .slice (some ⟨g, 0, none⟩) 1 1] W fun e W' => e = .returned (.tuple #[.int .i64 (rev + 1), .int .i64 0]) ∧ Q W' := by
  have C1 := hmk (check_any S kk (some ⟨g, 0, none⟩) 1 1 W (by decide) (by decide) (by decide))
  have C2 := hmk (standing_one W S rev floor (.map (some bb)) pv bn n d h.box h.now)
  have HS := hmk h
  have HG := hmk hg
  have HW := hmk hw
  clear h hg hw
  go_enter Try.func7, Try.ntmps7
  go_wp2_with fail
  refine C1.out.mono ?_
  rintro e W1 ⟨rfl, rfl⟩
  clear C1
  go_wp2_with fail
  refine C2.out.mono ?_
  rintro e W1 ⟨⟨s, rfl⟩, b1⟩
  clear C2
  have h1 := HS.out.keep b1
  have h2 := h1.keep (one_belowG W1 (.cells #[.int .i64 rev, .string s] 45))
  have hgl := lt_of_block HG.out
  have hg2 := (((one_belowG W1 (.cells #[.int .i64 rev, .string s] 45)).block g (by have := b1.size; omega)).trans ((b1.block g hgl).trans HG.out))
  have x2 : (W1.alloc (.cells #[.int .i64 rev, .string s] 45)).cell? ⟨g, 0, none⟩ = some (.int .u8 x.toNat) := by rw [cell_of_block hg2]; rfl
  have hcv := run_convert_bytes_back (P := Try.prog) (W1.alloc (.cells #[.int .i64 rev, .string s] 45)) 30 9 5 ⟨g, 0, none⟩ 1 [x] Try.underlying30 Try.underlying5 Try.underlying9 (fun j hj => by
    have : j = 0 := by simp at hj; omega
    subst this
    exact x2)
  simp only [List.length_cons, List.length_nil, Nat.zero_add] at hcv
  have CW := hmk (HW.out _ ⟨[x].toArray⟩ h2)
  clear h1 h2 b1 HW
  go_wp2_with fail
  refine CW.out.mono ?_
  rintro e W3 ⟨rfl, hq⟩
  have HQ := hmk hq
  clear hq CW
  go_wp2_with fail
  go_ret2
  exact ⟨rfl, HQ.out⟩
theorem swap_one (w0 W : World) (S : Nat) (rev floor : Int) (bb bn n : Nat) (D : DataW Unit) (d : ByteArray) (pv : Value) (l : List (Int × ByteArray)) (h : Sto w0 W S rev floor bb bn n D d pv l) (g : Nat) (x : UInt8) (hg : W.heap[g]? = some (.cells #[.int .u8 x.toNat] 5)) (hl : l.length < 65536) (hn : n < 400000) (hr : 0 ≤ rev ∧ rev < 1000000) :
    Calls Try.prog 7 #[.pointer (some ⟨S, 0, none⟩), .string kk, .int .i64 rev, .slice (some ⟨g, 0, none⟩) 1 1] W fun e W' => e = .returned (.tuple #[.int .i64 (rev + 1), .int .i64 0]) ∧ ∃ D' d' pv' l', l'.length = l.length + 1 ∧ Sto w0 W' S (rev + 1) floor bb bn (n + 2) D' d' pv' l' :=
  swap_gen w0 W S rev floor bb bn n D d pv l h g x hg _ (fun W1 d' h1 => (write_swap w0 W1 S rev floor bb bn n D d d' pv l h1 hl (by omega) hr).mono (by
    rintro e W' ⟨rfl, pv', hS⟩
    exact ⟨rfl, _, _, _, _, by simp, ⟨hS.bel, hS.box, hS.base.mono (by omega), hS.now.mono (by omega), hS.past, hS.s, hS.b1, hS.b2, hS.ne, hS.ok⟩⟩))
theorem swap_full (w0 W : World) (S : Nat) (rev floor : Int) (bb bn n : Nat) (D : DataW Unit) (d : ByteArray) (pv : Value) (l : List (Int × ByteArray)) (h : Sto w0 W S rev floor bb bn n D d pv l) (g : Nat) (x : UInt8) (hg : W.heap[g]? = some (.cells #[.int .u8 x.toNat] 5)) (hl : l.length = 65536) (hfl : 0 ≤ floor ∧ floor < 1000000) (hn : n < 400000) (hr : 0 ≤ rev ∧ rev < 1000000) :
    Calls Try.prog 7 #[.pointer (some ⟨S, 0, none⟩), .string kk, .int .i64 rev, .slice (some ⟨g, 0, none⟩) 1 1] W fun e W' => e = .returned (.tuple #[.int .i64 (rev + 1), .int .i64 0]) ∧ ∃ D' d' pv' l', l'.length = 65536 ∧ Sto w0 W' S (rev + 1) (floor + 1) bb bn (n + 2) D' d' pv' l' :=
  swap_gen w0 W S rev floor bb bn n D d pv l h g x hg _ (fun W1 d' h1 => (write_full w0 W1 S rev floor bb bn n D d d' pv l h1 hl hfl (by omega) hr).mono (by
    rintro e W' ⟨rfl, pv', D', hS⟩
    exact ⟨rfl, _, _, _, _, by simp [hl], hS⟩))
end Go.Proofs.Ytkicbnklhnkfgaa
