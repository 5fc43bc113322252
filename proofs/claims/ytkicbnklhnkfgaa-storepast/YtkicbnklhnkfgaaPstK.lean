/- The law. -/
import Derived.Test.YtkicbnklhnkfgaaPstJ
set_option linter.unusedSimpArgs false
set_option linter.unusedVariables false
namespace Go.Proofs.Ytkicbnklhnkfgaa
open Go Go.Lib Go.RowKit

/-- behind i writes -/
def St (w0 W : World) (S i : Nat) : Prop := ∃ bb bn n D d pv l, n ≤ 2 * i ∧ l.length = min i 65536 ∧ Sto w0 W S (3 + (i : Int)) (3 + ((i - 65536 : Nat) : Int)) bb bn n D d pv l
theorem St.keep {w0 W W' : World} {S i : Nat} (h : St w0 W S i) (b : Below W.heap.size W W') : St w0 W' S i := by
  obtain ⟨bb, bn, n, D, d, pv, l, h1, h2, h3⟩ := h
  exact ⟨bb, bn, n, D, d, pv, l, h1, h2, h3.keep b⟩
theorem St.bel {w0 W : World} {S i : Nat} (h : St w0 W S i) : Below w0.heap.size w0 W := by
  obtain ⟨bb, bn, n, D, d, pv, l, h1, h2, h3⟩ := h
  exact h3.bel
theorem St.floor {w0 W : World} {S i : Nat} (h : St w0 W S i) : Calls Try.prog 8 #[.pointer (some ⟨S, 0, none⟩)] W fun e w' => e = .returned (.int .i64 (3 + ((i - 65536 : Nat) : Int))) ∧ w' = W := by
  obtain ⟨bb, bn, n, D, d, pv, l, h1, h2, h3⟩ := h
  exact floor_any S _ _ _ _ _ W h3.box
theorem St.swap {w0 W : World} {S i : Nat} (h : St w0 W S i) (hi : 1 ≤ i) (hi2 : i ≤ 65540) (g : Nat) (x : UInt8) (hg : W.heap[g]? = some (.cells #[.int .u8 x.toNat] 5)) :
    Calls Try.prog 7 #[.pointer (some ⟨S, 0, none⟩), .string kk, .int .i64 (3 + (i : Int)), .slice (some ⟨g, 0, none⟩) 1 1] W fun e W' => e = .returned (.tuple #[.int .i64 (3 + (i : Int) + 1), .int .i64 0]) ∧ St w0 W' S (i + 1) := by
  obtain ⟨bb, bn, n, D, d, pv, l, h1, h2, h3⟩ := h
  by_cases hc : i < 65536
  · refine (swap_one w0 W S _ _ bb bn n D d pv l h3 g x hg (by omega) (by omega) (by omega)).mono ?_
    rintro e W' ⟨rfl, D', d', pv', l', q1, q2⟩
    refine ⟨rfl, bb, bn, n + 2, D', d', pv', l', by omega, by omega, ?_⟩
    have e1 : ((i + 1 : Nat) : Int) = (i : Int) + 1 := by omega
    have e2 : i + 1 - 65536 = i - 65536 := by omega
    rw [e1, e2, ← Int.add_assoc]
    exact q2
  · refine (swap_full w0 W S _ _ bb bn n D d pv l h3 g x hg (by omega) (by omega) (by omega) (by omega)).mono ?_
    rintro e W' ⟨rfl, D', d', pv', l', q1, q2⟩
    refine ⟨rfl, bb, bn, n + 2, D', d', pv', l', by omega, by omega, ?_⟩
    have e1 : ((i + 1 : Nat) : Int) = (i : Int) + 1 := by omega
    have e2 : (3 : Int) + ((i + 1 - 65536 : Nat) : Int) = 3 + ((i - 65536 : Nat) : Int) + 1 := by omega
    rw [e1, e2, ← Int.add_assoc]
    exact q2
theorem St.gone {w0 W : World} {S i : Nat} (h : St w0 W S i) : Calls Try.prog 9 #[.pointer (some ⟨S, 0, none⟩), .int .i64 (3 + ((i - 65536 : Nat) : Int) - 1), .int .i64 1] W fun e w' => e = .returned (.tuple #[.slice none 0 0, .int .i64 195]) ∧ w' = W := by
  obtain ⟨bb, bn, n, D, d, pv, l, h1, h2, h3⟩ := h
  exact events_gone S _ _ _ _ _ W h3.box (by omega)
theorem St.events {w0 W : World} {S i : Nat} (h : St w0 W S i) (hi : 1 ≤ i) (hi2 : i ≤ 65540) : Calls Try.prog 9 #[.pointer (some ⟨S, 0, none⟩), .int .i64 (3 + ((i - 65536 : Nat) : Int)), .int .i64 1] W fun e W' => (∃ g' c', e = .returned (.tuple #[.slice (some ⟨g', 0, none⟩) 1 c', .int .i64 0]) ∧ W'.cell? ⟨g', 0, none⟩ = some (.int .i64 (3 + ((i - 65536 : Nat) : Int) + 1))) ∧ Below W.heap.size W W' := by
  obtain ⟨bb, bn, n, D, d, pv, l, h1, h2, h3⟩ := h
  rcases h3.past.p with ⟨q, _⟩ | ⟨g, o, c, sz, rfl, p1, p2, p3, p4, p5, p6⟩
  · rw [q] at h2; simp at h2; omega
  · rcases l with _ | ⟨⟨k0, d0⟩, l⟩
    · simp at h2; omega
    · have e0 : W.cell? ⟨g, o, none⟩ = some (.int .i64 k0) := by have := p6 0 (.int .i64 k0) rfl; simpa using this
      have e1 : W.cell? ⟨g, o + 1, none⟩ = some (.string kk) := p6 1 (.string kk) rfl
      have e2 : W.cell? ⟨g, o + 2, none⟩ = some (.string d0) := p6 2 (.string d0) rfl
      exact events_one S _ _ _ _ g o _ c k0 d0 W h3.box (by omega) (by omega) (by omega) (by simp) (by omega) p1 p2 e0 e1 e2
set_option maxHeartbeats 8000000 in
set_option maxRecDepth 100000 in
theorem law_any (z : Int) (w : World) : Calls Try.prog 3 #[.int .i64 z] w fun e w' => e = .returned (.bool true) ∧ Below w.heap.size w w' := by
  have CW := hmk (within_any z w)
  go_enter Try.func3, Try.ntmps3
  go_wp2_with fail
  refine CW.out.mono ?_
  rintro e w1 ⟨⟨q, hq, rfl⟩, b1⟩
  clear CW
  have B1 := hmk b1
  clear b1
  go_wp2_with fail
  refine (new_any w1).mono ?_
  rintro e W ⟨rfl, hW⟩
  have hbx := heap_alloc_new w1 (.cells #[.int .i64 3, .int .i64 3, .map none, .map none, .slice none 0 0] 42)
  rw [← hW] at hbx
  have hbl : Below w.heap.size w W := by rw [hW]; exact B1.out.alloc B1.out.size _
  have CC := hmk (create_first w W w1.heap.size 3 3 hbl hbx B1.out.size (by decide))
  clear hbl hbx hW
  go_wp2_with fail
  refine CC.out.mono ?_
  rintro e W2 ⟨rfl, bb, bn, D, d, pv, l, hl, hS⟩
  clear CC
  have h2 : St w W2 w1.heap.size 1 := ⟨bb, bn, 1, D, d, pv, l, by omega, by omega, hS⟩
  have H2 := hmk h2
  clear h2 hS hl
  generalize w1.heap.size = S at *
  go_wp2_with fail
  go_loopw [4, 5, 6] (fun e4 e5 e6 wr => ∃ i : Nat, e4 = .int .i64 0 ∧ e5 = .int .i64 (3 + (i : Int)) ∧ e6 = .int .i64 (i : Int) ∧ 1 ≤ i ∧ i ≤ 65537 + q ∧ Hid (St w wr S i)) (fun _ _ e6 _ => 65537 + q - (RowKit.intOf e6).toNat)
  case atStart => exact ⟨1, rfl, rfl, rfl, by omega, by omega, H2⟩
  case round =>
    obtain ⟨i, rfl, rfl, rfl, hi1, hi2, HI⟩ := hrel
    clear H2 bb bn D d pv l B1
    by_cases hb : (i : Int) < 65536 + (1 + (q : Int))
    · have hx : ((UInt8.ofNat i).toNat : Int) = (i : Int) % 256 := by rw [UInt8.toNat_ofNat']; omega
      have CS := hmk ((HI.out.keep (one_belowG wr (.cells #[.int .u8 ((i : Int) % 256)] 5))).swap hi1 (by omega) wr.heap.size (UInt8.ofNat i) (by rw [hx]; exact heap_alloc_new wr _))
      clear hx HI
      go_wp2_with fail
      refine CS.out.mono ?_
      clear CS
      rintro e W3 ⟨rfl, h3⟩
      have H3 := hmk h3
      clear h3
      have hne : (3 : Int) + i + 1 = 4 + i := by omega
      by_cases hf : (i : Int) = 65535
      · have CF : Hid (Calls Try.prog 8 #[.pointer (some ⟨S, 0, none⟩)] W3 fun e w' => e = .returned (.int .i64 3) ∧ w' = W3) := by
          have := H3.out.floor
          rwa [show (3 : Int) + ((i + 1 - 65536 : Nat) : Int) = 3 by omega] at this
        go_wp2_with fail
        refine CF.out.mono ?_
        clear CF
        rintro e W4 ⟨rfl, rfl⟩
        go_wp2_with fail
        refine ⟨⟨i + 1, rfl, congrArg (Value.int .i64) (by omega), congrArg (Value.int .i64) (by omega), by omega, by omega, H3⟩, ?_⟩
        simp only [RowKit.intOf]
        omega
      · go_wp2_with fail
        refine ⟨⟨i + 1, rfl, congrArg (Value.int .i64) (by omega), congrArg (Value.int .i64) (by omega), by omega, by omega, H3⟩, ?_⟩
        simp only [RowKit.intOf]
        omega
    · have hiq : (3 : Int) + ((i - 65536 : Nat) : Int) = 3 + (1 + (q : Int)) := by omega
      have CF := HI.out.floor
      have CE := HI.out.events hi1 (by omega)
      rw [hiq] at CF CE
      have HCF := hmk CF
      have HCE := hmk CE
      clear CF CE
      go_wp2_with fail
      refine HCF.out.mono ?_
      rintro e W4 ⟨rfl, rfl⟩
      go_wp2_with fail
      refine HCE.out.mono ?_
      rintro e W5 ⟨⟨g', c', rfl, x5⟩, b5⟩
      have h5 := HI.out.keep b5
      have CF5 := h5.floor
      have CG5 := h5.gone
      rw [hiq] at CF5 CG5
      have HCF5 := hmk CF5
      have HCG5 := hmk CG5
      have B5 := hmk h5.bel
      clear HCF HCE CF5 CG5 h5 b5 HI
      go_wp2_with fail
      refine HCF5.out.mono ?_
      rintro e W6 ⟨rfl, rfl⟩
      go_wp2_with fail
      refine HCG5.out.mono ?_
      rintro e W6 ⟨rfl, rfl⟩
      go_wp2_with fail
      refine HCF5.out.mono ?_
      rintro e W6 ⟨rfl, rfl⟩
      have hne2 : (3 : Int) + (1 + q) + 1 = 4 + (1 + q) := by omega
      go_wp2_with fail
      go_ret
      exact ⟨rfl, B5.out⟩
end Go.Proofs.Ytkicbnklhnkfgaa
