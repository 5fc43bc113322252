/- present. -/
import Derived.Test.YtpbejbpimcidjaaSwV
set_option linter.unusedSimpArgs false
set_option linter.unusedVariables false
namespace Go.Proofs.Ytpbejbpimcidjaa
open Go Go.Lib Go.RowKit Go.Maps Go.Sort

set_option maxHeartbeats 8000000 in
set_option maxRecDepth 100000 in
theorem present_any (w0 W : World) (S B : Nat) (at_ first : Int) (hh : List He) (fl : Nat) (row : List Value) (sv evv : Value) (hs : StX w0 W S first hh fl) (hb : Bok w0 W B at_ first hh row sv evv) :
    Calls Try.prog 9 #[.pointer (some ⟨B, 0, none⟩), .pointer (some ⟨S, 0, none⟩)] W fun e w' => e = .returned (.bool true) ∧ Below W.heap.size W w' := by
  have HS := hmk hs
  have HB := hmk hb
  clear hs hb
  go_enter Try.func9, Try.ntmps9
  go_wp2_with fail
  go_loopw [5, 6] (fun e5 e6 wr => ∃ k : Nat, e5 = .int .i64 (pc (runA A0 first hh) k : Int) ∧ e6 = .int .i64 (k : Int) ∧ k ≤ 5 ∧ Hid (Below W.heap.size W wr)) (fun _ e6 _ => 5 - (RowKit.intOf e6).toNat)
  case atStart => exact ⟨0, rfl, rfl, by omega, Below.refl _ _⟩
  case round =>
    obtain ⟨k, rfl, rfl, hk5, HI⟩ := hrel
    have hps := pc_succ (runA A0 first hh) k
    have hpl : pc (runA A0 first hh) k ≤ k := by unfold pc; exact Nat.le_trans (List.length_filter_le _ _) (by simp)
    by_cases hlt : (k : Int) < 5
    · have hk5' : k < 5 := by omega
      have C1 := hmk (name_any k wr hk5')
      go_wp2_with fail
      refine C1.out.mono ?_
      rintro e W2 ⟨rfl, b2⟩
      clear C1
      have hB2 := HI.out.trans (b2.mono HI.out.size)
      have C2 := hmk (get_op w0 W2 S first hh fl (HS.out.below hB2) HB.out.ok k hk5')
      have B2 := hmk hB2
      clear b2 HI hB2
      go_wp2_with fail
      refine C2.out.mono ?_
      clear C2
      rintro e W3 ⟨hm, b3⟩
      have hB3 := B2.out.trans (b3.mono B2.out.size)
      have B3 := hmk hB3
      obtain ⟨va, vb, vc, x0, x1, x2, hsn⟩ := (HB.out.keep (Kb.of_below hB3)).seen k hk5'
      clear b3 B2 hB3
      cases hs : runA A0 first hh k with
      | none =>
        rw [hs] at hm hsn
        obtain rfl := hm
        obtain ⟨rfl, rfl, rfl⟩ := hsn
        have hps2 : pc (runA A0 first hh) (k + 1) = pc (runA A0 first hh) k := by rw [hps, hs]; rfl
        clear hps hs
        go_wp2_with fail
        refine ⟨⟨k + 1, by rw [hps2], congrArg (Value.int .i64) (by omega), by omega, B3⟩, ?_⟩
        simp only [RowKit.intOf]
        omega
      | some sx =>
        obtain ⟨r, d⟩ := sx
        rw [hs] at hm hsn
        obtain ⟨v, rfl, hbv⟩ := hm
        obtain ⟨rfl, rfl, hby, hd⟩ := hsn
        have hps2 : pc (runA A0 first hh) (k + 1) = pc (runA A0 first hh) k + 1 := by rw [hps, hs]; rfl
        have hd2 : d.size ≤ 4096 := hd
        have CS := hmk (same_bytes v vc d W3 hbv hby.read (by omega))
        clear hps hs hbv hby hd
        go_wp2_with fail
        refine CS.out.mono ?_
        rintro e W4 ⟨rfl, b4⟩
        have B4 := hmk (B3.out.trans (b4.mono B3.out.size))
        clear CS b4 B3
        go_wp2_with fail
        refine ⟨⟨k + 1, by rw [hps2]; exact congrArg (Value.int .i64) (by omega), congrArg (Value.int .i64) (by omega), by omega, B4⟩, ?_⟩
        simp only [RowKit.intOf]
        omega
    · obtain rfl : k = 5 := by omega
      have CL := hmk (len_op w0 wr S first hh fl (HS.out.below HI.out) HB.out.ok)
      rw [← pc_cnt] at CL
      go_wp2_with fail
      refine CL.out.mono ?_
      rintro e W4 ⟨rfl, rfl⟩
      go_wp2_with fail
      (try simp only [Exit.inBlock, Exit.then])
      go_ret
      exact ⟨rfl, HI.out⟩
end Go.Proofs.Ytpbejbpimcidjaa
