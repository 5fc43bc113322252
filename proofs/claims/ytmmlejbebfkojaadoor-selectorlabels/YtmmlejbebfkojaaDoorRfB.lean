import Derived.Test.YtmmlejbebfkojaaDoorRfA
import Derived.Test.YtmmlejbebfkojaaDoorChkC
/- freeholdref02: Utf, good. -/
set_option linter.unusedSimpArgs false
set_option linter.unusedVariables false
namespace Go.Proofs.YtmmlejbebfkojaaDoor
open Go.RowKit Go.Lib
theorem drop_cons' (s : ByteArray) (k : Nat) (h : k < s.size) : s.data.toList.drop k = s[k] :: s.data.toList.drop (k + 1) := by
  rw [List.drop_eq_getElem_cons (by simpa using h)]; rfl
theorem moreS_eq (s : ByteArray) (k j : Nat) : moreS s (k + 1 + j) 128 191 = moreL (s.data.toList.drop (k + 1)) j := by
  unfold moreS moreL
  rw [List.getElem?_drop]
  by_cases h : k + 1 + j < s.size
  · rw [List.getElem?_eq_getElem (by simpa using h)]
    simp only [h, exists_true_left]
    rfl
  · rw [List.getElem?_eq_none (by simpa using h)]
    simp [h]
theorem well_eq (s : ByteArray) (k : Nat) (h : k < s.size) : wellC s[k].toNat (moreS s (k + 1) 128 191) (moreS s (k + 1) 128 191 && moreS s (k + 2) 128 191) (moreS s (k + 1) 128 191 && moreS s (k + 2) 128 191 && moreS s (k + 3) 128 191) (s.data.toList.getD (k + 1) 0).toNat = if (Q.nxt (s.data.toList.drop k)).2 then (Q.nxt (s.data.toList.drop k)).1 else 0 := by
  have e0 := moreS_eq s k 0
  have e1 := moreS_eq s k 1
  have e2 := moreS_eq s k 2
  rw [show k + 1 + 0 = k + 1 by omega] at e0
  rw [show k + 1 + 1 = k + 2 by omega] at e1
  rw [show k + 1 + 2 = k + 3 by omega] at e2
  rw [e0, e1, e2, drop_cons' s k h, ← well_nxt]
  congr 2
  simp [List.getD]
set_option maxHeartbeats 4000000 in
set_option maxRecDepth 100000 in
theorem utf_wide (s : ByteArray) (w : World) (hs : s.size ≤ 281474976710656) : Calls Tryd.prog 34 #[.string s] w (SameB (utfB s) w) := by
  go_enter Tryd.func34, Tryd.ntmps34
  go_wp2_with fail
  go_loopw [3] (fun e wr => ∃ k : Nat, k ≤ s.size ∧ e = .int .i64 (k : Int) ∧ wr = w ∧ Hid (validD s.data.toList = validD (s.data.toList.drop k))) (fun e _ => s.size - (RowKit.intOf e).toNat)
  case atStart => exact ⟨0, by omega, rfl, rfl, rfl⟩
  case round =>
    obtain ⟨k, hk, rfl, rfl, HK⟩ := hrel
    by_cases hlt : k < s.size
    · have y1 : (k : Int) < s.size := by omega
      have c := well_any s k wr hlt hs
      rw [well_eq s k hlt] at c
      have hle := Q.nxt_le (s.data.toList.drop k)
      have hlen : (s.data.toList.drop k).length = s.size - k := by simp
      have hst := Q.valid_step (s.data.toList.drop k) (by intro h; rw [h] at hlen; simp at hlen; omega)
      cases hn : (Q.nxt (s.data.toList.drop k)).2
      · rw [hn] at c hst
        have HF : Hid (utfB s = false) := by show validD _ = _; rw [HK.out, hst]; rfl
        clear hst hle hn HK
        simp only [Bool.false_eq_true, if_false] at c
        go_wp2_with fail
        refine c.mono ?_
        rintro e w1 ⟨rfl, rfl⟩
        go_wp2_with fail
        go_ret
        exact ⟨by rw [HF.out]; rfl, rfl⟩
      · rw [hn] at c hst
        simp only [if_true] at c hst
        have h1 := hle.2.2 hn
        have h2 := hle.1
        rw [hlen] at h2
        have HF : Hid (validD s.data.toList = validD (s.data.toList.drop (k + (Q.nxt (s.data.toList.drop k)).1))) := by show _ = _; rw [HK.out, hst, List.drop_drop]
        generalize (Q.nxt (s.data.toList.drop k)).1 = z at *
        have yz : ((z : Int) == 0) = false := by rw [beq_eq_false_iff_ne]; omega
        clear hst hle hn HK hlen
        go_wp2_with fail
        refine c.mono ?_
        rintro e w1 ⟨rfl, rfl⟩
        go_wp2_with fail
        go_roundw
        case rel => exact ⟨k + z, by omega, by go_num, trivial, HF⟩
        case measure => simp [RowKit.intOf]; omega
    · obtain rfl : k = s.size := by omega
      have y1 : ¬ (s.size : Int) < s.size := by omega
      have HF : Hid (utfB s = true) := by
        show validD _ = _
        rw [HK.out, List.drop_of_length_le (by simp)]
        rfl
      clear HK
      go_wp2_with fail
      go_ret
      exact ⟨by rw [HF.out]; rfl, rfl⟩
end Go.Proofs.YtmmlejbebfkojaaDoor
