/- joined: NamC NamD -/
import Derived.Test.YtfihgaffiobfhaaDoorG14
/- The document's plain. -/
set_option linter.unusedSimpArgs false
set_option linter.unusedVariables false
namespace Go.Proofs.YtfihgaffiobfhaaDoor
open Go.RowKit Go.Lib
set_option maxHeartbeats 1000000 in
theorem rfst_any (r : Int) (w : World) : Calls Tryd.prog 62 #[.int .u8 r] w fun e w' => e = .returned (.bool (letR r)) ∧ w' = w := by
  by_cases h95 : r = 95
  · subst h95
    rw [letR_us]
    go_enter Tryd.func62, Tryd.ntmps62
    go_wp2
    go_ret
    exact ⟨rfl, rfl⟩
  · have hb : (r == 95) = false := by rw [beq_eq_false_iff_ne]; exact h95
    by_cases c : 97 ≤ r
    · by_cases d : r ≤ 122
      · rw [letR_low c d]
        clear h95 hb
        go_enter Tryd.func62, Tryd.ntmps62
        go_wp2
        go_ret
        exact ⟨rfl, rfl⟩
      · have a : 65 ≤ r := by omega
        have b : ¬ r ≤ 90 := by omega
        rw [letR_not (by omega) (by omega) h95]
        clear h95
        go_enter Tryd.func62, Tryd.ntmps62
        go_wp2
        go_ret
        exact ⟨rfl, rfl⟩
    · by_cases a : 65 ≤ r
      · by_cases b : r ≤ 90
        · rw [letR_up a b]
          clear h95 hb
          go_enter Tryd.func62, Tryd.ntmps62
          go_wp2
          go_ret
          exact ⟨rfl, rfl⟩
        · rw [letR_not (by omega) (by omega) h95]
          clear h95
          go_enter Tryd.func62, Tryd.ntmps62
          go_wp2
          go_ret
          exact ⟨rfl, rfl⟩
      · rw [letR_not (by omega) (by omega) h95]
        clear h95
        go_enter Tryd.func62, Tryd.ntmps62
        go_wp2
        go_ret
        exact ⟨rfl, rfl⟩
/-- a byte behind a name's first -/
def latR (r : Int) : Bool := letR r || digR r || decide (r = 45)
set_option maxHeartbeats 1000000 in
theorem rlat_any (r : Int) (w : World) : Calls Tryd.prog 63 #[.int .u8 r] w fun e w' => e = .returned (.bool (latR r)) ∧ w' = w := by
  have CF := rfst_any r w
  cases hL : letR r with
  | true =>
    rw [show latR r = true by rw [latR, hL]; rfl]
    rw [hL] at CF
    clear hL
    go_enter Tryd.func63, Tryd.ntmps63
    go_wp2_with (go_at_call 62; refine CF.mono ?_; rintro e w' ⟨rfl, rfl⟩)
    go_ret
    exact ⟨rfl, rfl⟩
  | false =>
    rw [hL] at CF
    by_cases a : 48 ≤ r
    · by_cases b : r ≤ 57
      · rw [show latR r = true by rw [latR, hL, show digR r = true by simp [digR, a, b]]; rfl]
        clear hL
        go_enter Tryd.func63, Tryd.ntmps63
        go_wp2_with (go_at_call 62; refine CF.mono ?_; rintro e w' ⟨rfl, rfl⟩)
        go_ret
        exact ⟨rfl, rfl⟩
      · have hb : (r == 45) = false := by rw [beq_eq_false_iff_ne]; omega
        rw [show latR r = false by rw [latR, hL, show digR r = false by simp [digR, a]; omega]; simp; omega]
        clear hL
        go_enter Tryd.func63, Tryd.ntmps63
        go_wp2_with (go_at_call 62; refine CF.mono ?_; rintro e w' ⟨rfl, rfl⟩)
        go_ret
        exact ⟨by show Ending.returned (.bool (decide (r ≤ 57))) = _; rw [decide_eq_false (Int.not_le.2 b)], rfl⟩
    · have hD : digR r = false := by simp [digR, a]
      by_cases h45 : r = 45
      · subst h45
        rw [show latR 45 = true by decide]
        clear hL hD
        go_enter Tryd.func63, Tryd.ntmps63
        go_wp2_with (go_at_call 62; refine CF.mono ?_; rintro e w' ⟨rfl, rfl⟩)
        go_ret
        exact ⟨rfl, rfl⟩
      · have hb : (r == 45) = false := by rw [beq_eq_false_iff_ne]; exact h45
        rw [show latR r = false by rw [latR, hL, hD]; simpa using h45]
        clear hL hD h45
        go_enter Tryd.func63, Tryd.ntmps63
        go_wp2_with (go_at_call 62; refine CF.mono ?_; rintro e w' ⟨rfl, rfl⟩)
        go_ret
        exact ⟨rfl, rfl⟩
end Go.Proofs.YtfihgaffiobfhaaDoor
/- The document's plain; whether a name is plain. -/
namespace Go.Proofs.YtfihgaffiobfhaaDoor
open Go.RowKit Go.Lib
theorem plnN_nil {s : ByteArray} (h : ¬ 0 < s.size) : plnN s.data.toList = false := by
  have : s.data.toList = [] := by have := drop_endN s 0 h; rwa [List.drop_zero] at this
  rw [this]; rfl
theorem plnN_all {s : ByteArray} (h : 0 < s.size) : plnN s.data.toList = allN 0 (s.data.toList.drop 0) := by
  rw [List.drop_zero]
  have := drop_consN s 0 h
  rw [List.drop_zero] at this
  rw [plnN, this]; rfl
theorem str_nil {s : ByteArray} (h : ¬ 0 < s.size) : s = ⟨#[]⟩ := by
  have : s.data.toList = [] := by have := drop_endN s 0 h; rwa [List.drop_zero] at this
  apply ByteArray.ext
  apply Array.ext'
  rw [this]
theorem str_ne {s : ByteArray} (h : 0 < s.size) : s.toList.isEmpty = false := by
  rw [ByteArray.toList_eq]
  have := drop_consN s 0 h
  rw [List.drop_zero] at this
  rw [this]; rfl
set_option maxRecDepth 100000 in
set_option maxHeartbeats 2000000 in
theorem rplain_any (s : ByteArray) (w : World) (hs : s.size ≤ 281474976710656) :
    Calls Tryd.prog 47 #[.string s] w fun e w' => e = .returned (.bool (plnN s.data.toList)) ∧ w' = w := by
  by_cases h0 : 0 < s.size
  case neg =>
    rw [plnN_nil h0]
    have e := str_nil h0
    subst e
    go_enter Tryd.func47, Tryd.ntmps47
    go_wp2
    go_ret
    exact ⟨rfl, rfl⟩
  rw [plnN_all h0]
  have hne := str_ne h0
  have CF := rfst_any (s[0]'h0).toNat w
  have CT : ∀ r : Int, Calls Tryd.prog 63 #[.int .u8 r] w fun e w' => e = .returned (.bool (latR r)) ∧ w' = w := fun r => rlat_any r w
  cases hL : letR (s[0]'h0).toNat with
  | false =>
    rw [allN_no s 0 h0 (by rw [okR_zero]; exact hL)]
    rw [hL] at CF
    have y0 : (0 : Int) < s.size := by omega
    clear hL CT
    go_enter Tryd.func47, Tryd.ntmps47
    go_wp2_with (go_at_call 62; refine CF.mono ?_; rintro e w' ⟨rfl, rfl⟩)
    go_ret
    exact ⟨rfl, rfl⟩
  | true =>
    rw [allN_yes s 0 h0 (by rw [okR_zero]; exact hL)]
    rw [hL] at CF
    have y0 : (0 : Int) < s.size := by omega
    generalize hF : allN (0 + 1) (s.data.toList.drop (0 + 1)) = F
    clear hL
    go_enter Tryd.func47, Tryd.ntmps47
    go_wp2_with fail
    refine CF.mono ?_
    rintro e w' ⟨rfl, rfl⟩
    go_wp2_with fail
    go_loopw [3] (fun i wr => ∃ k : Nat, 1 ≤ k ∧ k ≤ s.size ∧ i = .int .i64 k ∧ wr = w' ∧ allN k (s.data.toList.drop k) = F) (fun i _ => s.size - (RowKit.intOf i).toNat)
    case atStart => exact ⟨1, Nat.le_refl _, h0, rfl, rfl, hF⟩
    case round =>
      obtain ⟨k, hk1, hk, rfl, rfl, hf⟩ := hrel
      clear hF CF
      by_cases hlt : k < s.size
      · have y1 : (k : Int) < s.size := by omega
        have C := CT (s[k]'hlt).toNat
        have HO := hmkN (okR_pos k (s[k]'hlt).toNat (by omega))
        cases hL : latR (s[k]'hlt).toNat with
        | true =>
          rw [allN_yes s k hlt (by rw [HO.out]; exact hL)] at hf
          rw [hL] at C
          clear hL CT HO
          go_wp2_with (go_at_call 63; refine C.mono ?_; rintro e w' ⟨rfl, rfl⟩)
          go_roundw
          case rel => exact ⟨k + 1, by omega, by omega, by simp, trivial, hf⟩
          case measure => simp [RowKit.intOf]; omega
        | false =>
          rw [allN_no s k hlt (by rw [HO.out]; exact hL)] at hf
          subst hf
          rw [hL] at C
          clear hL CT HO
          go_wp2_with (go_at_call 63; refine C.mono ?_; rintro e w' ⟨rfl, rfl⟩)
          go_ret
          exact ⟨rfl, rfl⟩
      · have y1 : ¬ (k : Int) < s.size := by omega
        rw [allN_end s k hlt] at hf
        subst hf
        clear CT
        go_wp2
        go_ret
        exact ⟨rfl, rfl⟩
end Go.Proofs.YtfihgaffiobfhaaDoor
