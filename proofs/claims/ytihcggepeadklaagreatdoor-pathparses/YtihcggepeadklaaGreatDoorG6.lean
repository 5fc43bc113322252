/- joined: NamA NamB NamC NamD WalksE -/
import Derived.Test.YtihcggepeadklaaGreatDoorG5
import Derived.LoopTactic
/- Letters, digits, and how much of a text is a plain name; the document's plain. -/
set_option linter.unusedSimpArgs false
set_option linter.unusedVariables false
namespace Go.Proofs.YtihcggepeadklaaGreatDoor
open Go.RowKit Go.Lib
theorem letR_up {r : Int} (a : 65 ≤ r) (b : r ≤ 90) : letR r = true := by simp [letR, a, b]
theorem letR_low {r : Int} (a : 97 ≤ r) (b : r ≤ 122) : letR r = true := by simp [letR, a, b]
theorem letR_us : letR 95 = true := by decide
theorem letR_not {r : Int} (a : ¬ (65 ≤ r ∧ r ≤ 90)) (b : ¬ (97 ≤ r ∧ r ≤ 122)) (c : r ≠ 95) : letR r = false := by
  rw [Bool.eq_false_iff]
  simp only [letR, ne_eq, Bool.or_eq_true, Bool.and_eq_true, decide_eq_true_eq]
  rintro ((h | h) | h)
  · exact a h
  · exact b h
  · exact c h
set_option maxHeartbeats 1000000 in
theorem plet_any (r : Int) (w : World) : Calls Tryz.prog 100 #[.int .i32 r] w fun e w' => e = .returned (.bool (letR r)) ∧ w' = w := by
  by_cases h95 : r = 95
  · subst h95
    rw [letR_us]
    go_enter Tryz.func100, Tryz.ntmps100
    go_wp2
    go_ret
    exact ⟨rfl, rfl⟩
  · have hb : (r == 95) = false := by rw [beq_eq_false_iff_ne]; exact h95
    by_cases a : 65 ≤ r
    · by_cases b : r ≤ 90
      · rw [letR_up a b]
        clear h95 hb
        go_enter Tryz.func100, Tryz.ntmps100
        go_wp2
        go_ret
        exact ⟨rfl, rfl⟩
      · by_cases c : 97 ≤ r
        · by_cases d : r ≤ 122
          · rw [letR_low c d]
            clear h95 hb
            go_enter Tryz.func100, Tryz.ntmps100
            go_wp2
            go_ret
            exact ⟨rfl, rfl⟩
          · rw [letR_not (by omega) (by omega) h95]
            clear h95
            go_enter Tryz.func100, Tryz.ntmps100
            go_wp2
            go_ret
            exact ⟨rfl, rfl⟩
        · rw [letR_not (by omega) (by omega) h95]
          clear h95
          go_enter Tryz.func100, Tryz.ntmps100
          go_wp2
          go_ret
          exact ⟨rfl, rfl⟩
    · have c : ¬ 97 ≤ r := by omega
      rw [letR_not (by omega) (by omega) h95]
      clear h95
      go_enter Tryz.func100, Tryz.ntmps100
      go_wp2
      go_ret
      exact ⟨rfl, rfl⟩
theorem pdig_any (r : Int) (w : World) : Calls Tryz.prog 101 #[.int .i32 r] w fun e w' => e = .returned (.bool (digR r)) ∧ w' = w := by
  by_cases a : 48 ≤ r
  · by_cases b : r ≤ 57
    · rw [show digR r = true by simp [digR, a, b]]
      go_enter Tryz.func101, Tryz.ntmps101
      go_wp2
      go_ret
      exact ⟨rfl, rfl⟩
    · rw [show digR r = false by simp [digR, a]; omega]
      go_enter Tryz.func101, Tryz.ntmps101
      go_wp2
      go_ret
      exact ⟨rfl, rfl⟩
  · rw [show digR r = false by simp [digR, a]]
    go_enter Tryz.func101, Tryz.ntmps101
    go_wp2
    go_ret
    exact ⟨rfl, rfl⟩
end Go.Proofs.YtihcggepeadklaaGreatDoor
/- path.plainAhead. -/
namespace Go.Proofs.YtihcggepeadklaaGreatDoor
open Go.RowKit Go.Lib
theorem dec_ok (s : ByteArray) (pos : Nat) (h : pos < s.size) (ho : okR pos ((Utf8.decode s pos).1 : Int) = true) : (Utf8.decode s pos).2 = 1 ∧ prefN pos (s.data.toList.drop pos) = prefN (pos + 1) (s.data.toList.drop (pos + 1)) := by
  by_cases ha : (s[pos]'h).toNat < 128
  · rw [decode_ascii s pos h ha] at ho ⊢
    exact ⟨rfl, prefN_yes s pos h ho⟩
  · have := (decode_high s pos h (by omega)).1
    rw [okR_hi _ _ (by omega)] at ho
    exact absurd ho (by decide)
theorem dec_no (s : ByteArray) (pos : Nat) (h : pos < s.size) (ho : okR pos ((Utf8.decode s pos).1 : Int) = false) : prefN pos (s.data.toList.drop pos) = pos := by
  by_cases ha : (s[pos]'h).toNat < 128
  · rw [decode_ascii s pos h ha] at ho
    exact prefN_no s pos h ho
  · exact prefN_no s pos h (okR_hi _ _ (by omega))
theorem below_iter (w : World) (s : ByteArray) (p : Nat) : Below w.heap.size w (w.iter s p) := (Below.refl _ w).alloc (Nat.le_refl _) _
theorem hmkN {p : Prop} (h : p) : Hid p := h
set_option maxRecDepth 100000 in
set_option maxHeartbeats 2000000 in
theorem ahead_any (s : ByteArray) (w : World) (hs : s.size ≤ 281474976710656) :
    Calls Tryz.prog 62 #[.string s] w fun e w' => e = .returned (.int .i64 (prefN 0 s.data.toList)) ∧ Below w.heap.size w w' := by
  have HF : prefN 0 (s.data.toList.drop 0) = prefN 0 s.data.toList := by rw [List.drop_zero]
  generalize prefN 0 s.data.toList = F at *
  go_enter Tryz.func62, Tryz.ntmps62
  go_wp2
  go_loopw [3] (fun _ wr => ∃ pos, wr = w.iter s pos ∧ pos ≤ s.size ∧ prefN pos (s.data.toList.drop pos) = F) (fun _ wr => s.size - wr.iterPos w.heap.size)
  case atStart => exact ⟨0, rfl, Nat.zero_le _, HF⟩
  case round =>
    obtain ⟨pos, rfl, hle, hf⟩ := hrel
    clear HF
    by_cases hp : pos < s.size
    · have hnx : ∀ ty, (Instr.next (.pointer (some ⟨w.heap.size, 0, none⟩)) true ty).run Tryz.prog (w.iter s pos) = _ := fun ty => run_next_any w s pos ty hp
      have HY := hmkN (dec_ok s pos hp)
      have HN := hmkN (dec_no s pos hp)
      generalize (Utf8.decode s pos).1 = r at *
      generalize (Utf8.decode s pos).2 = d at *
      have CL := plet_any r (w.iter s (pos + d))
      have CD := pdig_any r (w.iter s (pos + d))
      cases hL : letR r with
      | true =>
        have HO := hmkN (HY.out (by rw [okR, hL, Bool.true_or]))
        obtain ⟨hd, he⟩ := HO.out
        subst hd
        rw [hL] at CL
        rw [he] at hf
        clear CD HY HN HO hL he
        go_wp2_with (go_at_call 100; refine CL.mono ?_; rintro e w' ⟨rfl, rfl⟩)
        go_roundw
        case rel => exact ⟨pos + 1, rfl, hp, hf⟩
        case measure => simp; omega
      | false =>
        rw [hL] at CL
        by_cases h0 : pos = 0
        · have hr := HN.out (by rw [okR, hL, h0]; rfl)
          rw [hr] at hf
          subst hf
          have hb0 : ((pos : Int) == 0) = true := by rw [h0]; rfl
          clear CD HY HN hL hr hle hs h0
          go_wp2_with (go_at_call 100; refine CL.mono ?_; rintro e w' ⟨rfl, rfl⟩)
          go_ret
          exact ⟨rfl, below_iter _ _ _⟩
        · have hb0 : ((pos : Int) == 0) = false := by rw [beq_eq_false_iff_ne]; omega
          cases hD : digR r with
          | true =>
            obtain ⟨hd, he⟩ := HY.out (by rw [okR_pos _ _ h0, hL, hD]; rfl)
            subst hd
            rw [hD] at CD
            rw [he] at hf
            clear HY HN hL hD he h0
            go_wp2_with (first | (go_at_call 100; refine CL.mono ?_; rintro e w' ⟨rfl, rfl⟩) | (go_at_call 101; refine CD.mono ?_; rintro e w' ⟨rfl, rfl⟩))
            go_roundw
            case rel => exact ⟨pos + 1, rfl, hp, hf⟩
            case measure => simp; omega
          | false =>
            rw [hD] at CD
            by_cases h45 : (r : Int) = 45
            · obtain ⟨hd, he⟩ := HY.out (by rw [okR_pos _ _ h0, hL, hD, h45]; rfl)
              subst hd
              rw [he] at hf
              rw [h45] at CL CD hnx
              clear HY HN hL hD he h0 h45
              go_wp2_with (first | (go_at_call 100; refine CL.mono ?_; rintro e w' ⟨rfl, rfl⟩) | (go_at_call 101; refine CD.mono ?_; rintro e w' ⟨rfl, rfl⟩))
              go_roundw
              case rel => exact ⟨pos + 1, rfl, hp, hf⟩
              case measure => simp; omega
            · have hr := HN.out (by rw [okR_pos _ _ h0, hL, hD]; simp only [Bool.false_or, decide_eq_false_iff_not]; exact h45)
              have hb5 : ((r : Int) == 45) = false := by rw [beq_eq_false_iff_ne]; exact h45
              have hb6 : ((r : Int) != 45) = true := by rw [bne_iff_ne]; exact h45
              rw [hr] at hf
              subst hf
              clear HY HN hL hD hr hle hs h0 h45
              go_wp2_with (first | (go_at_call 100; refine CL.mono ?_; rintro e w' ⟨rfl, rfl⟩) | (go_at_call 101; refine CD.mono ?_; rintro e w' ⟨rfl, rfl⟩))
              go_ret
              exact ⟨rfl, below_iter _ _ _⟩
    · have hnx : ∀ ty, (Instr.next (.pointer (some ⟨w.heap.size, 0, none⟩)) true ty).run Tryz.prog (w.iter s pos) = _ := fun ty => run_next_end w s pos ty hp
      have hq : F = s.size := by rw [← hf, prefN_end s pos hp]; omega
      subst hq
      clear hf
      go_wp2
      go_ret
      exact ⟨rfl, below_iter _ _ _⟩
end Go.Proofs.YtihcggepeadklaaGreatDoor
/- The document's plain. -/
namespace Go.Proofs.YtihcggepeadklaaGreatDoor
open Go.RowKit Go.Lib
set_option maxHeartbeats 1000000 in
theorem rfst_any (r : Int) (w : World) : Calls Tryz.prog 91 #[.int .u8 r] w fun e w' => e = .returned (.bool (letR r)) ∧ w' = w := by
  by_cases h95 : r = 95
  · subst h95
    rw [letR_us]
    go_enter Tryz.func91, Tryz.ntmps91
    go_wp2
    go_ret
    exact ⟨rfl, rfl⟩
  · have hb : (r == 95) = false := by rw [beq_eq_false_iff_ne]; exact h95
    by_cases c : 97 ≤ r
    · by_cases d : r ≤ 122
      · rw [letR_low c d]
        clear h95 hb
        go_enter Tryz.func91, Tryz.ntmps91
        go_wp2
        go_ret
        exact ⟨rfl, rfl⟩
      · have a : 65 ≤ r := by omega
        have b : ¬ r ≤ 90 := by omega
        rw [letR_not (by omega) (by omega) h95]
        clear h95
        go_enter Tryz.func91, Tryz.ntmps91
        go_wp2
        go_ret
        exact ⟨rfl, rfl⟩
    · by_cases a : 65 ≤ r
      · by_cases b : r ≤ 90
        · rw [letR_up a b]
          clear h95 hb
          go_enter Tryz.func91, Tryz.ntmps91
          go_wp2
          go_ret
          exact ⟨rfl, rfl⟩
        · rw [letR_not (by omega) (by omega) h95]
          clear h95
          go_enter Tryz.func91, Tryz.ntmps91
          go_wp2
          go_ret
          exact ⟨rfl, rfl⟩
      · rw [letR_not (by omega) (by omega) h95]
        clear h95
        go_enter Tryz.func91, Tryz.ntmps91
        go_wp2
        go_ret
        exact ⟨rfl, rfl⟩
/-- a byte behind a name's first -/
def latR (r : Int) : Bool := letR r || digR r || decide (r = 45)
set_option maxHeartbeats 1000000 in
theorem rlat_any (r : Int) (w : World) : Calls Tryz.prog 92 #[.int .u8 r] w fun e w' => e = .returned (.bool (latR r)) ∧ w' = w := by
  have CF := rfst_any r w
  cases hL : letR r with
  | true =>
    rw [show latR r = true by rw [latR, hL]; rfl]
    rw [hL] at CF
    clear hL
    go_enter Tryz.func92, Tryz.ntmps92
    go_wp2_with (go_at_call 91; refine CF.mono ?_; rintro e w' ⟨rfl, rfl⟩)
    go_ret
    exact ⟨rfl, rfl⟩
  | false =>
    rw [hL] at CF
    by_cases a : 48 ≤ r
    · by_cases b : r ≤ 57
      · rw [show latR r = true by rw [latR, hL, show digR r = true by simp [digR, a, b]]; rfl]
        clear hL
        go_enter Tryz.func92, Tryz.ntmps92
        go_wp2_with (go_at_call 91; refine CF.mono ?_; rintro e w' ⟨rfl, rfl⟩)
        go_ret
        exact ⟨rfl, rfl⟩
      · have hb : (r == 45) = false := by rw [beq_eq_false_iff_ne]; omega
        rw [show latR r = false by rw [latR, hL, show digR r = false by simp [digR, a]; omega]; simp; omega]
        clear hL
        go_enter Tryz.func92, Tryz.ntmps92
        go_wp2_with (go_at_call 91; refine CF.mono ?_; rintro e w' ⟨rfl, rfl⟩)
        go_ret
        exact ⟨by show Ending.returned (.bool (decide (r ≤ 57))) = _; rw [decide_eq_false (Int.not_le.2 b)], rfl⟩
    · have hD : digR r = false := by simp [digR, a]
      by_cases h45 : r = 45
      · subst h45
        rw [show latR 45 = true by decide]
        clear hL hD
        go_enter Tryz.func92, Tryz.ntmps92
        go_wp2_with (go_at_call 91; refine CF.mono ?_; rintro e w' ⟨rfl, rfl⟩)
        go_ret
        exact ⟨rfl, rfl⟩
      · have hb : (r == 45) = false := by rw [beq_eq_false_iff_ne]; exact h45
        rw [show latR r = false by rw [latR, hL, hD]; simpa using h45]
        clear hL hD h45
        go_enter Tryz.func92, Tryz.ntmps92
        go_wp2_with (go_at_call 91; refine CF.mono ?_; rintro e w' ⟨rfl, rfl⟩)
        go_ret
        exact ⟨rfl, rfl⟩
end Go.Proofs.YtihcggepeadklaaGreatDoor
/- The document's plain; whether a name is plain. -/
namespace Go.Proofs.YtihcggepeadklaaGreatDoor
open Go.RowKit Go.Lib
theorem plnN_nil {s : ByteArray} (h : ¬ 0 < s.size) : plnN s.data.toList = false := by
  have : s.data.toList = [] := by have := drop_endN s 0 h; rwa [List.drop_zero] at this
  rw [this]; rfl
theorem plnN_all {s : ByteArray} (h : 0 < s.size) : plnN s.data.toList = allN 0 (s.data.toList.drop 0) := by
  rw [List.drop_zero]
  have := drop_consN s 0 h
  rw [List.drop_zero] at this
  rw [plnN, this]; rfl
theorem str_nil {s : ByteArray} (h : ¬ 0 < s.size) : s = ⟨#[]⟩ := by
  have : s.data.toList = [] := by have := drop_endN s 0 h; rwa [List.drop_zero] at this
  apply ByteArray.ext
  apply Array.ext'
  rw [this]
theorem str_ne {s : ByteArray} (h : 0 < s.size) : s.toList.isEmpty = false := by
  rw [ByteArray.toList_eq]
  have := drop_consN s 0 h
  rw [List.drop_zero] at this
  rw [this]; rfl
set_option maxRecDepth 100000 in
set_option maxHeartbeats 2000000 in
theorem rplain_any (s : ByteArray) (w : World) (hs : s.size ≤ 281474976710656) :
    Calls Tryz.prog 96 #[.string s] w fun e w' => e = .returned (.bool (plnN s.data.toList)) ∧ w' = w := by
  by_cases h0 : 0 < s.size
  case neg =>
    rw [plnN_nil h0]
    have e := str_nil h0
    subst e
    go_enter Tryz.func96, Tryz.ntmps96
    go_wp2
    go_ret
    exact ⟨rfl, rfl⟩
  rw [plnN_all h0]
  have hne := str_ne h0
  have CF := rfst_any (s[0]'h0).toNat w
  have CT : ∀ r : Int, Calls Tryz.prog 92 #[.int .u8 r] w fun e w' => e = .returned (.bool (latR r)) ∧ w' = w := fun r => rlat_any r w
  cases hL : letR (s[0]'h0).toNat with
  | false =>
    rw [allN_no s 0 h0 (by rw [okR_zero]; exact hL)]
    rw [hL] at CF
    have y0 : (0 : Int) < s.size := by omega
    clear hL CT
    go_enter Tryz.func96, Tryz.ntmps96
    go_wp2_with (go_at_call 91; refine CF.mono ?_; rintro e w' ⟨rfl, rfl⟩)
    go_ret
    exact ⟨rfl, rfl⟩
  | true =>
    rw [allN_yes s 0 h0 (by rw [okR_zero]; exact hL)]
    rw [hL] at CF
    have y0 : (0 : Int) < s.size := by omega
    generalize hF : allN (0 + 1) (s.data.toList.drop (0 + 1)) = F
    clear hL
    go_enter Tryz.func96, Tryz.ntmps96
    go_wp2_with fail
    refine CF.mono ?_
    rintro e w' ⟨rfl, rfl⟩
    go_wp2_with fail
    go_loopw [3] (fun i wr => ∃ k : Nat, 1 ≤ k ∧ k ≤ s.size ∧ i = .int .i64 k ∧ wr = w' ∧ allN k (s.data.toList.drop k) = F) (fun i _ => s.size - (RowKit.intOf i).toNat)
    case atStart => exact ⟨1, Nat.le_refl _, h0, rfl, rfl, hF⟩
    case round =>
      obtain ⟨k, hk1, hk, rfl, rfl, hf⟩ := hrel
      clear hF CF
      by_cases hlt : k < s.size
      · have y1 : (k : Int) < s.size := by omega
        have C := CT (s[k]'hlt).toNat
        have HO := hmkN (okR_pos k (s[k]'hlt).toNat (by omega))
        cases hL : latR (s[k]'hlt).toNat with
        | true =>
          rw [allN_yes s k hlt (by rw [HO.out]; exact hL)] at hf
          rw [hL] at C
          clear hL CT HO
          go_wp2_with (go_at_call 92; refine C.mono ?_; rintro e w' ⟨rfl, rfl⟩)
          go_roundw
          case rel => exact ⟨k + 1, by omega, by omega, by simp, trivial, hf⟩
          case measure => simp [RowKit.intOf]; omega
        | false =>
          rw [allN_no s k hlt (by rw [HO.out]; exact hL)] at hf
          subst hf
          rw [hL] at C
          clear hL CT HO
          go_wp2_with (go_at_call 92; refine C.mono ?_; rintro e w' ⟨rfl, rfl⟩)
          go_ret
          exact ⟨rfl, rfl⟩
      · have y1 : ¬ (k : Int) < s.size := by omega
        rw [allN_end s k hlt] at hf
        subst hf
        clear CT
        go_wp2
        go_ret
        exact ⟨rfl, rfl⟩
end Go.Proofs.YtihcggepeadklaaGreatDoor
/- Contract: the document's Quote. -/
namespace Go.Proofs.YtihcggepeadklaaGreatDoor
open Go.RowKit Go.Lib
/-- where the byte stands among the seven that have letters; 7: nowhere -/
def Q.idxN (c : Nat) : Nat := if c = 34 then 0 else if c = 92 then 1 else if c = 8 then 2 else if c = 9 then 3 else if c = 10 then 4 else if c = 12 then 5 else if c = 13 then 6 else 7
theorem Q.idxN_le (c : Nat) : Q.idxN c ≤ 7 := by
  unfold Q.idxN
  repeat' split
  all_goals omega
theorem Q.idx_none (c : Nat) (h : ¬ Q.idxN c < 7) : Q.letN c = 0 := by
  revert h
  unfold Q.idxN Q.letN
  repeat' split
  all_goals first | rfl | (intro h; omega)
theorem stand_ne (c : UInt8) (k : Nat) (h : k < Q.idxN c.toNat) (h' : k < (⟨#[34, 92, 8, 9, 10, 12, 13]⟩ : ByteArray).size) : (⟨#[34, 92, 8, 9, 10, 12, 13]⟩ : ByteArray)[k].toNat ≠ c.toNat := by
  have key : ∀ (k : Fin 7), (⟨#[34, 92, 8, 9, 10, 12, 13]⟩ : ByteArray)[k.val]'(k.isLt) = UInt8.ofNat ([34, 92, 8, 9, 10, 12, 13].getD k.val 0) ∧ Q.idxN ([34, 92, 8, 9, 10, 12, 13].getD k.val 0) = k.val ∧ [34, 92, 8, 9, 10, 12, 13].getD k.val 0 < 256 := by decide
  have hk := key ⟨k, h'⟩
  simp only at hk
  intro e
  rw [hk.1] at e
  obtain ⟨_, h2, h3⟩ := hk
  generalize [34, 92, 8, 9, 10, 12, 13].getD k 0 = z at *
  have e2 : z = c.toNat := by
    rw [← e]; simp; omega
  rw [← e2] at h
  omega
theorem stand_eq (c : UInt8) (h : Q.idxN c.toNat < 7) (h' : Q.idxN c.toNat < (⟨#[34, 92, 8, 9, 10, 12, 13]⟩ : ByteArray).size) (h'' : Q.idxN c.toNat < (⟨#[34, 92, 98, 116, 110, 102, 114]⟩ : ByteArray).size) :
    (⟨#[34, 92, 8, 9, 10, 12, 13]⟩ : ByteArray)[Q.idxN c.toNat].toNat = c.toNat ∧ (⟨#[34, 92, 98, 116, 110, 102, 114]⟩ : ByteArray)[Q.idxN c.toNat] = UInt8.ofNat (Q.letN c.toNat) ∧ Q.letN c.toNat ≠ 0 := by
  have key : ∀ c : Fin 256, (hh : Q.idxN c.val < 7) → (⟨#[34, 92, 8, 9, 10, 12, 13]⟩ : ByteArray)[Q.idxN c.val]'(hh) = UInt8.ofNat c.val ∧ (⟨#[34, 92, 98, 116, 110, 102, 114]⟩ : ByteArray)[Q.idxN c.val]'(hh) = UInt8.ofNat (Q.letN c.val) ∧ Q.letN c.val ≠ 0 := by decide +kernel
  have hk := key ⟨c.toNat, c.toNat_lt⟩ h
  refine ⟨?_, hk.2⟩
  rw [hk.1]
  simp
set_option maxRecDepth 100000 in
set_option maxHeartbeats 2000000 in
theorem refQuote_good (s : ByteArray) (w : World) (hs : s.size ≤ 2147483648) (hV : validD s.data.toList = true) :
    Calls Tryz.prog 97 #[.string s] w fun e w' => e = .returned (.tuple #[.string ⟨(Q.qt s.data.toList).toArray⟩, .int .i64 0]) ∧ Below w.heap.size w w' := by
  have c := refValid_anyW s (by omega) w
  rw [hV] at c
  clear hV
  go_enter Tryz.func97, Tryz.ntmps97
  go_wp2_with (go_at_call 56; refine c.mono ?_; rintro e w ⟨rfl, rfl⟩)
  go_loopw [5, 6] (fun v i wr => ∃ k : Nat, k ≤ s.size ∧ i = .int .i64 k ∧ OwnB w.heap.size v (34 :: Q.body (s.data.toList.take k)) wr ∧ Below w.heap.size w wr) (fun _ i _ => s.size - (RowKit.intOf i).toNat)
  case atStart => exact ⟨0, Nat.zero_le _, rfl, OwnB.built w.heap.size w [34] (Nat.le_refl _) (by simp), (Below.refl _ _).alloc (Nat.le_refl _) _⟩
  case round =>
    obtain ⟨k, hk, rfl, ho, bk⟩ := hrel
    have hl0 := Q.sz_le (s.data.toList.take k)
    have hl1 : (s.data.toList.take k).length ≤ k := List.length_take_le _ _
    have hbl : (Q.body (s.data.toList.take k)).length ≤ 12884901888 := by unfold Q.sz at hl0; omega
    have hsk := bk.size
    clear hl0 c
    by_cases hlt : k < s.size
    · have y1 : (k : Int) < s.size := by omega
      have HS : Hid (34 :: Q.body (s.data.toList.take (k + 1)) = (34 :: Q.body (s.data.toList.take k)) ++ Q.esc s[k]) := by
        show _ = _
        rw [take_snoc s k hlt, Q.body_snoc]; rfl
      go_wp2_with fail
      go_loop [8] (fun j => ∃ i : Nat, i ≤ Q.idxN s[k].toNat ∧ j = .int .i64 i) (fun j => 7 - (RowKit.intOf j).toNat)
      case atStart => exact ⟨0, Nat.zero_le _, rfl⟩
      case round =>
        obtain ⟨i, hi, rfl⟩ := hrel
        have hi7 := Q.idxN_le s[k].toNat
        by_cases hii : i < Q.idxN s[k].toNat
        · have z1 : (i : Int) < 7 := by omega
          have hne := stand_ne s[k] i hii (by show i < 7; omega)
          have z2 : ((((⟨#[34, 92, 8, 9, 10, 12, 13]⟩ : ByteArray)[i]'(by show i < 7; omega)).toNat : Int) != (s[k].toNat : Int)) = true := by rw [bne_iff_ne]; omega
          go_wp2
          go_round
          case rel => exact ⟨i + 1, by omega, by go_num⟩
          case measure => simp [RowKit.intOf]; omega
        · obtain rfl : i = Q.idxN s[k].toNat := by omega
          by_cases h7 : Q.idxN s[k].toNat < 7
          · have hse := stand_eq s[k] h7 (by exact h7) (by exact h7)
            have z1 : (Q.idxN s[k].toNat : Int) < 7 := by omega
            have z2 : ((((⟨#[34, 92, 8, 9, 10, 12, 13]⟩ : ByteArray)[Q.idxN s[k].toNat]'(by exact h7)).toNat : Int) != (s[k].toNat : Int)) = false := by rw [bne_eq_false_iff_eq]; omega
            have HE : Hid (Q.esc s[k] = [92, (⟨#[34, 92, 98, 116, 110, 102, 114]⟩ : ByteArray)[Q.idxN s[k].toNat]'(by exact h7)]) := by
              show _ = _
              rw [Q.esc_let _ hse.2.2, hse.2.1]
            clear hse
            generalize Q.idxN s[k].toNat = I at *
            go_wp2_with (at_builtin; refine wpl_app _ rfl (.tmp 40) (.tmp 43) rfl w.heap.size _ _ rfl (ho.alloc _) wr.heap.size 2 2 [92, (⟨#[34, 92, 98, 116, 110, 102, 114]⟩ : ByteArray)[I]'(by exact h7)] rfl rfl _ (0, 0) (heap_alloc_new wr _) rfl (by simp; omega) (by simp; omega) ?_; intro v' w1 ho1 b1)
            go_roundw
            case rel => exact ⟨k + 1, by omega, by go_num, by rw [HS.out, HE.out]; exact ho1, (bk.alloc hsk _).trans b1⟩
            case measure => simp [RowKit.intOf]; omega
          · have z1 : ¬ (Q.idxN s[k].toNat : Int) < 7 := by omega
            have hl := Q.idx_none s[k].toNat h7
            by_cases h32 : s[k].toNat < 32
            · have z3 : (s[k].toNat : Int) < 32 := by omega
              have HE : Hid (Q.esc s[k] = [92, 117, 48, 48, (⟨#[48, 49, 50, 51, 52, 53, 54, 55, 56, 57, 97, 98, 99, 100, 101, 102]⟩ : ByteArray)[s[k].toNat / 16]'(by show _ < 16; omega), (⟨#[48, 49, 50, 51, 52, 53, 54, 55, 56, 57, 97, 98, 99, 100, 101, 102]⟩ : ByteArray)[s[k].toNat % 16]'(by show _ < 16; omega)]) := by
                show _ = _
                rw [Q.esc_low _ hl h32, hexAt _ (by omega), hexAt _ (by omega)]
              clear hl
              have q1 : (0 : Int) ≤ (s[k].toNat : Int) / 16 := by omega
              have q2 : (s[k].toNat : Int) / 16 < 16 := by omega
              have q3 : (0 : Int) ≤ (s[k].toNat : Int) % 16 := by omega
              have q4 : (s[k].toNat : Int) % 16 < 16 := by omega
              have q5 : IntKind.u8.wrap ((s[k].toNat : Int) / 16) = ((s[k].toNat / 16 : Nat) : Int) := by rw [IntKind.wrap_u8]; omega
              have q6 : (s[k].toNat : Int).tmod 16 = ((s[k].toNat % 16 : Nat) : Int) := by rw [Int.tmod_eq_emod_of_nonneg (by omega)]; omega
              have q7 : s[k].toNat / 16 < 16 := by omega
              have q8 : s[k].toNat % 16 < 16 := by omega
              go_wp2_with fail
              go_region_law ((refine step_app _ (by rfl) (.tmp 48) (.tmp 55) (by rfl) w.heap.size _ _ (by rfl) (show OwnB w.heap.size _ (34 :: Q.body (s.data.toList.take k)) _ from ho.alloc _) wr.heap.size 6 6 [92, 117, 48, 48, (⟨#[48, 49, 50, 51, 52, 53, 54, 55, 56, 57, 97, 98, 99, 100, 101, 102]⟩ : ByteArray)[s[k].toNat / 16]'(by show _ < 16; omega), (⟨#[48, 49, 50, 51, 52, 53, 54, 55, 56, 57, 97, 98, 99, 100, 101, 102]⟩ : ByteArray)[s[k].toNat % 16]'(by show _ < 16; omega)] (by rfl) rfl (by decide) _ (0, 0) (by exact heap_alloc_new wr _) (by rfl) (by simp; omega) (by simp; omega) ?_; intro v' w1 ho1 b1))
              all_goals
                go_wp2
                go_roundw
                case rel => exact ⟨k + 1, by omega, by go_num, by rw [HS.out, HE.out]; exact ho1, ((bk.alloc hsk _).drew).trans b1⟩
                case measure => simp [RowKit.intOf]; omega
            · have z3 : ¬ (s[k].toNat : Int) < 32 := by omega
              have HE : Hid (Q.esc s[k] = [s[k]]) := Q.esc_same _ hl h32
              clear hl
              go_wp2_with (at_builtin; refine wpl_app _ rfl (.tmp 33) (.tmp 35) rfl w.heap.size _ _ rfl (ho.alloc _) wr.heap.size 1 1 [s[k]] rfl rfl _ (0, 0) (heap_alloc_new wr _) rfl (by simp; omega) (by simp; omega) ?_; intro v' w1 ho1 b1)
              go_roundw
              case rel => exact ⟨k + 1, by omega, by go_num, by rw [HS.out, HE.out]; exact ho1, (bk.alloc hsk _).trans b1⟩
              case measure => simp [RowKit.intOf]; omega
    · have y1 : ¬ (k : Int) < s.size := by omega
      rw [take_all s k (by omega)] at ho hbl
      go_wp2_with (at_builtin; refine wpl_app _ rfl (.tmp 57) (.tmp 58) rfl w.heap.size _ _ rfl (ho.alloc _) wr.heap.size 1 1 [34] rfl rfl _ (0, 0) (heap_alloc_new wr _) rfl (by simp; omega) (by simp; omega) ?_; intro v' w1 ho1 b1; have hcv := ho1.conv)
      go_ret2
      exact ⟨rfl, (bk.alloc hsk _).trans b1⟩
end Go.Proofs.YtihcggepeadklaaGreatDoor
