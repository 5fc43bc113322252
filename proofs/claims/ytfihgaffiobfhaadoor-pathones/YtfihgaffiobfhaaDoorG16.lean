/- joined: WalksE NamE -/
import Derived.Test.YtfihgaffiobfhaaDoorG13
import Derived.Test.YtfihgaffiobfhaaDoorG15
/- Contract: the document's Quote. -/
set_option linter.unusedSimpArgs false
set_option linter.unusedVariables false
namespace Go.Proofs.YtfihgaffiobfhaaDoor
open Go.RowKit Go.Lib
/-- where the byte stands among the seven that have letters; 7: nowhere -/
def Q.idxN (c : Nat) : Nat := if c = 34 then 0 else if c = 92 then 1 else if c = 8 then 2 else if c = 9 then 3 else if c = 10 then 4 else if c = 12 then 5 else if c = 13 then 6 else 7
theorem Q.idxN_le (c : Nat) : Q.idxN c ≤ 7 := by
  unfold Q.idxN
  repeat' split
  all_goals omega
theorem Q.idx_none (c : Nat) (h : ¬ Q.idxN c < 7) : Q.letN c = 0 := by
  revert h
  unfold Q.idxN Q.letN
  repeat' split
  all_goals first | rfl | (intro h; omega)
theorem stand_ne (c : UInt8) (k : Nat) (h : k < Q.idxN c.toNat) (h' : k < (⟨#[34, 92, 8, 9, 10, 12, 13]⟩ : ByteArray).size) : (⟨#[34, 92, 8, 9, 10, 12, 13]⟩ : ByteArray)[k].toNat ≠ c.toNat := by
  have key : ∀ (k : Fin 7), (⟨#[34, 92, 8, 9, 10, 12, 13]⟩ : ByteArray)[k.val]'(k.isLt) = UInt8.ofNat ([34, 92, 8, 9, 10, 12, 13].getD k.val 0) ∧ Q.idxN ([34, 92, 8, 9, 10, 12, 13].getD k.val 0) = k.val ∧ [34, 92, 8, 9, 10, 12, 13].getD k.val 0 < 256 := by decide
  have hk := key ⟨k, h'⟩
  simp only at hk
  intro e
  rw [hk.1] at e
  obtain ⟨_, h2, h3⟩ := hk
  generalize [34, 92, 8, 9, 10, 12, 13].getD k 0 = z at *
  have e2 : z = c.toNat := by
    rw [← e]; simp; omega
  rw [← e2] at h
  omega
theorem stand_eq (c : UInt8) (h : Q.idxN c.toNat < 7) (h' : Q.idxN c.toNat < (⟨#[34, 92, 8, 9, 10, 12, 13]⟩ : ByteArray).size) (h'' : Q.idxN c.toNat < (⟨#[34, 92, 98, 116, 110, 102, 114]⟩ : ByteArray).size) :
    (⟨#[34, 92, 8, 9, 10, 12, 13]⟩ : ByteArray)[Q.idxN c.toNat].toNat = c.toNat ∧ (⟨#[34, 92, 98, 116, 110, 102, 114]⟩ : ByteArray)[Q.idxN c.toNat] = UInt8.ofNat (Q.letN c.toNat) ∧ Q.letN c.toNat ≠ 0 := by
  have key : ∀ c : Fin 256, (hh : Q.idxN c.val < 7) → (⟨#[34, 92, 8, 9, 10, 12, 13]⟩ : ByteArray)[Q.idxN c.val]'(hh) = UInt8.ofNat c.val ∧ (⟨#[34, 92, 98, 116, 110, 102, 114]⟩ : ByteArray)[Q.idxN c.val]'(hh) = UInt8.ofNat (Q.letN c.val) ∧ Q.letN c.val ≠ 0 := by decide +kernel
  have hk := key ⟨c.toNat, c.toNat_lt⟩ h
  refine ⟨?_, hk.2⟩
  rw [hk.1]
  simp
set_option maxRecDepth 100000 in
set_option maxHeartbeats 2000000 in
theorem refQuote_good (s : ByteArray) (w : World) (hs : s.size ≤ 2147483648) (hV : validD s.data.toList = true) :
    Calls Tryd.prog 48 #[.string s] w fun e w' => e = .returned (.tuple #[.string ⟨(Q.qt s.data.toList).toArray⟩, .int .i64 0]) ∧ Below w.heap.size w w' := by
  have c := refValid_anyW s (by omega) w
  rw [hV] at c
  clear hV
  go_enter Tryd.func48, Tryd.ntmps48
  go_wp2_with (go_at_call 37; refine c.mono ?_; rintro e w ⟨rfl, rfl⟩)
  go_loopw [5, 6] (fun v i wr => ∃ k : Nat, k ≤ s.size ∧ i = .int .i64 k ∧ OwnB w.heap.size v (34 :: Q.body (s.data.toList.take k)) wr ∧ Below w.heap.size w wr) (fun _ i _ => s.size - (RowKit.intOf i).toNat)
  case atStart => exact ⟨0, Nat.zero_le _, rfl, OwnB.built w.heap.size w [34] (Nat.le_refl _) (by simp), (Below.refl _ _).alloc (Nat.le_refl _) _⟩
  case round =>
    obtain ⟨k, hk, rfl, ho, bk⟩ := hrel
    have hl0 := Q.sz_le (s.data.toList.take k)
    have hl1 : (s.data.toList.take k).length ≤ k := List.length_take_le _ _
    have hbl : (Q.body (s.data.toList.take k)).length ≤ 12884901888 := by unfold Q.sz at hl0; omega
    have hsk := bk.size
    clear hl0 c
    by_cases hlt : k < s.size
    · have y1 : (k : Int) < s.size := by omega
      have HS : Hid (34 :: Q.body (s.data.toList.take (k + 1)) = (34 :: Q.body (s.data.toList.take k)) ++ Q.esc s[k]) := by
        show _ = _
        rw [take_snoc s k hlt, Q.body_snoc]; rfl
      go_wp2_with fail
      go_loop [8] (fun j => ∃ i : Nat, i ≤ Q.idxN s[k].toNat ∧ j = .int .i64 i) (fun j => 7 - (RowKit.intOf j).toNat)
      case atStart => exact ⟨0, Nat.zero_le _, rfl⟩
      case round =>
        obtain ⟨i, hi, rfl⟩ := hrel
        have hi7 := Q.idxN_le s[k].toNat
        by_cases hii : i < Q.idxN s[k].toNat
        · have z1 : (i : Int) < 7 := by omega
          have hne := stand_ne s[k] i hii (by show i < 7; omega)
          have z2 : ((((⟨#[34, 92, 8, 9, 10, 12, 13]⟩ : ByteArray)[i]'(by show i < 7; omega)).toNat : Int) != (s[k].toNat : Int)) = true := by rw [bne_iff_ne]; omega
          go_wp2
          go_round
          case rel => exact ⟨i + 1, by omega, by go_num⟩
          case measure => simp [RowKit.intOf]; omega
        · obtain rfl : i = Q.idxN s[k].toNat := by omega
          by_cases h7 : Q.idxN s[k].toNat < 7
          · have hse := stand_eq s[k] h7 (by exact h7) (by exact h7)
            have z1 : (Q.idxN s[k].toNat : Int) < 7 := by omega
            have z2 : ((((⟨#[34, 92, 8, 9, 10, 12, 13]⟩ : ByteArray)[Q.idxN s[k].toNat]'(by exact h7)).toNat : Int) != (s[k].toNat : Int)) = false := by rw [bne_eq_false_iff_eq]; omega
            have HE : Hid (Q.esc s[k] = [92, (⟨#[34, 92, 98, 116, 110, 102, 114]⟩ : ByteArray)[Q.idxN s[k].toNat]'(by exact h7)]) := by
              show _ = _
              rw [Q.esc_let _ hse.2.2, hse.2.1]
            clear hse
            generalize Q.idxN s[k].toNat = I at *
            go_wp2_with (at_builtin; refine wpl_app _ rfl (.tmp 40) (.tmp 43) rfl w.heap.size _ _ rfl (ho.alloc _) wr.heap.size 2 2 [92, (⟨#[34, 92, 98, 116, 110, 102, 114]⟩ : ByteArray)[I]'(by exact h7)] rfl rfl _ (0, 0) (heap_alloc_new wr _) rfl (by simp; omega) (by simp; omega) ?_; intro v' w1 ho1 b1)
            go_roundw
            case rel => exact ⟨k + 1, by omega, by go_num, by rw [HS.out, HE.out]; exact ho1, (bk.alloc hsk _).trans b1⟩
            case measure => simp [RowKit.intOf]; omega
          · have z1 : ¬ (Q.idxN s[k].toNat : Int) < 7 := by omega
            have hl := Q.idx_none s[k].toNat h7
            by_cases h32 : s[k].toNat < 32
            · have z3 : (s[k].toNat : Int) < 32 := by omega
              have HE : Hid (Q.esc s[k] = [92, 117, 48, 48, (⟨#[48, 49, 50, 51, 52, 53, 54, 55, 56, 57, 97, 98, 99, 100, 101, 102]⟩ : ByteArray)[s[k].toNat / 16]'(by show _ < 16; omega), (⟨#[48, 49, 50, 51, 52, 53, 54, 55, 56, 57, 97, 98, 99, 100, 101, 102]⟩ : ByteArray)[s[k].toNat % 16]'(by show _ < 16; omega)]) := by
                show _ = _
                rw [Q.esc_low _ hl h32, hexAt _ (by omega), hexAt _ (by omega)]
              clear hl
              have q1 : (0 : Int) ≤ (s[k].toNat : Int) / 16 := by omega
              have q2 : (s[k].toNat : Int) / 16 < 16 := by omega
              have q3 : (0 : Int) ≤ (s[k].toNat : Int) % 16 := by omega
              have q4 : (s[k].toNat : Int) % 16 < 16 := by omega
              have q5 : IntKind.u8.wrap ((s[k].toNat : Int) / 16) = ((s[k].toNat / 16 : Nat) : Int) := by rw [IntKind.wrap_u8]; omega
              have q6 : (s[k].toNat : Int).tmod 16 = ((s[k].toNat % 16 : Nat) : Int) := by rw [Int.tmod_eq_emod_of_nonneg (by omega)]; omega
              have q7 : s[k].toNat / 16 < 16 := by omega
              have q8 : s[k].toNat % 16 < 16 := by omega
              go_wp2_with fail
              go_region_law ((refine step_app _ (by rfl) (.tmp 48) (.tmp 55) (by rfl) w.heap.size _ _ (by rfl) (show OwnB w.heap.size _ (34 :: Q.body (s.data.toList.take k)) _ from ho.alloc _) wr.heap.size 6 6 [92, 117, 48, 48, (⟨#[48, 49, 50, 51, 52, 53, 54, 55, 56, 57, 97, 98, 99, 100, 101, 102]⟩ : ByteArray)[s[k].toNat / 16]'(by show _ < 16; omega), (⟨#[48, 49, 50, 51, 52, 53, 54, 55, 56, 57, 97, 98, 99, 100, 101, 102]⟩ : ByteArray)[s[k].toNat % 16]'(by show _ < 16; omega)] (by rfl) rfl (by decide) _ (0, 0) (by exact heap_alloc_new wr _) (by rfl) (by simp; omega) (by simp; omega) ?_; intro v' w1 ho1 b1))
              all_goals
                go_wp2
                go_roundw
                case rel => exact ⟨k + 1, by omega, by go_num, by rw [HS.out, HE.out]; exact ho1, ((bk.alloc hsk _).drew).trans b1⟩
                case measure => simp [RowKit.intOf]; omega
            · have z3 : ¬ (s[k].toNat : Int) < 32 := by omega
              have HE : Hid (Q.esc s[k] = [s[k]]) := Q.esc_same _ hl h32
              clear hl
              go_wp2_with (at_builtin; refine wpl_app _ rfl (.tmp 33) (.tmp 35) rfl w.heap.size _ _ rfl (ho.alloc _) wr.heap.size 1 1 [s[k]] rfl rfl _ (0, 0) (heap_alloc_new wr _) rfl (by simp; omega) (by simp; omega) ?_; intro v' w1 ho1 b1)
              go_roundw
              case rel => exact ⟨k + 1, by omega, by go_num, by rw [HS.out, HE.out]; exact ho1, (bk.alloc hsk _).trans b1⟩
              case measure => simp [RowKit.intOf]; omega
    · have y1 : ¬ (k : Int) < s.size := by omega
      rw [take_all s k (by omega)] at ho hbl
      go_wp2_with (at_builtin; refine wpl_app _ rfl (.tmp 57) (.tmp 58) rfl w.heap.size _ _ rfl (ho.alloc _) wr.heap.size 1 1 [34] rfl rfl _ (0, 0) (heap_alloc_new wr _) rfl (by simp; omega) (by simp; omega) ?_; intro v' w1 ho1 b1; have hcv := ho1.conv)
      go_ret2
      exact ⟨rfl, (bk.alloc hsk _).trans b1⟩
end Go.Proofs.YtfihgaffiobfhaaDoor
/- A name's text: the program's and the document's. -/
namespace Go.Proofs.YtfihgaffiobfhaaDoor
open Go.RowKit Go.Lib
def SPost (l : List UInt8) (w : World) (e : Ending) (w' : World) : Prop := e = .returned (.string ⟨l.toArray⟩) ∧ Below w.heap.size w w'
set_option maxRecDepth 100000 in
theorem quoted_any (s : ByteArray) (w : World) (hs : s.size ≤ 2147483648) (hU : Utf8Tabs 0 1 w) (hL : LetTab w) (hz : 3 < w.heap.size) (hV : validD s.data.toList = true) :
    Calls Tryd.prog 44 #[.string s] w (SPost (Q.qt s.data.toList) w) := by
  have c := hmkN (quote_good s w hs hU hL hz hV)
  clear hU hL
  go_enter Tryd.func44, Tryd.ntmps44
  go_wp2_with fail
  refine c.out.mono ?_
  rintro e w' ⟨rfl, hb⟩
  go_wp2_with fail
  go_ret
  exact ⟨rfl, hb⟩
theorem ba_back (s : ByteArray) : (⟨s.data.toList.toArray⟩ : ByteArray) = s := by simp
theorem plain_pref {s : ByteArray} (h0 : 0 < s.size) : (prefN 0 s.data.toList = s.size) ↔ plnN s.data.toList = true := by
  have h := prefN_all s.data.toList 0
  have hl : s.data.toList.length = s.size := by simp
  rw [hl, Nat.zero_add] at h
  rw [h, plnN_all h0, List.drop_zero]
set_option maxRecDepth 100000 in
set_option maxHeartbeats 1000000 in
theorem name_any (s : ByteArray) (w : World) (hs : s.size ≤ 2147483648) (hU : Utf8Tabs 0 1 w) (hL : LetTab w) (hz : 3 < w.heap.size) (hV : validD s.data.toList = true) :
    Calls Tryd.prog 27 #[.string s] w (SPost (nmT s.data.toList) w) := by
  by_cases h0 : 0 < s.size
  case neg =>
    have c := hmkN (quoted_any s w hs hU hL hz hV)
    rw [show nmT s.data.toList = Q.qt s.data.toList by rw [nmT, plnN_nil h0]; rfl]
    have e := str_nil h0
    clear hU hL hV
    generalize Q.qt s.data.toList = T at *
    subst e
    go_enter Tryd.func27, Tryd.ntmps27
    go_wp2_with fail
    refine c.out.mono ?_
    rintro e w' ⟨rfl, hb⟩
    go_wp2_with fail
    go_ret
    exact ⟨rfl, hb⟩
  have hne := str_ne h0
  have CA := hmkN (ahead_any s w (by omega))
  have hp := plain_pref h0
  cases hB : plnN s.data.toList with
  | true =>
    rw [hp.2 hB] at CA
    rw [show nmT s.data.toList = s.data.toList by rw [nmT, hB]; rfl]
    have HS := hmkN (ba_back s)
    have yy : ((s.size : Int) == s.size) = true := by simp
    clear hU hL hV hp hB
    generalize s.data.toList = T at *
    go_enter Tryd.func27, Tryd.ntmps27
    go_wp2_with fail
    refine CA.out.mono ?_
    rintro e w' ⟨rfl, hb⟩
    go_wp2_with fail
    go_ret
    exact ⟨by rw [HS.out]; rfl, hb⟩
  | false =>
    have hn : prefN 0 s.data.toList ≠ s.size := fun h => by rw [hp.1 h] at hB; exact absurd hB (by decide)
    have yy : ((prefN 0 s.data.toList : Int) == s.size) = false := by rw [beq_eq_false_iff_ne]; omega
    rw [show nmT s.data.toList = Q.qt s.data.toList by rw [nmT, hB]; rfl]
    have HC : Hid (∀ W, Below w.heap.size w W → Calls Tryd.prog 44 #[.string s] W (SPost (Q.qt s.data.toList) W)) := fun W hb =>
      quoted_any s W hs (utab_below hU hb (by omega)) (hL.below hb (by omega)) (Nat.lt_of_lt_of_le hz hb.size) hV
    generalize prefN 0 s.data.toList = F at *
    generalize Q.qt s.data.toList = T at *
    clear hU hL hV hp hB hn
    go_enter Tryd.func27, Tryd.ntmps27
    go_wp2_with fail
    refine CA.out.mono ?_
    rintro e w' ⟨rfl, hb⟩
    go_wp2_with fail
    refine (HC.out _ hb).mono ?_
    rintro e w2 ⟨rfl, hb2⟩
    go_wp2_with fail
    go_ret
    exact ⟨rfl, hb.trans (hb2.mono hb.size)⟩
set_option maxRecDepth 100000 in
set_option maxHeartbeats 1000000 in
theorem rname_any (s : ByteArray) (w : World) (hs : s.size ≤ 2147483648) (hV : validD s.data.toList = true) :
    Calls Tryd.prog 30 #[.string s] w (SPost (nmT s.data.toList) w) := by
  have CP := hmkN (rplain_any s w (by omega))
  have CQ := hmkN (refQuote_good s w hs hV)
  cases hB : plnN s.data.toList with
  | true =>
    rw [hB] at CP
    rw [show nmT s.data.toList = s.data.toList by rw [nmT, hB]; rfl]
    have HS := hmkN (ba_back s)
    clear CQ hV hB
    generalize s.data.toList = T at *
    go_enter Tryd.func30, Tryd.ntmps30
    go_wp2_with fail
    refine CP.out.mono ?_
    rintro e w' ⟨rfl, rfl⟩
    go_wp2_with fail
    go_ret
    exact ⟨by rw [HS.out]; rfl, Below.refl _ _⟩
  | false =>
    rw [hB] at CP
    rw [show nmT s.data.toList = Q.qt s.data.toList by rw [nmT, hB]; rfl]
    clear hV hB
    generalize Q.qt s.data.toList = T at *
    go_enter Tryd.func30, Tryd.ntmps30
    go_wp2_with fail
    refine CP.out.mono ?_
    rintro e w' ⟨rfl, rfl⟩
    go_wp2_with fail
    refine CQ.out.mono ?_
    rintro e w' ⟨rfl, hb⟩
    go_wp2_with fail
    go_ret
    exact ⟨rfl, hb⟩
end Go.Proofs.YtfihgaffiobfhaaDoor
