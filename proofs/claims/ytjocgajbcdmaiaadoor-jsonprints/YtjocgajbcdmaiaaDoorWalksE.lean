import Derived.Test.YtjocgajbcdmaiaaDoorOwn
import Derived.Test.YtjocgajbcdmaiaaDoorWalksD
import Derived.Deep.RegionLaw
/- Contract: the document's Quote. -/
set_option linter.unusedSimpArgs false
set_option linter.unusedVariables false
namespace Go.Proofs.YtjocgajbcdmaiaaDoor
open Go.RowKit Go.Lib

/-- where the byte stands among the seven that have letters; 7: nowhere -/
def Q.idxN (c : Nat) : Nat := if c = 34 then 0 else if c = 92 then 1 else if c = 8 then 2 else if c = 9 then 3 else if c = 10 then 4 else if c = 12 then 5 else if c = 13 then 6 else 7
theorem Q.idxN_le (c : Nat) : Q.idxN c ≤ 7 := by
  unfold Q.idxN
  repeat' split
  all_goals omega
theorem Q.idx_none (c : Nat) (h : ¬ Q.idxN c < 7) : Q.letN c = 0 := by
  revert h
  unfold Q.idxN Q.letN
  repeat' split
  all_goals first | rfl | (intro h; omega)
theorem stand_ne (c : UInt8) (k : Nat) (h : k < Q.idxN c.toNat) (h' : k < (⟨#[34, 92, 8, 9, 10, 12, 13]⟩ : ByteArray).size) : (⟨#[34, 92, 8, 9, 10, 12, 13]⟩ : ByteArray)[k].toNat ≠ c.toNat := by
  have key : ∀ (k : Fin 7), (⟨#[34, 92, 8, 9, 10, 12, 13]⟩ : ByteArray)[k.val]'(k.isLt) = UInt8.ofNat ([34, 92, 8, 9, 10, 12, 13].getD k.val 0) ∧ Q.idxN ([34, 92, 8, 9, 10, 12, 13].getD k.val 0) = k.val ∧ [34, 92, 8, 9, 10, 12, 13].getD k.val 0 < 256 := by decide
  have hk := key ⟨k, h'⟩
  simp only at hk
  intro e
  rw [hk.1] at e
  obtain ⟨_, h2, h3⟩ := hk
  generalize [34, 92, 8, 9, 10, 12, 13].getD k 0 = z at *
  have e2 : z = c.toNat := by
    rw [← e]; simp; omega
  rw [← e2] at h
  omega
theorem stand_eq (c : UInt8) (h : Q.idxN c.toNat < 7) (h' : Q.idxN c.toNat < (⟨#[34, 92, 8, 9, 10, 12, 13]⟩ : ByteArray).size) (h'' : Q.idxN c.toNat < (⟨#[34, 92, 98, 116, 110, 102, 114]⟩ : ByteArray).size) :
    (⟨#[34, 92, 8, 9, 10, 12, 13]⟩ : ByteArray)[Q.idxN c.toNat].toNat = c.toNat ∧ (⟨#[34, 92, 98, 116, 110, 102, 114]⟩ : ByteArray)[Q.idxN c.toNat] = UInt8.ofNat (Q.letN c.toNat) ∧ Q.letN c.toNat ≠ 0 := by
  have key : ∀ c : Fin 256, (hh : Q.idxN c.val < 7) → (⟨#[34, 92, 8, 9, 10, 12, 13]⟩ : ByteArray)[Q.idxN c.val]'(hh) = UInt8.ofNat c.val ∧ (⟨#[34, 92, 98, 116, 110, 102, 114]⟩ : ByteArray)[Q.idxN c.val]'(hh) = UInt8.ofNat (Q.letN c.val) ∧ Q.letN c.val ≠ 0 := by decide +kernel
  have hk := key ⟨c.toNat, c.toNat_lt⟩ h
  refine ⟨?_, hk.2⟩
  rw [hk.1]
  simp

set_option maxRecDepth 100000 in
set_option maxHeartbeats 1000000 in
theorem refQuote_bad (s : ByteArray) (w : World) (hs : s.size ≤ 1048576) (hV : validD s.data.toList = false) :
    Calls Tryd.prog 24 #[.string s] w fun e w' => e = .returned (.tuple #[.string ⟨#[]⟩, .int .i64 11]) ∧ w' = w := by
  have c := refValid_any s (by omega) w
  rw [hV] at c
  clear hV
  go_enter Tryd.func24, Tryd.ntmps24
  go_wp2_with (go_at_call 31; refine c.mono ?_; rintro e w' ⟨rfl, rfl⟩)
  go_ret2
  exact ⟨rfl, rfl⟩

set_option maxRecDepth 100000 in
set_option maxHeartbeats 2000000 in
theorem refQuote_good (s : ByteArray) (w : World) (hs : s.size ≤ 1048576) (hV : validD s.data.toList = true) :
    Calls Tryd.prog 24 #[.string s] w fun e w' => e = .returned (.tuple #[.string ⟨(Q.qt s.data.toList).toArray⟩, .int .i64 0]) ∧ Below w.heap.size w w' := by
  have c := refValid_any s (by omega) w
  rw [hV] at c
  clear hV
  go_enter Tryd.func24, Tryd.ntmps24
  go_wp2_with (go_at_call 31; refine c.mono ?_; rintro e w ⟨rfl, rfl⟩)
  go_loopw [5, 6] (fun v i wr => ∃ k : Nat, k ≤ s.size ∧ i = .int .i64 k ∧ Own w.heap.size v (34 :: Q.body (s.data.toList.take k)) wr ∧ Below w.heap.size w wr) (fun _ i _ => s.size - (RowKit.intOf i).toNat)
  case atStart => exact ⟨0, Nat.zero_le _, rfl, Own.built w.heap.size w [34] (Nat.le_refl _) (by simp), (Below.refl _ _).alloc (Nat.le_refl _) _⟩
  case round =>
    obtain ⟨k, hk, rfl, ho, bk⟩ := hrel
    have hl0 := Q.sz_le (s.data.toList.take k)
    have hl1 : (s.data.toList.take k).length ≤ k := List.length_take_le _ _
    have hbl : (Q.body (s.data.toList.take k)).length ≤ 6291456 := by unfold Q.sz at hl0; omega
    have hsk := bk.size
    clear hl0 c
    by_cases hlt : k < s.size
    · have y1 : (k : Int) < s.size := by omega
      have HS : Hid (34 :: Q.body (s.data.toList.take (k + 1)) = (34 :: Q.body (s.data.toList.take k)) ++ Q.esc s[k]) := by
        show _ = _
        rw [take_snoc s k hlt, Q.body_snoc]; rfl
      go_wp2_with fail
      go_loop [8] (fun j => ∃ i : Nat, i ≤ Q.idxN s[k].toNat ∧ j = .int .i64 i) (fun j => 7 - (RowKit.intOf j).toNat)
      case atStart => exact ⟨0, Nat.zero_le _, rfl⟩
      case round =>
        obtain ⟨i, hi, rfl⟩ := hrel
        have hi7 := Q.idxN_le s[k].toNat
        by_cases hii : i < Q.idxN s[k].toNat
        · have z1 : (i : Int) < 7 := by omega
          have hne := stand_ne s[k] i hii (by show i < 7; omega)
          have z2 : ((((⟨#[34, 92, 8, 9, 10, 12, 13]⟩ : ByteArray)[i]'(by show i < 7; omega)).toNat : Int) != (s[k].toNat : Int)) = true := by rw [bne_iff_ne]; omega
          go_wp2
          go_round
          case rel => exact ⟨i + 1, by omega, by go_num⟩
          case measure => simp [RowKit.intOf]; omega
        · obtain rfl : i = Q.idxN s[k].toNat := by omega
          by_cases h7 : Q.idxN s[k].toNat < 7
          · have hse := stand_eq s[k] h7 (by exact h7) (by exact h7)
            have z1 : (Q.idxN s[k].toNat : Int) < 7 := by omega
            have z2 : ((((⟨#[34, 92, 8, 9, 10, 12, 13]⟩ : ByteArray)[Q.idxN s[k].toNat]'(by exact h7)).toNat : Int) != (s[k].toNat : Int)) = false := by rw [bne_eq_false_iff_eq]; omega
            have HE : Hid (Q.esc s[k] = [92, (⟨#[34, 92, 98, 116, 110, 102, 114]⟩ : ByteArray)[Q.idxN s[k].toNat]'(by exact h7)]) := by
              show _ = _
              rw [Q.esc_let _ hse.2.2, hse.2.1]
            clear hse
            generalize Q.idxN s[k].toNat = I at *
            go_wp2_with (at_builtin; refine wpl_app _ rfl (.tmp 40) (.tmp 43) rfl w.heap.size _ _ rfl (ho.alloc _) wr.heap.size 2 2 [92, (⟨#[34, 92, 98, 116, 110, 102, 114]⟩ : ByteArray)[I]'(by exact h7)] rfl rfl _ (0, 0) (heap_alloc_new wr _) rfl (by simp; omega) (by simp; omega) ?_; intro v' w1 ho1 b1)
            go_roundw
            case rel => exact ⟨k + 1, by omega, by go_num, by rw [HS.out, HE.out]; exact ho1, (bk.alloc hsk _).trans b1⟩
            case measure => simp [RowKit.intOf]; omega
          · have z1 : ¬ (Q.idxN s[k].toNat : Int) < 7 := by omega
            have hl := Q.idx_none s[k].toNat h7
            by_cases h32 : s[k].toNat < 32
            · have z3 : (s[k].toNat : Int) < 32 := by omega
              have HE : Hid (Q.esc s[k] = [92, 117, 48, 48, (⟨#[48, 49, 50, 51, 52, 53, 54, 55, 56, 57, 97, 98, 99, 100, 101, 102]⟩ : ByteArray)[s[k].toNat / 16]'(by show _ < 16; omega), (⟨#[48, 49, 50, 51, 52, 53, 54, 55, 56, 57, 97, 98, 99, 100, 101, 102]⟩ : ByteArray)[s[k].toNat % 16]'(by show _ < 16; omega)]) := by
                show _ = _
                rw [Q.esc_low _ hl h32, hexAt _ (by omega), hexAt _ (by omega)]
              clear hl
              have q1 : (0 : Int) ≤ (s[k].toNat : Int) / 16 := by omega
              have q2 : (s[k].toNat : Int) / 16 < 16 := by omega
              have q3 : (0 : Int) ≤ (s[k].toNat : Int) % 16 := by omega
              have q4 : (s[k].toNat : Int) % 16 < 16 := by omega
              have q5 : IntKind.u8.wrap ((s[k].toNat : Int) / 16) = ((s[k].toNat / 16 : Nat) : Int) := by rw [IntKind.wrap_u8]; omega
              have q6 : (s[k].toNat : Int).tmod 16 = ((s[k].toNat % 16 : Nat) : Int) := by rw [Int.tmod_eq_emod_of_nonneg (by omega)]; omega
              have q7 : s[k].toNat / 16 < 16 := by omega
              have q8 : s[k].toNat % 16 < 16 := by omega
              go_wp2_with fail
              go_region_law ((refine step_app _ (by rfl) (.tmp 48) (.tmp 55) (by rfl) w.heap.size _ _ (by rfl) (show Own w.heap.size _ (34 :: Q.body (s.data.toList.take k)) _ from ho.alloc _) wr.heap.size 6 6 [92, 117, 48, 48, (⟨#[48, 49, 50, 51, 52, 53, 54, 55, 56, 57, 97, 98, 99, 100, 101, 102]⟩ : ByteArray)[s[k].toNat / 16]'(by show _ < 16; omega), (⟨#[48, 49, 50, 51, 52, 53, 54, 55, 56, 57, 97, 98, 99, 100, 101, 102]⟩ : ByteArray)[s[k].toNat % 16]'(by show _ < 16; omega)] (by rfl) rfl (by decide) _ (0, 0) (by exact heap_alloc_new wr _) (by rfl) (by simp; omega) (by simp; omega) ?_; intro v' w1 ho1 b1))
              all_goals
                go_wp2
                go_roundw
                case rel => exact ⟨k + 1, by omega, by go_num, by rw [HS.out, HE.out]; exact ho1, ((bk.alloc hsk _).drew).trans b1⟩
                case measure => simp [RowKit.intOf]; omega
            · have z3 : ¬ (s[k].toNat : Int) < 32 := by omega
              have HE : Hid (Q.esc s[k] = [s[k]]) := Q.esc_same _ hl h32
              clear hl
              go_wp2_with (at_builtin; refine wpl_app _ rfl (.tmp 33) (.tmp 35) rfl w.heap.size _ _ rfl (ho.alloc _) wr.heap.size 1 1 [s[k]] rfl rfl _ (0, 0) (heap_alloc_new wr _) rfl (by simp; omega) (by simp; omega) ?_; intro v' w1 ho1 b1)
              go_roundw
              case rel => exact ⟨k + 1, by omega, by go_num, by rw [HS.out, HE.out]; exact ho1, (bk.alloc hsk _).trans b1⟩
              case measure => simp [RowKit.intOf]; omega
    · have y1 : ¬ (k : Int) < s.size := by omega
      rw [take_all s k (by omega)] at ho hbl
      go_wp2_with (at_builtin; refine wpl_app _ rfl (.tmp 57) (.tmp 58) rfl w.heap.size _ _ rfl (ho.alloc _) wr.heap.size 1 1 [34] rfl rfl _ (0, 0) (heap_alloc_new wr _) rfl (by simp; omega) (by simp; omega) ?_; intro v' w1 ho1 b1; have hcv := ho1.conv)
      go_ret2
      exact ⟨rfl, (bk.alloc hsk _).trans b1⟩
end Go.Proofs.YtjocgajbcdmaiaaDoor
