/- joined: WalksE NamE ShlI DigA AllH AnsR -/
import Derived.Test.YtdgfjdhobdfglaaGreatDoorG17
import Derived.Shelf.Strconv.Itoa3
import Derived.Lib.AppendIntMem
import Derived.Lib.ItoaLen
set_option linter.unusedSimpArgs false
set_option linter.unusedVariables false
set_option maxRecDepth 100000
namespace Go.Proofs.YtdgfjdhobdfglaaGreatDoor
open Go.RowKit Go.Lib
def Q.idxN (c : Nat) : Nat := if c = 34 then 0 else if c = 92 then 1 else if c = 8 then 2 else if c = 9 then 3 else if c = 10 then 4 else if c = 12 then 5 else if c = 13 then 6 else 7
theorem Q.idxN_le (c : Nat) : Q.idxN c <= 7 := by
 unfold Q.idxN
 repeat' split
 all_goals omega
theorem Q.idx_none (c : Nat) (h : ¬ Q.idxN c < 7) : Q.letN c = 0 := by
 revert h
 unfold Q.idxN Q.letN
 repeat' split
 all_goals first | rfl | (intro h; omega)
theorem stand_ne (c : UInt8) (k : Nat) (h : k < Q.idxN c.toNat) (h' : k < (⟨#[34, 92, 8, 9, 10, 12, 13]⟩ : ByteArray).size) : (⟨#[34, 92, 8, 9, 10, 12, 13]⟩ : ByteArray)[k].toNat ≠ c.toNat := by
 have key : ∀ (k : Fin 7), (⟨#[34, 92, 8, 9, 10, 12, 13]⟩ : ByteArray)[k.val]'(k.isLt) = UInt8.ofNat ([34, 92, 8, 9, 10, 12, 13].getD k.val 0) /\ Q.idxN ([34, 92, 8, 9, 10, 12, 13].getD k.val 0) = k.val /\ [34, 92, 8, 9, 10, 12, 13].getD k.val 0 < 256 := by decide
 have hk := key ⟨k, h'⟩
 simp only at hk
 intro e
 rw [hk.1] at e
 obtain ⟨_, h2, h3⟩ := hk
 generalize [34, 92, 8, 9, 10, 12, 13].getD k 0 = z at *
 have e2 : z = c.toNat := by
  rw [<- e]; simp; omega
 rw [<- e2] at h
 omega
theorem stand_eq (c : UInt8) (h : Q.idxN c.toNat < 7) (h' : Q.idxN c.toNat < (⟨#[34, 92, 8, 9, 10, 12, 13]⟩ : ByteArray).size) (h'' : Q.idxN c.toNat < (⟨#[34, 92, 98, 116, 110, 102, 114]⟩ : ByteArray).size) :
 (⟨#[34, 92, 8, 9, 10, 12, 13]⟩ : ByteArray)[Q.idxN c.toNat].toNat = c.toNat /\ (⟨#[34, 92, 98, 116, 110, 102, 114]⟩ : ByteArray)[Q.idxN c.toNat] = UInt8.ofNat (Q.letN c.toNat) /\ Q.letN c.toNat ≠ 0 := by
 have key : ∀ c : Fin 256, (hh : Q.idxN c.val < 7) -> (⟨#[34, 92, 8, 9, 10, 12, 13]⟩ : ByteArray)[Q.idxN c.val]'(hh) = UInt8.ofNat c.val /\ (⟨#[34, 92, 98, 116, 110, 102, 114]⟩ : ByteArray)[Q.idxN c.val]'(hh) = UInt8.ofNat (Q.letN c.val) /\ Q.letN c.val ≠ 0 := by decide +kernel
 have hk := key ⟨c.toNat, c.toNat_lt⟩ h
 refine ⟨?_, hk.2⟩
 rw [hk.1]
 simp
set_option maxHeartbeats 8000000 in
theorem refQuote_good (s : ByteArray) (w : World) (hs : s.size <= 2147483648) (hV : validD s.data.toList = true) :
 Calls Tryz.prog 87 #[.string s] w fun e w' => e = .returned (.tuple #[.string ⟨(Q.qt s.data.toList).toArray⟩, .int .i64 0]) /\ Below w.heap.size w w' := by
 have c := refValid_anyW s (by omega) w
 rw [hV] at c
 clear hV
 go_enter Tryz.func87, Tryz.ntmps87
 go_wp2_with (go_at_call 55; refine c.mono ?_; rintro e w ⟨rfl, rfl⟩)
 go_loopw [5, 6] (fun v i wr => ∃ k : Nat, k <= s.size /\ i = .int .i64 k /\ OwnB w.heap.size v (34 :: Q.body (s.data.toList.take k)) wr /\ Below w.heap.size w wr) (fun _ i _ => s.size - (RowKit.intOf i).toNat)
 case atStart => exact ⟨0, Nat.zero_le _, rfl, OwnB.built w.heap.size w [34] (Nat.le_refl _) (by simp), (Below.refl _ _).alloc (Nat.le_refl _) _⟩
 case round =>
  obtain ⟨k, hk, rfl, ho, bk⟩ := hrel
  have hl0 := Q.sz_le (s.data.toList.take k)
  have hl1 : (s.data.toList.take k).length <= k := List.length_take_le _ _
  have hbl : (Q.body (s.data.toList.take k)).length <= 12884901888 := by unfold Q.sz at hl0; omega
  have hsk := bk.size
  clear hl0 c
  by_cases hlt : k < s.size
  ·have y1 : (k : Int) < s.size := by omega
   have HS : Hid (34 :: Q.body (s.data.toList.take (k + 1)) = (34 :: Q.body (s.data.toList.take k)) ++ Q.esc s[k]) := by
    show _ = _
    rw [take_snoc s k hlt, Q.body_snoc]; rfl
   go_wp2_with fail
   go_loop [8] (fun j => ∃ i : Nat, i <= Q.idxN s[k].toNat /\ j = .int .i64 i) (fun j => 7 - (RowKit.intOf j).toNat)
   case atStart => exact ⟨0, Nat.zero_le _, rfl⟩
   case round =>
    obtain ⟨i, hi, rfl⟩ := hrel
    have hi7 := Q.idxN_le s[k].toNat
    by_cases hii : i < Q.idxN s[k].toNat
    ·have z1 : (i : Int) < 7 := by omega
     have hne := stand_ne s[k] i hii (by show i < 7; omega)
     have z2 : ((((⟨#[34, 92, 8, 9, 10, 12, 13]⟩ : ByteArray)[i]'(by show i < 7; omega)).toNat : Int) != (s[k].toNat : Int)) = true := by rw [bne_iff_ne]; omega
     go_wp2
     go_round
     case rel => exact ⟨i + 1, by omega, by go_num⟩
     case measure => simp [RowKit.intOf]; omega
    ·obtain rfl : i = Q.idxN s[k].toNat := by omega
     by_cases h7 : Q.idxN s[k].toNat < 7
     ·have hse := stand_eq s[k] h7 (by exact h7) (by exact h7)
      have z1 : (Q.idxN s[k].toNat : Int) < 7 := by omega
      have z2 : ((((⟨#[34, 92, 8, 9, 10, 12, 13]⟩ : ByteArray)[Q.idxN s[k].toNat]'(by exact h7)).toNat : Int) != (s[k].toNat : Int)) = false := by rw [bne_eq_false_iff_eq]; omega
      have HE : Hid (Q.esc s[k] = [92, (⟨#[34, 92, 98, 116, 110, 102, 114]⟩ : ByteArray)[Q.idxN s[k].toNat]'(by exact h7)]) := by
       show _ = _
       rw [Q.esc_let _ hse.2.2, hse.2.1]
      clear hse
      generalize Q.idxN s[k].toNat = I at *
      go_wp2_with (at_builtin; refine wpl_app _ rfl (.tmp 40) (.tmp 43) rfl w.heap.size _ _ rfl (ho.alloc _) wr.heap.size 2 2 [92, (⟨#[34, 92, 98, 116, 110, 102, 114]⟩ : ByteArray)[I]'(by exact h7)] rfl rfl _ (0, 0) (heap_alloc_new wr _) rfl (by simp; omega) (by simp; omega) ?_; intro v' w1 ho1 b1)
      go_roundw
      case rel => exact ⟨k + 1, by omega, by go_num, by rw [HS.out, HE.out]; exact ho1, (bk.alloc hsk _).trans b1⟩
      case measure => simp [RowKit.intOf]; omega
     ·have z1 : ¬ (Q.idxN s[k].toNat : Int) < 7 := by omega
      have hl := Q.idx_none s[k].toNat h7
      by_cases h32 : s[k].toNat < 32
      ·have z3 : (s[k].toNat : Int) < 32 := by omega
       have HE : Hid (Q.esc s[k] = [92, 117, 48, 48, (⟨#[48, 49, 50, 51, 52, 53, 54, 55, 56, 57, 97, 98, 99, 100, 101, 102]⟩ : ByteArray)[s[k].toNat / 16]'(by show _ < 16; omega), (⟨#[48, 49, 50, 51, 52, 53, 54, 55, 56, 57, 97, 98, 99, 100, 101, 102]⟩ : ByteArray)[s[k].toNat % 16]'(by show _ < 16; omega)]) := by
        show _ = _
        rw [Q.esc_low _ hl h32, hexAt _ (by omega), hexAt _ (by omega)]
       clear hl
       have q1 : (0 : Int) <= (s[k].toNat : Int) / 16 := by omega
       have q2 : (s[k].toNat : Int) / 16 < 16 := by omega
       have q3 : (0 : Int) <= (s[k].toNat : Int) % 16 := by omega
       have q4 : (s[k].toNat : Int) % 16 < 16 := by omega
       have q5 : IntKind.u8.wrap ((s[k].toNat : Int) / 16) = ((s[k].toNat / 16 : Nat) : Int) := by rw [IntKind.wrap_u8]; omega
       have q6 : (s[k].toNat : Int).tmod 16 = ((s[k].toNat % 16 : Nat) : Int) := by rw [Int.tmod_eq_emod_of_nonneg (by omega)]; omega
       have q7 : s[k].toNat / 16 < 16 := by omega
       have q8 : s[k].toNat % 16 < 16 := by omega
       go_wp2_with fail
       go_region_law ((refine step_app _ (by rfl) (.tmp 48) (.tmp 55) (by rfl) w.heap.size _ _ (by rfl) (show OwnB w.heap.size _ (34 :: Q.body (s.data.toList.take k)) _ from ho.alloc _) wr.heap.size 6 6 [92, 117, 48, 48, (⟨#[48, 49, 50, 51, 52, 53, 54, 55, 56, 57, 97, 98, 99, 100, 101, 102]⟩ : ByteArray)[s[k].toNat / 16]'(by show _ < 16; omega), (⟨#[48, 49, 50, 51, 52, 53, 54, 55, 56, 57, 97, 98, 99, 100, 101, 102]⟩ : ByteArray)[s[k].toNat % 16]'(by show _ < 16; omega)] (by rfl) rfl (by decide) _ (0, 0) (by exact heap_alloc_new wr _) (by rfl) (by simp; omega) (by simp; omega) ?_; intro v' w1 ho1 b1))
       all_goals
        go_wp2
        go_roundw
        case rel => exact ⟨k + 1, by omega, by go_num, by rw [HS.out, HE.out]; exact ho1, ((bk.alloc hsk _).drew).trans b1⟩
        case measure => simp [RowKit.intOf]; omega
      ·have z3 : ¬ (s[k].toNat : Int) < 32 := by omega
       have HE : Hid (Q.esc s[k] = [s[k]]) := Q.esc_same _ hl h32
       clear hl
       go_wp2_with (at_builtin; refine wpl_app _ rfl (.tmp 33) (.tmp 35) rfl w.heap.size _ _ rfl (ho.alloc _) wr.heap.size 1 1 [s[k]] rfl rfl _ (0, 0) (heap_alloc_new wr _) rfl (by simp; omega) (by simp; omega) ?_; intro v' w1 ho1 b1)
       go_roundw
       case rel => exact ⟨k + 1, by omega, by go_num, by rw [HS.out, HE.out]; exact ho1, (bk.alloc hsk _).trans b1⟩
       case measure => simp [RowKit.intOf]; omega
  ·have y1 : ¬ (k : Int) < s.size := by omega
   rw [take_all s k (by omega)] at ho hbl
   go_wp2_with (at_builtin; refine wpl_app _ rfl (.tmp 57) (.tmp 58) rfl w.heap.size _ _ rfl (ho.alloc _) wr.heap.size 1 1 [34] rfl rfl _ (0, 0) (heap_alloc_new wr _) rfl (by simp; omega) (by simp; omega) ?_; intro v' w1 ho1 b1; have hcv := ho1.conv)
   go_ret2
   exact ⟨rfl, (bk.alloc hsk _).trans b1⟩
end Go.Proofs.YtdgfjdhobdfglaaGreatDoor
set_option maxRecDepth 100000
set_option maxHeartbeats 64000000
namespace Go.Proofs.YtdgfjdhobdfglaaGreatDoor
open Go.RowKit Go.Lib
def SPost (l : List UInt8) (w : World) (e : Ending) (w' : World) : Prop := e = .returned (.string ⟨l.toArray⟩) /\ Below w.heap.size w w'
theorem quoted_any (s : ByteArray) (w : World) (hs : s.size <= 2147483648) (hU : Utf8Tabs 0 1 w) (hL : LetTab w) (hz : 9 < w.heap.size) (hV : validD s.data.toList = true) :
 Calls Tryz.prog 127 #[.string s] w (SPost (Q.qt s.data.toList) w) := by
 have c := hmkN (quote_good s w hs hU hL hz hV)
 clear hU hL
 go_enter Tryz.func127, Tryz.ntmps127
 go_wp2_with fail
 refine c.out.mono ?_
 rintro e w' ⟨rfl, hb⟩
 go_wp2_with fail
 go_ret
 exact ⟨rfl, hb⟩
theorem ba_back (s : ByteArray) : (⟨s.data.toList.toArray⟩ : ByteArray) = s := by simp
theorem plain_pref {s : ByteArray} (h0 : 0 < s.size) : (prefN 0 s.data.toList = s.size) ↔ plnN s.data.toList = true := by
 have h := prefN_all s.data.toList 0
 have hl : s.data.toList.length = s.size := by simp
 rw [hl, Nat.zero_add] at h
 rw [h, plnN_all h0, List.drop_zero]
theorem name_any (s : ByteArray) (w : World) (hs : s.size <= 2147483648) (hU : Utf8Tabs 0 1 w) (hL : LetTab w) (hz : 9 < w.heap.size) (hV : validD s.data.toList = true) :
 Calls Tryz.prog 100 #[.string s] w (SPost (nmT s.data.toList) w) := by
 by_cases h0 : 0 < s.size
 case neg =>
  have c := hmkN (quoted_any s w hs hU hL hz hV)
  rw [show nmT s.data.toList = Q.qt s.data.toList by rw [nmT, plnN_nil h0]; rfl]
  have e := str_nil h0
  clear hU hL hV
  generalize Q.qt s.data.toList = T at *
  subst e
  go_enter Tryz.func100, Tryz.ntmps100
  go_wp2_with fail
  refine c.out.mono ?_
  rintro e w' ⟨rfl, hb⟩
  go_wp2_with fail
  go_ret
  exact ⟨rfl, hb⟩
 have hne := str_ne h0
 have CA := hmkN (ahead_any s w (by omega))
 have hp := plain_pref h0
 cases hB : plnN s.data.toList with
 | true =>
  rw [hp.2 hB] at CA
  rw [show nmT s.data.toList = s.data.toList by rw [nmT, hB]; rfl]
  have HS := hmkN (ba_back s)
  have yy : ((s.size : Int) == s.size) = true := by simp
  clear hU hL hV hp hB
  generalize s.data.toList = T at *
  go_enter Tryz.func100, Tryz.ntmps100
  go_wp2_with fail
  refine CA.out.mono ?_
  rintro e w' ⟨rfl, hb⟩
  go_wp2_with fail
  go_ret
  exact ⟨by rw [HS.out]; rfl, hb⟩
 | false =>
  have hn : prefN 0 s.data.toList ≠ s.size := fun h => by rw [hp.1 h] at hB; exact absurd hB (by decide)
  have yy : ((prefN 0 s.data.toList : Int) == s.size) = false := by rw [beq_eq_false_iff_ne]; omega
  rw [show nmT s.data.toList = Q.qt s.data.toList by rw [nmT, hB]; rfl]
  have HC : Hid (∀ W, Below w.heap.size w W -> Calls Tryz.prog 127 #[.string s] W (SPost (Q.qt s.data.toList) W)) := fun W hb =>
   quoted_any s W hs (utab_below hU hb (by omega)) (hL.below hb (by omega)) (Nat.lt_of_lt_of_le hz hb.size) hV
  generalize prefN 0 s.data.toList = F at *
  generalize Q.qt s.data.toList = T at *
  clear hU hL hV hp hB hn
  go_enter Tryz.func100, Tryz.ntmps100
  go_wp2_with fail
  refine CA.out.mono ?_
  rintro e w' ⟨rfl, hb⟩
  go_wp2_with fail
  refine (HC.out _ hb).mono ?_
  rintro e w2 ⟨rfl, hb2⟩
  go_wp2_with fail
  go_ret
  exact ⟨rfl, hb.trans (hb2.mono hb.size)⟩
theorem rname_any (s : ByteArray) (w : World) (hs : s.size <= 2147483648) (hV : validD s.data.toList = true) :
 Calls Tryz.prog 58 #[.string s] w (SPost (nmT s.data.toList) w) := by
 have CP := hmkN (rplain_any s w (by omega))
 have CQ := hmkN (refQuote_good s w hs hV)
 cases hB : plnN s.data.toList with
 | true =>
  rw [hB] at CP
  rw [show nmT s.data.toList = s.data.toList by rw [nmT, hB]; rfl]
  have HS := hmkN (ba_back s)
  clear CQ hV hB
  generalize s.data.toList = T at *
  go_enter Tryz.func58, Tryz.ntmps58
  go_wp2_with fail
  refine CP.out.mono ?_
  rintro e w' ⟨rfl, rfl⟩
  go_wp2_with fail
  go_ret
  exact ⟨by rw [HS.out]; rfl, Below.refl _ _⟩
 | false =>
  rw [hB] at CP
  rw [show nmT s.data.toList = Q.qt s.data.toList by rw [nmT, hB]; rfl]
  clear hV hB
  generalize Q.qt s.data.toList = T at *
  go_enter Tryz.func58, Tryz.ntmps58
  go_wp2_with fail
  refine CP.out.mono ?_
  rintro e w' ⟨rfl, rfl⟩
  go_wp2_with fail
  refine CQ.out.mono ?_
  rintro e w' ⟨rfl, hb⟩
  go_wp2_with fail
  go_ret
  exact ⟨rfl, hb⟩
end Go.Proofs.YtdgfjdhobdfglaaGreatDoor
namespace Go.Proofs
open Go.Shelf Go.RowKit
def Tryz.lays171_ren : Go.Shelf.Ren := ⟨fun | 129 => 76 | 171 => 129 | 243 => 149 | 246 => 163 | 283 => 177 | 284 => 178 | 285 => 179 | 286 => 180 | 317 => 189 | 318 => 190 | 319 => 191 | 320 => 192 | 337 => 201 | 338 => 202 | n => n, fun | 0 => 0 | 2 => 2 | 3 => 3 | 4 => 4 | 5 => 5 | 9 => 9 | 20 => 20 | 37 => 101 | 46 => 91 | 51 => 123 | 53 => 125 | 171 => 215 | 173 => 217 | 212 => 226 | 213 => 227 | 232 => 236 | 233 => 237 | n => n, fun | 17 => 6 | 18 => 8 | 19 => 9 | n => n⟩
set_option maxRecDepth 100000 in
theorem Tryz.lays171 : Go.Proofs.LaysM.n171 Tryz.prog Tryz.lays171_ren := {
 mixed := by kernel_rfl
 f129 := Tryz.func76.trans (congrArg some (by kernel_rfl))
 f171 := Tryz.func129.trans (congrArg some (by kernel_rfl))
 f243 := Tryz.func149.trans (congrArg some (by kernel_rfl))
 f246 := Tryz.func163.trans (congrArg some (by kernel_rfl))
 f283 := Tryz.func177.trans (congrArg some (by kernel_rfl))
 f284 := Tryz.func178.trans (congrArg some (by kernel_rfl))
 f285 := Tryz.func179.trans (congrArg some (by kernel_rfl))
 f286 := Tryz.func180.trans (congrArg some (by kernel_rfl))
 f317 := Tryz.func189.trans (congrArg some (by kernel_rfl))
 f318 := Tryz.func190.trans (congrArg some (by kernel_rfl))
 f319 := Tryz.func191.trans (congrArg some (by kernel_rfl))
 f320 := Tryz.func192.trans (congrArg some (by kernel_rfl))
 f337 := Tryz.func201.trans (congrArg some (by kernel_rfl))
 f338 := Tryz.func202.trans (congrArg some (by kernel_rfl))
 t0 := Tryz.underlying0
 a0 := Tryz.isAgg0
 z0 := Tryz.sizeOf0
 v0 := Tryz.zeroValue0
 t2 := Tryz.underlying2
 a2 := Tryz.isAgg2
 z2 := Tryz.sizeOf2
 v2 := Tryz.zeroValue2
 t3 := Tryz.underlying3
 a3 := Tryz.isAgg3
 z3 := Tryz.sizeOf3
 v3 := Tryz.zeroValue3
 t4 := Tryz.underlying4
 a4 := Tryz.isAgg4
 z4 := Tryz.sizeOf4
 v4 := Tryz.zeroValue4
 t5 := Tryz.underlying5
 a5 := Tryz.isAgg5
 z5 := Tryz.sizeOf5
 v5 := Tryz.zeroValue5
 t9 := Tryz.underlying9
 a9 := Tryz.isAgg9
 z9 := Tryz.sizeOf9
 v9 := Tryz.zeroValue9
 t20 := Tryz.underlying20
 a20 := Tryz.isAgg20
 z20 := Tryz.sizeOf20
 v20 := Tryz.zeroValue20
 t37 := Tryz.underlying101
 a37 := Tryz.isAgg101
 z37 := Tryz.sizeOf101
 v37 := Tryz.zeroValue101
 t46 := Tryz.underlying91
 a46 := Tryz.isAgg91
 z46 := Tryz.sizeOf91
 v46 := Tryz.zeroValue91
 t51 := Tryz.underlying123
 a51 := Tryz.isAgg123
 z51 := Tryz.sizeOf123
 v51 := Tryz.zeroValue123
 t53 := Tryz.underlying125
 a53 := Tryz.isAgg125
 z53 := Tryz.sizeOf125
 v53 := Tryz.zeroValue125
 t171 := Tryz.underlying215
 a171 := Tryz.isAgg215
 z171 := Tryz.sizeOf215
 v171 := Tryz.zeroValue215
 t173 := Tryz.underlying217
 a173 := Tryz.isAgg217
 z173 := Tryz.sizeOf217
 v173 := Tryz.zeroValue217
 t212 := Tryz.underlying226
 a212 := Tryz.isAgg226
 z212 := Tryz.sizeOf226
 v212 := Tryz.zeroValue226
 t213 := Tryz.underlying227
 a213 := Tryz.isAgg227
 z213 := Tryz.sizeOf227
 t232 := Tryz.underlying236
 a232 := Tryz.isAgg236
 z232 := Tryz.sizeOf236
 v232 := Tryz.zeroValue236
 t233 := Tryz.underlying237
 a233 := Tryz.isAgg237
 z233 := Tryz.sizeOf237
 v233 := Tryz.zeroValue237
 g17 := by kernel_rfl
 g18 := by kernel_rfl
 g19 := by kernel_rfl
 i0 := by kernel_rfl
 i2 := by kernel_rfl
 i3 := by kernel_rfl
 i4 := by kernel_rfl
 i5 := by kernel_rfl
 i9 := by kernel_rfl
 i20 := by kernel_rfl
 i37 := by kernel_rfl
 i46 := by kernel_rfl
 i51 := by kernel_rfl
 i53 := by kernel_rfl
 i171 := by kernel_rfl
 i173 := by kernel_rfl
 i212 := by kernel_rfl
 i232 := by kernel_rfl
 i233 := by kernel_rfl
 m17 := by kernel_rfl
 m18 := by kernel_rfl
 m19 := by kernel_rfl }
namespace YtdgfjdhobdfglaaGreatDoor
open Go.Lib
theorem itoa_any (n : Int) (h : In64 n) (w : World) (tp : PowTab w) :
 Calls Tryz.prog 129 #[.int .i64 n] w fun e w' => e = .returned (.string ⟨(itoa n).toArray⟩) /\ Below w.heap.size w w' := by
 refine (Any.strconv_Itoa Tryz.lays171 n h.1 h.2 w tp).mono ?_
 rintro e w' ⟨he, k, os, rfl⟩
 exact ⟨he, below_grow _ _ (Nat.le_refl _) _ _⟩
end YtdgfjdhobdfglaaGreatDoor
end Go.Proofs
set_option maxRecDepth 100000
set_option maxHeartbeats 64000000
namespace Go.Proofs.YtdgfjdhobdfglaaGreatDoor
open Go.RowKit Go.Lib
theorem hmk2 {p : Prop} (h : p) : Hid p := h
def StPost (l : List UInt8) (w : World) (e : Ending) (w' : World) : Prop := e = .returned (.string ⟨l.toArray⟩) /\ Below w.heap.size w w'
theorem conv_one (W W' : World) (c : UInt8) (x : Int) (hx : x = (c.toNat : Int)) (hb : Below (W.alloc (.cells #[.int .u8 x] 5)).heap.size (W.alloc (.cells #[.int .u8 x] 5)) W') :
 (convert 101 9 (.slice (some ⟨W.heap.size, 0, none⟩) 1 1)).run Tryz.prog W' = .ok (.string ⟨#[c]⟩) W' := by
 subst hx
 have hk : W'.heap[W.heap.size]? = some (.cells #[.int .u8 (c.toNat : Int)] 5) := (hb.block _ (by rw [alloc_size]; omega)).trans (heap_alloc_new W _)
 have ho : OwnB 0 (.slice (some ⟨W.heap.size, 0, none⟩) 1 1) [c] W' := by
  refine ⟨rfl, .inr ⟨W.heap.size, 1, #[.int .u8 (c.toNat : Int)], rfl, Nat.zero_le _, hk, by simp, by simp [maxLen], by simp, by simp [byteCells]⟩⟩
 exact ho.conv
theorem ba_app (E : List UInt8) (c : UInt8) : (⟨E.toArray⟩ : ByteArray) ++ ⟨#[c]⟩ = ⟨(E ++ [c]).toArray⟩ := by
 apply ByteArray.ext
 simp [ByteArray.data_append]
theorem below_drew (w : World) : Below w.heap.size w w.drew := ⟨rfl, rfl, rfl, Nat.le_refl _, fun _ _ => rfl⟩
theorem uns_any (u : Nat) : ∀ (w : World), u < 18446744073709551616 -> Calls Tryz.prog 116 #[.int .u64 (u : Int)] w (StPost (decDigits u) w) := by
 induction u using Nat.strongRecOn with
 | ind u ih =>
 intro w hu
 by_cases h10 : u < 10
 ·have y1 : (u : Int) < 10 := by omega
  have HD : Hid (decDigits u = [UInt8.ofNat (48 + u)]) := by show _ = _; rw [decDigits, dif_pos h10]
  have hc := conv_one w _ (UInt8.ofNat (48 + u)) ((u : Int) + 48) (by rw [UInt8.toNat_ofNat']; omega) (Below.refl _ _)
  generalize UInt8.ofNat (48 + u) = c at *
  generalize decDigits u = D at *
  go_enter Tryz.func116, Tryz.ntmps116
  go_wp2_with fail
  go_ret
  exact ⟨by rw [HD.out]; rfl, (Below.refl _ _).alloc (Nat.le_refl _) _⟩
 ·have y1 : ¬ (u : Int) < 10 := by omega
  have HD : Hid (decDigits u = decDigits (u / 10) ++ [UInt8.ofNat (48 + u % 10)]) := by show _ = _; rw [decDigits, dif_neg h10]
  have HC : Hid (∀ W, Calls Tryz.prog 116 #[.int .u64 ((u : Int) / 10)] W (StPost (decDigits (u / 10)) W)) := fun W => ih (u / 10) (by omega) W (by omega)
  have CB : ∀ W W' : World, Below (W.alloc (.cells #[.int .u8 ((u : Int) % 10 + 48)] 5)).heap.size (W.alloc (.cells #[.int .u8 ((u : Int) % 10 + 48)] 5)) W' -> (convert 101 9 (.slice (some ⟨W.heap.size, 0, none⟩) 1 1)).run Tryz.prog W' = .ok (.string ⟨#[UInt8.ofNat (48 + u % 10)]⟩) W' := fun W W' hb => conv_one W W' _ _ (by rw [UInt8.toNat_ofNat']; omega) hb
  generalize UInt8.ofNat (48 + u % 10) = c at *
  have CA := fun W => CB W _ (Below.refl _ _)
  have HB : Hid (∀ W' : World, Below (w.drew.alloc (.cells #[.int .u8 ((u : Int) % 10 + 48)] 5)).heap.size (w.drew.alloc (.cells #[.int .u8 ((u : Int) % 10 + 48)] 5)) W' -> (convert 101 9 (.slice (some ⟨w.heap.size, 0, none⟩) 1 1)).run Tryz.prog W' = .ok (.string ⟨#[c]⟩) W') := fun W' hb => CB w.drew W' hb
  have CA2 : ∀ (w5 : World), Below w.drew.heap.size w.drew w5 -> (convert 101 9 (.slice (some ⟨w5.heap.size, 0, none⟩) 1 1)).run Tryz.prog (w5.alloc (.cells #[.int .u8 ((u : Int) % 10 + 48)] 5)) = .ok (.string ⟨#[c]⟩) (w5.alloc (.cells #[.int .u8 ((u : Int) % 10 + 48)] 5)) := fun w5 _ => CB w5 _ (Below.refl _ _)
  have CA3 : (convert 101 9 (.slice (some ⟨w.heap.size, 0, none⟩) 1 1)).run Tryz.prog (w.drew.alloc (.cells #[.int .u8 ((u : Int) % 10 + 48)] 5)) = .ok (.string ⟨#[c]⟩) (w.drew.alloc (.cells #[.int .u8 ((u : Int) % 10 + 48)] 5)) := CB w.drew _ (Below.refl _ _)
  have CA4 : (convert 101 9 (.slice (some ⟨w.heap.size, 0, none⟩) 1 1)).run Tryz.prog (w.alloc (.cells #[.int .u8 ((u : Int) % 10 + 48)] 5)).drew = .ok (.string ⟨#[c]⟩) (w.alloc (.cells #[.int .u8 ((u : Int) % 10 + 48)] 5)).drew := CB w.drew _ (Below.refl _ _)
  clear CB
  have hEl : (decDigits (u / 10)).length <= 20 := by rw [decDigits_length]; exact nDigits_le20 _ (by omega)
  have G1 : Hid (∀ W : World, Below w.drew.heap.size w.drew W -> Below w.heap.size w W) := fun W h => (below_drew w).trans h
  have G2 : Hid (∀ (o : Obj) (W : World), Below (w.drew.alloc o).heap.size (w.drew.alloc o) W -> Below w.heap.size w W) := fun o W h => ((below_drew w).alloc (Nat.le_refl _) o).trans (h.mono (by rw [alloc_size]; show w.heap.size <= w.heap.size + 1; omega))
  generalize decDigits u = D at *
  generalize decDigits (u / 10) = E at *
  have hEs : (⟨E.toArray⟩ : ByteArray).size <= 20 := by show E.toArray.size <= 20; rw [List.size_toArray]; exact hEl
  go_enter Tryz.func116, Tryz.ntmps116
  go_wp2_with fail
  have e1 : IntKind.u64.wrap ((u : Int) / 10) = (u : Int) / 10 := IntWalk.u64_in _ (by omega)
  have e2 : ((u : Int)).tmod 10 = (u : Int) % 10 := by rw [Int.tmod_eq_emod_of_nonneg (by omega)]
  have e3 : IntKind.u8.wrap ((u : Int) % 10) = (u : Int) % 10 := IntWalk.u8_in _ (by omega)
  have e4 : IntKind.u8.wrap ((u : Int) % 10 + 48) = (u : Int) % 10 + 48 := IntWalk.u8_in _ (by omega)
  go_region_with (go_at_call 116; refine (HC.out _).mono ?_; rintro e w5 ⟨rfl, b5⟩; (try have hcv := HB.out _ b5))
  all_goals go_wp2_with fail
  all_goals go_ret
  all_goals refine ⟨?_, ?_⟩
  all_goals first
   | (rw [HD.out, <- ba_app]; rfl)
   | exact (G1.out _ b5).alloc (Nat.le_trans (Nat.le_refl _) b5.size) _
   | exact G2.out _ _ b5
theorem ba_pre (E : List UInt8) (c : UInt8) : (⟨#[c]⟩ : ByteArray) ++ ⟨E.toArray⟩ = ⟨(c :: E).toArray⟩ := by
 apply ByteArray.ext
 simp [ByteArray.data_append]
theorem digits_any (i : Int) (hi : In64 i) (w : World) : Calls Tryz.prog 88 #[.int .i64 i] w (StPost (itoa i) w) := by
 obtain ⟨hi0, hi1⟩ := hi
 by_cases h0 : i < 0
 ·have C := hmk2 (uns_any i.natAbs w (by omega))
  have hEl : (decDigits i.natAbs).length <= 20 := by rw [decDigits_length]; exact nDigits_le20 _ (by omega)
  have HD : Hid (itoa i = 45 :: decDigits i.natAbs) := by show _ = _; rw [itoa, if_pos h0]
  have e0 : ((i.natAbs : Nat) : Int) = -i := by omega
  rw [e0] at C
  generalize itoa i = D at *
  generalize decDigits i.natAbs = E at *
  have hEs : (⟨E.toArray⟩ : ByteArray).size <= 20 := by show E.toArray.size <= 20; rw [List.size_toArray]; exact hEl
  have z1 : (⟨#[45]⟩ : ByteArray).size = 1 := rfl
  have e1 : IntKind.i64.wrap (i + 1) = i + 1 := IntWalk.i64_in _ (by omega)
  have e2 : IntKind.i64.wrap (-(i + 1)) = -(i + 1) := IntWalk.i64_in _ (by omega)
  have e3 : IntKind.u64.wrap (-(i + 1)) = -(i + 1) := IntWalk.u64_in _ (by omega)
  have e4 : IntKind.u64.wrap (-(i + 1) + 1) = -i := by rw [IntWalk.u64_in _ (by omega)]; omega
  have e5 : -(i + 1) + 1 = -i := by omega
  go_enter Tryz.func88, Tryz.ntmps88
  go_wp2_with fail
  (try simp only [e5])
  refine C.out.mono ?_
  rintro e w1 ⟨rfl, b1⟩
  go_wp2_with fail
  go_ret
  exact ⟨by rw [HD.out, <- ba_pre]; rfl, b1⟩
 ·have C := hmk2 (uns_any i.toNat w (by omega))
  have HD : Hid (itoa i = decDigits i.toNat) := by show _ = _; rw [itoa, if_neg h0]
  have e0 : ((i.toNat : Nat) : Int) = i := by omega
  rw [e0] at C
  have y1 : ¬ i < 0 := h0
  generalize itoa i = D at *
  generalize decDigits i.toNat = E at *
  have e3 : IntKind.u64.wrap i = i := IntWalk.u64_in _ (by omega)
  go_enter Tryz.func88, Tryz.ntmps88
  go_wp2_with fail
  refine C.out.mono ?_
  rintro e w1 ⟨rfl, b1⟩
  go_wp2_with fail
  go_ret
  exact ⟨by rw [HD.out]; rfl, b1⟩
end Go.Proofs.YtdgfjdhobdfglaaGreatDoor
set_option maxRecDepth 100000
namespace Go.Proofs.YtdgfjdhobdfglaaGreatDoor
open Go.RowKit Go.Lib
theorem sizS_good {k : Int} {b : Bool} {i : Int} {s : ByteArray} {l : List V} {m : List Mem} (h : sizS (.mk k b i s l m) = true) : (k = 1 \/ k = 2 \/ k = 3) /\ validD s.data.toList = true /\ l = [] /\ m = [] := by
 simp only [sizS, Bool.and_eq_true, decide_eq_true_eq] at h
 have gv := chkV_allG 40 _ 0 _ (okV_true h.1)
 rw [allG] at gv
 have p := goodB_plain gv.1
 have hk := h.2
 simp only [kindOf] at hk
 have l0 : l = [] := List.length_eq_zero_iff.1 (p.2.2.2.2.2.1.resolve_left (by omega))
 have m0 : m = [] := List.length_eq_zero_iff.1 (p.2.2.2.2.2.2.resolve_left (by omega))
 refine ⟨by omega, ?_, l0, m0⟩
 have g := gv.1
 simp [goodB] at g
 simp_all [utfB]
end Go.Proofs.YtdgfjdhobdfglaaGreatDoor
set_option maxRecDepth 100000
namespace Go.Proofs.YtdgfjdhobdfglaaGreatDoor
open Go.RowKit Go.Lib
def AsPost (k : Int) (b : Bool) (i : Int) (s : ByteArray) (w : World) (e : Ending) (w' : World) : Prop := e = .returned (.agg #[.int .i64 k, .bool b, .int .i64 i, .string s, .slice none 0 0, .slice none 0 0]) /\ Below w.heap.size w w'
set_option maxHeartbeats 8000000 in
theorem anscal_any (k : Int) (b : Bool) (i : Int) (s : ByteArray) (al : Option Addr) (nl cl : Nat) (am : Option Addr) (nm cm : Nat) (w : World) :
 Calls Tryz.prog 51 #[.agg #[.int .i64 k, .bool b, .int .i64 i, .string s, .slice al nl cl, .slice am nm cm]] w (AsPost k b i s w) := by
 have B0 : Below w.heap.size w ((w.alloc (.cells #[.int .i64 k, .bool b, .int .i64 i, .string s, .slice al nl cl, .slice am nm cm] 25)).alloc (.cells #[.int .i64 0, .bool false, .int .i64 0, .string ⟨#[]⟩, .slice none 0 0, .slice none 0 0] 25)) := ((Below.refl w.heap.size w).alloc (Nat.le_refl _) _).alloc (by rw [alloc_size]; omega) _
 have HB := hmk B0
 clear B0
 go_enter Tryz.func51, Tryz.ntmps51
 go_wp2_with fail
 (try simp only [Exit.inBlock, Exit.then])
 refine bodyPost_ret (v := .agg #[.int .i64 k, .bool b, .int .i64 i, .string s, .slice none 0 0, .slice none 0 0]) ?_ rfl ?_
 ·rw [results_cell1 rfl]
  go_simp
 ·refine ⟨rfl, ?_⟩
  first
   | exact HB.out
   | exact ((Below.refl w.heap.size w).alloc (Nat.le_refl _) _).alloc (by rw [alloc_size]; omega) _
   | (repeat (refine Below.setCell ?_ (by simp) _)
      exact HB.out)
end Go.Proofs.YtdgfjdhobdfglaaGreatDoor
