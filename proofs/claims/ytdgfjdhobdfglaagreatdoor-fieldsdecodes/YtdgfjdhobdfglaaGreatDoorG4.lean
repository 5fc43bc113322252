/- joined: WalksB ShelfB WalksC WalksD Own -/
import Derived.Test.YtdgfjdhobdfglaaGreatDoorG3
import Derived.Shelf.Strings.BuilderRune
import Derived.Shelf.Strings.Builder2
import Derived.Shelf.Unicode.DecodeAny
import Derived.Deep.AppendLies
import Derived.Laws.IdiomStrings
import Derived.Laws.BytesArg
import Derived.Lib.UnsafeStr
set_option linter.unusedSimpArgs false
set_option linter.unusedVariables false
set_option maxHeartbeats 64000000
namespace Go.Proofs.YtdgfjdhobdfglaaGreatDoor
open Go.RowKit Go.Lib
set_option maxRecDepth 100000 in
theorem next_anyW (s : ByteArray) (a : Int) (k : Nat) (hak : a = k) (hk : k <= s.size) (hs : s.size <= 140737488351232) (w : World) :
 Calls Tryz.prog 84 #[.string s, .int .i64 a] w fun e w' => e = .returned (.tuple #[.int .i64 (k + (Q.nxt (s.data.toList.drop k)).1 : Int), .bool (Q.nxt (s.data.toList.drop k)).2]) /\ w' = w := by
 subst hak
 by_cases h0 : k < s.size
 ·have z0 : (k : Int) < s.size := by omega
  have hd := drop_consW s k h0
  have cb := bounds_anyW s[k].toNat s[k].toNat_lt w
  have hn4 := Q.bnd_le s[k].toNat
  have hR : Q.nxt (s.data.toList.drop k) = if (Q.bnd s[k].toNat).1 = 0 then (0, false) else Q.nxtGo (Q.bnd s[k].toNat).1 1 (Q.bnd s[k].toNat).2.1 (Q.bnd s[k].toNat).2.2 (s.data.toList.drop (k + 1)) := by
   rw [hd]; rfl
  generalize hR0 : Q.nxt (s.data.toList.drop k) = R at *
  have hlo : (Q.bnd s[k].toNat).2.1 < 256 /\ (Q.bnd s[k].toNat).2.2 < 256 := by
   unfold Q.bnd; repeat' split
   all_goals simp
  generalize Q.bnd s[k].toNat = B at *
  obtain ⟨n, lo, hi⟩ := B
  simp only at cb hn4 hR hlo
  clear hd hR0
  by_cases hz : n = 0
  ·subst hz
   rw [if_pos rfl] at hR
   subst hR
   go_enter Tryz.func84, Tryz.ntmps84
   go_wp2_with (go_at_call 115; refine cb.mono ?_; rintro e w' ⟨rfl, rfl⟩)
   go_ret2
   exact ⟨ret_ibW (by simp) rfl, rfl⟩
  ·rw [if_neg hz] at hR
   have HR : Hid (R = Q.nxtGo n 1 lo hi (s.data.toList.drop (k + 1))) := hR
   clear hR
   have bz : ((n : Int) == 0) = false := by rw [beq_eq_false_iff_ne]; omega
   go_enter Tryz.func84, Tryz.ntmps84
   go_wp2_with (go_at_call 115; refine cb.mono ?_; rintro e w' ⟨rfl, rfl⟩)
   go_loop [7, 8, 9] (fun lo' hi' j' => ∃ j l g : Nat, 1 <= j /\ j <= n /\ l < 256 /\ g < 256 /\ lo' = .int .u8 l /\ hi' = .int .u8 g /\ j' = .int .i64 j /\ Hid (R = Q.nxtGo n j l g (s.data.toList.drop (k + j)))) (fun _ _ j' => n - (RowKit.intOf j').toNat)
   case atStart => exact ⟨1, lo, hi, by omega, by omega, hlo.1, hlo.2, rfl, rfl, rfl, HR⟩
   case round =>
    obtain ⟨j, l, g, hj1, hj2, hl, hg, rfl, rfl, rfl, HJ⟩ := hrel
    clear HR hlo cb
    by_cases hjn : j < n
    ·have y1 : (j : Int) < n := by omega
     by_cases hend : k + j < s.size
     ·have y2 : ((k : Int) + j) < s.size := by omega
      have hd := drop_consW s (k + j) hend
      by_cases c1 : s[k + j].toNat < l
      ·have hfin : R = (j, false) := by
        rw [HJ.out, hd, Q.nxtGo, if_neg (by omega), if_pos (Or.inl c1)]
       subst hfin
       have y3 : (s[k + j].toNat : Int) < l := by omega
       clear HJ hd
       go_wp2
       go_ret2
       exact ⟨ret_ibW (by simp) rfl, rfl⟩
      ·by_cases c2 : g < s[k + j].toNat
       ·have hfin : R = (j, false) := by
         rw [HJ.out, hd, Q.nxtGo, if_neg (by omega), if_pos (Or.inr c2)]
        subst hfin
        have y3 : ¬ (s[k + j].toNat : Int) < l := by omega
        have y4 : (g : Int) < s[k + j].toNat := by omega
        clear HJ hd
        go_wp2
        go_ret2
        exact ⟨ret_ibW (by simp) rfl, rfl⟩
       ·have HN : Hid (R = Q.nxtGo n (j + 1) 128 191 (s.data.toList.drop (k + (j + 1)))) := by
         show R = _
         rw [HJ.out, hd, Q.nxtGo, if_neg (by omega), if_neg (by omega)]
         rfl
        have y3 : ¬ (s[k + j].toNat : Int) < l := by omega
        have y4 : ¬ (g : Int) < s[k + j].toNat := by omega
        clear HJ hd
        go_wp2
        go_round
        case rel => exact ⟨j + 1, 128, 191, by omega, by omega, by omega, by omega, rfl, rfl, by go_num, HN⟩
        case measure => simp [RowKit.intOf]; omega
     ·have hd := drop_endW s (k + j) (by omega)
      have hfin : R = (j, false) := by
       rw [HJ.out, hd, Q.nxtGo, if_neg (by omega)]
      subst hfin
      have y2 : (s.size : Int) <= (k : Int) + j := by omega
      clear HJ hd
      go_wp2
      go_ret2
      exact ⟨ret_ibW (by simp) rfl, rfl⟩
    ·have hfin : R = (n, true) := by
      rw [HJ.out]
      cases s.data.toList.drop (k + j) <;> rw [Q.nxtGo, if_pos (by omega)]
     subst hfin
     have y1 : ¬ (j : Int) < n := by omega
     clear HJ
     go_wp2
     go_ret2
     exact ⟨ret_ibW (by simp) rfl, rfl⟩
 ·have hd := drop_endW s k (by omega)
  rw [hd]
  have z0 : ¬ (k : Int) < s.size := by omega
  have z1 : (s.size : Int) <= k := by omega
  clear hd
  go_enter Tryz.func84, Tryz.ntmps84
  go_wp2
  go_ret2
  exact ⟨ret_ibW (by simp [Q.nxt]) rfl, rfl⟩
set_option maxRecDepth 100000 in
theorem refValid_anyW (s : ByteArray) (hs : s.size <= 140737488351232) (w : World) :
 Calls Tryz.prog 55 #[.string s] w fun e w' => e = .returned (.bool (Lib.validD s.data.toList)) /\ w' = w := by
 generalize hV : Lib.validD s.data.toList = V
 have HV : Hid (Lib.validD s.data.toList = V) := hV
 clear hV
 go_enter Tryz.func55, Tryz.ntmps55
 go_wp2
 go_loop [3] (fun a => ∃ k : Nat, k <= s.size /\ a = .int .i64 k /\ Hid (Lib.validD (s.data.toList.drop k) = V)) (fun a => s.size - (RowKit.intOf a).toNat)
 case atStart => exact ⟨0, by omega, rfl, HV⟩
 case round =>
  obtain ⟨k, hk, rfl, HK⟩ := hrel
  by_cases hlt : k < s.size
  ·have y1 : (k : Int) < s.size := by omega
   have hne : s.data.toList.drop k ≠ [] := by rw [drop_consW s k hlt]; simp
   have hst := Q.valid_step (s.data.toList.drop k) hne
   have hle := Q.nxt_le (s.data.toList.drop k)
   have hlen : (s.data.toList.drop k).length = s.size - k := by simp
   rw [hlen] at hle
   have cn := next_anyW s k k rfl hk hs w
   have HST : Hid (V = if (Q.nxt (s.data.toList.drop k)).2 then Lib.validD (s.data.toList.drop (k + (Q.nxt (s.data.toList.drop k)).1)) else false) := by
    show V = _
    rw [<- HK.out, hst, List.drop_drop]
   clear hst hne hlen HK HV
   generalize Q.nxt (s.data.toList.drop k) = R at *
   obtain ⟨m, b⟩ := R
   simp only at hle cn
   cases b
   ·have hfin : V = false := by rw [HST.out]; rfl
    subst hfin
    clear HST
    go_wp2_with (go_at_call 84; refine cn.mono ?_; rintro e w' ⟨rfl, rfl⟩)
    go_ret
    exact ⟨rfl, rfl⟩
   ·have hm := hle.2.2 rfl
    have HN : Hid (Lib.validD (s.data.toList.drop (k + m)) = V) := by
     show _ = V
     rw [HST.out]; rfl
    clear HST
    go_wp2_with (go_at_call 84; refine cn.mono ?_; rintro e w' ⟨rfl, rfl⟩)
    go_round
    case rel => exact ⟨k + m, by omega, by go_num, HN⟩
    case measure => simp [RowKit.intOf]; omega
  ·have y1 : ¬ (k : Int) < s.size := by omega
   have hfin : V = true := by
    rw [<- HK.out, drop_endW s k (by omega)]
    rfl
   subst hfin
   clear HK HV
   go_wp2
   go_ret
   exact ⟨rfl, rfl⟩
end Go.Proofs.YtdgfjdhobdfglaaGreatDoor
namespace Go.Proofs
open Go.Shelf Go.RowKit
def Tryz.lays167_ren : Go.Shelf.Ren := ⟨fun | 167 => 98 | 240 => 126 | 276 => 146 | n => n, fun | 0 => 0 | 4 => 4 | 5 => 5 | 9 => 9 | 20 => 20 | 37 => 101 | 70 => 109 | 72 => 111 | 75 => 143 | 80 => 113 | 164 => 184 | n => n, fun | n => n⟩
theorem Tryz.lays167 : Go.Proofs.Lays.n167 Tryz.prog Tryz.lays167_ren := {
 mixed := by kernel_rfl
 f167 := Tryz.func98.trans (congrArg some (by kernel_rfl))
 f240 := Tryz.func126.trans (congrArg some (by kernel_rfl))
 f276 := Tryz.func146.trans (congrArg some (by kernel_rfl))
 t0 := Tryz.underlying0
 a0 := Tryz.isAgg0
 z0 := Tryz.sizeOf0
 v0 := Tryz.zeroValue0
 t4 := Tryz.underlying4
 a4 := Tryz.isAgg4
 z4 := Tryz.sizeOf4
 v4 := Tryz.zeroValue4
 t5 := Tryz.underlying5
 a5 := Tryz.isAgg5
 z5 := Tryz.sizeOf5
 v5 := Tryz.zeroValue5
 t9 := Tryz.underlying9
 a9 := Tryz.isAgg9
 z9 := Tryz.sizeOf9
 v9 := Tryz.zeroValue9
 t20 := Tryz.underlying20
 a20 := Tryz.isAgg20
 z20 := Tryz.sizeOf20
 v20 := Tryz.zeroValue20
 t37 := Tryz.underlying101
 a37 := Tryz.isAgg101
 z37 := Tryz.sizeOf101
 v37 := Tryz.zeroValue101
 t70 := Tryz.underlying109
 a70 := Tryz.isAgg109
 z70 := Tryz.sizeOf109
 v70 := Tryz.zeroValue109
 t72 := Tryz.underlying111
 a72 := Tryz.isAgg111
 z72 := Tryz.sizeOf111
 v72 := Tryz.zeroValue111
 t75 := Tryz.underlying143
 a75 := Tryz.isAgg143
 z75 := Tryz.sizeOf143
 v75 := Tryz.zeroValue143
 t164 := Tryz.underlying184
 a164 := Tryz.isAgg184
 z164 := Tryz.sizeOf184
 v164 := Tryz.zeroValue184 }
theorem Tryz.lays167X : Builder.Extra Tryz.prog Tryz.lays167_ren := {
 sizeBuilder := by kernel_rfl
 liesBuilder := by kernel_rfl
 t5 := Tryz.underlying5
 a5 := Tryz.isAgg5
 z5 := Tryz.sizeOf5
 v5 := Tryz.zeroValue5
 infoByte := by kernel_rfl
 cellsByte := by kernel_rfl
 sizeByte := by kernel_rfl
 neB5 := by decide }
def Tryz.lays166_ren : Go.Shelf.Ren := ⟨fun | 166 => 99 | 240 => 126 | 276 => 146 | n => n, fun | 0 => 0 | 3 => 3 | 4 => 4 | 5 => 5 | 9 => 9 | 20 => 20 | 37 => 101 | 70 => 109 | 72 => 111 | 75 => 143 | 80 => 113 | 164 => 184 | n => n, fun | n => n⟩
theorem Tryz.lays166 : Go.Proofs.Lays.n166 Tryz.prog Tryz.lays166_ren := {
 mixed := by kernel_rfl
 f166 := Tryz.func99.trans (congrArg some (by kernel_rfl))
 f240 := Tryz.func126.trans (congrArg some (by kernel_rfl))
 f276 := Tryz.func146.trans (congrArg some (by kernel_rfl))
 t0 := Tryz.underlying0
 a0 := Tryz.isAgg0
 z0 := Tryz.sizeOf0
 v0 := Tryz.zeroValue0
 t3 := Tryz.underlying3
 a3 := Tryz.isAgg3
 z3 := Tryz.sizeOf3
 v3 := Tryz.zeroValue3
 t4 := Tryz.underlying4
 a4 := Tryz.isAgg4
 z4 := Tryz.sizeOf4
 v4 := Tryz.zeroValue4
 t9 := Tryz.underlying9
 a9 := Tryz.isAgg9
 z9 := Tryz.sizeOf9
 v9 := Tryz.zeroValue9
 t20 := Tryz.underlying20
 a20 := Tryz.isAgg20
 z20 := Tryz.sizeOf20
 v20 := Tryz.zeroValue20
 t37 := Tryz.underlying101
 a37 := Tryz.isAgg101
 z37 := Tryz.sizeOf101
 v37 := Tryz.zeroValue101
 t70 := Tryz.underlying109
 a70 := Tryz.isAgg109
 z70 := Tryz.sizeOf109
 v70 := Tryz.zeroValue109
 t72 := Tryz.underlying111
 a72 := Tryz.isAgg111
 z72 := Tryz.sizeOf111
 v72 := Tryz.zeroValue111
 t75 := Tryz.underlying143
 a75 := Tryz.isAgg143
 z75 := Tryz.sizeOf143
 v75 := Tryz.zeroValue143
 t164 := Tryz.underlying184
 a164 := Tryz.isAgg184
 z164 := Tryz.sizeOf184
 v164 := Tryz.zeroValue184 }
theorem Tryz.lays166X : Builder.Extra Tryz.prog Tryz.lays166_ren := {
 sizeBuilder := by kernel_rfl
 liesBuilder := by kernel_rfl
 t5 := Tryz.underlying5
 a5 := Tryz.isAgg5
 z5 := Tryz.sizeOf5
 v5 := Tryz.zeroValue5
 infoByte := by kernel_rfl
 cellsByte := by kernel_rfl
 sizeByte := by kernel_rfl
 neB5 := by decide }
def Tryz.lays168_ren : Go.Shelf.Ren := ⟨fun | 168 => 196 | 240 => 126 | 242 => 205 | 276 => 146 | 278 => 209 | n => n, fun | 0 => 0 | 3 => 3 | 4 => 4 | 5 => 5 | 9 => 9 | 20 => 20 | 21 => 21 | 37 => 101 | 46 => 91 | 51 => 123 | 70 => 109 | 72 => 111 | 75 => 143 | 80 => 113 | 164 => 184 | n => n, fun | n => n⟩
theorem Tryz.lays168 : Go.Proofs.Lays.n168 Tryz.prog Tryz.lays168_ren := {
 mixed := by kernel_rfl
 f168 := Tryz.func196.trans (congrArg some (by kernel_rfl))
 f240 := Tryz.func126.trans (congrArg some (by kernel_rfl))
 f242 := Tryz.func205.trans (congrArg some (by kernel_rfl))
 f276 := Tryz.func146.trans (congrArg some (by kernel_rfl))
 f278 := Tryz.func209.trans (congrArg some (by kernel_rfl))
 t0 := Tryz.underlying0
 a0 := Tryz.isAgg0
 z0 := Tryz.sizeOf0
 v0 := Tryz.zeroValue0
 t3 := Tryz.underlying3
 a3 := Tryz.isAgg3
 z3 := Tryz.sizeOf3
 v3 := Tryz.zeroValue3
 t4 := Tryz.underlying4
 a4 := Tryz.isAgg4
 z4 := Tryz.sizeOf4
 v4 := Tryz.zeroValue4
 t5 := Tryz.underlying5
 a5 := Tryz.isAgg5
 z5 := Tryz.sizeOf5
 v5 := Tryz.zeroValue5
 t9 := Tryz.underlying9
 a9 := Tryz.isAgg9
 z9 := Tryz.sizeOf9
 v9 := Tryz.zeroValue9
 t20 := Tryz.underlying20
 a20 := Tryz.isAgg20
 z20 := Tryz.sizeOf20
 v20 := Tryz.zeroValue20
 t21 := Tryz.underlying21
 a21 := Tryz.isAgg21
 z21 := Tryz.sizeOf21
 v21 := Tryz.zeroValue21
 t37 := Tryz.underlying101
 a37 := Tryz.isAgg101
 z37 := Tryz.sizeOf101
 v37 := Tryz.zeroValue101
 t46 := Tryz.underlying91
 a46 := Tryz.isAgg91
 z46 := Tryz.sizeOf91
 v46 := Tryz.zeroValue91
 t51 := Tryz.underlying123
 a51 := Tryz.isAgg123
 z51 := Tryz.sizeOf123
 v51 := Tryz.zeroValue123
 t70 := Tryz.underlying109
 a70 := Tryz.isAgg109
 z70 := Tryz.sizeOf109
 v70 := Tryz.zeroValue109
 t72 := Tryz.underlying111
 a72 := Tryz.isAgg111
 z72 := Tryz.sizeOf111
 v72 := Tryz.zeroValue111
 t75 := Tryz.underlying143
 a75 := Tryz.isAgg143
 z75 := Tryz.sizeOf143
 v75 := Tryz.zeroValue143
 t164 := Tryz.underlying184
 a164 := Tryz.isAgg184
 z164 := Tryz.sizeOf184
 v164 := Tryz.zeroValue184 }
theorem Tryz.lays168X : Builder.Extra Tryz.prog Tryz.lays168_ren := {
 sizeBuilder := by kernel_rfl
 liesBuilder := by kernel_rfl
 t5 := Tryz.underlying5
 a5 := Tryz.isAgg5
 z5 := Tryz.sizeOf5
 v5 := Tryz.zeroValue5
 infoByte := by kernel_rfl
 cellsByte := by kernel_rfl
 sizeByte := by kernel_rfl
 neB5 := by decide }
def Tryz.lays169_ren : Go.Shelf.Ren := ⟨fun | 169 => 66 | n => n, fun | 0 => 0 | 3 => 3 | 5 => 5 | 9 => 9 | 37 => 101 | 70 => 109 | 72 => 111 | 127 => 149 | n => n, fun | n => n⟩
theorem Tryz.lays169 : Go.Proofs.Lays.n169 Tryz.prog Tryz.lays169_ren := {
 mixed := by kernel_rfl
 f169 := Tryz.func66.trans (congrArg some (by kernel_rfl))
 t0 := Tryz.underlying0
 a0 := Tryz.isAgg0
 z0 := Tryz.sizeOf0
 v0 := Tryz.zeroValue0
 t3 := Tryz.underlying3
 a3 := Tryz.isAgg3
 z3 := Tryz.sizeOf3
 v3 := Tryz.zeroValue3
 t9 := Tryz.underlying9
 a9 := Tryz.isAgg9
 z9 := Tryz.sizeOf9
 v9 := Tryz.zeroValue9
 t37 := Tryz.underlying101
 a37 := Tryz.isAgg101
 z37 := Tryz.sizeOf101
 v37 := Tryz.zeroValue101
 t70 := Tryz.underlying109
 a70 := Tryz.isAgg109
 z70 := Tryz.sizeOf109
 v70 := Tryz.zeroValue109
 t72 := Tryz.underlying111
 a72 := Tryz.isAgg111
 z72 := Tryz.sizeOf111
 v72 := Tryz.zeroValue111
 t127 := Tryz.underlying149
 a127 := Tryz.isAgg149
 z127 := Tryz.sizeOf149
 v127 := Tryz.zeroValue149 }
theorem Tryz.lays169X : Builder.Extra Tryz.prog Tryz.lays169_ren := {
 sizeBuilder := by kernel_rfl
 liesBuilder := by kernel_rfl
 t5 := Tryz.underlying5
 a5 := Tryz.isAgg5
 z5 := Tryz.sizeOf5
 v5 := Tryz.zeroValue5
 infoByte := by kernel_rfl
 cellsByte := by kernel_rfl
 sizeByte := by kernel_rfl
 neB5 := by decide }
def Tryz.lays165_ren : Go.Shelf.Ren := ⟨fun | 165 => 161 | 240 => 126 | 241 => 175 | 276 => 146 | 277 => 188 | n => n, fun | 0 => 0 | 3 => 3 | 4 => 4 | 5 => 5 | 9 => 9 | 20 => 20 | 37 => 101 | 70 => 109 | 72 => 111 | 164 => 184 | n => n, fun | n => n⟩
theorem Tryz.lays165 : Go.Proofs.Lays.n165 Tryz.prog Tryz.lays165_ren := {
 mixed := by kernel_rfl
 f165 := Tryz.func161.trans (congrArg some (by kernel_rfl))
 f240 := Tryz.func126.trans (congrArg some (by kernel_rfl))
 f241 := Tryz.func175.trans (congrArg some (by kernel_rfl))
 f276 := Tryz.func146.trans (congrArg some (by kernel_rfl))
 f277 := Tryz.func188.trans (congrArg some (by kernel_rfl))
 t0 := Tryz.underlying0
 a0 := Tryz.isAgg0
 z0 := Tryz.sizeOf0
 v0 := Tryz.zeroValue0
 t3 := Tryz.underlying3
 a3 := Tryz.isAgg3
 z3 := Tryz.sizeOf3
 v3 := Tryz.zeroValue3
 t4 := Tryz.underlying4
 a4 := Tryz.isAgg4
 z4 := Tryz.sizeOf4
 v4 := Tryz.zeroValue4
 t9 := Tryz.underlying9
 a9 := Tryz.isAgg9
 z9 := Tryz.sizeOf9
 v9 := Tryz.zeroValue9
 t20 := Tryz.underlying20
 a20 := Tryz.isAgg20
 z20 := Tryz.sizeOf20
 v20 := Tryz.zeroValue20
 t37 := Tryz.underlying101
 a37 := Tryz.isAgg101
 z37 := Tryz.sizeOf101
 v37 := Tryz.zeroValue101
 t70 := Tryz.underlying109
 a70 := Tryz.isAgg109
 z70 := Tryz.sizeOf109
 v70 := Tryz.zeroValue109
 t72 := Tryz.underlying111
 a72 := Tryz.isAgg111
 z72 := Tryz.sizeOf111
 v72 := Tryz.zeroValue111
 t164 := Tryz.underlying184
 a164 := Tryz.isAgg184
 z164 := Tryz.sizeOf184
 v164 := Tryz.zeroValue184 }
theorem Tryz.lays165X : Builder.Extra Tryz.prog Tryz.lays165_ren := {
 sizeBuilder := by kernel_rfl
 liesBuilder := by kernel_rfl
 t5 := Tryz.underlying5
 a5 := Tryz.isAgg5
 z5 := Tryz.sizeOf5
 v5 := Tryz.zeroValue5
 infoByte := by kernel_rfl
 cellsByte := by kernel_rfl
 sizeByte := by kernel_rfl
 neB5 := by decide }
theorem Tryz.WriteByte_k (B b : Nat) (bs : List Value) (c : Int) (w : World) (h : Lib.IsBuilderF 111 5 B b bs w) (hlen : bs.length + 1 <= 140737488355328) (hBw : B <= w.heap.size) :
 Calls Tryz.prog 98 #[.pointer (some ⟨b, 0, none⟩), .int .u8 c] w fun e w' => e = .returned .nilIface /\ (Lib.BuilderAtF 111 5 B b (.pointer (some ⟨b, 0, none⟩)) (bs ++ [.int .u8 c]) w' /\ Below B w w' /\ Lib.OthersKept 5 (some b) w w') :=
 Any.Builder_WriteByte_k Tryz.lays167 Tryz.lays167X B b bs c w h hlen hBw
theorem Tryz.WriteString_k (B b : Nat) (bs : List Value) (s : ByteArray) (w : World) (h : Lib.IsBuilderF 111 5 B b bs w) (hlen : bs.length + s.size <= 140737488355328) (hBw : B <= w.heap.size) :
 Calls Tryz.prog 99 #[.pointer (some ⟨b, 0, none⟩), .string s] w fun e w' => e = .returned (.tuple #[.int .i64 s.size, .nilIface]) /\ (Lib.BuilderAtF 111 5 B b (.pointer (some ⟨b, 0, none⟩)) (bs ++ Lib.strCells s) w' /\ Below B w w' /\ Lib.OthersKept 5 (some b) w w') :=
 Any.Builder_WriteString_k Tryz.lays166 Tryz.lays166X B b bs s w h hlen hBw
theorem Tryz.String_any_k (B b : Nat) (l : List UInt8) (w : World) (h : Lib.IsBuilderF 111 5 B b (Lib.byteCells l) w) (hBw : B <= w.heap.size) :
 Calls Tryz.prog 66 #[.pointer (some ⟨b, 0, none⟩)] w fun e w' => e = .returned (.string ⟨l.toArray⟩) /\ (Lib.IsBuilderF 111 5 B b (Lib.byteCells l) w' /\ Below B w w' /\ Lib.OthersKept 5 (some b) w w') :=
 Any.Builder_String_any_k Tryz.lays169 Tryz.lays169X B b l w h hBw
theorem Tryz.Grow_fresh (B b n : Nat) (w : World) (hB : B <= b) (hbk : w.heap[b]? = some (.cells #[.pointer none, .slice none 0 0] 111 (0, 0))) (hBw : B <= w.heap.size) (hn : n <= 281474976710656) :
 Calls Tryz.prog 161 #[.pointer (some ⟨b, 0, none⟩), .int .i64 n] w fun e w' => e = .returned (.tuple #[]) /\ (Lib.BuilderAt 111 5 B b (.pointer (some ⟨b, 0, none⟩)) [] w' /\ Below B w w') :=
 Any.Builder_Grow_fresh Tryz.lays165 Tryz.lays165X B b n w hB hbk hBw hn
end Go.Proofs
namespace Go.Proofs.YtdgfjdhobdfglaaGreatDoor
open Go.RowKit Go.Lib
theorem LetTab.below {B : Nat} {w w' : World} (h : LetTab w) (hb : Below B w w') (hB : 9 < B) : LetTab w' :=
 fun c hc => (hb.cell (p := ⟨5, c, none⟩) (by show 5 < B; omega)).trans (h c hc)
theorem byteCells_snoc (l : List UInt8) (c : UInt8) : byteCells l ++ [Value.int .u8 c.toNat] = byteCells (l ++ [c]) := by simp [byteCells]
theorem cell_ofNat (n : Nat) (h : n < 256) : Value.int .u8 (n : Int) = Value.int .u8 ((UInt8.ofNat n).toNat : Int) := by
 congr 1
 simp
 omega
theorem Q.letN_lt (c : Nat) : Q.letN c < 256 := by
 unfold Q.letN
 repeat' split
 all_goals omega
theorem Q.esc_let (c : UInt8) (h : Q.letN c.toNat ≠ 0) : Q.esc c = [92, UInt8.ofNat (Q.letN c.toNat)] := by
 simp [Q.esc, Q.escN, h]
theorem Q.esc_low (c : UInt8) (h : Q.letN c.toNat = 0) (h2 : c.toNat < 32) : Q.esc c = [92, 117, 48, 48, UInt8.ofNat (Q.hexN (c.toNat / 16)), UInt8.ofNat (Q.hexN (c.toNat % 16))] := by
 simp [Q.esc, Q.escN, h, h2]
theorem Q.esc_same (c : UInt8) (h : Q.letN c.toNat = 0) (h2 : ¬ c.toNat < 32) : Q.esc c = [c] := by
 simp [Q.esc, Q.escN, h, h2]
theorem hexAt (d : Nat) (h : d < 16) (h' : d < (⟨#[48, 49, 50, 51, 52, 53, 54, 55, 56, 57, 97, 98, 99, 100, 101, 102]⟩ : ByteArray).size) :
 (⟨#[48, 49, 50, 51, 52, 53, 54, 55, 56, 57, 97, 98, 99, 100, 101, 102]⟩ : ByteArray)[d] = UInt8.ofNat (Q.hexN d) := by
 have key : ∀ d : Fin 16, (⟨#[48, 49, 50, 51, 52, 53, 54, 55, 56, 57, 97, 98, 99, 100, 101, 102]⟩ : ByteArray)[d.val]'(d.isLt) = UInt8.ofNat (Q.hexN d.val) := by decide
 exact key ⟨d, h⟩
set_option maxRecDepth 100000 in
set_option maxHeartbeats 8000000 in
theorem writeByte_any (B b : Nat) (l : List UInt8) (c : UInt8) (w : World) (h : IsBuilderF 111 5 B b (byteCells l) w) (hlen : l.length + 6 <= 140737488355328) (hBw : B <= w.heap.size) (hB2 : 9 < B) (hT : LetTab w) :
 Calls Tryz.prog 162 #[.pointer (some ⟨b, 0, none⟩), .int .u8 c.toNat] w fun e w' => e = .returned (.tuple #[]) /\ IsBuilderF 111 5 B b (byteCells (l ++ Q.esc c)) w' /\ Below B w w' := by
 have cl := letter_any c.toNat c.toNat_lt w hT
 by_cases h0 : Q.letN c.toNat = 0
 ·rw [h0] at cl
  by_cases h2 : c.toNat < 32
  ·rw [Q.esc_low c h0 h2]
   have hz : (c.toNat : Int) < 32 := by omega
   clear h0
   go_enter Tryz.func162, Tryz.ntmps162
   go_wp2_with (go_at_call 176; refine cl.mono ?_; rintro e w' ⟨rfl, rfl⟩)
   refine (Tryz.WriteString_k B b (byteCells l) _ _ h (by rw [byteCells_length]; show l.length + 4 <= _; omega) hBw).mono ?_
   rintro e w1 ⟨rfl, h1, b1, k1⟩
   have s1 := b1.size
   go_wp2_with fail
   refine (Tryz.WriteByte_k B b _ _ _ (.inr h1) (by simp [byteCells_length, strCells]; omega) (by omega)).mono ?_
   rintro e w2 ⟨rfl, h3, b2, k2⟩
   have s2 := b2.size
   go_wp2_with fail
   refine (Tryz.WriteByte_k B b _ _ _ (.inr h3) (by simp [byteCells_length, strCells]; omega) (by omega)).mono ?_
   rintro e w3 ⟨rfl, h4, b3, k3⟩
   go_wp2
   go_end0
   refine ⟨rfl, .inr ?_, (b1.trans b2).trans b3⟩
   rw [hexAt _ (by omega), hexAt _ (by omega)] at h4
   generalize UInt8.ofNat (Q.hexN (c.toNat / 16)) = x at *
   generalize UInt8.ofNat (Q.hexN (c.toNat % 16)) = y at *
   have e : byteCells l ++ strCells ⟨#[92, 117, 48, 48]⟩ ++ [Value.int .u8 x.toNat] ++ [Value.int .u8 y.toNat] = byteCells (l ++ [92, 117, 48, 48, x, y]) := by simp [byteCells, strCells]
   rw [e] at h4
   exact h4
  ·rw [Q.esc_same c h0 h2]
   have hz : ¬ (c.toNat : Int) < 32 := by omega
   clear h0
   go_enter Tryz.func162, Tryz.ntmps162
   go_wp2_with (go_at_call 176; refine cl.mono ?_; rintro e w' ⟨rfl, rfl⟩)
   refine (Tryz.WriteByte_k B b (byteCells l) _ _ h (by rw [byteCells_length]; omega) hBw).mono ?_
   rintro e w1 ⟨rfl, h1, b1, k1⟩
   go_wp2
   go_end0
   rw [byteCells_snoc] at h1
   exact ⟨rfl, .inr h1, b1⟩
 ·rw [Q.esc_let c h0]
  have hb2 : ((Q.letN c.toNat : Int) != 0) = true := by rw [bne_iff_ne]; omega
  have hl := Q.letN_lt c.toNat
  have hcell := cell_ofNat (Q.letN c.toNat) hl
  generalize Q.letN c.toNat = L at *
  have HC : Hid (Value.int .u8 (L : Int) = Value.int .u8 ((UInt8.ofNat L).toNat : Int)) := hcell
  clear hcell
  go_enter Tryz.func162, Tryz.ntmps162
  go_wp2_with (go_at_call 176; refine cl.mono ?_; rintro e w' ⟨rfl, rfl⟩)
  refine (Tryz.WriteByte_k B b (byteCells l) _ _ h (by rw [byteCells_length]; omega) hBw).mono ?_
  rintro e w1 ⟨rfl, h1, b1, k1⟩
  have s1 := b1.size
  go_wp2_with fail
  refine (Tryz.WriteByte_k B b _ _ _ (.inr h1) (by simp [byteCells_length]; omega) (by omega)).mono ?_
  rintro e w2 ⟨rfl, h2, b2, k2⟩
  go_wp2
  go_end0
  refine ⟨rfl, .inr ?_, b1.trans b2⟩
  rw [HC.out] at h2
  have e92 : byteCells l ++ [Value.int .u8 92] = byteCells (l ++ [92]) := byteCells_snoc l 92
  rw [e92, byteCells_snoc] at h2
  simpa using h2
end Go.Proofs.YtdgfjdhobdfglaaGreatDoor
set_option maxHeartbeats 64000000
namespace Go.Proofs.YtdgfjdhobdfglaaGreatDoor
open Go.RowKit Go.Lib
theorem utab_below {B : Nat} {w w' : World} (h : Utf8Tabs 0 1 w) (hb : Below B w w') (hB : 1 < B) : Utf8Tabs 0 1 w' :=
 ⟨fun c hc => (hb.cell (p := ⟨0, c, none⟩) (by show 0 < B; omega)).trans (h.1 c hc), fun i hi => ⟨(hb.cell (p := ⟨1, 2 * i, none⟩) hB).trans (h.2 i hi).1, (hb.cell (p := ⟨1, 2 * i + 1, none⟩) hB).trans (h.2 i hi).2⟩⟩
theorem valid_any (s : ByteArray) (w : World) (hs : s.size <= 140737488351232) (hU : Utf8Tabs 0 1 w) :
 Calls Tryz.prog 95 #[.string s] w fun e w' => e = .returned (.bool (validD s.data.toList)) /\ Below w.heap.size w w' := by
 have c := validString_any s w (by omega) hU
 generalize validD s.data.toList = V at *
 clear hU
 go_enter Tryz.func95, Tryz.ntmps95
 go_wp2_with (go_at_call 41; refine c.mono ?_; rintro e w' ⟨rfl, hb⟩)
 go_ret
 exact ⟨rfl, hb⟩
theorem take_snoc (s : ByteArray) (k : Nat) (h : k < s.size) : s.data.toList.take (k + 1) = s.data.toList.take k ++ [s[k]] := by
 rw [List.take_succ_eq_append_getElem (by simpa using h)]; rfl
theorem take_all (s : ByteArray) (k : Nat) (h : s.size <= k) : s.data.toList.take k = s.data.toList := List.take_of_length_le (by simpa using h)
theorem alloc_last (w : World) (o : Obj) : (w.alloc o).heap[w.heap.size]? = some o := by
 show (w.heap.push o)[w.heap.size]? = some o
 simp
set_option maxRecDepth 100000 in
theorem size_good (s : ByteArray) (w : World) (hs : s.size <= 2147483648) (hU : Utf8Tabs 0 1 w) (hL : LetTab w) (hz : 9 < w.heap.size) (hV : validD s.data.toList = true) :
 Calls Tryz.prog 160 #[.string s] w fun e w' => e = .returned (.tuple #[.int .i64 (2 + Q.sz s.data.toList : Nat), .int .i64 0]) /\ Below w.heap.size w w' := by
 have c := valid_any s w (by omega) hU
 rw [hV] at c
 clear hU hV
 go_enter Tryz.func160, Tryz.ntmps160
 go_wp2_with (go_at_call 95; refine c.mono ?_; rintro e w1 ⟨rfl, hb⟩)
 have hL1 : LetTab w1 := hL.below hb (by omega)
 clear c hL
 go_loop [4, 11] (fun z i => ∃ k : Nat, k <= s.size /\ i = .int .i64 k /\ z = .int .i64 (2 + Q.sz (s.data.toList.take k) : Nat)) (fun _ i => s.size - (RowKit.intOf i).toNat)
 case atStart => exact ⟨0, Nat.zero_le _, rfl, rfl⟩
 case round =>
  obtain ⟨k, hk, rfl, rfl⟩ := hrel
  have hle := Q.sz_le (s.data.toList.take k)
  have hlt : (s.data.toList.take k).length <= k := List.length_take_le _ _
  by_cases hlt2 : k < s.size
  ·have y1 : (k : Int) < s.size := by omega
   have cw := width_any s[k].toNat s[k].toNat_lt w1 hL1
   have hw := Q.widN_le s[k].toNat
   have HS : Hid (Q.sz (s.data.toList.take (k + 1)) = Q.sz (s.data.toList.take k) + Q.widN s[k].toNat) := by
    show _ = _
    rw [take_snoc s k hlt2, Q.sz_snoc]; rfl
   generalize Q.widN s[k].toNat = W at *
   go_wp2_with (go_at_call 174; refine cw.mono ?_; rintro e w' ⟨rfl, rfl⟩)
   go_round
   case rel => exact ⟨k + 1, by omega, by go_num, by rw [HS.out]; go_num⟩
   case measure => simp [RowKit.intOf]; omega
  ·have y1 : ¬ (k : Int) < s.size := by omega
   rw [take_all s k (by omega)] at *
   go_wp2
   go_ret2
   exact ⟨rfl, hb⟩
set_option maxRecDepth 100000 in
theorem quote_good (s : ByteArray) (w : World) (hs : s.size <= 2147483648) (hU : Utf8Tabs 0 1 w) (hL : LetTab w) (hz : 9 < w.heap.size) (hV : validD s.data.toList = true) :
 Calls Tryz.prog 147 #[.string s] w fun e w' => e = .returned (.tuple #[.string ⟨(Q.qt s.data.toList).toArray⟩, .int .i64 0]) /\ Below w.heap.size w w' := by
 have c := size_good s w hs hU hL hz hV
 have hle := Q.sz_le s.data.toList
 have hlen : s.data.toList.length = s.size := by simp
 rw [hlen] at hle
 have hZ : 2 + Q.sz s.data.toList <= 281474976710656 := by omega
 clear hU hV hlen
 generalize 2 + Q.sz s.data.toList = Z at *
 go_enter Tryz.func147, Tryz.ntmps147
 go_wp2_with (go_at_call 160; refine c.mono ?_; rintro e w1 ⟨rfl, hb⟩)
 have hL1 : LetTab w1 := hL.below hb (by omega)
 have hs1 := hb.size
 clear c hL
 refine (Tryz.Grow_fresh w1.heap.size w1.heap.size Z _ (Nat.le_refl _) (by exact alloc_last _ _) (by simp) hZ).mono ?_
 rintro e w2 ⟨rfl, g2, b2⟩
 have b2' : Below w1.heap.size w1 w2 := ((Below.refl _ w1).alloc (Nat.le_refl _) _).trans b2
 have hs2 := b2'.size
 have hL2 : LetTab w2 := hL1.below b2' (by omega)
 clear b2
 go_wp2_with fail
 refine (Tryz.WriteByte_k w1.heap.size w1.heap.size [] 34 w2 (.inr (BuilderAtF.of g2)) (by simp) hs2).mono ?_
 rintro e w3 ⟨rfl, g3, b3, -⟩
 have b3' : Below w1.heap.size w1 w3 := b2'.trans b3
 have hs3 := b3'.size
 have hL3 : LetTab w3 := hL1.below b3' (by omega)
 clear b3 b2' g2 hL2
 go_wp2_with fail
 go_loopw [21] (fun i wr => ∃ k : Nat, k <= s.size /\ i = .int .i64 k /\ IsBuilderF 111 5 w1.heap.size w1.heap.size (byteCells (34 :: Q.body (s.data.toList.take k))) wr /\ Below w1.heap.size w1 wr) (fun i _ => s.size - (RowKit.intOf i).toNat)
 case atStart => exact ⟨0, Nat.zero_le _, rfl, .inr g3, b3'⟩
 case round =>
  obtain ⟨k, hk, rfl, gk, bk⟩ := hrel
  have hl0 := Q.sz_le (s.data.toList.take k)
  have hl1 : (s.data.toList.take k).length <= k := List.length_take_le _ _
  have hbl : (Q.body (s.data.toList.take k)).length <= 12884901888 := by unfold Q.sz at hl0; omega
  have hsk := bk.size
  clear g3 hl0
  by_cases hlt : k < s.size
  ·have y1 : (k : Int) < s.size := by omega
   have HS : Hid (34 :: Q.body (s.data.toList.take (k + 1)) = (34 :: Q.body (s.data.toList.take k)) ++ Q.esc s[k]) := by
    show _ = _
    rw [take_snoc s k hlt, Q.body_snoc]; rfl
   have hLk : LetTab wr := hL1.below bk (by omega)
   go_wp2_with (go_at_call 162; refine (writeByte_any w1.heap.size w1.heap.size _ s[k] _ gk (by simp; omega) hsk (by omega) hLk).mono ?_; rintro e wn ⟨rfl, gn, bn⟩)
   go_roundw
   case rel => exact ⟨k + 1, by omega, by go_num, by rw [HS.out]; exact gn, bk.trans bn⟩
   case measure => simp [RowKit.intOf]; omega
  ·have y1 : ¬ (k : Int) < s.size := by omega
   rw [take_all s k (by omega)] at gk hbl
   go_wp2_with fail
   refine (Tryz.WriteByte_k w1.heap.size w1.heap.size _ 34 _ gk (by simp [byteCells_length]; omega) hsk).mono ?_
   rintro e w4 ⟨rfl, g4, b4, -⟩
   have hs4 := b4.size
   have e4 : byteCells (34 :: Q.body s.data.toList) ++ [Value.int .u8 34] = byteCells (Q.qt s.data.toList) := by
    have := byteCells_snoc (34 :: Q.body s.data.toList) 34
    exact this
   rw [e4] at g4
   go_wp2_with fail
   refine (Tryz.String_any_k w1.heap.size w1.heap.size (Q.qt s.data.toList) _ (.inr g4) (by omega)).mono ?_
   rintro e w5 ⟨rfl, -, b5, -⟩
   go_wp2
   go_ret2
   exact ⟨rfl, hb.trans (((bk.trans b4).trans b5).mono hs1)⟩
end Go.Proofs.YtdgfjdhobdfglaaGreatDoor
set_option maxRecDepth 100000
namespace Go.Proofs.YtdgfjdhobdfglaaGreatDoor
open Go.RowKit
theorem info5 : (Tryz.prog.info? 5).map (fun i => (i.zero, i.size, i.bytes)) = some (some (.int .u8 0), 1, 1) := by kernel_rfl
def OwnB (B : Nat) (v : Value) (l : List UInt8) (w : World) : Prop := w.ownsRow B 5 1 v l.length (Lib.byteCells l)
theorem OwnB.alloc {B : Nat} {v : Value} {l : List UInt8} {w : World} (h : OwnB B v l w) (o : Obj) : OwnB B v l (w.alloc o) := World.ownsRow.alloc h o
theorem OwnB.nil (B : Nat) (w : World) : OwnB B (.slice none 0 0) [] w := World.ownsRow_nil w B 5 1
theorem OwnB.built (B : Nat) (w : World) (l : List UInt8) (hB : B <= w.heap.size) (hl : l.length <= 1000) :
 OwnB B (.slice (some ⟨w.heap.size, 0, none⟩) l.length l.length) l (w.alloc (.cells (Lib.byteCells l).toArray 5)) := by
 refine ⟨by simp [Lib.byteCells_length], .inr ⟨w.heap.size, l.length, (Lib.byteCells l).toArray, rfl, hB, heap_alloc_new w _, Nat.le_refl _, by unfold maxLen; omega, by simp [Lib.byteCells_length], ?_⟩⟩
 simp [Lib.byteCells_length]
 exact List.take_of_length_le (by simp [Lib.byteCells_length])
theorem OwnB.conv {B : Nat} {v : Value} {l : List UInt8} {w : World} (h : OwnB B v l w) : (convert 101 9 v).run Tryz.prog w = .ok (.string ⟨l.toArray⟩) w := by
 rcases h.2 with ⟨hv, h0⟩ | ⟨g, cap, cur, hv, hb, hg, hn, hm, hs, ht⟩
 ·have : l = [] := List.length_eq_zero_iff.1 h0
  subst this
  rw [hv]
  exact run_convert_bytes_nil (P := Tryz.prog) w 101 5 Tryz.underlying101 Tryz.underlying5 0 0 9 Tryz.underlying9
 ·rw [hv]
  refine run_convert_bytes_back (P := Tryz.prog) w 101 9 5 ⟨g, 0, none⟩ cap l Tryz.underlying101 Tryz.underlying5 Tryz.underlying9 ?_
  intro j hj
  have hu : (Lib.byteCells l)[j]? = some (.int .u8 (l[j].toNat : Int)) := by simp [Lib.byteCells, hj]
  exact World.ownsRow.cells h (g := g) (by rw [hv]; rfl) j _ hu
theorem bytes_oneCell (l : List UInt8) : ∀ u ∈ Lib.byteCells l, u.oneCell' = true := by
 intro u hu
 simp only [Lib.byteCells, List.mem_map] at hu
 obtain ⟨c, _, rfl⟩ := hu
 rfl
theorem wpl_app {ops : Array Oper} {rest : List Oper} {o : Oper} {a : Act} {Q : Exit -> Act -> World -> Prop} (w : World) (hgd : o.guard = none) (s x : Operand)
 (ho : o.op = .call { callee := .builtin .append, args := #[s, x], argTypes := #[101, 101] }) (B : Nat) (v : Value) (l : List UInt8) (hs : a.eval s = v) (hown : OwnB B v l w)
 (g m c : Nat) (new : List UInt8) (hx : a.eval x = .slice (some ⟨g, 0, none⟩) m c) (hm : new.length = m) (cs : Array Value) (fr : Nat × Nat) (hblk : w.heap[g]? = some (.cells cs 5 fr)) (hcs : cs.toList = Lib.byteCells new)
 (hlen : l.length + new.length <= 140737488355328) (hbase : B <= w.heap.size)
 (h : ∀ v' w', OwnB B v' (l ++ new) w' -> Below B w w' -> wpList Tryz.prog ops Q rest (a.put o.dst v') w') : wpList Tryz.prog ops Q (o :: rest) a w := by
 obtain ⟨i0, hi, hz0, hz1, hz2⟩ := info_parts info5
 refine wpList_append_own w hgd s x 101 ho B 5 i0 (.int .u8 0) 1 1 Tryz.underlying101 hi hz0 hz1 hz2 rfl (by decide) v l.length (Lib.byteCells l) hs hown ⟨g, 0, none⟩ m c (Lib.byteCells new) hx
  (by rw [Lib.byteCells_length, hm]; omega) (by rw [<- hcs]; exact World.news_of_block hblk) (bytes_oneCell new) (by unfold maxLen; omega) (by omega) hbase ?_
 intro v' w' h1 h2 _
 refine h v' w' ?_ ((Below.refl B w).grown h2 hbase (fun k hk => (World.ownsRow.lt hown k hk).1))
 show w'.ownsRow B 5 1 v' (l ++ new).length (Lib.byteCells (l ++ new))
 have e : Lib.byteCells (l ++ new) = Lib.byteCells l ++ Lib.byteCells new := by simp [Lib.byteCells]
 rw [e, List.length_append, hm]
 exact h1
theorem step_app {ops : Array Oper} {o : Oper} {a : Act} {K : Act -> World -> Prop} {Q : Exit -> Act -> World -> Prop} {E : Prop} (w : World) (hgd : o.guard = none) (s x : Operand)
 (ho : o.op = .call { callee := .builtin .append, args := #[s, x], argTypes := #[101, 101] }) (B : Nat) (v : Value) (l : List UInt8) (hs : a.eval s = v) (hown : OwnB B v l w)
 (g m c : Nat) (new : List UInt8) (hx : a.eval x = .slice (some ⟨g, 0, none⟩) m c) (hm : new.length = m) (hm0 : 0 < m) (cs : Array Value) (fr : Nat × Nat) (hblk : w.heap[g]? = some (.cells cs 5 fr)) (hcs : cs.toList = Lib.byteCells new)
 (hlen : l.length + new.length <= 140737488355328) (hbase : B <= w.heap.size)
 (h : ∀ v' w', OwnB B v' (l ++ new) w' -> Below B w w' -> K (a.put o.dst v') w') :
 if Region.wanted o (yielded ops a.tmps) = true then Oper.wp Tryz.prog o a w K Q else E := by
 obtain ⟨i0, hi, hz0, hz1, hz2⟩ := info_parts info5
 refine step_append_lies w hgd s x 101 ho B 5 i0 (.int .u8 0) 1 1 Tryz.underlying101 hi hz0 hz1 hz2 rfl (by decide) v l.length (Lib.byteCells l) hs hown ⟨g, 0, none⟩ m c (Lib.byteCells new) hx
  (by rw [Lib.byteCells_length, hm]; omega) (by rw [<- hcs]; exact World.news_of_block hblk) (bytes_oneCell new) hm0 (by unfold maxLen; omega) (by omega) hbase w.heap.size rfl ?_
 intro g' cap w' h1 h2 _ _
 refine h _ w' ?_ ((Below.refl B w).grown h2 hbase (fun k hk => (World.ownsRow.lt hown k hk).1))
 show w'.ownsRow B 5 1 _ (l ++ new).length (Lib.byteCells (l ++ new))
 have e : Lib.byteCells (l ++ new) = Lib.byteCells l ++ Lib.byteCells new := by simp [Lib.byteCells]
 rw [e, List.length_append, hm]
 exact h1
end Go.Proofs.YtdgfjdhobdfglaaGreatDoor
