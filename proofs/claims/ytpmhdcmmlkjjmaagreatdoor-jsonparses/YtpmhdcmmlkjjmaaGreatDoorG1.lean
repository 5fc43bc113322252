/- joined: WalksA WalksB ShelfB WalksC WalksD -/
import Derived.Test.YtpmhdcmmlkjjmaaGreatDoorG0
import Derived.WalkKit
import Derived.WalkMore
import Derived.Below
import Derived.Shelf.Strings.BuilderRune
import Derived.Shelf.Strings.Builder2
import Derived.Shelf.Unicode.DecodeAny
/- Contracts: letter, width, bounds, Next, the document's Valid. -/
set_option linter.unusedSimpArgs false
set_option linter.unusedVariables false
namespace Go.Proofs.YtpmhdcmmlkjjmaaGreatDoor
open Go.RowKit Go.Lib
/-- the letters' table, cell by cell -/
def LetTab (w : World) : Prop := ∀ c : Nat, c < 128 → w.cell? ⟨4, c, none⟩ = some (.int .u8 (Q.letN c))
set_option maxHeartbeats 1000000 in
theorem bounds_anyW (n : Nat) (hn : n < 256) (w : World) :
    Calls Tryz.prog 122 #[.int .u8 n] w fun e w' => e = .returned (.tuple #[.int .i64 (Q.bnd n).1, .int .u8 (Q.bnd n).2.1, .int .u8 (Q.bnd n).2.2]) ∧ w' = w := by
  have key : ∀ a b c : Nat, Q.bnd n = (a, b, c) → (Calls Tryz.prog 122 #[.int .u8 n] w fun e w' => e = .returned (.tuple #[.int .i64 a, .int .u8 b, .int .u8 c]) ∧ w' = w) → Calls Tryz.prog 122 #[.int .u8 n] w fun e w' => e = .returned (.tuple #[.int .i64 (Q.bnd n).1, .int .u8 (Q.bnd n).2.1, .int .u8 (Q.bnd n).2.2]) ∧ w' = w := by
    intro a b c e h
    rw [e]
    exact h
  have c9 : n < 128 ∨ (128 ≤ n ∧ n < 194) ∨ (194 ≤ n ∧ n < 224) ∨ n = 224 ∨ n = 237 ∨ (224 < n ∧ n < 240 ∧ n ≠ 237) ∨ n = 240 ∨ n = 244 ∨ (240 < n ∧ n < 244) ∨ 244 < n := by omega
  rcases c9 with h | h | h | h | h | h | h | h | h | h
  case inr.inr.inr.inl => subst h; refine key 3 160 191 (by decide) ?_; go_enter Tryz.func122, Tryz.ntmps122; go_wp2; go_ret3; exact ⟨rfl, rfl⟩
  case inr.inr.inr.inr.inl => subst h; refine key 3 128 159 (by decide) ?_; go_enter Tryz.func122, Tryz.ntmps122; go_wp2; go_ret3; exact ⟨rfl, rfl⟩
  case inr.inr.inr.inr.inr.inr.inl => subst h; refine key 4 144 191 (by decide) ?_; go_enter Tryz.func122, Tryz.ntmps122; go_wp2; go_ret3; exact ⟨rfl, rfl⟩
  case inr.inr.inr.inr.inr.inr.inr.inl => subst h; refine key 4 128 143 (by decide) ?_; go_enter Tryz.func122, Tryz.ntmps122; go_wp2; go_ret3; exact ⟨rfl, rfl⟩
  · refine key 1 0 0 (by simp [Q.bnd, h]) ?_
    have z1 : (n : Int) < 128 := by omega
    go_enter Tryz.func122, Tryz.ntmps122
    go_wp2
    go_ret3
    exact ⟨rfl, rfl⟩
  all_goals
    have z1 : ¬ (n : Int) < 128 := by omega
    have b1 : ((n : Int) == 224) = false := by rw [beq_eq_false_iff_ne]; omega
    have b2 : ((n : Int) == 237) = false := by rw [beq_eq_false_iff_ne]; omega
    have b3 : ((n : Int) == 240) = false := by rw [beq_eq_false_iff_ne]; omega
    have b4 : ((n : Int) == 244) = false := by rw [beq_eq_false_iff_ne]; omega
  · refine key 0 0 0 ?_ ?_
    · unfold Q.bnd; repeat' split
      all_goals first | rfl | (exfalso; omega)
    have d1 : ¬ (194 : Int) ≤ n := by omega
    have d2 : ¬ (224 : Int) < n := by omega
    have d3 : ¬ (240 : Int) < n := by omega
    go_enter Tryz.func122, Tryz.ntmps122
    go_wp2
    go_ret3
    exact ⟨rfl, rfl⟩
  · refine key 2 128 191 ?_ ?_
    · unfold Q.bnd; repeat' split
      all_goals first | rfl | (exfalso; omega)
    have d1 : (194 : Int) ≤ n := by omega
    have d2 : (n : Int) < 224 := by omega
    go_enter Tryz.func122, Tryz.ntmps122
    go_wp2
    go_ret3
    exact ⟨rfl, rfl⟩
  · refine key 3 128 191 ?_ ?_
    · unfold Q.bnd; repeat' split
      all_goals first | rfl | (exfalso; omega)
    have d1 : (194 : Int) ≤ n := by omega
    have d2 : ¬ (n : Int) < 224 := by omega
    have d3 : (224 : Int) < n := by omega
    have d4 : (n : Int) < 240 := by omega
    go_enter Tryz.func122, Tryz.ntmps122
    go_wp2
    go_ret3
    exact ⟨rfl, rfl⟩
  · refine key 4 128 191 ?_ ?_
    · unfold Q.bnd; repeat' split
      all_goals first | rfl | (exfalso; omega)
    have d1 : (194 : Int) ≤ n := by omega
    have d2 : ¬ (n : Int) < 224 := by omega
    have d3 : (224 : Int) < n := by omega
    have d4 : ¬ (n : Int) < 240 := by omega
    have d5 : (240 : Int) < n := by omega
    have d6 : (n : Int) < 244 := by omega
    go_enter Tryz.func122, Tryz.ntmps122
    go_wp2
    go_ret3
    exact ⟨rfl, rfl⟩
  · refine key 0 0 0 ?_ ?_
    · unfold Q.bnd; repeat' split
      all_goals first | rfl | (exfalso; omega)
    have d1 : (194 : Int) ≤ n := by omega
    have d2 : ¬ (n : Int) < 224 := by omega
    have d3 : (224 : Int) < n := by omega
    have d4 : ¬ (n : Int) < 240 := by omega
    have d5 : (240 : Int) < n := by omega
    have d6 : ¬ (n : Int) < 244 := by omega
    go_enter Tryz.func122, Tryz.ntmps122
    go_wp2
    go_ret3
    exact ⟨rfl, rfl⟩
theorem drop_consW (s : ByteArray) (k : Nat) (h : k < s.size) : s.data.toList.drop k = s[k] :: s.data.toList.drop (k + 1) := by
  rw [List.drop_eq_getElem_cons (by simpa using h)]
  rfl
theorem drop_endW (s : ByteArray) (k : Nat) (h : s.size ≤ k) : s.data.toList.drop k = [] := by
  rw [List.drop_eq_nil_iff]
  simpa using h
theorem ret_ibW {a b : Int} {p q : Bool} (h : a = b) (h2 : p = q) : Ending.returned (.tuple #[.int .i64 a, .bool p]) = .returned (.tuple #[.int .i64 b, .bool q]) := by rw [h, h2]
end Go.Proofs.YtpmhdcmmlkjjmaaGreatDoor
/- Contracts: the document's Next and Valid. -/
namespace Go.Proofs.YtpmhdcmmlkjjmaaGreatDoor
open Go.RowKit Go.Lib
set_option maxRecDepth 100000 in
set_option maxHeartbeats 2000000 in
theorem next_anyW (s : ByteArray) (a : Int) (k : Nat) (hak : a = k) (hk : k ≤ s.size) (hs : s.size ≤ 140737488351232) (w : World) :
    Calls Tryz.prog 98 #[.string s, .int .i64 a] w fun e w' => e = .returned (.tuple #[.int .i64 (k + (Q.nxt (s.data.toList.drop k)).1 : Int), .bool (Q.nxt (s.data.toList.drop k)).2]) ∧ w' = w := by
  subst hak
  by_cases h0 : k < s.size
  · have z0 : (k : Int) < s.size := by omega
    have hd := drop_consW s k h0
    have cb := bounds_anyW s[k].toNat s[k].toNat_lt w
    have hn4 := Q.bnd_le s[k].toNat
    have hR : Q.nxt (s.data.toList.drop k) = if (Q.bnd s[k].toNat).1 = 0 then (0, false) else Q.nxtGo (Q.bnd s[k].toNat).1 1 (Q.bnd s[k].toNat).2.1 (Q.bnd s[k].toNat).2.2 (s.data.toList.drop (k + 1)) := by
      rw [hd]; rfl
    generalize hR0 : Q.nxt (s.data.toList.drop k) = R at *
    have hlo : (Q.bnd s[k].toNat).2.1 < 256 ∧ (Q.bnd s[k].toNat).2.2 < 256 := by
      unfold Q.bnd; repeat' split
      all_goals simp
    generalize Q.bnd s[k].toNat = B at *
    obtain ⟨n, lo, hi⟩ := B
    simp only at cb hn4 hR hlo
    clear hd hR0
    by_cases hz : n = 0
    · subst hz
      rw [if_pos rfl] at hR
      subst hR
      go_enter Tryz.func98, Tryz.ntmps98
      go_wp2_with (go_at_call 122; refine cb.mono ?_; rintro e w' ⟨rfl, rfl⟩)
      go_ret2
      exact ⟨ret_ibW (by simp) rfl, rfl⟩
    · rw [if_neg hz] at hR
      have HR : Hid (R = Q.nxtGo n 1 lo hi (s.data.toList.drop (k + 1))) := hR
      clear hR
      have bz : ((n : Int) == 0) = false := by rw [beq_eq_false_iff_ne]; omega
      go_enter Tryz.func98, Tryz.ntmps98
      go_wp2_with (go_at_call 122; refine cb.mono ?_; rintro e w' ⟨rfl, rfl⟩)
      go_loop [7, 8, 9] (fun lo' hi' j' => ∃ j l g : Nat, 1 ≤ j ∧ j ≤ n ∧ l < 256 ∧ g < 256 ∧ lo' = .int .u8 l ∧ hi' = .int .u8 g ∧ j' = .int .i64 j ∧ Hid (R = Q.nxtGo n j l g (s.data.toList.drop (k + j)))) (fun _ _ j' => n - (RowKit.intOf j').toNat)
      case atStart => exact ⟨1, lo, hi, by omega, by omega, hlo.1, hlo.2, rfl, rfl, rfl, HR⟩
      case round =>
        obtain ⟨j, l, g, hj1, hj2, hl, hg, rfl, rfl, rfl, HJ⟩ := hrel
        clear HR hlo cb
        by_cases hjn : j < n
        · have y1 : (j : Int) < n := by omega
          by_cases hend : k + j < s.size
          · have y2 : ((k : Int) + j) < s.size := by omega
            have hd := drop_consW s (k + j) hend
            by_cases c1 : s[k + j].toNat < l
            · have hfin : R = (j, false) := by
                rw [HJ.out, hd, Q.nxtGo, if_neg (by omega), if_pos (Or.inl c1)]
              subst hfin
              have y3 : (s[k + j].toNat : Int) < l := by omega
              clear HJ hd
              go_wp2
              go_ret2
              exact ⟨ret_ibW (by simp) rfl, rfl⟩
            · by_cases c2 : g < s[k + j].toNat
              · have hfin : R = (j, false) := by
                  rw [HJ.out, hd, Q.nxtGo, if_neg (by omega), if_pos (Or.inr c2)]
                subst hfin
                have y3 : ¬ (s[k + j].toNat : Int) < l := by omega
                have y4 : (g : Int) < s[k + j].toNat := by omega
                clear HJ hd
                go_wp2
                go_ret2
                exact ⟨ret_ibW (by simp) rfl, rfl⟩
              · have HN : Hid (R = Q.nxtGo n (j + 1) 128 191 (s.data.toList.drop (k + (j + 1)))) := by
                  show R = _
                  rw [HJ.out, hd, Q.nxtGo, if_neg (by omega), if_neg (by omega)]
                  rfl
                have y3 : ¬ (s[k + j].toNat : Int) < l := by omega
                have y4 : ¬ (g : Int) < s[k + j].toNat := by omega
                clear HJ hd
                go_wp2
                go_round
                case rel => exact ⟨j + 1, 128, 191, by omega, by omega, by omega, by omega, rfl, rfl, by go_num, HN⟩
                case measure => simp [RowKit.intOf]; omega
          · have hd := drop_endW s (k + j) (by omega)
            have hfin : R = (j, false) := by
              rw [HJ.out, hd, Q.nxtGo, if_neg (by omega)]
            subst hfin
            have y2 : (s.size : Int) ≤ (k : Int) + j := by omega
            clear HJ hd
            go_wp2
            go_ret2
            exact ⟨ret_ibW (by simp) rfl, rfl⟩
        · have hfin : R = (n, true) := by
            rw [HJ.out]
            cases s.data.toList.drop (k + j) <;> rw [Q.nxtGo, if_pos (by omega)]
          subst hfin
          have y1 : ¬ (j : Int) < n := by omega
          clear HJ
          go_wp2
          go_ret2
          exact ⟨ret_ibW (by simp) rfl, rfl⟩
  · have hd := drop_endW s k (by omega)
    rw [hd]
    have z0 : ¬ (k : Int) < s.size := by omega
    have z1 : (s.size : Int) ≤ k := by omega
    clear hd
    go_enter Tryz.func98, Tryz.ntmps98
    go_wp2
    go_ret2
    exact ⟨ret_ibW (by simp [Q.nxt]) rfl, rfl⟩
end Go.Proofs.YtpmhdcmmlkjjmaaGreatDoor
/- The library's contracts, laid at this program: strings.Builder's writers. -/
namespace Go.Proofs
open Go.Shelf Go.RowKit
def Tryz.lays168_ren : Go.Shelf.Ren := ⟨fun | 168 => 176 | 240 => 105 | 242 => 186 | 276 => 128 | 278 => 190 | n => n, fun | 0 => 0 | 3 => 3 | 4 => 4 | 5 => 5 | 9 => 9 | 20 => 20 | 21 => 21 | 37 => 28 | 46 => 95 | 51 => 127 | 70 => 109 | 72 => 111 | 75 => 114 | 80 => 85 | 164 => 158 | n => n, fun | n => n⟩
theorem Tryz.lays168 : Go.Proofs.Lays.n168 Tryz.prog Tryz.lays168_ren := {
  mixed := by kernel_rfl
  f168 := Tryz.func176.trans (congrArg some (by kernel_rfl))
  f240 := Tryz.func105.trans (congrArg some (by kernel_rfl))
  f242 := Tryz.func186.trans (congrArg some (by kernel_rfl))
  f276 := Tryz.func128.trans (congrArg some (by kernel_rfl))
  f278 := Tryz.func190.trans (congrArg some (by kernel_rfl))
  t0 := Tryz.underlying0
  a0 := Tryz.isAgg0
  z0 := Tryz.sizeOf0
  v0 := Tryz.zeroValue0
  t3 := Tryz.underlying3
  a3 := Tryz.isAgg3
  z3 := Tryz.sizeOf3
  v3 := Tryz.zeroValue3
  t4 := Tryz.underlying4
  a4 := Tryz.isAgg4
  z4 := Tryz.sizeOf4
  v4 := Tryz.zeroValue4
  t5 := Tryz.underlying5
  a5 := Tryz.isAgg5
  z5 := Tryz.sizeOf5
  v5 := Tryz.zeroValue5
  t9 := Tryz.underlying9
  a9 := Tryz.isAgg9
  z9 := Tryz.sizeOf9
  v9 := Tryz.zeroValue9
  t20 := Tryz.underlying20
  a20 := Tryz.isAgg20
  z20 := Tryz.sizeOf20
  v20 := Tryz.zeroValue20
  t21 := Tryz.underlying21
  a21 := Tryz.isAgg21
  z21 := Tryz.sizeOf21
  v21 := Tryz.zeroValue21
  t37 := Tryz.underlying28
  a37 := Tryz.isAgg28
  z37 := Tryz.sizeOf28
  v37 := Tryz.zeroValue28
  t46 := Tryz.underlying95
  a46 := Tryz.isAgg95
  z46 := Tryz.sizeOf95
  v46 := Tryz.zeroValue95
  t51 := Tryz.underlying127
  a51 := Tryz.isAgg127
  z51 := Tryz.sizeOf127
  v51 := Tryz.zeroValue127
  t70 := Tryz.underlying109
  a70 := Tryz.isAgg109
  z70 := Tryz.sizeOf109
  v70 := Tryz.zeroValue109
  t72 := Tryz.underlying111
  a72 := Tryz.isAgg111
  z72 := Tryz.sizeOf111
  v72 := Tryz.zeroValue111
  t75 := Tryz.underlying114
  a75 := Tryz.isAgg114
  z75 := Tryz.sizeOf114
  v75 := Tryz.zeroValue114
  t164 := Tryz.underlying158
  a164 := Tryz.isAgg158
  z164 := Tryz.sizeOf158
  v164 := Tryz.zeroValue158 }
theorem Tryz.lays168X : Builder.Extra Tryz.prog Tryz.lays168_ren := {
  sizeBuilder := by kernel_rfl
  liesBuilder := by kernel_rfl
  t5 := Tryz.underlying5
  a5 := Tryz.isAgg5
  z5 := Tryz.sizeOf5
  v5 := Tryz.zeroValue5
  infoByte := by kernel_rfl
  cellsByte := by kernel_rfl
  sizeByte := by kernel_rfl
  neB5 := by decide }
def Tryz.lays169_ren : Go.Shelf.Ren := ⟨fun | 169 => 81 | n => n, fun | 0 => 0 | 3 => 3 | 5 => 5 | 9 => 9 | 37 => 28 | 70 => 109 | 72 => 111 | 127 => 144 | n => n, fun | n => n⟩
theorem Tryz.lays169 : Go.Proofs.Lays.n169 Tryz.prog Tryz.lays169_ren := {
  mixed := by kernel_rfl
  f169 := Tryz.func81.trans (congrArg some (by kernel_rfl))
  t0 := Tryz.underlying0
  a0 := Tryz.isAgg0
  z0 := Tryz.sizeOf0
  v0 := Tryz.zeroValue0
  t3 := Tryz.underlying3
  a3 := Tryz.isAgg3
  z3 := Tryz.sizeOf3
  v3 := Tryz.zeroValue3
  t9 := Tryz.underlying9
  a9 := Tryz.isAgg9
  z9 := Tryz.sizeOf9
  v9 := Tryz.zeroValue9
  t37 := Tryz.underlying28
  a37 := Tryz.isAgg28
  z37 := Tryz.sizeOf28
  v37 := Tryz.zeroValue28
  t70 := Tryz.underlying109
  a70 := Tryz.isAgg109
  z70 := Tryz.sizeOf109
  v70 := Tryz.zeroValue109
  t72 := Tryz.underlying111
  a72 := Tryz.isAgg111
  z72 := Tryz.sizeOf111
  v72 := Tryz.zeroValue111
  t127 := Tryz.underlying144
  a127 := Tryz.isAgg144
  z127 := Tryz.sizeOf144
  v127 := Tryz.zeroValue144 }
theorem Tryz.lays169X : Builder.Extra Tryz.prog Tryz.lays169_ren := {
  sizeBuilder := by kernel_rfl
  liesBuilder := by kernel_rfl
  t5 := Tryz.underlying5
  a5 := Tryz.isAgg5
  z5 := Tryz.sizeOf5
  v5 := Tryz.zeroValue5
  infoByte := by kernel_rfl
  cellsByte := by kernel_rfl
  sizeByte := by kernel_rfl
  neB5 := by decide }
end Go.Proofs
/- Contracts: writeByte, Size, Quote. -/
namespace Go.Proofs.YtpmhdcmmlkjjmaaGreatDoor
open Go.RowKit Go.Lib
theorem LetTab.below {B : Nat} {w w' : World} (h : LetTab w) (hb : Below B w w') (hB : 9 < B) : LetTab w' :=
  fun c hc => (hb.cell (p := ⟨4, c, none⟩) (by show 4 < B; omega)).trans (h c hc)
end Go.Proofs.YtpmhdcmmlkjjmaaGreatDoor
/- Contracts: Valid, Size, Quote. -/
namespace Go.Proofs.YtpmhdcmmlkjjmaaGreatDoor
open Go.RowKit Go.Lib
theorem utab_below {B : Nat} {w w' : World} (h : Utf8Tabs 1 2 w) (hb : Below B w w') (hB : 2 < B) : Utf8Tabs 1 2 w' :=
  ⟨fun c hc => (hb.cell (p := ⟨1, c, none⟩) (by show 1 < B; omega)).trans (h.1 c hc), fun i hi => ⟨(hb.cell (p := ⟨2, 2 * i, none⟩) hB).trans (h.2 i hi).1, (hb.cell (p := ⟨2, 2 * i + 1, none⟩) hB).trans (h.2 i hi).2⟩⟩
end Go.Proofs.YtpmhdcmmlkjjmaaGreatDoor
