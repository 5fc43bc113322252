import Derived.Test.YtagjbphadakifaaDoorTrmA
import Derived.Test.YtagjbphadakifaaDoorUtf
import Derived.WalkMore
/- the document's text strings: bounds, Next, Valid. -/
set_option linter.unusedSimpArgs false
set_option linter.unusedVariables false
namespace Go.Proofs.YtagjbphadakifaaDoor
open Go.RowKit Go.Lib
set_option maxHeartbeats 1000000 in
theorem bounds_any (n : Nat) (hn : n < 256) (w : World) :
    Calls Tryd.prog 96 #[.int .u8 n] w fun e w' => e = .returned (.tuple #[.int .i64 (Q.bnd n).1, .int .u8 (Q.bnd n).2.1, .int .u8 (Q.bnd n).2.2]) ∧ w' = w := by
  have key : ∀ a b c : Nat, Q.bnd n = (a, b, c) → (Calls Tryd.prog 96 #[.int .u8 n] w fun e w' => e = .returned (.tuple #[.int .i64 a, .int .u8 b, .int .u8 c]) ∧ w' = w) → Calls Tryd.prog 96 #[.int .u8 n] w fun e w' => e = .returned (.tuple #[.int .i64 (Q.bnd n).1, .int .u8 (Q.bnd n).2.1, .int .u8 (Q.bnd n).2.2]) ∧ w' = w := by
    intro a b c e h
    rw [e]
    exact h
  have c9 : n < 128 ∨ (128 ≤ n ∧ n < 194) ∨ (194 ≤ n ∧ n < 224) ∨ n = 224 ∨ n = 237 ∨ (224 < n ∧ n < 240 ∧ n ≠ 237) ∨ n = 240 ∨ n = 244 ∨ (240 < n ∧ n < 244) ∨ 244 < n := by omega
  rcases c9 with h | h | h | h | h | h | h | h | h | h
  case inr.inr.inr.inl => subst h; refine key 3 160 191 (by decide) ?_; go_enter Tryd.func96, Tryd.ntmps96; go_wp2; go_ret3; exact ⟨rfl, rfl⟩
  case inr.inr.inr.inr.inl => subst h; refine key 3 128 159 (by decide) ?_; go_enter Tryd.func96, Tryd.ntmps96; go_wp2; go_ret3; exact ⟨rfl, rfl⟩
  case inr.inr.inr.inr.inr.inr.inl => subst h; refine key 4 144 191 (by decide) ?_; go_enter Tryd.func96, Tryd.ntmps96; go_wp2; go_ret3; exact ⟨rfl, rfl⟩
  case inr.inr.inr.inr.inr.inr.inr.inl => subst h; refine key 4 128 143 (by decide) ?_; go_enter Tryd.func96, Tryd.ntmps96; go_wp2; go_ret3; exact ⟨rfl, rfl⟩
  · refine key 1 0 0 (by simp [Q.bnd, h]) ?_
    have z1 : (n : Int) < 128 := by omega
    go_enter Tryd.func96, Tryd.ntmps96
    go_wp2
    go_ret3
    exact ⟨rfl, rfl⟩
  all_goals
    have z1 : ¬ (n : Int) < 128 := by omega
    have b1 : ((n : Int) == 224) = false := by rw [beq_eq_false_iff_ne]; omega
    have b2 : ((n : Int) == 237) = false := by rw [beq_eq_false_iff_ne]; omega
    have b3 : ((n : Int) == 240) = false := by rw [beq_eq_false_iff_ne]; omega
    have b4 : ((n : Int) == 244) = false := by rw [beq_eq_false_iff_ne]; omega
  · refine key 0 0 0 ?_ ?_
    · unfold Q.bnd; repeat' split
      all_goals first | rfl | (exfalso; omega)
    have d1 : ¬ (194 : Int) ≤ n := by omega
    have d2 : ¬ (224 : Int) < n := by omega
    have d3 : ¬ (240 : Int) < n := by omega
    go_enter Tryd.func96, Tryd.ntmps96
    go_wp2
    go_ret3
    exact ⟨rfl, rfl⟩
  · refine key 2 128 191 ?_ ?_
    · unfold Q.bnd; repeat' split
      all_goals first | rfl | (exfalso; omega)
    have d1 : (194 : Int) ≤ n := by omega
    have d2 : (n : Int) < 224 := by omega
    go_enter Tryd.func96, Tryd.ntmps96
    go_wp2
    go_ret3
    exact ⟨rfl, rfl⟩
  · refine key 3 128 191 ?_ ?_
    · unfold Q.bnd; repeat' split
      all_goals first | rfl | (exfalso; omega)
    have d1 : (194 : Int) ≤ n := by omega
    have d2 : ¬ (n : Int) < 224 := by omega
    have d3 : (224 : Int) < n := by omega
    have d4 : (n : Int) < 240 := by omega
    go_enter Tryd.func96, Tryd.ntmps96
    go_wp2
    go_ret3
    exact ⟨rfl, rfl⟩
  · refine key 4 128 191 ?_ ?_
    · unfold Q.bnd; repeat' split
      all_goals first | rfl | (exfalso; omega)
    have d1 : (194 : Int) ≤ n := by omega
    have d2 : ¬ (n : Int) < 224 := by omega
    have d3 : (224 : Int) < n := by omega
    have d4 : ¬ (n : Int) < 240 := by omega
    have d5 : (240 : Int) < n := by omega
    have d6 : (n : Int) < 244 := by omega
    go_enter Tryd.func96, Tryd.ntmps96
    go_wp2
    go_ret3
    exact ⟨rfl, rfl⟩
  · refine key 0 0 0 ?_ ?_
    · unfold Q.bnd; repeat' split
      all_goals first | rfl | (exfalso; omega)
    have d1 : (194 : Int) ≤ n := by omega
    have d2 : ¬ (n : Int) < 224 := by omega
    have d3 : (224 : Int) < n := by omega
    have d4 : ¬ (n : Int) < 240 := by omega
    have d5 : (240 : Int) < n := by omega
    have d6 : ¬ (n : Int) < 244 := by omega
    go_enter Tryd.func96, Tryd.ntmps96
    go_wp2
    go_ret3
    exact ⟨rfl, rfl⟩
theorem drop_cons (s : ByteArray) (k : Nat) (h : k < s.size) : s.data.toList.drop k = s[k] :: s.data.toList.drop (k + 1) := by
  rw [List.drop_eq_getElem_cons (by simpa using h)]
  rfl
theorem drop_end (s : ByteArray) (k : Nat) (h : s.size ≤ k) : s.data.toList.drop k = [] := by
  rw [List.drop_eq_nil_iff]
  simpa using h
theorem ret_ib {a b : Int} {p q : Bool} (h : a = b) (h2 : p = q) : Ending.returned (.tuple #[.int .i64 a, .bool p]) = .returned (.tuple #[.int .i64 b, .bool q]) := by rw [h, h2]
set_option maxRecDepth 100000 in
set_option maxHeartbeats 2000000 in
theorem next_any (s : ByteArray) (a : Int) (k : Nat) (hak : a = k) (hk : k ≤ s.size) (hs : s.size ≤ 140737488355328) (w : World) :
    Calls Tryd.prog 78 #[.string s, .int .i64 a] w fun e w' => e = .returned (.tuple #[.int .i64 (k + (Q.nxt (s.data.toList.drop k)).1 : Int), .bool (Q.nxt (s.data.toList.drop k)).2]) ∧ w' = w := by
  subst hak
  by_cases h0 : k < s.size
  · have z0 : (k : Int) < s.size := by omega
    have hd := drop_cons s k h0
    have cb := bounds_any s[k].toNat s[k].toNat_lt w
    have hn4 := Q.bnd_le s[k].toNat
    have hR : Q.nxt (s.data.toList.drop k) = if (Q.bnd s[k].toNat).1 = 0 then (0, false) else Q.nxtGo (Q.bnd s[k].toNat).1 1 (Q.bnd s[k].toNat).2.1 (Q.bnd s[k].toNat).2.2 (s.data.toList.drop (k + 1)) := by
      rw [hd]; rfl
    generalize hR0 : Q.nxt (s.data.toList.drop k) = R at *
    have hlo : (Q.bnd s[k].toNat).2.1 < 256 ∧ (Q.bnd s[k].toNat).2.2 < 256 := by
      unfold Q.bnd; repeat' split
      all_goals simp
    generalize Q.bnd s[k].toNat = B at *
    obtain ⟨n, lo, hi⟩ := B
    simp only at cb hn4 hR hlo
    clear hd hR0
    by_cases hz : n = 0
    · subst hz
      rw [if_pos rfl] at hR
      subst hR
      go_enter Tryd.func78, Tryd.ntmps78
      go_wp2_with (go_at_call 96; refine cb.mono ?_; rintro e w' ⟨rfl, rfl⟩)
      go_ret2
      exact ⟨ret_ib (by simp) rfl, rfl⟩
    · rw [if_neg hz] at hR
      have HR : Hid (R = Q.nxtGo n 1 lo hi (s.data.toList.drop (k + 1))) := hR
      clear hR
      have bz : ((n : Int) == 0) = false := by rw [beq_eq_false_iff_ne]; omega
      go_enter Tryd.func78, Tryd.ntmps78
      go_wp2_with (go_at_call 96; refine cb.mono ?_; rintro e w' ⟨rfl, rfl⟩)
      go_loop [7, 8, 9] (fun lo' hi' j' => ∃ j l g : Nat, 1 ≤ j ∧ j ≤ n ∧ l < 256 ∧ g < 256 ∧ lo' = .int .u8 l ∧ hi' = .int .u8 g ∧ j' = .int .i64 j ∧ Hid (R = Q.nxtGo n j l g (s.data.toList.drop (k + j)))) (fun _ _ j' => n - (RowKit.intOf j').toNat)
      case atStart => exact ⟨1, lo, hi, by omega, by omega, hlo.1, hlo.2, rfl, rfl, rfl, HR⟩
      case round =>
        obtain ⟨j, l, g, hj1, hj2, hl, hg, rfl, rfl, rfl, HJ⟩ := hrel
        clear HR hlo cb
        by_cases hjn : j < n
        · have y1 : (j : Int) < n := by omega
          by_cases hend : k + j < s.size
          · have y2 : ((k : Int) + j) < s.size := by omega
            have hd := drop_cons s (k + j) hend
            by_cases c1 : s[k + j].toNat < l
            · have hfin : R = (j, false) := by
                rw [HJ.out, hd, Q.nxtGo, if_neg (by omega), if_pos (Or.inl c1)]
              subst hfin
              have y3 : (s[k + j].toNat : Int) < l := by omega
              clear HJ hd
              go_wp2
              go_ret2
              exact ⟨ret_ib (by simp) rfl, rfl⟩
            · by_cases c2 : g < s[k + j].toNat
              · have hfin : R = (j, false) := by
                  rw [HJ.out, hd, Q.nxtGo, if_neg (by omega), if_pos (Or.inr c2)]
                subst hfin
                have y3 : ¬ (s[k + j].toNat : Int) < l := by omega
                have y4 : (g : Int) < s[k + j].toNat := by omega
                clear HJ hd
                go_wp2
                go_ret2
                exact ⟨ret_ib (by simp) rfl, rfl⟩
              · have HN : Hid (R = Q.nxtGo n (j + 1) 128 191 (s.data.toList.drop (k + (j + 1)))) := by
                  show R = _
                  rw [HJ.out, hd, Q.nxtGo, if_neg (by omega), if_neg (by omega)]
                  rfl
                have y3 : ¬ (s[k + j].toNat : Int) < l := by omega
                have y4 : ¬ (g : Int) < s[k + j].toNat := by omega
                clear HJ hd
                go_wp2
                go_round
                case rel => exact ⟨j + 1, 128, 191, by omega, by omega, by omega, by omega, rfl, rfl, by go_num, HN⟩
                case measure => simp [RowKit.intOf]; omega
          · have hd := drop_end s (k + j) (by omega)
            have hfin : R = (j, false) := by
              rw [HJ.out, hd, Q.nxtGo, if_neg (by omega)]
            subst hfin
            have y2 : (s.size : Int) ≤ (k : Int) + j := by omega
            clear HJ hd
            go_wp2
            go_ret2
            exact ⟨ret_ib (by simp) rfl, rfl⟩
        · have hfin : R = (n, true) := by
            rw [HJ.out]
            cases s.data.toList.drop (k + j) <;> rw [Q.nxtGo, if_pos (by omega)]
          subst hfin
          have y1 : ¬ (j : Int) < n := by omega
          clear HJ
          go_wp2
          go_ret2
          exact ⟨ret_ib (by simp) rfl, rfl⟩
  · have hd := drop_end s k (by omega)
    rw [hd]
    have z0 : ¬ (k : Int) < s.size := by omega
    have z1 : (s.size : Int) ≤ k := by omega
    clear hd
    go_enter Tryd.func78, Tryd.ntmps78
    go_wp2
    go_ret2
    exact ⟨ret_ib (by simp [Q.nxt]) rfl, rfl⟩
set_option maxRecDepth 100000 in
set_option maxHeartbeats 2000000 in
theorem refValid_any (s : ByteArray) (hs : s.size ≤ 140737488355328) (w : World) :
    Calls Tryd.prog 64 #[.string s] w fun e w' => e = .returned (.bool (Lib.validD s.data.toList)) ∧ w' = w := by
  generalize hV : Lib.validD s.data.toList = V
  have HV : Hid (Lib.validD s.data.toList = V) := hV
  clear hV
  go_enter Tryd.func64, Tryd.ntmps64
  go_wp2
  go_loop [3] (fun a => ∃ k : Nat, k ≤ s.size ∧ a = .int .i64 k ∧ Hid (Lib.validD (s.data.toList.drop k) = V)) (fun a => s.size - (RowKit.intOf a).toNat)
  case atStart => exact ⟨0, by omega, rfl, HV⟩
  case round =>
    obtain ⟨k, hk, rfl, HK⟩ := hrel
    by_cases hlt : k < s.size
    · have y1 : (k : Int) < s.size := by omega
      have hne : s.data.toList.drop k ≠ [] := by rw [drop_cons s k hlt]; simp
      have hst := Q.valid_step (s.data.toList.drop k) hne
      have hle := Q.nxt_le (s.data.toList.drop k)
      have hlen : (s.data.toList.drop k).length = s.size - k := by simp
      rw [hlen] at hle
      have cn := next_any s k k rfl hk hs w
      have HST : Hid (V = if (Q.nxt (s.data.toList.drop k)).2 then Lib.validD (s.data.toList.drop (k + (Q.nxt (s.data.toList.drop k)).1)) else false) := by
        show V = _
        rw [← HK.out, hst, List.drop_drop]
      clear hst hne hlen HK HV
      generalize Q.nxt (s.data.toList.drop k) = R at *
      obtain ⟨m, b⟩ := R
      simp only at hle cn
      cases b
      · have hfin : V = false := by rw [HST.out]; rfl
        subst hfin
        clear HST
        go_wp2_with (go_at_call 78; refine cn.mono ?_; rintro e w' ⟨rfl, rfl⟩)
        go_ret
        exact ⟨rfl, rfl⟩
      · have hm := hle.2.2 rfl
        have HN : Hid (Lib.validD (s.data.toList.drop (k + m)) = V) := by
          show _ = V
          rw [HST.out]; rfl
        clear HST
        go_wp2_with (go_at_call 78; refine cn.mono ?_; rintro e w' ⟨rfl, rfl⟩)
        go_round
        case rel => exact ⟨k + m, by omega, by go_num, HN⟩
        case measure => simp [RowKit.intOf]; omega
    · have y1 : ¬ (k : Int) < s.size := by omega
      have hfin : V = true := by
        rw [← HK.out, drop_end s k (by omega)]
        rfl
      subst hfin
      clear HK HV
      go_wp2
      go_ret
      exact ⟨rfl, rfl⟩
end Go.Proofs.YtagjbphadakifaaDoor
