/- joined: WalksB WalksD -/
import Derived.Test.YtjgbjhahmgegiaaGreatDoorG9
/- Contracts: the document's Next and Valid. -/
set_option linter.unusedSimpArgs false
set_option linter.unusedVariables false
namespace Go.Proofs.YtjgbjhahmgegiaaGreatDoor
open Go.RowKit Go.Lib
set_option maxRecDepth 100000 in
set_option maxHeartbeats 2000000 in
theorem next_any (s : ByteArray) (a : Int) (k : Nat) (hak : a = k) (hk : k ≤ s.size) (hs : s.size ≤ 140737488351232) (w : World) :
    Calls Tryz.prog 108 #[.string s, .int .i64 a] w fun e w' => e = .returned (.tuple #[.int .i64 (k + (Q.nxt (s.data.toList.drop k)).1 : Int), .bool (Q.nxt (s.data.toList.drop k)).2]) ∧ w' = w := by
  subst hak
  by_cases h0 : k < s.size
  · have z0 : (k : Int) < s.size := by omega
    have hd := drop_cons s k h0
    have cb := bounds_any s[k].toNat s[k].toNat_lt w
    have hn4 := Q.bnd_le s[k].toNat
    have hR : Q.nxt (s.data.toList.drop k) = if (Q.bnd s[k].toNat).1 = 0 then (0, false) else Q.nxtGo (Q.bnd s[k].toNat).1 1 (Q.bnd s[k].toNat).2.1 (Q.bnd s[k].toNat).2.2 (s.data.toList.drop (k + 1)) := by
      rw [hd]; rfl
    generalize hR0 : Q.nxt (s.data.toList.drop k) = R at *
    have hlo : (Q.bnd s[k].toNat).2.1 < 256 ∧ (Q.bnd s[k].toNat).2.2 < 256 := by
      unfold Q.bnd; repeat' split
      all_goals simp
    generalize Q.bnd s[k].toNat = B at *
    obtain ⟨n, lo, hi⟩ := B
    simp only at cb hn4 hR hlo
    clear hd hR0
    by_cases hz : n = 0
    · subst hz
      rw [if_pos rfl] at hR
      subst hR
      go_enter Tryz.func108, Tryz.ntmps108
      go_wp2_with (go_at_call 135; refine cb.mono ?_; rintro e w' ⟨rfl, rfl⟩)
      go_ret2
      exact ⟨ret_ib (by simp) rfl, rfl⟩
    · rw [if_neg hz] at hR
      have HR : Hid (R = Q.nxtGo n 1 lo hi (s.data.toList.drop (k + 1))) := hR
      clear hR
      have bz : ((n : Int) == 0) = false := by rw [beq_eq_false_iff_ne]; omega
      go_enter Tryz.func108, Tryz.ntmps108
      go_wp2_with (go_at_call 135; refine cb.mono ?_; rintro e w' ⟨rfl, rfl⟩)
      go_loop [7, 8, 9] (fun lo' hi' j' => ∃ j l g : Nat, 1 ≤ j ∧ j ≤ n ∧ l < 256 ∧ g < 256 ∧ lo' = .int .u8 l ∧ hi' = .int .u8 g ∧ j' = .int .i64 j ∧ Hid (R = Q.nxtGo n j l g (s.data.toList.drop (k + j)))) (fun _ _ j' => n - (RowKit.intOf j').toNat)
      case atStart => exact ⟨1, lo, hi, by omega, by omega, hlo.1, hlo.2, rfl, rfl, rfl, HR⟩
      case round =>
        obtain ⟨j, l, g, hj1, hj2, hl, hg, rfl, rfl, rfl, HJ⟩ := hrel
        clear HR hlo cb
        by_cases hjn : j < n
        · have y1 : (j : Int) < n := by omega
          by_cases hend : k + j < s.size
          · have y2 : ((k : Int) + j) < s.size := by omega
            have hd := drop_cons s (k + j) hend
            by_cases c1 : s[k + j].toNat < l
            · have hfin : R = (j, false) := by
                rw [HJ.out, hd, Q.nxtGo, if_neg (by omega), if_pos (Or.inl c1)]
              subst hfin
              have y3 : (s[k + j].toNat : Int) < l := by omega
              clear HJ hd
              go_wp2
              go_ret2
              exact ⟨ret_ib (by simp) rfl, rfl⟩
            · by_cases c2 : g < s[k + j].toNat
              · have hfin : R = (j, false) := by
                  rw [HJ.out, hd, Q.nxtGo, if_neg (by omega), if_pos (Or.inr c2)]
                subst hfin
                have y3 : ¬ (s[k + j].toNat : Int) < l := by omega
                have y4 : (g : Int) < s[k + j].toNat := by omega
                clear HJ hd
                go_wp2
                go_ret2
                exact ⟨ret_ib (by simp) rfl, rfl⟩
              · have HN : Hid (R = Q.nxtGo n (j + 1) 128 191 (s.data.toList.drop (k + (j + 1)))) := by
                  show R = _
                  rw [HJ.out, hd, Q.nxtGo, if_neg (by omega), if_neg (by omega)]
                  rfl
                have y3 : ¬ (s[k + j].toNat : Int) < l := by omega
                have y4 : ¬ (g : Int) < s[k + j].toNat := by omega
                clear HJ hd
                go_wp2
                go_round
                case rel => exact ⟨j + 1, 128, 191, by omega, by omega, by omega, by omega, rfl, rfl, by go_num, HN⟩
                case measure => simp [RowKit.intOf]; omega
          · have hd := drop_end s (k + j) (by omega)
            have hfin : R = (j, false) := by
              rw [HJ.out, hd, Q.nxtGo, if_neg (by omega)]
            subst hfin
            have y2 : (s.size : Int) ≤ (k : Int) + j := by omega
            clear HJ hd
            go_wp2
            go_ret2
            exact ⟨ret_ib (by simp) rfl, rfl⟩
        · have hfin : R = (n, true) := by
            rw [HJ.out]
            cases s.data.toList.drop (k + j) <;> rw [Q.nxtGo, if_pos (by omega)]
          subst hfin
          have y1 : ¬ (j : Int) < n := by omega
          clear HJ
          go_wp2
          go_ret2
          exact ⟨ret_ib (by simp) rfl, rfl⟩
  · have hd := drop_end s k (by omega)
    rw [hd]
    have z0 : ¬ (k : Int) < s.size := by omega
    have z1 : (s.size : Int) ≤ k := by omega
    clear hd
    go_enter Tryz.func108, Tryz.ntmps108
    go_wp2
    go_ret2
    exact ⟨ret_ib (by simp [Q.nxt]) rfl, rfl⟩
set_option maxRecDepth 100000 in
set_option maxHeartbeats 2000000 in
theorem refValid_any (s : ByteArray) (hs : s.size ≤ 140737488351232) (w : World) :
    Calls Tryz.prog 76 #[.string s] w fun e w' => e = .returned (.bool (Lib.validD s.data.toList)) ∧ w' = w := by
  generalize hV : Lib.validD s.data.toList = V
  have HV : Hid (Lib.validD s.data.toList = V) := hV
  clear hV
  go_enter Tryz.func76, Tryz.ntmps76
  go_wp2
  go_loop [3] (fun a => ∃ k : Nat, k ≤ s.size ∧ a = .int .i64 k ∧ Hid (Lib.validD (s.data.toList.drop k) = V)) (fun a => s.size - (RowKit.intOf a).toNat)
  case atStart => exact ⟨0, by omega, rfl, HV⟩
  case round =>
    obtain ⟨k, hk, rfl, HK⟩ := hrel
    by_cases hlt : k < s.size
    · have y1 : (k : Int) < s.size := by omega
      have hne : s.data.toList.drop k ≠ [] := by rw [drop_cons s k hlt]; simp
      have hst := Q.valid_step (s.data.toList.drop k) hne
      have hle := Q.nxt_le (s.data.toList.drop k)
      have hlen : (s.data.toList.drop k).length = s.size - k := by simp
      rw [hlen] at hle
      have cn := next_any s k k rfl hk hs w
      have HST : Hid (V = if (Q.nxt (s.data.toList.drop k)).2 then Lib.validD (s.data.toList.drop (k + (Q.nxt (s.data.toList.drop k)).1)) else false) := by
        show V = _
        rw [← HK.out, hst, List.drop_drop]
      clear hst hne hlen HK HV
      generalize Q.nxt (s.data.toList.drop k) = R at *
      obtain ⟨m, b⟩ := R
      simp only at hle cn
      cases b
      · have hfin : V = false := by rw [HST.out]; rfl
        subst hfin
        clear HST
        go_wp2_with (go_at_call 108; refine cn.mono ?_; rintro e w' ⟨rfl, rfl⟩)
        go_ret
        exact ⟨rfl, rfl⟩
      · have hm := hle.2.2 rfl
        have HN : Hid (Lib.validD (s.data.toList.drop (k + m)) = V) := by
          show _ = V
          rw [HST.out]; rfl
        clear HST
        go_wp2_with (go_at_call 108; refine cn.mono ?_; rintro e w' ⟨rfl, rfl⟩)
        go_round
        case rel => exact ⟨k + m, by omega, by go_num, HN⟩
        case measure => simp [RowKit.intOf]; omega
    · have y1 : ¬ (k : Int) < s.size := by omega
      have hfin : V = true := by
        rw [← HK.out, drop_end s k (by omega)]
        rfl
      subst hfin
      clear HK HV
      go_wp2
      go_ret
      exact ⟨rfl, rfl⟩
end Go.Proofs.YtjgbjhahmgegiaaGreatDoor
/- Contracts: Valid, Size, Quote. -/
namespace Go.Proofs.YtjgbjhahmgegiaaGreatDoor
open Go.RowKit Go.Lib
theorem utab_below {B : Nat} {w w' : World} (h : Utf8Tabs 0 1 w) (hb : Below B w w') (hB : 1 < B) : Utf8Tabs 0 1 w' :=
  ⟨fun c hc => (hb.cell (p := ⟨0, c, none⟩) (by show 0 < B; omega)).trans (h.1 c hc), fun i hi => ⟨(hb.cell (p := ⟨1, 2 * i, none⟩) hB).trans (h.2 i hi).1, (hb.cell (p := ⟨1, 2 * i + 1, none⟩) hB).trans (h.2 i hi).2⟩⟩
set_option maxHeartbeats 400000 in
theorem valid_any (s : ByteArray) (w : World) (hs : s.size ≤ 140737488351232) (hU : Utf8Tabs 0 1 w) :
    Calls Tryz.prog 71 #[.string s] w fun e w' => e = .returned (.bool (validD s.data.toList)) ∧ Below w.heap.size w w' := by
  have c := validString_any s w (by omega) hU
  generalize validD s.data.toList = V at *
  clear hU
  go_enter Tryz.func71, Tryz.ntmps71
  go_wp2_with (go_at_call 83; refine c.mono ?_; rintro e w' ⟨rfl, hb⟩)
  go_ret
  exact ⟨rfl, hb⟩
theorem alloc_last (w : World) (o : Obj) : (w.alloc o).heap[w.heap.size]? = some o := by
  show (w.heap.push o)[w.heap.size]? = some o
  simp
end Go.Proofs.YtjgbjhahmgegiaaGreatDoor
