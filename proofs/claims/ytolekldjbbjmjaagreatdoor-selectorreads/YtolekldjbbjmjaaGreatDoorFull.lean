import Derived.Test.YtolekldjbbjmjaaGreatDoorG13
/- utf8.FullRuneInString; brokenAt. -/
set_option linter.unusedSimpArgs false
set_option linter.unusedVariables false
set_option maxRecDepth 100000
namespace Go.Proofs.YtolekldjbbjmjaaGreatDoor
open Go.RowKit Go.Lib
theorem below_drewN' {B : Nat} {a w : World} (h : Below B a w) : ∀ q, Below B a (w.drewN q)
  | 0 => h
  | q + 1 => (below_drewN' h q).drew
set_option maxHeartbeats 2000000 in
set_option maxRecDepth 100000 in
theorem full_long (s : ByteArray) (w : World) (hU : Utf8Tabs 0 1 w) (h0 : 0 < s.size) (hs : s.size ≤ 281474976710656) (hn : firstT s[0].toNat % 8 ≤ s.size) :
    Calls Tryz.prog 148 #[.string s] w fun e w' => e = .returned (.bool true) ∧ Below w.heap.size w w' := by
  have c0 := hU.1 s[0].toNat s[0].toNat_lt
  have y0 : ((s.size : Int) == 0) = false := by rw [beq_eq_false_iff_ne]; omega
  have y1 : (0 : Int) < s.size := by omega
  have hx : firstT s[0].toNat < 256 := by unfold firstT; repeat' split
                                          all_goals omega
  have ha := and7 ⟨firstT s[0].toNat, hx⟩
  simp only at ha
  have y3 : (s[0].toNat : Int) < 256 := by have := s[0].toNat_lt; omega
  generalize firstT s[0].toNat = X at *
  have y2 : (X : Int) % 8 ≤ s.size := by omega
  clear hU
  go_enter Tryz.func148, Tryz.ntmps148
  go_wp2
  go_ret
  exact ⟨rfl, Below.refl _ _⟩
set_option maxHeartbeats 4000000 in
set_option maxRecDepth 100000 in
theorem full_short (s : ByteArray) (w : World) (hU : Utf8Tabs 0 1 w) (h0 : 0 < s.size) (hs : s.size ≤ 281474976710656) (hn : ¬ firstT s[0].toNat % 8 ≤ s.size) (V : Bool)
    (hV : V = ((decide (1 < s.size) && (decide ((s.data.toList.getD 1 0).toNat < accLo (firstT s[0].toNat / 16)) || decide (accHi (firstT s[0].toNat / 16) < (s.data.toList.getD 1 0).toNat))) || (decide (2 < s.size) && (decide ((s.data.toList.getD 2 0).toNat < 128) || decide (191 < (s.data.toList.getD 2 0).toNat))))) :
    Calls Tryz.prog 148 #[.string s] w fun e w' => e = .returned (.bool V) ∧ Below w.heap.size w w' := by
  have c0 := hU.1 s[0].toNat s[0].toNat_lt
  have y0 : ((s.size : Int) == 0) = false := by rw [beq_eq_false_iff_ne]; omega
  have y1 : (0 : Int) < s.size := by omega
  have hx : firstT s[0].toNat < 256 := by unfold firstT; repeat' split
                                          all_goals omega
  have ha := and7 ⟨firstT s[0].toNat, hx⟩
  simp only at ha
  have y3 : (s[0].toNat : Int) < 256 := by have := s[0].toNat_lt; omega
  generalize firstT s[0].toNat = X at *
  have y2 : ¬ (X : Int) % 8 ≤ s.size := by omega
  have hi16 : X / 16 < 16 := by omega
  have t1 := (hU.2 (X / 16) hi16).1
  have t2 := (hU.2 (X / 16) hi16).2
  rw [Nat.mul_comm] at t1 t2
  have y4 : (X : Int) / 16 < 16 := by omega
  generalize accLo (X / 16) = lo at *
  generalize accHi (X / 16) = hi at *
  clear hU
  by_cases e1 : 1 < s.size
  · have z1 : (1 : Int) < s.size := by omega
    have g1 : s.data.toList.getD 1 0 = s[1] := by
      rw [List.getD_eq_getElem?_getD, List.getElem?_eq_getElem (by simpa using e1)]; rfl
    rw [g1] at hV
    by_cases p1 : s[1].toNat < lo
    · have z3 : (s[1].toNat : Int) < lo := by omega
      obtain rfl : V = true := by rw [hV]; simp [e1, p1]
      clear hV g1
      go_enter Tryz.func148, Tryz.ntmps148
      go_wp2
      go_quiet (fail)
      go_wp2
      go_ret
      exact ⟨rfl, below_drewN' ((Below.refl _ w).alloc (Nat.le_refl _) _) nq⟩
    · have z3 : decide ((s[1].toNat : Int) < lo) = false := by simp; omega
      by_cases p2 : hi < s[1].toNat
      · have z4 : (hi : Int) < s[1].toNat := by omega
        obtain rfl : V = true := by rw [hV]; simp [e1, p2]
        clear hV g1
        go_enter Tryz.func148, Tryz.ntmps148
        go_wp2
        go_quiet (fail)
        go_wp2
        go_ret
        exact ⟨rfl, below_drewN' ((Below.refl _ w).alloc (Nat.le_refl _) _) nq⟩
      · have z4 : decide ((hi : Int) < s[1].toNat) = false := by simp; omega
        by_cases e2 : 2 < s.size
        · have z5 : (2 : Int) < s.size := by omega
          have g2 : s.data.toList.getD 2 0 = s[2] := by
            rw [List.getD_eq_getElem?_getD, List.getElem?_eq_getElem (by simpa using e2)]; rfl
          rw [g2] at hV
          by_cases q1 : s[2].toNat < 128
          · have z6 : (s[2].toNat : Int) < 128 := by omega
            obtain rfl : V = true := by rw [hV]; simp [e2, q1]
            clear hV g1 g2
            go_enter Tryz.func148, Tryz.ntmps148
            go_wp2
            go_quiet (fail)
            go_wp2
            go_ret
            exact ⟨rfl, below_drewN' ((Below.refl _ w).alloc (Nat.le_refl _) _) nq⟩
          · have z6 : ¬ (s[2].toNat : Int) < 128 := by omega
            by_cases q2 : 191 < s[2].toNat
            · have z7 : (191 : Int) < s[2].toNat := by omega
              obtain rfl : V = true := by rw [hV]; simp [e2, q2]
              clear hV g1 g2
              go_enter Tryz.func148, Tryz.ntmps148
              go_wp2
              go_quiet (fail)
              go_wp2
              go_ret
              exact ⟨rfl, below_drewN' ((Below.refl _ w).alloc (Nat.le_refl _) _) nq⟩
            · have z7 : ¬ (191 : Int) < s[2].toNat := by omega
              obtain rfl : V = false := by rw [hV]; simp [p1, p2, q1, q2]
              clear hV g1 g2
              go_enter Tryz.func148, Tryz.ntmps148
              go_wp2
              go_quiet (fail)
              go_wp2
              go_ret
              exact ⟨rfl, below_drewN' ((Below.refl _ w).alloc (Nat.le_refl _) _) nq⟩
        · have z5 : ¬ (2 : Int) < s.size := by omega
          obtain rfl : V = false := by rw [hV]; simp [p1, p2, e2]
          clear hV g1
          go_enter Tryz.func148, Tryz.ntmps148
          go_wp2
          go_quiet (fail)
          go_wp2
          go_ret
          exact ⟨rfl, below_drewN' ((Below.refl _ w).alloc (Nat.le_refl _) _) nq⟩
  · have z1 : decide ((1 : Int) < s.size) = false := by simp; omega
    have z2 : decide ((2 : Int) < s.size) = false := by simp; omega
    have hV' : V = false := by rw [hV]; simp [e1]; omega
    subst hV'
    clear hV
    go_enter Tryz.func148, Tryz.ntmps148
    go_wp2
    go_quiet (fail)
    go_wp2
    go_ret
    exact ⟨rfl, below_drewN' ((Below.refl _ w).alloc (Nat.le_refl _) _) nq⟩
theorem full_any (s : ByteArray) (w : World) (hU : Utf8Tabs 0 1 w) (h0 : 0 < s.size) (hs : s.size ≤ 281474976710656) :
    Calls Tryz.prog 148 #[.string s] w fun e w' => e = .returned (.bool (Q.full s.data.toList)) ∧ Below w.heap.size w w' := by
  have hd := drop_consW s 0 h0
  rw [List.drop_zero] at hd
  have hl : (s.data.toList.drop 1).length + 1 = s.size := by simp; omega
  by_cases hn : firstT s[0].toNat % 8 ≤ s.size
  · have e : Q.full s.data.toList = true := by
      rw [hd, Q.full, hl]; simp [hn]
    rw [e]
    exact full_long s w hU h0 hs hn
  · refine full_short s w hU h0 hs hn _ ?_
    rw [hd, Q.full, hl]
    simp [hn]
end Go.Proofs.YtolekldjbbjmjaaGreatDoor
