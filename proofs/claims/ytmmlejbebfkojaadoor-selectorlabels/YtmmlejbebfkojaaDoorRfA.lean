import Derived.Test.YtmmlejbebfkojaaDoorRfP
/- freeholdref02: more, well, Utf. -/
set_option linter.unusedSimpArgs false
set_option linter.unusedVariables false
namespace Go.Proofs.YtmmlejbebfkojaaDoor
open Go.RowKit Go.Lib
def moreS (s : ByteArray) (i lo hi : Nat) : Bool := decide (∃ h : i < s.size, lo ≤ s[i].toNat ∧ s[i].toNat ≤ hi)
def SameB (r : Bool) (w : World) (e : Ending) (w' : World) : Prop := e = .returned (.bool r) ∧ w' = w
def SameN (r : Nat) (w : World) (e : Ending) (w' : World) : Prop := e = .returned (.int .i64 (r : Int)) ∧ w' = w
set_option maxHeartbeats 4000000 in
set_option maxRecDepth 100000 in
theorem more_any (s : ByteArray) (i lo hi : Nat) (w : World) (hs : s.size ≤ 281474976710656) (hi0 : i ≤ 281474976710660) (hlo : lo ≤ 255) (hhi : hi ≤ 255) :
    Calls Tryd.prog 38 #[.string s, .int .i64 (i : Int), .int .u8 (lo : Int), .int .u8 (hi : Int)] w (SameB (moreS s i lo hi) w) := by
  by_cases hi1 : i < s.size
  · have y1 : (i : Int) < s.size := by omega
    by_cases h2 : lo ≤ s[i].toNat
    · have y2 : (lo : Int) ≤ (s[i].toNat : Int) := by omega
      by_cases h3 : s[i].toNat ≤ hi
      · have y3 : (s[i].toNat : Int) ≤ hi := by omega
        have HF : Hid (moreS s i lo hi = true) := by show _ = _; simp [moreS, hi1, h2, h3]
        go_enter Tryd.func38, Tryd.ntmps38
        go_wp2
        go_ret
        exact ⟨by rw [HF.out]; simp_all, rfl⟩
      · have y3 : ¬ (s[i].toNat : Int) ≤ hi := by omega
        have HF : Hid (moreS s i lo hi = false) := by show _ = _; simp [moreS, hi1, h3]
        go_enter Tryd.func38, Tryd.ntmps38
        go_wp2
        go_ret
        exact ⟨by rw [HF.out]; simp_all, rfl⟩
    · have y2 : ¬ (lo : Int) ≤ (s[i].toNat : Int) := by omega
      have HF : Hid (moreS s i lo hi = false) := by show _ = _; simp [moreS, hi1, h2]
      go_enter Tryd.func38, Tryd.ntmps38
      go_wp2
      go_ret
      exact ⟨by rw [HF.out]; simp_all, rfl⟩
  · have y1 : ¬ (i : Int) < s.size := by omega
    have HF : Hid (moreS s i lo hi = false) := by show _ = _; simp [moreS, hi1]
    go_enter Tryd.func38, Tryd.ntmps38
    go_wp2
    go_ret
    exact ⟨by rw [HF.out]; simp_all, rfl⟩
set_option maxHeartbeats 8000000 in
set_option maxRecDepth 100000 in
theorem well_any (s : ByteArray) (k : Nat) (w : World) (hk : k < s.size) (hs : s.size ≤ 281474976710656) :
    Calls Tryd.prog 37 #[.string s, .int .i64 (k : Int)] w (SameN (wellC s[k].toNat (moreS s (k + 1) 128 191) (moreS s (k + 1) 128 191 && moreS s (k + 2) 128 191) (moreS s (k + 1) 128 191 && moreS s (k + 2) 128 191 && moreS s (k + 3) 128 191) (s.data.toList.getD (k + 1) 0).toNat) w) := by
  have y1 : (k : Int) < s.size := by omega
  have c1 : ((k + 1 : Nat) : Int) = (k : Int) + 1 := by omega
  have c2 : ((k + 2 : Nat) : Int) = (k : Int) + 2 := by omega
  have c3 : ((k + 3 : Nat) : Int) = (k : Int) + 3 := by omega
  have m1 := more_any s (k + 1) 128 191 w hs (by omega) (by omega) (by omega)
  have m2 := more_any s (k + 2) 128 191 w hs (by omega) (by omega) (by omega)
  have m3 := more_any s (k + 3) 128 191 w hs (by omega) (by omega) (by omega)
  rw [c1] at m1
  rw [c2] at m2
  rw [c3] at m3
  have hin : moreS s (k + 1) 128 191 = true → k + 1 < s.size := fun h => (of_decide_eq_true h).1
  obtain ⟨RR, hR⟩ : ∃ RR, RR = wellC s[k].toNat (moreS s (k + 1) 128 191) (moreS s (k + 1) 128 191 && moreS s (k + 2) 128 191) (moreS s (k + 1) 128 191 && moreS s (k + 2) 128 191 && moreS s (k + 3) 128 191) (s.data.toList.getD (k + 1) 0).toNat := ⟨_, rfl⟩
  rw [← hR]
  generalize moreS s (k + 1) 128 191 = T2 at *
  generalize moreS s (k + 2) 128 191 = T3 at *
  generalize moreS s (k + 3) 128 191 = T4 at *
  have hc := s[k].toNat_lt
  cases T2
  · have HR : Hid (RR = wellC s[k].toNat false false false 0) := by show _ = _; rw [hR]; simp [wellC]
    clear hR hin
    go_enter Tryd.func37, Tryd.ntmps37
    go_wp2_with fail
    refine m1.mono ?_
    rintro e w1 ⟨rfl, rfl⟩
    go_wp2_with fail
    all_goals go_ret
    all_goals refine ⟨?_, rfl⟩
    all_goals show Ending.returned (Value.int .i64 _) = Ending.returned (Value.int .i64 _)
    all_goals refine congrArg (fun r => Ending.returned (Value.int .i64 r)) ?_
    all_goals rw [HR.out]
    all_goals simp only [wellC, and_true, true_and, and_false, false_and, if_false, Bool.false_eq_true]
    all_goals (repeat' split)
    all_goals first | rfl | (exfalso; omega)
  have hk1 := hin rfl
  have y2 : (k : Int) + 1 < s.size := by omega
  have eb : (s.data.toList.getD (k + 1) 0) = s[k + 1] := by rw [List.getD, List.getElem?_eq_getElem (by simpa using hk1)]; rfl
  rw [eb] at hR
  clear eb hin
  have hb := s[k + 1].toNat_lt
  cases T3
  · have HR : Hid (RR = wellC s[k].toNat true false false s[k + 1].toNat) := by show _ = _; rw [hR]; simp
    clear hR
    go_enter Tryd.func37, Tryd.ntmps37
    go_wp2_with fail
    refine m1.mono ?_
    rintro e w1 ⟨rfl, rfl⟩
    go_wp2_with fail
    refine m2.mono ?_
    rintro e w1 ⟨rfl, rfl⟩
    go_wp2_with fail
    all_goals go_ret
    all_goals refine ⟨?_, rfl⟩
    all_goals show Ending.returned (Value.int .i64 _) = Ending.returned (Value.int .i64 _)
    all_goals refine congrArg (fun r => Ending.returned (Value.int .i64 r)) ?_
    all_goals rw [HR.out]
    all_goals simp only [wellC, and_true, true_and, and_false, false_and, if_false, Bool.false_eq_true]
    all_goals (repeat' split)
    all_goals first | rfl | (exfalso; omega)
  have HR : Hid (RR = wellC s[k].toNat true true T4 s[k + 1].toNat) := by show _ = _; rw [hR]; simp
  clear hR
  go_enter Tryd.func37, Tryd.ntmps37
  go_wp2_with fail
  refine m1.mono ?_
  rintro e w1 ⟨rfl, rfl⟩
  go_wp2_with fail
  refine m2.mono ?_
  rintro e w1 ⟨rfl, rfl⟩
  go_wp2_with fail
  refine m3.mono ?_
  rintro e w1 ⟨rfl, rfl⟩
  cases T4
  · go_wp2_with fail
    all_goals go_ret
    all_goals refine ⟨?_, rfl⟩
    all_goals show Ending.returned (Value.int .i64 _) = Ending.returned (Value.int .i64 _)
    all_goals refine congrArg (fun r => Ending.returned (Value.int .i64 r)) ?_
    all_goals rw [HR.out]
    all_goals simp only [wellC, and_true, true_and, and_false, false_and, if_false, Bool.false_eq_true]
    all_goals (repeat' split)
    all_goals first | rfl | (exfalso; omega)
  · go_wp2_with fail
    all_goals go_ret
    all_goals refine ⟨?_, rfl⟩
    all_goals show Ending.returned (Value.int .i64 _) = Ending.returned (Value.int .i64 _)
    all_goals refine congrArg (fun r => Ending.returned (Value.int .i64 r)) ?_
    all_goals rw [HR.out]
    all_goals simp only [wellC, and_true, true_and, and_false, false_and, if_false, Bool.false_eq_true]
    all_goals (repeat' split)
    all_goals first | rfl | (exfalso; omega)
end Go.Proofs.YtmmlejbebfkojaaDoor
