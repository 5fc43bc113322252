/- joined: RfP RfA RfB -/
import Derived.Test.YtpmhdcmmlkjjmaaGreatDoorH7
/- The document's way to ask for UTF-8 is the library's. -/
set_option linter.unusedSimpArgs false
set_option linter.unusedVariables false
namespace Go.Proofs.YtpmhdcmmlkjjmaaGreatDoor
open Go.RowKit Go.Lib
def wellC (c : Nat) (two three four : Bool) (b1 : Nat) : Nat :=
  if c < 128 then 1 else if 194 ≤ c ∧ c ≤ 223 ∧ two = true then 2 else if c = 224 ∧ three = true ∧ 160 ≤ b1 then 3 else if c = 237 ∧ three = true ∧ b1 ≤ 159 then 3
  else if 225 ≤ c ∧ c ≤ 239 ∧ c ≠ 237 ∧ three = true then 3 else if c = 240 ∧ four = true ∧ 144 ≤ b1 then 4 else if c = 244 ∧ four = true ∧ b1 ≤ 143 then 4 else if 241 ≤ c ∧ c ≤ 243 ∧ four = true then 4 else 0
def moreL (l : List UInt8) (j : Nat) : Bool := match l[j]? with | some c => decide (128 ≤ c.toNat ∧ c.toNat ≤ 191) | none => false
def tail1 (lo hi : Nat) : List UInt8 → Bool
  | c :: _ => decide (lo ≤ c.toNat ∧ c.toNat ≤ hi)
  | _ => false
def tail2 (lo hi : Nat) : List UInt8 → Bool
  | c :: t => decide (lo ≤ c.toNat ∧ c.toNat ≤ hi) && tail1 128 191 t
  | _ => false
def tail3 (lo hi : Nat) : List UInt8 → Bool
  | c :: t => decide (lo ≤ c.toNat ∧ c.toNat ≤ hi) && tail2 128 191 t
  | _ => false
theorem nxtGo_end (n lo hi : Nat) (t : List UInt8) : Q.nxtGo n n lo hi t = (n, true) := by cases t <;> simp [Q.nxtGo]
theorem go1 (n lo hi : Nat) (t : List UInt8) : (if (Q.nxtGo (n + 1) n lo hi t).2 then (Q.nxtGo (n + 1) n lo hi t).1 else 0) = if tail1 lo hi t then n + 1 else 0 := by
  cases t with
  | nil =>
    have e : Q.nxtGo (n + 1) n lo hi [] = (n, false) := by rw [Q.nxtGo, if_neg (by omega)]
    rw [e]; rfl
  | cons c t =>
    have e : Q.nxtGo (n + 1) n lo hi (c :: t) = if c.toNat < lo ∨ hi < c.toNat then (n, false) else Q.nxtGo (n + 1) (n + 1) 128 191 t := by rw [Q.nxtGo, if_neg (by omega)]
    rw [e, tail1]
    clear e
    by_cases h : c.toNat < lo ∨ hi < c.toNat
    · rw [if_pos h]; simp; omega
    · rw [if_neg h, nxtGo_end]; simp; omega
theorem go2 (n lo hi : Nat) (t : List UInt8) : (if (Q.nxtGo (n + 2) n lo hi t).2 then (Q.nxtGo (n + 2) n lo hi t).1 else 0) = if tail2 lo hi t then n + 2 else 0 := by
  cases t with
  | nil =>
    have e : Q.nxtGo (n + 2) n lo hi [] = (n, false) := by rw [Q.nxtGo, if_neg (by omega)]
    rw [e]; rfl
  | cons c t =>
    have e : Q.nxtGo (n + 2) n lo hi (c :: t) = if c.toNat < lo ∨ hi < c.toNat then (n, false) else Q.nxtGo (n + 2) (n + 1) 128 191 t := by rw [Q.nxtGo, if_neg (by omega)]
    rw [e, tail2]
    clear e
    by_cases h : c.toNat < lo ∨ hi < c.toNat
    · rw [if_pos h]; simp; omega
    · rw [if_neg h]
      have e := go1 (n + 1) 128 191 t
      rw [show n + 1 + 1 = n + 2 by omega] at e
      rw [e]
      have hd : decide (lo ≤ c.toNat ∧ c.toNat ≤ hi) = true := by simp; omega
      rw [hd, Bool.true_and]
theorem go3 (n lo hi : Nat) (t : List UInt8) : (if (Q.nxtGo (n + 3) n lo hi t).2 then (Q.nxtGo (n + 3) n lo hi t).1 else 0) = if tail3 lo hi t then n + 3 else 0 := by
  cases t with
  | nil =>
    have e : Q.nxtGo (n + 3) n lo hi [] = (n, false) := by rw [Q.nxtGo, if_neg (by omega)]
    rw [e]; rfl
  | cons c t =>
    have e : Q.nxtGo (n + 3) n lo hi (c :: t) = if c.toNat < lo ∨ hi < c.toNat then (n, false) else Q.nxtGo (n + 3) (n + 1) 128 191 t := by rw [Q.nxtGo, if_neg (by omega)]
    rw [e, tail3]
    clear e
    by_cases h : c.toNat < lo ∨ hi < c.toNat
    · rw [if_pos h]; simp; omega
    · rw [if_neg h]
      have e := go2 (n + 1) 128 191 t
      rw [show n + 1 + 2 = n + 3 by omega] at e
      rw [e]
      have hd : decide (lo ≤ c.toNat ∧ c.toNat ≤ hi) = true := by simp; omega
      rw [hd, Bool.true_and]
theorem moreL_nil (j : Nat) : moreL [] j = false := by simp [moreL]
theorem moreL_zero (c : UInt8) (t : List UInt8) : moreL (c :: t) 0 = decide (128 ≤ c.toNat ∧ c.toNat ≤ 191) := by simp [moreL]
theorem moreL_succ (c : UInt8) (t : List UInt8) (j : Nat) : moreL (c :: t) (j + 1) = moreL t j := by simp [moreL]
theorem tail1_eq (t : List UInt8) (lo hi : Nat) (h1 : 128 ≤ lo) (h2 : hi ≤ 191) : tail1 lo hi t = (moreL t 0 && decide (lo ≤ (t.getD 0 0).toNat ∧ (t.getD 0 0).toNat ≤ hi)) := by
  cases t with
  | nil => simp [tail1, moreL_nil]
  | cons c t =>
    rw [tail1, moreL_zero, List.getD_cons_zero]
    rw [Bool.eq_iff_iff]; simp; omega
theorem tail2_eq (t : List UInt8) (lo hi : Nat) (h1 : 128 ≤ lo) (h2 : hi ≤ 191) : tail2 lo hi t = (moreL t 0 && moreL t 1 && decide (lo ≤ (t.getD 0 0).toNat ∧ (t.getD 0 0).toNat ≤ hi)) := by
  cases t with
  | nil => simp [tail2, moreL_nil]
  | cons c t =>
    rw [tail2, moreL_zero, moreL_succ, List.getD_cons_zero, tail1_eq t 128 191 (by omega) (by omega)]
    cases t with
    | nil => simp [moreL_nil]
    | cons d t =>
      rw [moreL_zero, List.getD_cons_zero]
      rw [Bool.eq_iff_iff]; simp; omega
theorem tail3_eq (t : List UInt8) (lo hi : Nat) (h1 : 128 ≤ lo) (h2 : hi ≤ 191) : tail3 lo hi t = (moreL t 0 && moreL t 1 && moreL t 2 && decide (lo ≤ (t.getD 0 0).toNat ∧ (t.getD 0 0).toNat ≤ hi)) := by
  cases t with
  | nil => simp [tail3, moreL_nil]
  | cons c t =>
    rw [tail3, moreL_zero, moreL_succ, moreL_succ, List.getD_cons_zero, tail2_eq t 128 191 (by omega) (by omega)]
    cases t with
    | nil => simp [moreL_nil]
    | cons d t =>
      rw [moreL_zero, List.getD_cons_zero]
      generalize moreL (d :: t) 1 = X
      rw [Bool.eq_iff_iff]; simp
      constructor
      · rintro ⟨h1, ⟨h2, h3⟩, h4⟩; exact ⟨⟨⟨by omega, h2⟩, h3⟩, h1⟩
      · rintro ⟨⟨⟨h1, h2⟩, h3⟩, h4⟩; exact ⟨h4, ⟨h2, h3⟩, h2⟩
theorem moreL_bd {t : List UInt8} (h : moreL t 0 = true) : 128 ≤ (t.getD 0 0).toNat ∧ (t.getD 0 0).toNat ≤ 191 := by
  cases t with
  | nil => simp [moreL_nil] at h
  | cons c t => rw [moreL_zero] at h; simpa using h
set_option maxHeartbeats 4000000 in
theorem well_nxt (b : UInt8) (t : List UInt8) : wellC b.toNat (moreL t 0) (moreL t 0 && moreL t 1) (moreL t 0 && moreL t 1 && moreL t 2) (t.getD 0 0).toNat = if (Q.nxt (b :: t)).2 then (Q.nxt (b :: t)).1 else 0 := by
  rw [Q.nxt_cons]
  have hbd := @moreL_bd t
  have g1 := fun lo hi => go1 1 lo hi t
  have g2 := fun lo hi => go2 1 lo hi t
  have g3 := fun lo hi => go3 1 lo hi t
  have e1 := tail1_eq t
  have e2 := tail2_eq t
  have e3 := tail3_eq t
  simp only [Nat.reduceAdd] at g1 g2 g3
  generalize b.toNat = c at *
  generalize (t.getD 0 0).toNat = d at *
  generalize moreL t 0 = T2 at *
  generalize moreL t 1 = T3 at *
  generalize moreL t 2 = T4 at *
  by_cases k1 : c < 128
  · have hb : Q.bnd c = (1, 0, 0) := by unfold Q.bnd; rw [if_pos k1]
    rw [hb]; simp only [nxtGo_end]; simp [wellC, k1]
  by_cases k2 : 194 ≤ c ∧ c < 224
  · have hb : Q.bnd c = (2, 128, 191) := by unfold Q.bnd; rw [if_neg k1, if_pos k2]
    have hw : wellC c T2 (T2 && T3) (T2 && T3 && T4) d = if T2 = true then 2 else 0 := by
      unfold wellC
      rw [if_neg k1]
      cases T2
      · repeat (rw [if_neg (by simp)])
        all_goals rfl
      · rw [if_pos (by simp; omega)]; rfl
    rw [hb, hw]; simp only [g1, e1 128 191 (by omega) (by omega), show ¬ (2 : Nat) = 0 by omega, if_false]
    cases T2
    · rfl
    · have := hbd rfl; simp; omega
  by_cases k3 : c = 224
  · have hb : Q.bnd c = (3, 160, 191) := by unfold Q.bnd; rw [if_neg k1, if_neg k2, if_pos k3]
    rw [hb]; simp only [g2, e2 160 191 (by omega) (by omega), show ¬ (3 : Nat) = 0 by omega, if_false]
    unfold wellC
    cases T2 <;> cases T3 <;> cases T4 <;> simp <;> (try have := hbd rfl) <;> (repeat' split) <;> first | rfl | omega
  by_cases k4 : c = 237
  · have hb : Q.bnd c = (3, 128, 159) := by unfold Q.bnd; rw [if_neg k1, if_neg k2, if_neg k3, if_pos k4]
    rw [hb]; simp only [g2, e2 128 159 (by omega) (by omega), show ¬ (3 : Nat) = 0 by omega, if_false]
    unfold wellC
    cases T2 <;> cases T3 <;> cases T4 <;> simp <;> (try have := hbd rfl) <;> (repeat' split) <;> first | rfl | omega
  by_cases k5 : 224 < c ∧ c < 240
  · have hb : Q.bnd c = (3, 128, 191) := by unfold Q.bnd; rw [if_neg k1, if_neg k2, if_neg k3, if_neg k4, if_pos k5]
    rw [hb]; simp only [g2, e2 128 191 (by omega) (by omega), show ¬ (3 : Nat) = 0 by omega, if_false]
    unfold wellC
    cases T2 <;> cases T3 <;> cases T4 <;> simp <;> (try have := hbd rfl) <;> (repeat' split) <;> first | rfl | omega
  by_cases k6 : c = 240
  · have hb : Q.bnd c = (4, 144, 191) := by unfold Q.bnd; rw [if_neg k1, if_neg k2, if_neg k3, if_neg k4, if_neg k5, if_pos k6]
    rw [hb]; simp only [g3, e3 144 191 (by omega) (by omega), show ¬ (4 : Nat) = 0 by omega, if_false]
    unfold wellC
    cases T2 <;> cases T3 <;> cases T4 <;> simp <;> (try have := hbd rfl) <;> (repeat' split) <;> first | rfl | omega
  by_cases k7 : c = 244
  · have hb : Q.bnd c = (4, 128, 143) := by unfold Q.bnd; rw [if_neg k1, if_neg k2, if_neg k3, if_neg k4, if_neg k5, if_neg k6, if_pos k7]
    rw [hb]; simp only [g3, e3 128 143 (by omega) (by omega), show ¬ (4 : Nat) = 0 by omega, if_false]
    unfold wellC
    cases T2 <;> cases T3 <;> cases T4 <;> simp <;> (try have := hbd rfl) <;> (repeat' split) <;> first | rfl | omega
  by_cases k8 : 240 < c ∧ c < 244
  · have hb : Q.bnd c = (4, 128, 191) := by unfold Q.bnd; rw [if_neg k1, if_neg k2, if_neg k3, if_neg k4, if_neg k5, if_neg k6, if_neg k7, if_pos k8]
    rw [hb]; simp only [g3, e3 128 191 (by omega) (by omega), show ¬ (4 : Nat) = 0 by omega, if_false]
    unfold wellC
    cases T2 <;> cases T3 <;> cases T4 <;> simp <;> (try have := hbd rfl) <;> (repeat' split) <;> first | rfl | omega
  have hb : Q.bnd c = (0, 0, 0) := by unfold Q.bnd; rw [if_neg k1, if_neg k2, if_neg k3, if_neg k4, if_neg k5, if_neg k6, if_neg k7, if_neg k8]
  rw [hb]
  unfold wellC
  simp
  (repeat' split) <;> first | rfl | omega
end Go.Proofs.YtpmhdcmmlkjjmaaGreatDoor
/- freeholdref02: more, well, Utf. -/
set_option maxRecDepth 100000
namespace Go.Proofs.YtpmhdcmmlkjjmaaGreatDoor
open Go.RowKit Go.Lib
def moreS (s : ByteArray) (i lo hi : Nat) : Bool := decide (∃ h : i < s.size, lo ≤ s[i].toNat ∧ s[i].toNat ≤ hi)
def SameB (r : Bool) (w : World) (e : Ending) (w' : World) : Prop := e = .returned (.bool r) ∧ w' = w
def SameN (r : Nat) (w : World) (e : Ending) (w' : World) : Prop := e = .returned (.int .i64 (r : Int)) ∧ w' = w
set_option maxHeartbeats 4000000 in
set_option maxRecDepth 100000 in
theorem more_any (s : ByteArray) (i lo hi : Nat) (w : World) (hs : s.size ≤ 281474976710656) (hi0 : i ≤ 281474976710660) (hlo : lo ≤ 255) (hhi : hi ≤ 255) :
    Calls Tryz.prog 159 #[.string s, .int .i64 (i : Int), .int .u8 (lo : Int), .int .u8 (hi : Int)] w (SameB (moreS s i lo hi) w) := by
  by_cases hi1 : i < s.size
  · have y1 : (i : Int) < s.size := by omega
    by_cases h2 : lo ≤ s[i].toNat
    · have y2 : (lo : Int) ≤ (s[i].toNat : Int) := by omega
      by_cases h3 : s[i].toNat ≤ hi
      · have y3 : (s[i].toNat : Int) ≤ hi := by omega
        have HF : Hid (moreS s i lo hi = true) := by show _ = _; simp [moreS, hi1, h2, h3]
        go_enter Tryz.func159, Tryz.ntmps159
        go_wp2
        go_ret
        exact ⟨by rw [HF.out]; simp_all, rfl⟩
      · have y3 : ¬ (s[i].toNat : Int) ≤ hi := by omega
        have HF : Hid (moreS s i lo hi = false) := by show _ = _; simp [moreS, hi1, h3]
        go_enter Tryz.func159, Tryz.ntmps159
        go_wp2
        go_ret
        exact ⟨by rw [HF.out]; simp_all, rfl⟩
    · have y2 : ¬ (lo : Int) ≤ (s[i].toNat : Int) := by omega
      have HF : Hid (moreS s i lo hi = false) := by show _ = _; simp [moreS, hi1, h2]
      go_enter Tryz.func159, Tryz.ntmps159
      go_wp2
      go_ret
      exact ⟨by rw [HF.out]; simp_all, rfl⟩
  · have y1 : ¬ (i : Int) < s.size := by omega
    have HF : Hid (moreS s i lo hi = false) := by show _ = _; simp [moreS, hi1]
    go_enter Tryz.func159, Tryz.ntmps159
    go_wp2
    go_ret
    exact ⟨by rw [HF.out]; simp_all, rfl⟩
set_option maxHeartbeats 8000000 in
set_option maxRecDepth 100000 in
theorem well_any (s : ByteArray) (k : Nat) (w : World) (hk : k < s.size) (hs : s.size ≤ 281474976710656) :
    Calls Tryz.prog 139 #[.string s, .int .i64 (k : Int)] w (SameN (wellC s[k].toNat (moreS s (k + 1) 128 191) (moreS s (k + 1) 128 191 && moreS s (k + 2) 128 191) (moreS s (k + 1) 128 191 && moreS s (k + 2) 128 191 && moreS s (k + 3) 128 191) (s.data.toList.getD (k + 1) 0).toNat) w) := by
  have y1 : (k : Int) < s.size := by omega
  have c1 : ((k + 1 : Nat) : Int) = (k : Int) + 1 := by omega
  have c2 : ((k + 2 : Nat) : Int) = (k : Int) + 2 := by omega
  have c3 : ((k + 3 : Nat) : Int) = (k : Int) + 3 := by omega
  have m1 := more_any s (k + 1) 128 191 w hs (by omega) (by omega) (by omega)
  have m2 := more_any s (k + 2) 128 191 w hs (by omega) (by omega) (by omega)
  have m3 := more_any s (k + 3) 128 191 w hs (by omega) (by omega) (by omega)
  rw [c1] at m1
  rw [c2] at m2
  rw [c3] at m3
  have hin : moreS s (k + 1) 128 191 = true → k + 1 < s.size := fun h => (of_decide_eq_true h).1
  obtain ⟨RR, hR⟩ : ∃ RR, RR = wellC s[k].toNat (moreS s (k + 1) 128 191) (moreS s (k + 1) 128 191 && moreS s (k + 2) 128 191) (moreS s (k + 1) 128 191 && moreS s (k + 2) 128 191 && moreS s (k + 3) 128 191) (s.data.toList.getD (k + 1) 0).toNat := ⟨_, rfl⟩
  rw [← hR]
  generalize moreS s (k + 1) 128 191 = T2 at *
  generalize moreS s (k + 2) 128 191 = T3 at *
  generalize moreS s (k + 3) 128 191 = T4 at *
  have hc := s[k].toNat_lt
  cases T2
  · have HR : Hid (RR = wellC s[k].toNat false false false 0) := by show _ = _; rw [hR]; simp [wellC]
    clear hR hin
    go_enter Tryz.func139, Tryz.ntmps139
    go_wp2_with fail
    refine m1.mono ?_
    rintro e w1 ⟨rfl, rfl⟩
    go_wp2_with fail
    all_goals go_ret
    all_goals refine ⟨?_, rfl⟩
    all_goals show Ending.returned (Value.int .i64 _) = Ending.returned (Value.int .i64 _)
    all_goals refine congrArg (fun r => Ending.returned (Value.int .i64 r)) ?_
    all_goals rw [HR.out]
    all_goals simp only [wellC, and_true, true_and, and_false, false_and, if_false, Bool.false_eq_true]
    all_goals (repeat' split)
    all_goals first | rfl | (exfalso; omega)
  have hk1 := hin rfl
  have y2 : (k : Int) + 1 < s.size := by omega
  have eb : (s.data.toList.getD (k + 1) 0) = s[k + 1] := by rw [List.getD, List.getElem?_eq_getElem (by simpa using hk1)]; rfl
  rw [eb] at hR
  clear eb hin
  have hb := s[k + 1].toNat_lt
  cases T3
  · have HR : Hid (RR = wellC s[k].toNat true false false s[k + 1].toNat) := by show _ = _; rw [hR]; simp
    clear hR
    go_enter Tryz.func139, Tryz.ntmps139
    go_wp2_with fail
    refine m1.mono ?_
    rintro e w1 ⟨rfl, rfl⟩
    go_wp2_with fail
    refine m2.mono ?_
    rintro e w1 ⟨rfl, rfl⟩
    go_wp2_with fail
    all_goals go_ret
    all_goals refine ⟨?_, rfl⟩
    all_goals show Ending.returned (Value.int .i64 _) = Ending.returned (Value.int .i64 _)
    all_goals refine congrArg (fun r => Ending.returned (Value.int .i64 r)) ?_
    all_goals rw [HR.out]
    all_goals simp only [wellC, and_true, true_and, and_false, false_and, if_false, Bool.false_eq_true]
    all_goals (repeat' split)
    all_goals first | rfl | (exfalso; omega)
  have HR : Hid (RR = wellC s[k].toNat true true T4 s[k + 1].toNat) := by show _ = _; rw [hR]; simp
  clear hR
  go_enter Tryz.func139, Tryz.ntmps139
  go_wp2_with fail
  refine m1.mono ?_
  rintro e w1 ⟨rfl, rfl⟩
  go_wp2_with fail
  refine m2.mono ?_
  rintro e w1 ⟨rfl, rfl⟩
  go_wp2_with fail
  refine m3.mono ?_
  rintro e w1 ⟨rfl, rfl⟩
  cases T4
  · go_wp2_with fail
    all_goals go_ret
    all_goals refine ⟨?_, rfl⟩
    all_goals show Ending.returned (Value.int .i64 _) = Ending.returned (Value.int .i64 _)
    all_goals refine congrArg (fun r => Ending.returned (Value.int .i64 r)) ?_
    all_goals rw [HR.out]
    all_goals simp only [wellC, and_true, true_and, and_false, false_and, if_false, Bool.false_eq_true]
    all_goals (repeat' split)
    all_goals first | rfl | (exfalso; omega)
  · go_wp2_with fail
    all_goals go_ret
    all_goals refine ⟨?_, rfl⟩
    all_goals show Ending.returned (Value.int .i64 _) = Ending.returned (Value.int .i64 _)
    all_goals refine congrArg (fun r => Ending.returned (Value.int .i64 r)) ?_
    all_goals rw [HR.out]
    all_goals simp only [wellC, and_true, true_and, and_false, false_and, if_false, Bool.false_eq_true]
    all_goals (repeat' split)
    all_goals first | rfl | (exfalso; omega)
end Go.Proofs.YtpmhdcmmlkjjmaaGreatDoor
/- freeholdref02: Utf, good. -/
set_option maxRecDepth 100000
namespace Go.Proofs.YtpmhdcmmlkjjmaaGreatDoor
open Go.RowKit Go.Lib
theorem drop_cons' (s : ByteArray) (k : Nat) (h : k < s.size) : s.data.toList.drop k = s[k] :: s.data.toList.drop (k + 1) := by
  rw [List.drop_eq_getElem_cons (by simpa using h)]; rfl
theorem moreS_eq (s : ByteArray) (k j : Nat) : moreS s (k + 1 + j) 128 191 = moreL (s.data.toList.drop (k + 1)) j := by
  unfold moreS moreL
  rw [List.getElem?_drop]
  by_cases h : k + 1 + j < s.size
  · rw [List.getElem?_eq_getElem (by simpa using h)]
    simp only [h, exists_true_left]
    rfl
  · rw [List.getElem?_eq_none (by simpa using h)]
    simp [h]
theorem well_eq (s : ByteArray) (k : Nat) (h : k < s.size) : wellC s[k].toNat (moreS s (k + 1) 128 191) (moreS s (k + 1) 128 191 && moreS s (k + 2) 128 191) (moreS s (k + 1) 128 191 && moreS s (k + 2) 128 191 && moreS s (k + 3) 128 191) (s.data.toList.getD (k + 1) 0).toNat = if (Q.nxt (s.data.toList.drop k)).2 then (Q.nxt (s.data.toList.drop k)).1 else 0 := by
  have e0 := moreS_eq s k 0
  have e1 := moreS_eq s k 1
  have e2 := moreS_eq s k 2
  rw [show k + 1 + 0 = k + 1 by omega] at e0
  rw [show k + 1 + 1 = k + 2 by omega] at e1
  rw [show k + 1 + 2 = k + 3 by omega] at e2
  rw [e0, e1, e2, drop_cons' s k h, ← well_nxt]
  congr 2
  simp [List.getD]
set_option maxHeartbeats 4000000 in
set_option maxRecDepth 100000 in
theorem utf_wide (s : ByteArray) (w : World) (hs : s.size ≤ 281474976710656) : Calls Tryz.prog 120 #[.string s] w (SameB (utfB s) w) := by
  go_enter Tryz.func120, Tryz.ntmps120
  go_wp2_with fail
  go_loopw [3] (fun e wr => ∃ k : Nat, k ≤ s.size ∧ e = .int .i64 (k : Int) ∧ wr = w ∧ Hid (validD s.data.toList = validD (s.data.toList.drop k))) (fun e _ => s.size - (RowKit.intOf e).toNat)
  case atStart => exact ⟨0, by omega, rfl, rfl, rfl⟩
  case round =>
    obtain ⟨k, hk, rfl, rfl, HK⟩ := hrel
    by_cases hlt : k < s.size
    · have y1 : (k : Int) < s.size := by omega
      have c := well_any s k wr hlt hs
      rw [well_eq s k hlt] at c
      have hle := Q.nxt_le (s.data.toList.drop k)
      have hlen : (s.data.toList.drop k).length = s.size - k := by simp
      have hst := Q.valid_step (s.data.toList.drop k) (by intro h; rw [h] at hlen; simp at hlen; omega)
      cases hn : (Q.nxt (s.data.toList.drop k)).2
      · rw [hn] at c hst
        have HF : Hid (utfB s = false) := by show validD _ = _; rw [HK.out, hst]; rfl
        clear hst hle hn HK
        simp only [Bool.false_eq_true, if_false] at c
        go_wp2_with fail
        refine c.mono ?_
        rintro e w1 ⟨rfl, rfl⟩
        go_wp2_with fail
        go_ret
        exact ⟨by rw [HF.out]; rfl, rfl⟩
      · rw [hn] at c hst
        simp only [if_true] at c hst
        have h1 := hle.2.2 hn
        have h2 := hle.1
        rw [hlen] at h2
        have HF : Hid (validD s.data.toList = validD (s.data.toList.drop (k + (Q.nxt (s.data.toList.drop k)).1))) := by show _ = _; rw [HK.out, hst, List.drop_drop]
        generalize (Q.nxt (s.data.toList.drop k)).1 = z at *
        have yz : ((z : Int) == 0) = false := by rw [beq_eq_false_iff_ne]; omega
        clear hst hle hn HK hlen
        go_wp2_with fail
        refine c.mono ?_
        rintro e w1 ⟨rfl, rfl⟩
        go_wp2_with fail
        go_roundw
        case rel => exact ⟨k + z, by omega, by go_num, trivial, HF⟩
        case measure => simp [RowKit.intOf]; omega
    · obtain rfl : k = s.size := by omega
      have y1 : ¬ (s.size : Int) < s.size := by omega
      have HF : Hid (utfB s = true) := by
        show validD _ = _
        rw [HK.out, List.drop_of_length_le (by simp)]
        rfl
      clear HK
      go_wp2_with fail
      go_ret
      exact ⟨by rw [HF.out]; rfl, rfl⟩
end Go.Proofs.YtpmhdcmmlkjjmaaGreatDoor
