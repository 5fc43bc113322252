import Derived.Test.YtihcggepeadklaaGreatDoorDcmD
/- The document's integer. -/
set_option linter.unusedSimpArgs false
set_option linter.unusedVariables false
namespace Go.Proofs.YtihcggepeadklaaGreatDoor
open Go.RowKit Go.Lib
def dvl : Nat → List UInt8 → Option Nat
  | acc, [] => some acc
  | acc, c :: t => if 48 ≤ c.toNat ∧ c.toNat ≤ 57 then dvl (10 * acc + (c.toNat - 48)) t else none
def dfin (mi : Bool) (n : Nat) : Option Int :=
  if mi = true ∧ n = 9223372036854775808 then some (-9223372036854775808) else if 9223372036854775807 < n then none else some (if mi = true then -(n : Int) else n)
def dbody (mi : Bool) (b : List UInt8) : Option Int :=
  if b.length = 0 ∨ (1 < b.length ∧ b.head? = some 48) ∨ 19 < b.length then none else (dvl 0 b).bind (dfin mi)
def dint : List UInt8 → Option Int
  | [] => none
  | c :: t => if c = 45 then dbody true t else dbody false (c :: t)
def DiP (R : Option Int) (w : World) (e : Ending) (w' : World) : Prop :=
  w' = w ∧ ((∃ i, R = some i ∧ e = .returned (.tuple #[.int .i64 i, .bool true])) ∨ (R = none ∧ e = .returned (.tuple #[.int .i64 0, .bool false])))
theorem dbody_0 {mi : Bool} {b : List UInt8} (h : b.length = 0) : dbody mi b = none := by rw [dbody, if_pos (.inl h)]
theorem dbody_1 {mi : Bool} {b : List UInt8} (h : 1 < b.length) (h1 : b.head? = some 48) : dbody mi b = none := by rw [dbody, if_pos (.inr (.inl ⟨h, h1⟩))]
theorem dbody_2 {mi : Bool} {b : List UInt8} (h : 19 < b.length) : dbody mi b = none := by rw [dbody, if_pos (.inr (.inr h))]
theorem dbody_3 {mi : Bool} {b : List UInt8} (h0 : b.length ≠ 0) (h1 : ¬ (1 < b.length ∧ b.head? = some 48)) (h2 : ¬ 19 < b.length) : dbody mi b = (dvl 0 b).bind (dfin mi) := by
  rw [dbody, if_neg (by rintro (h | h | h) <;> contradiction)]
theorem head48 {t : ByteArray} (h : 0 < t.size) : t.data.toList.head? = some (t[0]'h) := by
  have := drop_consN t 0 h
  rw [List.drop_zero] at this
  rw [this]; rfl
theorem pow10_19 {j : Nat} (h : j < 19) : 10 ^ j ≤ 1000000000000000000 := Nat.le_trans (Nat.pow_le_pow_right (by decide) (show j ≤ 18 by omega)) (by decide)
def BnU (v j : Nat) : Prop := v < 10 ^ j
theorem BnU.le {v j : Nat} (h : BnU v j) (hj : j < 19) : v < 1000000000000000000 := Nat.lt_of_lt_of_le h (pow10_19 hj)
theorem BnU.all {v j : Nat} (h : BnU v j) (hj : j ≤ 19) : v < 10000000000000000000 := Nat.lt_of_lt_of_le h (Nat.le_trans (Nat.pow_le_pow_right (by decide) hj) (by decide))
theorem BnU.next {v j d : Nat} (h : BnU v j) (hd : d < 10) : BnU (10 * v + d) (j + 1) := by
  unfold BnU at *
  rw [Nat.pow_succ]; omega
set_option maxHeartbeats 1500000 in
set_option maxRecDepth 100000 in
theorem dint_any (s : ByteArray) (w : World) (hs : s.size ≤ 2147483647) : Calls Tryz.prog 146 #[.string s] w (DiP (dint s.data.toList) w) := by
  by_cases h0 : s.size = 0
  · have e : s.data.toList = [] := List.length_eq_zero_iff.1 (by simpa using h0)
    have y0 : ¬ (0 : Int) < s.size := by omega
    have y1 : ((s.size : Int) == 0) = true := by rw [beq_iff_eq]; omega
    rw [e]
    clear e h0
    go_enter Tryz.func146, Tryz.ntmps146
    go_wp2
    go_ret2
    exact ⟨rfl, .inr ⟨rfl, rfl⟩⟩
  have hpos : 0 < s.size := by omega
  have y0 : (0 : Int) < s.size := by omega
  have e0 := drop_consN s 0 hpos
  rw [List.drop_zero] at e0
  by_cases h45 : s[0]'hpos = 45
  · have y45 : (((s[0]'hpos).toNat : Int) == 45) = true := by rw [beq_iff_eq, h45]; rfl
    have hR : dint s.data.toList = dbody true (s.data.toList.drop 1) := by rw [e0, dint, if_pos h45]; rfl
    have hsl : ∀ W, (Instr.slice 9 (.string s) (some (.int .i64 1)) none none).run Tryz.prog W = .ok (.string (s.extract 1 s.size)) W := fun W => slice_from s 1 hpos W
    have hel := ext_list s 1
    have hez : (s.extract 1 s.size).size ≤ 2147483647 := by rw [ByteArray.size_extract]; omega
    rw [hR, ← hel]
    clear e0 h45 h0 hR hel hs
    generalize s.extract 1 s.size = t at *
    have hll : t.data.toList.length = t.size := by simp
    by_cases z0 : t.size = 0
    · have x1 : ((t.size : Int) == 0) = true := by rw [beq_iff_eq]; omega
      have HN := hmk (dbody_0 (mi := true) (b := t.data.toList) (by omega))
      clear z0 hll
      go_enter Tryz.func146, Tryz.ntmps146
      go_wp2
      go_ret2
      exact ⟨rfl, .inr ⟨HN.out, rfl⟩⟩
    have x1 : ((t.size : Int) == 0) = false := by rw [beq_eq_false_iff_ne]; omega
    have z1 : 0 < t.size := by omega
    have x2 : (0 : Int) < t.size := by omega
    by_cases z2 : 1 < t.size ∧ t[0]'z1 = 48
    · have x3 : (1 : Int) < t.size := by omega
      have x4 : (((t[0]'z1).toNat : Int) == 48) = true := by rw [beq_iff_eq, z2.2]; rfl
      have HN := hmk (dbody_1 (mi := true) (b := t.data.toList) (by omega) (by rw [head48 z1, z2.2]))
      clear z0 hll z2
      go_enter Tryz.func146, Tryz.ntmps146
      go_wp2
      go_ret2
      exact ⟨rfl, .inr ⟨HN.out, rfl⟩⟩
    have HZ2 : Hid (¬ (1 < t.data.toList.length ∧ t.data.toList.head? = some 48)) := fun h => z2 ⟨by omega, by have := h.2; rw [head48 z1] at this; exact Option.some.inj this⟩
    by_cases z3 : 19 < t.size
    · have x5 : (19 : Int) < t.size := by omega
      have x3 : (1 : Int) < t.size := by omega
      have x4 : (((t[0]'z1).toNat : Int) == 48) = false := by rw [beq_eq_false_iff_ne]; exact fun h => z2 ⟨by omega, UInt8.toNat_inj.1 (by have h48 : (48 : UInt8).toNat = 48 := rfl; omega)⟩
      have HN := hmk (dbody_2 (mi := true) (b := t.data.toList) (by omega))
      clear z0 hll z2
      go_enter Tryz.func146, Tryz.ntmps146
      go_wp2
      go_ret2
      exact ⟨rfl, .inr ⟨HN.out, rfl⟩⟩
    have x5 : ¬ (19 : Int) < t.size := by omega
    have HB := hmk (dbody_3 (mi := true) (b := t.data.toList) (by omega) HZ2.out (by omega))
    rw [HB.out]
    clear HB HZ2 hll
    have HS : Hid (t.size ≤ 19) := by show _ ≤ _; omega
    clear z0 z3
    by_cases z4 : 1 < t.size
    · have x3 : (1 : Int) < t.size := by omega
      have x4 : (((t[0]'z1).toNat : Int) == 48) = false := by rw [beq_eq_false_iff_ne]; exact fun h => z2 ⟨z4, UInt8.toNat_inj.1 (by have h48 : (48 : UInt8).toNat = 48 := rfl; omega)⟩
      clear z2 z4
      go_enter Tryz.func146, Tryz.ntmps146
      go_wp2_with fail
      clear x1 x2 x3 x5
      go_loopw [5, 6] (fun e5 e6 wr => ∃ j v : Nat, j ≤ t.size ∧ e6 = .int .i64 (j : Int) ∧ e5 = .int .u64 (v : Int) ∧ wr = w ∧ BnU v j ∧ Hid (dvl v (t.data.toList.drop j) = dvl 0 t.data.toList)) (fun _ e6 _ => t.size - (RowKit.intOf e6).toNat)
      case atStart => exact ⟨0, 0, Nat.zero_le _, rfl, rfl, rfl, (by decide : (0 : Nat) < 1), rfl⟩
      case round =>
        obtain ⟨j, v, hj, rfl, rfl, rfl, hB, HD⟩ := hrel
        have HBn := hmk hB
        clear hB
        by_cases hjt : j < t.size
        · have a1 : (j : Int) < t.size := by omega
          have ed := hmk (drop_consN t j hjt)
          by_cases hd : 48 ≤ (t[j]'hjt).toNat ∧ (t[j]'hjt).toNat ≤ 57
          · have b1 : ¬ ((t[j]'hjt).toNat : Int) < 48 := by omega
            have b2 : ¬ (57 : Int) < ((t[j]'hjt).toNat : Int) := by omega
            have hv := HBn.out.le (by have := HS.out; omega)
            have w1 : IntKind.u64.wrap (10 * (v : Int)) = 10 * (v : Int) := IntWalk.u64_in _ (by omega)
            have w2 : IntKind.u8.wrap (((t[j]'hjt).toNat : Int) - 48) = ((t[j]'hjt).toNat : Int) - 48 := IntWalk.u8_in _ (by omega)
            have w3 : IntKind.u64.wrap (((t[j]'hjt).toNat : Int) - 48) = ((t[j]'hjt).toNat : Int) - 48 := IntWalk.u64_in _ (by omega)
            have w4 : IntKind.u64.wrap (10 * (v : Int) + (((t[j]'hjt).toNat : Int) - 48)) = 10 * (v : Int) + (((t[j]'hjt).toNat : Int) - 48) := IntWalk.u64_in _ (by omega)
            have HN : Hid (dvl (10 * v + ((t[j]'hjt).toNat - 48)) (t.data.toList.drop (j + 1)) = dvl 0 t.data.toList) := by
              show _ = _
              rw [← HD.out, ed.out, dvl, if_pos hd]
            have HV := hmk (HBn.out.next (d := (t[j]'hjt).toNat - 48) (by omega))
            have HE : Hid (10 * (v : Int) + (((t[j]'hjt).toNat : Int) - 48) = ((10 * v + ((t[j]'hjt).toNat - 48) : Nat) : Int)) := by show _ = _; omega
            clear HD ed HBn hd hv
            go_wp2_with fail
            go_roundw
            case rel => exact ⟨j + 1, 10 * v + ((t[j]'hjt).toNat - 48), by omega, by go_num, by rw [← HE.out], trivial, HV.out, HN⟩
            case measure => simp [RowKit.intOf]; omega
          · have HN : Hid ((dvl 0 t.data.toList).bind (dfin true) = none) := by
              show _ = _
              rw [← HD.out, ed.out, dvl, if_neg hd]; rfl
            rw [HN.out]
            by_cases b1 : ((t[j]'hjt).toNat : Int) < 48
            · clear HD ed HBn hd HN
              go_wp2_with fail
              go_ret2
              exact ⟨rfl, .inr ⟨rfl, rfl⟩⟩
            · have b2 : (57 : Int) < ((t[j]'hjt).toNat : Int) := by omega
              clear HD ed HBn hd HN
              go_wp2_with fail
              go_ret2
              exact ⟨rfl, .inr ⟨rfl, rfl⟩⟩
        · have a1 : ¬ (j : Int) < t.size := by omega
          have hjz : j = t.size := by omega
          have HF : Hid ((dvl 0 t.data.toList).bind (dfin true) = dfin true v) := by
            show _ = _
            rw [← HD.out, drop_endN t j hjt, dvl]; rfl
          have hv := HBn.out.all (by have := HS.out; omega)
          clear HD HBn hjz
          by_cases c1 : v = 9223372036854775808
          · have d1 : ((v : Int) == 9223372036854775808) = true := by rw [beq_iff_eq]; omega
            have HR : Hid (dfin true v = some (-9223372036854775808)) := by show _ = _; rw [dfin, if_pos ⟨rfl, c1⟩]
            clear c1 hv
            go_wp2_with fail
            go_ret2
            exact ⟨rfl, .inl ⟨_, HF.out.trans HR.out, rfl⟩⟩
          · have d1 : ((v : Int) == 9223372036854775808) = false := by rw [beq_eq_false_iff_ne]; omega
            by_cases c2 : 9223372036854775807 < v
            · have d2 : (9223372036854775807 : Int) < v := by omega
              have HR : Hid (dfin true v = none) := by show _ = _; rw [dfin, if_neg (fun h => c1 h.2), if_pos c2]
              clear c1 c2 hv
              go_wp2_with fail
              go_ret2
              exact ⟨rfl, .inr ⟨HF.out.trans HR.out, rfl⟩⟩
            · have d2 : ¬ (9223372036854775807 : Int) < v := by omega
              have w5 : IntKind.i64.wrap (v : Int) = (v : Int) := IntWalk.i64_in _ (by omega)
              have w6 : IntKind.i64.wrap (-(v : Int)) = -(v : Int) := IntWalk.i64_in _ (by omega)
              have HR : Hid (dfin true v = some (-(v : Int))) := by show _ = _; rw [dfin, if_neg (fun h => c1 h.2), if_neg c2, if_pos rfl]
              clear c1 c2 hv
              go_wp2_with fail
              go_ret2
              exact ⟨rfl, .inl ⟨_, HF.out.trans HR.out, rfl⟩⟩
    · have x3 : ¬ (1 : Int) < t.size := by omega
      clear z2 z4
      go_enter Tryz.func146, Tryz.ntmps146
      go_wp2_with fail
      clear x1 x2 x3 x5
      go_loopw [5, 6] (fun e5 e6 wr => ∃ j v : Nat, j ≤ t.size ∧ e6 = .int .i64 (j : Int) ∧ e5 = .int .u64 (v : Int) ∧ wr = w ∧ BnU v j ∧ Hid (dvl v (t.data.toList.drop j) = dvl 0 t.data.toList)) (fun _ e6 _ => t.size - (RowKit.intOf e6).toNat)
      case atStart => exact ⟨0, 0, Nat.zero_le _, rfl, rfl, rfl, (by decide : (0 : Nat) < 1), rfl⟩
      case round =>
        obtain ⟨j, v, hj, rfl, rfl, rfl, hB, HD⟩ := hrel
        have HBn := hmk hB
        clear hB
        by_cases hjt : j < t.size
        · have a1 : (j : Int) < t.size := by omega
          have ed := hmk (drop_consN t j hjt)
          by_cases hd : 48 ≤ (t[j]'hjt).toNat ∧ (t[j]'hjt).toNat ≤ 57
          · have b1 : ¬ ((t[j]'hjt).toNat : Int) < 48 := by omega
            have b2 : ¬ (57 : Int) < ((t[j]'hjt).toNat : Int) := by omega
            have hv := HBn.out.le (by have := HS.out; omega)
            have w1 : IntKind.u64.wrap (10 * (v : Int)) = 10 * (v : Int) := IntWalk.u64_in _ (by omega)
            have w2 : IntKind.u8.wrap (((t[j]'hjt).toNat : Int) - 48) = ((t[j]'hjt).toNat : Int) - 48 := IntWalk.u8_in _ (by omega)
            have w3 : IntKind.u64.wrap (((t[j]'hjt).toNat : Int) - 48) = ((t[j]'hjt).toNat : Int) - 48 := IntWalk.u64_in _ (by omega)
            have w4 : IntKind.u64.wrap (10 * (v : Int) + (((t[j]'hjt).toNat : Int) - 48)) = 10 * (v : Int) + (((t[j]'hjt).toNat : Int) - 48) := IntWalk.u64_in _ (by omega)
            have HN : Hid (dvl (10 * v + ((t[j]'hjt).toNat - 48)) (t.data.toList.drop (j + 1)) = dvl 0 t.data.toList) := by
              show _ = _
              rw [← HD.out, ed.out, dvl, if_pos hd]
            have HV := hmk (HBn.out.next (d := (t[j]'hjt).toNat - 48) (by omega))
            have HE : Hid (10 * (v : Int) + (((t[j]'hjt).toNat : Int) - 48) = ((10 * v + ((t[j]'hjt).toNat - 48) : Nat) : Int)) := by show _ = _; omega
            clear HD ed HBn hd hv
            go_wp2_with fail
            go_roundw
            case rel => exact ⟨j + 1, 10 * v + ((t[j]'hjt).toNat - 48), by omega, by go_num, by rw [← HE.out], trivial, HV.out, HN⟩
            case measure => simp [RowKit.intOf]; omega
          · have HN : Hid ((dvl 0 t.data.toList).bind (dfin true) = none) := by
              show _ = _
              rw [← HD.out, ed.out, dvl, if_neg hd]; rfl
            rw [HN.out]
            by_cases b1 : ((t[j]'hjt).toNat : Int) < 48
            · clear HD ed HBn hd HN
              go_wp2_with fail
              go_ret2
              exact ⟨rfl, .inr ⟨rfl, rfl⟩⟩
            · have b2 : (57 : Int) < ((t[j]'hjt).toNat : Int) := by omega
              clear HD ed HBn hd HN
              go_wp2_with fail
              go_ret2
              exact ⟨rfl, .inr ⟨rfl, rfl⟩⟩
        · have a1 : ¬ (j : Int) < t.size := by omega
          have hjz : j = t.size := by omega
          have HF : Hid ((dvl 0 t.data.toList).bind (dfin true) = dfin true v) := by
            show _ = _
            rw [← HD.out, drop_endN t j hjt, dvl]; rfl
          have hv := HBn.out.all (by have := HS.out; omega)
          clear HD HBn hjz
          by_cases c1 : v = 9223372036854775808
          · have d1 : ((v : Int) == 9223372036854775808) = true := by rw [beq_iff_eq]; omega
            have HR : Hid (dfin true v = some (-9223372036854775808)) := by show _ = _; rw [dfin, if_pos ⟨rfl, c1⟩]
            clear c1 hv
            go_wp2_with fail
            go_ret2
            exact ⟨rfl, .inl ⟨_, HF.out.trans HR.out, rfl⟩⟩
          · have d1 : ((v : Int) == 9223372036854775808) = false := by rw [beq_eq_false_iff_ne]; omega
            by_cases c2 : 9223372036854775807 < v
            · have d2 : (9223372036854775807 : Int) < v := by omega
              have HR : Hid (dfin true v = none) := by show _ = _; rw [dfin, if_neg (fun h => c1 h.2), if_pos c2]
              clear c1 c2 hv
              go_wp2_with fail
              go_ret2
              exact ⟨rfl, .inr ⟨HF.out.trans HR.out, rfl⟩⟩
            · have d2 : ¬ (9223372036854775807 : Int) < v := by omega
              have w5 : IntKind.i64.wrap (v : Int) = (v : Int) := IntWalk.i64_in _ (by omega)
              have w6 : IntKind.i64.wrap (-(v : Int)) = -(v : Int) := IntWalk.i64_in _ (by omega)
              have HR : Hid (dfin true v = some (-(v : Int))) := by show _ = _; rw [dfin, if_neg (fun h => c1 h.2), if_neg c2, if_pos rfl]
              clear c1 c2 hv
              go_wp2_with fail
              go_ret2
              exact ⟨rfl, .inl ⟨_, HF.out.trans HR.out, rfl⟩⟩
  · have y45 : (((s[0]'hpos).toNat : Int) == 45) = false := by rw [beq_eq_false_iff_ne]; exact fun h => h45 (UInt8.toNat_inj.1 (by have h5 : (45 : UInt8).toNat = 45 := rfl; omega))
    have hR : dint s.data.toList = dbody false s.data.toList := by rw [e0, dint, if_neg h45]
    have hez := hs
    rw [hR]
    clear e0 h45 h0 hR hs
    have hll : s.data.toList.length = s.size := by simp
    by_cases z0 : s.size = 0
    · have x1 : ((s.size : Int) == 0) = true := by rw [beq_iff_eq]; omega
      have HN := hmk (dbody_0 (mi := false) (b := s.data.toList) (by omega))
      clear z0 hll
      go_enter Tryz.func146, Tryz.ntmps146
      go_wp2
      go_ret2
      exact ⟨rfl, .inr ⟨HN.out, rfl⟩⟩
    have x1 : ((s.size : Int) == 0) = false := by rw [beq_eq_false_iff_ne]; omega
    have z1 : 0 < s.size := by omega
    have x2 : (0 : Int) < s.size := by omega
    by_cases z2 : 1 < s.size ∧ s[0]'z1 = 48
    · have x3 : (1 : Int) < s.size := by omega
      have x4 : (((s[0]'z1).toNat : Int) == 48) = true := by rw [beq_iff_eq, z2.2]; rfl
      have HN := hmk (dbody_1 (mi := false) (b := s.data.toList) (by omega) (by rw [head48 z1, z2.2]))
      clear z0 hll z2
      go_enter Tryz.func146, Tryz.ntmps146
      go_wp2
      go_ret2
      exact ⟨rfl, .inr ⟨HN.out, rfl⟩⟩
    have HZ2 : Hid (¬ (1 < s.data.toList.length ∧ s.data.toList.head? = some 48)) := fun h => z2 ⟨by omega, by have := h.2; rw [head48 z1] at this; exact Option.some.inj this⟩
    by_cases z3 : 19 < s.size
    · have x5 : (19 : Int) < s.size := by omega
      have x3 : (1 : Int) < s.size := by omega
      have x4 : (((s[0]'z1).toNat : Int) == 48) = false := by rw [beq_eq_false_iff_ne]; exact fun h => z2 ⟨by omega, UInt8.toNat_inj.1 (by have h48 : (48 : UInt8).toNat = 48 := rfl; omega)⟩
      have HN := hmk (dbody_2 (mi := false) (b := s.data.toList) (by omega))
      clear z0 hll z2
      go_enter Tryz.func146, Tryz.ntmps146
      go_wp2
      go_ret2
      exact ⟨rfl, .inr ⟨HN.out, rfl⟩⟩
    have x5 : ¬ (19 : Int) < s.size := by omega
    have HB := hmk (dbody_3 (mi := false) (b := s.data.toList) (by omega) HZ2.out (by omega))
    rw [HB.out]
    clear HB HZ2 hll
    have HS : Hid (s.size ≤ 19) := by show _ ≤ _; omega
    clear z0 z3
    by_cases z4 : 1 < s.size
    · have x3 : (1 : Int) < s.size := by omega
      have x4 : (((s[0]'z1).toNat : Int) == 48) = false := by rw [beq_eq_false_iff_ne]; exact fun h => z2 ⟨z4, UInt8.toNat_inj.1 (by have h48 : (48 : UInt8).toNat = 48 := rfl; omega)⟩
      clear z2 z4
      go_enter Tryz.func146, Tryz.ntmps146
      go_wp2_with fail
      clear x1 x2 x3 x5
      go_loopw [5, 6] (fun e5 e6 wr => ∃ j v : Nat, j ≤ s.size ∧ e6 = .int .i64 (j : Int) ∧ e5 = .int .u64 (v : Int) ∧ wr = w ∧ BnU v j ∧ Hid (dvl v (s.data.toList.drop j) = dvl 0 s.data.toList)) (fun _ e6 _ => s.size - (RowKit.intOf e6).toNat)
      case atStart => exact ⟨0, 0, Nat.zero_le _, rfl, rfl, rfl, (by decide : (0 : Nat) < 1), rfl⟩
      case round =>
        obtain ⟨j, v, hj, rfl, rfl, rfl, hB, HD⟩ := hrel
        have HBn := hmk hB
        clear hB
        by_cases hjt : j < s.size
        · have a1 : (j : Int) < s.size := by omega
          have ed := hmk (drop_consN s j hjt)
          by_cases hd : 48 ≤ (s[j]'hjt).toNat ∧ (s[j]'hjt).toNat ≤ 57
          · have b1 : ¬ ((s[j]'hjt).toNat : Int) < 48 := by omega
            have b2 : ¬ (57 : Int) < ((s[j]'hjt).toNat : Int) := by omega
            have hv := HBn.out.le (by have := HS.out; omega)
            have w1 : IntKind.u64.wrap (10 * (v : Int)) = 10 * (v : Int) := IntWalk.u64_in _ (by omega)
            have w2 : IntKind.u8.wrap (((s[j]'hjt).toNat : Int) - 48) = ((s[j]'hjt).toNat : Int) - 48 := IntWalk.u8_in _ (by omega)
            have w3 : IntKind.u64.wrap (((s[j]'hjt).toNat : Int) - 48) = ((s[j]'hjt).toNat : Int) - 48 := IntWalk.u64_in _ (by omega)
            have w4 : IntKind.u64.wrap (10 * (v : Int) + (((s[j]'hjt).toNat : Int) - 48)) = 10 * (v : Int) + (((s[j]'hjt).toNat : Int) - 48) := IntWalk.u64_in _ (by omega)
            have HN : Hid (dvl (10 * v + ((s[j]'hjt).toNat - 48)) (s.data.toList.drop (j + 1)) = dvl 0 s.data.toList) := by
              show _ = _
              rw [← HD.out, ed.out, dvl, if_pos hd]
            have HV := hmk (HBn.out.next (d := (s[j]'hjt).toNat - 48) (by omega))
            have HE : Hid (10 * (v : Int) + (((s[j]'hjt).toNat : Int) - 48) = ((10 * v + ((s[j]'hjt).toNat - 48) : Nat) : Int)) := by show _ = _; omega
            clear HD ed HBn hd hv
            go_wp2_with fail
            go_roundw
            case rel => exact ⟨j + 1, 10 * v + ((s[j]'hjt).toNat - 48), by omega, by go_num, by rw [← HE.out], trivial, HV.out, HN⟩
            case measure => simp [RowKit.intOf]; omega
          · have HN : Hid ((dvl 0 s.data.toList).bind (dfin false) = none) := by
              show _ = _
              rw [← HD.out, ed.out, dvl, if_neg hd]; rfl
            rw [HN.out]
            by_cases b1 : ((s[j]'hjt).toNat : Int) < 48
            · clear HD ed HBn hd HN
              go_wp2_with fail
              go_ret2
              exact ⟨rfl, .inr ⟨rfl, rfl⟩⟩
            · have b2 : (57 : Int) < ((s[j]'hjt).toNat : Int) := by omega
              clear HD ed HBn hd HN
              go_wp2_with fail
              go_ret2
              exact ⟨rfl, .inr ⟨rfl, rfl⟩⟩
        · have a1 : ¬ (j : Int) < s.size := by omega
          have hjz : j = s.size := by omega
          have HF : Hid ((dvl 0 s.data.toList).bind (dfin false) = dfin false v) := by
            show _ = _
            rw [← HD.out, drop_endN s j hjt, dvl]; rfl
          have hv := HBn.out.all (by have := HS.out; omega)
          clear HD HBn hjz
          by_cases c2 : 9223372036854775807 < v
          · have d2 : (9223372036854775807 : Int) < v := by omega
            have HR : Hid (dfin false v = none) := by show _ = _; rw [dfin, if_neg (fun h => by cases h.1), if_pos c2]
            clear c2 hv
            go_wp2_with fail
            go_ret2
            exact ⟨rfl, .inr ⟨HF.out.trans HR.out, rfl⟩⟩
          · have d2 : ¬ (9223372036854775807 : Int) < v := by omega
            have w5 : IntKind.i64.wrap (v : Int) = (v : Int) := IntWalk.i64_in _ (by omega)
            have HR : Hid (dfin false v = some (v : Int)) := by show _ = _; rw [dfin, if_neg (fun h => by cases h.1), if_neg c2, if_neg (by decide)]
            clear c2 hv
            go_wp2_with fail
            go_ret2
            exact ⟨rfl, .inl ⟨_, HF.out.trans HR.out, rfl⟩⟩
    · have x3 : ¬ (1 : Int) < s.size := by omega
      clear z2 z4
      go_enter Tryz.func146, Tryz.ntmps146
      go_wp2_with fail
      clear x1 x2 x3 x5
      go_loopw [5, 6] (fun e5 e6 wr => ∃ j v : Nat, j ≤ s.size ∧ e6 = .int .i64 (j : Int) ∧ e5 = .int .u64 (v : Int) ∧ wr = w ∧ BnU v j ∧ Hid (dvl v (s.data.toList.drop j) = dvl 0 s.data.toList)) (fun _ e6 _ => s.size - (RowKit.intOf e6).toNat)
      case atStart => exact ⟨0, 0, Nat.zero_le _, rfl, rfl, rfl, (by decide : (0 : Nat) < 1), rfl⟩
      case round =>
        obtain ⟨j, v, hj, rfl, rfl, rfl, hB, HD⟩ := hrel
        have HBn := hmk hB
        clear hB
        by_cases hjt : j < s.size
        · have a1 : (j : Int) < s.size := by omega
          have ed := hmk (drop_consN s j hjt)
          by_cases hd : 48 ≤ (s[j]'hjt).toNat ∧ (s[j]'hjt).toNat ≤ 57
          · have b1 : ¬ ((s[j]'hjt).toNat : Int) < 48 := by omega
            have b2 : ¬ (57 : Int) < ((s[j]'hjt).toNat : Int) := by omega
            have hv := HBn.out.le (by have := HS.out; omega)
            have w1 : IntKind.u64.wrap (10 * (v : Int)) = 10 * (v : Int) := IntWalk.u64_in _ (by omega)
            have w2 : IntKind.u8.wrap (((s[j]'hjt).toNat : Int) - 48) = ((s[j]'hjt).toNat : Int) - 48 := IntWalk.u8_in _ (by omega)
            have w3 : IntKind.u64.wrap (((s[j]'hjt).toNat : Int) - 48) = ((s[j]'hjt).toNat : Int) - 48 := IntWalk.u64_in _ (by omega)
            have w4 : IntKind.u64.wrap (10 * (v : Int) + (((s[j]'hjt).toNat : Int) - 48)) = 10 * (v : Int) + (((s[j]'hjt).toNat : Int) - 48) := IntWalk.u64_in _ (by omega)
            have HN : Hid (dvl (10 * v + ((s[j]'hjt).toNat - 48)) (s.data.toList.drop (j + 1)) = dvl 0 s.data.toList) := by
              show _ = _
              rw [← HD.out, ed.out, dvl, if_pos hd]
            have HV := hmk (HBn.out.next (d := (s[j]'hjt).toNat - 48) (by omega))
            have HE : Hid (10 * (v : Int) + (((s[j]'hjt).toNat : Int) - 48) = ((10 * v + ((s[j]'hjt).toNat - 48) : Nat) : Int)) := by show _ = _; omega
            clear HD ed HBn hd hv
            go_wp2_with fail
            go_roundw
            case rel => exact ⟨j + 1, 10 * v + ((s[j]'hjt).toNat - 48), by omega, by go_num, by rw [← HE.out], trivial, HV.out, HN⟩
            case measure => simp [RowKit.intOf]; omega
          · have HN : Hid ((dvl 0 s.data.toList).bind (dfin false) = none) := by
              show _ = _
              rw [← HD.out, ed.out, dvl, if_neg hd]; rfl
            rw [HN.out]
            by_cases b1 : ((s[j]'hjt).toNat : Int) < 48
            · clear HD ed HBn hd HN
              go_wp2_with fail
              go_ret2
              exact ⟨rfl, .inr ⟨rfl, rfl⟩⟩
            · have b2 : (57 : Int) < ((s[j]'hjt).toNat : Int) := by omega
              clear HD ed HBn hd HN
              go_wp2_with fail
              go_ret2
              exact ⟨rfl, .inr ⟨rfl, rfl⟩⟩
        · have a1 : ¬ (j : Int) < s.size := by omega
          have hjz : j = s.size := by omega
          have HF : Hid ((dvl 0 s.data.toList).bind (dfin false) = dfin false v) := by
            show _ = _
            rw [← HD.out, drop_endN s j hjt, dvl]; rfl
          have hv := HBn.out.all (by have := HS.out; omega)
          clear HD HBn hjz
          by_cases c2 : 9223372036854775807 < v
          · have d2 : (9223372036854775807 : Int) < v := by omega
            have HR : Hid (dfin false v = none) := by show _ = _; rw [dfin, if_neg (fun h => by cases h.1), if_pos c2]
            clear c2 hv
            go_wp2_with fail
            go_ret2
            exact ⟨rfl, .inr ⟨HF.out.trans HR.out, rfl⟩⟩
          · have d2 : ¬ (9223372036854775807 : Int) < v := by omega
            have w5 : IntKind.i64.wrap (v : Int) = (v : Int) := IntWalk.i64_in _ (by omega)
            have HR : Hid (dfin false v = some (v : Int)) := by show _ = _; rw [dfin, if_neg (fun h => by cases h.1), if_neg c2, if_neg (by decide)]
            clear c2 hv
            go_wp2_with fail
            go_ret2
            exact ⟨rfl, .inl ⟨_, HF.out.trans HR.out, rfl⟩⟩
end Go.Proofs.YtihcggepeadklaaGreatDoor
