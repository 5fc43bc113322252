import Derived.Test.YtpmhdcmmlkjjmaaGreatDoorH15
/- the document's integer: with a minus, and any. -/
set_option linter.unusedSimpArgs false
set_option linter.unusedVariables false
set_option maxRecDepth 100000
namespace Go.Proofs.YtpmhdcmmlkjjmaaGreatDoor
open Go.RowKit Go.Lib
set_option maxHeartbeats 16000000 in
theorem dinteger_minus (r : ByteArray) (w : World) (hr : r.size ≤ 281474976710656) (h0 : r.data.toList.head? = some 45) :
    Calls Tryz.prog 55 #[.string r] w fun e w' => DiP (dinJ r.data.toList) e ∧ w' = w := by
  have hlr : r.data.toList.length = r.size := by simp
  have hrp : 0 < r.size := by
    rcases Nat.eq_zero_or_pos r.size with q | q
    · rw [List.length_eq_zero_iff.1 (hlr.trans q)] at h0; cases h0
    · exact q
  have hr0 : r[0] = 45 := by
    have hh : r.data.toList.head? = some r[0] := by rw [List.head?_eq_getElem?, List.getElem?_eq_getElem (by rw [hlr]; exact hrp)]; rfl
    rw [hh] at h0
    exact Option.some.inj h0
  have v1 : (0 : Int) < r.size := by omega
  have v2 : ((r[0].toNat : Int) == 45) = true := by rw [hr0]; rfl
  have hsl := hsl_from r 1 (by omega)
  obtain ⟨d, hd⟩ : ∃ d, d = r.extract 1 r.size := ⟨_, rfl⟩
  have hdl : d.data.toList = r.data.toList.tail := by rw [hd, ext_list r 1, List.drop_one]
  have hds : d.size = r.size - 1 := by rw [hd, ByteArray.size_extract]; omega
  have hll : d.data.toList.length = d.size := by simp
  have hdm : d.size ≤ 281474976710656 := by omega
  rw [dinJ, if_pos h0, ← hdl]
  have hsl' : ∀ W : World, (Instr.slice 9 (.string r) (some (.int .i64 1)) none none).run Tryz.prog W = .ok (.string d) W := fun W => by rw [hd]; exact hsl W
  clear hd hdl h0 hr0 hsl hlr hds
  by_cases hn : d.size = 0
  · have hu : uJ d.data.toList = none := by rw [uJ, if_pos (.inl (List.length_eq_zero_iff.1 (by omega)))]
    rw [hu]
    have y0 : ((d.size : Int) == 0) = true := by rw [hn]; rfl
    clear hu
    go_enter Tryz.func55, Tryz.ntmps55
    go_wp2
    go_ret2
    exact ⟨rfl, rfl⟩
  · have hpos : 0 < d.size := by omega
    have hh : d.data.toList.head? = some d[0] := by rw [List.head?_eq_getElem?, List.getElem?_eq_getElem (by rw [hll]; exact hpos)]; rfl
    have y0 : ((d.size : Int) == 0) = false := by rw [beq_eq_false_iff_ne]; omega
    by_cases hz : 1 < d.size ∧ d[0] = 48
    · have hu : uJ d.data.toList = none := by rw [uJ, if_pos (.inr (.inl ⟨by omega, by rw [hh, hz.2]⟩))]
      rw [hu]
      have y3 : (1 : Int) < d.size := by omega
      have y4 : ((d[0].toNat : Int) == 48) = true := by rw [hz.2]; rfl
      clear hu hll hh hz
      go_enter Tryz.func55, Tryz.ntmps55
      go_wp2
      go_ret2
      exact ⟨rfl, rfl⟩
    · by_cases hl : 19 < d.size
      · have hu : uJ d.data.toList = none := by rw [uJ, if_pos (.inr (.inr (by omega)))]
        rw [hu]
        have y3 : (1 : Int) < d.size := by omega
        have y4 : ((d[0].toNat : Int) == 48) = false := by rw [beq_eq_false_iff_ne]; intro q; exact hz ⟨by omega, UInt8.toNat_inj.1 (by show d[0].toNat = 48; omega)⟩
        have y5 : (19 : Int) < d.size := by omega
        clear hu hll hh hz
        go_enter Tryz.func55, Tryz.ntmps55
        go_wp2
        go_ret2
        exact ⟨rfl, rfl⟩
      · have y5 : ¬ (19 : Int) < d.size := by omega
        have hu : uJ d.data.toList = dvJ 0 d.data.toList := uJ_dig (fun q => by rw [q] at hll; simp at hll; omega) (fun q => hz ⟨by have := q.1; omega, by have := q.2; rw [hh] at this; exact Option.some.inj this⟩) (by omega)
        rw [hu]
        by_cases h1 : (1 : Int) < d.size
        · have y4 : ((d[0].toNat : Int) == 48) = false := by rw [beq_eq_false_iff_ne]; intro q; exact hz ⟨by omega, UInt8.toNat_inj.1 (by show d[0].toNat = 48; omega)⟩
          clear hu hh hz
          go_enter Tryz.func55, Tryz.ntmps55
          go_wp2
          go_loopw [5, 6] (fun e5 e6 wr => ∃ i acc : Nat, i ≤ d.size ∧ e5 = .int .u64 (acc : Int) ∧ e6 = .int .i64 (i : Int) ∧ wr = w ∧ acc < 10 ^ i ∧ Hid (dvJ 0 d.data.toList = dvJ acc (d.data.toList.drop i))) (fun _ e6 _ => d.size - (RowKit.intOf e6).toNat)
          case atStart => exact ⟨0, 0, Nat.zero_le _, rfl, rfl, rfl, by decide, hmk rfl⟩
          case round =>
            obtain ⟨i, acc, hi, rfl, rfl, rfl, hacc, HD⟩ := hrel
            have hp : acc ≤ 9999999999999999999 := by
              have : (10 : Nat) ^ i ≤ 10 ^ 19 := Nat.pow_le_pow_right (by decide) (by omega)
              have e : (10 : Nat) ^ 19 = 10000000000000000000 := by decide
              omega
            by_cases hlt : i < d.size
            · have x1 : (i : Int) < d.size := by omega
              have hp2 : acc ≤ 999999999999999999 := by
                have : (10 : Nat) ^ i ≤ 10 ^ 18 := Nat.pow_le_pow_right (by decide) (by omega)
                have e : (10 : Nat) ^ 18 = 1000000000000000000 := by decide
                omega
              have hx := drop_at d i hlt
              by_cases hd : 48 ≤ d[i].toNat ∧ d[i].toNat ≤ 57
              · have x2 : ¬ ((d[i].toNat : Int) < 48) := by omega
                have x3 : ¬ ((57 : Int) < d[i].toNat) := by omega
                have HD2 : Hid (dvJ 0 d.data.toList = dvJ (acc * 10 + (d[i].toNat - 48)) (d.data.toList.drop (i + 1))) := by
                  show _ = _
                  rw [HD.out, hx, dvJ, if_pos hd]
                have hpw : acc * 10 + (d[i].toNat - 48) < 10 ^ (i + 1) := by
                  rw [Nat.pow_succ]
                  generalize (10 : Nat) ^ i = P at *
                  omega
                clear hx HD
                go_wp2
                exact ⟨⟨i + 1, acc * 10 + (d[i].toNat - 48), by omega, by congr 1; omega, by simp, trivial, hpw, HD2⟩, by simp only [RowKit.intOf]; omega⟩
              · have HN : Hid (dvJ 0 d.data.toList = none) := by
                  show _ = _
                  rw [HD.out, hx, dvJ, if_neg hd]
                clear hx HD
                by_cases x2 : ((d[i].toNat : Int) < 48)
                · go_wp2
                  go_ret2
                  rw [HN.out]
                  exact ⟨rfl, rfl⟩
                · have x3 : ((57 : Int) < d[i].toNat) := by omega
                  go_wp2
                  go_ret2
                  rw [HN.out]
                  exact ⟨rfl, rfl⟩
            · have x1 : ¬ (i : Int) < d.size := by omega
              have HS : Hid (dvJ 0 d.data.toList = some acc) := by
                show _ = _
                have e : d.data.toList.drop i = [] := List.drop_eq_nil_of_le (by rw [hll]; omega)
                rw [HD.out, e, dvJ]
              clear HD
              by_cases x5 : acc = 9223372036854775808
              · have x6 : ((acc : Int) == 9223372036854775808) = true := by rw [x5]; rfl
                go_wp2
                go_ret2
                rw [HS.out, finJ, if_pos ⟨rfl, x5⟩]
                exact ⟨rfl, rfl⟩
              have x6 : ((acc : Int) == 9223372036854775808) = false := by rw [beq_eq_false_iff_ne]; omega
              by_cases x4 : 9223372036854775807 < acc
              · have x4' : (9223372036854775807 : Int) < acc := by omega
                go_wp2
                go_ret2
                rw [HS.out, finJ, if_neg (fun q => x5 q.2), if_pos x4]
                exact ⟨rfl, rfl⟩
              · have x4' : ¬ (9223372036854775807 : Int) < acc := by omega
                go_wp2
                go_ret2
                rw [HS.out, finJ, if_neg (fun q => x5 q.2), if_neg x4]
                refine ⟨?_, rfl⟩
                show Ending.returned (.tuple #[.int .i64 _, .bool true]) = Ending.returned (.tuple #[.int .i64 _, .bool true])
                refine congrArg (fun x => Ending.returned (.tuple #[.int .i64 x, .bool true])) ?_
                simp
        · clear hu hh hz
          go_enter Tryz.func55, Tryz.ntmps55
          go_wp2
          go_loopw [5, 6] (fun e5 e6 wr => ∃ i acc : Nat, i ≤ d.size ∧ e5 = .int .u64 (acc : Int) ∧ e6 = .int .i64 (i : Int) ∧ wr = w ∧ acc < 10 ^ i ∧ Hid (dvJ 0 d.data.toList = dvJ acc (d.data.toList.drop i))) (fun _ e6 _ => d.size - (RowKit.intOf e6).toNat)
          case atStart => exact ⟨0, 0, Nat.zero_le _, rfl, rfl, rfl, by decide, hmk rfl⟩
          case round =>
            obtain ⟨i, acc, hi, rfl, rfl, rfl, hacc, HD⟩ := hrel
            have hp : acc ≤ 9999999999999999999 := by
              have : (10 : Nat) ^ i ≤ 10 ^ 19 := Nat.pow_le_pow_right (by decide) (by omega)
              have e : (10 : Nat) ^ 19 = 10000000000000000000 := by decide
              omega
            by_cases hlt : i < d.size
            · have x1 : (i : Int) < d.size := by omega
              have hp2 : acc ≤ 999999999999999999 := by
                have : (10 : Nat) ^ i ≤ 10 ^ 18 := Nat.pow_le_pow_right (by decide) (by omega)
                have e : (10 : Nat) ^ 18 = 1000000000000000000 := by decide
                omega
              have hx := drop_at d i hlt
              by_cases hd : 48 ≤ d[i].toNat ∧ d[i].toNat ≤ 57
              · have x2 : ¬ ((d[i].toNat : Int) < 48) := by omega
                have x3 : ¬ ((57 : Int) < d[i].toNat) := by omega
                have HD2 : Hid (dvJ 0 d.data.toList = dvJ (acc * 10 + (d[i].toNat - 48)) (d.data.toList.drop (i + 1))) := by
                  show _ = _
                  rw [HD.out, hx, dvJ, if_pos hd]
                have hpw : acc * 10 + (d[i].toNat - 48) < 10 ^ (i + 1) := by
                  rw [Nat.pow_succ]
                  generalize (10 : Nat) ^ i = P at *
                  omega
                clear hx HD
                go_wp2
                exact ⟨⟨i + 1, acc * 10 + (d[i].toNat - 48), by omega, by congr 1; omega, by simp, trivial, hpw, HD2⟩, by simp only [RowKit.intOf]; omega⟩
              · have HN : Hid (dvJ 0 d.data.toList = none) := by
                  show _ = _
                  rw [HD.out, hx, dvJ, if_neg hd]
                clear hx HD
                by_cases x2 : ((d[i].toNat : Int) < 48)
                · go_wp2
                  go_ret2
                  rw [HN.out]
                  exact ⟨rfl, rfl⟩
                · have x3 : ((57 : Int) < d[i].toNat) := by omega
                  go_wp2
                  go_ret2
                  rw [HN.out]
                  exact ⟨rfl, rfl⟩
            · have x1 : ¬ (i : Int) < d.size := by omega
              have HS : Hid (dvJ 0 d.data.toList = some acc) := by
                show _ = _
                have e : d.data.toList.drop i = [] := List.drop_eq_nil_of_le (by rw [hll]; omega)
                rw [HD.out, e, dvJ]
              clear HD
              by_cases x5 : acc = 9223372036854775808
              · have x6 : ((acc : Int) == 9223372036854775808) = true := by rw [x5]; rfl
                go_wp2
                go_ret2
                rw [HS.out, finJ, if_pos ⟨rfl, x5⟩]
                exact ⟨rfl, rfl⟩
              have x6 : ((acc : Int) == 9223372036854775808) = false := by rw [beq_eq_false_iff_ne]; omega
              by_cases x4 : 9223372036854775807 < acc
              · have x4' : (9223372036854775807 : Int) < acc := by omega
                go_wp2
                go_ret2
                rw [HS.out, finJ, if_neg (fun q => x5 q.2), if_pos x4]
                exact ⟨rfl, rfl⟩
              · have x4' : ¬ (9223372036854775807 : Int) < acc := by omega
                go_wp2
                go_ret2
                rw [HS.out, finJ, if_neg (fun q => x5 q.2), if_neg x4]
                refine ⟨?_, rfl⟩
                show Ending.returned (.tuple #[.int .i64 _, .bool true]) = Ending.returned (.tuple #[.int .i64 _, .bool true])
                refine congrArg (fun x => Ending.returned (.tuple #[.int .i64 x, .bool true])) ?_
                simp
theorem dinteger_any (r : ByteArray) (w : World) (hr : r.size ≤ 281474976710656) : Calls Tryz.prog 55 #[.string r] w fun e w' => DiP (intJ r.data.toList) e ∧ w' = w := by
  rw [int_doc]
  by_cases h0 : r.data.toList.head? = some 45
  · exact dinteger_minus r w hr h0
  · exact dinteger_plain r w hr h0
end Go.Proofs.YtpmhdcmmlkjjmaaGreatDoor
