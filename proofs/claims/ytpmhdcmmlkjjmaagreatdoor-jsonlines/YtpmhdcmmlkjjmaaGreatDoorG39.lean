/- joined: DigA JdD -/
import Derived.Lib.ItoaLen
import Derived.Test.YtpmhdcmmlkjjmaaGreatDoorG26
/- freeholdref03.unsigned, digits. -/
set_option linter.unusedSimpArgs false
set_option linter.unusedVariables false
set_option maxRecDepth 100000
namespace Go.Proofs.YtpmhdcmmlkjjmaaGreatDoor
open Go.RowKit Go.Lib
theorem hmk2 {p : Prop} (h : p) : Hid p := h
def StPost (l : List UInt8) (w : World) (e : Ending) (w' : World) : Prop := e = .returned (.string ⟨l.toArray⟩) ∧ Below w.heap.size w w'
theorem conv_one (W W' : World) (c : UInt8) (x : Int) (hx : x = (c.toNat : Int)) (hb : Below (W.alloc (.cells #[.int .u8 x] 5)).heap.size (W.alloc (.cells #[.int .u8 x] 5)) W') :
    (convert 28 9 (.slice (some ⟨W.heap.size, 0, none⟩) 1 1)).run Tryz.prog W' = .ok (.string ⟨#[c]⟩) W' := by
  subst hx
  have hk : W'.heap[W.heap.size]? = some (.cells #[.int .u8 (c.toNat : Int)] 5) := (hb.block _ (by rw [alloc_size]; omega)).trans (heap_alloc_new W _)
  have ho : OwnB 0 (.slice (some ⟨W.heap.size, 0, none⟩) 1 1) [c] W' := by
    refine ⟨rfl, .inr ⟨W.heap.size, 1, #[.int .u8 (c.toNat : Int)], rfl, Nat.zero_le _, hk, by simp, by simp [maxLen], by simp, by simp [byteCells]⟩⟩
  exact ho.conv
theorem ba_app (E : List UInt8) (c : UInt8) : (⟨E.toArray⟩ : ByteArray) ++ ⟨#[c]⟩ = ⟨(E ++ [c]).toArray⟩ := by
  apply ByteArray.ext
  simp [ByteArray.data_append]
theorem below_drew (w : World) : Below w.heap.size w w.drew := ⟨rfl, rfl, rfl, Nat.le_refl _, fun _ _ => rfl⟩
set_option maxHeartbeats 1000000 in
set_option maxRecDepth 100000 in
theorem uns_any (u : Nat) : ∀ (w : World), u < 18446744073709551616 → Calls Tryz.prog 94 #[.int .u64 (u : Int)] w (StPost (decDigits u) w) := by
  induction u using Nat.strongRecOn with
  | ind u ih =>
  intro w hu
  by_cases h10 : u < 10
  · have y1 : (u : Int) < 10 := by omega
    have HD : Hid (decDigits u = [UInt8.ofNat (48 + u)]) := by show _ = _; rw [decDigits, dif_pos h10]
    have hc := conv_one w _ (UInt8.ofNat (48 + u)) ((u : Int) + 48) (by rw [UInt8.toNat_ofNat']; omega) (Below.refl _ _)
    generalize UInt8.ofNat (48 + u) = c at *
    generalize decDigits u = D at *
    go_enter Tryz.func94, Tryz.ntmps94
    go_wp2_with fail
    go_ret
    exact ⟨by rw [HD.out]; rfl, (Below.refl _ _).alloc (Nat.le_refl _) _⟩
  · have y1 : ¬ (u : Int) < 10 := by omega
    have HD : Hid (decDigits u = decDigits (u / 10) ++ [UInt8.ofNat (48 + u % 10)]) := by show _ = _; rw [decDigits, dif_neg h10]
    have HC : Hid (∀ W, Calls Tryz.prog 94 #[.int .u64 ((u : Int) / 10)] W (StPost (decDigits (u / 10)) W)) := fun W => ih (u / 10) (by omega) W (by omega)
    have CB : ∀ W W' : World, Below (W.alloc (.cells #[.int .u8 ((u : Int) % 10 + 48)] 5)).heap.size (W.alloc (.cells #[.int .u8 ((u : Int) % 10 + 48)] 5)) W' → (convert 28 9 (.slice (some ⟨W.heap.size, 0, none⟩) 1 1)).run Tryz.prog W' = .ok (.string ⟨#[UInt8.ofNat (48 + u % 10)]⟩) W' := fun W W' hb => conv_one W W' _ _ (by rw [UInt8.toNat_ofNat']; omega) hb
    generalize UInt8.ofNat (48 + u % 10) = c at *
    have CA := fun W => CB W _ (Below.refl _ _)
    have HB : Hid (∀ W' : World, Below (w.drew.alloc (.cells #[.int .u8 ((u : Int) % 10 + 48)] 5)).heap.size (w.drew.alloc (.cells #[.int .u8 ((u : Int) % 10 + 48)] 5)) W' → (convert 28 9 (.slice (some ⟨w.heap.size, 0, none⟩) 1 1)).run Tryz.prog W' = .ok (.string ⟨#[c]⟩) W') := fun W' hb => CB w.drew W' hb
    have CA2 : ∀ (w5 : World), Below w.drew.heap.size w.drew w5 → (convert 28 9 (.slice (some ⟨w5.heap.size, 0, none⟩) 1 1)).run Tryz.prog (w5.alloc (.cells #[.int .u8 ((u : Int) % 10 + 48)] 5)) = .ok (.string ⟨#[c]⟩) (w5.alloc (.cells #[.int .u8 ((u : Int) % 10 + 48)] 5)) := fun w5 _ => CB w5 _ (Below.refl _ _)
    have CA3 : (convert 28 9 (.slice (some ⟨w.heap.size, 0, none⟩) 1 1)).run Tryz.prog (w.drew.alloc (.cells #[.int .u8 ((u : Int) % 10 + 48)] 5)) = .ok (.string ⟨#[c]⟩) (w.drew.alloc (.cells #[.int .u8 ((u : Int) % 10 + 48)] 5)) := CB w.drew _ (Below.refl _ _)
    have CA4 : (convert 28 9 (.slice (some ⟨w.heap.size, 0, none⟩) 1 1)).run Tryz.prog (w.alloc (.cells #[.int .u8 ((u : Int) % 10 + 48)] 5)).drew = .ok (.string ⟨#[c]⟩) (w.alloc (.cells #[.int .u8 ((u : Int) % 10 + 48)] 5)).drew := CB w.drew _ (Below.refl _ _)
    clear CB
    have hEl : (decDigits (u / 10)).length ≤ 20 := by rw [decDigits_length]; exact nDigits_le20 _ (by omega)
    have G1 : Hid (∀ W : World, Below w.drew.heap.size w.drew W → Below w.heap.size w W) := fun W h => (below_drew w).trans h
    have G2 : Hid (∀ (o : Obj) (W : World), Below (w.drew.alloc o).heap.size (w.drew.alloc o) W → Below w.heap.size w W) := fun o W h => ((below_drew w).alloc (Nat.le_refl _) o).trans (h.mono (by rw [alloc_size]; show w.heap.size ≤ w.heap.size + 1; omega))
    generalize decDigits u = D at *
    generalize decDigits (u / 10) = E at *
    have hEs : (⟨E.toArray⟩ : ByteArray).size ≤ 20 := by show E.toArray.size ≤ 20; rw [List.size_toArray]; exact hEl
    go_enter Tryz.func94, Tryz.ntmps94
    go_wp2_with fail
    have e1 : IntKind.u64.wrap ((u : Int) / 10) = (u : Int) / 10 := IntWalk.u64_in _ (by omega)
    have e2 : ((u : Int)).tmod 10 = (u : Int) % 10 := by rw [Int.tmod_eq_emod_of_nonneg (by omega)]
    have e3 : IntKind.u8.wrap ((u : Int) % 10) = (u : Int) % 10 := IntWalk.u8_in _ (by omega)
    have e4 : IntKind.u8.wrap ((u : Int) % 10 + 48) = (u : Int) % 10 + 48 := IntWalk.u8_in _ (by omega)
    go_region_with (go_at_call 94; refine (HC.out _).mono ?_; rintro e w5 ⟨rfl, b5⟩; (try have hcv := HB.out _ b5))
    all_goals go_wp2_with fail
    all_goals go_ret
    all_goals refine ⟨?_, ?_⟩
    all_goals first
      | (rw [HD.out, ← ba_app]; rfl)
      | exact (G1.out _ b5).alloc (Nat.le_trans (Nat.le_refl _) b5.size) _
      | exact G2.out _ _ b5
theorem ba_pre (E : List UInt8) (c : UInt8) : (⟨#[c]⟩ : ByteArray) ++ ⟨E.toArray⟩ = ⟨(c :: E).toArray⟩ := by
  apply ByteArray.ext
  simp [ByteArray.data_append]
set_option maxHeartbeats 1000000 in
set_option maxRecDepth 100000 in
theorem digits_any (i : Int) (hi : In64 i) (w : World) : Calls Tryz.prog 71 #[.int .i64 i] w (StPost (itoa i) w) := by
  obtain ⟨hi0, hi1⟩ := hi
  by_cases h0 : i < 0
  · have C := hmk2 (uns_any i.natAbs w (by omega))
    have hEl : (decDigits i.natAbs).length ≤ 20 := by rw [decDigits_length]; exact nDigits_le20 _ (by omega)
    have HD : Hid (itoa i = 45 :: decDigits i.natAbs) := by show _ = _; rw [itoa, if_pos h0]
    have e0 : ((i.natAbs : Nat) : Int) = -i := by omega
    rw [e0] at C
    generalize itoa i = D at *
    generalize decDigits i.natAbs = E at *
    have hEs : (⟨E.toArray⟩ : ByteArray).size ≤ 20 := by show E.toArray.size ≤ 20; rw [List.size_toArray]; exact hEl
    have z1 : (⟨#[45]⟩ : ByteArray).size = 1 := rfl
    have e1 : IntKind.i64.wrap (i + 1) = i + 1 := IntWalk.i64_in _ (by omega)
    have e2 : IntKind.i64.wrap (-(i + 1)) = -(i + 1) := IntWalk.i64_in _ (by omega)
    have e3 : IntKind.u64.wrap (-(i + 1)) = -(i + 1) := IntWalk.u64_in _ (by omega)
    have e4 : IntKind.u64.wrap (-(i + 1) + 1) = -i := by rw [IntWalk.u64_in _ (by omega)]; omega
    have e5 : -(i + 1) + 1 = -i := by omega
    go_enter Tryz.func71, Tryz.ntmps71
    go_wp2_with fail
    (try simp only [e5])
    refine C.out.mono ?_
    rintro e w1 ⟨rfl, b1⟩
    go_wp2_with fail
    go_ret
    exact ⟨by rw [HD.out, ← ba_pre]; rfl, b1⟩
  · have C := hmk2 (uns_any i.toNat w (by omega))
    have HD : Hid (itoa i = decDigits i.toNat) := by show _ = _; rw [itoa, if_neg h0]
    have e0 : ((i.toNat : Nat) : Int) = i := by omega
    rw [e0] at C
    have y1 : ¬ i < 0 := h0
    generalize itoa i = D at *
    generalize decDigits i.toNat = E at *
    have e3 : IntKind.u64.wrap i = i := IntWalk.u64_in _ (by omega)
    go_enter Tryz.func71, Tryz.ntmps71
    go_wp2_with fail
    refine C.out.mono ?_
    rintro e w1 ⟨rfl, b1⟩
    go_wp2_with fail
    go_ret
    exact ⟨by rw [HD.out]; rfl, b1⟩
end Go.Proofs.YtpmhdcmmlkjjmaaGreatDoor
/- the document's integer: the walk. -/
set_option maxRecDepth 100000
namespace Go.Proofs.YtpmhdcmmlkjjmaaGreatDoor
open Go.RowKit Go.Lib
def DiP (R : Option Int) (e : Ending) : Prop := e = .returned (.tuple #[.int .i64 (R.getD 0), .bool R.isSome])
theorem uJ_dig {l : List UInt8} (h0 : l ≠ []) (hz : ¬ (1 < l.length ∧ l.head? = some 48)) (hl : ¬ 19 < l.length) : uJ l = dvJ 0 l := by
  rw [uJ, if_neg]
  rintro (q | q | q)
  · exact h0 q
  · exact hz q
  · exact hl q
set_option maxHeartbeats 16000000 in
theorem dinteger_plain (r : ByteArray) (w : World) (hr : r.size ≤ 281474976710656) (h0 : ¬ r.data.toList.head? = some 45) :
    Calls Tryz.prog 55 #[.string r] w fun e w' => DiP (dinJ r.data.toList) e ∧ w' = w := by
  have hll : r.data.toList.length = r.size := by simp
  rw [dinJ, if_neg h0]
  by_cases hn : r.size = 0
  · have hu : uJ r.data.toList = none := by rw [uJ, if_pos (.inl (List.length_eq_zero_iff.1 (by omega)))]
    rw [hu]
    have y0 : ((r.size : Int) == 0) = true := by rw [hn]; rfl
    have y1 : ¬ (0 : Int) < r.size := by omega
    go_enter Tryz.func55, Tryz.ntmps55
    go_wp2
    go_ret2
    exact ⟨rfl, rfl⟩
  · have hpos : 0 < r.size := by omega
    have hh : r.data.toList.head? = some r[0] := by rw [List.head?_eq_getElem?, List.getElem?_eq_getElem (by rw [hll]; exact hpos)]; rfl
    have y0 : ((r.size : Int) == 0) = false := by rw [beq_eq_false_iff_ne]; omega
    rw [hh] at h0
    have y2 : ((r[0].toNat : Int) == 45) = false := by rw [beq_eq_false_iff_ne]; intro q; exact h0 (congrArg some (UInt8.toNat_inj.1 (by show r[0].toNat = 45; omega)))
    have y1 : (0 : Int) < r.size := by omega
    by_cases hz : 1 < r.size ∧ r[0] = 48
    · have hu : uJ r.data.toList = none := by rw [uJ, if_pos (.inr (.inl ⟨by omega, by rw [hh, hz.2]⟩))]
      rw [hu]
      have y3 : (1 : Int) < r.size := by omega
      have y4 : ((r[0].toNat : Int) == 48) = true := by rw [hz.2]; rfl
      clear hu hll hh hz
      go_enter Tryz.func55, Tryz.ntmps55
      go_wp2
      go_ret2
      exact ⟨rfl, rfl⟩
    · by_cases hl : 19 < r.size
      · have hu : uJ r.data.toList = none := by rw [uJ, if_pos (.inr (.inr (by omega)))]
        rw [hu]
        have y3 : (1 : Int) < r.size := by omega
        have y4 : ((r[0].toNat : Int) == 48) = false := by rw [beq_eq_false_iff_ne]; intro q; exact hz ⟨by omega, UInt8.toNat_inj.1 (by show r[0].toNat = 48; omega)⟩
        have y5 : (19 : Int) < r.size := by omega
        clear hu hll hh hz
        go_enter Tryz.func55, Tryz.ntmps55
        go_wp2
        go_ret2
        exact ⟨rfl, rfl⟩
      · have y5 : ¬ (19 : Int) < r.size := by omega
        have hu : uJ r.data.toList = dvJ 0 r.data.toList := uJ_dig (fun q => by rw [q] at hll; simp at hll; omega) (fun q => hz ⟨by have := q.1; omega, by have := q.2; rw [hh] at this; exact Option.some.inj this⟩) (by omega)
        rw [hu]
        by_cases h1 : (1 : Int) < r.size
        · have y4 : ((r[0].toNat : Int) == 48) = false := by rw [beq_eq_false_iff_ne]; intro q; exact hz ⟨by omega, UInt8.toNat_inj.1 (by show r[0].toNat = 48; omega)⟩
          clear hu hh hz
          go_enter Tryz.func55, Tryz.ntmps55
          go_wp2
          go_loopw [5, 6] (fun e5 e6 wr => ∃ i acc : Nat, i ≤ r.size ∧ e5 = .int .u64 (acc : Int) ∧ e6 = .int .i64 (i : Int) ∧ wr = w ∧ acc < 10 ^ i ∧ Hid (dvJ 0 r.data.toList = dvJ acc (r.data.toList.drop i))) (fun _ e6 _ => r.size - (RowKit.intOf e6).toNat)
          case atStart => exact ⟨0, 0, Nat.zero_le _, rfl, rfl, rfl, by decide, hmk rfl⟩
          case round =>
            obtain ⟨i, acc, hi, rfl, rfl, rfl, hacc, HD⟩ := hrel
            have hp : acc ≤ 9999999999999999999 := by
              have : (10 : Nat) ^ i ≤ 10 ^ 19 := Nat.pow_le_pow_right (by decide) (by omega)
              have e : (10 : Nat) ^ 19 = 10000000000000000000 := by decide
              omega
            by_cases hlt : i < r.size
            · have x1 : (i : Int) < r.size := by omega
              have hp2 : acc ≤ 999999999999999999 := by
                have : (10 : Nat) ^ i ≤ 10 ^ 18 := Nat.pow_le_pow_right (by decide) (by omega)
                have e : (10 : Nat) ^ 18 = 1000000000000000000 := by decide
                omega
              have hx := drop_at r i hlt
              by_cases hd : 48 ≤ r[i].toNat ∧ r[i].toNat ≤ 57
              · have x2 : ¬ ((r[i].toNat : Int) < 48) := by omega
                have x3 : ¬ ((57 : Int) < r[i].toNat) := by omega
                have HD2 : Hid (dvJ 0 r.data.toList = dvJ (acc * 10 + (r[i].toNat - 48)) (r.data.toList.drop (i + 1))) := by
                  show _ = _
                  rw [HD.out, hx, dvJ, if_pos hd]
                have hpw : acc * 10 + (r[i].toNat - 48) < 10 ^ (i + 1) := by
                  rw [Nat.pow_succ]
                  generalize (10 : Nat) ^ i = P at *
                  omega
                clear hx HD
                go_wp2
                exact ⟨⟨i + 1, acc * 10 + (r[i].toNat - 48), by omega, by congr 1; omega, by simp, trivial, hpw, HD2⟩, by simp only [RowKit.intOf]; omega⟩
              · have HN : Hid (dvJ 0 r.data.toList = none) := by
                  show _ = _
                  rw [HD.out, hx, dvJ, if_neg hd]
                clear hx HD
                by_cases x2 : ((r[i].toNat : Int) < 48)
                · go_wp2
                  go_ret2
                  rw [HN.out]
                  exact ⟨rfl, rfl⟩
                · have x3 : ((57 : Int) < r[i].toNat) := by omega
                  go_wp2
                  go_ret2
                  rw [HN.out]
                  exact ⟨rfl, rfl⟩
            · have x1 : ¬ (i : Int) < r.size := by omega
              have HS : Hid (dvJ 0 r.data.toList = some acc) := by
                show _ = _
                have e : r.data.toList.drop i = [] := List.drop_eq_nil_of_le (by rw [hll]; omega)
                rw [HD.out, e, dvJ]
              clear HD
              by_cases x4 : 9223372036854775807 < acc
              · have x4' : (9223372036854775807 : Int) < acc := by omega
                go_wp2
                go_ret2
                rw [HS.out, finJ, if_neg (by simp), if_pos x4]
                exact ⟨rfl, rfl⟩
              · have x4' : ¬ (9223372036854775807 : Int) < acc := by omega
                go_wp2
                go_ret2
                rw [HS.out, finJ, if_neg (by simp), if_neg x4]
                refine ⟨?_, rfl⟩
                show Ending.returned (.tuple #[.int .i64 _, .bool true]) = Ending.returned (.tuple #[.int .i64 _, .bool true])
                refine congrArg (fun x => Ending.returned (.tuple #[.int .i64 x, .bool true])) ?_
                simp
        · clear hu hh hz
          go_enter Tryz.func55, Tryz.ntmps55
          go_wp2
          go_loopw [5, 6] (fun e5 e6 wr => ∃ i acc : Nat, i ≤ r.size ∧ e5 = .int .u64 (acc : Int) ∧ e6 = .int .i64 (i : Int) ∧ wr = w ∧ acc < 10 ^ i ∧ Hid (dvJ 0 r.data.toList = dvJ acc (r.data.toList.drop i))) (fun _ e6 _ => r.size - (RowKit.intOf e6).toNat)
          case atStart => exact ⟨0, 0, Nat.zero_le _, rfl, rfl, rfl, by decide, hmk rfl⟩
          case round =>
            obtain ⟨i, acc, hi, rfl, rfl, rfl, hacc, HD⟩ := hrel
            have hp : acc ≤ 9999999999999999999 := by
              have : (10 : Nat) ^ i ≤ 10 ^ 19 := Nat.pow_le_pow_right (by decide) (by omega)
              have e : (10 : Nat) ^ 19 = 10000000000000000000 := by decide
              omega
            by_cases hlt : i < r.size
            · have x1 : (i : Int) < r.size := by omega
              have hp2 : acc ≤ 999999999999999999 := by
                have : (10 : Nat) ^ i ≤ 10 ^ 18 := Nat.pow_le_pow_right (by decide) (by omega)
                have e : (10 : Nat) ^ 18 = 1000000000000000000 := by decide
                omega
              have hx := drop_at r i hlt
              by_cases hd : 48 ≤ r[i].toNat ∧ r[i].toNat ≤ 57
              · have x2 : ¬ ((r[i].toNat : Int) < 48) := by omega
                have x3 : ¬ ((57 : Int) < r[i].toNat) := by omega
                have HD2 : Hid (dvJ 0 r.data.toList = dvJ (acc * 10 + (r[i].toNat - 48)) (r.data.toList.drop (i + 1))) := by
                  show _ = _
                  rw [HD.out, hx, dvJ, if_pos hd]
                have hpw : acc * 10 + (r[i].toNat - 48) < 10 ^ (i + 1) := by
                  rw [Nat.pow_succ]
                  generalize (10 : Nat) ^ i = P at *
                  omega
                clear hx HD
                go_wp2
                exact ⟨⟨i + 1, acc * 10 + (r[i].toNat - 48), by omega, by congr 1; omega, by simp, trivial, hpw, HD2⟩, by simp only [RowKit.intOf]; omega⟩
              · have HN : Hid (dvJ 0 r.data.toList = none) := by
                  show _ = _
                  rw [HD.out, hx, dvJ, if_neg hd]
                clear hx HD
                by_cases x2 : ((r[i].toNat : Int) < 48)
                · go_wp2
                  go_ret2
                  rw [HN.out]
                  exact ⟨rfl, rfl⟩
                · have x3 : ((57 : Int) < r[i].toNat) := by omega
                  go_wp2
                  go_ret2
                  rw [HN.out]
                  exact ⟨rfl, rfl⟩
            · have x1 : ¬ (i : Int) < r.size := by omega
              have HS : Hid (dvJ 0 r.data.toList = some acc) := by
                show _ = _
                have e : r.data.toList.drop i = [] := List.drop_eq_nil_of_le (by rw [hll]; omega)
                rw [HD.out, e, dvJ]
              clear HD
              by_cases x4 : 9223372036854775807 < acc
              · have x4' : (9223372036854775807 : Int) < acc := by omega
                go_wp2
                go_ret2
                rw [HS.out, finJ, if_neg (by simp), if_pos x4]
                exact ⟨rfl, rfl⟩
              · have x4' : ¬ (9223372036854775807 : Int) < acc := by omega
                go_wp2
                go_ret2
                rw [HS.out, finJ, if_neg (by simp), if_neg x4]
                refine ⟨?_, rfl⟩
                show Ending.returned (.tuple #[.int .i64 _, .bool true]) = Ending.returned (.tuple #[.int .i64 _, .bool true])
                refine congrArg (fun x => Ending.returned (.tuple #[.int .i64 x, .bool true])) ?_
                simp
end Go.Proofs.YtpmhdcmmlkjjmaaGreatDoor
