/- Contracts: what the law QuoteScalars calls of its own: digits, written, scalar. -/
import Derived.Test.YtcoamnmgkhlahaaDoorGives
import Derived.Test.YtcoamnmgkhlahaaDoorPlainY
import Derived.Test.YtcoamnmgkhlahaaDoorRdB
import Derived.Deep.RegionLaw
set_option linter.unusedSimpArgs false
set_option linter.unusedVariables false
namespace Go.Proofs.YtcoamnmgkhlahaaDoor
open Go.RowKit Go.Lib

theorem ret_str {x y : ByteArray} (h : x = y) : Ending.returned (.string x) = .returned (.string y) := by rw [h]
theorem small_at : ∀ d : Fin 16, (⟨#[48, 49, 50, 51, 52, 53, 54, 55, 56, 57, 97, 98, 99, 100, 101, 102]⟩ : ByteArray).extract d.val (d.val + 1) = ⟨#[UInt8.ofNat (Q.hexG false d.val)]⟩ := by decide +kernel
theorem great_at : ∀ d : Fin 16, (⟨#[48, 49, 50, 51, 52, 53, 54, 55, 56, 57, 65, 66, 67, 68, 69, 70]⟩ : ByteArray).extract d.val (d.val + 1) = ⟨#[UInt8.ofNat (Q.hexG true d.val)]⟩ := by decide +kernel
theorem slice_at (L : ByteArray) (h : L.size = 16) (d : Nat) (hd : d < 16) (W : World) :
    (Instr.slice 9 (.string L) (some (.int .i64 (d : Int))) (some (.int .i64 ((d : Int) + 1))) none).run Tryd.prog W = .ok (.string (L.extract d (d + 1))) W := by
  have h := run_slice_string (P := Tryd.prog) W 9 L .i64 .i64 (d : Int) ((d : Int) + 1) Tryd.underlying9 (by omega) (by omega) (by omega)
  have e1 : (d : Int).toNat = d := by omega
  have e2 : ((d : Int) + 1).toNat = d + 1 := by omega
  rw [e1, e2] at h
  exact h
theorem dgs_cat (g : Bool) (n : Nat) : (⟨#[UInt8.ofNat (Q.hexG g (n / 4096 % 16))]⟩ ++ ⟨#[UInt8.ofNat (Q.hexG g (n / 256 % 16))]⟩ ++ ⟨#[UInt8.ofNat (Q.hexG g (n / 16 % 16))]⟩ ++ ⟨#[UInt8.ofNat (Q.hexG g (n % 16))]⟩ : ByteArray) = ⟨(Q.dgs g n).toArray⟩ := by
  apply ByteArray.ext
  simp [ByteArray.data_append, Q.dgs]

set_option maxHeartbeats 2000000 in
set_option maxRecDepth 100000 in
theorem digits_s (n : Nat) (hn : n < 65536) (w : World) :
    Calls Tryd.prog 28 #[.int .i64 (n : Int), .bool false] w fun e w' => e = .returned (.string ⟨(Q.dgs false n).toArray⟩) ∧ ∃ k, w' = w.drewN k := by
  have HC := dgs_cat false n
  have hA := slice_at ⟨#[48, 49, 50, 51, 52, 53, 54, 55, 56, 57, 97, 98, 99, 100, 101, 102]⟩ rfl (n / 4096 % 16) (by omega)
  have hB := slice_at ⟨#[48, 49, 50, 51, 52, 53, 54, 55, 56, 57, 97, 98, 99, 100, 101, 102]⟩ rfl (n / 256 % 16) (by omega)
  have hC := slice_at ⟨#[48, 49, 50, 51, 52, 53, 54, 55, 56, 57, 97, 98, 99, 100, 101, 102]⟩ rfl (n / 16 % 16) (by omega)
  have hD := slice_at ⟨#[48, 49, 50, 51, 52, 53, 54, 55, 56, 57, 97, 98, 99, 100, 101, 102]⟩ rfl (n % 16) (by omega)
  have lA := small_at ⟨n / 4096 % 16, by omega⟩
  have lB := small_at ⟨n / 256 % 16, by omega⟩
  have lC := small_at ⟨n / 16 % 16, by omega⟩
  have lD := small_at ⟨n % 16, by omega⟩
  simp only at lA lB lC lD
  rw [lA] at hA
  rw [lB] at hB
  rw [lC] at hC
  rw [lD] at hD
  have w1 : IntKind.i64.wrap ((n : Int) / 4096) = (n : Int) / 4096 := by rw [IntKind.wrap_i64]; omega
  have w2 : IntKind.i64.wrap ((n : Int) / 256) = (n : Int) / 256 := by rw [IntKind.wrap_i64]; omega
  have w3 : IntKind.i64.wrap ((n : Int) / 16) = (n : Int) / 16 := by rw [IntKind.wrap_i64]; omega
  have a1 : (IntKind.i64.wrap ((n : Int) / 4096)).tmod 16 = ((n / 4096 % 16 : Nat) : Int) := by rw [w1, Int.tmod_eq_emod_of_nonneg (by omega)]; omega
  have b1 : (IntKind.i64.wrap ((n : Int) / 256)).tmod 16 = ((n / 256 % 16 : Nat) : Int) := by rw [w2, Int.tmod_eq_emod_of_nonneg (by omega)]; omega
  have c1 : (IntKind.i64.wrap ((n : Int) / 16)).tmod 16 = ((n / 16 % 16 : Nat) : Int) := by rw [w3, Int.tmod_eq_emod_of_nonneg (by omega)]; omega
  have d1 : (n : Int).tmod 16 = ((n % 16 : Nat) : Int) := by rw [Int.tmod_eq_emod_of_nonneg (by omega)]; omega
  obtain ⟨A, hAe⟩ : ∃ A, A = n / 4096 % 16 := ⟨_, rfl⟩
  obtain ⟨B, hBe⟩ : ∃ B, B = n / 256 % 16 := ⟨_, rfl⟩
  obtain ⟨C, hCe⟩ : ∃ C, C = n / 16 % 16 := ⟨_, rfl⟩
  obtain ⟨D, hDe⟩ : ∃ D, D = n % 16 := ⟨_, rfl⟩
  rw [← hAe] at a1 hA HC
  rw [← hBe] at b1 hB HC
  rw [← hCe] at c1 hC HC
  rw [← hDe] at d1 hD HC
  have a2 : IntKind.i64.wrap ((A : Int) + 1) = (A : Int) + 1 := by rw [IntKind.wrap_i64]; omega
  have b2 : IntKind.i64.wrap ((B : Int) + 1) = (B : Int) + 1 := by rw [IntKind.wrap_i64]; omega
  have c2 : IntKind.i64.wrap ((C : Int) + 1) = (C : Int) + 1 := by rw [IntKind.wrap_i64]; omega
  have d2 : IntKind.i64.wrap ((D : Int) + 1) = (D : Int) + 1 := by rw [IntKind.wrap_i64]; omega
  have z1 : ¬ 9223372036854775807 < (⟨#[UInt8.ofNat (Q.hexG false A)]⟩ : ByteArray).size + (⟨#[UInt8.ofNat (Q.hexG false B)]⟩ : ByteArray).size := by show ¬ 9223372036854775807 < 1 + 1; omega
  have s1 : ∀ a : UInt8, (⟨#[a]⟩ : ByteArray).size = 1 := fun a => rfl
  obtain ⟨SA, hSA⟩ : ∃ X : ByteArray, X = ⟨#[UInt8.ofNat (Q.hexG false A)]⟩ := ⟨_, rfl⟩
  obtain ⟨SB, hSB⟩ : ∃ X : ByteArray, X = ⟨#[UInt8.ofNat (Q.hexG false B)]⟩ := ⟨_, rfl⟩
  obtain ⟨SC, hSC⟩ : ∃ X : ByteArray, X = ⟨#[UInt8.ofNat (Q.hexG false C)]⟩ := ⟨_, rfl⟩
  obtain ⟨SD, hSD⟩ : ∃ X : ByteArray, X = ⟨#[UInt8.ofNat (Q.hexG false D)]⟩ := ⟨_, rfl⟩
  have zA : SA.size = 1 := by rw [hSA]; rfl
  have zB : SB.size = 1 := by rw [hSB]; rfl
  have zC : SC.size = 1 := by rw [hSC]; rfl
  have zD : SD.size = 1 := by rw [hSD]; rfl
  rw [← hSA] at hA HC
  rw [← hSB] at hB HC
  rw [← hSC] at hC HC
  rw [← hSD] at hD HC
  have y1 : ¬ 9223372036854775807 < SA.size + SB.size := by omega
  have y2 : ¬ 9223372036854775807 < (SA ++ SB).size + SC.size := by rw [ByteArray.size_append]; omega
  have y3 : ¬ 9223372036854775807 < (SA ++ SB ++ SC).size + SD.size := by rw [ByteArray.size_append, ByteArray.size_append]; omega
  have y2' : ¬ 9223372036854775807 < SA.size + SB.size + SC.size := by omega
  have y3' : ¬ 9223372036854775807 < SA.size + SB.size + SC.size + SD.size := by omega
  have HH : Hid (SA ++ SB ++ SC ++ SD = ⟨(Q.dgs false n).toArray⟩) := HC
  clear HC z1 s1 hSA hSB hSC hSD hAe hBe hCe hDe w1 w2 w3 lA lB lC lD zA zB zC zD
  go_enter Tryd.func28, Tryd.ntmps28
  go_wp2_with fail
  go_quiet (fail)
  go_wp2
  go_ret
  exact ⟨ret_str HH.out, _, rfl⟩
set_option maxHeartbeats 2000000 in
set_option maxRecDepth 100000 in
theorem digits_g (n : Nat) (hn : n < 65536) (w : World) :
    Calls Tryd.prog 28 #[.int .i64 (n : Int), .bool true] w fun e w' => e = .returned (.string ⟨(Q.dgs true n).toArray⟩) ∧ ∃ k, w' = w.drewN k := by
  have HC := dgs_cat true n
  have hA := slice_at ⟨#[48, 49, 50, 51, 52, 53, 54, 55, 56, 57, 65, 66, 67, 68, 69, 70]⟩ rfl (n / 4096 % 16) (by omega)
  have hB := slice_at ⟨#[48, 49, 50, 51, 52, 53, 54, 55, 56, 57, 65, 66, 67, 68, 69, 70]⟩ rfl (n / 256 % 16) (by omega)
  have hC := slice_at ⟨#[48, 49, 50, 51, 52, 53, 54, 55, 56, 57, 65, 66, 67, 68, 69, 70]⟩ rfl (n / 16 % 16) (by omega)
  have hD := slice_at ⟨#[48, 49, 50, 51, 52, 53, 54, 55, 56, 57, 65, 66, 67, 68, 69, 70]⟩ rfl (n % 16) (by omega)
  have lA := great_at ⟨n / 4096 % 16, by omega⟩
  have lB := great_at ⟨n / 256 % 16, by omega⟩
  have lC := great_at ⟨n / 16 % 16, by omega⟩
  have lD := great_at ⟨n % 16, by omega⟩
  simp only at lA lB lC lD
  rw [lA] at hA
  rw [lB] at hB
  rw [lC] at hC
  rw [lD] at hD
  have w1 : IntKind.i64.wrap ((n : Int) / 4096) = (n : Int) / 4096 := by rw [IntKind.wrap_i64]; omega
  have w2 : IntKind.i64.wrap ((n : Int) / 256) = (n : Int) / 256 := by rw [IntKind.wrap_i64]; omega
  have w3 : IntKind.i64.wrap ((n : Int) / 16) = (n : Int) / 16 := by rw [IntKind.wrap_i64]; omega
  have a1 : (IntKind.i64.wrap ((n : Int) / 4096)).tmod 16 = ((n / 4096 % 16 : Nat) : Int) := by rw [w1, Int.tmod_eq_emod_of_nonneg (by omega)]; omega
  have b1 : (IntKind.i64.wrap ((n : Int) / 256)).tmod 16 = ((n / 256 % 16 : Nat) : Int) := by rw [w2, Int.tmod_eq_emod_of_nonneg (by omega)]; omega
  have c1 : (IntKind.i64.wrap ((n : Int) / 16)).tmod 16 = ((n / 16 % 16 : Nat) : Int) := by rw [w3, Int.tmod_eq_emod_of_nonneg (by omega)]; omega
  have d1 : (n : Int).tmod 16 = ((n % 16 : Nat) : Int) := by rw [Int.tmod_eq_emod_of_nonneg (by omega)]; omega
  obtain ⟨A, hAe⟩ : ∃ A, A = n / 4096 % 16 := ⟨_, rfl⟩
  obtain ⟨B, hBe⟩ : ∃ B, B = n / 256 % 16 := ⟨_, rfl⟩
  obtain ⟨C, hCe⟩ : ∃ C, C = n / 16 % 16 := ⟨_, rfl⟩
  obtain ⟨D, hDe⟩ : ∃ D, D = n % 16 := ⟨_, rfl⟩
  rw [← hAe] at a1 hA HC
  rw [← hBe] at b1 hB HC
  rw [← hCe] at c1 hC HC
  rw [← hDe] at d1 hD HC
  have a2 : IntKind.i64.wrap ((A : Int) + 1) = (A : Int) + 1 := by rw [IntKind.wrap_i64]; omega
  have b2 : IntKind.i64.wrap ((B : Int) + 1) = (B : Int) + 1 := by rw [IntKind.wrap_i64]; omega
  have c2 : IntKind.i64.wrap ((C : Int) + 1) = (C : Int) + 1 := by rw [IntKind.wrap_i64]; omega
  have d2 : IntKind.i64.wrap ((D : Int) + 1) = (D : Int) + 1 := by rw [IntKind.wrap_i64]; omega
  have z1 : ¬ 9223372036854775807 < (⟨#[UInt8.ofNat (Q.hexG true A)]⟩ : ByteArray).size + (⟨#[UInt8.ofNat (Q.hexG true B)]⟩ : ByteArray).size := by show ¬ 9223372036854775807 < 1 + 1; omega
  have s1 : ∀ a : UInt8, (⟨#[a]⟩ : ByteArray).size = 1 := fun a => rfl
  obtain ⟨SA, hSA⟩ : ∃ X : ByteArray, X = ⟨#[UInt8.ofNat (Q.hexG true A)]⟩ := ⟨_, rfl⟩
  obtain ⟨SB, hSB⟩ : ∃ X : ByteArray, X = ⟨#[UInt8.ofNat (Q.hexG true B)]⟩ := ⟨_, rfl⟩
  obtain ⟨SC, hSC⟩ : ∃ X : ByteArray, X = ⟨#[UInt8.ofNat (Q.hexG true C)]⟩ := ⟨_, rfl⟩
  obtain ⟨SD, hSD⟩ : ∃ X : ByteArray, X = ⟨#[UInt8.ofNat (Q.hexG true D)]⟩ := ⟨_, rfl⟩
  have zA : SA.size = 1 := by rw [hSA]; rfl
  have zB : SB.size = 1 := by rw [hSB]; rfl
  have zC : SC.size = 1 := by rw [hSC]; rfl
  have zD : SD.size = 1 := by rw [hSD]; rfl
  rw [← hSA] at hA HC
  rw [← hSB] at hB HC
  rw [← hSC] at hC HC
  rw [← hSD] at hD HC
  have y1 : ¬ 9223372036854775807 < SA.size + SB.size := by omega
  have y2 : ¬ 9223372036854775807 < (SA ++ SB).size + SC.size := by rw [ByteArray.size_append]; omega
  have y3 : ¬ 9223372036854775807 < (SA ++ SB ++ SC).size + SD.size := by rw [ByteArray.size_append, ByteArray.size_append]; omega
  have y2' : ¬ 9223372036854775807 < SA.size + SB.size + SC.size := by omega
  have y3' : ¬ 9223372036854775807 < SA.size + SB.size + SC.size + SD.size := by omega
  have HH : Hid (SA ++ SB ++ SC ++ SD = ⟨(Q.dgs true n).toArray⟩) := HC
  clear HC z1 s1 hSA hSB hSC hSD hAe hBe hCe hDe w1 w2 w3 lA lB lC lD zA zB zC zD
  go_enter Tryd.func28, Tryd.ntmps28
  go_wp2_with fail
  go_quiet (fail)
  go_wp2
  go_ret
  exact ⟨ret_str HH.out, _, rfl⟩
theorem lawDigits_any (g : Bool) (n : Nat) (hn : n < 65536) (w : World) :
    Calls Tryd.prog 28 #[.int .i64 (n : Int), .bool g] w fun e w' => e = .returned (.string ⟨(Q.dgs g n).toArray⟩) ∧ ∃ k, w' = w.drewN k := by
  cases g
  · exact digits_s n hn w
  · exact digits_g n hn w

set_option maxHeartbeats 2000000 in
set_option maxRecDepth 100000 in
theorem scalar_any (z : Int) (w : World) (hz1 : -9223372036854775808 ≤ z) (hz2 : z ≤ 9223372036854775807) :
    Calls Tryd.prog 16 #[.int .i64 z] w fun e w' => e = .returned (.int .i64 (Q.scal z : Int)) ∧ w' = w := by
  have ht := Q.tmod_lt z
  have hsc : Hid ((Q.scal z : Int) = if z.tmod 1112064 < 0 then (if z.tmod 1112064 + 1112064 ≥ 55296 then z.tmod 1112064 + 1114112 else z.tmod 1112064 + 1112064) else if z.tmod 1112064 ≥ 55296 then z.tmod 1112064 + 2048 else z.tmod 1112064) := by
    show _ = _
    unfold Q.scal
    split
    · split <;> omega
    · split <;> omega
  generalize (Q.scal z : Int) = S at *
  have hm : ∀ M : Int, -1112064 < M → M < 1112064 → wrap64 (wrap64 (M + 1114112) - 2048) = M + 1112064 ∧ wrap64 (M + 1112064 + 2048) = M + 1114112 ∧ wrap64 (M + 2048) = M + 2048 := by
    intro M h1 h2
    unfold wrap64
    omega
  obtain ⟨m1, m2, m3⟩ := hm _ ht.1 ht.2
  clear hm
  go_enter Tryd.func16, Tryd.ntmps16
  by_cases h0 : z.tmod 1112064 < 0
  · by_cases h1 : z.tmod 1112064 + 1112064 ≥ 55296
    · go_wp2
      go_ret
      exact ⟨ret_int (by rw [hsc.out]; repeat' split; all_goals omega), rfl⟩
    · have h1' : z.tmod 1112064 + 1112064 < 55296 := by omega
      go_wp2
      go_ret
      exact ⟨ret_int (by rw [hsc.out]; repeat' split; all_goals omega), rfl⟩
  · by_cases h1 : z.tmod 1112064 ≥ 55296
    · go_wp2
      go_ret
      exact ⟨ret_int (by rw [hsc.out]; repeat' split; all_goals omega), rfl⟩
    · have h1' : z.tmod 1112064 < 55296 := by omega
      go_wp2
      go_ret
      exact ⟨ret_int (by rw [hsc.out]; repeat' split; all_goals omega), rfl⟩

set_option maxHeartbeats 1000000 in
set_option maxRecDepth 100000 in
theorem written_lo (g : Bool) (c : Nat) (h : c < 65536) (w : World) :
    Calls Tryd.prog 17 #[.int .i64 (c : Int), .bool g] w fun e w' => e = .returned (.string ⟨(Q.wr g c).toArray⟩) ∧ ∃ k, w' = w.drewN k := by
  have cd : Hid (∀ w, Calls Tryd.prog 28 #[.int .i64 (c : Int), .bool g] w fun e w' => e = .returned (.string ⟨(Q.dgs g c).toArray⟩) ∧ ∃ k, w' = w.drewN k) := lawDigits_any g c h
  have HW : Hid ((⟨#[92, 117]⟩ : ByteArray) ++ ⟨(Q.dgs g c).toArray⟩ = ⟨(Q.wr g c).toArray⟩) := by
    show _ = _
    rw [Q.wr, if_pos h]
    apply ByteArray.ext
    simp [ByteArray.data_append]
  have hX : (⟨(Q.dgs g c).toArray⟩ : ByteArray).size = 4 := rfl
  generalize (⟨(Q.dgs g c).toArray⟩ : ByteArray) = X at *
  have y1 : (c : Int) < 65536 := by omega
  clear h
  generalize (c : Int) = V at *
  have z1 : ¬ 9223372036854775807 < (⟨#[92, 117]⟩ : ByteArray).size + X.size := by show ¬ 9223372036854775807 < 2 + X.size; omega
  have z2 : ¬ 9223372036854775807 < 2 + X.size := by omega
  clear hX
  go_enter Tryd.func17, Tryd.ntmps17
  go_wp2_with (go_at_call 28; refine (cd.out _).mono ?_; rintro e w1 ⟨rfl, k, rfl⟩)
  go_ret
  exact ⟨ret_str HW.out, _, rfl⟩

set_option maxHeartbeats 1000000 in
set_option maxRecDepth 100000 in
theorem written_hi (g : Bool) (c : Nat) (h : ¬ c < 65536) (h2 : c ≤ 1114111) (w : World) :
    Calls Tryd.prog 17 #[.int .i64 (c : Int), .bool g] w fun e w' => e = .returned (.string ⟨(Q.wr g c).toArray⟩) ∧ ∃ k, w' = w.drewN k := by
  have cd := lawDigits_any g (55296 + (c - 65536) / 1024) (by omega)
  have ce := lawDigits_any g (56320 + (c - 65536) % 1024) (by omega)
  have e1 : ((55296 + (c - 65536) / 1024 : Nat) : Int) = 55296 + ((c : Int) - 65536) / 1024 := by omega
  have e2 : ((56320 + (c - 65536) % 1024 : Nat) : Int) = 56320 + ((c : Int) - 65536) % 1024 := by omega
  rw [e1] at cd
  rw [e2] at ce
  have HW : Hid ((⟨#[92, 117]⟩ : ByteArray) ++ ⟨(Q.dgs g (55296 + (c - 65536) / 1024)).toArray⟩ ++ ⟨#[92, 117]⟩ ++ ⟨(Q.dgs g (56320 + (c - 65536) % 1024)).toArray⟩ = ⟨(Q.wr g c).toArray⟩) := by
    show _ = _
    rw [Q.wr, if_neg h]
    apply ByteArray.ext
    simp [ByteArray.data_append]
  have hX : (⟨(Q.dgs g (55296 + (c - 65536) / 1024)).toArray⟩ : ByteArray).size = 4 := rfl
  have hY : (⟨(Q.dgs g (56320 + (c - 65536) % 1024)).toArray⟩ : ByteArray).size = 4 := rfl
  generalize (⟨(Q.dgs g (55296 + (c - 65536) / 1024)).toArray⟩ : ByteArray) = X at *
  generalize (⟨(Q.dgs g (56320 + (c - 65536) % 1024)).toArray⟩ : ByteArray) = Y at *
  have y1 : ¬ (c : Int) < 65536 := by omega
  have y2 : (65536 : Int) ≤ c := by omega
  have y3 : (c : Int) ≤ 1114111 := by omega
  clear h h2 e1 e2
  generalize (c : Int) = V at *
  have tm : (V - 65536).tmod 1024 = (V - 65536) % 1024 := Int.tmod_eq_emod_of_nonneg (by omega)
  have tm2 : (V - 65536) % 1024 < 1024 := by omega
  have tm3 : 0 ≤ (V - 65536) % 1024 := by omega
  have cd' : Hid (∀ w, Calls Tryd.prog 28 #[.int .i64 (55296 + (V - 65536) / 1024), .bool g] w fun e w' => e = .returned (.string X) ∧ ∃ k, w' = w.drewN k) := cd
  have ce' : Hid (∀ w, Calls Tryd.prog 28 #[.int .i64 (56320 + (V - 65536) % 1024), .bool g] w fun e w' => e = .returned (.string Y) ∧ ∃ k, w' = w.drewN k) := ce
  clear cd ce
  have z2 : ¬ 9223372036854775807 < 2 + X.size := by omega
  have z3 : ¬ 9223372036854775807 < 2 + X.size + 2 := by omega
  have z4 : ¬ 9223372036854775807 < 2 + X.size + 2 + Y.size := by omega
  clear hX hY
  go_enter Tryd.func17, Tryd.ntmps17
  go_wp2_with fail
  refine (cd'.out _).mono ?_
  rintro e w1 ⟨rfl, k, rfl⟩
  go_wp2_with fail
  refine (ce'.out _).mono ?_
  rintro e w1 ⟨rfl, k2, rfl⟩
  go_wp2
  go_ret
  refine ⟨ret_str HW.out, k + k2, ?_⟩
  first | rfl | exact (World.drewN_add _ _ _).symm | simp

theorem written_any (g : Bool) (c : Nat) (h2 : c ≤ 1114111) (w : World) :
    Calls Tryd.prog 17 #[.int .i64 (c : Int), .bool g] w fun e w' => e = .returned (.string ⟨(Q.wr g c).toArray⟩) ∧ ∃ k, w' = w.drewN k := by
  by_cases h : c < 65536
  · exact written_lo g c h w
  · exact written_hi g c h h2 w
end Go.Proofs.YtcoamnmgkhlahaaDoor
