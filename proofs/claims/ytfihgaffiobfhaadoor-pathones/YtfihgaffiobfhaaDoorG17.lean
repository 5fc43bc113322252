/- joined: ShlI DigA -/
import Derived.Shelf.Strconv.Itoa3
import Derived.Lib.AppendIntMem
import Derived.Test.YtfihgaffiobfhaaDoorG13
import Derived.Lib.ItoaLen
/- The library's contract of strconv.Itoa, laid at this program. -/
set_option linter.unusedSimpArgs false
set_option linter.unusedVariables false
namespace Go.Proofs
open Go.Shelf Go.RowKit
def Tryd.lays171_ren : Go.Shelf.Ren := ⟨fun | 129 => 86 | 171 => 46 | 243 => 61 | 246 => 72 | 283 => 78 | 284 => 79 | 285 => 80 | 286 => 81 | 317 => 85 | 318 => 87 | 319 => 88 | 320 => 89 | 337 => 93 | 338 => 94 | n => n, fun | 0 => 0 | 2 => 2 | 3 => 3 | 4 => 4 | 5 => 5 | 9 => 9 | 20 => 20 | 37 => 46 | 46 => 91 | 51 => 119 | 53 => 84 | 171 => 108 | 173 => 111 | 212 => 118 | 213 => 120 | 232 => 124 | 233 => 125 | n => n, fun | 17 => 3 | 18 => 5 | 19 => 6 | n => n⟩
set_option maxRecDepth 100000 in
theorem Tryd.lays171 : Go.Proofs.LaysM.n171 Tryd.prog Tryd.lays171_ren := {
  mixed := by kernel_rfl
  f129 := Tryd.func86.trans (congrArg some (by kernel_rfl))
  f171 := Tryd.func46.trans (congrArg some (by kernel_rfl))
  f243 := Tryd.func61.trans (congrArg some (by kernel_rfl))
  f246 := Tryd.func72.trans (congrArg some (by kernel_rfl))
  f283 := Tryd.func78.trans (congrArg some (by kernel_rfl))
  f284 := Tryd.func79.trans (congrArg some (by kernel_rfl))
  f285 := Tryd.func80.trans (congrArg some (by kernel_rfl))
  f286 := Tryd.func81.trans (congrArg some (by kernel_rfl))
  f317 := Tryd.func85.trans (congrArg some (by kernel_rfl))
  f318 := Tryd.func87.trans (congrArg some (by kernel_rfl))
  f319 := Tryd.func88.trans (congrArg some (by kernel_rfl))
  f320 := Tryd.func89.trans (congrArg some (by kernel_rfl))
  f337 := Tryd.func93.trans (congrArg some (by kernel_rfl))
  f338 := Tryd.func94.trans (congrArg some (by kernel_rfl))
  t0 := Tryd.underlying0
  a0 := Tryd.isAgg0
  z0 := Tryd.sizeOf0
  v0 := Tryd.zeroValue0
  t2 := Tryd.underlying2
  a2 := Tryd.isAgg2
  z2 := Tryd.sizeOf2
  v2 := Tryd.zeroValue2
  t3 := Tryd.underlying3
  a3 := Tryd.isAgg3
  z3 := Tryd.sizeOf3
  v3 := Tryd.zeroValue3
  t4 := Tryd.underlying4
  a4 := Tryd.isAgg4
  z4 := Tryd.sizeOf4
  v4 := Tryd.zeroValue4
  t5 := Tryd.underlying5
  a5 := Tryd.isAgg5
  z5 := Tryd.sizeOf5
  v5 := Tryd.zeroValue5
  t9 := Tryd.underlying9
  a9 := Tryd.isAgg9
  z9 := Tryd.sizeOf9
  v9 := Tryd.zeroValue9
  t20 := Tryd.underlying20
  a20 := Tryd.isAgg20
  z20 := Tryd.sizeOf20
  v20 := Tryd.zeroValue20
  t37 := Tryd.underlying46
  a37 := Tryd.isAgg46
  z37 := Tryd.sizeOf46
  v37 := Tryd.zeroValue46
  t46 := Tryd.underlying91
  a46 := Tryd.isAgg91
  z46 := Tryd.sizeOf91
  v46 := Tryd.zeroValue91
  t51 := Tryd.underlying119
  a51 := Tryd.isAgg119
  z51 := Tryd.sizeOf119
  v51 := Tryd.zeroValue119
  t53 := Tryd.underlying84
  a53 := Tryd.isAgg84
  z53 := Tryd.sizeOf84
  v53 := Tryd.zeroValue84
  t171 := Tryd.underlying108
  a171 := Tryd.isAgg108
  z171 := Tryd.sizeOf108
  v171 := Tryd.zeroValue108
  t173 := Tryd.underlying111
  a173 := Tryd.isAgg111
  z173 := Tryd.sizeOf111
  v173 := Tryd.zeroValue111
  t212 := Tryd.underlying118
  a212 := Tryd.isAgg118
  z212 := Tryd.sizeOf118
  v212 := Tryd.zeroValue118
  t213 := Tryd.underlying120
  a213 := Tryd.isAgg120
  z213 := Tryd.sizeOf120
  t232 := Tryd.underlying124
  a232 := Tryd.isAgg124
  z232 := Tryd.sizeOf124
  v232 := Tryd.zeroValue124
  t233 := Tryd.underlying125
  a233 := Tryd.isAgg125
  z233 := Tryd.sizeOf125
  v233 := Tryd.zeroValue125
  g17 := by kernel_rfl
  g18 := by kernel_rfl
  g19 := by kernel_rfl
  i0 := by kernel_rfl
  i2 := by kernel_rfl
  i3 := by kernel_rfl
  i4 := by kernel_rfl
  i5 := by kernel_rfl
  i9 := by kernel_rfl
  i20 := by kernel_rfl
  i37 := by kernel_rfl
  i46 := by kernel_rfl
  i51 := by kernel_rfl
  i53 := by kernel_rfl
  i171 := by kernel_rfl
  i173 := by kernel_rfl
  i212 := by kernel_rfl
  i232 := by kernel_rfl
  i233 := by kernel_rfl
  m17 := by kernel_rfl
  m18 := by kernel_rfl
  m19 := by kernel_rfl }
namespace YtfihgaffiobfhaaDoor
open Go.Lib
theorem itoa_any (n : Int) (h : In64 n) (w : World) (tp : PowTab w) :
    Calls Tryd.prog 46 #[.int .i64 n] w fun e w' => e = .returned (.string ⟨(itoa n).toArray⟩) ∧ Below w.heap.size w w' := by
  refine (Any.strconv_Itoa Tryd.lays171 n h.1 h.2 w tp).mono ?_
  rintro e w' ⟨he, k, os, rfl⟩
  exact ⟨he, below_grow _ _ (Nat.le_refl _) _ _⟩
end YtfihgaffiobfhaaDoor
end Go.Proofs
/- freeholdref03.unsigned, digits. -/
namespace Go.Proofs.YtfihgaffiobfhaaDoor
open Go.RowKit Go.Lib
theorem hmk2 {p : Prop} (h : p) : Hid p := h
def StPost (l : List UInt8) (w : World) (e : Ending) (w' : World) : Prop := e = .returned (.string ⟨l.toArray⟩) ∧ Below w.heap.size w w'
theorem conv_one (W W' : World) (c : UInt8) (x : Int) (hx : x = (c.toNat : Int)) (hb : Below (W.alloc (.cells #[.int .u8 x] 5)).heap.size (W.alloc (.cells #[.int .u8 x] 5)) W') :
    (convert 46 9 (.slice (some ⟨W.heap.size, 0, none⟩) 1 1)).run Tryd.prog W' = .ok (.string ⟨#[c]⟩) W' := by
  subst hx
  have hk : W'.heap[W.heap.size]? = some (.cells #[.int .u8 (c.toNat : Int)] 5) := (hb.block _ (by rw [alloc_size]; omega)).trans (heap_alloc_new W _)
  have ho : OwnB 0 (.slice (some ⟨W.heap.size, 0, none⟩) 1 1) [c] W' := by
    refine ⟨rfl, .inr ⟨W.heap.size, 1, #[.int .u8 (c.toNat : Int)], rfl, Nat.zero_le _, hk, by simp, by simp [maxLen], by simp, by simp [byteCells]⟩⟩
  exact ho.conv
theorem ba_app (E : List UInt8) (c : UInt8) : (⟨E.toArray⟩ : ByteArray) ++ ⟨#[c]⟩ = ⟨(E ++ [c]).toArray⟩ := by
  apply ByteArray.ext
  simp [ByteArray.data_append]
theorem below_drew (w : World) : Below w.heap.size w w.drew := ⟨rfl, rfl, rfl, Nat.le_refl _, fun _ _ => rfl⟩
set_option maxHeartbeats 1000000 in
set_option maxRecDepth 100000 in
theorem uns_any (u : Nat) : ∀ (w : World), u < 18446744073709551616 → Calls Tryd.prog 64 #[.int .u64 (u : Int)] w (StPost (decDigits u) w) := by
  induction u using Nat.strongRecOn with
  | ind u ih =>
  intro w hu
  by_cases h10 : u < 10
  · have y1 : (u : Int) < 10 := by omega
    have HD : Hid (decDigits u = [UInt8.ofNat (48 + u)]) := by show _ = _; rw [decDigits, dif_pos h10]
    have hc := conv_one w _ (UInt8.ofNat (48 + u)) ((u : Int) + 48) (by rw [UInt8.toNat_ofNat']; omega) (Below.refl _ _)
    generalize UInt8.ofNat (48 + u) = c at *
    generalize decDigits u = D at *
    go_enter Tryd.func64, Tryd.ntmps64
    go_wp2_with fail
    go_ret
    exact ⟨by rw [HD.out]; rfl, (Below.refl _ _).alloc (Nat.le_refl _) _⟩
  · have y1 : ¬ (u : Int) < 10 := by omega
    have HD : Hid (decDigits u = decDigits (u / 10) ++ [UInt8.ofNat (48 + u % 10)]) := by show _ = _; rw [decDigits, dif_neg h10]
    have HC : Hid (∀ W, Calls Tryd.prog 64 #[.int .u64 ((u : Int) / 10)] W (StPost (decDigits (u / 10)) W)) := fun W => ih (u / 10) (by omega) W (by omega)
    have CB : ∀ W W' : World, Below (W.alloc (.cells #[.int .u8 ((u : Int) % 10 + 48)] 5)).heap.size (W.alloc (.cells #[.int .u8 ((u : Int) % 10 + 48)] 5)) W' → (convert 46 9 (.slice (some ⟨W.heap.size, 0, none⟩) 1 1)).run Tryd.prog W' = .ok (.string ⟨#[UInt8.ofNat (48 + u % 10)]⟩) W' := fun W W' hb => conv_one W W' _ _ (by rw [UInt8.toNat_ofNat']; omega) hb
    generalize UInt8.ofNat (48 + u % 10) = c at *
    have CA := fun W => CB W _ (Below.refl _ _)
    have HB : Hid (∀ W' : World, Below (w.drew.alloc (.cells #[.int .u8 ((u : Int) % 10 + 48)] 5)).heap.size (w.drew.alloc (.cells #[.int .u8 ((u : Int) % 10 + 48)] 5)) W' → (convert 46 9 (.slice (some ⟨w.heap.size, 0, none⟩) 1 1)).run Tryd.prog W' = .ok (.string ⟨#[c]⟩) W') := fun W' hb => CB w.drew W' hb
    have CA2 : ∀ (w5 : World), Below w.drew.heap.size w.drew w5 → (convert 46 9 (.slice (some ⟨w5.heap.size, 0, none⟩) 1 1)).run Tryd.prog (w5.alloc (.cells #[.int .u8 ((u : Int) % 10 + 48)] 5)) = .ok (.string ⟨#[c]⟩) (w5.alloc (.cells #[.int .u8 ((u : Int) % 10 + 48)] 5)) := fun w5 _ => CB w5 _ (Below.refl _ _)
    have CA3 : (convert 46 9 (.slice (some ⟨w.heap.size, 0, none⟩) 1 1)).run Tryd.prog (w.drew.alloc (.cells #[.int .u8 ((u : Int) % 10 + 48)] 5)) = .ok (.string ⟨#[c]⟩) (w.drew.alloc (.cells #[.int .u8 ((u : Int) % 10 + 48)] 5)) := CB w.drew _ (Below.refl _ _)
    have CA4 : (convert 46 9 (.slice (some ⟨w.heap.size, 0, none⟩) 1 1)).run Tryd.prog (w.alloc (.cells #[.int .u8 ((u : Int) % 10 + 48)] 5)).drew = .ok (.string ⟨#[c]⟩) (w.alloc (.cells #[.int .u8 ((u : Int) % 10 + 48)] 5)).drew := CB w.drew _ (Below.refl _ _)
    clear CB
    have hEl : (decDigits (u / 10)).length ≤ 20 := by rw [decDigits_length]; exact nDigits_le20 _ (by omega)
    have G1 : Hid (∀ W : World, Below w.drew.heap.size w.drew W → Below w.heap.size w W) := fun W h => (below_drew w).trans h
    have G2 : Hid (∀ (o : Obj) (W : World), Below (w.drew.alloc o).heap.size (w.drew.alloc o) W → Below w.heap.size w W) := fun o W h => ((below_drew w).alloc (Nat.le_refl _) o).trans (h.mono (by rw [alloc_size]; show w.heap.size ≤ w.heap.size + 1; omega))
    generalize decDigits u = D at *
    generalize decDigits (u / 10) = E at *
    have hEs : (⟨E.toArray⟩ : ByteArray).size ≤ 20 := by show E.toArray.size ≤ 20; rw [List.size_toArray]; exact hEl
    go_enter Tryd.func64, Tryd.ntmps64
    go_wp2_with fail
    have e1 : IntKind.u64.wrap ((u : Int) / 10) = (u : Int) / 10 := IntWalk.u64_in _ (by omega)
    have e2 : ((u : Int)).tmod 10 = (u : Int) % 10 := by rw [Int.tmod_eq_emod_of_nonneg (by omega)]
    have e3 : IntKind.u8.wrap ((u : Int) % 10) = (u : Int) % 10 := IntWalk.u8_in _ (by omega)
    have e4 : IntKind.u8.wrap ((u : Int) % 10 + 48) = (u : Int) % 10 + 48 := IntWalk.u8_in _ (by omega)
    go_region_with (go_at_call 64; refine (HC.out _).mono ?_; rintro e w5 ⟨rfl, b5⟩; (try have hcv := HB.out _ b5))
    all_goals go_wp2_with fail
    all_goals go_ret
    all_goals refine ⟨?_, ?_⟩
    all_goals first
      | (rw [HD.out, ← ba_app]; rfl)
      | exact (G1.out _ b5).alloc (Nat.le_trans (Nat.le_refl _) b5.size) _
      | exact G2.out _ _ b5
theorem ba_pre (E : List UInt8) (c : UInt8) : (⟨#[c]⟩ : ByteArray) ++ ⟨E.toArray⟩ = ⟨(c :: E).toArray⟩ := by
  apply ByteArray.ext
  simp [ByteArray.data_append]
set_option maxHeartbeats 1000000 in
set_option maxRecDepth 100000 in
theorem digits_any (i : Int) (hi : In64 i) (w : World) : Calls Tryd.prog 49 #[.int .i64 i] w (StPost (itoa i) w) := by
  obtain ⟨hi0, hi1⟩ := hi
  by_cases h0 : i < 0
  · have C := hmk2 (uns_any i.natAbs w (by omega))
    have hEl : (decDigits i.natAbs).length ≤ 20 := by rw [decDigits_length]; exact nDigits_le20 _ (by omega)
    have HD : Hid (itoa i = 45 :: decDigits i.natAbs) := by show _ = _; rw [itoa, if_pos h0]
    have e0 : ((i.natAbs : Nat) : Int) = -i := by omega
    rw [e0] at C
    generalize itoa i = D at *
    generalize decDigits i.natAbs = E at *
    have hEs : (⟨E.toArray⟩ : ByteArray).size ≤ 20 := by show E.toArray.size ≤ 20; rw [List.size_toArray]; exact hEl
    have z1 : (⟨#[45]⟩ : ByteArray).size = 1 := rfl
    have e1 : IntKind.i64.wrap (i + 1) = i + 1 := IntWalk.i64_in _ (by omega)
    have e2 : IntKind.i64.wrap (-(i + 1)) = -(i + 1) := IntWalk.i64_in _ (by omega)
    have e3 : IntKind.u64.wrap (-(i + 1)) = -(i + 1) := IntWalk.u64_in _ (by omega)
    have e4 : IntKind.u64.wrap (-(i + 1) + 1) = -i := by rw [IntWalk.u64_in _ (by omega)]; omega
    have e5 : -(i + 1) + 1 = -i := by omega
    go_enter Tryd.func49, Tryd.ntmps49
    go_wp2_with fail
    (try simp only [e5])
    refine C.out.mono ?_
    rintro e w1 ⟨rfl, b1⟩
    go_wp2_with fail
    go_ret
    exact ⟨by rw [HD.out, ← ba_pre]; rfl, b1⟩
  · have C := hmk2 (uns_any i.toNat w (by omega))
    have HD : Hid (itoa i = decDigits i.toNat) := by show _ = _; rw [itoa, if_neg h0]
    have e0 : ((i.toNat : Nat) : Int) = i := by omega
    rw [e0] at C
    have y1 : ¬ i < 0 := h0
    generalize itoa i = D at *
    generalize decDigits i.toNat = E at *
    have e3 : IntKind.u64.wrap i = i := IntWalk.u64_in _ (by omega)
    go_enter Tryd.func49, Tryd.ntmps49
    go_wp2_with fail
    refine C.out.mono ?_
    rintro e w1 ⟨rfl, b1⟩
    go_wp2_with fail
    go_ret
    exact ⟨by rw [HD.out]; rfl, b1⟩
end Go.Proofs.YtfihgaffiobfhaaDoor
