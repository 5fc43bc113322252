/- joined: DigA JsI JdD -/
import Derived.Test.YtpmhdcmmlkjjmaaGreatDoorH11
import Derived.Lib.ItoaLen
/- the integer that the document reads is the program's. -/
set_option linter.unusedSimpArgs false
set_option linter.unusedVariables false
namespace Go.Proofs.YtpmhdcmmlkjjmaaGreatDoor
open Go.RowKit Go.Lib
def dvJ (acc : Nat) : List UInt8 → Option Nat
  | [] => some acc
  | c :: r => if 48 ≤ c.toNat ∧ c.toNat ≤ 57 then dvJ (acc * 10 + (c.toNat - 48)) r else none
def uJ (d : List UInt8) : Option Nat := if d = [] ∨ (1 < d.length ∧ d.head? = some 48) ∨ 19 < d.length then none else dvJ 0 d
def finJ (minus : Bool) (o : Option Nat) : Option Int := match o with
  | none => none
  | some n => if minus = true ∧ n = 9223372036854775808 then some (-9223372036854775808) else if 9223372036854775807 < n then none else some (if minus = true then -(n : Int) else (n : Int))
/-- the document's integer -/
def dinJ (r : List UInt8) : Option Int := if r.head? = some 45 then finJ true (uJ r.tail) else finJ false (uJ r)
theorem dv_low : ∀ {l : List UInt8} {acc u : Nat}, dvJ acc l = some u → acc * 10 ^ l.length ≤ u
  | [], acc, u, h => by rw [dvJ] at h; cases h; simp
  | c :: r, acc, u, h => by
    rw [dvJ] at h
    split at h
    · have := dv_low h
      rw [List.length_cons, Nat.pow_succ]
      have h2 : acc * (10 ^ r.length * 10) = (acc * 10) * 10 ^ r.length := by rw [Nat.mul_comm (10 ^ r.length) 10, Nat.mul_assoc]
      rw [h2]
      exact Nat.le_trans (Nat.mul_le_mul_right _ (Nat.le_add_right _ _)) this
    · cases h
theorem dv_le {l : List UInt8} {acc u : Nat} (h : dvJ acc l = some u) : acc ≤ u := by
  have := dv_low h
  exact Nat.le_trans (Nat.le_mul_of_pos_right _ (Nat.pow_pos (by decide))) this
theorem pu_dv : ∀ {l : List UInt8} {acc u : Nat}, parseUintM 18446744073709551615 acc l = .ok u → dvJ acc l = some u
  | [], acc, u, h => by rw [parseUintM] at h; cases h; rfl
  | c :: r, acc, u, h => by
    rw [parseUintM] at h
    rw [dvJ]
    split at h
    · rename_i hc
      rw [if_pos hc]
      split at h
      · cases h
      · split at h
        · cases h
        · exact pu_dv h
    · cases h
theorem dv_pu : ∀ {l : List UInt8} {acc u : Nat}, dvJ acc l = some u → u ≤ 18446744073709551615 → parseUintM 18446744073709551615 acc l = .ok u
  | [], acc, u, h, _ => by rw [dvJ] at h; cases h; rfl
  | c :: r, acc, u, h, hu => by
    rw [dvJ] at h
    rw [parseUintM]
    split at h
    · rename_i hc
      have := dv_le h
      rw [if_pos hc, if_neg (by omega), if_neg (by omega)]
      exact dv_pu h hu
    · cases h
/-- a number of nineteen digits or fewer is a uint64 -/
theorem dv_top : ∀ {l : List UInt8} {acc u : Nat}, dvJ acc l = some u → u < (acc + 1) * 10 ^ l.length
  | [], acc, u, h => by rw [dvJ] at h; cases h; simp
  | c :: r, acc, u, h => by
    rw [dvJ] at h
    split at h
    · have := dv_top h
      rw [List.length_cons, Nat.pow_succ]
      have h2 : (acc + 1) * (10 ^ r.length * 10) = ((acc + 1) * 10) * 10 ^ r.length := by rw [Nat.mul_comm (10 ^ r.length) 10, Nat.mul_assoc]
      rw [h2]
      exact Nat.lt_of_lt_of_le this (Nat.mul_le_mul_right _ (by omega))
    · cases h
theorem pfx (c d : UInt8) (t : List UInt8) : hasPrefix (c :: t) [d] = (d == c) := by simp [hasPrefix, List.isPrefixOf]
/-- what stands behind the sign, read by the library's way and by the document's -/
theorem behind (minus : Bool) (d : List UInt8) (hz : ¬ (hasPrefix d [48] = true ∧ 1 < d.length)) :
    (match parseUintB 64 d with | .ok u => (if minus = false ∧ 9223372036854775808 ≤ u then none else if minus = true ∧ 9223372036854775808 < u then none else some (if minus = true then -(u : Int) else (u : Int))) | _ => none) = finJ minus (uJ d) := by
  have e2 : (2 : Nat) ^ 64 - 1 = 18446744073709551615 := by decide
  by_cases h0 : d = []
  · subst h0; rw [parseUintB, if_pos rfl, uJ, if_pos (.inl rfl)]; rfl
  rw [parseUintB, if_neg h0, e2]
  have hz' : ¬ (1 < d.length ∧ d.head? = some 48) := by
    rintro ⟨h1, h2⟩
    cases d with
    | nil => cases h2
    | cons c t => exact hz ⟨by rw [pfx]; simp at h2; simp [h2], h1⟩
  by_cases hl : 19 < d.length
  · rw [uJ, if_pos (.inr (.inr hl))]
    cases hp : parseUintM 18446744073709551615 0 d with
    | ok u =>
      have hv := pu_dv hp
      have hu : 10000000000000000000 ≤ u := by
        cases d with
        | nil => cases h0 rfl
        | cons c t =>
          rw [dvJ] at hv
          split at hv
          · rename_i hc
            have hc48 : c.toNat ≠ 48 := fun q => hz' ⟨by omega, by rw [List.head?_cons]; exact congrArg some (UInt8.toNat_inj.1 q)⟩
            have h1 := dv_low hv
            have h2 : (10 : Nat) ^ 19 ≤ 10 ^ t.length := Nat.pow_le_pow_right (by decide) (by rw [List.length_cons] at hl; omega)
            have e : (10 : Nat) ^ 19 = 10000000000000000000 := by decide
            have h3 : 1 * 10 ^ t.length ≤ (0 * 10 + (c.toNat - 48)) * 10 ^ t.length := Nat.mul_le_mul_right _ (by omega)
            omega
          · cases hv
      dsimp only
      rw [finJ]
      cases minus with
      | true => rw [if_neg (by simp), if_pos ⟨rfl, by omega⟩]
      | false => rw [if_pos ⟨rfl, by omega⟩]
    | «syntax» => rfl
    | range => rfl
  · rw [uJ, if_neg (by rintro (h | h | h); exact h0 h; exact hz' h; exact hl h)]
    cases hv : dvJ 0 d with
    | none =>
      cases hp : parseUintM 18446744073709551615 0 d with
      | ok u => rw [pu_dv hp] at hv; cases hv
      | «syntax» => rfl
      | range => rfl
    | some u =>
      have ht := dv_top hv
      have hu : u ≤ 18446744073709551615 := by
        have : (10 : Nat) ^ d.length ≤ 10 ^ 19 := Nat.pow_le_pow_right (by decide) (by omega)
        have e : (10 : Nat) ^ 19 = 10000000000000000000 := by decide
        omega
      rw [dv_pu hv hu]
      dsimp only
      rw [finJ]
      cases minus with
      | true =>
        by_cases e1 : u = 9223372036854775808
        · subst e1; decide
        · simp only [Bool.true_eq_false, false_and, if_false, true_and, if_true, e1]
          by_cases e3 : 9223372036854775808 < u
          · rw [if_pos e3, if_pos (by omega)]
          · rw [if_neg e3, if_neg (by omega)]
      | false =>
        simp only [Bool.false_eq_true, false_and, if_false, true_and]
        by_cases e3 : 9223372036854775808 ≤ u
        · rw [if_pos e3, if_pos (by omega)]
        · rw [if_neg e3, if_neg (by omega)]
theorem int_doc (r : List UInt8) : intJ r = dinJ r := by
  have e3 : (2 : Nat) ^ (64 - 1) = 9223372036854775808 := by decide
  cases r with
  | nil => rfl
  | cons c t =>
    rw [intJ, dinJ, pfx]
    by_cases hp : c = 43
    · subst hp
      rw [if_pos (by rfl), if_neg (by simp)]
      rw [uJ]
      split
      · rfl
      · rw [dvJ, if_neg (by decide)]; rfl
    rw [if_neg (by simp; exact fun h => hp h.symm)]
    by_cases hm : c = 45
    · subst hm
      have ht : trimPrefix (45 :: t) [45] = t := by simp [trimPrefix, hasPrefix, List.isPrefixOf]
      rw [ht, if_pos (by rfl : (45 :: t).head? = some 45), List.tail_cons]
      by_cases hz : hasPrefix t [48] = true ∧ 1 < t.length
      · rw [if_pos hz]
        cases t with
        | nil => exact absurd hz.2 (by simp)
        | cons d u =>
          have : d = 48 := by have := hz.1; rw [pfx] at this; simp at this; exact this.symm
          subst this
          rw [uJ, if_pos (.inr (.inl ⟨hz.2, rfl⟩))]
          rfl
      · rw [if_neg hz, ← behind true t hz]
        unfold parseIntB
        dsimp only
        rw [if_pos (by right; rfl)]
        cases parseUintB 64 t with
        | ok u =>
          dsimp only
          rw [e3]
          by_cases q : 9223372036854775808 < u
          · simp [q]
          · simp [q]
        | «syntax» => rfl
        | range => rfl
    · have ht : trimPrefix (c :: t) [45] = c :: t := by rw [trimPrefix, pfx, if_neg (by simp; exact fun h => hm h.symm)]
      rw [ht, if_neg (by simp; exact hm : ¬ (c :: t).head? = some 45)]
      by_cases hz : hasPrefix (c :: t) [48] = true ∧ 1 < (c :: t).length
      · rw [if_pos hz]
        have : c = 48 := by have := hz.1; rw [pfx] at this; simp at this; exact this.symm
        subst this
        rw [uJ, if_pos (.inr (.inl ⟨hz.2, rfl⟩))]
        rfl
      · rw [if_neg hz, ← behind false (c :: t) hz]
        have n43 : c.toNat ≠ 43 := fun q => hp (UInt8.toNat_inj.1 q)
        have n45 : c.toNat ≠ 45 := fun q => hm (UInt8.toNat_inj.1 q)
        unfold parseIntB
        dsimp only
        rw [if_neg (by omega)]
        cases parseUintB 64 (c :: t) with
        | ok u =>
          dsimp only
          rw [e3]
          by_cases q : 9223372036854775808 ≤ u
          · simp [n45, q]
          · simp [n45, q]
        | «syntax» => rfl
        | range => rfl
end Go.Proofs.YtpmhdcmmlkjjmaaGreatDoor
/- freeholdref03.unsigned, digits. -/
set_option maxRecDepth 100000
namespace Go.Proofs.YtpmhdcmmlkjjmaaGreatDoor
open Go.RowKit Go.Lib
theorem hmk2 {p : Prop} (h : p) : Hid p := h
def StPost (l : List UInt8) (w : World) (e : Ending) (w' : World) : Prop := e = .returned (.string ⟨l.toArray⟩) ∧ Below w.heap.size w w'
theorem conv_one (W W' : World) (c : UInt8) (x : Int) (hx : x = (c.toNat : Int)) (hb : Below (W.alloc (.cells #[.int .u8 x] 5)).heap.size (W.alloc (.cells #[.int .u8 x] 5)) W') :
    (convert 28 9 (.slice (some ⟨W.heap.size, 0, none⟩) 1 1)).run Tryz.prog W' = .ok (.string ⟨#[c]⟩) W' := by
  subst hx
  have hk : W'.heap[W.heap.size]? = some (.cells #[.int .u8 (c.toNat : Int)] 5) := (hb.block _ (by rw [alloc_size]; omega)).trans (heap_alloc_new W _)
  have ho : OwnB 0 (.slice (some ⟨W.heap.size, 0, none⟩) 1 1) [c] W' := by
    refine ⟨rfl, .inr ⟨W.heap.size, 1, #[.int .u8 (c.toNat : Int)], rfl, Nat.zero_le _, hk, by simp, by simp [maxLen], by simp, by simp [byteCells]⟩⟩
  exact ho.conv
theorem ba_app (E : List UInt8) (c : UInt8) : (⟨E.toArray⟩ : ByteArray) ++ ⟨#[c]⟩ = ⟨(E ++ [c]).toArray⟩ := by
  apply ByteArray.ext
  simp [ByteArray.data_append]
theorem below_drew (w : World) : Below w.heap.size w w.drew := ⟨rfl, rfl, rfl, Nat.le_refl _, fun _ _ => rfl⟩
set_option maxHeartbeats 1000000 in
set_option maxRecDepth 100000 in
theorem uns_any (u : Nat) : ∀ (w : World), u < 18446744073709551616 → Calls Tryz.prog 94 #[.int .u64 (u : Int)] w (StPost (decDigits u) w) := by
  induction u using Nat.strongRecOn with
  | ind u ih =>
  intro w hu
  by_cases h10 : u < 10
  · have y1 : (u : Int) < 10 := by omega
    have HD : Hid (decDigits u = [UInt8.ofNat (48 + u)]) := by show _ = _; rw [decDigits, dif_pos h10]
    have hc := conv_one w _ (UInt8.ofNat (48 + u)) ((u : Int) + 48) (by rw [UInt8.toNat_ofNat']; omega) (Below.refl _ _)
    generalize UInt8.ofNat (48 + u) = c at *
    generalize decDigits u = D at *
    go_enter Tryz.func94, Tryz.ntmps94
    go_wp2_with fail
    go_ret
    exact ⟨by rw [HD.out]; rfl, (Below.refl _ _).alloc (Nat.le_refl _) _⟩
  · have y1 : ¬ (u : Int) < 10 := by omega
    have HD : Hid (decDigits u = decDigits (u / 10) ++ [UInt8.ofNat (48 + u % 10)]) := by show _ = _; rw [decDigits, dif_neg h10]
    have HC : Hid (∀ W, Calls Tryz.prog 94 #[.int .u64 ((u : Int) / 10)] W (StPost (decDigits (u / 10)) W)) := fun W => ih (u / 10) (by omega) W (by omega)
    have CB : ∀ W W' : World, Below (W.alloc (.cells #[.int .u8 ((u : Int) % 10 + 48)] 5)).heap.size (W.alloc (.cells #[.int .u8 ((u : Int) % 10 + 48)] 5)) W' → (convert 28 9 (.slice (some ⟨W.heap.size, 0, none⟩) 1 1)).run Tryz.prog W' = .ok (.string ⟨#[UInt8.ofNat (48 + u % 10)]⟩) W' := fun W W' hb => conv_one W W' _ _ (by rw [UInt8.toNat_ofNat']; omega) hb
    generalize UInt8.ofNat (48 + u % 10) = c at *
    have CA := fun W => CB W _ (Below.refl _ _)
    have HB : Hid (∀ W' : World, Below (w.drew.alloc (.cells #[.int .u8 ((u : Int) % 10 + 48)] 5)).heap.size (w.drew.alloc (.cells #[.int .u8 ((u : Int) % 10 + 48)] 5)) W' → (convert 28 9 (.slice (some ⟨w.heap.size, 0, none⟩) 1 1)).run Tryz.prog W' = .ok (.string ⟨#[c]⟩) W') := fun W' hb => CB w.drew W' hb
    have CA2 : ∀ (w5 : World), Below w.drew.heap.size w.drew w5 → (convert 28 9 (.slice (some ⟨w5.heap.size, 0, none⟩) 1 1)).run Tryz.prog (w5.alloc (.cells #[.int .u8 ((u : Int) % 10 + 48)] 5)) = .ok (.string ⟨#[c]⟩) (w5.alloc (.cells #[.int .u8 ((u : Int) % 10 + 48)] 5)) := fun w5 _ => CB w5 _ (Below.refl _ _)
    have CA3 : (convert 28 9 (.slice (some ⟨w.heap.size, 0, none⟩) 1 1)).run Tryz.prog (w.drew.alloc (.cells #[.int .u8 ((u : Int) % 10 + 48)] 5)) = .ok (.string ⟨#[c]⟩) (w.drew.alloc (.cells #[.int .u8 ((u : Int) % 10 + 48)] 5)) := CB w.drew _ (Below.refl _ _)
    have CA4 : (convert 28 9 (.slice (some ⟨w.heap.size, 0, none⟩) 1 1)).run Tryz.prog (w.alloc (.cells #[.int .u8 ((u : Int) % 10 + 48)] 5)).drew = .ok (.string ⟨#[c]⟩) (w.alloc (.cells #[.int .u8 ((u : Int) % 10 + 48)] 5)).drew := CB w.drew _ (Below.refl _ _)
    clear CB
    have hEl : (decDigits (u / 10)).length ≤ 20 := by rw [decDigits_length]; exact nDigits_le20 _ (by omega)
    have G1 : Hid (∀ W : World, Below w.drew.heap.size w.drew W → Below w.heap.size w W) := fun W h => (below_drew w).trans h
    have G2 : Hid (∀ (o : Obj) (W : World), Below (w.drew.alloc o).heap.size (w.drew.alloc o) W → Below w.heap.size w W) := fun o W h => ((below_drew w).alloc (Nat.le_refl _) o).trans (h.mono (by rw [alloc_size]; show w.heap.size ≤ w.heap.size + 1; omega))
    generalize decDigits u = D at *
    generalize decDigits (u / 10) = E at *
    have hEs : (⟨E.toArray⟩ : ByteArray).size ≤ 20 := by show E.toArray.size ≤ 20; rw [List.size_toArray]; exact hEl
    go_enter Tryz.func94, Tryz.ntmps94
    go_wp2_with fail
    have e1 : IntKind.u64.wrap ((u : Int) / 10) = (u : Int) / 10 := IntWalk.u64_in _ (by omega)
    have e2 : ((u : Int)).tmod 10 = (u : Int) % 10 := by rw [Int.tmod_eq_emod_of_nonneg (by omega)]
    have e3 : IntKind.u8.wrap ((u : Int) % 10) = (u : Int) % 10 := IntWalk.u8_in _ (by omega)
    have e4 : IntKind.u8.wrap ((u : Int) % 10 + 48) = (u : Int) % 10 + 48 := IntWalk.u8_in _ (by omega)
    go_region_with (go_at_call 94; refine (HC.out _).mono ?_; rintro e w5 ⟨rfl, b5⟩; (try have hcv := HB.out _ b5))
    all_goals go_wp2_with fail
    all_goals go_ret
    all_goals refine ⟨?_, ?_⟩
    all_goals first
      | (rw [HD.out, ← ba_app]; rfl)
      | exact (G1.out _ b5).alloc (Nat.le_trans (Nat.le_refl _) b5.size) _
      | exact G2.out _ _ b5
theorem ba_pre (E : List UInt8) (c : UInt8) : (⟨#[c]⟩ : ByteArray) ++ ⟨E.toArray⟩ = ⟨(c :: E).toArray⟩ := by
  apply ByteArray.ext
  simp [ByteArray.data_append]
set_option maxHeartbeats 1000000 in
set_option maxRecDepth 100000 in
theorem digits_any (i : Int) (hi : In64 i) (w : World) : Calls Tryz.prog 71 #[.int .i64 i] w (StPost (itoa i) w) := by
  obtain ⟨hi0, hi1⟩ := hi
  by_cases h0 : i < 0
  · have C := hmk2 (uns_any i.natAbs w (by omega))
    have hEl : (decDigits i.natAbs).length ≤ 20 := by rw [decDigits_length]; exact nDigits_le20 _ (by omega)
    have HD : Hid (itoa i = 45 :: decDigits i.natAbs) := by show _ = _; rw [itoa, if_pos h0]
    have e0 : ((i.natAbs : Nat) : Int) = -i := by omega
    rw [e0] at C
    generalize itoa i = D at *
    generalize decDigits i.natAbs = E at *
    have hEs : (⟨E.toArray⟩ : ByteArray).size ≤ 20 := by show E.toArray.size ≤ 20; rw [List.size_toArray]; exact hEl
    have z1 : (⟨#[45]⟩ : ByteArray).size = 1 := rfl
    have e1 : IntKind.i64.wrap (i + 1) = i + 1 := IntWalk.i64_in _ (by omega)
    have e2 : IntKind.i64.wrap (-(i + 1)) = -(i + 1) := IntWalk.i64_in _ (by omega)
    have e3 : IntKind.u64.wrap (-(i + 1)) = -(i + 1) := IntWalk.u64_in _ (by omega)
    have e4 : IntKind.u64.wrap (-(i + 1) + 1) = -i := by rw [IntWalk.u64_in _ (by omega)]; omega
    have e5 : -(i + 1) + 1 = -i := by omega
    go_enter Tryz.func71, Tryz.ntmps71
    go_wp2_with fail
    (try simp only [e5])
    refine C.out.mono ?_
    rintro e w1 ⟨rfl, b1⟩
    go_wp2_with fail
    go_ret
    exact ⟨by rw [HD.out, ← ba_pre]; rfl, b1⟩
  · have C := hmk2 (uns_any i.toNat w (by omega))
    have HD : Hid (itoa i = decDigits i.toNat) := by show _ = _; rw [itoa, if_neg h0]
    have e0 : ((i.toNat : Nat) : Int) = i := by omega
    rw [e0] at C
    have y1 : ¬ i < 0 := h0
    generalize itoa i = D at *
    generalize decDigits i.toNat = E at *
    have e3 : IntKind.u64.wrap i = i := IntWalk.u64_in _ (by omega)
    go_enter Tryz.func71, Tryz.ntmps71
    go_wp2_with fail
    refine C.out.mono ?_
    rintro e w1 ⟨rfl, b1⟩
    go_wp2_with fail
    go_ret
    exact ⟨by rw [HD.out]; rfl, b1⟩
end Go.Proofs.YtpmhdcmmlkjjmaaGreatDoor
/- the document's integer: the walk. -/
set_option maxRecDepth 100000
namespace Go.Proofs.YtpmhdcmmlkjjmaaGreatDoor
open Go.RowKit Go.Lib
def DiP (R : Option Int) (e : Ending) : Prop := e = .returned (.tuple #[.int .i64 (R.getD 0), .bool R.isSome])
theorem uJ_dig {l : List UInt8} (h0 : l ≠ []) (hz : ¬ (1 < l.length ∧ l.head? = some 48)) (hl : ¬ 19 < l.length) : uJ l = dvJ 0 l := by
  rw [uJ, if_neg]
  rintro (q | q | q)
  · exact h0 q
  · exact hz q
  · exact hl q
set_option maxHeartbeats 16000000 in
theorem dinteger_plain (r : ByteArray) (w : World) (hr : r.size ≤ 281474976710656) (h0 : ¬ r.data.toList.head? = some 45) :
    Calls Tryz.prog 55 #[.string r] w fun e w' => DiP (dinJ r.data.toList) e ∧ w' = w := by
  have hll : r.data.toList.length = r.size := by simp
  rw [dinJ, if_neg h0]
  by_cases hn : r.size = 0
  · have hu : uJ r.data.toList = none := by rw [uJ, if_pos (.inl (List.length_eq_zero_iff.1 (by omega)))]
    rw [hu]
    have y0 : ((r.size : Int) == 0) = true := by rw [hn]; rfl
    have y1 : ¬ (0 : Int) < r.size := by omega
    go_enter Tryz.func55, Tryz.ntmps55
    go_wp2
    go_ret2
    exact ⟨rfl, rfl⟩
  · have hpos : 0 < r.size := by omega
    have hh : r.data.toList.head? = some r[0] := by rw [List.head?_eq_getElem?, List.getElem?_eq_getElem (by rw [hll]; exact hpos)]; rfl
    have y0 : ((r.size : Int) == 0) = false := by rw [beq_eq_false_iff_ne]; omega
    rw [hh] at h0
    have y2 : ((r[0].toNat : Int) == 45) = false := by rw [beq_eq_false_iff_ne]; intro q; exact h0 (congrArg some (UInt8.toNat_inj.1 (by show r[0].toNat = 45; omega)))
    have y1 : (0 : Int) < r.size := by omega
    by_cases hz : 1 < r.size ∧ r[0] = 48
    · have hu : uJ r.data.toList = none := by rw [uJ, if_pos (.inr (.inl ⟨by omega, by rw [hh, hz.2]⟩))]
      rw [hu]
      have y3 : (1 : Int) < r.size := by omega
      have y4 : ((r[0].toNat : Int) == 48) = true := by rw [hz.2]; rfl
      clear hu hll hh hz
      go_enter Tryz.func55, Tryz.ntmps55
      go_wp2
      go_ret2
      exact ⟨rfl, rfl⟩
    · by_cases hl : 19 < r.size
      · have hu : uJ r.data.toList = none := by rw [uJ, if_pos (.inr (.inr (by omega)))]
        rw [hu]
        have y3 : (1 : Int) < r.size := by omega
        have y4 : ((r[0].toNat : Int) == 48) = false := by rw [beq_eq_false_iff_ne]; intro q; exact hz ⟨by omega, UInt8.toNat_inj.1 (by show r[0].toNat = 48; omega)⟩
        have y5 : (19 : Int) < r.size := by omega
        clear hu hll hh hz
        go_enter Tryz.func55, Tryz.ntmps55
        go_wp2
        go_ret2
        exact ⟨rfl, rfl⟩
      · have y5 : ¬ (19 : Int) < r.size := by omega
        have hu : uJ r.data.toList = dvJ 0 r.data.toList := uJ_dig (fun q => by rw [q] at hll; simp at hll; omega) (fun q => hz ⟨by have := q.1; omega, by have := q.2; rw [hh] at this; exact Option.some.inj this⟩) (by omega)
        rw [hu]
        by_cases h1 : (1 : Int) < r.size
        · have y4 : ((r[0].toNat : Int) == 48) = false := by rw [beq_eq_false_iff_ne]; intro q; exact hz ⟨by omega, UInt8.toNat_inj.1 (by show r[0].toNat = 48; omega)⟩
          clear hu hh hz
          go_enter Tryz.func55, Tryz.ntmps55
          go_wp2
          go_loopw [5, 6] (fun e5 e6 wr => ∃ i acc : Nat, i ≤ r.size ∧ e5 = .int .u64 (acc : Int) ∧ e6 = .int .i64 (i : Int) ∧ wr = w ∧ acc < 10 ^ i ∧ Hid (dvJ 0 r.data.toList = dvJ acc (r.data.toList.drop i))) (fun _ e6 _ => r.size - (RowKit.intOf e6).toNat)
          case atStart => exact ⟨0, 0, Nat.zero_le _, rfl, rfl, rfl, by decide, hmk rfl⟩
          case round =>
            obtain ⟨i, acc, hi, rfl, rfl, rfl, hacc, HD⟩ := hrel
            have hp : acc ≤ 9999999999999999999 := by
              have : (10 : Nat) ^ i ≤ 10 ^ 19 := Nat.pow_le_pow_right (by decide) (by omega)
              have e : (10 : Nat) ^ 19 = 10000000000000000000 := by decide
              omega
            by_cases hlt : i < r.size
            · have x1 : (i : Int) < r.size := by omega
              have hp2 : acc ≤ 999999999999999999 := by
                have : (10 : Nat) ^ i ≤ 10 ^ 18 := Nat.pow_le_pow_right (by decide) (by omega)
                have e : (10 : Nat) ^ 18 = 1000000000000000000 := by decide
                omega
              have hx := drop_at r i hlt
              by_cases hd : 48 ≤ r[i].toNat ∧ r[i].toNat ≤ 57
              · have x2 : ¬ ((r[i].toNat : Int) < 48) := by omega
                have x3 : ¬ ((57 : Int) < r[i].toNat) := by omega
                have HD2 : Hid (dvJ 0 r.data.toList = dvJ (acc * 10 + (r[i].toNat - 48)) (r.data.toList.drop (i + 1))) := by
                  show _ = _
                  rw [HD.out, hx, dvJ, if_pos hd]
                have hpw : acc * 10 + (r[i].toNat - 48) < 10 ^ (i + 1) := by
                  rw [Nat.pow_succ]
                  generalize (10 : Nat) ^ i = P at *
                  omega
                clear hx HD
                go_wp2
                exact ⟨⟨i + 1, acc * 10 + (r[i].toNat - 48), by omega, by congr 1; omega, by simp, trivial, hpw, HD2⟩, by simp only [RowKit.intOf]; omega⟩
              · have HN : Hid (dvJ 0 r.data.toList = none) := by
                  show _ = _
                  rw [HD.out, hx, dvJ, if_neg hd]
                clear hx HD
                by_cases x2 : ((r[i].toNat : Int) < 48)
                · go_wp2
                  go_ret2
                  rw [HN.out]
                  exact ⟨rfl, rfl⟩
                · have x3 : ((57 : Int) < r[i].toNat) := by omega
                  go_wp2
                  go_ret2
                  rw [HN.out]
                  exact ⟨rfl, rfl⟩
            · have x1 : ¬ (i : Int) < r.size := by omega
              have HS : Hid (dvJ 0 r.data.toList = some acc) := by
                show _ = _
                have e : r.data.toList.drop i = [] := List.drop_eq_nil_of_le (by rw [hll]; omega)
                rw [HD.out, e, dvJ]
              clear HD
              by_cases x4 : 9223372036854775807 < acc
              · have x4' : (9223372036854775807 : Int) < acc := by omega
                go_wp2
                go_ret2
                rw [HS.out, finJ, if_neg (by simp), if_pos x4]
                exact ⟨rfl, rfl⟩
              · have x4' : ¬ (9223372036854775807 : Int) < acc := by omega
                go_wp2
                go_ret2
                rw [HS.out, finJ, if_neg (by simp), if_neg x4]
                refine ⟨?_, rfl⟩
                show Ending.returned (.tuple #[.int .i64 _, .bool true]) = Ending.returned (.tuple #[.int .i64 _, .bool true])
                refine congrArg (fun x => Ending.returned (.tuple #[.int .i64 x, .bool true])) ?_
                simp
        · clear hu hh hz
          go_enter Tryz.func55, Tryz.ntmps55
          go_wp2
          go_loopw [5, 6] (fun e5 e6 wr => ∃ i acc : Nat, i ≤ r.size ∧ e5 = .int .u64 (acc : Int) ∧ e6 = .int .i64 (i : Int) ∧ wr = w ∧ acc < 10 ^ i ∧ Hid (dvJ 0 r.data.toList = dvJ acc (r.data.toList.drop i))) (fun _ e6 _ => r.size - (RowKit.intOf e6).toNat)
          case atStart => exact ⟨0, 0, Nat.zero_le _, rfl, rfl, rfl, by decide, hmk rfl⟩
          case round =>
            obtain ⟨i, acc, hi, rfl, rfl, rfl, hacc, HD⟩ := hrel
            have hp : acc ≤ 9999999999999999999 := by
              have : (10 : Nat) ^ i ≤ 10 ^ 19 := Nat.pow_le_pow_right (by decide) (by omega)
              have e : (10 : Nat) ^ 19 = 10000000000000000000 := by decide
              omega
            by_cases hlt : i < r.size
            · have x1 : (i : Int) < r.size := by omega
              have hp2 : acc ≤ 999999999999999999 := by
                have : (10 : Nat) ^ i ≤ 10 ^ 18 := Nat.pow_le_pow_right (by decide) (by omega)
                have e : (10 : Nat) ^ 18 = 1000000000000000000 := by decide
                omega
              have hx := drop_at r i hlt
              by_cases hd : 48 ≤ r[i].toNat ∧ r[i].toNat ≤ 57
              · have x2 : ¬ ((r[i].toNat : Int) < 48) := by omega
                have x3 : ¬ ((57 : Int) < r[i].toNat) := by omega
                have HD2 : Hid (dvJ 0 r.data.toList = dvJ (acc * 10 + (r[i].toNat - 48)) (r.data.toList.drop (i + 1))) := by
                  show _ = _
                  rw [HD.out, hx, dvJ, if_pos hd]
                have hpw : acc * 10 + (r[i].toNat - 48) < 10 ^ (i + 1) := by
                  rw [Nat.pow_succ]
                  generalize (10 : Nat) ^ i = P at *
                  omega
                clear hx HD
                go_wp2
                exact ⟨⟨i + 1, acc * 10 + (r[i].toNat - 48), by omega, by congr 1; omega, by simp, trivial, hpw, HD2⟩, by simp only [RowKit.intOf]; omega⟩
              · have HN : Hid (dvJ 0 r.data.toList = none) := by
                  show _ = _
                  rw [HD.out, hx, dvJ, if_neg hd]
                clear hx HD
                by_cases x2 : ((r[i].toNat : Int) < 48)
                · go_wp2
                  go_ret2
                  rw [HN.out]
                  exact ⟨rfl, rfl⟩
                · have x3 : ((57 : Int) < r[i].toNat) := by omega
                  go_wp2
                  go_ret2
                  rw [HN.out]
                  exact ⟨rfl, rfl⟩
            · have x1 : ¬ (i : Int) < r.size := by omega
              have HS : Hid (dvJ 0 r.data.toList = some acc) := by
                show _ = _
                have e : r.data.toList.drop i = [] := List.drop_eq_nil_of_le (by rw [hll]; omega)
                rw [HD.out, e, dvJ]
              clear HD
              by_cases x4 : 9223372036854775807 < acc
              · have x4' : (9223372036854775807 : Int) < acc := by omega
                go_wp2
                go_ret2
                rw [HS.out, finJ, if_neg (by simp), if_pos x4]
                exact ⟨rfl, rfl⟩
              · have x4' : ¬ (9223372036854775807 : Int) < acc := by omega
                go_wp2
                go_ret2
                rw [HS.out, finJ, if_neg (by simp), if_neg x4]
                refine ⟨?_, rfl⟩
                show Ending.returned (.tuple #[.int .i64 _, .bool true]) = Ending.returned (.tuple #[.int .i64 _, .bool true])
                refine congrArg (fun x => Ending.returned (.tuple #[.int .i64 x, .bool true])) ?_
                simp
end Go.Proofs.YtpmhdcmmlkjjmaaGreatDoor
