/- joined: JdC JsI JsM -/
import Derived.Test.YtpmhdcmmlkjjmaaGreatDoorG25
/- the document's reader: more. -/
set_option linter.unusedSimpArgs false
set_option linter.unusedVariables false
set_option maxRecDepth 100000
namespace Go.Proofs.YtpmhdcmmlkjjmaaGreatDoor
open Go.RowKit Go.Lib
theorem blk_again {l : List UInt8} {k : Nat} (hk : k ≤ l.length) : blk l (blk l k) = blk l k := by
  have h := blk_le hk
  rcases Nat.lt_or_ge (blk l k) l.length with q | q
  · refine blk_stop q ?_
    cases hb : isBl l[blk l k]
    · rfl
    · exfalso
      have hd : l.drop k = (l.drop k).takeWhile isBl ++ (l.drop k).dropWhile isBl := List.takeWhile_append_dropWhile.symm
      have hl : (l.drop k)[((l.drop k).takeWhile isBl).length]? = some l[blk l k] := by
        rw [List.getElem?_drop]
        exact List.getElem?_eq_getElem q
      rw [hd] at hl
      rw [List.getElem?_append_right (by rw [← hd]; exact Nat.le_refl _)] at hl
      rw [← hd, Nat.sub_self] at hl
      cases hw : (l.drop k).dropWhile isBl with
      | nil => rw [hw] at hl; cases hl
      | cons c t =>
        rw [hw] at hl
        have hc : c = l[blk l k] := by simpa using hl
        have := List.head_dropWhile_not isBl (l := l.drop k) (by rw [hw]; simp)
        simp [hw] at this
        rw [hc, hb] at this
        cases this
  · exact blk_end q
/-- behind an element, as the document says it: the place is right behind the byte -/
def morJ (l : List UInt8) (k : Nat) (c : UInt8) : Except Flt (Bool × Nat) := match l[blk l k]? with
  | none => .error (blk l k, 31)
  | some b => if b = 44 then .ok (true, blk l k + 1) else if b = c then .ok (false, blk l k + 1) else .error (blk l k, 32)
theorem morJ_end {l : List UInt8} {k : Nat} {c : UInt8} (h : l.length ≤ blk l k) : morJ l k c = .error (blk l k, 31) := by rw [morJ, List.getElem?_eq_none h]
theorem morJ_comma {l : List UInt8} {k : Nat} {c : UInt8} (h : blk l k < l.length) (e : l[blk l k] = 44) : morJ l k c = .ok (true, blk l k + 1) := by rw [morJ, List.getElem?_eq_getElem h]; dsimp only; rw [if_pos e]
theorem morJ_close {l : List UInt8} {k : Nat} {c : UInt8} (h : blk l k < l.length) (e : ¬ l[blk l k] = 44) (e2 : l[blk l k] = c) : morJ l k c = .ok (false, blk l k + 1) := by rw [morJ, List.getElem?_eq_getElem h]; dsimp only; rw [if_neg e, if_pos e2]
theorem morJ_byte {l : List UInt8} {k : Nat} {c : UInt8} (h : blk l k < l.length) (e : ¬ l[blk l k] = 44) (e2 : ¬ l[blk l k] = c) : morJ l k c = .error (blk l k, 32) := by rw [morJ, List.getElem?_eq_getElem h]; dsimp only; rw [if_neg e, if_neg e2]
/-- the two say the same -/
theorem goes_mor (l : List UInt8) (k : Nat) (c : UInt8) : goesJ l k c = (match morJ l k c with | .error f => .error f | .ok y => .ok (y.1, if y.1 = true then blk l y.2 else y.2)) := by
  rcases Nat.lt_or_ge (blk l k) l.length with h | h
  · by_cases e : l[blk l k] = 44
    · rw [morJ_comma h e, goesJ_more (by rw [tkJ, List.getElem?_eq_getElem h, e]; rfl)]
      rfl
    · have ht : tkJ l (blk l k) 44 = false := by rw [tkJ, List.getElem?_eq_getElem h]; simp [e]
      by_cases e2 : l[blk l k] = c
      · rw [morJ_close h e e2, goesJ_end ht (mustJ_yes h e2)]
        rfl
      · rw [morJ_byte h e e2, goesJ_no ht (mustJ_no h e2)]
  · have ht : tkJ l (blk l k) 44 = false := by rw [tkJ, List.getElem?_eq_none h]; rfl
    rw [morJ_end h, goesJ_no ht (mustJ_end h)]
set_option maxHeartbeats 8000000 in
theorem dmore_any (g : Nat) (s : ByteArray) (k n D bd : Nat) (c : UInt8) (w : World) (h : JD g s k n D 0 bd w) (hs : s.size ≤ 281474976710656) (hk : k ≤ s.size) :
    Calls Tryz.prog 74 #[.pointer (some ⟨g, 0, none⟩), .int .u8 (c.toNat : Int)] w (DP (.bool false) (morJ s.data.toList k c) (fun x e w' => e = .returned (.bool x.1) ∧ JD g s x.2 n D 0 bd w') g s D w) := by
  have hll : s.data.toList.length = s.size := by simp
  have hb := blk_le (l := s.data.toList) (k := k) (by rw [hll]; exact hk)
  rw [hll] at hb
  by_cases hlt : blk s.data.toList k < s.size
  · have CN := hmk (dnext_yes g s k n D 0 bd w h hs hk hlt)
    have CF : Hid (∀ W, JD g s (blk s.data.toList k) n D 0 bd W → Calls Tryz.prog 36 #[.pointer (some ⟨g, 0, none⟩), .int .i64 ((blk s.data.toList k : Nat) : Int), .int .i64 32] W fun e w' => e = .returned (.tuple #[]) ∧ JD g s (blk s.data.toList k) n D 32 (blk s.data.toList k) w' ∧ W.grownBy w' (some g)) := fun W hW => dfail_any g s _ n D bd _ 32 W hW
    have H1 := hmk (@morJ_comma s.data.toList k c (by rw [hll]; exact hlt))
    have H2 := hmk (@morJ_close s.data.toList k c (by rw [hll]; exact hlt))
    have H3 := hmk (@morJ_byte s.data.toList k c (by rw [hll]; exact hlt))
    have eg : s.data.toList[blk s.data.toList k]'(by rw [hll]; exact hlt) = s[blk s.data.toList k] := rfl
    rw [eg] at H1 H2 H3
    clear eg h
    generalize s[blk s.data.toList k] = b at *
    generalize blk s.data.toList k = K at *
    by_cases e : b = 44
    · have HE := hmk (H1.out e)
      have y1 : ((b.toNat : Int) != 44) = false := by rw [e]; rfl
      have y2 : ((b.toNat : Int) == 44) = true := by rw [e]; rfl
      clear H1 H2 H3 e CF
      go_enter Tryz.func74, Tryz.ntmps74
      go_wp2_with fail
      refine CN.out.mono ?_
      rintro en w1 ⟨rfl, R1, g1⟩
      have c4 := R1.c4
      have c1 := R1.c1
      have f1 := R1.fz 1
      have HR := hmk R1
      clear R1 CN
      go_wp2_with fail
      go_ret
      rw [HE.out]
      exact ⟨⟨rfl, HR.out.put (K + 1) _ (by omega)⟩, grown_set g1 _ _⟩
    · have y1 : ((b.toNat : Int) != 44) = true := by rw [bne_iff_ne]; intro q; exact e (UInt8.toNat_inj.1 (by show b.toNat = 44; omega))
      have y2 : ((b.toNat : Int) == 44) = false := by rw [beq_eq_false_iff_ne]; intro q; exact e (UInt8.toNat_inj.1 (by show b.toNat = 44; omega))
      by_cases e2 : b = c
      · have HE := hmk (H2.out e e2)
        have y3 : ((b.toNat : Int) != (c.toNat : Int)) = false := by rw [e2]; simp
        clear H1 H2 H3 e CF e2
        go_enter Tryz.func74, Tryz.ntmps74
        go_wp2_with fail
        refine CN.out.mono ?_
        rintro en w1 ⟨rfl, R1, g1⟩
        have c4 := R1.c4
        have c1 := R1.c1
        have f1 := R1.fz 1
        have HR := hmk R1
        clear R1 CN
        go_wp2_with fail
        go_ret
        rw [HE.out]
        exact ⟨⟨rfl, HR.out.put (K + 1) _ (by omega)⟩, grown_set g1 _ _⟩
      · have HE := hmk (H3.out e e2)
        have y3 : ((b.toNat : Int) != (c.toNat : Int)) = true := by rw [bne_iff_ne]; intro q; exact e2 (UInt8.toNat_inj.1 (by omega))
        clear H1 H2 H3 e e2
        go_enter Tryz.func74, Tryz.ntmps74
        go_wp2_with fail
        refine CN.out.mono ?_
        rintro en w1 ⟨rfl, R1, g1⟩
        have c4 := R1.c4
        have c1 := R1.c1
        have HR := hmk R1
        clear R1 CN
        go_wp2_with fail
        refine (CF.out _ HR.out).mono ?_
        rintro en w2 ⟨rfl, R2, g2⟩
        go_wp2_with fail
        go_ret
        rw [HE.out]
        exact ⟨⟨_, _, rfl, R2, by simp⟩, grown_trans g1 g2⟩
  · have hbe : blk s.data.toList k = s.size := by omega
    have CN := hmk (dnext_end g s k n D bd w h hs hk hbe)
    have HE : Hid (morJ s.data.toList k c = .error (s.size, 31)) := by
      show _ = _
      rw [morJ_end (by rw [hll]; omega), hbe]
    clear h
    go_enter Tryz.func74, Tryz.ntmps74
    go_wp2_with fail
    refine CN.out.mono ?_
    rintro en w1 ⟨rfl, R1, g1⟩
    have c4 := R1.c4
    have HR := hmk R1
    clear R1 CN
    go_wp2_with fail
    go_ret
    rw [HE.out]
    exact ⟨⟨_, _, rfl, HR.out, by simp⟩, g1⟩
end Go.Proofs.YtpmhdcmmlkjjmaaGreatDoor
/- the integer that the document reads is the program's. -/
namespace Go.Proofs.YtpmhdcmmlkjjmaaGreatDoor
open Go.RowKit Go.Lib
def dvJ (acc : Nat) : List UInt8 → Option Nat
  | [] => some acc
  | c :: r => if 48 ≤ c.toNat ∧ c.toNat ≤ 57 then dvJ (acc * 10 + (c.toNat - 48)) r else none
def uJ (d : List UInt8) : Option Nat := if d = [] ∨ (1 < d.length ∧ d.head? = some 48) ∨ 19 < d.length then none else dvJ 0 d
def finJ (minus : Bool) (o : Option Nat) : Option Int := match o with
  | none => none
  | some n => if minus = true ∧ n = 9223372036854775808 then some (-9223372036854775808) else if 9223372036854775807 < n then none else some (if minus = true then -(n : Int) else (n : Int))
/-- the document's integer -/
def dinJ (r : List UInt8) : Option Int := if r.head? = some 45 then finJ true (uJ r.tail) else finJ false (uJ r)
theorem dv_low : ∀ {l : List UInt8} {acc u : Nat}, dvJ acc l = some u → acc * 10 ^ l.length ≤ u
  | [], acc, u, h => by rw [dvJ] at h; cases h; simp
  | c :: r, acc, u, h => by
    rw [dvJ] at h
    split at h
    · have := dv_low h
      rw [List.length_cons, Nat.pow_succ]
      have h2 : acc * (10 ^ r.length * 10) = (acc * 10) * 10 ^ r.length := by rw [Nat.mul_comm (10 ^ r.length) 10, Nat.mul_assoc]
      rw [h2]
      exact Nat.le_trans (Nat.mul_le_mul_right _ (Nat.le_add_right _ _)) this
    · cases h
theorem dv_le {l : List UInt8} {acc u : Nat} (h : dvJ acc l = some u) : acc ≤ u := by
  have := dv_low h
  exact Nat.le_trans (Nat.le_mul_of_pos_right _ (Nat.pow_pos (by decide))) this
theorem pu_dv : ∀ {l : List UInt8} {acc u : Nat}, parseUintM 18446744073709551615 acc l = .ok u → dvJ acc l = some u
  | [], acc, u, h => by rw [parseUintM] at h; cases h; rfl
  | c :: r, acc, u, h => by
    rw [parseUintM] at h
    rw [dvJ]
    split at h
    · rename_i hc
      rw [if_pos hc]
      split at h
      · cases h
      · split at h
        · cases h
        · exact pu_dv h
    · cases h
theorem dv_pu : ∀ {l : List UInt8} {acc u : Nat}, dvJ acc l = some u → u ≤ 18446744073709551615 → parseUintM 18446744073709551615 acc l = .ok u
  | [], acc, u, h, _ => by rw [dvJ] at h; cases h; rfl
  | c :: r, acc, u, h, hu => by
    rw [dvJ] at h
    rw [parseUintM]
    split at h
    · rename_i hc
      have := dv_le h
      rw [if_pos hc, if_neg (by omega), if_neg (by omega)]
      exact dv_pu h hu
    · cases h
/-- a number of nineteen digits or fewer is a uint64 -/
theorem dv_top : ∀ {l : List UInt8} {acc u : Nat}, dvJ acc l = some u → u < (acc + 1) * 10 ^ l.length
  | [], acc, u, h => by rw [dvJ] at h; cases h; simp
  | c :: r, acc, u, h => by
    rw [dvJ] at h
    split at h
    · have := dv_top h
      rw [List.length_cons, Nat.pow_succ]
      have h2 : (acc + 1) * (10 ^ r.length * 10) = ((acc + 1) * 10) * 10 ^ r.length := by rw [Nat.mul_comm (10 ^ r.length) 10, Nat.mul_assoc]
      rw [h2]
      exact Nat.lt_of_lt_of_le this (Nat.mul_le_mul_right _ (by omega))
    · cases h
theorem pfx (c d : UInt8) (t : List UInt8) : hasPrefix (c :: t) [d] = (d == c) := by simp [hasPrefix, List.isPrefixOf]
/-- what stands behind the sign, read by the library's way and by the document's -/
theorem behind (minus : Bool) (d : List UInt8) (hz : ¬ (hasPrefix d [48] = true ∧ 1 < d.length)) :
    (match parseUintB 64 d with | .ok u => (if minus = false ∧ 9223372036854775808 ≤ u then none else if minus = true ∧ 9223372036854775808 < u then none else some (if minus = true then -(u : Int) else (u : Int))) | _ => none) = finJ minus (uJ d) := by
  have e2 : (2 : Nat) ^ 64 - 1 = 18446744073709551615 := by decide
  by_cases h0 : d = []
  · subst h0; rw [parseUintB, if_pos rfl, uJ, if_pos (.inl rfl)]; rfl
  rw [parseUintB, if_neg h0, e2]
  have hz' : ¬ (1 < d.length ∧ d.head? = some 48) := by
    rintro ⟨h1, h2⟩
    cases d with
    | nil => cases h2
    | cons c t => exact hz ⟨by rw [pfx]; simp at h2; simp [h2], h1⟩
  by_cases hl : 19 < d.length
  · rw [uJ, if_pos (.inr (.inr hl))]
    cases hp : parseUintM 18446744073709551615 0 d with
    | ok u =>
      have hv := pu_dv hp
      have hu : 10000000000000000000 ≤ u := by
        cases d with
        | nil => cases h0 rfl
        | cons c t =>
          rw [dvJ] at hv
          split at hv
          · rename_i hc
            have hc48 : c.toNat ≠ 48 := fun q => hz' ⟨by omega, by rw [List.head?_cons]; exact congrArg some (UInt8.toNat_inj.1 q)⟩
            have h1 := dv_low hv
            have h2 : (10 : Nat) ^ 19 ≤ 10 ^ t.length := Nat.pow_le_pow_right (by decide) (by rw [List.length_cons] at hl; omega)
            have e : (10 : Nat) ^ 19 = 10000000000000000000 := by decide
            have h3 : 1 * 10 ^ t.length ≤ (0 * 10 + (c.toNat - 48)) * 10 ^ t.length := Nat.mul_le_mul_right _ (by omega)
            omega
          · cases hv
      dsimp only
      rw [finJ]
      cases minus with
      | true => rw [if_neg (by simp), if_pos ⟨rfl, by omega⟩]
      | false => rw [if_pos ⟨rfl, by omega⟩]
    | «syntax» => rfl
    | range => rfl
  · rw [uJ, if_neg (by rintro (h | h | h); exact h0 h; exact hz' h; exact hl h)]
    cases hv : dvJ 0 d with
    | none =>
      cases hp : parseUintM 18446744073709551615 0 d with
      | ok u => rw [pu_dv hp] at hv; cases hv
      | «syntax» => rfl
      | range => rfl
    | some u =>
      have ht := dv_top hv
      have hu : u ≤ 18446744073709551615 := by
        have : (10 : Nat) ^ d.length ≤ 10 ^ 19 := Nat.pow_le_pow_right (by decide) (by omega)
        have e : (10 : Nat) ^ 19 = 10000000000000000000 := by decide
        omega
      rw [dv_pu hv hu]
      dsimp only
      rw [finJ]
      cases minus with
      | true =>
        by_cases e1 : u = 9223372036854775808
        · subst e1; decide
        · simp only [Bool.true_eq_false, false_and, if_false, true_and, if_true, e1]
          by_cases e3 : 9223372036854775808 < u
          · rw [if_pos e3, if_pos (by omega)]
          · rw [if_neg e3, if_neg (by omega)]
      | false =>
        simp only [Bool.false_eq_true, false_and, if_false, true_and]
        by_cases e3 : 9223372036854775808 ≤ u
        · rw [if_pos e3, if_pos (by omega)]
        · rw [if_neg e3, if_neg (by omega)]
theorem int_doc (r : List UInt8) : intJ r = dinJ r := by
  have e3 : (2 : Nat) ^ (64 - 1) = 9223372036854775808 := by decide
  cases r with
  | nil => rfl
  | cons c t =>
    rw [intJ, dinJ, pfx]
    by_cases hp : c = 43
    · subst hp
      rw [if_pos (by rfl), if_neg (by simp)]
      rw [uJ]
      split
      · rfl
      · rw [dvJ, if_neg (by decide)]; rfl
    rw [if_neg (by simp; exact fun h => hp h.symm)]
    by_cases hm : c = 45
    · subst hm
      have ht : trimPrefix (45 :: t) [45] = t := by simp [trimPrefix, hasPrefix, List.isPrefixOf]
      rw [ht, if_pos (by rfl : (45 :: t).head? = some 45), List.tail_cons]
      by_cases hz : hasPrefix t [48] = true ∧ 1 < t.length
      · rw [if_pos hz]
        cases t with
        | nil => exact absurd hz.2 (by simp)
        | cons d u =>
          have : d = 48 := by have := hz.1; rw [pfx] at this; simp at this; exact this.symm
          subst this
          rw [uJ, if_pos (.inr (.inl ⟨hz.2, rfl⟩))]
          rfl
      · rw [if_neg hz, ← behind true t hz]
        unfold parseIntB
        dsimp only
        rw [if_pos (by right; rfl)]
        cases parseUintB 64 t with
        | ok u =>
          dsimp only
          rw [e3]
          by_cases q : 9223372036854775808 < u
          · simp [q]
          · simp [q]
        | «syntax» => rfl
        | range => rfl
    · have ht : trimPrefix (c :: t) [45] = c :: t := by rw [trimPrefix, pfx, if_neg (by simp; exact fun h => hm h.symm)]
      rw [ht, if_neg (by simp; exact hm : ¬ (c :: t).head? = some 45)]
      by_cases hz : hasPrefix (c :: t) [48] = true ∧ 1 < (c :: t).length
      · rw [if_pos hz]
        have : c = 48 := by have := hz.1; rw [pfx] at this; simp at this; exact this.symm
        subst this
        rw [uJ, if_pos (.inr (.inl ⟨hz.2, rfl⟩))]
        rfl
      · rw [if_neg hz, ← behind false (c :: t) hz]
        have n43 : c.toNat ≠ 43 := fun q => hp (UInt8.toNat_inj.1 q)
        have n45 : c.toNat ≠ 45 := fun q => hm (UInt8.toNat_inj.1 q)
        unfold parseIntB
        dsimp only
        rw [if_neg (by omega)]
        cases parseUintB 64 (c :: t) with
        | ok u =>
          dsimp only
          rw [e3]
          by_cases q : 9223372036854775808 ≤ u
          · simp [n45, q]
          · simp [n45, q]
        | «syntax» => rfl
        | range => rfl
end Go.Proofs.YtpmhdcmmlkjjmaaGreatDoor
/- members put in where they belong: plain. -/
namespace Go.Proofs.YtpmhdcmmlkjjmaaGreatDoor
open Go.RowKit Go.Lib
theorem toList_data (a : ByteArray) : a.toList = a.data.toList := ByteArray.toList_eq a
theorem less_cmp : ∀ a b : List UInt8, Op.bytesLess a b = decide (compareBytes a b = -1)
  | [], [] => by simp [Op.bytesLess, compareBytes]
  | [], _ :: _ => by simp [Op.bytesLess, compareBytes]
  | _ :: _, [] => by simp [Op.bytesLess, compareBytes]
  | x :: t, y :: u => by
    have ih := less_cmp t u
    simp only [Op.bytesLess, compareBytes]
    by_cases h1 : x < y
    · simp [h1]
    · by_cases h2 : y < x
      · have hne : x ≠ y := fun e => by subst e; exact h1 h2
        simp [h1, h2, hne]
      · have he : x = y := u8_tri x y h1 h2
        subst he
        simp [h1, ih]
theorem less_k (a b : ByteArray) : Op.bytesLess a.toList b.toList = decide (cmpS a b < 0) := by
  rw [less_cmp, toList_data, toList_data, Bool.eq_iff_iff, decide_eq_true_iff, decide_eq_true_iff]
  have h : compareBytes a.data.toList b.data.toList = cmpS a b := rfl
  rw [h]
  have := k_one a b
  omega
theorem ins_at {key : ByteArray} {v : V} : ∀ {L : List Mem} {k : Nat}, k ≤ L.length → (∀ i (hi : i < L.length), k ≤ i → cmpS key (L[i]).1 < 0) → (∀ i (hi : i < L.length), i < k → ¬ cmpS key (L[i]).1 < 0) → insM (key, v) L = L.take k ++ [(key, v)] ++ L.drop k
  | [], k, hk, _, _ => by
    simp [insM]
  | y :: t, 0, hk, h1, h2 => by
    have this : cmpS key y.1 < 0 := h1 0 (by simp) (Nat.le_refl _)
    rw [insM, if_pos this]
    rfl
  | y :: t, k + 1, hk, h1, h2 => by
    have this : ¬ cmpS key y.1 < 0 := h2 0 (by simp) (by omega)
    rw [insM, if_neg this, ins_at (k := k) (by simpa using hk) (fun i hi hki => by have := h1 (i + 1) (by simp; omega) (by omega); simpa using this) (fun i hi hki => by have := h2 (i + 1) (by simp; omega) (by omega); simpa using this)]
    rfl
theorem low_all {key : ByteArray} {L : List Mem} {k : Nat} (hs : L.Pairwise leM) (hk : k < L.length) (h : ¬ cmpS key (L[k]).1 < 0) : ∀ i (hi : i < L.length), i < k + 1 → ¬ cmpS key (L[i]).1 < 0 := fun i hi hik => by
  by_cases e : i = k
  · subst e; exact h
  · have := List.pairwise_iff_getElem.1 hs i k hi hk (by omega)
    exact k_ntrans h this
def keysM (L : List Mem) : List (List UInt8) := L.map fun x => x.1.data.toList
theorem key_eq {a b : ByteArray} (h : a.data.toList = b.data.toList) : a = b := by
  cases a; cases b
  exact congrArg ByteArray.mk (Array.toList_inj.1 h)
theorem fresh_at {key : ByteArray} {L : List Mem} {k : Nat} (hs : L.Pairwise leM) (hk : k < L.length) (h : ¬ cmpS key (L[k]).1 < 0) (hne : ¬ (L[k]).1 = key) (hi : ∀ i (hi : i < L.length), k + 1 ≤ i → cmpS key (L[i]).1 < 0) : key.data.toList ∉ keysM L := by
  intro hm
  obtain ⟨x, hx, e⟩ := List.mem_map.1 hm
  obtain ⟨i, hil, rfl⟩ := List.getElem_of_mem hx
  have e' : (L[i]).1 = key := key_eq e
  rcases Nat.lt_trichotomy i k with q | q | q
  · have h2 := List.pairwise_iff_getElem.1 hs i k hil hk q
    have h3 : ¬ cmpS (L[k]).1 key < 0 := by rw [← e']; exact h2
    have h4 := k_anti key (L[k]).1
    exact hne (kz (show cmpS (L[k]).1 key = 0 by omega))
  · subst q; exact hne e'
  · have h2 := hi i hil q
    rw [e', k_self] at h2
    omega
theorem fresh_zero {key : ByteArray} {L : List Mem} (hi : ∀ i (hi : i < L.length), 0 ≤ i → cmpS key (L[i]).1 < 0) : key.data.toList ∉ keysM L := by
  intro hm
  obtain ⟨x, hx, e⟩ := List.mem_map.1 hm
  obtain ⟨i, hil, rfl⟩ := List.getElem_of_mem hx
  have e' : (L[i]).1 = key := key_eq e
  have h2 := hi i hil (Nat.zero_le _)
  rw [e', k_self] at h2
  omega
theorem old_at {key : ByteArray} {L : List Mem} {k : Nat} (hk : k < L.length) (h : (L[k]).1 = key) : key.data.toList ∈ keysM L := List.mem_map.2 ⟨L[k], List.getElem_mem hk, by rw [h]⟩
/-- the value set by its key -/
def setK (key : ByteArray) (x : V) (y : Mem) : Mem := if y.1.data.toList = key.data.toList then (y.1, x) else y
theorem set_same {key : ByteArray} {x : V} : ∀ {L : List Mem}, key.data.toList ∉ keysM L → L.map (setK key x) = L
  | [], _ => rfl
  | y :: t, h => by
    have h1 : ¬ key.data.toList = y.1.data.toList := fun e => h (by rw [keysM, List.map_cons, e]; exact List.mem_cons_self ..)
    rw [List.map_cons, set_same (L := t) (fun q => h (by rw [keysM, List.map_cons]; exact List.mem_cons_of_mem _ q)), setK, if_neg (fun e => h1 e.symm)]
theorem set_ins {key : ByteArray} {v x : V} : ∀ {L : List Mem}, key.data.toList ∉ keysM L → (insM (key, v) L).map (setK key x) = insM (key, x) L
  | [], _ => by simp [insM, setK]
  | y :: t, h => by
    have h1 : ¬ key.data.toList = y.1.data.toList := fun e => h (by rw [keysM, List.map_cons, e]; exact List.mem_cons_self ..)
    have h2 : key.data.toList ∉ keysM t := fun q => h (by rw [keysM, List.map_cons]; exact List.mem_cons_of_mem _ q)
    rw [insM, insM]
    by_cases e : cmpS key y.1 < 0
    · rw [if_pos e, if_pos e, List.map_cons, set_same h, setK, if_pos rfl]
    · rw [if_neg e, if_neg e, List.map_cons, set_ins h2, setK, if_neg (fun e => h1 e.symm)]
theorem ins_sort {key : ByteArray} {x : V} {acc : List Mem} (hn : ((acc ++ [(key, x)]).map fun x => x.1.data.toList).Nodup) : insM (key, x) (sortM acc) = sortM (acc ++ [(key, x)]) :=
  sort_one hn ((insM_perm _ _).trans (((sortM_perm acc).cons _).trans (List.perm_append_comm (l₁ := [(key, x)])))) (insM_sorted (sortM_sorted acc))
theorem keys_sort {acc : List Mem} {key : List UInt8} : key ∈ keysM (sortM acc) ↔ key ∈ keysM acc := ((sortM_perm acc).map _).mem_iff
end Go.Proofs.YtpmhdcmmlkjjmaaGreatDoor
