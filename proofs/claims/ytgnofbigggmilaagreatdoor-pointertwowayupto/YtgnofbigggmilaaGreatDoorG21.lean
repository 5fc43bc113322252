/- joined: IdxP GidA -/
import Derived.Lib.AtoiAll
import Derived.Lib.ItoaNum
import Derived.Test.YtgnofbigggmilaaGreatDoorPtrC
import Derived.Lib.SmallJoins
import Derived.Lib.AppendIntMem
/- an index as a token says it. -/
set_option linter.unusedSimpArgs false
set_option linter.unusedVariables false
namespace Go.Proofs.YtgnofbigggmilaaGreatDoor
open Go.Lib
theorem pu_snoc : ∀ (a : List UInt8) (acc u : Nat) (c : UInt8), parseUint10 acc a = .ok u → 48 ≤ c.toNat → c.toNat ≤ 57 → u < 1844674407370955162 → u * 10 + (c.toNat - 48) < 18446744073709551616 → parseUint10 acc (a ++ [c]) = .ok (u * 10 + (c.toNat - 48))
  | [], acc, u, c, h, h1, h2, h3, h4 => by
    simp only [parseUint10] at h
    injection h with h
    subst h
    simp only [List.nil_append, parseUint10]
    rw [if_pos ⟨h1, h2⟩, if_neg (by omega), if_neg (by omega)]
  | x :: t, acc, u, c, h, h1, h2, h3, h4 => by
    simp only [parseUint10, List.cons_append] at h ⊢
    split at h
    · rename_i hx
      rw [if_pos hx]
      split at h
      · cases h
      · rename_i hy
        rw [if_neg hy]
        split at h
        · cases h
        · rename_i hz
          rw [if_neg hz]
          exact pu_snoc t _ u c h h1 h2 h3 h4
    · cases h
theorem pu_dec (u : Nat) : u < 9223372036854775808 → parseUint10 0 (decDigits u) = .ok u := by
  induction u using Nat.strongRecOn with
  | ind u ih =>
  intro hu
  by_cases h : u < 10
  · rw [decDigits, dif_pos h]
    have e : (UInt8.ofNat (48 + u)).toNat = 48 + u := by rw [UInt8.toNat_ofNat']; omega
    simp only [parseUint10, e]
    rw [if_pos (by omega), if_neg (by omega), if_neg (by omega)]
    congr 1
    omega
  · rw [decDigits, dif_neg h]
    have e : (UInt8.ofNat (48 + u % 10)).toNat = 48 + u % 10 := by rw [UInt8.toNat_ofNat']; omega
    have := pu_snoc _ 0 (u / 10) (UInt8.ofNat (48 + u % 10)) (ih (u / 10) (by omega) (by omega)) (by omega) (by omega) (by omega) (by omega)
    rw [this, e]
    congr 1
    omega
theorem dec_digit (u : Nat) : ∀ b ∈ decDigits u, 48 ≤ b.toNat ∧ b.toNat ≤ 57 := by
  induction u using Nat.strongRecOn with
  | ind u ih =>
  intro b hb
  rw [decDigits] at hb
  split at hb
  · rw [List.mem_singleton] at hb
    rw [hb, UInt8.toNat_ofNat']
    omega
  · rcases List.mem_append.1 hb with hb | hb
    · exact ih (u / 10) (by omega) b hb
    · rw [List.mem_singleton] at hb
      rw [hb, UInt8.toNat_ofNat']
      omega
theorem dec_ne (u : Nat) : decDigits u ≠ [] := by
  rw [decDigits]
  split <;> simp
theorem atoi_dec (u : Nat) (hu : u < 9223372036854775808) : atoiAll (decDigits u) = .ok (u : Int) := by
  have h1 := pu_dec u hu
  have h2 := dec_digit u
  have h3 := dec_ne u
  generalize decDigits u = l at *
  cases l with
  | nil => exact absurd rfl h3
  | cons c r =>
    have hc := h2 c (List.mem_cons_self ..)
    unfold atoiAll
    simp only
    rw [if_neg (by omega), parseMag, if_neg (by simp), h1]
    simp only
    rw [if_neg (by omega), if_neg (by omega), if_neg (by omega)]
theorem dec_inj {a b : Nat} (ha : a < 9223372036854775808) (hb : b < 9223372036854775808) (h : decDigits a = decDigits b) : a = b := by
  have h1 := atoi_dec a ha
  have h2 := atoi_dec b hb
  rw [h, h2] at h1
  injection h1 with h1
  omega
/-- which one of n a token says -/
def idxF (tok : List UInt8) (n : Nat) : Option Nat := (List.range n).find? (fun i => decDigits i == tok)
theorem idxF_some {tok : List UInt8} {n i : Nat} (hn : n < 9223372036854775808) (hi : i < n) (h : decDigits i = tok) : idxF tok n = some i := by
  cases hf : idxF tok n with
  | none =>
    rw [idxF, List.find?_eq_none] at hf
    exact absurd (by simp [h]) (hf i (List.mem_range.2 hi))
  | some j =>
    rw [idxF] at hf
    have h1 := List.find?_some hf
    have h2 := List.mem_of_find?_eq_some hf
    rw [List.mem_range] at h2
    have h3 : decDigits j = tok := by simpa using h1
    rw [dec_inj (by omega) (by omega) (h3.trans h.symm)]
theorem idxF_none {tok : List UInt8} {n : Nat} (h : ∀ i, i < n → decDigits i ≠ tok) : idxF tok n = none := by
  rw [idxF, List.find?_eq_none]
  intro i hi
  rw [List.mem_range] at hi
  simpa using h i hi
/-- as the program asks it -/
theorem idxF_prog (tok : List UInt8) (n : Nat) (hn : n < 9223372036854775808) : idxF tok n = (match atoiAll tok with
    | .ok v => if 0 ≤ v ∧ v < n ∧ itoa v = tok then some v.toNat else none
    | _ => none) := by
  cases ha : atoiAll tok with
  | ok v =>
    simp only
    split
    · rename_i h
      obtain ⟨u, rfl⟩ : ∃ u : Nat, v = u := ⟨v.toNat, by omega⟩
      have h3 := h.2.2
      rw [itoa, if_neg (by omega)] at h3
      simp only [Int.toNat_natCast] at h3 ⊢
      exact idxF_some hn (by omega) h3
    · rename_i h
      refine idxF_none fun i hi e => h ?_
      have h1 := atoi_dec i (by omega)
      rw [e, ha] at h1
      injection h1 with h1
      subst h1
      refine ⟨by omega, by omega, ?_⟩
      rw [itoa, if_neg (by omega)]
      simpa using e
  | «syntax» =>
    refine idxF_none fun i hi e => ?_
    have h1 := atoi_dec i (by omega)
    rw [e, ha] at h1
    cases h1
  | range =>
    refine idxF_none fun i hi e => ?_
    have h1 := atoi_dec i (by omega)
    rw [e, ha] at h1
    cases h1
end Go.Proofs.YtgnofbigggmilaaGreatDoor
/- pointer.index. -/
namespace Go.Proofs.YtgnofbigggmilaaGreatDoor
open Go.RowKit Go.Lib
/-- a variable that holds an error -/
def ErrAt (g : Nat) (w : World) : Prop := ∃ ev, w.cell? ⟨g, 0, none⟩ = some ev ∧ (ev = .nilIface ∨ ∃ te pe, ev = .iface te pe)
def PowTab (w : World) : Prop := TabIs Tryz.prog w "internal/strconv.uint64pow10" .u64 pow10Tab
theorem PowTab.below {w w' : World} {B : Nat} (h : PowTab w) (hb : Below B w w') (hB : 7 < B) : PowTab w' := by
  unfold PowTab TabIs World.var? at *
  have hg : Tryz.prog.globalNamed "internal/strconv.uint64pow10" = some 5 := by kernel_rfl
  simp only [hg, Option.bind_some] at h ⊢
  rw [hb.block 5 (by omega)]
  exact h
/-- what the calls read beside their arguments -/
structure Tg (w : World) : Prop where
  t : Tp w
  y : ErrAt 3 w
  r : ErrAt 4 w
  p : PowTab w
  z : 7 < w.heap.size
theorem ErrAt.below {g : Nat} {w w' : World} {B : Nat} (h : ErrAt g w) (hb : Below B w w') (hB : g < B) : ErrAt g w' := by
  obtain ⟨ev, h1, h2⟩ := h
  exact ⟨ev, (hb.cell (p := ⟨g, 0, none⟩) hB).trans h1, h2⟩
theorem Tg.below {w w' : World} {B : Nat} (h : Tg w) (hb : Below B w w') (hB : 7 < B) : Tg w' :=
  ⟨h.t.below hb (by omega), h.y.below hb (by omega), h.r.below hb (by omega), h.p.below hb hB, Nat.lt_of_lt_of_le h.z hb.size⟩
/-- strconv.Atoi: a number and no error, or some error -/
theorem atoi_any (s : ByteArray) (w : World) (hs : s.size ≤ 281474976710656) (tg : Tg w) :
    Calls Tryz.prog 88 #[.string s] w fun e w' => (∃ n ev, e = .returned (.tuple #[.int .i64 n, ev]) ∧ ((∃ v, atoiAll s.data.toList = .ok v ∧ n = v ∧ ev = .nilIface) ∨ ((∀ v, atoiAll s.data.toList ≠ .ok v) ∧ ∃ N, ev = .iface 143 (.pointer (some ⟨N, 0, none⟩))))) ∧ Below w.heap.size w w' := by
  cases ha : atoiAll s.data.toList with
  | ok v =>
    refine (Any.strconv_Atoi_ok Tryz.lays172 s (by omega) v ha w).mono ?_
    rintro e w' ⟨he, hw⟩
    refine ⟨⟨v, .nilIface, he, .inl ⟨v, rfl, rfl, rfl⟩⟩, ?_⟩
    rcases hw with rfl | ⟨t, rfl⟩
    · exact Below.refl _ _
    · exact Go.Joins.below_bytesWorld _ _ _ _ (Nat.le_refl _)
  | «syntax» =>
    obtain ⟨ev, h1, h2⟩ := tg.y
    refine (Any.strconv_Atoi_syntax Tryz.lays172 s hs ha ev w h1 h2).mono ?_
    rintro e w' ⟨N, he, _, _, hb⟩
    exact ⟨⟨_, _, he, .inr ⟨(fun v h => by cases h), N, rfl⟩⟩, hb⟩
  | range =>
    obtain ⟨ev, h1, h2⟩ := tg.r
    refine (Any.strconv_Atoi_range Tryz.lays172 s hs ha ev w h1 h2).mono ?_
    rintro e w' ⟨N, he, _, _, hb⟩
    exact ⟨⟨_, _, he, .inr ⟨(fun v h => by cases h), N, rfl⟩⟩, hb⟩
theorem itoa_any (n : Int) (h : -9223372036854775808 ≤ n ∧ n ≤ 9223372036854775807) (w : World) (tg : Tg w) :
    Calls Tryz.prog 79 #[.int .i64 n] w fun e w' => e = .returned (.string ⟨(itoa n).toArray⟩) ∧ Below w.heap.size w w' := by
  refine (Any.strconv_Itoa Tryz.lays171 n h.1 h.2 w tg.p).mono ?_
  rintro e w' ⟨he, k, os, rfl⟩
  exact ⟨he, below_grow _ _ (Nat.le_refl _) _ _⟩
def IxPost (o : Option Nat) (w : World) (e : Ending) (w' : World) : Prop := e = .returned (.tuple #[.int .i64 ((o.getD 0 : Nat) : Int), .bool o.isSome]) ∧ Below w.heap.size w w'
set_option maxHeartbeats 2000000 in
set_option maxRecDepth 100000 in
theorem index_any (s : ByteArray) (n : Nat) (w : World) (hs : s.size ≤ 281474976710656) (hn : n < 9223372036854775808) (tg : Tg w) : Calls Tryz.prog 68 #[.string s, .int .i64 (n : Int)] w (IxPost (idxF s.data.toList n) w) := by
  have CA := hmk (atoi_any s w hs tg)
  have HI := hmk (idxF_prog s.data.toList n hn)
  have HT : Hid (∀ W, Below w.heap.size w W → Tg W) := fun W hb => tg.below hb tg.z
  generalize idxF s.data.toList n = O at *
  clear tg
  go_enter Tryz.func68, Tryz.ntmps68
  go_wp2_with fail
  refine CA.out.mono ?_
  rintro e w1 ⟨⟨m, ev, rfl, hcase⟩, b1⟩
  rcases hcase with ⟨v, ha, rfl, rfl⟩ | ⟨ha, N, rfl⟩
  · rw [ha] at HI
    by_cases h0 : m < 0
    · have HR : Hid (O = none) := by show _ = _; rw [HI.out]; simp only; rw [if_neg (fun h => by omega)]
      go_wp2_with fail
      go_ret2
      exact ⟨by rw [HR.out]; rfl, b1⟩
    · by_cases h1 : (n : Int) ≤ m
      · have HR : Hid (O = none) := by show _ = _; rw [HI.out]; simp only; rw [if_neg (fun h => by omega)]
        have y1 : ¬ m < 0 := h0
        have y2 : m ≥ n := h1
        go_wp2_with fail
        go_ret2
        exact ⟨by rw [HR.out]; rfl, b1⟩
      · obtain ⟨u, rfl⟩ : ∃ u : Nat, m = u := ⟨m.toNat, by omega⟩
        have y1 : ¬ (u : Int) < 0 := h0
        have y2 : ¬ (u : Int) ≥ n := by omega
        have y3 : (u : Int) < n := by omega
        have CI := hmk (itoa_any (u : Int) (by omega) w1 (HT.out w1 b1))
        have hz1 := b1.size
        by_cases hq : itoa (u : Int) = s.data.toList
        · have HR : Hid (O = some u) := by show _ = _; rw [HI.out]; simp only; rw [if_pos ⟨by omega, by omega, hq⟩]; simp
          have eq : (⟨(itoa (u : Int)).toArray⟩ : ByteArray) = s := by rw [hq]
          rw [eq] at CI
          have yq : (s.toList != s.toList) = false := by simp
          go_wp2_with fail
          refine CI.out.mono ?_
          rintro e w2 ⟨rfl, b2⟩
          go_wp2_with fail
          go_ret2
          exact ⟨by rw [HR.out]; rfl, b1.trans (b2.mono hz1)⟩
        · have HR : Hid (O = none) := by show _ = _; rw [HI.out]; simp only; rw [if_neg (fun h => hq h.2.2)]
          have yq : ((⟨(itoa (u : Int)).toArray⟩ : ByteArray).toList == s.toList) = false := by
            rw [beq_eq_false_iff_ne, ByteArray.toList_eq, ByteArray.toList_eq]; exact hq
          generalize (⟨(itoa (u : Int)).toArray⟩ : ByteArray) = qi at *
          have yq2 : (qi.toList != s.toList) = true := by simp [bne, yq]
          have yq3 : ¬ qi.toList = s.toList := by simpa using yq
          go_wp2_with fail
          refine CI.out.mono ?_
          rintro e w2 ⟨rfl, b2⟩
          go_wp2_with fail
          go_ret2
          exact ⟨by rw [HR.out]; rfl, b1.trans (b2.mono hz1)⟩
  · have HR : Hid (O = none) := by
      show _ = _
      rw [HI.out]
      cases hx : atoiAll s.data.toList with
      | ok v => exact absurd hx (ha v)
      | «syntax» => rfl
      | range => rfl
    go_wp2_with fail
    go_ret2
    exact ⟨by rw [HR.out]; rfl, b1⟩
end Go.Proofs.YtgnofbigggmilaaGreatDoor
