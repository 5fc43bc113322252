/- Plain facts on scalar values: written as escapes, read as sequences. -/
import Derived.Test.YtcoamnmgkhlahaaDoorPlainX
set_option linter.unusedSimpArgs false
set_option linter.unusedVariables false
namespace Go.Proofs.YtcoamnmgkhlahaaDoor.Q

/-- a digit to the base 16, small or great -/
def hexG (g : Bool) (d : Nat) : Nat := if d < 10 then 48 + d else if g then 55 + d else 87 + d
theorem hexG_dig : ∀ (g : Bool) (d : Fin 16), dig (UInt8.ofNat (hexG g d.val)).toNat = (d.val : Int) := by decide +kernel

def dgs (g : Bool) (n : Nat) : List UInt8 := [UInt8.ofNat (hexG g (n / 4096 % 16)), UInt8.ofNat (hexG g (n / 256 % 16)), UInt8.ofNat (hexG g (n / 16 % 16)), UInt8.ofNat (hexG g (n % 16))]

theorem digs_dgs (aw g : Bool) (n : Nat) (u : List UInt8) (hn : n < 65536) (h1 : aw = false → ¬ (56320 ≤ n ∧ n ≤ 57343)) (h2 : aw = true → 56320 ≤ n ∧ n ≤ 57343) :
    digs aw 4 0 0 (dgs g n ++ u) = (n, 4, true) := by
  have d0 := hexG_dig g ⟨n / 4096 % 16, by omega⟩
  have d1 := hexG_dig g ⟨n / 256 % 16, by omega⟩
  have d2 := hexG_dig g ⟨n / 16 % 16, by omega⟩
  have d3 := hexG_dig g ⟨n % 16, by omega⟩
  simp only at d0 d1 d2 d3
  have e : ((((16 * 0 + n / 4096 % 16) * 16 + n / 256 % 16) * 16 + n / 16 % 16) * 16 + n % 16) = n := by omega
  have g0 : goes ((0 : Nat) : Int) (((n / 4096 % 16 : Nat)) : Int) 0 aw = true := by
    unfold goes
    rw [if_pos rfl]
    cases aw
    · rfl
    · have := h2 rfl
      have e13 : n / 4096 % 16 = 13 := by omega
      rw [e13]; rfl
  have g1 : goes ((16 * 0 + n / 4096 % 16 : Nat) : Int) (((n / 256 % 16 : Nat)) : Int) 1 aw = true := by
    unfold goes
    rw [if_neg (by omega), if_pos rfl]
    cases aw
    · have := h1 rfl
      by_cases c : n / 4096 % 16 = 13
      · have c2 : ¬ 12 ≤ ((n / 256 % 16 : Nat) : Int) := by omega
        rw [decide_eq_false c2, Bool.and_false]; rfl
      · have c2 : ¬ ((16 * 0 + n / 4096 % 16 : Nat) : Int) = 13 := by omega
        simp only [beq_iff_eq, c2, beq_eq_false_iff_ne.2 c2]
        rfl
    · have := h2 rfl
      have c : n / 4096 % 16 = 13 := by omega
      have c2 : 12 ≤ ((n / 256 % 16 : Nat) : Int) := by omega
      rw [c, decide_eq_true c2]; rfl
  have g2 : ∀ c d : Int, goes c d 2 aw = true := fun c d => rfl
  have g3 : ∀ c d : Int, goes c d 3 aw = true := fun c d => rfl
  simp only [dgs, List.cons_append, List.nil_append]
  rw [digs, d0, if_neg (by rw [g0]; simp; omega), Int.toNat_natCast]
  rw [digs, d1, if_neg (by rw [g1]; simp; omega), Int.toNat_natCast]
  rw [digs, d2, if_neg (by rw [g2]; simp; omega), Int.toNat_natCast]
  rw [digs, d3, if_neg (by rw [g3]; simp; omega), Int.toNat_natCast]
  rw [digs]
  congr 1
  omega

/-- a scalar value as an escape, or as a pair of them -/
def wr (g : Bool) (c : Nat) : List UInt8 :=
  if c < 65536 then 92 :: 117 :: dgs g c else 92 :: 117 :: (dgs g (55296 + (c - 65536) / 1024) ++ 92 :: 117 :: dgs g (56320 + (c - 65536) % 1024))
def IsSc (c : Nat) : Prop := c ≤ 1114111 ∧ ¬ (55296 ≤ c ∧ c ≤ 57343)
theorem wr_len (g : Bool) (c : Nat) : (wr g c).length = if c < 65536 then 6 else 12 := by
  unfold wr
  split <;> rfl

theorem stp_wr (g : Bool) (c : Nat) (u : List UInt8) (hc : IsSc c) : stp (wr g c ++ u) = (2, Lib.encodeRune (c : Int), (wr g c).length, 0) := by
  obtain ⟨h1, h2⟩ := hc
  have key : ∃ r, wr g c ++ u = 92 :: 117 :: r ∧ numF r = (c, (wr g c).length - 2, true) := by
    rw [wr_len]
    by_cases h : c < 65536
    · refine ⟨dgs g c ++ u, by rw [wr, if_pos h]; rfl, ?_⟩
      rw [numF, digs_dgs false g c u h (fun _ => by omega) (fun h => by cases h)]
      simp only
      rw [if_neg (by simp), if_neg (by omega), if_pos h]
    · refine ⟨dgs g (55296 + (c - 65536) / 1024) ++ (92 :: 117 :: (dgs g (56320 + (c - 65536) % 1024) ++ u)), by rw [wr, if_neg h]; simp, ?_⟩
      rw [numF, digs_dgs false g (55296 + (c - 65536) / 1024) _ (by omega) (fun _ => by omega) (fun h => by cases h)]
      have e : (dgs g (55296 + (c - 65536) / 1024) ++ (92 :: 117 :: (dgs g (56320 + (c - 65536) % 1024) ++ u))).drop 4 = 92 :: 117 :: (dgs g (56320 + (c - 65536) % 1024) ++ u) := rfl
      rw [e]
      simp only
      rw [if_neg (by simp), if_pos (by omega), if_neg (by decide), if_neg (by decide), digs_dgs true g (56320 + (c - 65536) % 1024) u (by omega) (fun h => by cases h) (fun _ => by omega)]
      simp only
      have ev : 65536 + 1024 * (55296 + (c - 65536) / 1024 - 55296) + (56320 + (c - 65536) % 1024 - 56320) = c := by omega
      rw [if_neg (by simp), if_neg h, ev]
  obtain ⟨r, hr, hn⟩ := key
  have hl := wr_len g c
  rw [hr, stp_cons, if_neg (by decide), if_neg (by decide), if_pos (show (92 : UInt8).toNat = 92 from rfl), escF_cons, if_pos (show (117 : UInt8).toNat = 117 from rfl), hn]
  simp only [if_true]
  congr 3
  split at hl <;> omega

def wrs (g : Bool) (l : List Nat) : List UInt8 := l.flatMap (wr g)
def encs (l : List Nat) : List UInt8 := l.flatMap fun c : Nat => Lib.encodeRune (c : Int)
theorem wrs_snoc (g : Bool) (l : List Nat) (c : Nat) : wrs g (l ++ [c]) = wrs g l ++ wr g c := by simp [wrs]
theorem encs_snoc (l : List Nat) (c : Nat) : encs (l ++ [c]) = encs l ++ Lib.encodeRune (c : Int) := by simp [encs]
theorem wrs_len (g : Bool) (l : List Nat) : (wrs g l).length ≤ 12 * l.length ∧ 6 * l.length ≤ (wrs g l).length := by
  induction l with
  | nil => simp [wrs]
  | cons c l ih =>
    have := wr_len g c
    have e : (wrs g (c :: l)).length = (wr g c).length + (wrs g l).length := by simp [wrs]
    rw [e, List.length_cons]
    split at this <;> omega
theorem encs_len (l : List Nat) : (encs l).length ≤ 4 * l.length := by
  induction l with
  | nil => simp [encs]
  | cons c l ih =>
    have := enc_len c
    have e : (encs (c :: l)).length = (Lib.encodeRune (c : Int)).length + (encs l).length := by simp [encs]
    rw [e, List.length_cons]
    omega
theorem encs_valid (l : List Nat) (h : ∀ c ∈ l, IsSc c) : Lib.validD (encs l) = true := by
  induction l with
  | nil => rfl
  | cons c l ih =>
    have e : encs (c :: l) = Lib.encodeRune (c : Int) ++ encs l := by simp [encs]
    rw [e]
    have hc := h c (by simp)
    exact valid_app _ _ _ (Nat.le_refl _) (enc_valid c hc.1 hc.2).1 (ih fun x hx => h x (by simp [hx]))

theorem unq_wrs (g : Bool) (u : List UInt8) : ∀ (l : List Nat) (f k : Nat) (out : List UInt8), (∀ c ∈ l, IsSc c) → l.length + 1 ≤ f →
    unq f (wrs g l ++ 34 :: u) k out = (out ++ encs l, k + (wrs g l).length + 1, 0) := by
  intro l
  induction l with
  | nil =>
    intro f k out _ hf
    obtain ⟨f, rfl⟩ : ∃ f', f = f' + 1 := ⟨f - 1, by simp at hf; omega⟩
    have e : stp ((34 : UInt8) :: u) = (1, [], 1, 0) := by rw [stp_cons, if_neg (by decide), if_pos (by decide)]
    simp [wrs, encs, unq, e]
  | cons c l ih =>
    intro f k out h hf
    obtain ⟨f, rfl⟩ : ∃ f', f = f' + 1 := ⟨f - 1, by simp at hf; omega⟩
    have e1 : wrs g (c :: l) ++ 34 :: u = wr g c ++ (wrs g l ++ 34 :: u) := by simp [wrs]
    have e2 : encs (c :: l) = Lib.encodeRune (c : Int) ++ encs l := by simp [encs]
    have e3 : (wrs g (c :: l)).length = (wr g c).length + (wrs g l).length := by simp [wrs]
    have hs := stp_wr g c (wrs g l ++ 34 :: u) (h c (by simp))
    rw [unq, e1, hs]
    simp only
    rw [if_neg (by omega), if_neg (by omega), List.drop_left, ih f _ _ (fun x hx => h x (by simp [hx])) (by simp at hf; omega), e2, e3]
    simp only [List.append_assoc]
    congr 2
    omega

theorem unqAll_wrs (g : Bool) (l : List Nat) (h : ∀ c ∈ l, IsSc c) : unqAll (34 :: (wrs g l ++ [34])) 0 = (encs l, (wrs g l).length + 2, 0) := by
  have hl := wrs_len g l
  rw [unqAll, if_neg (by simp; omega), if_pos (by simp)]
  have e : List.drop (Int.toNat 0 + 1) ((34 : UInt8) :: (wrs g l ++ [34])) = wrs g l ++ 34 :: [] := rfl
  rw [e, unq_wrs g [] l _ _ [] h (by simp; omega)]
  simp
  omega

theorem enc_size (c : Nat) (h : IsSc c) : (Lib.encodeRune (c : Int)).length = if 65536 ≤ c then 4 else if 2048 ≤ c then 3 else if 128 ≤ c then 2 else 1 := by
  obtain ⟨h1, h2⟩ := h
  unfold Lib.encodeRune
  rw [List.length_map]
  split
  · rw [Lib.encodeRuneZ_four (by omega) (by omega)]; rfl
  · split
    · rw [Lib.encodeRuneZ_three (by omega)]; rfl
    · split
      · rw [Lib.encodeRuneZ_two (by omega) (by omega)]; rfl
      · rw [Lib.encodeRuneZ_one (by omega) (by omega)]; rfl

theorem enc_inj (c d : Nat) (hc : IsSc c) (hd : IsSc d) (h : Lib.encodeRune (c : Int) = Lib.encodeRune (d : Int)) : c = d := by
  have l := congrArg List.length h
  rw [enc_size c hc, enc_size d hd] at l
  obtain ⟨h1, h2⟩ := hc
  obtain ⟨h3, h4⟩ := hd
  have inj : ∀ x y : Int, 0 ≤ x → x < 256 → 0 ≤ y → y < 256 → x.toNat.toUInt8 = y.toNat.toUInt8 → x = y := by
    intro x y a b c d e
    have := congrArg UInt8.toNat e
    rw [byteZ x a b, byteZ y c d] at this
    omega
  unfold Lib.encodeRune at h
  by_cases c1 : 65536 ≤ c
  · have d1 : 65536 ≤ d := by
      rw [if_pos c1] at l
      split at l
      · assumption
      · split at l
        · omega
        · split at l <;> omega
    rw [Lib.encodeRuneZ_four (by omega) (by omega), Lib.encodeRuneZ_four (by omega) (by omega)] at h
    simp only [List.map_cons, List.map_nil, List.cons.injEq, and_true] at h
    obtain ⟨a0, a1, a2, a3⟩ := h
    have := inj _ _ (by omega) (by omega) (by omega) (by omega) a0
    have := inj _ _ (by omega) (by omega) (by omega) (by omega) a1
    have := inj _ _ (by omega) (by omega) (by omega) (by omega) a2
    have := inj _ _ (by omega) (by omega) (by omega) (by omega) a3
    omega
  · have d1 : ¬ 65536 ≤ d := by
      intro d1
      rw [if_neg c1, if_pos d1] at l
      split at l
      · omega
      · split at l <;> omega
    rw [if_neg c1, if_neg d1] at l
    by_cases c2 : 2048 ≤ c
    · have d2 : 2048 ≤ d := by
        rw [if_pos c2] at l
        split at l
        · assumption
        · split at l <;> omega
      rw [Lib.encodeRuneZ_three (by omega), Lib.encodeRuneZ_three (by omega)] at h
      simp only [List.map_cons, List.map_nil, List.cons.injEq, and_true] at h
      obtain ⟨a0, a1, a2⟩ := h
      have := inj _ _ (by omega) (by omega) (by omega) (by omega) a0
      have := inj _ _ (by omega) (by omega) (by omega) (by omega) a1
      have := inj _ _ (by omega) (by omega) (by omega) (by omega) a2
      omega
    · have d2 : ¬ 2048 ≤ d := by
        intro d2
        rw [if_neg c2, if_pos d2] at l
        split at l <;> omega
      rw [if_neg c2, if_neg d2] at l
      by_cases c3 : 128 ≤ c
      · have d3 : 128 ≤ d := by
          rw [if_pos c3] at l
          split at l
          · assumption
          · omega
        rw [Lib.encodeRuneZ_two (by omega) (by omega), Lib.encodeRuneZ_two (by omega) (by omega)] at h
        simp only [List.map_cons, List.map_nil, List.cons.injEq, and_true] at h
        obtain ⟨a0, a1⟩ := h
        have := inj _ _ (by omega) (by omega) (by omega) (by omega) a0
        have := inj _ _ (by omega) (by omega) (by omega) (by omega) a1
        omega
      · have d3 : ¬ 128 ≤ d := by
          intro d3
          rw [if_neg c3, if_pos d3] at l
          omega
        rw [Lib.encodeRuneZ_one (by omega) (by omega), Lib.encodeRuneZ_one (by omega) (by omega)] at h
        simp only [List.map_cons, List.map_nil, List.cons.injEq, and_true] at h
        have := inj _ _ (by omega) (by omega) (by omega) (by omega) h
        omega

/-- a number brought to a scalar value -/
def scal (z : Int) : Nat := if z.tmod 1112064 < 0 then (if z.tmod 1112064 + 1112064 ≥ 55296 then (z.tmod 1112064 + 1114112).toNat else (z.tmod 1112064 + 1112064).toNat) else if z.tmod 1112064 ≥ 55296 then (z.tmod 1112064 + 2048).toNat else (z.tmod 1112064).toNat
theorem tmod_lt (z : Int) : -1112064 < z.tmod 1112064 ∧ z.tmod 1112064 < 1112064 := by
  have h1 := Int.tmod_lt_of_pos z (show (0 : Int) < 1112064 by omega)
  have h2 := Int.lt_tmod_of_pos z (show (0 : Int) < 1112064 by omega)
  omega
theorem scal_is (z : Int) : IsSc (scal z) := by
  have := tmod_lt z
  unfold scal IsSc
  split
  · split <;> omega
  · split <;> omega
theorem scal_next (c : Nat) (h : IsSc c) : scal ((c : Int) + 1) ≠ c := by
  obtain ⟨h1, h2⟩ := h
  unfold scal
  rw [Int.tmod_eq_emod_of_nonneg (by omega)]
  split
  · omega
  · split <;> omega
end Go.Proofs.YtcoamnmgkhlahaaDoor.Q
