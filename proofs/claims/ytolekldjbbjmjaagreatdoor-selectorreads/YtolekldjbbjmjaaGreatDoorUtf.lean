import Derived.Lib.ValidLaws
/- Plain facts on UTF-8, sequence by sequence. -/
set_option linter.unusedSimpArgs false
set_option linter.unusedVariables false
namespace Go.Proofs.YtolekldjbbjmjaaGreatDoor.Q
/-- the first byte of a sequence: how many bytes, the least and the greatest second byte -/
def bnd (b : Nat) : Nat × Nat × Nat :=
  if b < 128 then (1, 0, 0) else if 194 ≤ b ∧ b < 224 then (2, 128, 191) else if b = 224 then (3, 160, 191) else if b = 237 then (3, 128, 159)
  else if 224 < b ∧ b < 240 then (3, 128, 191) else if b = 240 then (4, 144, 191) else if b = 244 then (4, 128, 143) else if 240 < b ∧ b < 244 then (4, 128, 191) else (0, 0, 0)
/-- from the k-th byte of a sequence of n on -/
def nxtGo (n : Nat) : Nat → Nat → Nat → List UInt8 → Nat × Bool
  | k, lo, hi, [] => if n ≤ k then (n, true) else (k, false)
  | k, lo, hi, c :: t => if n ≤ k then (n, true) else if c.toNat < lo ∨ hi < c.toNat then (k, false) else nxtGo n (k + 1) 128 191 t
/-- the sequence at the head: how far it goes, and whether it is whole -/
def nxt : List UInt8 → Nat × Bool
  | [] => (0, false)
  | b :: t => if (bnd b.toNat).1 = 0 then (0, false) else nxtGo (bnd b.toNat).1 1 (bnd b.toNat).2.1 (bnd b.toNat).2.2 t
theorem nxt_cons (b : UInt8) (t : List UInt8) : nxt (b :: t) = if (bnd b.toNat).1 = 0 then (0, false) else nxtGo (bnd b.toNat).1 1 (bnd b.toNat).2.1 (bnd b.toNat).2.2 t := rfl
theorem nxtGo_le (n : Nat) : ∀ (t : List UInt8) (k lo hi : Nat), 1 ≤ k → k ≤ n → k ≤ (nxtGo n k lo hi t).1 ∧ (nxtGo n k lo hi t).1 ≤ k + t.length ∧ (nxtGo n k lo hi t).1 ≤ n ∧ ((nxtGo n k lo hi t).2 = true → (nxtGo n k lo hi t).1 = n)
  | [], k, lo, hi, h, hn => by
    unfold nxtGo
    split <;> simp <;> omega
  | c :: t, k, lo, hi, h, hn => by
    unfold nxtGo
    split
    · simp; omega
    · split
      · simp; omega
      · have := nxtGo_le n t (k + 1) 128 191 (by omega) (by omega)
        simp only [List.length_cons]
        refine ⟨by omega, by omega, this.2.2⟩
theorem bnd_le (b : Nat) : (bnd b).1 ≤ 4 := by
  unfold bnd
  repeat' split
  all_goals simp
theorem nxt_le (l : List UInt8) : (nxt l).1 ≤ l.length ∧ (nxt l).1 ≤ 4 ∧ ((nxt l).2 = true → 1 ≤ (nxt l).1) := by
  cases l with
  | nil => simp [nxt]
  | cons b t =>
    rw [nxt_cons]
    split
    · simp
    · have := nxtGo_le (bnd b.toNat).1 t 1 (bnd b.toNat).2.1 (bnd b.toNat).2.2 (by omega) (by omega)
      have hb := bnd_le b.toNat
      simp only [List.length_cons]
      refine ⟨by omega, by omega, fun _ => by omega⟩
theorem bnd_tab : ∀ b : Fin 256, 128 ≤ b.val → (bnd b.val).1 = (if Lib.firstT b.val % 8 = 1 then 0 else Lib.firstT b.val % 8) ∧ ((bnd b.val).1 = 0 ∨ (bnd b.val).1 = 2 ∨ (bnd b.val).1 = 3 ∨ (bnd b.val).1 = 4) ∧ ((bnd b.val).1 ≠ 0 → (bnd b.val).2.1 = Lib.accLo (Lib.firstT b.val / 16) ∧ (bnd b.val).2.2 = Lib.accHi (Lib.firstT b.val / 16)) := by decide +kernel
theorem nxt_check (b : UInt8) (t : List UInt8) (hb : 128 ≤ b.toNat) :
    Lib.checkN (t.length + 1) (t.getD 0 0).toNat (t.getD 1 0).toNat (t.getD 2 0).toNat (Lib.firstT b.toNat % 8) (Lib.accLo (Lib.firstT b.toNat / 16)) (Lib.accHi (Lib.firstT b.toNat / 16)) = (if (nxt (b :: t)).2 then some (nxt (b :: t)).1 else none) := by
  obtain ⟨h1, h2, h3⟩ := bnd_tab ⟨b.toNat, b.toNat_lt⟩ hb
  simp only at h1 h2 h3
  rw [nxt_cons]
  generalize bnd b.toNat = B at *
  obtain ⟨n, lo, hi⟩ := B
  simp only at h1 h2 h3 ⊢
  rcases h2 with rfl | rfl | rfl | rfl
  · have e : Lib.firstT b.toNat % 8 = 1 ∨ Lib.firstT b.toNat % 8 = 0 := by split at h1 <;> omega
    rcases e with e | e <;> simp [Lib.checkN, e]
  · have e : Lib.firstT b.toNat % 8 = 2 := by split at h1 <;> omega
    obtain ⟨rfl, rfl⟩ := h3 (by omega)
    rw [e]
    rcases t with _ | ⟨c1, t⟩
    · simp [Lib.checkN, nxtGo]
    · simp only [Lib.checkN, nxtGo, List.length_cons, List.getD_cons_zero]
      by_cases c : c1.toNat < Lib.accLo (Lib.firstT b.toNat / 16) ∨ Lib.accHi (Lib.firstT b.toNat / 16) < c1.toNat
      · simp [c]
      · cases t <;> simp [c, nxtGo]
  · have e : Lib.firstT b.toNat % 8 = 3 := by split at h1 <;> omega
    obtain ⟨rfl, rfl⟩ := h3 (by omega)
    rw [e]
    generalize Lib.accLo (Lib.firstT b.toNat / 16) = lo
    generalize Lib.accHi (Lib.firstT b.toNat / 16) = hi
    rcases t with _ | ⟨c1, t⟩
    · simp [Lib.checkN, nxtGo]
    · by_cases c : c1.toNat < lo ∨ hi < c1.toNat
      · simp only [Lib.checkN, nxtGo, List.length_cons, List.getD_cons_zero]
        rcases c with c | c <;> simp [c]
      · have c' := not_or.1 c
        rcases t with _ | ⟨c2, t⟩
        · simp [Lib.checkN, nxtGo, c]
        · by_cases d : c2.toNat < 128 ∨ 191 < c2.toNat
          · rcases d with d | d <;> simp [Lib.checkN, nxtGo, c, c'.1, c'.2, d]
          · have d' := not_or.1 d
            cases t <;> simp [Lib.checkN, nxtGo, c, d, c'.1, c'.2, d'.1, d'.2]
  · have e : Lib.firstT b.toNat % 8 = 4 := by split at h1 <;> omega
    obtain ⟨rfl, rfl⟩ := h3 (by omega)
    rw [e]
    generalize Lib.accLo (Lib.firstT b.toNat / 16) = lo
    generalize Lib.accHi (Lib.firstT b.toNat / 16) = hi
    rcases t with _ | ⟨c1, t⟩
    · simp [Lib.checkN, nxtGo]
    · by_cases c : c1.toNat < lo ∨ hi < c1.toNat
      · simp only [Lib.checkN, nxtGo, List.length_cons, List.getD_cons_zero]
        rcases c with c | c <;> simp [c]
      · have c' := not_or.1 c
        rcases t with _ | ⟨c2, t⟩
        · simp [Lib.checkN, nxtGo, c]
        · by_cases d : c2.toNat < 128 ∨ 191 < c2.toNat
          · rcases d with d | d <;> simp [Lib.checkN, nxtGo, c, c'.1, c'.2, d]
          · have d' := not_or.1 d
            rcases t with _ | ⟨c3, t⟩
            · simp [Lib.checkN, nxtGo, c, d]
            · by_cases f : c3.toNat < 128 ∨ 191 < c3.toNat
              · rcases f with f | f <;> simp [Lib.checkN, nxtGo, c, d, c'.1, c'.2, d'.1, d'.2, f]
              · have f' := not_or.1 f
                cases t <;> simp [Lib.checkN, nxtGo, c, d, f, c'.1, c'.2, d'.1, d'.2, f'.1, f'.2]
/-- 'valid', sequence by sequence. -/
theorem valid_step (l : List UInt8) (hne : l ≠ []) : Lib.validD l = (if (nxt l).2 then Lib.validD (l.drop (nxt l).1) else false) := by
  cases l with
  | nil => exact absurd rfl hne
  | cons b t =>
    by_cases hb : b.toNat < 128
    · rw [Lib.validD_cons b t hb]
      have e : nxt (b :: t) = (1, true) := by
        have : bnd b.toNat = (1, 0, 0) := by simp [bnd, hb]
        cases t <;> simp [nxt_cons, this, nxtGo]
      rw [e]
      rfl
    · have h := Lib.validD_lead (b :: t) hne (by simpa using (by omega : 128 ≤ b.toNat))
      rw [h]
      have k := nxt_check b t (by omega)
      simp only [List.getD_cons_zero, List.getD_cons_succ, List.length_cons] at k ⊢
      rw [k]
      by_cases g : (nxt (b :: t)).2 = true
      · simp [g]
      · simp [g]
end Go.Proofs.YtolekldjbbjmjaaGreatDoor.Q
