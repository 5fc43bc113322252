/- joined: Utf Plain PlainU ShlV -/
import Derived.Lib.ValidLaws
import Derived.Lib.MapLaws
import Derived.Shelf.Unicode.ValidAny
import Derived.Test.YtpmhdcmmlkjjmaaGreatDoorProg
/- Plain facts on UTF-8, sequence by sequence. -/
set_option linter.unusedSimpArgs false
set_option linter.unusedVariables false
namespace Go.Proofs.YtpmhdcmmlkjjmaaGreatDoor.Q
/-- the first byte of a sequence: how many bytes, the least and the greatest second byte -/
def bnd (b : Nat) : Nat × Nat × Nat :=
  if b < 128 then (1, 0, 0) else if 194 ≤ b ∧ b < 224 then (2, 128, 191) else if b = 224 then (3, 160, 191) else if b = 237 then (3, 128, 159)
  else if 224 < b ∧ b < 240 then (3, 128, 191) else if b = 240 then (4, 144, 191) else if b = 244 then (4, 128, 143) else if 240 < b ∧ b < 244 then (4, 128, 191) else (0, 0, 0)
/-- from the k-th byte of a sequence of n on -/
def nxtGo (n : Nat) : Nat → Nat → Nat → List UInt8 → Nat × Bool
  | k, lo, hi, [] => if n ≤ k then (n, true) else (k, false)
  | k, lo, hi, c :: t => if n ≤ k then (n, true) else if c.toNat < lo ∨ hi < c.toNat then (k, false) else nxtGo n (k + 1) 128 191 t
/-- the sequence at the head: how far it goes, and whether it is whole -/
def nxt : List UInt8 → Nat × Bool
  | [] => (0, false)
  | b :: t => if (bnd b.toNat).1 = 0 then (0, false) else nxtGo (bnd b.toNat).1 1 (bnd b.toNat).2.1 (bnd b.toNat).2.2 t
theorem nxt_cons (b : UInt8) (t : List UInt8) : nxt (b :: t) = if (bnd b.toNat).1 = 0 then (0, false) else nxtGo (bnd b.toNat).1 1 (bnd b.toNat).2.1 (bnd b.toNat).2.2 t := rfl
theorem nxtGo_le (n : Nat) : ∀ (t : List UInt8) (k lo hi : Nat), 1 ≤ k → k ≤ n → k ≤ (nxtGo n k lo hi t).1 ∧ (nxtGo n k lo hi t).1 ≤ k + t.length ∧ (nxtGo n k lo hi t).1 ≤ n ∧ ((nxtGo n k lo hi t).2 = true → (nxtGo n k lo hi t).1 = n)
  | [], k, lo, hi, h, hn => by
    unfold nxtGo
    split <;> simp <;> omega
  | c :: t, k, lo, hi, h, hn => by
    unfold nxtGo
    split
    · simp; omega
    · split
      · simp; omega
      · have := nxtGo_le n t (k + 1) 128 191 (by omega) (by omega)
        simp only [List.length_cons]
        refine ⟨by omega, by omega, this.2.2⟩
theorem bnd_le (b : Nat) : (bnd b).1 ≤ 4 := by
  unfold bnd
  repeat' split
  all_goals simp
theorem nxt_le (l : List UInt8) : (nxt l).1 ≤ l.length ∧ (nxt l).1 ≤ 4 ∧ ((nxt l).2 = true → 1 ≤ (nxt l).1) := by
  cases l with
  | nil => simp [nxt]
  | cons b t =>
    rw [nxt_cons]
    split
    · simp
    · have := nxtGo_le (bnd b.toNat).1 t 1 (bnd b.toNat).2.1 (bnd b.toNat).2.2 (by omega) (by omega)
      have hb := bnd_le b.toNat
      simp only [List.length_cons]
      refine ⟨by omega, by omega, fun _ => by omega⟩
theorem bnd_tab : ∀ b : Fin 256, 128 ≤ b.val → (bnd b.val).1 = (if Lib.firstT b.val % 8 = 1 then 0 else Lib.firstT b.val % 8) ∧ ((bnd b.val).1 = 0 ∨ (bnd b.val).1 = 2 ∨ (bnd b.val).1 = 3 ∨ (bnd b.val).1 = 4) ∧ ((bnd b.val).1 ≠ 0 → (bnd b.val).2.1 = Lib.accLo (Lib.firstT b.val / 16) ∧ (bnd b.val).2.2 = Lib.accHi (Lib.firstT b.val / 16)) := by decide +kernel
theorem nxt_check (b : UInt8) (t : List UInt8) (hb : 128 ≤ b.toNat) :
    Lib.checkN (t.length + 1) (t.getD 0 0).toNat (t.getD 1 0).toNat (t.getD 2 0).toNat (Lib.firstT b.toNat % 8) (Lib.accLo (Lib.firstT b.toNat / 16)) (Lib.accHi (Lib.firstT b.toNat / 16)) = (if (nxt (b :: t)).2 then some (nxt (b :: t)).1 else none) := by
  obtain ⟨h1, h2, h3⟩ := bnd_tab ⟨b.toNat, b.toNat_lt⟩ hb
  simp only at h1 h2 h3
  rw [nxt_cons]
  generalize bnd b.toNat = B at *
  obtain ⟨n, lo, hi⟩ := B
  simp only at h1 h2 h3 ⊢
  rcases h2 with rfl | rfl | rfl | rfl
  · have e : Lib.firstT b.toNat % 8 = 1 ∨ Lib.firstT b.toNat % 8 = 0 := by split at h1 <;> omega
    rcases e with e | e <;> simp [Lib.checkN, e]
  · have e : Lib.firstT b.toNat % 8 = 2 := by split at h1 <;> omega
    obtain ⟨rfl, rfl⟩ := h3 (by omega)
    rw [e]
    rcases t with _ | ⟨c1, t⟩
    · simp [Lib.checkN, nxtGo]
    · simp only [Lib.checkN, nxtGo, List.length_cons, List.getD_cons_zero]
      by_cases c : c1.toNat < Lib.accLo (Lib.firstT b.toNat / 16) ∨ Lib.accHi (Lib.firstT b.toNat / 16) < c1.toNat
      · simp [c]
      · cases t <;> simp [c, nxtGo]
  · have e : Lib.firstT b.toNat % 8 = 3 := by split at h1 <;> omega
    obtain ⟨rfl, rfl⟩ := h3 (by omega)
    rw [e]
    generalize Lib.accLo (Lib.firstT b.toNat / 16) = lo
    generalize Lib.accHi (Lib.firstT b.toNat / 16) = hi
    rcases t with _ | ⟨c1, t⟩
    · simp [Lib.checkN, nxtGo]
    · by_cases c : c1.toNat < lo ∨ hi < c1.toNat
      · simp only [Lib.checkN, nxtGo, List.length_cons, List.getD_cons_zero]
        rcases c with c | c <;> simp [c]
      · have c' := not_or.1 c
        rcases t with _ | ⟨c2, t⟩
        · simp [Lib.checkN, nxtGo, c]
        · by_cases d : c2.toNat < 128 ∨ 191 < c2.toNat
          · rcases d with d | d <;> simp [Lib.checkN, nxtGo, c, c'.1, c'.2, d]
          · have d' := not_or.1 d
            cases t <;> simp [Lib.checkN, nxtGo, c, d, c'.1, c'.2, d'.1, d'.2]
  · have e : Lib.firstT b.toNat % 8 = 4 := by split at h1 <;> omega
    obtain ⟨rfl, rfl⟩ := h3 (by omega)
    rw [e]
    generalize Lib.accLo (Lib.firstT b.toNat / 16) = lo
    generalize Lib.accHi (Lib.firstT b.toNat / 16) = hi
    rcases t with _ | ⟨c1, t⟩
    · simp [Lib.checkN, nxtGo]
    · by_cases c : c1.toNat < lo ∨ hi < c1.toNat
      · simp only [Lib.checkN, nxtGo, List.length_cons, List.getD_cons_zero]
        rcases c with c | c <;> simp [c]
      · have c' := not_or.1 c
        rcases t with _ | ⟨c2, t⟩
        · simp [Lib.checkN, nxtGo, c]
        · by_cases d : c2.toNat < 128 ∨ 191 < c2.toNat
          · rcases d with d | d <;> simp [Lib.checkN, nxtGo, c, c'.1, c'.2, d]
          · have d' := not_or.1 d
            rcases t with _ | ⟨c3, t⟩
            · simp [Lib.checkN, nxtGo, c, d]
            · by_cases f : c3.toNat < 128 ∨ 191 < c3.toNat
              · rcases f with f | f <;> simp [Lib.checkN, nxtGo, c, d, c'.1, c'.2, d'.1, d'.2, f]
              · have f' := not_or.1 f
                cases t <;> simp [Lib.checkN, nxtGo, c, d, f, c'.1, c'.2, d'.1, d'.2, f'.1, f'.2]
/-- 'valid', sequence by sequence. -/
theorem valid_step (l : List UInt8) (hne : l ≠ []) : Lib.validD l = (if (nxt l).2 then Lib.validD (l.drop (nxt l).1) else false) := by
  cases l with
  | nil => exact absurd rfl hne
  | cons b t =>
    by_cases hb : b.toNat < 128
    · rw [Lib.validD_cons b t hb]
      have e : nxt (b :: t) = (1, true) := by
        have : bnd b.toNat = (1, 0, 0) := by simp [bnd, hb]
        cases t <;> simp [nxt_cons, this, nxtGo]
      rw [e]
      rfl
    · have h := Lib.validD_lead (b :: t) hne (by simpa using (by omega : 128 ≤ b.toNat))
      rw [h]
      have k := nxt_check b t (by omega)
      simp only [List.getD_cons_zero, List.getD_cons_succ, List.length_cons] at k ⊢
      rw [k]
      by_cases g : (nxt (b :: t)).2 = true
      · simp [g]
      · simp [g]
end Go.Proofs.YtpmhdcmmlkjjmaaGreatDoor.Q
/- Plain facts on bytes for layer 1 (quote): letters, quoted texts, sequences. Nothing of the program here. -/
namespace Go.Proofs.YtpmhdcmmlkjjmaaGreatDoor.Q
/-- the letter that a backslash writes a byte with; 0: none -/
def letN (c : Nat) : Nat :=
  if c = 34 then 34 else if c = 92 then 92 else if c = 8 then 98 else if c = 9 then 116 else if c = 10 then 110 else if c = 12 then 102 else if c = 13 then 114 else 0
def hexN (d : Nat) : Nat := if d < 10 then 48 + d else 87 + d
def widN (c : Nat) : Nat := if letN c ≠ 0 then 2 else if c < 32 then 6 else 1
/-- what is written for one byte, as numbers -/
def escN (c : Nat) : List Nat :=
  if letN c ≠ 0 then [92, letN c] else if c < 32 then [92, 117, 48, 48, hexN (c / 16), hexN (c % 16)] else [c]
theorem escN_length (c : Nat) : (escN c).length = widN c := by
  unfold escN widN
  split
  · rfl
  · split <;> rfl
theorem widN_le (c : Nat) : 1 ≤ widN c ∧ widN c ≤ 6 := by
  unfold widN
  split
  · omega
  · split <;> omega
def esc (c : UInt8) : List UInt8 := (escN c.toNat).map UInt8.ofNat
def wid (c : UInt8) : Nat := widN c.toNat
theorem esc_length (c : UInt8) : (esc c).length = wid c := by
  unfold esc wid
  rw [List.length_map, escN_length]
def body (l : List UInt8) : List UInt8 := l.flatMap esc
def sz (l : List UInt8) : Nat := (body l).length
theorem body_snoc (l : List UInt8) (c : UInt8) : body (l ++ [c]) = body l ++ esc c := by
  simp [body]
theorem sz_snoc (l : List UInt8) (c : UInt8) : sz (l ++ [c]) = sz l + wid c := by
  simp only [sz, body_snoc, List.length_append, esc_length]
theorem sz_le (l : List UInt8) : sz l ≤ 6 * l.length := by
  induction l with
  | nil => simp [sz, body]
  | cons c t ih =>
    have h : sz (c :: t) = wid c + sz t := by simp [sz, body, esc_length]
    have := (widN_le c.toNat).2
    have hw : wid c ≤ 6 := this
    rw [h, List.length_cons]
    omega
def qt (l : List UInt8) : List UInt8 := 34 :: (body l ++ [34])
theorem qt_length (l : List UInt8) : (qt l).length = 2 + sz l := by
  simp [qt, sz]; omega
end Go.Proofs.YtpmhdcmmlkjjmaaGreatDoor.Q
/- Plain facts on reading: digits, escapes, one step of a reader, the whole of it; how the library's decoder stands to sequences. -/
namespace Go.Proofs.YtpmhdcmmlkjjmaaGreatDoor.Q
theorem dec_bad (b : UInt8) (t : List UInt8) (hb : 128 ≤ b.toNat) (h : (nxt (b :: t)).2 = false) : Lib.decodeL (b :: t) = (65533, 1) := by
  have k := nxt_check b t hb
  rw [h] at k
  rw [Lib.decodeL_N]
  rcases Lib.check_decode (b :: t).length b.toNat (t.getD 0 0).toNat (t.getD 1 0).toNat (t.getD 2 0).toNat (by simp) hb b.toNat_lt (t.getD 0 0).toNat_lt (t.getD 1 0).toNat_lt (t.getD 2 0).toNat_lt with ⟨hc, hd⟩ | ⟨m, hm, hc, hd⟩
  · exact hd
  · rw [List.length_cons, k] at hc
    simp at hc
theorem dec_good (b : UInt8) (t : List UInt8) (hb : 128 ≤ b.toNat) (h : (nxt (b :: t)).2 = true) :
    (Lib.decodeL (b :: t)).2 = (nxt (b :: t)).1 ∧ 2 ≤ (nxt (b :: t)).1 ∧ Lib.encodeRune ((Lib.decodeL (b :: t)).1 : Int) = (b :: t).take (nxt (b :: t)).1 := by
  have k := nxt_check b t hb
  rw [h] at k
  have e : (Lib.decodeL (b :: t)).2 = (nxt (b :: t)).1 ∧ 2 ≤ (nxt (b :: t)).1 := by
    rw [Lib.decodeL_N]
    rcases Lib.check_decode (b :: t).length b.toNat (t.getD 0 0).toNat (t.getD 1 0).toNat (t.getD 2 0).toNat (by simp) hb b.toNat_lt (t.getD 0 0).toNat_lt (t.getD 1 0).toNat_lt (t.getD 2 0).toNat_lt with ⟨hc, hd⟩ | ⟨m, hm, hc, hd⟩
    · rw [List.length_cons, k] at hc
      simp at hc
    · rw [List.length_cons, k] at hc
      simp at hc
      subst hc
      exact ⟨hd, hm⟩
  refine ⟨e.1, e.2, ?_⟩
  rw [← e.1]
  exact Lib.encode_decode (b :: t) (by simp) (by omega)
theorem dec_le (l : List UInt8) : (Lib.decodeL l).1 ≤ 1114111 := by
  rw [Lib.decodeL_N]
  have k0 := (l.getD 0 0).toNat_lt
  unfold Lib.decodeN
  repeat' split
  all_goals simp only
  all_goals omega
/-- utf8.FullRuneInString -/
def full : List UInt8 → Bool
  | [] => false
  | b :: t => decide (Lib.firstT b.toNat % 8 ≤ t.length + 1) || (decide (1 < t.length + 1) && (decide ((t.getD 0 0).toNat < Lib.accLo (Lib.firstT b.toNat / 16)) || decide (Lib.accHi (Lib.firstT b.toNat / 16) < (t.getD 0 0).toNat))) || (decide (2 < t.length + 1) && (decide ((t.getD 1 0).toNat < 128) || decide (191 < (t.getD 1 0).toNat)))
theorem full_nxt (b : UInt8) (t : List UInt8) (hb : 128 ≤ b.toNat) (h : (nxt (b :: t)).2 = false) :
    (∀ j, j < (nxt (b :: t)).1 → full ((b :: t).take (j + 1)) = false) ∧ ((nxt (b :: t)).1 = (b :: t).length ∨ full ((b :: t).take ((nxt (b :: t)).1 + 1)) = true) := by
  obtain ⟨h1, h2, h3⟩ := bnd_tab ⟨b.toNat, b.toNat_lt⟩ hb
  simp only at h1 h2 h3
  rw [nxt_cons] at h ⊢
  generalize hB : bnd b.toNat = B at *
  obtain ⟨n, lo, hi⟩ := B
  simp only at h1 h2 h3 h ⊢
  have hn1 : Lib.firstT b.toNat % 8 = 1 ∨ Lib.firstT b.toNat % 8 = n := by split at h1 <;> omega
  have hn0 : n = 0 → Lib.firstT b.toNat % 8 ≤ 1 := by intro e; split at h1 <;> omega
  have hnn : n ≠ 0 → Lib.firstT b.toNat % 8 = n := by intro e; split at h1 <;> omega
  rcases h2 with rfl | rfl | rfl | rfl
  · have e := hn0 rfl
    simp [full, e]
  · have e := hnn (by omega)
    obtain ⟨rfl, rfl⟩ := h3 (by omega)
    rcases t with _ | ⟨c1, t⟩
    · simp [nxtGo, full, e]
    · by_cases c : c1.toNat < Lib.accLo (Lib.firstT b.toNat / 16) ∨ Lib.accHi (Lib.firstT b.toNat / 16) < c1.toNat
      · simp [nxtGo, c, full, e]
      · exfalso; revert h; cases t <;> simp [nxtGo, c]
  · have e := hnn (by omega)
    obtain ⟨rfl, rfl⟩ := h3 (by omega)
    rcases t with _ | ⟨c1, t⟩
    · simp [nxtGo, full, e]
    · by_cases c : c1.toNat < Lib.accLo (Lib.firstT b.toNat / 16) ∨ Lib.accHi (Lib.firstT b.toNat / 16) < c1.toNat
      · rcases c with c | c <;> simp [nxtGo, c, full, e]
      · have c' := not_or.1 c
        rcases t with _ | ⟨c2, t⟩
        · simp only [nxtGo, c, if_false, List.length_cons, List.length_nil]
          refine ⟨?_, by simp⟩
          intro j hj
          have : j = 0 ∨ j = 1 := by simp at hj; omega
          rcases this with rfl | rfl <;> simp [full, e, c'.1, c'.2] <;> omega
        · by_cases d : c2.toNat < 128 ∨ 191 < c2.toNat
          · simp only [nxtGo, c, d, if_false, if_true, List.length_cons]
            refine ⟨?_, by simp [full, e]⟩
            intro j hj
            have : j = 0 ∨ j = 1 := by simp at hj; omega
            rcases this with rfl | rfl <;> simp [full, e, c'.1, c'.2] <;> omega
          · exfalso; revert h; cases t <;> simp [nxtGo, c, d]
  · have e := hnn (by omega)
    obtain ⟨rfl, rfl⟩ := h3 (by omega)
    rcases t with _ | ⟨c1, t⟩
    · simp [nxtGo, full, e]
    · by_cases c : c1.toNat < Lib.accLo (Lib.firstT b.toNat / 16) ∨ Lib.accHi (Lib.firstT b.toNat / 16) < c1.toNat
      · rcases c with c | c <;> simp [nxtGo, c, full, e]
      · have c' := not_or.1 c
        rcases t with _ | ⟨c2, t⟩
        · simp only [nxtGo, c, if_false, List.length_cons, List.length_nil]
          refine ⟨?_, by simp⟩
          intro j hj
          have : j = 0 ∨ j = 1 := by simp at hj; omega
          rcases this with rfl | rfl <;> simp [full, e, c'.1, c'.2] <;> omega
        · by_cases d : c2.toNat < 128 ∨ 191 < c2.toNat
          · simp only [nxtGo, c, d, if_false, if_true, List.length_cons]
            refine ⟨?_, ?_⟩
            · intro j hj
              have : j = 0 ∨ j = 1 := by simp at hj; omega
              rcases this with rfl | rfl <;> simp [full, e, c'.1, c'.2] <;> omega
            · right; rcases d with d | d <;> simp [full, e, d]
          · have d' := not_or.1 d
            rcases t with _ | ⟨c3, t⟩
            · simp only [nxtGo, c, d, if_false, List.length_cons, List.length_nil]
              refine ⟨?_, by simp⟩
              intro j hj
              have : j = 0 ∨ j = 1 ∨ j = 2 := by simp at hj; omega
              rcases this with rfl | rfl | rfl <;> simp [full, e, c'.1, c'.2, d'.1, d'.2] <;> omega
            · by_cases f : c3.toNat < 128 ∨ 191 < c3.toNat
              · simp only [nxtGo, c, d, f, if_false, if_true, List.length_cons]
                refine ⟨?_, by simp [full, e]⟩
                intro j hj
                have : j = 0 ∨ j = 1 ∨ j = 2 := by simp at hj; omega
                rcases this with rfl | rfl | rfl <;> simp [full, e, c'.1, c'.2, d'.1, d'.2] <;> omega
              · exfalso; revert h; cases t <;> simp [nxtGo, c, d, f]
end Go.Proofs.YtpmhdcmmlkjjmaaGreatDoor.Q
/- utf8.ValidString by its contract, laid at this program. -/
namespace Go.Proofs
open Go.Shelf Go.RowKit
def Tryz.lays196_ren : Go.Shelf.Ren := ⟨fun | 196 => 60 | 259 => 82 | n => n, fun | 0 => 0 | 3 => 3 | 4 => 4 | 5 => 5 | 9 => 9 | 12 => 12 | 46 => 95 | 53 => 105 | 119 => 118 | 138 => 120 | 139 => 121 | n => n, fun | 3 => 1 | 4 => 2 | n => n⟩
theorem Tryz.lays196 : Go.Proofs.Lays.n196 Tryz.prog Tryz.lays196_ren := {
  mixed := by kernel_rfl
  f196 := Tryz.func60.trans (congrArg some (by kernel_rfl))
  f259 := Tryz.func82.trans (congrArg some (by kernel_rfl))
  t0 := Tryz.underlying0
  a0 := Tryz.isAgg0
  z0 := Tryz.sizeOf0
  v0 := Tryz.zeroValue0
  t3 := Tryz.underlying3
  a3 := Tryz.isAgg3
  z3 := Tryz.sizeOf3
  v3 := Tryz.zeroValue3
  t4 := Tryz.underlying4
  a4 := Tryz.isAgg4
  z4 := Tryz.sizeOf4
  v4 := Tryz.zeroValue4
  t5 := Tryz.underlying5
  a5 := Tryz.isAgg5
  z5 := Tryz.sizeOf5
  v5 := Tryz.zeroValue5
  t9 := Tryz.underlying9
  a9 := Tryz.isAgg9
  z9 := Tryz.sizeOf9
  v9 := Tryz.zeroValue9
  t12 := Tryz.underlying12
  a12 := Tryz.isAgg12
  z12 := Tryz.sizeOf12
  v12 := Tryz.zeroValue12
  t46 := Tryz.underlying95
  a46 := Tryz.isAgg95
  z46 := Tryz.sizeOf95
  v46 := Tryz.zeroValue95
  t53 := Tryz.underlying105
  a53 := Tryz.isAgg105
  z53 := Tryz.sizeOf105
  v53 := Tryz.zeroValue105
  t119 := Tryz.underlying118
  a119 := Tryz.isAgg118
  z119 := Tryz.sizeOf118
  t138 := Tryz.underlying120
  a138 := Tryz.isAgg120
  z138 := Tryz.sizeOf120
  v138 := Tryz.zeroValue120
  t139 := Tryz.underlying121
  a139 := Tryz.isAgg121
  z139 := Tryz.sizeOf121
  v139 := Tryz.zeroValue121
  g3 := by kernel_rfl
  g4 := by kernel_rfl }
namespace YtpmhdcmmlkjjmaaGreatDoor
open Go.Lib
theorem validString_any (s : ByteArray) (w : World) (hs : s.size ≤ 281474976710656) (hU : Utf8Tabs 1 2 w) :
    Calls Tryz.prog 60 #[.string s] w fun e w' => e = .returned (.bool (validD s.data.toList)) ∧ Below w.heap.size w w' :=
  Any.utf8_ValidString Tryz.lays196 s w (by omega) hU
end YtpmhdcmmlkjjmaaGreatDoor
end Go.Proofs
