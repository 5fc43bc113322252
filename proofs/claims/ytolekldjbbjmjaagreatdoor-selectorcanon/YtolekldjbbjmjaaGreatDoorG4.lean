/- joined: Utf TrmP -/
import Derived.Lib.ValidLaws
import Derived.Test.YtolekldjbbjmjaaGreatDoorG3
import Derived.WalkMore
/- Plain facts on UTF-8, sequence by sequence. -/
set_option linter.unusedSimpArgs false
set_option linter.unusedVariables false
namespace Go.Proofs.YtolekldjbbjmjaaGreatDoor.Q
/-- the first byte of a sequence: how many bytes, the least and the greatest second byte -/
def bnd (b : Nat) : Nat × Nat × Nat :=
  if b < 128 then (1, 0, 0) else if 194 ≤ b ∧ b < 224 then (2, 128, 191) else if b = 224 then (3, 160, 191) else if b = 237 then (3, 128, 159)
  else if 224 < b ∧ b < 240 then (3, 128, 191) else if b = 240 then (4, 144, 191) else if b = 244 then (4, 128, 143) else if 240 < b ∧ b < 244 then (4, 128, 191) else (0, 0, 0)
/-- from the k-th byte of a sequence of n on -/
def nxtGo (n : Nat) : Nat → Nat → Nat → List UInt8 → Nat × Bool
  | k, lo, hi, [] => if n ≤ k then (n, true) else (k, false)
  | k, lo, hi, c :: t => if n ≤ k then (n, true) else if c.toNat < lo ∨ hi < c.toNat then (k, false) else nxtGo n (k + 1) 128 191 t
/-- the sequence at the head: how far it goes, and whether it is whole -/
def nxt : List UInt8 → Nat × Bool
  | [] => (0, false)
  | b :: t => if (bnd b.toNat).1 = 0 then (0, false) else nxtGo (bnd b.toNat).1 1 (bnd b.toNat).2.1 (bnd b.toNat).2.2 t
theorem nxt_cons (b : UInt8) (t : List UInt8) : nxt (b :: t) = if (bnd b.toNat).1 = 0 then (0, false) else nxtGo (bnd b.toNat).1 1 (bnd b.toNat).2.1 (bnd b.toNat).2.2 t := rfl
theorem nxtGo_le (n : Nat) : ∀ (t : List UInt8) (k lo hi : Nat), 1 ≤ k → k ≤ n → k ≤ (nxtGo n k lo hi t).1 ∧ (nxtGo n k lo hi t).1 ≤ k + t.length ∧ (nxtGo n k lo hi t).1 ≤ n ∧ ((nxtGo n k lo hi t).2 = true → (nxtGo n k lo hi t).1 = n)
  | [], k, lo, hi, h, hn => by
    unfold nxtGo
    split <;> simp <;> omega
  | c :: t, k, lo, hi, h, hn => by
    unfold nxtGo
    split
    · simp; omega
    · split
      · simp; omega
      · have := nxtGo_le n t (k + 1) 128 191 (by omega) (by omega)
        simp only [List.length_cons]
        refine ⟨by omega, by omega, this.2.2⟩
theorem bnd_le (b : Nat) : (bnd b).1 ≤ 4 := by
  unfold bnd
  repeat' split
  all_goals simp
theorem nxt_le (l : List UInt8) : (nxt l).1 ≤ l.length ∧ (nxt l).1 ≤ 4 ∧ ((nxt l).2 = true → 1 ≤ (nxt l).1) := by
  cases l with
  | nil => simp [nxt]
  | cons b t =>
    rw [nxt_cons]
    split
    · simp
    · have := nxtGo_le (bnd b.toNat).1 t 1 (bnd b.toNat).2.1 (bnd b.toNat).2.2 (by omega) (by omega)
      have hb := bnd_le b.toNat
      simp only [List.length_cons]
      refine ⟨by omega, by omega, fun _ => by omega⟩
theorem bnd_tab : ∀ b : Fin 256, 128 ≤ b.val → (bnd b.val).1 = (if Lib.firstT b.val % 8 = 1 then 0 else Lib.firstT b.val % 8) ∧ ((bnd b.val).1 = 0 ∨ (bnd b.val).1 = 2 ∨ (bnd b.val).1 = 3 ∨ (bnd b.val).1 = 4) ∧ ((bnd b.val).1 ≠ 0 → (bnd b.val).2.1 = Lib.accLo (Lib.firstT b.val / 16) ∧ (bnd b.val).2.2 = Lib.accHi (Lib.firstT b.val / 16)) := by decide +kernel
theorem nxt_check (b : UInt8) (t : List UInt8) (hb : 128 ≤ b.toNat) :
    Lib.checkN (t.length + 1) (t.getD 0 0).toNat (t.getD 1 0).toNat (t.getD 2 0).toNat (Lib.firstT b.toNat % 8) (Lib.accLo (Lib.firstT b.toNat / 16)) (Lib.accHi (Lib.firstT b.toNat / 16)) = (if (nxt (b :: t)).2 then some (nxt (b :: t)).1 else none) := by
  obtain ⟨h1, h2, h3⟩ := bnd_tab ⟨b.toNat, b.toNat_lt⟩ hb
  simp only at h1 h2 h3
  rw [nxt_cons]
  generalize bnd b.toNat = B at *
  obtain ⟨n, lo, hi⟩ := B
  simp only at h1 h2 h3 ⊢
  rcases h2 with rfl | rfl | rfl | rfl
  · have e : Lib.firstT b.toNat % 8 = 1 ∨ Lib.firstT b.toNat % 8 = 0 := by split at h1 <;> omega
    rcases e with e | e <;> simp [Lib.checkN, e]
  · have e : Lib.firstT b.toNat % 8 = 2 := by split at h1 <;> omega
    obtain ⟨rfl, rfl⟩ := h3 (by omega)
    rw [e]
    rcases t with _ | ⟨c1, t⟩
    · simp [Lib.checkN, nxtGo]
    · simp only [Lib.checkN, nxtGo, List.length_cons, List.getD_cons_zero]
      by_cases c : c1.toNat < Lib.accLo (Lib.firstT b.toNat / 16) ∨ Lib.accHi (Lib.firstT b.toNat / 16) < c1.toNat
      · simp [c]
      · cases t <;> simp [c, nxtGo]
  · have e : Lib.firstT b.toNat % 8 = 3 := by split at h1 <;> omega
    obtain ⟨rfl, rfl⟩ := h3 (by omega)
    rw [e]
    generalize Lib.accLo (Lib.firstT b.toNat / 16) = lo
    generalize Lib.accHi (Lib.firstT b.toNat / 16) = hi
    rcases t with _ | ⟨c1, t⟩
    · simp [Lib.checkN, nxtGo]
    · by_cases c : c1.toNat < lo ∨ hi < c1.toNat
      · simp only [Lib.checkN, nxtGo, List.length_cons, List.getD_cons_zero]
        rcases c with c | c <;> simp [c]
      · have c' := not_or.1 c
        rcases t with _ | ⟨c2, t⟩
        · simp [Lib.checkN, nxtGo, c]
        · by_cases d : c2.toNat < 128 ∨ 191 < c2.toNat
          · rcases d with d | d <;> simp [Lib.checkN, nxtGo, c, c'.1, c'.2, d]
          · have d' := not_or.1 d
            cases t <;> simp [Lib.checkN, nxtGo, c, d, c'.1, c'.2, d'.1, d'.2]
  · have e : Lib.firstT b.toNat % 8 = 4 := by split at h1 <;> omega
    obtain ⟨rfl, rfl⟩ := h3 (by omega)
    rw [e]
    generalize Lib.accLo (Lib.firstT b.toNat / 16) = lo
    generalize Lib.accHi (Lib.firstT b.toNat / 16) = hi
    rcases t with _ | ⟨c1, t⟩
    · simp [Lib.checkN, nxtGo]
    · by_cases c : c1.toNat < lo ∨ hi < c1.toNat
      · simp only [Lib.checkN, nxtGo, List.length_cons, List.getD_cons_zero]
        rcases c with c | c <;> simp [c]
      · have c' := not_or.1 c
        rcases t with _ | ⟨c2, t⟩
        · simp [Lib.checkN, nxtGo, c]
        · by_cases d : c2.toNat < 128 ∨ 191 < c2.toNat
          · rcases d with d | d <;> simp [Lib.checkN, nxtGo, c, c'.1, c'.2, d]
          · have d' := not_or.1 d
            rcases t with _ | ⟨c3, t⟩
            · simp [Lib.checkN, nxtGo, c, d]
            · by_cases f : c3.toNat < 128 ∨ 191 < c3.toNat
              · rcases f with f | f <;> simp [Lib.checkN, nxtGo, c, d, c'.1, c'.2, d'.1, d'.2, f]
              · have f' := not_or.1 f
                cases t <;> simp [Lib.checkN, nxtGo, c, d, f, c'.1, c'.2, d'.1, d'.2, f'.1, f'.2]
/-- 'valid', sequence by sequence. -/
theorem valid_step (l : List UInt8) (hne : l ≠ []) : Lib.validD l = (if (nxt l).2 then Lib.validD (l.drop (nxt l).1) else false) := by
  cases l with
  | nil => exact absurd rfl hne
  | cons b t =>
    by_cases hb : b.toNat < 128
    · rw [Lib.validD_cons b t hb]
      have e : nxt (b :: t) = (1, true) := by
        have : bnd b.toNat = (1, 0, 0) := by simp [bnd, hb]
        cases t <;> simp [nxt_cons, this, nxtGo]
      rw [e]
      rfl
    · have h := Lib.validD_lead (b :: t) hne (by simpa using (by omega : 128 ≤ b.toNat))
      rw [h]
      have k := nxt_check b t (by omega)
      simp only [List.getD_cons_zero, List.getD_cons_succ, List.length_cons] at k ⊢
      rw [k]
      by_cases g : (nxt (b :: t)).2 = true
      · simp [g]
      · simp [g]
end Go.Proofs.YtolekldjbbjmjaaGreatDoor.Q
/- the order of texts; words and values that may be. -/
namespace Go.Proofs.YtolekldjbbjmjaaGreatDoor
open Go.RowKit Go.Lib
theorem less_turn : ∀ a b : List UInt8, (Op.bytesLess a b || a == b) = !(Op.bytesLess b a)
  | [], [] => rfl
  | [], _ :: _ => by simp [Op.bytesLess]
  | _ :: _, [] => by simp [Op.bytesLess]
  | x :: s, y :: t => by
    have ih := less_turn s t
    simp only [Op.bytesLess]
    by_cases h1 : x < y
    · have h2 : ¬ y < x := fun h => by have := UInt8.lt_iff_toNat_lt.1 h1; have := UInt8.lt_iff_toNat_lt.1 h; omega
      have h3 : y ≠ x := fun h => by subst h; exact h2 h1
      simp [h1, h2, h3]
    · by_cases h2 : y < x
      · have h3 : x ≠ y := fun h => by subst h; exact h1 h2
        simp [h1, h2, h3]
      · have h3 : x = y := UInt8.toNat_inj.1 (by
          have a1 : ¬ x.toNat < y.toNat := fun h => h1 (UInt8.lt_iff_toNat_lt.2 h)
          have a2 : ¬ y.toNat < x.toNat := fun h => h2 (UInt8.lt_iff_toNat_lt.2 h)
          omega)
        subst h3
        have e : (x :: s == x :: t) = (s == t) := by rw [Bool.eq_iff_iff, beq_iff_eq, beq_iff_eq]; simp
        rw [e]
        simp only [h1, decide_false, Bool.false_or, beq_self_eq_true, Bool.true_and]
        exact ih
theorem less_self : ∀ a : List UInt8, Op.bytesLess a a = false
  | [] => rfl
  | x :: s => by
    have h1 : ¬ x < x := fun h => by have := UInt8.lt_iff_toNat_lt.1 h; omega
    simp [Op.bytesLess, h1, less_self s]
theorem less_trans : ∀ {a b c : List UInt8}, Op.bytesLess a b = true → Op.bytesLess b c = true → Op.bytesLess a c = true
  | [], [], _, h, _ => by simp [Op.bytesLess] at h
  | _ :: _, [], _, h, _ => by simp [Op.bytesLess] at h
  | _, _ :: _, [], _, h => by simp [Op.bytesLess] at h
  | [], _ :: _, _ :: _, _, _ => rfl
  | x :: s, y :: t, z :: u, h1, h2 => by
    simp only [Op.bytesLess, Bool.or_eq_true, decide_eq_true_eq, Bool.and_eq_true, beq_iff_eq] at h1 h2 ⊢
    rcases h1 with h1 | ⟨rfl, h1⟩
    · rcases h2 with h2 | ⟨rfl, h2⟩
      · left
        have a1 := UInt8.lt_iff_toNat_lt.1 h1
        have a2 := UInt8.lt_iff_toNat_lt.1 h2
        exact UInt8.lt_iff_toNat_lt.2 (by omega)
      · exact .inl h1
    · rcases h2 with h2 | ⟨rfl, h2⟩
      · exact .inl h2
      · exact .inr ⟨rfl, less_trans h1 h2⟩
def wordB (s : ByteArray) : Bool := decide (s.size ≤ 64) && utfB s
/-- the k-th value may stand behind the one ahead of it -/
def valB (l : List ByteArray) (k : Nat) : Bool := match l[k]? with
  | none => true
  | some s => wordB s && (match k with
    | 0 => true
    | q + 1 => match l[q]? with
      | none => true
      | some r => ltB r s)
def valsB (l : List ByteArray) : Bool := (List.range l.length).all (valB l)
def goodB (t : Trm) : Bool := decide (0 < t.1.size) && wordB t.1 && (if t.2.1 = 1 ∨ t.2.1 = 2 then decide (t.2.2.length = 0) else if t.2.1 = 3 ∨ t.2.1 = 4 then decide (0 < t.2.2.length) && valsB t.2.2 else false)
theorem valB_zero {l : List ByteArray} (h : 0 < l.length) : valB l 0 = wordB l[0] := by
  unfold valB
  rw [List.getElem?_eq_getElem h]
  simp
theorem valB_succ {l : List ByteArray} {k : Nat} (h : k + 1 < l.length) : valB l (k + 1) = (wordB l[k + 1] && ltB (l[k]'(by omega)) l[k + 1]) := by
  unfold valB
  rw [List.getElem?_eq_getElem h]
  simp only
  rw [List.getElem?_eq_getElem (by omega : k < l.length)]
theorem valsB_no {l : List ByteArray} {k : Nat} (hk : k < l.length) (h : valB l k = false) : valsB l = false := by
  unfold valsB
  rw [List.all_eq_false]
  exact ⟨k, List.mem_range.2 hk, by rw [h]; simp⟩
theorem valsB_yes {l : List ByteArray} (h : ∀ k, k < l.length → valB l k = true) : valsB l = true := by
  unfold valsB
  rw [List.all_eq_true]
  intro k hk
  exact h k (List.mem_range.1 hk)
set_option maxHeartbeats 8000000 in
set_option maxRecDepth 100000 in
theorem word_any (s : ByteArray) (w : World) (hs : s.size ≤ 140737488355328) (hT : Tb w) : Calls Tryz.prog 61 #[.string s] w (BPost (wordB s) w) := by
  have HV : Hid (∀ W : World, Below w.heap.size w W → Calls Tryz.prog 80 #[.string s] W (BPost (utfB s) W)) := fun W hW => by
    have HS := hmk (validString_any s W (by omega) (hT.below hW hT.z).u)
    have HE : Hid (validD s.data.toList = utfB s) := rfl
    rw [HE.out] at HS
    go_enter Tryz.func80, Tryz.ntmps80
    go_wp2_with (go_at_call 110; refine HS.out.mono ?_; rintro e w1 ⟨rfl, B1⟩)
    go_ret
    exact ⟨rfl, B1⟩
  by_cases h : s.size ≤ 64
  · have y : (s.size : Int) ≤ 64 := by omega
    have HB : Hid (wordB s = utfB s) := by show _ = _; unfold wordB; rw [decide_eq_true h, Bool.true_and]
    have HC := hmk (HV.out w (Below.refl _ _))
    clear h
    go_enter Tryz.func61, Tryz.ntmps61
    go_wp2_with (go_at_call 80; refine HC.out.mono ?_; rintro e w1 ⟨rfl, B1⟩)
    go_ret
    exact ⟨congrArg (fun r => Ending.returned (.bool r)) HB.out.symm, B1⟩
  · have y : ¬ (s.size : Int) ≤ 64 := by omega
    have HB : Hid (wordB s = false) := by show _ = _; unfold wordB; rw [decide_eq_false h, Bool.false_and]
    clear h
    go_enter Tryz.func61, Tryz.ntmps61
    go_wp2_with fail
    go_ret
    exact ⟨congrArg (fun r => Ending.returned (.bool r)) HB.out.symm, Below.refl _ _⟩
set_option maxHeartbeats 8000000 in
set_option maxRecDepth 100000 in
theorem values_any (l : List ByteArray) (S : Nat → Prop) (a : Option Addr) (c b o : Nat) (w : World) (hh : Headed a l.length c b o) (hl : liesS w S l b o) (hS : ∀ y, S y → y < w.heap.size) (hT : Tb w) :
    Calls Tryz.prog 62 #[.slice a l.length c] w (BPost (valsB l) w) := by
  have HH := hmk hh
  have HL := hmk hl
  have hm : l.length ≤ 9223372036854775807 := Nat.le_trans hh.le hh.max
  have HW : Hid (∀ W : World, Below w.heap.size w W → ∀ k (h : k < l.length), Calls Tryz.prog 61 #[.string l[k]] W (BPost (wordB l[k]) W)) := fun W hW k h => word_any _ W (hl k h).2.1 (hT.below hW hT.z)
  clear hh hl hT
  go_enter Tryz.func62, Tryz.ntmps62
  go_wp2_with fail
  go_loopw [7] (fun e7 wr => ∃ j : Nat, j ≤ l.length ∧ e7 = .int .i64 (j : Int) ∧ Below w.heap.size w wr ∧ Hid (∀ k, k < j → k < l.length → valB l k = true)) (fun e7 _ => l.length - (RowKit.intOf e7).toNat)
  case atStart => exact ⟨0, by omega, rfl, Below.refl _ _, fun k h => by omega⟩
  case round =>
    obtain ⟨j, hj, rfl, Bj, HN⟩ := hrel
    have hzr := Bj.size
    by_cases hjl : j < l.length
    · have y1 : (j : Int) < l.length := by omega
      obtain rfl : a = some ⟨b, o, none⟩ := HH.out.at_.resolve_left (by omega)
      obtain ⟨s1, _, q1⟩ := HL.out j hjl
      have q := (Bj.cell (p := ⟨b, o + j, none⟩) (hS _ s1)).trans q1
      have HR := hmk (HW.out wr Bj j hjl)
      have HNO : Hid (valB l j = false → valsB l = false) := fun h => valsB_no hjl h
      have HYE : Hid (valB l j = true → ∀ k, k < j + 1 → k < l.length → valB l k = true) := fun h k hk hk2 => by
        by_cases e : k = j
        · subst e; exact h
        · exact HN.out k (by omega) hk2
      clear HN q1
      cases j with
      | zero =>
        have HV := hmk (valB_zero hjl)
        rw [Nat.add_zero] at q
        obtain ⟨r, hr⟩ : ∃ r, wordB l[0] = r := ⟨_, rfl⟩
        rw [hr] at HV HR
        rw [HV.out] at HNO HYE
        clear HV hr
        generalize l[0] = s at *
        cases r with
        | false =>
          have HA := hmk (HNO.out rfl)
          go_wp2_with (first | (go_at_call 61; refine HR.out.mono ?_; rintro e w2 ⟨rfl, B2⟩))
          go_ret
          exact ⟨congrArg (fun r => Ending.returned (.bool r)) HA.out.symm, Bj.trans (B2.mono hzr)⟩
        | true =>
          have HY := hmk (HYE.out rfl)
          go_wp2_with (first | (go_at_call 61; refine HR.out.mono ?_; rintro e w2 ⟨rfl, B2⟩))
          go_roundw
          case rel => exact ⟨1, by omega, by go_num, Bj.trans (B2.mono hzr), HY.out⟩
          case measure => simp [RowKit.intOf]; omega
      | succ p =>
        have HV := hmk (valB_succ hjl)
        obtain ⟨s2, _, q2⟩ := HL.out p (by omega)
        have q0 := (Bj.cell (p := ⟨b, o + p, none⟩) (hS _ s2)).trans q2
        have y2 : IntKind.i64.wrap ((p : Int) + 1 - 1) = (p : Int) := by rw [IntKind.wrap_i64]; omega
        have y3 : (0 : Int) < (p : Int) + 1 := by omega
        have y4 : (p : Int) < l.length := by omega
        have HTB : Hid ((!(Op.bytesLess (l[p]'(by omega)).toList (l[p + 1]).toList)) = !(ltB (l[p]'(by omega)) l[p + 1])) := rfl
        obtain ⟨t, ht⟩ : ∃ t, ltB (l[p]'(by omega)) l[p + 1] = t := ⟨_, rfl⟩
        have hb : Op.bytesLess (l[p]'(by omega)).toList (l[p + 1]).toList = t := ht
        obtain ⟨r, hr⟩ : ∃ r, wordB l[p + 1] = r := ⟨_, rfl⟩
        rw [ht, hr] at HV
        rw [hr] at HR
        rw [HV.out] at HNO HYE
        clear HV hr ht HTB q2
        generalize l[p + 1] = s at *
        generalize l[p]'(by omega) = s0 at *
        cases t with
        | false =>
          have HA := hmk (HNO.out (by simp))
          go_wp2_with (first | (go_at_call 61; refine HR.out.mono ?_; rintro e w2 ⟨rfl, B2⟩))
          go_ret
          exact ⟨congrArg (fun r => Ending.returned (.bool r)) HA.out.symm, Bj⟩
        | true =>
          cases r with
          | false =>
            have HA := hmk (HNO.out rfl)
            go_wp2_with (first | (go_at_call 61; refine HR.out.mono ?_; rintro e w2 ⟨rfl, B2⟩))
            go_ret
            exact ⟨congrArg (fun r => Ending.returned (.bool r)) HA.out.symm, Bj.trans (B2.mono hzr)⟩
          | true =>
            have HY := hmk (HYE.out rfl)
            go_wp2_with (first | (go_at_call 61; refine HR.out.mono ?_; rintro e w2 ⟨rfl, B2⟩))
            go_roundw
            case rel => exact ⟨p + 1 + 1, by omega, by go_num, Bj.trans (B2.mono hzr), HY.out⟩
            case measure => simp [RowKit.intOf]; omega
    · obtain rfl : j = l.length := by omega
      have y1 : ¬ (l.length : Int) < l.length := by omega
      have HA := hmk (valsB_yes fun k hk => HN.out k hk hk)
      go_wp2_with fail
      (try simp only [Exit.inBlock, Exit.then])
      go_ret
      exact ⟨congrArg (fun r => Ending.returned (.bool r)) HA.out.symm, Bj⟩
end Go.Proofs.YtolekldjbbjmjaaGreatDoor
