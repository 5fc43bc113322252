import Derived.Test.YtolekldjbbjmjaaGreatDoorG4
import Derived.WalkMore
/- the order of texts; words and values that may be. -/
set_option linter.unusedSimpArgs false
set_option linter.unusedVariables false
namespace Go.Proofs.YtolekldjbbjmjaaGreatDoor
open Go.RowKit Go.Lib
theorem less_turn : ∀ a b : List UInt8, (Op.bytesLess a b || a == b) = !(Op.bytesLess b a)
  | [], [] => rfl
  | [], _ :: _ => by simp [Op.bytesLess]
  | _ :: _, [] => by simp [Op.bytesLess]
  | x :: s, y :: t => by
    have ih := less_turn s t
    simp only [Op.bytesLess]
    by_cases h1 : x < y
    · have h2 : ¬ y < x := fun h => by have := UInt8.lt_iff_toNat_lt.1 h1; have := UInt8.lt_iff_toNat_lt.1 h; omega
      have h3 : y ≠ x := fun h => by subst h; exact h2 h1
      simp [h1, h2, h3]
    · by_cases h2 : y < x
      · have h3 : x ≠ y := fun h => by subst h; exact h1 h2
        simp [h1, h2, h3]
      · have h3 : x = y := UInt8.toNat_inj.1 (by
          have a1 : ¬ x.toNat < y.toNat := fun h => h1 (UInt8.lt_iff_toNat_lt.2 h)
          have a2 : ¬ y.toNat < x.toNat := fun h => h2 (UInt8.lt_iff_toNat_lt.2 h)
          omega)
        subst h3
        have e : (x :: s == x :: t) = (s == t) := by rw [Bool.eq_iff_iff, beq_iff_eq, beq_iff_eq]; simp
        rw [e]
        simp only [h1, decide_false, Bool.false_or, beq_self_eq_true, Bool.true_and]
        exact ih
theorem less_self : ∀ a : List UInt8, Op.bytesLess a a = false
  | [] => rfl
  | x :: s => by
    have h1 : ¬ x < x := fun h => by have := UInt8.lt_iff_toNat_lt.1 h; omega
    simp [Op.bytesLess, h1, less_self s]
theorem less_trans : ∀ {a b c : List UInt8}, Op.bytesLess a b = true → Op.bytesLess b c = true → Op.bytesLess a c = true
  | [], [], _, h, _ => by simp [Op.bytesLess] at h
  | _ :: _, [], _, h, _ => by simp [Op.bytesLess] at h
  | _, _ :: _, [], _, h => by simp [Op.bytesLess] at h
  | [], _ :: _, _ :: _, _, _ => rfl
  | x :: s, y :: t, z :: u, h1, h2 => by
    simp only [Op.bytesLess, Bool.or_eq_true, decide_eq_true_eq, Bool.and_eq_true, beq_iff_eq] at h1 h2 ⊢
    rcases h1 with h1 | ⟨rfl, h1⟩
    · rcases h2 with h2 | ⟨rfl, h2⟩
      · left
        have a1 := UInt8.lt_iff_toNat_lt.1 h1
        have a2 := UInt8.lt_iff_toNat_lt.1 h2
        exact UInt8.lt_iff_toNat_lt.2 (by omega)
      · exact .inl h1
    · rcases h2 with h2 | ⟨rfl, h2⟩
      · exact .inl h2
      · exact .inr ⟨rfl, less_trans h1 h2⟩
def wordB (s : ByteArray) : Bool := decide (s.size ≤ 64) && utfB s
/-- the k-th value may stand behind the one ahead of it -/
def valB (l : List ByteArray) (k : Nat) : Bool := match l[k]? with
  | none => true
  | some s => wordB s && (match k with
    | 0 => true
    | q + 1 => match l[q]? with
      | none => true
      | some r => ltB r s)
def valsB (l : List ByteArray) : Bool := (List.range l.length).all (valB l)
def goodB (t : Trm) : Bool := decide (0 < t.1.size) && wordB t.1 && (if t.2.1 = 1 ∨ t.2.1 = 2 then decide (t.2.2.length = 0) else if t.2.1 = 3 ∨ t.2.1 = 4 then decide (0 < t.2.2.length) && valsB t.2.2 else false)
theorem valB_zero {l : List ByteArray} (h : 0 < l.length) : valB l 0 = wordB l[0] := by
  unfold valB
  rw [List.getElem?_eq_getElem h]
  simp
theorem valB_succ {l : List ByteArray} {k : Nat} (h : k + 1 < l.length) : valB l (k + 1) = (wordB l[k + 1] && ltB (l[k]'(by omega)) l[k + 1]) := by
  unfold valB
  rw [List.getElem?_eq_getElem h]
  simp only
  rw [List.getElem?_eq_getElem (by omega : k < l.length)]
theorem valsB_no {l : List ByteArray} {k : Nat} (hk : k < l.length) (h : valB l k = false) : valsB l = false := by
  unfold valsB
  rw [List.all_eq_false]
  exact ⟨k, List.mem_range.2 hk, by rw [h]; simp⟩
theorem valsB_yes {l : List ByteArray} (h : ∀ k, k < l.length → valB l k = true) : valsB l = true := by
  unfold valsB
  rw [List.all_eq_true]
  intro k hk
  exact h k (List.mem_range.1 hk)
set_option maxHeartbeats 8000000 in
set_option maxRecDepth 100000 in
theorem word_any (s : ByteArray) (w : World) (hs : s.size ≤ 140737488355328) (hT : Tb w) : Calls Tryz.prog 61 #[.string s] w (BPost (wordB s) w) := by
  have HV : Hid (∀ W : World, Below w.heap.size w W → Calls Tryz.prog 80 #[.string s] W (BPost (utfB s) W)) := fun W hW => by
    have HS := hmk (validString_any s W (by omega) (hT.below hW hT.z).u)
    have HE : Hid (validD s.data.toList = utfB s) := rfl
    rw [HE.out] at HS
    go_enter Tryz.func80, Tryz.ntmps80
    go_wp2_with (go_at_call 110; refine HS.out.mono ?_; rintro e w1 ⟨rfl, B1⟩)
    go_ret
    exact ⟨rfl, B1⟩
  by_cases h : s.size ≤ 64
  · have y : (s.size : Int) ≤ 64 := by omega
    have HB : Hid (wordB s = utfB s) := by show _ = _; unfold wordB; rw [decide_eq_true h, Bool.true_and]
    have HC := hmk (HV.out w (Below.refl _ _))
    clear h
    go_enter Tryz.func61, Tryz.ntmps61
    go_wp2_with (go_at_call 80; refine HC.out.mono ?_; rintro e w1 ⟨rfl, B1⟩)
    go_ret
    exact ⟨congrArg (fun r => Ending.returned (.bool r)) HB.out.symm, B1⟩
  · have y : ¬ (s.size : Int) ≤ 64 := by omega
    have HB : Hid (wordB s = false) := by show _ = _; unfold wordB; rw [decide_eq_false h, Bool.false_and]
    clear h
    go_enter Tryz.func61, Tryz.ntmps61
    go_wp2_with fail
    go_ret
    exact ⟨congrArg (fun r => Ending.returned (.bool r)) HB.out.symm, Below.refl _ _⟩
set_option maxHeartbeats 8000000 in
set_option maxRecDepth 100000 in
theorem values_any (l : List ByteArray) (S : Nat → Prop) (a : Option Addr) (c b o : Nat) (w : World) (hh : Headed a l.length c b o) (hl : liesS w S l b o) (hS : ∀ y, S y → y < w.heap.size) (hT : Tb w) :
    Calls Tryz.prog 62 #[.slice a l.length c] w (BPost (valsB l) w) := by
  have HH := hmk hh
  have HL := hmk hl
  have hm : l.length ≤ 9223372036854775807 := Nat.le_trans hh.le hh.max
  have HW : Hid (∀ W : World, Below w.heap.size w W → ∀ k (h : k < l.length), Calls Tryz.prog 61 #[.string l[k]] W (BPost (wordB l[k]) W)) := fun W hW k h => word_any _ W (hl k h).2.1 (hT.below hW hT.z)
  clear hh hl hT
  go_enter Tryz.func62, Tryz.ntmps62
  go_wp2_with fail
  go_loopw [7] (fun e7 wr => ∃ j : Nat, j ≤ l.length ∧ e7 = .int .i64 (j : Int) ∧ Below w.heap.size w wr ∧ Hid (∀ k, k < j → k < l.length → valB l k = true)) (fun e7 _ => l.length - (RowKit.intOf e7).toNat)
  case atStart => exact ⟨0, by omega, rfl, Below.refl _ _, fun k h => by omega⟩
  case round =>
    obtain ⟨j, hj, rfl, Bj, HN⟩ := hrel
    have hzr := Bj.size
    by_cases hjl : j < l.length
    · have y1 : (j : Int) < l.length := by omega
      obtain rfl : a = some ⟨b, o, none⟩ := HH.out.at_.resolve_left (by omega)
      obtain ⟨s1, _, q1⟩ := HL.out j hjl
      have q := (Bj.cell (p := ⟨b, o + j, none⟩) (hS _ s1)).trans q1
      have HR := hmk (HW.out wr Bj j hjl)
      have HNO : Hid (valB l j = false → valsB l = false) := fun h => valsB_no hjl h
      have HYE : Hid (valB l j = true → ∀ k, k < j + 1 → k < l.length → valB l k = true) := fun h k hk hk2 => by
        by_cases e : k = j
        · subst e; exact h
        · exact HN.out k (by omega) hk2
      clear HN q1
      cases j with
      | zero =>
        have HV := hmk (valB_zero hjl)
        rw [Nat.add_zero] at q
        obtain ⟨r, hr⟩ : ∃ r, wordB l[0] = r := ⟨_, rfl⟩
        rw [hr] at HV HR
        rw [HV.out] at HNO HYE
        clear HV hr
        generalize l[0] = s at *
        cases r with
        | false =>
          have HA := hmk (HNO.out rfl)
          go_wp2_with (first | (go_at_call 61; refine HR.out.mono ?_; rintro e w2 ⟨rfl, B2⟩))
          go_ret
          exact ⟨congrArg (fun r => Ending.returned (.bool r)) HA.out.symm, Bj.trans (B2.mono hzr)⟩
        | true =>
          have HY := hmk (HYE.out rfl)
          go_wp2_with (first | (go_at_call 61; refine HR.out.mono ?_; rintro e w2 ⟨rfl, B2⟩))
          go_roundw
          case rel => exact ⟨1, by omega, by go_num, Bj.trans (B2.mono hzr), HY.out⟩
          case measure => simp [RowKit.intOf]; omega
      | succ p =>
        have HV := hmk (valB_succ hjl)
        obtain ⟨s2, _, q2⟩ := HL.out p (by omega)
        have q0 := (Bj.cell (p := ⟨b, o + p, none⟩) (hS _ s2)).trans q2
        have y2 : IntKind.i64.wrap ((p : Int) + 1 - 1) = (p : Int) := by rw [IntKind.wrap_i64]; omega
        have y3 : (0 : Int) < (p : Int) + 1 := by omega
        have y4 : (p : Int) < l.length := by omega
        have HTB : Hid ((!(Op.bytesLess (l[p]'(by omega)).toList (l[p + 1]).toList)) = !(ltB (l[p]'(by omega)) l[p + 1])) := rfl
        obtain ⟨t, ht⟩ : ∃ t, ltB (l[p]'(by omega)) l[p + 1] = t := ⟨_, rfl⟩
        have hb : Op.bytesLess (l[p]'(by omega)).toList (l[p + 1]).toList = t := ht
        obtain ⟨r, hr⟩ : ∃ r, wordB l[p + 1] = r := ⟨_, rfl⟩
        rw [ht, hr] at HV
        rw [hr] at HR
        rw [HV.out] at HNO HYE
        clear HV hr ht HTB q2
        generalize l[p + 1] = s at *
        generalize l[p]'(by omega) = s0 at *
        cases t with
        | false =>
          have HA := hmk (HNO.out (by simp))
          go_wp2_with (first | (go_at_call 61; refine HR.out.mono ?_; rintro e w2 ⟨rfl, B2⟩))
          go_ret
          exact ⟨congrArg (fun r => Ending.returned (.bool r)) HA.out.symm, Bj⟩
        | true =>
          cases r with
          | false =>
            have HA := hmk (HNO.out rfl)
            go_wp2_with (first | (go_at_call 61; refine HR.out.mono ?_; rintro e w2 ⟨rfl, B2⟩))
            go_ret
            exact ⟨congrArg (fun r => Ending.returned (.bool r)) HA.out.symm, Bj.trans (B2.mono hzr)⟩
          | true =>
            have HY := hmk (HYE.out rfl)
            go_wp2_with (first | (go_at_call 61; refine HR.out.mono ?_; rintro e w2 ⟨rfl, B2⟩))
            go_roundw
            case rel => exact ⟨p + 1 + 1, by omega, by go_num, Bj.trans (B2.mono hzr), HY.out⟩
            case measure => simp [RowKit.intOf]; omega
    · obtain rfl : j = l.length := by omega
      have y1 : ¬ (l.length : Int) < l.length := by omega
      have HA := hmk (valsB_yes fun k hk => HN.out k hk hk)
      go_wp2_with fail
      (try simp only [Exit.inBlock, Exit.then])
      go_ret
      exact ⟨congrArg (fun r => Ending.returned (.bool r)) HA.out.symm, Bj⟩
end Go.Proofs.YtolekldjbbjmjaaGreatDoor
