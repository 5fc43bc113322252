import Derived.Test.YtagjbphadakifaaDoorTrmH
/- cmp.Less, isNaN of texts. -/
set_option linter.unusedSimpArgs false
set_option linter.unusedVariables false
namespace Go.Proofs.YtagjbphadakifaaDoor
open Go.RowKit Go.Lib
def hitS (l : List ByteArray) (p : Nat) (x : ByteArray) : Bool := match l[p]? with
  | some s => s.toList == x.toList
  | none => false
def BsPost (l : List ByteArray) (p : Nat) (x : ByteArray) (w : World) (e : Ending) (w' : World) : Prop := e = .returned (.tuple #[.int .i64 (p : Int), .bool (hitS l p x)]) ∧ w' = w
theorem isnan95_any (x : ByteArray) (w : World) : Calls Tryd.prog 95 #[.string x] w (fun e w' => e = .returned (.bool false) ∧ w' = w) := by
  go_enter Tryd.func95, Tryd.ntmps95
  go_wp2_with fail
  go_ret
  exact ⟨rfl, rfl⟩
theorem isnan77_any (x : ByteArray) (w : World) : Calls Tryd.prog 77 #[.string x] w (fun e w' => e = .returned (.bool false) ∧ w' = w) := by
  go_enter Tryd.func77, Tryd.ntmps77
  go_wp2_with fail
  go_ret
  exact ⟨rfl, rfl⟩
set_option maxHeartbeats 8000000 in
theorem less_any (x y : ByteArray) (w : World) : Calls Tryd.prog 76 #[.string x, .string y] w (fun e w' => e = .returned (.bool (Op.bytesLess x.toList y.toList)) ∧ w' = w) := by
  have C := hmk (isnan95_any x w)
  go_enter Tryd.func76, Tryd.ntmps76
  go_wp2_with (first | (go_at_call 95; refine C.out.mono ?_; rintro e w1 ⟨rfl, rfl⟩))
  go_ret
  exact ⟨rfl, rfl⟩
set_option maxHeartbeats 8000000 in
set_option maxRecDepth 100000 in
theorem bsearch_any (l : List ByteArray) (x : ByteArray) (p : Nat) (S : Nat → Prop) (a : Option Addr) (c b o : Nat) (w : World) (hh : Headed a l.length c b o) (hl : liesS w S l b o) (hm : l.length ≤ 2147483647) (hpl : p ≤ l.length) (hp : ∀ t (ht : t < l.length), Op.bytesLess (l[t]).toList x.toList = decide (t < p)) :
    Calls Tryd.prog 63 #[.slice a l.length c, .string x] w (BsPost l p x w) := by
  have HH := hmk hh
  have HL := hmk hl
  have HP := hmk hp
  clear hh hl hp
  go_enter Tryd.func63, Tryd.ntmps63
  go_wp2_with fail
  go_loopw [7, 8] (fun e7 e8 wr => ∃ i j : Nat, i ≤ p ∧ p ≤ j ∧ j ≤ l.length ∧ e7 = .int .i64 (i : Int) ∧ e8 = .int .i64 (j : Int) ∧ wr = w) (fun e7 e8 _ => (RowKit.intOf e8).toNat - (RowKit.intOf e7).toNat)
  case atStart => exact ⟨0, l.length, by omega, by omega, by omega, rfl, rfl, rfl⟩
  case round =>
    obtain ⟨i, j, hi, hj, hjl, rfl, rfl, rfl⟩ := hrel
    by_cases hij : i < j
    · have y1 : (i : Int) < j := by omega
      obtain ⟨h, hh, hh1, hh2⟩ : ∃ h : Nat, ((i : Int) + (j : Int)) / 2 = (h : Int) ∧ i ≤ h ∧ h < j := ⟨(i + j) / 2, by omega, by omega, by omega⟩
      have y5 : wrap64 ((i : Int) + (j : Int)) = (i : Int) + (j : Int) := by unfold wrap64; omega
      have y6 : IntKind.u64.wrap ((i : Int) + (j : Int)) = (i : Int) + (j : Int) := by rw [IntKind.wrap_u64]; omega
      have y7 : wrap64 (h : Int) = (h : Int) := by unfold wrap64; omega
      have hhl : h < l.length := by omega
      have y2 : (h : Int) < l.length := by omega
      obtain rfl : a = some ⟨b, o, none⟩ := HH.out.at_.resolve_left (by omega)
      obtain ⟨s1, _, q1⟩ := HL.out h hhl
      have hc := hmk (less_any l[h] x wr)
      have hb := HP.out h hhl
      by_cases hp : h < p
      · rw [decide_eq_true hp] at hb
        go_wp2_with (first | (go_at_call 76; refine hc.out.mono ?_; rintro e w1 ⟨rfl, rfl⟩))
        go_roundw
        case rel => exact ⟨h + 1, j, by omega, by omega, by omega, by go_num, rfl, (by first | trivial | rfl)⟩
        case measure => simp [RowKit.intOf]; omega
      · rw [decide_eq_false hp] at hb
        go_wp2_with (first | (go_at_call 76; refine hc.out.mono ?_; rintro e w1 ⟨rfl, rfl⟩))
        go_roundw
        case rel => exact ⟨i, h, by omega, by omega, by omega, rfl, rfl, (by first | trivial | rfl)⟩
        case measure => simp [RowKit.intOf]; omega
    · have hie : i = p := by omega
      subst hie
      have y1 : ¬ (i : Int) < j := by omega
      by_cases hpos : i < l.length
      · have y2 : (i : Int) < l.length := by omega
        obtain rfl : a = some ⟨b, o, none⟩ := HH.out.at_.resolve_left (by omega)
        obtain ⟨s1, _, q1⟩ := HL.out i hpos
        have HK : Hid (hitS l i x = ((l[i]).toList == x.toList)) := by show _ = _; unfold hitS; rw [List.getElem?_eq_getElem hpos]
        have C := hmk (isnan77_any l[i] wr)
        by_cases hx : ((l[i]).toList == x.toList) = true
        · have HK1 : Hid (hitS l i x = true) := HK.out.trans hx
          clear HK
          go_wp2_with (first | (go_at_call 77; refine C.out.mono ?_; rintro e w1 ⟨rfl, rfl⟩))
          go_ret2
          refine ⟨?_, rfl⟩
          rw [HK1.out]; rfl
        · have hx' : ((l[i]).toList == x.toList) = false := by simpa using hx
          have HK1 : Hid (hitS l i x = false) := HK.out.trans hx'
          clear HK hx
          go_wp2_with (first | (go_at_call 77; refine C.out.mono ?_; rintro e w1 ⟨rfl, rfl⟩))
          go_ret2
          refine ⟨?_, rfl⟩
          rw [HK1.out]; rfl
      · have y2 : ¬ (i : Int) < l.length := by omega
        have HK1 : Hid (hitS l i x = false) := by show _ = _; unfold hitS; rw [List.getElem?_eq_none (by omega)]
        go_wp2_with fail
        go_ret2
        refine ⟨?_, rfl⟩
        rw [HK1.out]; rfl
end Go.Proofs.YtagjbphadakifaaDoor
