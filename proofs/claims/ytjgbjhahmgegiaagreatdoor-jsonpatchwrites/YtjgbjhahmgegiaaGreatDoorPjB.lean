import Derived.Test.YtjgbjhahmgegiaaGreatDoorPjA
import Derived.Test.YtjgbjhahmgegiaaGreatDoorG30
import Derived.Test.YtjgbjhahmgegiaaGreatDoorSamV
/- word, text; is, from, val; null, zero. -/
set_option linter.unusedSimpArgs false
set_option linter.unusedVariables false
set_option maxRecDepth 100000
namespace Go.Proofs.YtjgbjhahmgegiaaGreatDoor
open Go.RowKit Go.Lib
theorem hmk {p : Prop} (h : p) : Hid p := h
def strOf : V → ByteArray
  | .mk _ _ _ s _ _ => s
def kndOf : V → Int
  | .mk k _ _ _ _ _ => k
theorem lies_fields {R : Bool} {w : World} {S : Nat → Prop} {v : V} {k : Int} {b : Bool} {i : Int} {s : ByteArray} {cs : List Value} (h : v.lies R w S (.int .i64 k :: .bool b :: .int .i64 i :: .string s :: cs)) : kndOf v = k ∧ strOf v = s := by
  cases v
  rw [V.lies] at h
  obtain ⟨al, cl, bl, ol, am, cm, bm, om, e, _⟩ := h
  injection e with e1 e
  injection e with e2 e
  injection e with e3 e
  injection e with e4 e
  injection e1 with _ e1
  injection e4 with e4
  exact ⟨e1.symm, e4.symm⟩
def isF (s : ByteArray) : Bool := (opOf s).isSome
def fromF (s : ByteArray) : Bool := match opOf s with | some (f, _, _) => f | none => false
def valF (s : ByteArray) : Bool := match opOf s with | some (_, x, _) => x | none => false
theorem ba_eq {a b : ByteArray} (h : a.data.toList = b.data.toList) : a = b := by
  cases a; cases b; congr 1; exact Array.ext' h
theorem op_none {s : ByteArray} (h : ∀ x ∈ [sAdd, sRem, sRep, sMov, sCop, sTst], s ≠ x) : opOf s = none := by
  unfold opOf
  rw [if_neg (fun e => h sAdd (by simp) (ba_eq e)), if_neg (fun e => h sRem (by simp) (ba_eq e)), if_neg (fun e => h sRep (by simp) (ba_eq e)), if_neg (fun e => h sMov (by simp) (ba_eq e)), if_neg (fun e => h sCop (by simp) (ba_eq e)), if_neg (fun e => h sTst (by simp) (ba_eq e))]
set_option maxHeartbeats 4000000 in
theorem is_any (s : ByteArray) (w : World) : Calls Tryz.prog 43 #[.string s] w (BPost (isF s) w) := by
  by_cases hsAdd : s = sAdd
  · subst hsAdd
    go_enter Tryz.func43, Tryz.ntmps43
    go_wp2_with fail
    go_ret
    exact ⟨rfl, Below.refl _ _⟩
  · skip
    by_cases hsRem : s = sRem
    · subst hsRem
      go_enter Tryz.func43, Tryz.ntmps43
      go_wp2_with fail
      go_ret
      exact ⟨rfl, Below.refl _ _⟩
    · skip
      by_cases hsRep : s = sRep
      · subst hsRep
        go_enter Tryz.func43, Tryz.ntmps43
        go_wp2_with fail
        go_ret
        exact ⟨rfl, Below.refl _ _⟩
      · skip
        by_cases hsMov : s = sMov
        · subst hsMov
          go_enter Tryz.func43, Tryz.ntmps43
          go_wp2_with fail
          go_ret
          exact ⟨rfl, Below.refl _ _⟩
        · skip
          by_cases hsCop : s = sCop
          · subst hsCop
            go_enter Tryz.func43, Tryz.ntmps43
            go_wp2_with fail
            go_ret
            exact ⟨rfl, Below.refl _ _⟩
          · skip
            by_cases hsTst : s = sTst
            · subst hsTst
              go_enter Tryz.func43, Tryz.ntmps43
              go_wp2_with fail
              go_ret
              exact ⟨rfl, Below.refl _ _⟩
            · skip
              have hn : opOf s = none := op_none (fun x hx => by simp only [List.mem_cons, List.mem_nil_iff, or_false] at hx; rcases hx with rfl | rfl | rfl | rfl | rfl | rfl <;> assumption)
              have HF : Hid (isF s = false) := by show _ = _; simp [isF, hn]
              have ysAdd : ¬ s.toList = [97, 100, 100] := fun e => hsAdd (ba_eq ((toList_data s).symm.trans e))
              have zsAdd : (s.toList == [97, 100, 100]) = false := by rw [beq_eq_false_iff_ne]; exact ysAdd
              have ysRem : ¬ s.toList = [114, 101, 109, 111, 118, 101] := fun e => hsRem (ba_eq ((toList_data s).symm.trans e))
              have zsRem : (s.toList == [114, 101, 109, 111, 118, 101]) = false := by rw [beq_eq_false_iff_ne]; exact ysRem
              have ysRep : ¬ s.toList = [114, 101, 112, 108, 97, 99, 101] := fun e => hsRep (ba_eq ((toList_data s).symm.trans e))
              have zsRep : (s.toList == [114, 101, 112, 108, 97, 99, 101]) = false := by rw [beq_eq_false_iff_ne]; exact ysRep
              have ysMov : ¬ s.toList = [109, 111, 118, 101] := fun e => hsMov (ba_eq ((toList_data s).symm.trans e))
              have zsMov : (s.toList == [109, 111, 118, 101]) = false := by rw [beq_eq_false_iff_ne]; exact ysMov
              have ysCop : ¬ s.toList = [99, 111, 112, 121] := fun e => hsCop (ba_eq ((toList_data s).symm.trans e))
              have zsCop : (s.toList == [99, 111, 112, 121]) = false := by rw [beq_eq_false_iff_ne]; exact ysCop
              have ysTst : ¬ s.toList = [116, 101, 115, 116] := fun e => hsTst (ba_eq ((toList_data s).symm.trans e))
              have zsTst : (s.toList == [116, 101, 115, 116]) = false := by rw [beq_eq_false_iff_ne]; exact ysTst
              clear hn hsAdd hsRem hsRep hsMov hsCop hsTst
              go_enter Tryz.func43, Tryz.ntmps43
              go_wp2_with fail
              go_ret
              exact ⟨by rw [HF.out]; rfl, Below.refl _ _⟩
set_option maxHeartbeats 4000000 in
theorem from_any (s : ByteArray) (w : World) : Calls Tryz.prog 44 #[.string s] w (BPost (fromF s) w) := by
  by_cases hsAdd : s = sAdd
  · subst hsAdd
    go_enter Tryz.func44, Tryz.ntmps44
    go_wp2_with fail
    go_ret
    exact ⟨rfl, Below.refl _ _⟩
  · skip
    by_cases hsRem : s = sRem
    · subst hsRem
      go_enter Tryz.func44, Tryz.ntmps44
      go_wp2_with fail
      go_ret
      exact ⟨rfl, Below.refl _ _⟩
    · skip
      by_cases hsRep : s = sRep
      · subst hsRep
        go_enter Tryz.func44, Tryz.ntmps44
        go_wp2_with fail
        go_ret
        exact ⟨rfl, Below.refl _ _⟩
      · skip
        by_cases hsMov : s = sMov
        · subst hsMov
          go_enter Tryz.func44, Tryz.ntmps44
          go_wp2_with fail
          go_ret
          exact ⟨rfl, Below.refl _ _⟩
        · skip
          by_cases hsCop : s = sCop
          · subst hsCop
            go_enter Tryz.func44, Tryz.ntmps44
            go_wp2_with fail
            go_ret
            exact ⟨rfl, Below.refl _ _⟩
          · skip
            by_cases hsTst : s = sTst
            · subst hsTst
              go_enter Tryz.func44, Tryz.ntmps44
              go_wp2_with fail
              go_ret
              exact ⟨rfl, Below.refl _ _⟩
            · skip
              have hn : opOf s = none := op_none (fun x hx => by simp only [List.mem_cons, List.mem_nil_iff, or_false] at hx; rcases hx with rfl | rfl | rfl | rfl | rfl | rfl <;> assumption)
              have HF : Hid (fromF s = false) := by show _ = _; simp [fromF, hn]
              have ysMov : ¬ s.toList = [109, 111, 118, 101] := fun e => hsMov (ba_eq ((toList_data s).symm.trans e))
              have zsMov : (s.toList == [109, 111, 118, 101]) = false := by rw [beq_eq_false_iff_ne]; exact ysMov
              have ysCop : ¬ s.toList = [99, 111, 112, 121] := fun e => hsCop (ba_eq ((toList_data s).symm.trans e))
              have zsCop : (s.toList == [99, 111, 112, 121]) = false := by rw [beq_eq_false_iff_ne]; exact ysCop
              clear hn hsAdd hsRem hsRep hsMov hsCop hsTst
              go_enter Tryz.func44, Tryz.ntmps44
              go_wp2_with fail
              go_ret
              exact ⟨by rw [HF.out]; rfl, Below.refl _ _⟩
set_option maxHeartbeats 4000000 in
theorem val_any (s : ByteArray) (w : World) : Calls Tryz.prog 45 #[.string s] w (BPost (valF s) w) := by
  by_cases hsAdd : s = sAdd
  · subst hsAdd
    go_enter Tryz.func45, Tryz.ntmps45
    go_wp2_with fail
    go_ret
    exact ⟨rfl, Below.refl _ _⟩
  · skip
    by_cases hsRem : s = sRem
    · subst hsRem
      go_enter Tryz.func45, Tryz.ntmps45
      go_wp2_with fail
      go_ret
      exact ⟨rfl, Below.refl _ _⟩
    · skip
      by_cases hsRep : s = sRep
      · subst hsRep
        go_enter Tryz.func45, Tryz.ntmps45
        go_wp2_with fail
        go_ret
        exact ⟨rfl, Below.refl _ _⟩
      · skip
        by_cases hsMov : s = sMov
        · subst hsMov
          go_enter Tryz.func45, Tryz.ntmps45
          go_wp2_with fail
          go_ret
          exact ⟨rfl, Below.refl _ _⟩
        · skip
          by_cases hsCop : s = sCop
          · subst hsCop
            go_enter Tryz.func45, Tryz.ntmps45
            go_wp2_with fail
            go_ret
            exact ⟨rfl, Below.refl _ _⟩
          · skip
            by_cases hsTst : s = sTst
            · subst hsTst
              go_enter Tryz.func45, Tryz.ntmps45
              go_wp2_with fail
              go_ret
              exact ⟨rfl, Below.refl _ _⟩
            · skip
              have hn : opOf s = none := op_none (fun x hx => by simp only [List.mem_cons, List.mem_nil_iff, or_false] at hx; rcases hx with rfl | rfl | rfl | rfl | rfl | rfl <;> assumption)
              have HF : Hid (valF s = false) := by show _ = _; simp [valF, hn]
              have ysAdd : ¬ s.toList = [97, 100, 100] := fun e => hsAdd (ba_eq ((toList_data s).symm.trans e))
              have zsAdd : (s.toList == [97, 100, 100]) = false := by rw [beq_eq_false_iff_ne]; exact ysAdd
              have ysRep : ¬ s.toList = [114, 101, 112, 108, 97, 99, 101] := fun e => hsRep (ba_eq ((toList_data s).symm.trans e))
              have zsRep : (s.toList == [114, 101, 112, 108, 97, 99, 101]) = false := by rw [beq_eq_false_iff_ne]; exact ysRep
              have ysTst : ¬ s.toList = [116, 101, 115, 116] := fun e => hsTst (ba_eq ((toList_data s).symm.trans e))
              have zsTst : (s.toList == [116, 101, 115, 116]) = false := by rw [beq_eq_false_iff_ne]; exact ysTst
              clear hn hsAdd hsRem hsRep hsMov hsCop hsTst
              go_enter Tryz.func45, Tryz.ntmps45
              go_wp2_with fail
              go_ret
              exact ⟨by rw [HF.out]; rfl, Below.refl _ _⟩
end Go.Proofs.YtjgbjhahmgegiaaGreatDoor
