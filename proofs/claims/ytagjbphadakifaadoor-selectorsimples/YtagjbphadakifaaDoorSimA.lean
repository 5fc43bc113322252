import Derived.Test.YtagjbphadakifaaDoorTrmX
/- the document's has and add (layer 20). -/
set_option linter.unusedSimpArgs false
set_option linter.unusedVariables false
namespace Go.Proofs.YtagjbphadakifaaDoor
open Go.RowKit Go.Lib
def isOp (key : ByteArray) (op : Int) (t : Trm) : Bool := (t.1.toList == key.toList) && (t.2.1 == op)
def hasOp (l : List Trm) (key : ByteArray) (op : Int) : Bool := l.any (isOp key op)
theorem hasOp_no {l : List Trm} {key : ByteArray} {op : Int} (h : ∀ k (hk : k < l.length), isOp key op l[k] = false) : hasOp l key op = false := by
  unfold hasOp
  rw [List.any_eq_false]
  intro t ht
  obtain ⟨k, hk, rfl⟩ := List.mem_iff_getElem.1 ht
  rw [h k hk]; simp
theorem hasOp_yes {l : List Trm} {key : ByteArray} {op : Int} {k : Nat} (hk : k < l.length) (h : isOp key op l[k] = true) : hasOp l key op = true := List.any_eq_true.2 ⟨_, List.getElem_mem hk, h⟩
set_option maxHeartbeats 8000000 in
set_option maxRecDepth 100000 in
theorem rhas_any (l : List Trm) (key : ByteArray) (op : Int) (R : Bool) (S : Nat → Prop) (al : Option Addr) (cl bl ol : Nat) (w : World) (hh : Headed al l.length cl bl ol) (hl : liesT R w S l bl ol) :
    Calls Tryd.prog 42 #[.slice al l.length cl, .string key, .int .i64 op] w (fun e w' => e = .returned (.bool (hasOp l key op)) ∧ w' = w) := by
  have HH := hmk hh
  have HL := hmk hl
  have hm : l.length ≤ 9223372036854775807 := Nat.le_trans hh.le hh.max
  clear hh hl
  go_enter Tryd.func42, Tryd.ntmps42
  go_wp2_with fail
  go_loopw [7] (fun e7 wr => ∃ j : Nat, j ≤ l.length ∧ e7 = .int .i64 (j : Int) ∧ wr = w ∧ Hid (∀ k (h : k < l.length), k < j → isOp key op l[k] = false)) (fun e7 _ => l.length - (RowKit.intOf e7).toNat)
  case atStart => exact ⟨0, by omega, rfl, rfl, fun k _ h => by omega⟩
  case round =>
    obtain ⟨j, hj, rfl, rfl, HN⟩ := hrel
    by_cases hjl : j < l.length
    · have y1 : (j : Int) < l.length := by omega
      obtain rfl : al = some ⟨bl, ol, none⟩ := HH.out.at_.resolve_left (by omega)
      obtain ⟨s1, cs, row1, t1⟩ := HL.out j hjl
      obtain ⟨ta, tc, tb, to', rfl, _⟩ := t1
      obtain ⟨q, q0, q1⟩ := row3 row1
      have HYES : Hid (isOp key op l[j] = true → hasOp l key op = true) := fun h => hasOp_yes hjl h
      have HNO : Hid (isOp key op l[j] = false → ∀ k (h : k < l.length), k < j + 1 → isOp key op l[k] = false) := fun h k hk hk2 => by
        by_cases e : k = j
        · subst e; exact h
        · exact HN.out k hk (by omega)
      clear row1 HN
      by_cases hk : ((l[j]).1.toList == key.toList) = true
      · by_cases ho : ((l[j]).2.1 == op) = true
        · have HA := hmk (HYES.out (by unfold isOp; rw [hk, ho]; rfl))
          clear HYES HNO
          generalize l[j] = t at *
          go_wp2_with fail
          go_ret
          exact ⟨congrArg (fun r => Ending.returned (.bool r)) HA.out.symm, rfl⟩
        · have ho' : ((l[j]).2.1 == op) = false := by simpa using ho
          have HY := hmk (HNO.out (by unfold isOp; rw [ho', Bool.and_false]))
          clear HYES HNO ho
          generalize l[j] = t at *
          go_wp2_with fail
          go_roundw
          case rel => exact ⟨j + 1, by omega, by go_num, (by first | trivial | rfl), HY.out⟩
          case measure => simp [RowKit.intOf]; omega
      · have hk' : ((l[j]).1.toList == key.toList) = false := by simpa using hk
        have HY := hmk (HNO.out (by unfold isOp; rw [hk', Bool.false_and]))
        clear HYES HNO hk
        generalize l[j] = t at *
        go_wp2_with fail
        go_roundw
        case rel => exact ⟨j + 1, by omega, by go_num, (by first | trivial | rfl), HY.out⟩
        case measure => simp [RowKit.intOf]; omega
    · obtain rfl : j = l.length := by omega
      have y1 : ¬ (l.length : Int) < l.length := by omega
      have HA := hmk (hasOp_no fun k hk => HN.out k hk hk)
      go_wp2_with fail
      (try simp only [Exit.inBlock, Exit.then])
      go_ret
      exact ⟨congrArg (fun r => Ending.returned (.bool r)) HA.out.symm, rfl⟩
end Go.Proofs.YtagjbphadakifaaDoor
