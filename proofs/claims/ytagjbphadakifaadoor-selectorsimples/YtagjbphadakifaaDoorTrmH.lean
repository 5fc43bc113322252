import Derived.Test.YtagjbphadakifaaDoorTrmG
/- among. -/
set_option linter.unusedSimpArgs false
set_option linter.unusedVariables false
namespace Go.Proofs.YtagjbphadakifaaDoor
open Go.RowKit Go.Lib
def amongB (l : List ByteArray) (x : ByteArray) : Bool := l.any (fun s => s.toList == x.toList)
theorem amongB_no {l : List ByteArray} {x : ByteArray} (h : ∀ k (hk : k < l.length), ((l[k]).toList == x.toList) = false) : amongB l x = false := by
  unfold amongB
  rw [List.any_eq_false]
  intro s hs
  obtain ⟨k, hk, rfl⟩ := List.mem_iff_getElem.1 hs
  simp only [h k hk]; simp
theorem amongB_yes {l : List ByteArray} {x : ByteArray} {k : Nat} (hk : k < l.length) (h : ((l[k]).toList == x.toList) = true) : amongB l x = true := by
  unfold amongB
  exact List.any_eq_true.2 ⟨_, List.getElem_mem hk, h⟩
theorem amongB_iff {l : List ByteArray} {x : ByteArray} : amongB l x = true ↔ x ∈ l := by
  unfold amongB
  rw [List.any_eq_true]
  exact ⟨fun ⟨s, h1, h2⟩ => by rw [beq_iff_eq] at h2; exact bytes_ext9 h2 ▸ h1, fun h => ⟨x, h, by rw [beq_iff_eq]⟩⟩
set_option maxHeartbeats 8000000 in
set_option maxRecDepth 100000 in
theorem among_any (l : List ByteArray) (x : ByteArray) (S : Nat → Prop) (a : Option Addr) (c b o : Nat) (w : World) (hh : Headed a l.length c b o) (hl : liesS w S l b o) :
    Calls Tryd.prog 48 #[.slice a l.length c, .string x] w (fun e w' => e = .returned (.bool (amongB l x)) ∧ w' = w) := by
  have HH := hmk hh
  have HL := hmk hl
  have hm : l.length ≤ 9223372036854775807 := Nat.le_trans hh.le hh.max
  clear hh hl
  go_enter Tryd.func48, Tryd.ntmps48
  go_wp2_with fail
  go_loopw [5] (fun e5 wr => ∃ j : Nat, j ≤ l.length ∧ e5 = .int .i64 (j : Int) ∧ wr = w ∧ Hid (∀ k (h : k < l.length), k < j → ((l[k]).toList == x.toList) = false)) (fun e5 _ => l.length - (RowKit.intOf e5).toNat)
  case atStart => exact ⟨0, by omega, rfl, rfl, fun k _ h => by omega⟩
  case round =>
    obtain ⟨j, hj, rfl, rfl, HN⟩ := hrel
    by_cases hjl : j < l.length
    · have y1 : (j : Int) < l.length := by omega
      obtain rfl : a = some ⟨b, o, none⟩ := HH.out.at_.resolve_left (by omega)
      obtain ⟨s1, _, q1⟩ := HL.out j hjl
      by_cases hx : ((l[j]).toList == x.toList) = true
      · have hA := hmk (amongB_yes hjl hx)
        go_wp2_with fail
        go_ret
        exact ⟨congrArg (fun r => Ending.returned (.bool r)) hA.out.symm, rfl⟩
      · have hx' : ((l[j]).toList == x.toList) = false := by simpa using hx
        have HN1 : Hid (∀ k (h : k < l.length), k < j + 1 → ((l[k]).toList == x.toList) = false) := fun k hk h => by
          by_cases e : k = j
          · subst e; exact hx'
          · exact HN.out k hk (by omega)
        clear hx
        go_wp2_with fail
        go_roundw
        case rel => exact ⟨j + 1, by omega, by go_num, (by first | trivial | rfl), HN1⟩
        case measure => simp [RowKit.intOf]; omega
    · obtain rfl : j = l.length := by omega
      have y1 : ¬ (l.length : Int) < l.length := by omega
      have hA := hmk (amongB_no fun k hk => HN.out k hk hk)
      go_wp2_with fail
      (try simp only [Exit.inBlock, Exit.then])
      go_ret
      exact ⟨congrArg (fun r => Ending.returned (.bool r)) hA.out.symm, rfl⟩
end Go.Proofs.YtagjbphadakifaaDoor
