import Derived.Test.YtagjbphadakifaaDoorTrmA
import Derived.Test.YtagjbphadakifaaDoorQSub
import Derived.Test.YtagjbphadakifaaDoorChkA
/- textsSame, same: of the same. -/
set_option linter.unusedSimpArgs false
set_option linter.unusedVariables false
namespace Go.Proofs.YtagjbphadakifaaDoor
open Go.RowKit
set_option maxHeartbeats 8000000 in
set_option maxRecDepth 100000 in
theorem textsame_any (l : List ByteArray) (S1 S2 : Nat → Prop) (a1 a2 : Option Addr) (c1 c2 b1 b2 o1 o2 : Nat) (w : World) (h1 : Headed a1 l.length c1 b1 o1) (h2 : Headed a2 l.length c2 b2 o2) (l1 : liesS w S1 l b1 o1) (l2 : liesS w S2 l b2 o2) (hS1 : ∀ b, S1 b → b < w.heap.size) (hS2 : ∀ b, S2 b → b < w.heap.size) :
    Calls Tryd.prog 43 #[.slice a1 l.length c1, .slice a2 l.length c2] w (BPost true w) := by
  have H1 := hmk h1
  have H2 := hmk h2
  have L1 := hmk l1
  have L2 := hmk l2
  have hm : l.length ≤ 9223372036854775807 := Nat.le_trans h1.le h1.max
  clear h1 h2 l1 l2
  go_enter Tryd.func43, Tryd.ntmps43
  go_wp2_with fail
  go_loopw [5] (fun e5 wr => ∃ j : Nat, j ≤ l.length ∧ e5 = .int .i64 (j : Int) ∧ Below w.heap.size w wr) (fun e5 _ => l.length - (RowKit.intOf e5).toNat)
  case atStart => exact ⟨0, by omega, rfl, Below.refl _ _⟩
  case round =>
    obtain ⟨j, hj, rfl, bj⟩ := hrel
    have hzr := bj.size
    by_cases hjl : j < l.length
    · have y1 : (j : Int) < l.length := by omega
      obtain ⟨s1, _, q1⟩ := L1.out j hjl
      obtain ⟨s2, _, q2⟩ := L2.out j hjl
      obtain rfl : a1 = some ⟨b1, o1, none⟩ := H1.out.at_.resolve_left (by omega)
      obtain rfl : a2 = some ⟨b2, o2, none⟩ := H2.out.at_.resolve_left (by omega)
      have h1 := hS1 _ s1
      have h2 := hS2 _ s2
      have x1 : ∀ x : Sub wr.heap.size wr, _ := sub_cell ((bj.cell (p := ⟨b1, o1 + j, none⟩) h1).trans q1) (by omega)
      have x2 : ∀ x : Sub wr.heap.size wr, _ := sub_cell ((bj.cell (p := ⟨b2, o2 + j, none⟩) h2).trans q2) (by omega)
      generalize l[j] = s at *
      clear q1 q2
      go_wp2_with fail
      refine wp_region_sub wr.heap.size (by kernel_rfl) (by kernel_rfl) ?_
      repeat (go_big_quiet_step (fail))
      refine wpQuiet_nil ?_
      rintro wq ⟨⟨wq', bq⟩, hq⟩
      have hq' : wq = wq' := hq
      subst hq'
      clear hq x1 x2
      go_wp2_with fail
      go_roundw
      case rel => exact ⟨j + 1, by omega, by go_num, bj.trans (bq.mono (by omega))⟩
      case measure => simp [RowKit.intOf]; omega
    · obtain rfl : j = l.length := by omega
      have y1 : ¬ (l.length : Int) < l.length := by omega
      go_wp2_with fail
      (try simp only [Exit.inBlock, Exit.then])
      go_ret
      exact ⟨rfl, bj⟩
set_option maxHeartbeats 8000000 in
set_option maxRecDepth 100000 in
theorem same_any (l : List Trm) (R1 R2 : Bool) (S1 S2 : Nat → Prop) (a1 a2 : Option Addr) (c1 c2 b1 b2 o1 o2 : Nat) (w : World) (h1 : Headed a1 l.length c1 b1 o1) (h2 : Headed a2 l.length c2 b2 o2) (l1 : liesT R1 w S1 l b1 o1) (l2 : liesT R2 w S2 l b2 o2) (hS1 : ∀ b, S1 b → b < w.heap.size) (hS2 : ∀ b, S2 b → b < w.heap.size) :
    Calls Tryd.prog 20 #[.slice a1 l.length c1, .slice a2 l.length c2] w (BPost true w) := by
  have H1 := hmk h1
  have H2 := hmk h2
  have L1 := hmk l1
  have L2 := hmk l2
  have hm : l.length ≤ 9223372036854775807 := Nat.le_trans h1.le h1.max
  clear h1 h2 l1 l2
  go_enter Tryd.func20, Tryd.ntmps20
  go_wp2_with fail
  go_loopw [5] (fun e5 wr => ∃ j : Nat, j ≤ l.length ∧ e5 = .int .i64 (j : Int) ∧ Below w.heap.size w wr) (fun e5 _ => l.length - (RowKit.intOf e5).toNat)
  case atStart => exact ⟨0, by omega, rfl, Below.refl _ _⟩
  case round =>
    obtain ⟨j, hj, rfl, bj⟩ := hrel
    have hzr := bj.size
    by_cases hjl : j < l.length
    · have y1 : (j : Int) < l.length := by omega
      obtain ⟨s1, cs1, row1, t1⟩ := L1.out j hjl
      obtain ⟨s2, cs2, row2, t2⟩ := L2.out j hjl
      obtain ⟨ta1, tc1, tb1, to1, rfl, _, _, hd1, ts1, _⟩ := t1
      obtain ⟨ta2, tc2, tb2, to2, rfl, _, _, hd2, ts2, _⟩ := t2
      obtain rfl : a1 = some ⟨b1, o1, none⟩ := H1.out.at_.resolve_left (by omega)
      obtain rfl : a2 = some ⟨b2, o2, none⟩ := H2.out.at_.resolve_left (by omega)
      have h1 := hS1 _ s1
      have h2 := hS2 _ s2
      obtain ⟨q, q0, q1⟩ := row3 (row1.keep (bj.block _ h1))
      obtain ⟨p, p0, p1⟩ := row3 (row2.keep (bj.block _ h2))
      have CT : Hid (∀ y : Sub wr.heap.size wr, Calls Tryd.prog 43 #[.slice ta1 (l[j]).2.2.length tc1, .slice ta2 (l[j]).2.2.length tc2] y.w fun e w'' => e = .returned (.bool true) ∧ ∃ z : Sub wr.heap.size wr, w'' = z.w) :=
        sub_call fun w' hb => (textsame_any (l[j]).2.2 S1 S2 ta1 ta2 tc1 tc2 tb1 tb2 to1 to2 w' hd1 hd2
          (ts1.keep (fun b hh => (hb.block b (by have := hS1 b hh; omega)).trans (bj.block b (hS1 b hh))) (fun _ h => h))
          (ts2.keep (fun b hh => (hb.block b (by have := hS2 b hh; omega)).trans (bj.block b (hS2 b hh))) (fun _ h => h))
          (fun b hh => by have := hS1 b hh; have := hb.size; omega) (fun b hh => by have := hS2 b hh; have := hb.size; omega)).mono (by rintro e w'' ⟨rfl, h3⟩; exact ⟨rfl, hb.trans (h3.mono hb.size)⟩)
      have x0 : ∀ x : Sub wr.heap.size wr, _ := sub_cell q (by omega)
      have x1 : ∀ x : Sub wr.heap.size wr, _ := sub_cell q0 (by omega)
      have x2 : ∀ x : Sub wr.heap.size wr, _ := sub_cell q1 (by omega)
      have z0 : ∀ x : Sub wr.heap.size wr, _ := sub_cell p (by omega)
      have z1 : ∀ x : Sub wr.heap.size wr, _ := sub_cell p0 (by omega)
      have z2 : ∀ x : Sub wr.heap.size wr, _ := sub_cell p1 (by omega)
      clear q q0 q1 p p0 p1 row1 row2 hd1 hd2 ts1 ts2
      generalize l[j] = s at *
      go_wp2_with fail
      refine wp_region_sub wr.heap.size (by kernel_rfl) (by kernel_rfl) ?_
      repeat (go_big_quiet_step (exact CT.out _))
      refine wpQuiet_nil ?_
      rintro wq ⟨⟨wq', bq⟩, hq⟩
      have hq' : wq = wq' := hq
      subst hq'
      clear hq x0 x1 x2 z0 z1 z2 CT
      go_wp2_with fail
      go_roundw
      case rel => exact ⟨j + 1, by omega, by go_num, bj.trans (bq.mono (by omega))⟩
      case measure => simp [RowKit.intOf]; omega
    · obtain rfl : j = l.length := by omega
      have y1 : ¬ (l.length : Int) < l.length := by omega
      go_wp2_with fail
      (try simp only [Exit.inBlock, Exit.then])
      go_ret
      exact ⟨rfl, bj⟩
end Go.Proofs.YtagjbphadakifaaDoor
