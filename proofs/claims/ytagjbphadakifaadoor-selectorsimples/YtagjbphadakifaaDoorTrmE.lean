import Derived.Test.YtagjbphadakifaaDoorTrmD
/- kept. -/
set_option linter.unusedSimpArgs false
set_option linter.unusedVariables false
namespace Go.Proofs.YtagjbphadakifaaDoor
open Go.RowKit Go.Lib
set_option maxHeartbeats 8000000 in
set_option maxRecDepth 100000 in
theorem keptT_any (l : List Trm) (S1 S2 : Nat → Prop) (a2 : Option Addr) (b1 c1 c2 b2 o2 : Nat) (w : World) (hc : l.length + 70 ≤ c1) (hc2 : c1 ≤ maxLen) (l1 : liesT true w S1 l b1 0) (hm1 : ∀ k, k < 70 → w.cell? ⟨b1, (l.length + k) * 3 + 1, none⟩ = some (.int .i64 (-9))) (hb1 : b1 < w.heap.size)
    (h2 : Headed a2 l.length c2 b2 o2) (l2 : liesT false w S2 l b2 o2) (hS1 : ∀ b, S1 b → b < w.heap.size) (hS2 : ∀ b, S2 b → b < w.heap.size) (hwt : wtT l ≤ 2147483647) :
    Calls Tryd.prog 13 #[.slice (some ⟨b1, 0, none⟩) l.length c1, .slice a2 l.length c2] w (BPost true w) := by
  have H2 := hmk h2
  have L1 := hmk l1
  have L2 := hmk l2
  have M1 := hmk hm1
  have hm : l.length ≤ 2147483647 := Nat.le_trans (wtT_len l) hwt
  have hl1 : l.length ≤ c1 := by omega
  have y1 : (l.length : Int) + 70 ≤ (c1 : Int) := by omega
  have y2 : (0 : Int) ≤ (l.length : Int) + 70 := by omega
  have y3 : IntKind.i64.wrap ((l.length : Int) + 70) = (l.length : Int) + 70 := wrap_small _ (by omega) (by omega)
  have y4 : ((l.length : Int) + 70).toNat = l.length + 70 := by omega
  have CS := hmk (same_any l true false S1 S2 (some ⟨b1, 0, none⟩) a2 c1 c2 b1 b2 0 o2 w ⟨hl1, hc2, .inr rfl, fun h => by cases h⟩ h2 l1 l2 hS1 hS2)
  clear h2 l1 l2 hm1
  go_enter Tryd.func13, Tryd.ntmps13
  go_wp2_with (first | (go_at_call 20; refine CS.out.mono ?_; rintro e w1 ⟨rfl, B1⟩))
  go_loopw [6] (fun e6 wr => ∃ k : Nat, k ≤ 70 ∧ e6 = .int .i64 (k : Int) ∧ Below w.heap.size w wr) (fun e6 _ => 70 - (RowKit.intOf e6).toNat)
  case atStart => exact ⟨0, by omega, rfl, B1⟩
  case round =>
    obtain ⟨k, hk, rfl, bk⟩ := hrel
    by_cases hk7 : (k : Int) < 70
    · have q := (bk.cell (p := ⟨b1, (l.length + k) * 3 + 1, none⟩) hb1).trans (M1.out k (by omega))
      have z1 : IntKind.i64.wrap ((l.length : Int) + (k : Int)) = (((l.length + k : Nat)) : Int) := by rw [wrap_small _ (by omega) (by omega)]; omega
      have z2 : (((l.length + k : Nat)) : Int) < (l.length : Int) + 70 := by omega
      go_wp2_with fail
      go_roundw
      case rel => exact ⟨k + 1, by omega, by go_num, bk⟩
      case measure => simp [RowKit.intOf]; omega
    · obtain rfl : k = 70 := by omega
      have y7 : ¬ ((70 : Nat) : Int) < 70 := by omega
      go_wp2_with fail
      clear hk hk7 y7 M1 CS B1
      go_loopw [7] (fun e7 wq => ∃ j : Nat, j ≤ l.length ∧ e7 = .int .i64 (j : Int) ∧ Below w.heap.size w wq) (fun e7 _ => l.length - (RowKit.intOf e7).toNat)
      case atStart => exact ⟨0, by omega, rfl, bk⟩
      case round =>
        clear bk
        obtain ⟨j, hj, rfl, bj⟩ := hrel
        have hzr := bj.size
        by_cases hjl : j < l.length
        · have yj : (j : Int) < l.length := by omega
          obtain ⟨s1, cs1, row1, t1⟩ := L1.out j hjl
          obtain ⟨s2, cs2, row2, t2⟩ := L2.out j hjl
          obtain ⟨ta1, tc1, tb1, to1, rfl, _, _, hd1, ts1, hr⟩ := t1
          obtain ⟨ta2, tc2, tb2, to2, rfl, _, _, hd2, ts2, _⟩ := t2
          obtain ⟨rfl, hcap, hSt, hmk1⟩ := hr rfl
          obtain rfl : a2 = some ⟨b2, o2, none⟩ := H2.out.at_.resolve_left (by omega)
          have h1 := hS1 _ s1
          have h2 := hS2 _ s2
          have h3 := hS1 _ hSt
          obtain ⟨q, q0, q1⟩ := row3 (row1.keep (bj.block _ h1))
          obtain ⟨p, p0, p1⟩ := row3 (row2.keep (bj.block _ h2))
          rw [Nat.zero_add] at q1
          have hvl := wtS_len (l[j]).2.2
          have hwj := wtT_mem (List.getElem_mem hjl)
          have HMK : Hid (∀ W : World, Below w.heap.size w W → ∀ k, k < 70 → W.cell? ⟨tb1, to1 + ((l[j]).2.2.length + k), none⟩ = some (.string ⟨#[114, 111, 111, 109]⟩)) := fun W hW k hk => (hW.cell (p := ⟨tb1, to1 + ((l[j]).2.2.length + k), none⟩) h3).trans (hmk1 k hk)
          have HG : Hid (∀ W : World, Below w.heap.size w W → W.cell? ⟨b2, o2 + j * 3 + 2, none⟩ = some (.slice ta2 (l[j]).2.2.length tc2)) := fun W hW => (hW.cell (p := ⟨b2, o2 + j * 3 + 2, none⟩) h2).trans ((bj.cell (p := ⟨b2, o2 + j * 3 + 2, none⟩) h2).symm.trans p1)
          have hcap2 := hd1.max
          clear q q0 p p0 row1 row2 hd1 hd2 ts1 ts2 hr hmk1
          generalize (l[j]).2.2 = vs at *
          have v1 : (vs.length : Int) + 70 ≤ (tc1 : Int) := by omega
          have v2 : (0 : Int) ≤ (vs.length : Int) + 70 := by omega
          have v3 : IntKind.i64.wrap ((vs.length : Int) + 70) = (vs.length : Int) + 70 := wrap_small _ (by omega) (by omega)
          have v4 : ((vs.length : Int) + 70).toNat = vs.length + 70 := by omega
          have x1 : ∀ x : Sub wr.heap.size wr, _ := sub_cell q1 (by show b1 < _; omega)
          have x2 : ∀ x : Sub wr.heap.size wr, _ := sub_cell p1 (by show b2 < _; omega)
          clear q1 p1
          go_wp2_with fail
          refine wp_region_sub wr.heap.size (by kernel_rfl) (by kernel_rfl) ?_
          repeat (go_big_quiet_step (fail))
          refine wpQuiet_nil ?_
          rintro wq ⟨⟨wq', bq⟩, hq⟩
          have hq' : wq = wq' := hq
          subst hq'
          clear hq x1 x2
          have bq' : Below w.heap.size w wq := bj.trans (bq.mono hzr)
          go_wp2_with fail
          go_loopw [9] (fun e9 wt => ∃ k : Nat, k ≤ 70 ∧ e9 = .int .i64 (k : Int) ∧ Below w.heap.size w wt) (fun e9 _ => 70 - (RowKit.intOf e9).toNat)
          case atStart => exact ⟨0, by omega, rfl, bq'⟩
          case round =>
            clear bj bq bq' hzr
            obtain ⟨k, hk, rfl, bk⟩ := hrel
            by_cases hk7 : (k : Int) < 70
            · have q := HMK.out _ bk k (by omega)
              have p := HG.out _ bk
              have z1 : IntKind.i64.wrap ((vs.length : Int) + (k : Int)) = (((vs.length + k : Nat)) : Int) := by rw [wrap_small _ (by omega) (by omega)]; omega
              have z2 : (((vs.length + k : Nat)) : Int) < (vs.length : Int) + 70 := by omega
              go_wp2_with fail
              go_roundw
              case rel => exact ⟨k + 1, by omega, by go_num, bk⟩
              case measure => simp [RowKit.intOf]; omega
            · obtain rfl : k = 70 := by omega
              have y7 : ¬ ((70 : Nat) : Int) < 70 := by omega
              go_wp2_with fail
              go_roundw
              case rel => exact ⟨j + 1, by omega, by go_num, bk⟩
              case measure => simp [RowKit.intOf]; omega
        · obtain rfl : j = l.length := by omega
          have yj : ¬ (l.length : Int) < l.length := by omega
          go_wp2_with fail
          (try simp only [Exit.inBlock, Exit.then])
          go_ret
          exact ⟨rfl, bj⟩
end Go.Proofs.YtagjbphadakifaaDoor
