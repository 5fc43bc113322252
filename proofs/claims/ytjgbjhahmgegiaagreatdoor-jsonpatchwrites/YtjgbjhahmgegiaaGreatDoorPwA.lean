import Derived.Test.YtjgbjhahmgegiaaGreatDoorG39
/- rows of steps that were handed in: how much they are (freeholdref00.Steps). -/
set_option linter.unusedSimpArgs false
set_option linter.unusedVariables false
set_option maxRecDepth 100000
namespace Go.Proofs.YtjgbjhahmgegiaaGreatDoor
open Go.RowKit Go.Lib
/-- no string of a step is longer than a string may be -/
def SzT (l : List Stp) : Prop := ∀ x ∈ l, x.1.size ≤ maxLen ∧ x.2.1.size ≤ maxLen ∧ x.2.2.1.size ≤ maxLen
def stW (x : Stp) : Nat := x.2.1.size + x.2.2.1.size + x.1.size + x.2.2.2.wt
def wtT : List Stp → Nat
  | [] => 0
  | x :: t => stW x + wtT t
theorem wtT_app : ∀ a b : List Stp, wtT (a ++ b) = wtT a + wtT b
  | [], b => by simp [wtT]
  | x :: t, b => by have := wtT_app t b; simp only [wtT, List.cons_append]; omega
theorem take_succ_wtT {l : List Stp} {j : Nat} (h : j < l.length) : wtT (l.take (j + 1)) = wtT (l.take j) + stW (l[j]) := by
  rw [List.take_succ_eq_append_getElem h, wtT_app]; simp [wtT]
theorem wtT_mem : ∀ {l : List Stp} {x : Stp}, x ∈ l → stW x ≤ wtT l
  | [], e, h => by cases h
  | y :: t, e, h => by
    rcases List.mem_cons.1 h with rfl | h
    · simp only [wtT]; omega
    · have := wtT_mem h; simp only [wtT]; omega
theorem wtT_len : ∀ l : List Stp, l.length ≤ wtT l
  | [] => by simp
  | x :: t => by
    have := wtT_len t
    have := x.2.2.2.wt_pos
    simp only [wtT, stW, List.length_cons]; omega
set_option maxHeartbeats 4000000 in
theorem bsteps_any (l : List Stp) (S : Nat → Prop) (al : Option Addr) (cl bl ol : Nat) (w : World) (hd : Headed al l.length cl bl ol) (hl : liesT w S l bl ol) (hS : ∀ b, S b → b < w.heap.size) (hz : SzT l) :
    Calls Tryz.prog 12 #[.slice al l.length cl] w (BeyN (wtT l) w) := by
  have HL := hmk hl
  have HZ := hmk hz
  have hll : l.length ≤ 9223372036854775807 := Nat.le_trans hd.le hd.max
  have hn := alloc_last w (.cells #[.int .i64 0] 42)
  have hC : Cnt w.heap.size 0 (w.alloc (.cells #[.int .i64 0] 42)) := ⟨by rw [cell_of_block hn]; rfl, frozen_of_block hn 0⟩
  have g0 : w.grownBy (w.alloc (.cells #[.int .i64 0] 42)) (some w.heap.size) := World.grownBy_alloc _ _ _
  have z0 := alloc_size w (.cells #[.int .i64 0] 42)
  clear hl hz hn
  obtain ⟨B, hB⟩ : ∃ B, w.heap.size = B := ⟨_, rfl⟩
  have hSB : ∀ b, S b → b ≠ B ∧ b < w.heap.size := fun b hb => ⟨by have := hS b hb; omega, hS b hb⟩
  have BB : ∀ wr : World, w.grownBy wr (some B) → Below w.heap.size w wr := fun wr g => (Below.refl w.heap.size w).grown g (Nat.le_refl _) (fun k e => by have := Option.some.inj e; omega)
  go_enter Tryz.func12, Tryz.ntmps12
  go_wp2_with fail
  rw [hB] at hC g0
  generalize (w.alloc (.cells #[.int .i64 0] 42)) = w0 at *
  go_loopw [4] (fun e wr => ∃ j : Nat, j ≤ l.length ∧ e = .int .i64 (j : Int) ∧ wtT (l.take j) ≤ 2147483647 ∧ Cnt B (wtT (l.take j)) wr ∧ w.grownBy wr (some B)) (fun e _ => l.length - (RowKit.intOf e).toNat)
  case atStart => exact ⟨0, by omega, rfl, by simp [wtT], by simpa [wtT] using hC, g0⟩
  case round =>
    clear hC g0
    obtain ⟨j, hj, rfl, hnj, hcj, gj⟩ := hrel
    by_cases hjl : j < l.length
    · have y1 : (j : Int) < l.length := by omega
      have HK : Hid (∀ W : World, w.grownBy W (some B) → ∀ b, S b → W.heap[b]? = w.heap[b]?) := fun W g b hb => g.block b (hSB b hb).2 (fun e => (hSB b hb).1 (Option.some.inj e))
      obtain ⟨hSb, csj, hrow, hlj⟩ := HL.out j hjl
      obtain ⟨z1, z2, z3⟩ := HZ.out _ (List.getElem_mem hjl)
      obtain rfl : al = some ⟨bl, ol, none⟩ := hd.at_.resolve_left (by omega)
      have HT : Hid (wtT (l.take (j + 1)) = wtT (l.take j) + stW (l[j])) := take_succ_wtT hjl
      obtain ⟨x, hx⟩ : ∃ x, l[j] = x := ⟨_, rfl⟩
      rw [hx] at hrow hlj z1 z2 z3 HT
      obtain ⟨op, pa, fr, v⟩ := x
      dsimp only [stW] at hrow hlj z1 z2 z3 HT
      obtain ⟨ek, eb, ei, es, eal, enl, ecl, eam, enm, ecm, rfl⟩ := V.ten hlj
      have HRW : Hid (∀ W : World, w.grownBy W (some B) → rowAt W bl (ol + j * 9) [.string op, .string pa, .string fr, .int .i64 ek, .bool eb, .int .i64 ei, .string es, .slice eal enl ecl, .slice eam enm ecm]) := fun W g => hrow.keep (HK.out W g _ hSb)
      have HLJ : Hid (∀ W : World, w.grownBy W (some B) → v.lies false W S [.int .i64 ek, .bool eb, .int .i64 ei, .string es, .slice eal enl ecl, .slice eam enm ecm]) := fun W g => V.lies_keep (fun h => h) (HK.out W g) (fun _ h => h) _ hlj
      obtain ⟨n, hnn⟩ : ∃ n, wtT (l.take j) = n := ⟨_, rfl⟩
      rw [hnn] at hnj hcj HT
      clear hrow hlj hx hnn
      obtain ⟨r0, r1, r2, r3, r4, r5, r6, r7, r8⟩ := row9 (HRW.out wr gj)
      go_wp2_with fail
      refine (many_any B n pa.size wr hcj hnj z2).mono ?_
      rintro e w3 ⟨r, rfl, g3, h3⟩
      have G3 := grown_trans gj g3
      clear r0 r1 r2 r3 r4 r5 r6 r7 r8
      cases r
      rotate_left
      · go_wp2_with fail
        go_ret
        exact ⟨true, rfl, fun h => (by cases h), BB _ G3⟩
      obtain ⟨hn3, hc3⟩ := h3 rfl
      clear h3
      obtain ⟨r0, r1, r2, r3, r4, r5, r6, r7, r8⟩ := row9 (HRW.out w3 G3)
      go_wp2_with fail
      refine (many_any B _ fr.size w3 hc3 hn3 z3).mono ?_
      rintro e w4 ⟨r, rfl, g4, h4⟩
      have G4 := grown_trans G3 g4
      clear r0 r1 r2 r3 r4 r5 r6 r7 r8
      cases r
      rotate_left
      · go_wp2_with fail
        go_ret
        exact ⟨true, rfl, fun h => (by cases h), BB _ G4⟩
      obtain ⟨hn4, hc4⟩ := h4 rfl
      clear h4
      obtain ⟨r0, r1, r2, r3, r4, r5, r6, r7, r8⟩ := row9 (HRW.out w4 G4)
      go_wp2_with fail
      refine (many_any B _ op.size w4 hc4 hn4 z1).mono ?_
      rintro e w5 ⟨r, rfl, g5, h5⟩
      have G5 := grown_trans G4 g5
      clear r0 r1 r2 r3 r4 r5 r6 r7 r8
      cases r
      rotate_left
      · go_wp2_with fail
        go_ret
        exact ⟨true, rfl, fun h => (by cases h), BB _ G5⟩
      obtain ⟨hn5, hc5⟩ := h5 rfl
      clear h5
      obtain ⟨r0, r1, r2, r3, r4, r5, r6, r7, r8⟩ := row9 (HRW.out w5 G5)
      have ih := cval_any v B _ 65520 S _ w5 (HLJ.out w5 G5) (fun b hb => ⟨(hSB b hb).1, by have := (hSB b hb).2; have := G5.size; omega⟩) hc5 hn5 (by omega)
      have e5 : ((65520 : Nat) : Int) = 65520 := rfl
      rw [e5] at ih
      clear e5
      go_wp2_with fail
      refine ih.mono ?_
      rintro e w6 ⟨r, rfl, g6, h6⟩
      have G6 := grown_trans G5 g6
      cases r
      rotate_left
      · go_wp2_with fail
        go_ret
        exact ⟨true, rfl, fun h => (by cases h), BB _ G6⟩
      obtain ⟨hn6, hc6⟩ := h6 rfl
      clear h6
      go_wp2_with fail
      go_roundw
      case rel => exact ⟨j + 1, by omega, by go_num, by rw [HT.out]; omega, by rw [HT.out]; simpa only [Nat.add_assoc] using hc6, G6⟩
      case measure => simp [RowKit.intOf]; omega
    · obtain rfl : j = l.length := by omega
      rw [List.take_length] at hnj
      have y1 : ¬ (l.length : Int) < l.length := by omega
      go_wp2_with fail
      go_ret
      exact ⟨false, rfl, fun _ => hnj, BB _ gj⟩
end Go.Proofs.YtjgbjhahmgegiaaGreatDoor
