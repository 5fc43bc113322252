import Derived.Test.YtjgbjhahmgegiaaGreatDoorPwB
/- the law's twinSteps. -/
set_option linter.unusedSimpArgs false
set_option linter.unusedVariables false
set_option maxRecDepth 100000
namespace Go.Proofs.YtjgbjhahmgegiaaGreatDoor
open Go.RowKit Go.Lib
def TtPost (l : List Stp) (S : Nat → Prop) (w : World) (e : Ending) (w' : World) : Prop := ∃ a c b o, e = .returned (.slice a l.length c) ∧ Headed a l.length c b o ∧ liesT w' (Tw S w w') l b o ∧ Below w.heap.size w w'
set_option maxHeartbeats 8000000 in
theorem twsteps_any (l : List Stp) (S : Nat → Prop) (al : Option Addr) (cl bl ol : Nat) (w : World) (hd : Headed al l.length cl bl ol) (hl : liesT w S l bl ol) (hS : ∀ b, S b → b < w.heap.size) (hwt : wtT l ≤ 2147483647) :
    Calls Tryz.prog 13 #[.slice al l.length cl] w (TtPost l S w) := by
  have HL := hmk hl
  have HW : Hid (∀ x ∈ l, x.2.2.2.wt ≤ 2147483648) := fun x hx => by have := wtT_mem hx; simp only [stW] at this; omega
  have hlm := wtT_len l
  clear hl
  obtain ⟨i0, hi0, hz0, hz1, hz2⟩ := info_parts infoT
  have hI : Hid (Tryz.prog.info? 51 = some i0 ∧ i0.zero = some (.agg #[.string ⟨#[]⟩, .string ⟨#[]⟩, .string ⟨#[]⟩, .int .i64 0, .bool false, .int .i64 0, .string ⟨#[]⟩, .slice none 0 0, .slice none 0 0]) ∧ i0.size = 9 ∧ i0.bytes = 136) := ⟨hi0, hz0, hz1, hz2⟩
  clear hi0 hz0 hz1 hz2
  go_enter Tryz.func13, Tryz.ntmps13
  go_wp2_with fail
  go_loopw [3, 4] (fun e3 e4 wr => ∃ (j : Nat) (SL : Nat → Prop) (sl : Value), j ≤ l.length ∧ e3 = sl ∧ e4 = .int .i64 (j : Int) ∧ OwnT wr 0 SL sl (l.take j) ∧ Hid (∀ r, sl.ownBlock = some r → w.heap.size ≤ r) ∧ Hid (∀ b, SL b → S b ∨ w.heap.size ≤ b) ∧ Below w.heap.size w wr) (fun _ e _ => l.length - (RowKit.intOf e).toNat)
  case atStart => exact ⟨0, _, _, by omega, rfl, rfl, by simpa using OwnR.nil _ _, fun r h => by simp [Value.ownBlock] at h, fun b (h : False) => h.elim, Below.refl _ _⟩
  case round =>
    obtain ⟨j, SL, sl0, hj, rfl, rfl, oj, HO, HSL, bj⟩ := hrel
    have zj := bj.size
    by_cases hjl : j < l.length
    · have y1 : (j : Int) < l.length := by omega
      have hkw : ∀ b, S b → wr.heap[b]? = w.heap[b]? := fun b hb => bj.block b (hS b hb)
      obtain ⟨hSb, csj, hrow, hlj⟩ := HL.out j hjl
      obtain rfl : al = some ⟨bl, ol, none⟩ := hd.at_.resolve_left (by omega)
      have hwx := HW.out _ (List.getElem_mem hjl)
      have HT : Hid (l.take (j + 1) = l.take j ++ [l[j]]) := by show _ = _; rw [List.take_succ_eq_append_getElem hjl]
      obtain ⟨x, hx⟩ : ∃ x, l[j] = x := ⟨_, rfl⟩
      rw [hx] at hrow hlj hwx HT
      obtain ⟨op, pa, fr, v⟩ := x
      dsimp only at hrow hlj hwx
      obtain ⟨ek, eb, ei, es, eal, enl, ecl, eam, enm, ecm, rfl⟩ := V.ten hlj
      obtain ⟨q0, q1, q2, q3, q4, q5, q6, q7, q8⟩ := row9 (hrow.keep (hkw _ hSb))
      have hza := alloc_size wr (.cells #[.string op, .string pa, .string fr, .int .i64 ek, .bool eb, .int .i64 ei, .string es, .slice eal enl ecl, .slice eam enm ecm] 51)
      have ba : Below wr.heap.size wr (wr.alloc (.cells #[.string op, .string pa, .string fr, .int .i64 ek, .bool eb, .int .i64 ei, .string es, .slice eal enl ecl, .slice eam enm ecm] 51)) := (Below.refl _ _).alloc (Nat.le_refl _) _
      have NA := heap_alloc_new wr (.cells #[.string op, .string pa, .string fr, .int .i64 ek, .bool eb, .int .i64 ei, .string es, .slice eal enl ecl, .slice eam enm ecm] 51)
      have BA := bj.trans (ba.mono (by omega))
      have CT := hmk (twv_any v 0 S _ (wr.alloc (.cells #[.string op, .string pa, .string fr, .int .i64 ek, .bool eb, .int .i64 ei, .string es, .slice eal enl ecl, .slice eam enm ecm] 51)) (by omega) (by omega) (V.lies_keep (fun h => h) (fun y hy => BA.block y (hS y hy)) (fun _ h => h) _ hlj) (fun y hy => by have := hS y hy; omega) hwx)
      obtain ⟨p0, p1, p2, p3, p4, p5, p6, p7, p8⟩ := row9 (hrow.keep (BA.block _ (hS _ hSb)))
      clear hlj hrow hx hkw
      go_upto_region 6 with fail
      clear q0 q1 q2 q3 q4 q5 q6 q7 q8
      generalize (wr.alloc (.cells #[.string op, .string pa, .string fr, .int .i64 ek, .bool eb, .int .i64 ei, .string es, .slice eal enl ecl, .slice eam enm ecm] 51)) = wa at *
      go_wp2_with fail
      refine CT.out.mono ?_
      rintro e w3 ⟨csu, rfl, hlu, b3⟩
      obtain ⟨uk, ub, ui, us, ual, unl, ucl, uam, unm, ucm, rfl⟩ := V.ten hlu
      have z3 := b3.size
      have N3 := (b3.block wr.heap.size (by omega)).trans NA
      have B3 := BA.trans (b3.mono (by omega))
      have o3 := oj.below keepT (ba.trans (b3.mono (by omega)))
      have k0 : w3.cell? ⟨wr.heap.size, 0, none⟩ = some (.string op) := by rw [cell_of_block N3]; rfl
      have k1 : w3.cell? ⟨wr.heap.size, 1, none⟩ = some (.string pa) := by rw [cell_of_block N3]; rfl
      have k2 : w3.cell? ⟨wr.heap.size, 2, none⟩ = some (.string fr) := by rw [cell_of_block N3]; rfl
      have k3 : w3.cell? ⟨wr.heap.size, 3, none⟩ = some (.int .i64 ek) := by rw [cell_of_block N3]; rfl
      have k4 : w3.cell? ⟨wr.heap.size, 4, none⟩ = some (.bool eb) := by rw [cell_of_block N3]; rfl
      have k5 : w3.cell? ⟨wr.heap.size, 5, none⟩ = some (.int .i64 ei) := by rw [cell_of_block N3]; rfl
      have k6 : w3.cell? ⟨wr.heap.size, 6, none⟩ = some (.string es) := by rw [cell_of_block N3]; rfl
      have k7 : w3.cell? ⟨wr.heap.size, 7, none⟩ = some (.slice eal enl ecl) := by rw [cell_of_block N3]; rfl
      have k8 : w3.cell? ⟨wr.heap.size, 8, none⟩ = some (.slice eam enm ecm) := by rw [cell_of_block N3]; rfl
      have kf : ∀ i, w3.frozen? ⟨wr.heap.size, i, none⟩ = false := frozen_of_block N3
      have N4 := set6_box N3 (.int .i64 uk) (.bool ub) (.int .i64 ui) (.string us) (.slice ual unl ucl) (.slice uam unm ucm)
      have B4 := set6_below B3 (show w.heap.size ≤ wr.heap.size by omega) (.int .i64 uk) (.bool ub) (.int .i64 ui) (.string us) (.slice ual unl ucl) (.slice uam unm ucm)
      have z4 := (set6_below (g := wr.heap.size) (Below.refl 0 w3) (Nat.zero_le _) (.int .i64 uk) (.bool ub) (.int .i64 ui) (.string us) (.slice ual unl ucl) (.slice uam unm ucm)).size
      have HLY : Hid (v.lies false (set6b w3 wr.heap.size (.int .i64 uk) (.bool ub) (.int .i64 ui) (.string us) (.slice ual unl ucl) (.slice uam unm ucm)) (Tw S wa w3) [.int .i64 uk, .bool ub, .int .i64 ui, .string us, .slice ual unl ucl, .slice uam unm ucm]) := V.lies_keep (fun h => h) (fun y hy => set6_other _ _ _ _ _ _ _ _ y (by rcases hy with h | h; (have := hS y h; omega); have := h.1; omega)) (fun _ h => h) _ hlu
      have hown : ∀ r, u3.ownBlock = some r → w.heap.size ≤ r ∧ r < wr.heap.size := fun r hr => ⟨HO.out r hr, (oj.lt hr).2⟩
      have o4 : OwnT (set6b w3 wr.heap.size (.int .i64 uk) (.bool ub) (.int .i64 ui) (.string us) (.slice ual unl ucl) (.slice uam unm ucm)) 0 SL u3 (l.take j) := o3.keep keepT (row := some wr.heap.size) ⟨(set6_below (Below.refl 0 w3) (Nat.zero_le wr.heap.size) (.int .i64 uk) (.bool ub) (.int .i64 ui) (.string us) (.slice ual unl ucl) (.slice uam unm ucm)).os, (set6_below (Below.refl 0 w3) (Nat.zero_le wr.heap.size) (.int .i64 uk) (.bool ub) (.int .i64 ui) (.string us) (.slice ual unl ucl) (.slice uam unm ucm)).tape, (set6_below (Below.refl 0 w3) (Nat.zero_le wr.heap.size) (.int .i64 uk) (.bool ub) (.int .i64 ui) (.string us) (.slice ual unl ucl) (.slice uam unm ucm)).output, z4, fun y hy hn => set6_other _ _ _ _ _ _ _ _ y (fun e => hn (by rw [e]))⟩ (fun r e => by
        cases e
        exact ⟨fun h => by have := (oj.off _ h).2.1; omega, fun h => by have := (hown _ h).2; omega⟩)
      clear hlu CT p0 p1 p2 p3 p4 p5 p6 p7 p8 b3 NA o3 oj
      go_upto_region 7 with fail
      dsimp only [set6b] at N4 B4 z4 HLY o4
      generalize ((((((w3.setCell ⟨wr.heap.size, 3, none⟩ (.int .i64 uk)).setCell ⟨wr.heap.size, 4, none⟩ (.bool ub)).setCell ⟨wr.heap.size, 5, none⟩ (.int .i64 ui)).setCell ⟨wr.heap.size, 6, none⟩ (.string us)).setCell ⟨wr.heap.size, 7, none⟩ (.slice ual unl ucl)).setCell ⟨wr.heap.size, 8, none⟩ (.slice uam unm ucm)) = w4 at *
      clear k0 k1 k2 k3 k4 k5 k6 k7 k8 kf N3 B3
      have r0 : w4.cell? ⟨wr.heap.size, 0, none⟩ = some (.string op) := by rw [cell_of_block N4]; rfl
      have r1 : w4.cell? ⟨wr.heap.size, 1, none⟩ = some (.string pa) := by rw [cell_of_block N4]; rfl
      have r2 : w4.cell? ⟨wr.heap.size, 2, none⟩ = some (.string fr) := by rw [cell_of_block N4]; rfl
      have r3 : w4.cell? ⟨wr.heap.size, 3, none⟩ = some (.int .i64 uk) := by rw [cell_of_block N4]; rfl
      have r4 : w4.cell? ⟨wr.heap.size, 4, none⟩ = some (.bool ub) := by rw [cell_of_block N4]; rfl
      have r5 : w4.cell? ⟨wr.heap.size, 5, none⟩ = some (.int .i64 ui) := by rw [cell_of_block N4]; rfl
      have r6 : w4.cell? ⟨wr.heap.size, 6, none⟩ = some (.string us) := by rw [cell_of_block N4]; rfl
      have r7 : w4.cell? ⟨wr.heap.size, 7, none⟩ = some (.slice ual unl ucl) := by rw [cell_of_block N4]; rfl
      have r8 : w4.cell? ⟨wr.heap.size, 8, none⟩ = some (.slice uam unm ucm) := by rw [cell_of_block N4]; rfl
      clear N4
      have bc : Below w4.heap.size w4 (w4.alloc (.cells #[.string op, .string pa, .string fr, .int .i64 uk, .bool ub, .int .i64 ui, .string us, .slice ual unl ucl, .slice uam unm ucm] 51)) := (Below.refl _ _).alloc (Nat.le_refl _) _
      have zc := alloc_size w4 (.cells #[.string op, .string pa, .string fr, .int .i64 uk, .bool ub, .int .i64 ui, .string us, .slice ual unl ucl, .slice uam unm ucm] 51)
      have hll : (l.take j).length = j := by simp; omega
      have HX : Hid (∀ b, Tw S wa w3 b → 0 ≤ b ∧ b < (w4.alloc (.cells #[.string op, .string pa, .string fr, .int .i64 uk, .bool ub, .int .i64 ui, .string us, .slice ual unl ucl, .slice uam unm ucm] 51)).heap.size ∧ some b ≠ u3.ownBlock) := fun b hb => by
        rcases hb with h | h
        · have := hS b h
          have := B4.size
          exact ⟨Nat.zero_le _, by omega, fun e => by have := (hown b e.symm).1; omega⟩
        · exact ⟨Nat.zero_le _, by have := h.2; omega, fun e => by have := (hown b e.symm).2; have := h.1; omega⟩
      have HE : Hid (ET (op, pa, fr, v) (w4.alloc (.cells #[.string op, .string pa, .string fr, .int .i64 uk, .bool ub, .int .i64 ui, .string us, .slice ual unl ucl, .slice uam unm ucm] 51)) (Tw S wa w3) [.string op, .string pa, .string fr, .int .i64 uk, .bool ub, .int .i64 ui, .string us, .slice ual unl ucl, .slice uam unm ucm]) := ⟨_, rfl, V.lies_keep (fun h => h) (fun y hy => bc.block y (by rcases hy with h | h; (have := hS y h; have := B4.size; omega); have := h.2; omega)) (fun _ h => h) _ HLY.out⟩
      have HSN : Hid (∀ b, SL b ∨ Tw S wa w3 b → S b ∨ w.heap.size ≤ b) := fun b hb => by
        rcases hb with hb | hb | hb
        · exact HSL.out b hb
        · exact .inl hb
        · exact .inr (by have := hb.1; omega)
      go_wp2_with (at_builtin; go_loud (refine wpl_push keepT _ rfl (.tmp 23) (.tmp 25) 28 rfl 0 i0 _ 136 Tryz.underlying28 hI.out.1 hI.out.2.1 hI.out.2.2.1 hI.out.2.2.2 rfl (by decide) (by decide) u3 (op, pa, fr, v) rfl (o4.alloc keepT _) w4.heap.size 1 (0, 0) rfl (heap_alloc_new w4 _) rfl oneT HE.out HX.out (by rw [hll]; omega) (Nat.zero_le _) ?_))
      intro g cap w5 o5 g5 e5
      (try rw [hll] at o5)
      (try rw [hll])
      rw [← HT.out] at o5
      have B5 : Below w.heap.size w w5 := (B4.trans (bc.mono B4.size)).grown g5 (Nat.le_trans B4.size bc.size) (fun r e => (hown r e).1)
      have HG : Hid (w.heap.size ≤ g) := by
        show _ ≤ _
        rcases e5 with e | e
        · exact (hown g e).1
        · have := B4.size
          omega
      clear e5 g5 HX HE o4 bc r0 r1 r2 r3 r4 r5 r6 r7 r8
      go_wp2_with fail
      go_roundw
      case rel => exact ⟨j + 1, _, _, by omega, rfl, by go_num, o5, fun r e => by (simp [Value.ownBlock] at e; have := HG.out; omega), HSN.out, B5⟩
      case measure => simp [RowKit.intOf]; omega
    · obtain rfl : j = l.length := by omega
      have y1 : ¬ (l.length : Int) < l.length := by omega
      rw [List.take_length] at oj
      obtain ⟨ta, tc, tb, to_, rfl, hdt, hlt⟩ := own_listT (T := Tw S w wr) oj (fun b hb => (HSL.out b hb).imp id (fun h => ⟨h, (oj.off b hb).2.1⟩)) (fun g hg => .inr ⟨HO.out g hg, (oj.lt hg).2⟩)
      have HLT := hmk hlt
      clear oj hlt
      go_wp2_with fail
      go_ret
      exact ⟨ta, tc, tb, to_, rfl, hdt, HLT.out, bj⟩
end Go.Proofs.YtjgbjhahmgegiaaGreatDoor
