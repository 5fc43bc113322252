/- joined: SdoS SdoA -/
import Derived.Test.YtgnofbigggmilaaGreatDoorRdyB
import Derived.Test.YtgnofbigggmilaaGreatDoorAddA
import Derived.Test.YtgnofbigggmilaaGreatDoorWlkD
/- the functions that Set hands to the walk. -/
set_option linter.unusedSimpArgs false
set_option linter.unusedVariables false
namespace Go.Proofs.YtgnofbigggmilaaGreatDoor
open Go.RowKit Go.Lib
theorem do_fin {S : Nat → Prop} {W w3 : World} {B G : Nat} {x : V} {c0 c1 c2 c3 c4 c5 : Value} (hS : ∀ b, S b → b < W.heap.size) (B3 : W.grownBy w3 (some G)) (hB : W.heap.size + 2 ≤ B) (hz : W.heap.size + 2 ≤ w3.heap.size) (hG : G < W.heap.size) (hx : x.lies false w3 (fun y => S y ∨ (B ≤ y ∧ y < w3.heap.size)) [c0, c1, c2, c3, c4, c5]) :
    x.lies false ((((((w3.setCell ⟨W.heap.size + 1, 0, none⟩ (c0)).setCell ⟨W.heap.size + 1, 1, none⟩ (c1)).setCell ⟨W.heap.size + 1, 2, none⟩ (c2)).setCell ⟨W.heap.size + 1, 3, none⟩ (c3)).setCell ⟨W.heap.size + 1, 4, none⟩ (c4)).setCell ⟨W.heap.size + 1, 5, none⟩ (c5)) (OrNew S W ((((((w3.setCell ⟨W.heap.size + 1, 0, none⟩ (c0)).setCell ⟨W.heap.size + 1, 1, none⟩ (c1)).setCell ⟨W.heap.size + 1, 2, none⟩ (c2)).setCell ⟨W.heap.size + 1, 3, none⟩ (c3)).setCell ⟨W.heap.size + 1, 4, none⟩ (c4)).setCell ⟨W.heap.size + 1, 5, none⟩ (c5))) [c0, c1, c2, c3, c4, c5] ∧ W.grownBy ((((((w3.setCell ⟨W.heap.size + 1, 0, none⟩ (c0)).setCell ⟨W.heap.size + 1, 1, none⟩ (c1)).setCell ⟨W.heap.size + 1, 2, none⟩ (c2)).setCell ⟨W.heap.size + 1, 3, none⟩ (c3)).setCell ⟨W.heap.size + 1, 4, none⟩ (c4)).setCell ⟨W.heap.size + 1, 5, none⟩ (c5)) (some G) ∧ (∀ y, y ≠ W.heap.size + 1 → ((((((w3.setCell ⟨W.heap.size + 1, 0, none⟩ (c0)).setCell ⟨W.heap.size + 1, 1, none⟩ (c1)).setCell ⟨W.heap.size + 1, 2, none⟩ (c2)).setCell ⟨W.heap.size + 1, 3, none⟩ (c3)).setCell ⟨W.heap.size + 1, 4, none⟩ (c4)).setCell ⟨W.heap.size + 1, 5, none⟩ (c5)).heap[y]? = w3.heap[y]?) := by
  have hot : ∀ y, y ≠ W.heap.size + 1 → ((((((w3.setCell ⟨W.heap.size + 1, 0, none⟩ (c0)).setCell ⟨W.heap.size + 1, 1, none⟩ (c1)).setCell ⟨W.heap.size + 1, 2, none⟩ (c2)).setCell ⟨W.heap.size + 1, 3, none⟩ (c3)).setCell ⟨W.heap.size + 1, 4, none⟩ (c4)).setCell ⟨W.heap.size + 1, 5, none⟩ (c5)).heap[y]? = w3.heap[y]? := fun y hy => by
    repeat (rw [set_other hy])
  have g2 : w3.grownBy ((((((w3.setCell ⟨W.heap.size + 1, 0, none⟩ (c0)).setCell ⟨W.heap.size + 1, 1, none⟩ (c1)).setCell ⟨W.heap.size + 1, 2, none⟩ (c2)).setCell ⟨W.heap.size + 1, 3, none⟩ (c3)).setCell ⟨W.heap.size + 1, 4, none⟩ (c4)).setCell ⟨W.heap.size + 1, 5, none⟩ (c5)) (some (W.heap.size + 1)) := grown_set (grown_set (grown_set (grown_set (grown_set (grown_set (World.grownBy.refl w3 _) 0 c0) 1 c1) 2 c2) 3 c3) 4 c4) 5 c5
  have s2 : ((((((w3.setCell ⟨W.heap.size + 1, 0, none⟩ (c0)).setCell ⟨W.heap.size + 1, 1, none⟩ (c1)).setCell ⟨W.heap.size + 1, 2, none⟩ (c2)).setCell ⟨W.heap.size + 1, 3, none⟩ (c3)).setCell ⟨W.heap.size + 1, 4, none⟩ (c4)).setCell ⟨W.heap.size + 1, 5, none⟩ (c5)).heap.size = w3.heap.size := by simp only [size_set1]
  generalize ((((((w3.setCell ⟨W.heap.size + 1, 0, none⟩ (c0)).setCell ⟨W.heap.size + 1, 1, none⟩ (c1)).setCell ⟨W.heap.size + 1, 2, none⟩ (c2)).setCell ⟨W.heap.size + 1, 3, none⟩ (c3)).setCell ⟨W.heap.size + 1, 4, none⟩ (c4)).setCell ⟨W.heap.size + 1, 5, none⟩ (c5)) = wf at *
  refine ⟨V.lies_keep (fun h => h) (fun y hy => ?_) (fun y hy => ?_) _ hx, ⟨g2.os.trans B3.os, g2.tape.trans B3.tape, g2.output.trans B3.output, by have := B3.size; omega, fun q hq hne => (hot q (by omega)).trans (B3.block q hq hne)⟩, hot⟩
  · rcases hy with hy | hy
    · have := hS y hy; exact hot y (by omega)
    · exact hot y (by omega)
  · rcases hy with hy | hy
    · exact .inl hy
    · exact .inr ⟨by omega, by omega⟩
end Go.Proofs.YtgnofbigggmilaaGreatDoor
/- the functions that Add hands to the walk. -/
namespace Go.Proofs.YtgnofbigggmilaaGreatDoor
open Go.RowKit Go.Lib
set_option maxHeartbeats 1600000 in
set_option maxRecDepth 100000 in
theorem adddo (S : Nat → Prop) (G LB : Nat) (w : World) (tg : Tg w) (last : ByteArray) (x : V) (xk : Int) (xb : Bool) (xi : Int) (xs : ByteArray) (xal : Option Addr) (xnl xcl : Nat) (xam : Option Addr) (xnm xcm : Nat) (hS : ∀ b, S b → b < w.heap.size) (hG : G < w.heap.size) (hLB : LB < w.heap.size) (hlast : w.heap[LB]? = some (.cells #[.string last] 9)) (hts : last.size ≤ 281474976710656) (hbox : w.heap[G]? = some (.cells #[.int .i64 xk, .bool xb, .int .i64 xi, .string xs, .slice xal xnl xcl, .slice xam xnm xcm] 25)) (hx : x.lies false w S [.int .i64 xk, .bool xb, .int .i64 xi, .string xs, .slice xal xnl xcl, .slice xam xnm xcm]) : DoC2 41 (.pointer (some ⟨LB, 0, none⟩)) (.pointer (some ⟨G, 0, none⟩)) (fun y => addF y last x) S G (fun _ _ _ => True) w := by
  intro W y cs hb hwx hga hy
  have hGW : W.heap[G]? = _ := (hb.block G hG).trans hbox
  have hLW : W.heap[LB]? = _ := (hb.block LB hLB).trans hlast
  have hzW := hb.size
  have hSW : ∀ y, S y → y < W.heap.size := fun y hy => Nat.lt_of_lt_of_le (hS y hy) hzW
  have HY := hmk hy
  obtain ⟨k, b, i, s, al, nl, cl, am, nm, cm, rfl⟩ := V.ten hy
  clear hy
  have B0 : Below W.heap.size W ((W.alloc (.cells #[.int .i64 k, .bool b, .int .i64 i, .string s, .slice al nl cl, .slice am nm cm] 25)).alloc (.cells #[.int .i64 0, .bool false, .int .i64 0, .string ⟨#[]⟩, .slice none 0 0, .slice none 0 0] 25)) := two_below W _ _
  have hz0 : ((W.alloc (.cells #[.int .i64 k, .bool b, .int .i64 i, .string s, .slice al nl cl, .slice am nm cm] 25)).alloc (.cells #[.int .i64 0, .bool false, .int .i64 0, .string ⟨#[]⟩, .slice none 0 0, .slice none 0 0] 25)).heap.size = W.heap.size + 2 := by rw [alloc_size, alloc_size]
  have h0 := alloc2_keep1 W (.cells #[.int .i64 k, .bool b, .int .i64 i, .string s, .slice al nl cl, .slice am nm cm] 25) (.cells #[.int .i64 0, .bool false, .int .i64 0, .string ⟨#[]⟩, .slice none 0 0, .slice none 0 0] 25)
  have h1 := alloc2_new W (.cells #[.int .i64 k, .bool b, .int .i64 i, .string s, .slice al nl cl, .slice am nm cm] 25) (.cells #[.int .i64 0, .bool false, .int .i64 0, .string ⟨#[]⟩, .slice none 0 0, .slice none 0 0] 25)
  have hG0 := (B0.block G (by omega)).trans hGW
  have hL0 := (B0.block LB (by omega)).trans hLW
  have v0 : ((W.alloc (.cells #[.int .i64 k, .bool b, .int .i64 i, .string s, .slice al nl cl, .slice am nm cm] 25)).alloc (.cells #[.int .i64 0, .bool false, .int .i64 0, .string ⟨#[]⟩, .slice none 0 0, .slice none 0 0] 25)).cell? ⟨W.heap.size, 0, none⟩ = some (.int .i64 k) := by rw [cell_of_block h0]; rfl
  have v1 : ((W.alloc (.cells #[.int .i64 k, .bool b, .int .i64 i, .string s, .slice al nl cl, .slice am nm cm] 25)).alloc (.cells #[.int .i64 0, .bool false, .int .i64 0, .string ⟨#[]⟩, .slice none 0 0, .slice none 0 0] 25)).cell? ⟨W.heap.size, 1, none⟩ = some (.bool b) := by rw [cell_of_block h0]; rfl
  have v2 : ((W.alloc (.cells #[.int .i64 k, .bool b, .int .i64 i, .string s, .slice al nl cl, .slice am nm cm] 25)).alloc (.cells #[.int .i64 0, .bool false, .int .i64 0, .string ⟨#[]⟩, .slice none 0 0, .slice none 0 0] 25)).cell? ⟨W.heap.size, 2, none⟩ = some (.int .i64 i) := by rw [cell_of_block h0]; rfl
  have v3 : ((W.alloc (.cells #[.int .i64 k, .bool b, .int .i64 i, .string s, .slice al nl cl, .slice am nm cm] 25)).alloc (.cells #[.int .i64 0, .bool false, .int .i64 0, .string ⟨#[]⟩, .slice none 0 0, .slice none 0 0] 25)).cell? ⟨W.heap.size, 3, none⟩ = some (.string s) := by rw [cell_of_block h0]; rfl
  have v4 : ((W.alloc (.cells #[.int .i64 k, .bool b, .int .i64 i, .string s, .slice al nl cl, .slice am nm cm] 25)).alloc (.cells #[.int .i64 0, .bool false, .int .i64 0, .string ⟨#[]⟩, .slice none 0 0, .slice none 0 0] 25)).cell? ⟨W.heap.size, 4, none⟩ = some (.slice al nl cl) := by rw [cell_of_block h0]; rfl
  have v5 : ((W.alloc (.cells #[.int .i64 k, .bool b, .int .i64 i, .string s, .slice al nl cl, .slice am nm cm] 25)).alloc (.cells #[.int .i64 0, .bool false, .int .i64 0, .string ⟨#[]⟩, .slice none 0 0, .slice none 0 0] 25)).cell? ⟨W.heap.size, 5, none⟩ = some (.slice am nm cm) := by rw [cell_of_block h0]; rfl
  have x0 : ((W.alloc (.cells #[.int .i64 k, .bool b, .int .i64 i, .string s, .slice al nl cl, .slice am nm cm] 25)).alloc (.cells #[.int .i64 0, .bool false, .int .i64 0, .string ⟨#[]⟩, .slice none 0 0, .slice none 0 0] 25)).cell? ⟨G, 0, none⟩ = some (.int .i64 xk) := by rw [cell_of_block hG0]; rfl
  have x1 : ((W.alloc (.cells #[.int .i64 k, .bool b, .int .i64 i, .string s, .slice al nl cl, .slice am nm cm] 25)).alloc (.cells #[.int .i64 0, .bool false, .int .i64 0, .string ⟨#[]⟩, .slice none 0 0, .slice none 0 0] 25)).cell? ⟨G, 1, none⟩ = some (.bool xb) := by rw [cell_of_block hG0]; rfl
  have x2 : ((W.alloc (.cells #[.int .i64 k, .bool b, .int .i64 i, .string s, .slice al nl cl, .slice am nm cm] 25)).alloc (.cells #[.int .i64 0, .bool false, .int .i64 0, .string ⟨#[]⟩, .slice none 0 0, .slice none 0 0] 25)).cell? ⟨G, 2, none⟩ = some (.int .i64 xi) := by rw [cell_of_block hG0]; rfl
  have x3 : ((W.alloc (.cells #[.int .i64 k, .bool b, .int .i64 i, .string s, .slice al nl cl, .slice am nm cm] 25)).alloc (.cells #[.int .i64 0, .bool false, .int .i64 0, .string ⟨#[]⟩, .slice none 0 0, .slice none 0 0] 25)).cell? ⟨G, 3, none⟩ = some (.string xs) := by rw [cell_of_block hG0]; rfl
  have x4 : ((W.alloc (.cells #[.int .i64 k, .bool b, .int .i64 i, .string s, .slice al nl cl, .slice am nm cm] 25)).alloc (.cells #[.int .i64 0, .bool false, .int .i64 0, .string ⟨#[]⟩, .slice none 0 0, .slice none 0 0] 25)).cell? ⟨G, 4, none⟩ = some (.slice xal xnl xcl) := by rw [cell_of_block hG0]; rfl
  have x5 : ((W.alloc (.cells #[.int .i64 k, .bool b, .int .i64 i, .string s, .slice al nl cl, .slice am nm cm] 25)).alloc (.cells #[.int .i64 0, .bool false, .int .i64 0, .string ⟨#[]⟩, .slice none 0 0, .slice none 0 0] 25)).cell? ⟨G, 5, none⟩ = some (.slice xam xnm xcm) := by rw [cell_of_block hG0]; rfl
  have l0 : ((W.alloc (.cells #[.int .i64 k, .bool b, .int .i64 i, .string s, .slice al nl cl, .slice am nm cm] 25)).alloc (.cells #[.int .i64 0, .bool false, .int .i64 0, .string ⟨#[]⟩, .slice none 0 0, .slice none 0 0] 25)).cell? ⟨LB, 0, none⟩ = some (.string last) := by rw [cell_of_block hL0]; rfl
  have CA := hmk (added_any y last x S _ _ ((W.alloc (.cells #[.int .i64 k, .bool b, .int .i64 i, .string s, .slice al nl cl, .slice am nm cm] 25)).alloc (.cells #[.int .i64 0, .bool false, .int .i64 0, .string ⟨#[]⟩, .slice none 0 0, .slice none 0 0] 25)) (tg.below (hb.trans (B0.mono hzW)) tg.z) (lies_below HY.out hSW B0) (V.lies_keep (fun h => h) (fun y hy => (B0.block y (hSW y hy)).trans (hb.block y (hS y hy))) (fun _ h => h) _ hx) (fun y hy => Nat.lt_of_lt_of_le (hSW y hy) B0.size) hts hwx (allG_srt hga))
  clear hx hga HY
  dsimp only
  generalize addF y last x = AR at *
  obtain ⟨ay, ae⟩ := AR
  go_enter Tryz.func41, Tryz.ntmps41
  go_wp2_with fail
  clear v0 v1 v2 v3 v4 v5 x0 x1 x2 x3 x4 x5 l0
  generalize ((W.alloc (.cells #[.int .i64 k, .bool b, .int .i64 i, .string s, .slice al nl cl, .slice am nm cm] 25)).alloc (.cells #[.int .i64 0, .bool false, .int .i64 0, .string ⟨#[]⟩, .slice none 0 0, .slice none 0 0] 25)) = w0 at *
  refine CA.out.mono ?_
  rintro e w3 ⟨es_, rfl, hl3, b3⟩
  have hz3 := b3.size
  have B3 := B0.trans (b3.mono (by omega))
  obtain ⟨ek, eb, ei, es, eal, enl, ecl, eam, enm, ecm, rfl⟩ := V.ten hl3
  have t1 := (b3.block (W.heap.size + 1) (by omega)).trans h1
  have HN : Hid (ay.lies false w3 (fun y => S y ∨ (w0.heap.size ≤ y ∧ y < w3.heap.size)) [.int .i64 ek, .bool eb, .int .i64 ei, .string es, .slice eal enl ecl, .slice eam enm ecm]) := hl3
  have HE := hmk (do_fin (G := G) hSW (grown_below B3) (show W.heap.size + 2 ≤ w0.heap.size by omega) (by omega) (by omega) HN.out)
  have z0 : w3.cell? ⟨W.heap.size + 1, 0, none⟩ = some (.int .i64 0) := by rw [cell_of_block t1]; rfl
  have z1 : w3.cell? ⟨W.heap.size + 1, 1, none⟩ = some (.bool false) := by rw [cell_of_block t1]; rfl
  have z2 : w3.cell? ⟨W.heap.size + 1, 2, none⟩ = some (.int .i64 0) := by rw [cell_of_block t1]; rfl
  have z3 : w3.cell? ⟨W.heap.size + 1, 3, none⟩ = some (.string ⟨#[]⟩) := by rw [cell_of_block t1]; rfl
  have z4 : w3.cell? ⟨W.heap.size + 1, 4, none⟩ = some (.slice none 0 0) := by rw [cell_of_block t1]; rfl
  have z5 : w3.cell? ⟨W.heap.size + 1, 5, none⟩ = some (.slice none 0 0) := by rw [cell_of_block t1]; rfl
  have f1 := frozen_of_block t1
  clear hl3 HN CA
  go_wp2_with fail
  (try simp only [Exit.inBlock, Exit.then])
  refine bodyPost_ret (v := .tuple #[.agg #[.int .i64 ek, .bool eb, .int .i64 ei, .string es, .slice eal enl ecl, .slice eam enm ecm], .int .i64 ae]) ?_ rfl ?_
  rotate_left
  · exact ⟨[.int .i64 ek, .bool eb, .int .i64 ei, .string es, .slice eal enl ecl, .slice eam enm ecm], rfl, HE.out.1, HE.out.2.1, trivial⟩
  · rw [results_cell_tmp rfl]
    go_simp
end Go.Proofs.YtgnofbigggmilaaGreatDoor
