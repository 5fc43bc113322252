/- joined: SdoA TdoA -/
import Derived.Test.YtgnofbigggmilaaGreatDoorAddA
import Derived.Test.YtgnofbigggmilaaGreatDoorWlkD
import Derived.Test.YtgnofbigggmilaaGreatDoorG32
set_option linter.unusedSimpArgs false
set_option linter.unusedVariables false
namespace Go.Proofs.YtgnofbigggmilaaGreatDoor
open Go.RowKit Go.Lib
set_option maxHeartbeats 8000000 in
set_option maxRecDepth 100000 in
theorem adddo (S : Nat → Prop) (G LB : Nat) (w : World) (tg : Tg w) (last : ByteArray) (x : V) (xk : Int) (xb : Bool) (xi : Int) (xs : ByteArray) (xal : Option Addr) (xnl xcl : Nat) (xam : Option Addr) (xnm xcm : Nat) (hS : ∀ b, S b → b < w.heap.size) (hG : G < w.heap.size) (hLB : LB < w.heap.size) (hlast : w.heap[LB]? = some (.cells #[.string last] 9)) (hts : last.size ≤ 281474976710656) (hbox : w.heap[G]? = some (.cells #[.int .i64 xk, .bool xb, .int .i64 xi, .string xs, .slice xal xnl xcl, .slice xam xnm xcm] 25)) (hx : x.lies false w S [.int .i64 xk, .bool xb, .int .i64 xi, .string xs, .slice xal xnl xcl, .slice xam xnm xcm]) : DoC2 41 (.pointer (some ⟨LB, 0, none⟩)) (.pointer (some ⟨G, 0, none⟩)) (fun y => addF y last x) S G (fun _ _ _ => True) w := by
 intro W y cs hb hwx hga hy
 have hGW : W.heap[G]? = _ := (hb.block G hG).trans hbox
 have hLW : W.heap[LB]? = _ := (hb.block LB hLB).trans hlast
 have hzW := hb.size
 have hSW : ∀ y, S y → y < W.heap.size := fun y hy => Nat.lt_of_lt_of_le (hS y hy) hzW
 have HY := hmk hy
 obtain ⟨k, b, i, s, al, nl, cl, am, nm, cm, rfl⟩ := V.ten hy
 clear hy
 have B0 : Below W.heap.size W ((W.alloc (.cells #[.int .i64 k, .bool b, .int .i64 i, .string s, .slice al nl cl, .slice am nm cm] 25)).alloc (.cells #[.int .i64 0, .bool false, .int .i64 0, .string ⟨#[]⟩, .slice none 0 0, .slice none 0 0] 25)) := two_below W _ _
 have hz0 : ((W.alloc (.cells #[.int .i64 k, .bool b, .int .i64 i, .string s, .slice al nl cl, .slice am nm cm] 25)).alloc (.cells #[.int .i64 0, .bool false, .int .i64 0, .string ⟨#[]⟩, .slice none 0 0, .slice none 0 0] 25)).heap.size = W.heap.size + 2 := by rw [alloc_size, alloc_size]
 have h0 := alloc2_keep1 W (.cells #[.int .i64 k, .bool b, .int .i64 i, .string s, .slice al nl cl, .slice am nm cm] 25) (.cells #[.int .i64 0, .bool false, .int .i64 0, .string ⟨#[]⟩, .slice none 0 0, .slice none 0 0] 25)
 have h1 := alloc2_new W (.cells #[.int .i64 k, .bool b, .int .i64 i, .string s, .slice al nl cl, .slice am nm cm] 25) (.cells #[.int .i64 0, .bool false, .int .i64 0, .string ⟨#[]⟩, .slice none 0 0, .slice none 0 0] 25)
 have hG0 := (B0.block G (by omega)).trans hGW
 have hL0 := (B0.block LB (by omega)).trans hLW
 have v0 : ((W.alloc (.cells #[.int .i64 k, .bool b, .int .i64 i, .string s, .slice al nl cl, .slice am nm cm] 25)).alloc (.cells #[.int .i64 0, .bool false, .int .i64 0, .string ⟨#[]⟩, .slice none 0 0, .slice none 0 0] 25)).cell? ⟨W.heap.size, 0, none⟩ = some (.int .i64 k) := by rw [cell_of_block h0]; rfl
 have v1 : ((W.alloc (.cells #[.int .i64 k, .bool b, .int .i64 i, .string s, .slice al nl cl, .slice am nm cm] 25)).alloc (.cells #[.int .i64 0, .bool false, .int .i64 0, .string ⟨#[]⟩, .slice none 0 0, .slice none 0 0] 25)).cell? ⟨W.heap.size, 1, none⟩ = some (.bool b) := by rw [cell_of_block h0]; rfl
 have v2 : ((W.alloc (.cells #[.int .i64 k, .bool b, .int .i64 i, .string s, .slice al nl cl, .slice am nm cm] 25)).alloc (.cells #[.int .i64 0, .bool false, .int .i64 0, .string ⟨#[]⟩, .slice none 0 0, .slice none 0 0] 25)).cell? ⟨W.heap.size, 2, none⟩ = some (.int .i64 i) := by rw [cell_of_block h0]; rfl
 have v3 : ((W.alloc (.cells #[.int .i64 k, .bool b, .int .i64 i, .string s, .slice al nl cl, .slice am nm cm] 25)).alloc (.cells #[.int .i64 0, .bool false, .int .i64 0, .string ⟨#[]⟩, .slice none 0 0, .slice none 0 0] 25)).cell? ⟨W.heap.size, 3, none⟩ = some (.string s) := by rw [cell_of_block h0]; rfl
 have v4 : ((W.alloc (.cells #[.int .i64 k, .bool b, .int .i64 i, .string s, .slice al nl cl, .slice am nm cm] 25)).alloc (.cells #[.int .i64 0, .bool false, .int .i64 0, .string ⟨#[]⟩, .slice none 0 0, .slice none 0 0] 25)).cell? ⟨W.heap.size, 4, none⟩ = some (.slice al nl cl) := by rw [cell_of_block h0]; rfl
 have v5 : ((W.alloc (.cells #[.int .i64 k, .bool b, .int .i64 i, .string s, .slice al nl cl, .slice am nm cm] 25)).alloc (.cells #[.int .i64 0, .bool false, .int .i64 0, .string ⟨#[]⟩, .slice none 0 0, .slice none 0 0] 25)).cell? ⟨W.heap.size, 5, none⟩ = some (.slice am nm cm) := by rw [cell_of_block h0]; rfl
 have x0 : ((W.alloc (.cells #[.int .i64 k, .bool b, .int .i64 i, .string s, .slice al nl cl, .slice am nm cm] 25)).alloc (.cells #[.int .i64 0, .bool false, .int .i64 0, .string ⟨#[]⟩, .slice none 0 0, .slice none 0 0] 25)).cell? ⟨G, 0, none⟩ = some (.int .i64 xk) := by rw [cell_of_block hG0]; rfl
 have x1 : ((W.alloc (.cells #[.int .i64 k, .bool b, .int .i64 i, .string s, .slice al nl cl, .slice am nm cm] 25)).alloc (.cells #[.int .i64 0, .bool false, .int .i64 0, .string ⟨#[]⟩, .slice none 0 0, .slice none 0 0] 25)).cell? ⟨G, 1, none⟩ = some (.bool xb) := by rw [cell_of_block hG0]; rfl
 have x2 : ((W.alloc (.cells #[.int .i64 k, .bool b, .int .i64 i, .string s, .slice al nl cl, .slice am nm cm] 25)).alloc (.cells #[.int .i64 0, .bool false, .int .i64 0, .string ⟨#[]⟩, .slice none 0 0, .slice none 0 0] 25)).cell? ⟨G, 2, none⟩ = some (.int .i64 xi) := by rw [cell_of_block hG0]; rfl
 have x3 : ((W.alloc (.cells #[.int .i64 k, .bool b, .int .i64 i, .string s, .slice al nl cl, .slice am nm cm] 25)).alloc (.cells #[.int .i64 0, .bool false, .int .i64 0, .string ⟨#[]⟩, .slice none 0 0, .slice none 0 0] 25)).cell? ⟨G, 3, none⟩ = some (.string xs) := by rw [cell_of_block hG0]; rfl
 have x4 : ((W.alloc (.cells #[.int .i64 k, .bool b, .int .i64 i, .string s, .slice al nl cl, .slice am nm cm] 25)).alloc (.cells #[.int .i64 0, .bool false, .int .i64 0, .string ⟨#[]⟩, .slice none 0 0, .slice none 0 0] 25)).cell? ⟨G, 4, none⟩ = some (.slice xal xnl xcl) := by rw [cell_of_block hG0]; rfl
 have x5 : ((W.alloc (.cells #[.int .i64 k, .bool b, .int .i64 i, .string s, .slice al nl cl, .slice am nm cm] 25)).alloc (.cells #[.int .i64 0, .bool false, .int .i64 0, .string ⟨#[]⟩, .slice none 0 0, .slice none 0 0] 25)).cell? ⟨G, 5, none⟩ = some (.slice xam xnm xcm) := by rw [cell_of_block hG0]; rfl
 have l0 : ((W.alloc (.cells #[.int .i64 k, .bool b, .int .i64 i, .string s, .slice al nl cl, .slice am nm cm] 25)).alloc (.cells #[.int .i64 0, .bool false, .int .i64 0, .string ⟨#[]⟩, .slice none 0 0, .slice none 0 0] 25)).cell? ⟨LB, 0, none⟩ = some (.string last) := by rw [cell_of_block hL0]; rfl
 have CA := hmk (added_any y last x S _ _ ((W.alloc (.cells #[.int .i64 k, .bool b, .int .i64 i, .string s, .slice al nl cl, .slice am nm cm] 25)).alloc (.cells #[.int .i64 0, .bool false, .int .i64 0, .string ⟨#[]⟩, .slice none 0 0, .slice none 0 0] 25)) (tg.below (hb.trans (B0.mono hzW)) tg.z) (lies_below HY.out hSW B0) (V.lies_keep (fun h => h) (fun y hy => (B0.block y (hSW y hy)).trans (hb.block y (hS y hy))) (fun _ h => h) _ hx) (fun y hy => Nat.lt_of_lt_of_le (hSW y hy) B0.size) hts hwx (allG_srt hga))
 clear hx hga HY
 dsimp only
 generalize addF y last x = AR at *
 obtain ⟨ay, ae⟩ := AR
 go_enter Tryz.func41, Tryz.ntmps41
 go_wp2_with fail
 clear v0 v1 v2 v3 v4 v5 x0 x1 x2 x3 x4 x5 l0
 generalize ((W.alloc (.cells #[.int .i64 k, .bool b, .int .i64 i, .string s, .slice al nl cl, .slice am nm cm] 25)).alloc (.cells #[.int .i64 0, .bool false, .int .i64 0, .string ⟨#[]⟩, .slice none 0 0, .slice none 0 0] 25)) = w0 at *
 refine CA.out.mono ?_
 rintro e w3 ⟨es_, rfl, hl3, b3⟩
 have hz3 := b3.size
 have B3 := B0.trans (b3.mono (by omega))
 obtain ⟨ek, eb, ei, es, eal, enl, ecl, eam, enm, ecm, rfl⟩ := V.ten hl3
 have t1 := (b3.block (W.heap.size + 1) (by omega)).trans h1
 have HN : Hid (ay.lies false w3 (fun y => S y ∨ (w0.heap.size ≤ y ∧ y < w3.heap.size)) [.int .i64 ek, .bool eb, .int .i64 ei, .string es, .slice eal enl ecl, .slice eam enm ecm]) := hl3
 have HE := hmk (do_fin (G := G) hSW (grown_below B3) (show W.heap.size + 2 ≤ w0.heap.size by omega) (by omega) (by omega) HN.out)
 have z0 : w3.cell? ⟨W.heap.size + 1, 0, none⟩ = some (.int .i64 0) := by rw [cell_of_block t1]; rfl
 have z1 : w3.cell? ⟨W.heap.size + 1, 1, none⟩ = some (.bool false) := by rw [cell_of_block t1]; rfl
 have z2 : w3.cell? ⟨W.heap.size + 1, 2, none⟩ = some (.int .i64 0) := by rw [cell_of_block t1]; rfl
 have z3 : w3.cell? ⟨W.heap.size + 1, 3, none⟩ = some (.string ⟨#[]⟩) := by rw [cell_of_block t1]; rfl
 have z4 : w3.cell? ⟨W.heap.size + 1, 4, none⟩ = some (.slice none 0 0) := by rw [cell_of_block t1]; rfl
 have z5 : w3.cell? ⟨W.heap.size + 1, 5, none⟩ = some (.slice none 0 0) := by rw [cell_of_block t1]; rfl
 have f1 := frozen_of_block t1
 clear hl3 HN CA
 go_wp2_with fail
 (try simp only [Exit.inBlock, Exit.then])
 refine bodyPost_ret (v := .tuple #[.agg #[.int .i64 ek, .bool eb, .int .i64 ei, .string es, .slice eal enl ecl, .slice eam enm ecm], .int .i64 ae]) ?_ rfl ?_
 rotate_left
 ·exact ⟨[.int .i64 ek, .bool eb, .int .i64 ei, .string es, .slice eal enl ecl, .slice eam enm ecm], rfl, HE.out.1, HE.out.2.1, trivial⟩
 ·rw [results_cell_tmp rfl]
  go_simp
def Tot (S : Nat → Prop) (G : Nat) (last : ByteArray) (y : V) (W0 W1 : World) : Prop := ((ledF y last).2 = 0 → ∃ cs : List Value, rowAt W1 G 0 cs ∧ (kid y (ledF y last).1).lies false W1 S cs) ∧ (¬ (ledF y last).2 = 0 → W1.heap[G]? = W0.heap[G]?)
set_option maxHeartbeats 8000000 in
set_option maxRecDepth 100000 in
theorem takdo (S : Nat → Prop) (G LB : Nat) (w : World) (tg : Tg w) (last : ByteArray) (hS : ∀ b, S b → b < w.heap.size) (hSG : ¬ S G) (hG : G < w.heap.size) (hLB : LB < w.heap.size) (hlast : w.heap[LB]? = some (.cells #[.string last] 9)) (hts : last.size ≤ 281474976710656) (hbox : w.heap[G]? = some (.cells #[.int .i64 0, .bool false, .int .i64 0, .string ⟨#[]⟩, .slice none 0 0, .slice none 0 0] 25)) : DoC2 43 (.pointer (some ⟨LB, 0, none⟩)) (.pointer (some ⟨G, 0, none⟩)) (takFn last) S G (Tot S G last) w := by
 intro W y cs hb hwx hga hy
 have hGW : W.heap[G]? = _ := (hb.block G hG).trans hbox
 have hLW : W.heap[LB]? = _ := (hb.block LB hLB).trans hlast
 have hzW := hb.size
 have hSW : ∀ y, S y → y < W.heap.size := fun y hy => Nat.lt_of_lt_of_le (hS y hy) hzW
 have HY := hmk hy
 obtain ⟨k, b, i, s, al, nl, cl, am, nm, cm, rfl⟩ := V.ten hy
 clear hy
 have B0 : Below W.heap.size W ((W.alloc (.cells #[.int .i64 k, .bool b, .int .i64 i, .string s, .slice al nl cl, .slice am nm cm] 25)).alloc (.cells #[.int .i64 0, .bool false, .int .i64 0, .string ⟨#[]⟩, .slice none 0 0, .slice none 0 0] 25)) := two_below W _ _
 have hz0 : ((W.alloc (.cells #[.int .i64 k, .bool b, .int .i64 i, .string s, .slice al nl cl, .slice am nm cm] 25)).alloc (.cells #[.int .i64 0, .bool false, .int .i64 0, .string ⟨#[]⟩, .slice none 0 0, .slice none 0 0] 25)).heap.size = W.heap.size + 2 := by rw [alloc_size, alloc_size]
 have h0 := alloc2_keep1 W (.cells #[.int .i64 k, .bool b, .int .i64 i, .string s, .slice al nl cl, .slice am nm cm] 25) (.cells #[.int .i64 0, .bool false, .int .i64 0, .string ⟨#[]⟩, .slice none 0 0, .slice none 0 0] 25)
 have h1 := alloc2_new W (.cells #[.int .i64 k, .bool b, .int .i64 i, .string s, .slice al nl cl, .slice am nm cm] 25) (.cells #[.int .i64 0, .bool false, .int .i64 0, .string ⟨#[]⟩, .slice none 0 0, .slice none 0 0] 25)
 have hG0 := (B0.block G (by omega)).trans hGW
 have hL0 := (B0.block LB (by omega)).trans hLW
 have v0 : ((W.alloc (.cells #[.int .i64 k, .bool b, .int .i64 i, .string s, .slice al nl cl, .slice am nm cm] 25)).alloc (.cells #[.int .i64 0, .bool false, .int .i64 0, .string ⟨#[]⟩, .slice none 0 0, .slice none 0 0] 25)).cell? ⟨W.heap.size, 0, none⟩ = some (.int .i64 k) := by rw [cell_of_block h0]; rfl
 have v1 : ((W.alloc (.cells #[.int .i64 k, .bool b, .int .i64 i, .string s, .slice al nl cl, .slice am nm cm] 25)).alloc (.cells #[.int .i64 0, .bool false, .int .i64 0, .string ⟨#[]⟩, .slice none 0 0, .slice none 0 0] 25)).cell? ⟨W.heap.size, 1, none⟩ = some (.bool b) := by rw [cell_of_block h0]; rfl
 have v2 : ((W.alloc (.cells #[.int .i64 k, .bool b, .int .i64 i, .string s, .slice al nl cl, .slice am nm cm] 25)).alloc (.cells #[.int .i64 0, .bool false, .int .i64 0, .string ⟨#[]⟩, .slice none 0 0, .slice none 0 0] 25)).cell? ⟨W.heap.size, 2, none⟩ = some (.int .i64 i) := by rw [cell_of_block h0]; rfl
 have v3 : ((W.alloc (.cells #[.int .i64 k, .bool b, .int .i64 i, .string s, .slice al nl cl, .slice am nm cm] 25)).alloc (.cells #[.int .i64 0, .bool false, .int .i64 0, .string ⟨#[]⟩, .slice none 0 0, .slice none 0 0] 25)).cell? ⟨W.heap.size, 3, none⟩ = some (.string s) := by rw [cell_of_block h0]; rfl
 have v4 : ((W.alloc (.cells #[.int .i64 k, .bool b, .int .i64 i, .string s, .slice al nl cl, .slice am nm cm] 25)).alloc (.cells #[.int .i64 0, .bool false, .int .i64 0, .string ⟨#[]⟩, .slice none 0 0, .slice none 0 0] 25)).cell? ⟨W.heap.size, 4, none⟩ = some (.slice al nl cl) := by rw [cell_of_block h0]; rfl
 have v5 : ((W.alloc (.cells #[.int .i64 k, .bool b, .int .i64 i, .string s, .slice al nl cl, .slice am nm cm] 25)).alloc (.cells #[.int .i64 0, .bool false, .int .i64 0, .string ⟨#[]⟩, .slice none 0 0, .slice none 0 0] 25)).cell? ⟨W.heap.size, 5, none⟩ = some (.slice am nm cm) := by rw [cell_of_block h0]; rfl
 have l0 : ((W.alloc (.cells #[.int .i64 k, .bool b, .int .i64 i, .string s, .slice al nl cl, .slice am nm cm] 25)).alloc (.cells #[.int .i64 0, .bool false, .int .i64 0, .string ⟨#[]⟩, .slice none 0 0, .slice none 0 0] 25)).cell? ⟨LB, 0, none⟩ = some (.string last) := by rw [cell_of_block hL0]; rfl
 have CL := hmk (lead_any y last S _ ((W.alloc (.cells #[.int .i64 k, .bool b, .int .i64 i, .string s, .slice al nl cl, .slice am nm cm] 25)).alloc (.cells #[.int .i64 0, .bool false, .int .i64 0, .string ⟨#[]⟩, .slice none 0 0, .slice none 0 0] 25)) (tg.below (hb.trans (B0.mono hzW)) tg.z) (lies_below HY.out hSW B0) (fun y hy => Nat.lt_of_lt_of_le (hSW y hy) B0.size) (by omega) hts (allG_srt hga))
 have HK : Hid ((ledF y last).2 = 0 → kidAt y (ledF y last).1) := fun h => led_kid h
 have HTF : Hid (takFn last y = if (ledF y last).2 = 0 then (remV y (ledF y last).1, 0) else (nullV, (ledF y last).2)) := rfl
 have HTot : Hid (∀ W1, Tot S G last y W W1 = (((ledF y last).2 = 0 → ∃ cs : List Value, rowAt W1 G 0 cs ∧ (kid y (ledF y last).1).lies false W1 S cs) ∧ (¬ (ledF y last).2 = 0 → W1.heap[G]? = W.heap[G]?))) := fun _ => rfl
 generalize Tot S G last y W = TT at *
 generalize takFn last y = TF at *
 generalize ledF y last = LF at *
 obtain ⟨p, er⟩ := LF
 simp only at HK HTF HTot
 go_enter Tryz.func43, Tryz.ntmps43
 go_wp2_with fail
 clear v0 v1 v2 v3 v4 v5 l0
 generalize ((W.alloc (.cells #[.int .i64 k, .bool b, .int .i64 i, .string s, .slice al nl cl, .slice am nm cm] 25)).alloc (.cells #[.int .i64 0, .bool false, .int .i64 0, .string ⟨#[]⟩, .slice none 0 0, .slice none 0 0] 25)) = w0 at *
 refine CL.out.mono ?_
 rintro e w1 ⟨rfl, b1⟩
 have hz1 := b1.size
 have B1 := B0.trans (b1.mono (by omega))
 have t0 := (b1.block W.heap.size (by omega)).trans h0
 have t1 := (b1.block (W.heap.size + 1) (by omega)).trans h1
 have tG := (b1.block G (by omega)).trans hG0
 clear CL
 by_cases her : er = 0
 ·subst her
  have hkd := HK.out rfl
  have HR : Hid (TF = (remV y p, 0)) := by show _ = _; rw [HTF.out, if_pos rfl]
  have v0 : w1.cell? ⟨W.heap.size, 0, none⟩ = some (.int .i64 k) := by rw [cell_of_block t0]; rfl
  have v1 : w1.cell? ⟨W.heap.size, 1, none⟩ = some (.bool b) := by rw [cell_of_block t0]; rfl
  have v2 : w1.cell? ⟨W.heap.size, 2, none⟩ = some (.int .i64 i) := by rw [cell_of_block t0]; rfl
  have v3 : w1.cell? ⟨W.heap.size, 3, none⟩ = some (.string s) := by rw [cell_of_block t0]; rfl
  have v4 : w1.cell? ⟨W.heap.size, 4, none⟩ = some (.slice al nl cl) := by rw [cell_of_block t0]; rfl
  have v5 : w1.cell? ⟨W.heap.size, 5, none⟩ = some (.slice am nm cm) := by rw [cell_of_block t0]; rfl
  have CH := hmk (held_any y p S _ w1 (lies_below HY.out hSW B1) (fun y hy => Nat.lt_of_lt_of_le (hSW y hy) B1.size) (by omega) hkd)
  go_wp2_with fail
  clear v0 v1 v2 v3 v4 v5
  refine CH.out.mono ?_
  rintro e w3 ⟨es_, rfl, hl3, b3⟩
  have hz3 := b3.size
  have B3 := B1.trans (b3.mono B1.size)
  obtain ⟨ek, eb, ei, es, eal, enl, ecl, eam, enm, ecm, rfl⟩ := V.ten hl3
  have u0 := (b3.block W.heap.size (by omega)).trans t0
  have u1 := (b3.block (W.heap.size + 1) (by omega)).trans t1
  have uG := (b3.block G (by omega)).trans tG
  have c0 : w3.cell? ⟨G, 0, none⟩ = some (.int .i64 0) := by rw [cell_of_block uG]; rfl
  have c1 : w3.cell? ⟨G, 1, none⟩ = some (.bool false) := by rw [cell_of_block uG]; rfl
  have c2 : w3.cell? ⟨G, 2, none⟩ = some (.int .i64 0) := by rw [cell_of_block uG]; rfl
  have c3 : w3.cell? ⟨G, 3, none⟩ = some (.string ⟨#[]⟩) := by rw [cell_of_block uG]; rfl
  have c4 : w3.cell? ⟨G, 4, none⟩ = some (.slice none 0 0) := by rw [cell_of_block uG]; rfl
  have c5 : w3.cell? ⟨G, 5, none⟩ = some (.slice none 0 0) := by rw [cell_of_block uG]; rfl
  have fG := frozen_of_block uG
  have v0 : w3.cell? ⟨W.heap.size, 0, none⟩ = some (.int .i64 k) := by rw [cell_of_block u0]; rfl
  have v1 : w3.cell? ⟨W.heap.size, 1, none⟩ = some (.bool b) := by rw [cell_of_block u0]; rfl
  have v2 : w3.cell? ⟨W.heap.size, 2, none⟩ = some (.int .i64 i) := by rw [cell_of_block u0]; rfl
  have v3 : w3.cell? ⟨W.heap.size, 3, none⟩ = some (.string s) := by rw [cell_of_block u0]; rfl
  have v4 : w3.cell? ⟨W.heap.size, 4, none⟩ = some (.slice al nl cl) := by rw [cell_of_block u0]; rfl
  have v5 : w3.cell? ⟨W.heap.size, 5, none⟩ = some (.slice am nm cm) := by rw [cell_of_block u0]; rfl
  have n0 : ¬ G = W.heap.size := by omega
  have n1 : ¬ W.heap.size = G := by omega
  have hot : ∀ y, y ≠ G → ((((((w3.setCell ⟨G, 0, none⟩ (.int .i64 ek)).setCell ⟨G, 1, none⟩ (.bool eb)).setCell ⟨G, 2, none⟩ (.int .i64 ei)).setCell ⟨G, 3, none⟩ (.string es)).setCell ⟨G, 4, none⟩ (.slice eal enl ecl)).setCell ⟨G, 5, none⟩ (.slice eam enm ecm)).heap[y]? = w3.heap[y]? := fun y hy => by
   repeat (rw [set_other hy])
  have g4 : w3.grownBy ((((((w3.setCell ⟨G, 0, none⟩ (.int .i64 ek)).setCell ⟨G, 1, none⟩ (.bool eb)).setCell ⟨G, 2, none⟩ (.int .i64 ei)).setCell ⟨G, 3, none⟩ (.string es)).setCell ⟨G, 4, none⟩ (.slice eal enl ecl)).setCell ⟨G, 5, none⟩ (.slice eam enm ecm)) (some G) := grown_set (grown_set (grown_set (grown_set (grown_set (grown_set (World.grownBy.refl w3 _) 0 (.int .i64 ek)) 1 (.bool eb)) 2 (.int .i64 ei)) 3 (.string es)) 4 (.slice eal enl ecl)) 5 (.slice eam enm ecm)
  have s4 : ((((((w3.setCell ⟨G, 0, none⟩ (.int .i64 ek)).setCell ⟨G, 1, none⟩ (.bool eb)).setCell ⟨G, 2, none⟩ (.int .i64 ei)).setCell ⟨G, 3, none⟩ (.string es)).setCell ⟨G, 4, none⟩ (.slice eal enl ecl)).setCell ⟨G, 5, none⟩ (.slice eam enm ecm)).heap.size = w3.heap.size := by simp only [size_set1]
  obtain ⟨arr', e1, e2, _, e4, _, _⟩ := set6_row (o := 0) uG (by decide) (.int .i64 ek) (.bool eb) (.int .i64 ei) (.string es) (.slice eal enl ecl) (.slice eam enm ecm)
  simp only [Nat.zero_add] at e4
  have HK4 : Hid ((kid y p).lies false ((((((w3.setCell ⟨G, 0, none⟩ (.int .i64 ek)).setCell ⟨G, 1, none⟩ (.bool eb)).setCell ⟨G, 2, none⟩ (.int .i64 ei)).setCell ⟨G, 3, none⟩ (.string es)).setCell ⟨G, 4, none⟩ (.slice eal enl ecl)).setCell ⟨G, 5, none⟩ (.slice eam enm ecm)) S [.int .i64 ek, .bool eb, .int .i64 ei, .string es, .slice eal enl ecl, .slice eam enm ecm]) := V.lies_keep (fun h => h) (fun z hz => hot z (fun e => hSG (e ▸ hz))) (fun _ h => h) _ hl3
  have HY4 : Hid (y.lies false ((((((w3.setCell ⟨G, 0, none⟩ (.int .i64 ek)).setCell ⟨G, 1, none⟩ (.bool eb)).setCell ⟨G, 2, none⟩ (.int .i64 ei)).setCell ⟨G, 3, none⟩ (.string es)).setCell ⟨G, 4, none⟩ (.slice eal enl ecl)).setCell ⟨G, 5, none⟩ (.slice eam enm ecm)) S [.int .i64 k, .bool b, .int .i64 i, .string s, .slice al nl cl, .slice am nm cm]) := V.lies_keep (fun h => h) (fun z hz => (hot z (fun e => hSG (e ▸ hz))).trans (B3.block z (hSW z hz))) (fun _ h => h) _ HY.out
  have CR := hmk (removed_any y p S _ ((((((w3.setCell ⟨G, 0, none⟩ (.int .i64 ek)).setCell ⟨G, 1, none⟩ (.bool eb)).setCell ⟨G, 2, none⟩ (.int .i64 ei)).setCell ⟨G, 3, none⟩ (.string es)).setCell ⟨G, 4, none⟩ (.slice eal enl ecl)).setCell ⟨G, 5, none⟩ (.slice eam enm ecm)) HY4.out (fun z hz => by rw [s4]; have := hSW z hz; omega) hwx hkd)
  have q0 := (hot W.heap.size (by omega)).trans u0
  have q1 := (hot (W.heap.size + 1) (by omega)).trans u1
  clear e1 e2 hl3 CH HY HY4
  go_wp2_with fail
  clear c0 c1 c2 c3 c4 c5 fG v0 v1 v2 v3 v4 v5
  generalize ((((((w3.setCell ⟨G, 0, none⟩ (.int .i64 ek)).setCell ⟨G, 1, none⟩ (.bool eb)).setCell ⟨G, 2, none⟩ (.int .i64 ei)).setCell ⟨G, 3, none⟩ (.string es)).setCell ⟨G, 4, none⟩ (.slice eal enl ecl)).setCell ⟨G, 5, none⟩ (.slice eam enm ecm)) = w4 at *
  refine CR.out.mono ?_
  rintro e w5 ⟨fs_, rfl, hl5, b5⟩
  have hz5 := b5.size
  obtain ⟨fk, fb, fi, fs, fal, fnl, fcl, fam, fnm, fcm, rfl⟩ := V.ten hl5
  have G5 : W.grownBy w5 (some G) := ⟨b5.os.trans (g4.os.trans B3.os), b5.tape.trans (g4.tape.trans B3.tape), b5.output.trans (g4.output.trans B3.output), by omega, fun q hq hne => (b5.block q (by omega)).trans ((hot q (fun e => hne (by rw [e]))).trans (B3.block q hq))⟩
  have r1 := (b5.block (W.heap.size + 1) (by omega)).trans q1
  have HN : Hid ((remV y p).lies false w5 (fun z => S z ∨ (w4.heap.size ≤ z ∧ z < w5.heap.size)) [.int .i64 fk, .bool fb, .int .i64 fi, .string fs, .slice fal fnl fcl, .slice fam fnm fcm]) := hl5
  have HE := hmk (do_fin (G := G) hSW G5 (show W.heap.size + 2 ≤ w4.heap.size by omega) (by omega) (by omega) HN.out)
  have z0 : w5.cell? ⟨W.heap.size + 1, 0, none⟩ = some (.int .i64 0) := by rw [cell_of_block r1]; rfl
  have z1 : w5.cell? ⟨W.heap.size + 1, 1, none⟩ = some (.bool false) := by rw [cell_of_block r1]; rfl
  have z2 : w5.cell? ⟨W.heap.size + 1, 2, none⟩ = some (.int .i64 0) := by rw [cell_of_block r1]; rfl
  have z3 : w5.cell? ⟨W.heap.size + 1, 3, none⟩ = some (.string ⟨#[]⟩) := by rw [cell_of_block r1]; rfl
  have z4 : w5.cell? ⟨W.heap.size + 1, 4, none⟩ = some (.slice none 0 0) := by rw [cell_of_block r1]; rfl
  have z5 : w5.cell? ⟨W.heap.size + 1, 5, none⟩ = some (.slice none 0 0) := by rw [cell_of_block r1]; rfl
  have f1 := frozen_of_block r1
  have hE4 : rowAt w5 G 0 [.int .i64 ek, .bool eb, .int .i64 ei, .string es, .slice eal enl ecl, .slice eam enm ecm] := e4.keep (b5.block G (by omega))
  have HK5 : Hid ((kid y p).lies false w5 S [.int .i64 ek, .bool eb, .int .i64 ei, .string es, .slice eal enl ecl, .slice eam enm ecm]) := V.lies_keep (fun h => h) (fun z hz => b5.block z (by have := hSW z hz; omega)) (fun _ h => h) _ HK4.out
  clear hl5 HN CR e4
  go_wp2_with fail
  (try simp only [Exit.inBlock, Exit.then])
  refine bodyPost_ret (v := .tuple #[.agg #[.int .i64 fk, .bool fb, .int .i64 fi, .string fs, .slice fal fnl fcl, .slice fam fnm fcm], .int .i64 0]) ?_ rfl ?_
  rotate_left
  ·rw [HR.out]
   refine ⟨[.int .i64 fk, .bool fb, .int .i64 fi, .string fs, .slice fal fnl fcl, .slice fam fnm fcm], rfl, HE.out.1, HE.out.2.1, ?_⟩
   rw [HTot.out]
   exact ⟨fun _ => ⟨[.int .i64 ek, .bool eb, .int .i64 ei, .string es, .slice eal enl ecl, .slice eam enm ecm], hE4.keep (HE.out.2.2 G (by omega)), V.lies_keep (fun h => h) (fun z hz => HE.out.2.2 z (by have := hSW z hz; omega)) (fun _ h => h) _ HK5.out⟩, fun h => by simp at h⟩
  ·rw [results_cell_tmp rfl]
   go_simp
 ·have HR : Hid (TF = (nullV, er)) := by show _ = _; rw [HTF.out, if_neg her]
  have z0 : w1.cell? ⟨W.heap.size + 1, 0, none⟩ = some (.int .i64 0) := by rw [cell_of_block t1]; rfl
  have z1 : w1.cell? ⟨W.heap.size + 1, 1, none⟩ = some (.bool false) := by rw [cell_of_block t1]; rfl
  have z2 : w1.cell? ⟨W.heap.size + 1, 2, none⟩ = some (.int .i64 0) := by rw [cell_of_block t1]; rfl
  have z3 : w1.cell? ⟨W.heap.size + 1, 3, none⟩ = some (.string ⟨#[]⟩) := by rw [cell_of_block t1]; rfl
  have z4 : w1.cell? ⟨W.heap.size + 1, 4, none⟩ = some (.slice none 0 0) := by rw [cell_of_block t1]; rfl
  have z5 : w1.cell? ⟨W.heap.size + 1, 5, none⟩ = some (.slice none 0 0) := by rw [cell_of_block t1]; rfl
  have f1 := frozen_of_block t1
  have HE := hmk (do_fin (G := G) (x := nullV) hSW (grown_below B1) (show W.heap.size + 2 ≤ w1.heap.size by omega) (by omega) (by omega) (null_lies w1 (fun z => S z ∨ (w1.heap.size ≤ z ∧ z < w1.heap.size))))
  have hGG : w1.heap[G]? = W.heap[G]? := B1.block G (by omega)
  go_wp2_with fail
  (try simp only [Exit.inBlock, Exit.then])
  refine bodyPost_ret (v := .tuple #[.agg #[.int .i64 0, .bool false, .int .i64 0, .string ⟨#[]⟩, .slice none 0 0, .slice none 0 0], .int .i64 er]) ?_ rfl ?_
  rotate_left
  ·rw [HR.out]
   refine ⟨[.int .i64 0, .bool false, .int .i64 0, .string ⟨#[]⟩, .slice none 0 0, .slice none 0 0], rfl, HE.out.1, HE.out.2.1, ?_⟩
   rw [HTot.out]
   exact ⟨fun h => absurd h her, fun _ => (HE.out.2.2 G (by omega)).trans hGG⟩
  ·rw [results_cell_tmp rfl]
   go_simp
end Go.Proofs.YtgnofbigggmilaaGreatDoor
