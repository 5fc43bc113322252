/- joined: KdoA KdsB -/
import Derived.Test.YtgnofbigggmilaaGreatDoorG39
set_option linter.unusedSimpArgs false
set_option linter.unusedVariables false
namespace Go.Proofs.YtgnofbigggmilaaGreatDoor
open Go.RowKit Go.Lib
theorem OwnS.move {B : Nat} {v : Value} {l : List ByteArray} {w w' : World} (h : OwnS B v l w) (hk : ∀ b, B ≤ b → b < w.heap.size → w'.heap[b]? = w.heap[b]?) : OwnS B v l w' := by
 refine ⟨h.1, ?_⟩
 rcases h.2 with hn | ⟨g, cap, cur, rfl, hb, hgg, rest⟩
 ·exact .inl hn
 ·exact .inr ⟨g, cap, cur, rfl, hb, (hk g hb (Array.getElem?_eq_some_iff.1 hgg).1).trans hgg, rest⟩
theorem OwnS.slice {B : Nat} {v : Value} {l : List ByteArray} {w : World} (h : OwnS B v l w) : ∃ a n c, v = .slice a n c := by
 rcases h.2 with ⟨rfl, _⟩ | ⟨g, cap, cur, rfl, _⟩
 ·exact ⟨_, _, _, rfl⟩
 ·exact ⟨_, _, _, rfl⟩
def Kot (G : Nat) (x : V) (W0 W1 : World) : Prop := ∃ (B : Nat) (tv : Value), W0.heap.size ≤ B ∧ W1.cell? ⟨G, 0, none⟩ = some tv ∧ OwnS B tv (ldgF x) W1
theorem kid_end {S : Nat → Prop} {W W2 : World} {G B : Nat} {x : V} {tv c0 c1 c2 c3 c4 c5 : Value} (hS : ∀ b, S b → b < W.heap.size) (hSG : ¬ S G) (hG : G < W.heap.size) (B2 : Below W.heap.size W W2) (hM : W.heap.size + 2 ≤ B) (hz : W.heap.size + 2 ≤ W2.heap.size) (hb : W2.heap[G]? = some (.cells #[.slice none 0 0] 42)) (own : OwnS B tv (ldgF x) W2) (hx : x.lies false W S [c0, c1, c2, c3, c4, c5]) :
 x.lies false (((((((W2.setCell ⟨G, 0, none⟩ tv).setCell ⟨W.heap.size + 1, 0, none⟩ c0).setCell ⟨W.heap.size + 1, 1, none⟩ c1).setCell ⟨W.heap.size + 1, 2, none⟩ c2).setCell ⟨W.heap.size + 1, 3, none⟩ c3).setCell ⟨W.heap.size + 1, 4, none⟩ c4).setCell ⟨W.heap.size + 1, 5, none⟩ c5) (OrNew S W (((((((W2.setCell ⟨G, 0, none⟩ tv).setCell ⟨W.heap.size + 1, 0, none⟩ c0).setCell ⟨W.heap.size + 1, 1, none⟩ c1).setCell ⟨W.heap.size + 1, 2, none⟩ c2).setCell ⟨W.heap.size + 1, 3, none⟩ c3).setCell ⟨W.heap.size + 1, 4, none⟩ c4).setCell ⟨W.heap.size + 1, 5, none⟩ c5)) [c0, c1, c2, c3, c4, c5] ∧ W.grownBy (((((((W2.setCell ⟨G, 0, none⟩ tv).setCell ⟨W.heap.size + 1, 0, none⟩ c0).setCell ⟨W.heap.size + 1, 1, none⟩ c1).setCell ⟨W.heap.size + 1, 2, none⟩ c2).setCell ⟨W.heap.size + 1, 3, none⟩ c3).setCell ⟨W.heap.size + 1, 4, none⟩ c4).setCell ⟨W.heap.size + 1, 5, none⟩ c5) (some G) ∧ Kot G x W (((((((W2.setCell ⟨G, 0, none⟩ tv).setCell ⟨W.heap.size + 1, 0, none⟩ c0).setCell ⟨W.heap.size + 1, 1, none⟩ c1).setCell ⟨W.heap.size + 1, 2, none⟩ c2).setCell ⟨W.heap.size + 1, 3, none⟩ c3).setCell ⟨W.heap.size + 1, 4, none⟩ c4).setCell ⟨W.heap.size + 1, 5, none⟩ c5) := by
 have hG3 : (W2.setCell ⟨G, 0, none⟩ tv).heap[G]? = some (.cells #[tv] 42) := by rw [set_block hb]; rfl
 have g1 : W2.grownBy (W2.setCell ⟨G, 0, none⟩ tv) (some G) := grown_set (World.grownBy.refl W2 _) 0 tv
 have hot1 : ∀ y, y ≠ G → (W2.setCell ⟨G, 0, none⟩ tv).heap[y]? = W2.heap[y]? := fun y hy => by rw [set_other hy]
 have s1 := g1.size
 have s1' : (W2.setCell ⟨G, 0, none⟩ tv).heap.size = W2.heap.size := by simp only [size_set1]
 generalize (W2.setCell ⟨G, 0, none⟩ tv) = W3 at *
 have hot : ∀ y, y ≠ W.heap.size + 1 → ((((((W3.setCell ⟨W.heap.size + 1, 0, none⟩ c0).setCell ⟨W.heap.size + 1, 1, none⟩ c1).setCell ⟨W.heap.size + 1, 2, none⟩ c2).setCell ⟨W.heap.size + 1, 3, none⟩ c3).setCell ⟨W.heap.size + 1, 4, none⟩ c4).setCell ⟨W.heap.size + 1, 5, none⟩ c5).heap[y]? = W3.heap[y]? := fun y hy => by
  repeat (rw [set_other hy])
 have g2 : W3.grownBy ((((((W3.setCell ⟨W.heap.size + 1, 0, none⟩ c0).setCell ⟨W.heap.size + 1, 1, none⟩ c1).setCell ⟨W.heap.size + 1, 2, none⟩ c2).setCell ⟨W.heap.size + 1, 3, none⟩ c3).setCell ⟨W.heap.size + 1, 4, none⟩ c4).setCell ⟨W.heap.size + 1, 5, none⟩ c5) (some (W.heap.size + 1)) := grown_set (grown_set (grown_set (grown_set (grown_set (grown_set (World.grownBy.refl W3 _) 0 c0) 1 c1) 2 c2) 3 c3) 4 c4) 5 c5
 have s2 := g2.size
 generalize ((((((W3.setCell ⟨W.heap.size + 1, 0, none⟩ c0).setCell ⟨W.heap.size + 1, 1, none⟩ c1).setCell ⟨W.heap.size + 1, 2, none⟩ c2).setCell ⟨W.heap.size + 1, 3, none⟩ c3).setCell ⟨W.heap.size + 1, 4, none⟩ c4).setCell ⟨W.heap.size + 1, 5, none⟩ c5) = wf at *
 have key : ∀ b, b < W.heap.size → b ≠ G → wf.heap[b]? = W.heap[b]? := fun b h1 h2 => (hot b (by omega)).trans ((hot1 b h2).trans (B2.block b h1))
 have hl : x.lies false wf S [c0, c1, c2, c3, c4, c5] := V.lies_keep (fun h => h) (fun b hb => key b (hS b hb) (fun e => hSG (e ▸ hb))) (fun _ h => h) _ hx
 refine ⟨V.lies_keep (fun h => h) (fun _ _ => rfl) (fun b hb => .inl hb) _ hl, ⟨g2.os.trans (g1.os.trans B2.os), g2.tape.trans (g1.tape.trans B2.tape), g2.output.trans (g1.output.trans B2.output), by omega, fun k hk hne => key k hk (fun e => hne (by rw [e]))⟩, B, tv, by omega, ?_, ?_⟩
 ·rw [cell_of_block ((hot G (by omega)).trans hG3)]; rfl
 ·exact own.move fun b h1 h2 => (hot b (by omega)).trans (hot1 b (by omega))
set_option maxHeartbeats 8000000 in
set_option maxRecDepth 100000 in
theorem kidsdo (S : Nat → Prop) (G : Nat) (w : World) (tg : Tg w) (hS : ∀ b, S b → b < w.heap.size) (hSG : ¬ S G) (hG : G < w.heap.size) (hbox : w.heap[G]? = some (.cells #[.slice none 0 0] 42)) : DoC 59 (.pointer (some ⟨G, 0, none⟩)) (fun x => (x, 0)) S G (Kot G) w := by
 intro W x cs hb hwx hga hx
 have HV := hmk hx
 have hGW : W.heap[G]? = _ := (hb.block G hG).trans hbox
 have hzW := hb.size
 obtain ⟨k, b, i, s, al, nl, cl, am, nm, cm, rfl⟩ := V.ten hx
 clear hx
 have hSW : ∀ y, S y → y < W.heap.size := fun y hy => Nat.lt_of_lt_of_le (hS y hy) hzW
 have B0 : Below W.heap.size W ((W.alloc (.cells #[.int .i64 k, .bool b, .int .i64 i, .string s, .slice al nl cl, .slice am nm cm] 25)).alloc (.cells #[.int .i64 0, .bool false, .int .i64 0, .string ⟨#[]⟩, .slice none 0 0, .slice none 0 0] 25)) := two_below W _ _
 have hz0 : ((W.alloc (.cells #[.int .i64 k, .bool b, .int .i64 i, .string s, .slice al nl cl, .slice am nm cm] 25)).alloc (.cells #[.int .i64 0, .bool false, .int .i64 0, .string ⟨#[]⟩, .slice none 0 0, .slice none 0 0] 25)).heap.size = W.heap.size + 2 := by rw [alloc_size, alloc_size]
 have h0 := alloc2_keep1 W (.cells #[.int .i64 k, .bool b, .int .i64 i, .string s, .slice al nl cl, .slice am nm cm] 25) (.cells #[.int .i64 0, .bool false, .int .i64 0, .string ⟨#[]⟩, .slice none 0 0, .slice none 0 0] 25)
 have h1 := alloc2_new W (.cells #[.int .i64 k, .bool b, .int .i64 i, .string s, .slice al nl cl, .slice am nm cm] 25) (.cells #[.int .i64 0, .bool false, .int .i64 0, .string ⟨#[]⟩, .slice none 0 0, .slice none 0 0] 25)
 have r0 : ((W.alloc (.cells #[.int .i64 k, .bool b, .int .i64 i, .string s, .slice al nl cl, .slice am nm cm] 25)).alloc (.cells #[.int .i64 0, .bool false, .int .i64 0, .string ⟨#[]⟩, .slice none 0 0, .slice none 0 0] 25)).cell? ⟨W.heap.size, 0, none⟩ = some (.int .i64 k) := by rw [cell_of_block h0]; rfl
 have r1 : ((W.alloc (.cells #[.int .i64 k, .bool b, .int .i64 i, .string s, .slice al nl cl, .slice am nm cm] 25)).alloc (.cells #[.int .i64 0, .bool false, .int .i64 0, .string ⟨#[]⟩, .slice none 0 0, .slice none 0 0] 25)).cell? ⟨W.heap.size, 1, none⟩ = some (.bool b) := by rw [cell_of_block h0]; rfl
 have r2 : ((W.alloc (.cells #[.int .i64 k, .bool b, .int .i64 i, .string s, .slice al nl cl, .slice am nm cm] 25)).alloc (.cells #[.int .i64 0, .bool false, .int .i64 0, .string ⟨#[]⟩, .slice none 0 0, .slice none 0 0] 25)).cell? ⟨W.heap.size, 2, none⟩ = some (.int .i64 i) := by rw [cell_of_block h0]; rfl
 have r3 : ((W.alloc (.cells #[.int .i64 k, .bool b, .int .i64 i, .string s, .slice al nl cl, .slice am nm cm] 25)).alloc (.cells #[.int .i64 0, .bool false, .int .i64 0, .string ⟨#[]⟩, .slice none 0 0, .slice none 0 0] 25)).cell? ⟨W.heap.size, 3, none⟩ = some (.string s) := by rw [cell_of_block h0]; rfl
 have r4 : ((W.alloc (.cells #[.int .i64 k, .bool b, .int .i64 i, .string s, .slice al nl cl, .slice am nm cm] 25)).alloc (.cells #[.int .i64 0, .bool false, .int .i64 0, .string ⟨#[]⟩, .slice none 0 0, .slice none 0 0] 25)).cell? ⟨W.heap.size, 4, none⟩ = some (.slice al nl cl) := by rw [cell_of_block h0]; rfl
 have r5 : ((W.alloc (.cells #[.int .i64 k, .bool b, .int .i64 i, .string s, .slice al nl cl, .slice am nm cm] 25)).alloc (.cells #[.int .i64 0, .bool false, .int .i64 0, .string ⟨#[]⟩, .slice none 0 0, .slice none 0 0] 25)).cell? ⟨W.heap.size, 5, none⟩ = some (.slice am nm cm) := by rw [cell_of_block h0]; rfl
 have CL := hmk (leading_any x S _ ((W.alloc (.cells #[.int .i64 k, .bool b, .int .i64 i, .string s, .slice al nl cl, .slice am nm cm] 25)).alloc (.cells #[.int .i64 0, .bool false, .int .i64 0, .string ⟨#[]⟩, .slice none 0 0, .slice none 0 0] 25)) (tg.below (hb.trans (B0.mono hzW)) tg.z) (lies_below HV.out hSW B0) (fun y hy => Nat.lt_of_lt_of_le (hSW y hy) B0.size) hwx)
 have hG0 := (B0.block G (by omega)).trans hGW
 go_enter Tryz.func59, Tryz.ntmps59
 go_wp2_with fail
 clear r0 r1 r2 r3 r4 r5
 generalize ((W.alloc (.cells #[.int .i64 k, .bool b, .int .i64 i, .string s, .slice al nl cl, .slice am nm cm] 25)).alloc (.cells #[.int .i64 0, .bool false, .int .i64 0, .string ⟨#[]⟩, .slice none 0 0, .slice none 0 0] 25)) = W0 at *
 refine CL.out.mono ?_
 rintro e W2 ⟨B, tv, hB, rfl, own, b2⟩
 have HE := hmk (kid_end (c0 := .int .i64 k) (c1 := .bool b) (c2 := .int .i64 i) (c3 := .string s) (c4 := .slice al nl cl) (c5 := .slice am nm cm) hSW hSG (by omega) (B0.trans (b2.mono (by omega))) (by omega) (by have := b2.size; omega) ((b2.block G (by omega)).trans hG0) own HV.out)
 obtain ⟨ta, tn, tc, rfl⟩ := own.slice
 have t0 := (b2.block W.heap.size (by omega)).trans h0
 have t1 := (b2.block (W.heap.size + 1) (by omega)).trans h1
 have tG := (b2.block G (by omega)).trans hG0
 have r0 : W2.cell? ⟨W.heap.size, 0, none⟩ = some (.int .i64 k) := by rw [cell_of_block t0]; rfl
 have r1 : W2.cell? ⟨W.heap.size, 1, none⟩ = some (.bool b) := by rw [cell_of_block t0]; rfl
 have r2 : W2.cell? ⟨W.heap.size, 2, none⟩ = some (.int .i64 i) := by rw [cell_of_block t0]; rfl
 have r3 : W2.cell? ⟨W.heap.size, 3, none⟩ = some (.string s) := by rw [cell_of_block t0]; rfl
 have r4 : W2.cell? ⟨W.heap.size, 4, none⟩ = some (.slice al nl cl) := by rw [cell_of_block t0]; rfl
 have r5 : W2.cell? ⟨W.heap.size, 5, none⟩ = some (.slice am nm cm) := by rw [cell_of_block t0]; rfl
 have z0 : W2.cell? ⟨W.heap.size + 1, 0, none⟩ = some (.int .i64 0) := by rw [cell_of_block t1]; rfl
 have z1 : W2.cell? ⟨W.heap.size + 1, 1, none⟩ = some (.bool false) := by rw [cell_of_block t1]; rfl
 have z2 : W2.cell? ⟨W.heap.size + 1, 2, none⟩ = some (.int .i64 0) := by rw [cell_of_block t1]; rfl
 have z3 : W2.cell? ⟨W.heap.size + 1, 3, none⟩ = some (.string ⟨#[]⟩) := by rw [cell_of_block t1]; rfl
 have z4 : W2.cell? ⟨W.heap.size + 1, 4, none⟩ = some (.slice none 0 0) := by rw [cell_of_block t1]; rfl
 have z5 : W2.cell? ⟨W.heap.size + 1, 5, none⟩ = some (.slice none 0 0) := by rw [cell_of_block t1]; rfl
 have cG : W2.cell? ⟨G, 0, none⟩ = some (.slice none 0 0) := by rw [cell_of_block tG]; rfl
 have fG := frozen_of_block tG
 have f1 := frozen_of_block t1
 have n0 : ¬ G = W.heap.size := by omega
 have n1 : ¬ G = W.heap.size + 1 := by omega
 have n2 : ¬ W.heap.size = G := by omega
 have n3 : ¬ W.heap.size + 1 = G := by omega
 clear own CL t0 t1 tG h0 h1 hG0
 go_wp2_with fail
 (try simp only [Exit.inBlock, Exit.then])
 refine bodyPost_ret (v := .tuple #[.agg #[.int .i64 k, .bool b, .int .i64 i, .string s, .slice al nl cl, .slice am nm cm], .int .i64 0]) ?_ rfl ?_
 rotate_left
 ·exact ⟨[.int .i64 k, .bool b, .int .i64 i, .string s, .slice al nl cl, .slice am nm cm], rfl, HE.out.1, HE.out.2.1, HE.out.2.2⟩
 ·rw [results_cell_tmp rfl]
  go_simp
def KoPost (r : List ByteArray × Int) (w : World) (e : Ending) (w' : World) : Prop := ∃ tv : Value, e = .returned (.tuple #[tv, .int .i64 r.2]) ∧ OwnS w.heap.size tv r.1 w' ∧ Below w.heap.size w w'
theorem OwnS.low {A B : Nat} {v : Value} {l : List ByteArray} {w : World} (h : OwnS B v l w) (hab : A ≤ B) : OwnS A v l w := by
 obtain ⟨h1, h2⟩ := h
 refine ⟨h1, ?_⟩
 rcases h2 with h2 | ⟨g, cap, cur, e, hg, r⟩
 ·exact .inl h2
 ·exact .inr ⟨g, cap, cur, e, by omega, r⟩
set_option maxHeartbeats 8000000 in
set_option maxRecDepth 100000 in
theorem kids_own (v : V) (p : ByteArray) (S : Nat → Prop) (cs : List Value) (w : World) (tg : Tg w) (hv : v.lies false w S cs) (hS : ∀ b, S b → b < w.heap.size) (hwt : v.wt ≤ 1099511627776) (hp : p.size ≤ 3900000) : Calls Tryz.prog 31 #[.agg cs.toArray, .string p] w (KoPost (kdsF v p) w) := by
 have HV := hmk hv
 obtain ⟨k, b, i, s, al, nl, cl, am, nm, cm, rfl⟩ := V.ten hv
 clear hv
 have B0 : Below w.heap.size w (w.alloc (.cells #[.int .i64 k, .bool b, .int .i64 i, .string s, .slice al nl cl, .slice am nm cm] 25)) := one_belowG w _
 have hz0 : (w.alloc (.cells #[.int .i64 k, .bool b, .int .i64 i, .string s, .slice al nl cl, .slice am nm cm] 25)).heap.size = w.heap.size + 1 := alloc_size _ _
 have h0 := heap_alloc_new w (.cells #[.int .i64 k, .bool b, .int .i64 i, .string s, .slice al nl cl, .slice am nm cm] 25)
 have HT : Hid (∀ W, Below w.heap.size w W → Tg W) := fun W hb => tg.below hb tg.z
 have HRd := hmk (ready_any v p S _ (w.alloc (.cells #[.int .i64 k, .bool b, .int .i64 i, .string s, .slice al nl cl, .slice am nm cm] 25)) ⟨(tg.below B0 tg.z).t.u, by have := (tg.below B0 tg.z).z; omega⟩ (tg.below B0 tg.z).t (lies_below HV.out hS B0) (fun x hx => Nat.lt_of_lt_of_le (hS x hx) B0.size) hwt hp)
 have hmf : ∀ (fn : Fn) (first cap : Array Value) (w : World), (Instr.makeFunc fn first cap).run Tryz.prog w = .ok (.func fn first cap) w := fun _ _ _ _ => rfl
 have r0 : (w.alloc (.cells #[.int .i64 k, .bool b, .int .i64 i, .string s, .slice al nl cl, .slice am nm cm] 25)).cell? ⟨w.heap.size, 0, none⟩ = some (.int .i64 k) := by rw [cell_of_block h0]; rfl
 have r1 : (w.alloc (.cells #[.int .i64 k, .bool b, .int .i64 i, .string s, .slice al nl cl, .slice am nm cm] 25)).cell? ⟨w.heap.size, 1, none⟩ = some (.bool b) := by rw [cell_of_block h0]; rfl
 have r2 : (w.alloc (.cells #[.int .i64 k, .bool b, .int .i64 i, .string s, .slice al nl cl, .slice am nm cm] 25)).cell? ⟨w.heap.size, 2, none⟩ = some (.int .i64 i) := by rw [cell_of_block h0]; rfl
 have r3 : (w.alloc (.cells #[.int .i64 k, .bool b, .int .i64 i, .string s, .slice al nl cl, .slice am nm cm] 25)).cell? ⟨w.heap.size, 3, none⟩ = some (.string s) := by rw [cell_of_block h0]; rfl
 have r4 : (w.alloc (.cells #[.int .i64 k, .bool b, .int .i64 i, .string s, .slice al nl cl, .slice am nm cm] 25)).cell? ⟨w.heap.size, 4, none⟩ = some (.slice al nl cl) := by rw [cell_of_block h0]; rfl
 have r5 : (w.alloc (.cells #[.int .i64 k, .bool b, .int .i64 i, .string s, .slice al nl cl, .slice am nm cm] 25)).cell? ⟨w.heap.size, 5, none⟩ = some (.slice am nm cm) := by rw [cell_of_block h0]; rfl
 go_enter Tryz.func31, Tryz.ntmps31
 go_wp2_with fail
 clear r0 r1 r2 r3 r4 r5
 generalize (w.alloc (.cells #[.int .i64 k, .bool b, .int .i64 i, .string s, .slice al nl cl, .slice am nm cm] 25)) = w0 at *
 refine HRd.out.mono ?_
 rintro e w1 ⟨tv, l, rfl, hd, hn, hl, b1⟩
 have hz1 := b1.size
 have B1 := B0.trans (b1.mono (by omega))
 have t0 := (b1.block w.heap.size (by omega)).trans h0
 by_cases hrd : rdF v p = 0
 ·obtain ⟨hce, o, ho⟩ := rd_zero hrd
  have hG : allG v := chkV_allG 40 v 0 (0, 0, 0) (by rw [← chkE40]; exact hce)
  have hdo : dat l = o := by have := hd hrd; rw [ho] at this; exact this
  have htl : l = toksOf p := by rw [toksOf, ho]; exact toks_of hdo
  have hbd := tok_len ho hdo
  have HF : Hid (kdsF v p = (((wkV (fun x => (x, 0)) v l).2.2.elim [] ldgF), (wkV (fun x => (x, 0)) v l).2.1)) := by
   show _ = _
   have hk := wk_rg l v
   rw [hk.1, hk.2, kdsF, rgetF, if_pos hrd, ← htl]
   split
   ·rename_i h9
    rw [h9]; rfl
   ·rfl
  have b2 : Below w1.heap.size w1 (w1.alloc (.cells #[.slice none 0 0] 42)) := one_belowG _ _
  have hz2 : (w1.alloc (.cells #[.slice none 0 0] 42)).heap.size = w1.heap.size + 1 := alloc_size _ _
  have hbx := heap_alloc_new w1 (.cells #[.slice none 0 0] 42)
  have B2 := B1.trans (b2.mono (by omega))
  have u0 := (b2.block w.heap.size (by omega)).trans t0
  have a0 : (w1.alloc (.cells #[.slice none 0 0] 42)).cell? ⟨w.heap.size, 0, none⟩ = some (.int .i64 k) := by rw [cell_of_block u0]; rfl
  have a1 : (w1.alloc (.cells #[.slice none 0 0] 42)).cell? ⟨w.heap.size, 1, none⟩ = some (.bool b) := by rw [cell_of_block u0]; rfl
  have a2 : (w1.alloc (.cells #[.slice none 0 0] 42)).cell? ⟨w.heap.size, 2, none⟩ = some (.int .i64 i) := by rw [cell_of_block u0]; rfl
  have a3 : (w1.alloc (.cells #[.slice none 0 0] 42)).cell? ⟨w.heap.size, 3, none⟩ = some (.string s) := by rw [cell_of_block u0]; rfl
  have a4 : (w1.alloc (.cells #[.slice none 0 0] 42)).cell? ⟨w.heap.size, 4, none⟩ = some (.slice al nl cl) := by rw [cell_of_block u0]; rfl
  have a5 : (w1.alloc (.cells #[.slice none 0 0] 42)).cell? ⟨w.heap.size, 5, none⟩ = some (.slice am nm cm) := by rw [cell_of_block u0]; rfl
  have hS2 : ∀ x, S x → x < (w1.alloc (.cells #[.slice none 0 0] 42)).heap.size := fun x hx => Nat.lt_of_lt_of_le (hS x hx) B2.size
  have hSG : ¬ S w1.heap.size := fun h => by have := hS _ h; omega
  have eg : ∀ args w, (callFunc 59 args).run Tryz.prog w = .ok (.enter 59 args) w := enters_of Tryz.func59 (by kernel_rfl) rfl
  have hwk := walk_any 59 (.pointer (some ⟨w1.heap.size, 0, none⟩)) (fun x => (x, 0)) S w1.heap.size (Kot w1.heap.size) eg hSG l (fun t ht => by have := hbd.2 t ht; omega) (by omega) v _ tv (w1.alloc (.cells #[.slice none 0 0] 42)) (HT.out _ B2) (lies_below HV.out hS B2) hS2 (by omega) (wt_of_chk (by rw [← chkE40]; exact hce)) hG (TokAt.of_lies (hl.below b2)) (kidsdo S w1.heap.size _ (HT.out _ B2) hS2 hSG (by omega) hbx)
  rw [hrd]
  clear hd hn hl hbd hdo htl ho hce hG
  generalize wkV (fun x => (x, 0)) v l = R3 at *
  obtain ⟨ry, re, rx⟩ := R3
  go_wp2_with fail
  clear a0 a1 a2 a3 a4 a5
  generalize (w1.alloc (.cells #[.slice none 0 0] 42)) = w2 at *
  generalize hG : w1.heap.size = G at *
  refine hwk.mono ?_
  rintro e ww ⟨cw, rfl, _, gw, lw, nw⟩
  have hzw := gw.size
  obtain ⟨kv, hcv, hlv⟩ : ∃ kv, ww.cell? ⟨G, 0, none⟩ = some kv ∧ OwnS w.heap.size kv (rx.elim [] ldgF) ww := by
   cases rx with
   | none =>
    have hb := (nw rfl).block G (by omega)
    exact ⟨.slice none 0 0, by rw [cell_of_block (hb.trans hbx)]; rfl, World.ownsRow_nil _ _ 9 1⟩
   | some x =>
    obtain ⟨W0, W1, hbW, ⟨B, kv, hBB, d1, d2⟩, hsz, hb⟩ := lw x rfl
    have hsW := hbW.size
    refine ⟨kv, ?_, ((d2.move fun y h1 h2 => hb y (.inr (.inr ⟨by omega, h2⟩))).low (by omega))⟩
    have := hb G (.inr (.inl rfl))
    rw [← d1]
    exact World.cell?_of_block (a := ⟨G, 0, none⟩) this
  have hlv' := hmk hlv
  obtain ⟨⟨xa, xc, rfl⟩, _⟩ := hlv.lies
  have Bw : Below w.heap.size w ww := ⟨gw.os.trans B2.os, gw.tape.trans B2.tape, gw.output.trans B2.output, Nat.le_trans B2.size gw.size, fun q hq => (gw.block q (by omega) (fun e => by have := Option.some.inj e; omega)).trans (B2.block q hq)⟩
  clear hwk lw nw
  go_wp2_with fail
  go_ret2
  rw [HF.out]
  exact ⟨_, rfl, hlv'.out, Bw⟩
 ·have HN : Hid (kdsF v p = ([], rdF v p)) := by
   show _ = _
   have e1 : rgetF v p = (nullV, rdF v p) := by rw [rgetF, if_neg hrd]
   rw [kdsF, e1, if_neg hrd]
  obtain ⟨rfl, rfl⟩ := hn hrd
  generalize rdF v p = rd at *
  go_wp2_with fail
  go_ret2
  rw [HN.out]
  exact ⟨_, rfl, World.ownsRow_nil _ _ 9 1, B1⟩
end Go.Proofs.YtgnofbigggmilaaGreatDoor
