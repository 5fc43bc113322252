import Derived.Test.YtgnofbigggmilaaGreatDoorG33
set_option linter.unusedSimpArgs false
set_option linter.unusedVariables false
namespace Go.Proofs.YtgnofbigggmilaaGreatDoor
open Go.RowKit Go.Lib
theorem results_cell2_tmp {fn : Func} {p q u : Tmp} {ty ty' : TypeId} (h : fn.results = #[.cell p ty, .cell q ty', .tmp u]) (tmps : Array Value) (P : Program) (w : World) :
 (results fn tmps).run P w =
  ((asAddr (tmps.getD p undef)).run P w).andThen fun a w₁ => ((loadVar ty a).run P w₁).andThen fun v w₂ => ((asAddr (tmps.getD q undef)).run P w₂).andThen fun a' w₃ => ((loadVar ty' a').run P w₃).andThen fun v' w₄ => .ok (.tuple #[v, v', tmps.getD u undef]) w₄ := by
 simp only [results, h]
 simp [Sem.run_bind, Result.andThen]
theorem box_six {w : World} {g : Nat} {ty : TypeId} {c0 c1 c2 c3 c4 c5 : Value} (h : w.heap[g]? = some (.cells #[c0, c1, c2, c3, c4, c5] ty)) (d0 d1 d2 d3 d4 d5 : Value) : ((((((w.setCell ⟨g, 0, none⟩ (d0)).setCell ⟨g, 1, none⟩ (d1)).setCell ⟨g, 2, none⟩ (d2)).setCell ⟨g, 3, none⟩ (d3)).setCell ⟨g, 4, none⟩ (d4)).setCell ⟨g, 5, none⟩ (d5)).heap[g]? = some (.cells #[d0, d1, d2, d3, d4, d5] ty) := by
 have h0 : (w.setCell ⟨g, 0, none⟩ d0).heap[g]? = some (.cells #[d0, c1, c2, c3, c4, c5] ty) := by rw [set_block h]; rfl
 have h1 : ((w.setCell ⟨g, 0, none⟩ d0).setCell ⟨g, 1, none⟩ d1).heap[g]? = some (.cells #[d0, d1, c2, c3, c4, c5] ty) := by rw [set_block h0]; rfl
 have h2 : (((w.setCell ⟨g, 0, none⟩ d0).setCell ⟨g, 1, none⟩ d1).setCell ⟨g, 2, none⟩ d2).heap[g]? = some (.cells #[d0, d1, d2, c3, c4, c5] ty) := by rw [set_block h1]; rfl
 have h3 : ((((w.setCell ⟨g, 0, none⟩ d0).setCell ⟨g, 1, none⟩ d1).setCell ⟨g, 2, none⟩ d2).setCell ⟨g, 3, none⟩ d3).heap[g]? = some (.cells #[d0, d1, d2, d3, c4, c5] ty) := by rw [set_block h2]; rfl
 have h4 : (((((w.setCell ⟨g, 0, none⟩ d0).setCell ⟨g, 1, none⟩ d1).setCell ⟨g, 2, none⟩ d2).setCell ⟨g, 3, none⟩ d3).setCell ⟨g, 4, none⟩ d4).heap[g]? = some (.cells #[d0, d1, d2, d3, d4, c5] ty) := by rw [set_block h3]; rfl
 rw [set_block h4]; rfl
theorem six_o (w : World) (g : Nat) (d0 d1 d2 d3 d4 d5 : Value) (y : Nat) (hy : y ≠ g) : ((((((w.setCell ⟨g, 0, none⟩ (d0)).setCell ⟨g, 1, none⟩ (d1)).setCell ⟨g, 2, none⟩ (d2)).setCell ⟨g, 3, none⟩ (d3)).setCell ⟨g, 4, none⟩ (d4)).setCell ⟨g, 5, none⟩ (d5)).heap[y]? = w.heap[y]? := by
 repeat (rw [set_other hy])
def TkPost (r : V × V × Int) (w : World) (e : Ending) (w' : World) : Prop := ∃ cs ds : List Value, e = .returned (.tuple #[.agg cs.toArray, .agg ds.toArray, .int .i64 r.2.2]) ∧ r.1.lies false w' (New w w') cs ∧ r.2.1.lies false w' (New w w') ds ∧ Below w.heap.size w w'
theorem tk_fin {w w5 : World} {x y : V} {c0 c1 c2 c3 c4 c5 d0 d1 d2 d3 d4 d5 : Value} (B5 : Below w.heap.size w w5) (hz : w.heap.size + 3 ≤ w5.heap.size) (hx : x.lies false w5 (From (w.heap.size + 3) w5) [c0, c1, c2, c3, c4, c5]) (hy : y.lies false w5 (From (w.heap.size + 3) w5) [d0, d1, d2, d3, d4, d5]) :
 x.lies false ((((((((((((w5.setCell ⟨w.heap.size + 1, 0, none⟩ (c0)).setCell ⟨w.heap.size + 1, 1, none⟩ (c1)).setCell ⟨w.heap.size + 1, 2, none⟩ (c2)).setCell ⟨w.heap.size + 1, 3, none⟩ (c3)).setCell ⟨w.heap.size + 1, 4, none⟩ (c4)).setCell ⟨w.heap.size + 1, 5, none⟩ (c5)).setCell ⟨w.heap.size + 2, 0, none⟩ (d0)).setCell ⟨w.heap.size + 2, 1, none⟩ (d1)).setCell ⟨w.heap.size + 2, 2, none⟩ (d2)).setCell ⟨w.heap.size + 2, 3, none⟩ (d3)).setCell ⟨w.heap.size + 2, 4, none⟩ (d4)).setCell ⟨w.heap.size + 2, 5, none⟩ (d5)) (New w ((((((((((((w5.setCell ⟨w.heap.size + 1, 0, none⟩ (c0)).setCell ⟨w.heap.size + 1, 1, none⟩ (c1)).setCell ⟨w.heap.size + 1, 2, none⟩ (c2)).setCell ⟨w.heap.size + 1, 3, none⟩ (c3)).setCell ⟨w.heap.size + 1, 4, none⟩ (c4)).setCell ⟨w.heap.size + 1, 5, none⟩ (c5)).setCell ⟨w.heap.size + 2, 0, none⟩ (d0)).setCell ⟨w.heap.size + 2, 1, none⟩ (d1)).setCell ⟨w.heap.size + 2, 2, none⟩ (d2)).setCell ⟨w.heap.size + 2, 3, none⟩ (d3)).setCell ⟨w.heap.size + 2, 4, none⟩ (d4)).setCell ⟨w.heap.size + 2, 5, none⟩ (d5))) [c0, c1, c2, c3, c4, c5] ∧ y.lies false ((((((((((((w5.setCell ⟨w.heap.size + 1, 0, none⟩ (c0)).setCell ⟨w.heap.size + 1, 1, none⟩ (c1)).setCell ⟨w.heap.size + 1, 2, none⟩ (c2)).setCell ⟨w.heap.size + 1, 3, none⟩ (c3)).setCell ⟨w.heap.size + 1, 4, none⟩ (c4)).setCell ⟨w.heap.size + 1, 5, none⟩ (c5)).setCell ⟨w.heap.size + 2, 0, none⟩ (d0)).setCell ⟨w.heap.size + 2, 1, none⟩ (d1)).setCell ⟨w.heap.size + 2, 2, none⟩ (d2)).setCell ⟨w.heap.size + 2, 3, none⟩ (d3)).setCell ⟨w.heap.size + 2, 4, none⟩ (d4)).setCell ⟨w.heap.size + 2, 5, none⟩ (d5)) (New w ((((((((((((w5.setCell ⟨w.heap.size + 1, 0, none⟩ (c0)).setCell ⟨w.heap.size + 1, 1, none⟩ (c1)).setCell ⟨w.heap.size + 1, 2, none⟩ (c2)).setCell ⟨w.heap.size + 1, 3, none⟩ (c3)).setCell ⟨w.heap.size + 1, 4, none⟩ (c4)).setCell ⟨w.heap.size + 1, 5, none⟩ (c5)).setCell ⟨w.heap.size + 2, 0, none⟩ (d0)).setCell ⟨w.heap.size + 2, 1, none⟩ (d1)).setCell ⟨w.heap.size + 2, 2, none⟩ (d2)).setCell ⟨w.heap.size + 2, 3, none⟩ (d3)).setCell ⟨w.heap.size + 2, 4, none⟩ (d4)).setCell ⟨w.heap.size + 2, 5, none⟩ (d5))) [d0, d1, d2, d3, d4, d5] ∧ Below w.heap.size w ((((((((((((w5.setCell ⟨w.heap.size + 1, 0, none⟩ (c0)).setCell ⟨w.heap.size + 1, 1, none⟩ (c1)).setCell ⟨w.heap.size + 1, 2, none⟩ (c2)).setCell ⟨w.heap.size + 1, 3, none⟩ (c3)).setCell ⟨w.heap.size + 1, 4, none⟩ (c4)).setCell ⟨w.heap.size + 1, 5, none⟩ (c5)).setCell ⟨w.heap.size + 2, 0, none⟩ (d0)).setCell ⟨w.heap.size + 2, 1, none⟩ (d1)).setCell ⟨w.heap.size + 2, 2, none⟩ (d2)).setCell ⟨w.heap.size + 2, 3, none⟩ (d3)).setCell ⟨w.heap.size + 2, 4, none⟩ (d4)).setCell ⟨w.heap.size + 2, 5, none⟩ (d5)) := by
 have hot1 : ∀ z, z ≠ w.heap.size + 1 → ((((((w5.setCell ⟨w.heap.size + 1, 0, none⟩ (c0)).setCell ⟨w.heap.size + 1, 1, none⟩ (c1)).setCell ⟨w.heap.size + 1, 2, none⟩ (c2)).setCell ⟨w.heap.size + 1, 3, none⟩ (c3)).setCell ⟨w.heap.size + 1, 4, none⟩ (c4)).setCell ⟨w.heap.size + 1, 5, none⟩ (c5)).heap[z]? = w5.heap[z]? := fun z hz => by
  repeat (rw [set_other hz])
 have g1 : w5.grownBy ((((((w5.setCell ⟨w.heap.size + 1, 0, none⟩ (c0)).setCell ⟨w.heap.size + 1, 1, none⟩ (c1)).setCell ⟨w.heap.size + 1, 2, none⟩ (c2)).setCell ⟨w.heap.size + 1, 3, none⟩ (c3)).setCell ⟨w.heap.size + 1, 4, none⟩ (c4)).setCell ⟨w.heap.size + 1, 5, none⟩ (c5)) (some (w.heap.size + 1)) := grown_set (grown_set (grown_set (grown_set (grown_set (grown_set (World.grownBy.refl w5 _) 0 c0) 1 c1) 2 c2) 3 c3) 4 c4) 5 c5
 have s1 : ((((((w5.setCell ⟨w.heap.size + 1, 0, none⟩ (c0)).setCell ⟨w.heap.size + 1, 1, none⟩ (c1)).setCell ⟨w.heap.size + 1, 2, none⟩ (c2)).setCell ⟨w.heap.size + 1, 3, none⟩ (c3)).setCell ⟨w.heap.size + 1, 4, none⟩ (c4)).setCell ⟨w.heap.size + 1, 5, none⟩ (c5)).heap.size = w5.heap.size := by simp only [size_set1]
 generalize ((((((w5.setCell ⟨w.heap.size + 1, 0, none⟩ (c0)).setCell ⟨w.heap.size + 1, 1, none⟩ (c1)).setCell ⟨w.heap.size + 1, 2, none⟩ (c2)).setCell ⟨w.heap.size + 1, 3, none⟩ (c3)).setCell ⟨w.heap.size + 1, 4, none⟩ (c4)).setCell ⟨w.heap.size + 1, 5, none⟩ (c5)) = w6 at *
 have hot2 : ∀ z, z ≠ w.heap.size + 2 → ((((((w6.setCell ⟨w.heap.size + 2, 0, none⟩ (d0)).setCell ⟨w.heap.size + 2, 1, none⟩ (d1)).setCell ⟨w.heap.size + 2, 2, none⟩ (d2)).setCell ⟨w.heap.size + 2, 3, none⟩ (d3)).setCell ⟨w.heap.size + 2, 4, none⟩ (d4)).setCell ⟨w.heap.size + 2, 5, none⟩ (d5)).heap[z]? = w6.heap[z]? := fun z hz => by
  repeat (rw [set_other hz])
 have g2 : w6.grownBy ((((((w6.setCell ⟨w.heap.size + 2, 0, none⟩ (d0)).setCell ⟨w.heap.size + 2, 1, none⟩ (d1)).setCell ⟨w.heap.size + 2, 2, none⟩ (d2)).setCell ⟨w.heap.size + 2, 3, none⟩ (d3)).setCell ⟨w.heap.size + 2, 4, none⟩ (d4)).setCell ⟨w.heap.size + 2, 5, none⟩ (d5)) (some (w.heap.size + 2)) := grown_set (grown_set (grown_set (grown_set (grown_set (grown_set (World.grownBy.refl w6 _) 0 d0) 1 d1) 2 d2) 3 d3) 4 d4) 5 d5
 have s2 : ((((((w6.setCell ⟨w.heap.size + 2, 0, none⟩ (d0)).setCell ⟨w.heap.size + 2, 1, none⟩ (d1)).setCell ⟨w.heap.size + 2, 2, none⟩ (d2)).setCell ⟨w.heap.size + 2, 3, none⟩ (d3)).setCell ⟨w.heap.size + 2, 4, none⟩ (d4)).setCell ⟨w.heap.size + 2, 5, none⟩ (d5)).heap.size = w6.heap.size := by simp only [size_set1]
 generalize ((((((w6.setCell ⟨w.heap.size + 2, 0, none⟩ (d0)).setCell ⟨w.heap.size + 2, 1, none⟩ (d1)).setCell ⟨w.heap.size + 2, 2, none⟩ (d2)).setCell ⟨w.heap.size + 2, 3, none⟩ (d3)).setCell ⟨w.heap.size + 2, 4, none⟩ (d4)).setCell ⟨w.heap.size + 2, 5, none⟩ (d5)) = wf at *
 have key : ∀ z, z ≠ w.heap.size + 1 → z ≠ w.heap.size + 2 → wf.heap[z]? = w5.heap[z]? := fun z h1 h2 => (hot2 z h2).trans (hot1 z h1)
 have kf : ∀ z, From (w.heap.size + 3) w5 z → wf.heap[z]? = w5.heap[z]? := fun z hz => by have := hz.1; exact key z (by omega) (by omega)
 have kn : ∀ z, From (w.heap.size + 3) w5 z → New w wf z := fun z hz => ⟨by have := hz.1; omega, by have := hz.2; omega⟩
 exact ⟨V.lies_keep (fun h => h) kf kn _ hx, V.lies_keep (fun h => h) kf kn _ hy, ⟨g2.os.trans (g1.os.trans B5.os), g2.tape.trans (g1.tape.trans B5.tape), g2.output.trans (g1.output.trans B5.output), by have := B5.size; omega, fun q hq => (key q (by omega) (by omega)).trans (B5.block q hq)⟩⟩
set_option maxHeartbeats 8000000 in
set_option maxRecDepth 100000 in
theorem take_any (v : V) (p : ByteArray) (S : Nat → Prop) (cs : List Value) (w : World) (tg : Tg w) (hv : v.lies false w S cs) (hS : ∀ b, S b → b < w.heap.size) (hwt : v.wt ≤ 2147483648) (hp : p.size ≤ 3900000) : Calls Tryz.prog 12 #[.agg cs.toArray, .string p] w (TkPost (takF v p) w) := by
 have HV := hmk hv
 obtain ⟨k, b, i, s, al, nl, cl, am, nm, cm, rfl⟩ := V.ten hv
 clear hv
 have b2 : Below w.heap.size w ((w.alloc (.cells #[.int .i64 k, .bool b, .int .i64 i, .string s, .slice al nl cl, .slice am nm cm] 25)).alloc (.cells #[.int .i64 0, .bool false, .int .i64 0, .string ⟨#[]⟩, .slice none 0 0, .slice none 0 0] 25)) := two_below w _ _
 have hz2 : ((w.alloc (.cells #[.int .i64 k, .bool b, .int .i64 i, .string s, .slice al nl cl, .slice am nm cm] 25)).alloc (.cells #[.int .i64 0, .bool false, .int .i64 0, .string ⟨#[]⟩, .slice none 0 0, .slice none 0 0] 25)).heap.size = w.heap.size + 2 := by rw [alloc_size, alloc_size]
 have b3 : Below ((w.alloc (.cells #[.int .i64 k, .bool b, .int .i64 i, .string s, .slice al nl cl, .slice am nm cm] 25)).alloc (.cells #[.int .i64 0, .bool false, .int .i64 0, .string ⟨#[]⟩, .slice none 0 0, .slice none 0 0] 25)).heap.size ((w.alloc (.cells #[.int .i64 k, .bool b, .int .i64 i, .string s, .slice al nl cl, .slice am nm cm] 25)).alloc (.cells #[.int .i64 0, .bool false, .int .i64 0, .string ⟨#[]⟩, .slice none 0 0, .slice none 0 0] 25)) (((w.alloc (.cells #[.int .i64 k, .bool b, .int .i64 i, .string s, .slice al nl cl, .slice am nm cm] 25)).alloc (.cells #[.int .i64 0, .bool false, .int .i64 0, .string ⟨#[]⟩, .slice none 0 0, .slice none 0 0] 25)).alloc (.cells #[.int .i64 0, .bool false, .int .i64 0, .string ⟨#[]⟩, .slice none 0 0, .slice none 0 0] 25)) := one_belowG _ _
 have hz3 : (((w.alloc (.cells #[.int .i64 k, .bool b, .int .i64 i, .string s, .slice al nl cl, .slice am nm cm] 25)).alloc (.cells #[.int .i64 0, .bool false, .int .i64 0, .string ⟨#[]⟩, .slice none 0 0, .slice none 0 0] 25)).alloc (.cells #[.int .i64 0, .bool false, .int .i64 0, .string ⟨#[]⟩, .slice none 0 0, .slice none 0 0] 25)).heap.size = w.heap.size + 3 := by rw [alloc_size, hz2]
 have B3 : Below w.heap.size w (((w.alloc (.cells #[.int .i64 k, .bool b, .int .i64 i, .string s, .slice al nl cl, .slice am nm cm] 25)).alloc (.cells #[.int .i64 0, .bool false, .int .i64 0, .string ⟨#[]⟩, .slice none 0 0, .slice none 0 0] 25)).alloc (.cells #[.int .i64 0, .bool false, .int .i64 0, .string ⟨#[]⟩, .slice none 0 0, .slice none 0 0] 25)) := b2.trans (b3.mono (by omega))
 have h0 := (b3.block w.heap.size (by omega)).trans (alloc2_keep1 w (.cells #[.int .i64 k, .bool b, .int .i64 i, .string s, .slice al nl cl, .slice am nm cm] 25) (.cells #[.int .i64 0, .bool false, .int .i64 0, .string ⟨#[]⟩, .slice none 0 0, .slice none 0 0] 25))
 have h1 := (b3.block (w.heap.size + 1) (by omega)).trans (alloc2_new w (.cells #[.int .i64 k, .bool b, .int .i64 i, .string s, .slice al nl cl, .slice am nm cm] 25) (.cells #[.int .i64 0, .bool false, .int .i64 0, .string ⟨#[]⟩, .slice none 0 0, .slice none 0 0] 25))
 have h2 := heap_alloc_new ((w.alloc (.cells #[.int .i64 k, .bool b, .int .i64 i, .string s, .slice al nl cl, .slice am nm cm] 25)).alloc (.cells #[.int .i64 0, .bool false, .int .i64 0, .string ⟨#[]⟩, .slice none 0 0, .slice none 0 0] 25)) (.cells #[.int .i64 0, .bool false, .int .i64 0, .string ⟨#[]⟩, .slice none 0 0, .slice none 0 0] 25)
 rw [hz2] at h2
 obtain ⟨r0, r1, r2, r3, r4, r5⟩ := sixC h0
 have HT : Hid (∀ W, Below w.heap.size w W → Tg W) := fun W hb => tg.below hb tg.z
 have HRd := hmk (ready_any v p S _ (((w.alloc (.cells #[.int .i64 k, .bool b, .int .i64 i, .string s, .slice al nl cl, .slice am nm cm] 25)).alloc (.cells #[.int .i64 0, .bool false, .int .i64 0, .string ⟨#[]⟩, .slice none 0 0, .slice none 0 0] 25)).alloc (.cells #[.int .i64 0, .bool false, .int .i64 0, .string ⟨#[]⟩, .slice none 0 0, .slice none 0 0] 25)) ⟨(tg.below B3 tg.z).t.u, by have := (tg.below B3 tg.z).z; omega⟩ (tg.below B3 tg.z).t (lies_below HV.out hS B3) (fun x hx => Nat.lt_of_lt_of_le (hS x hx) B3.size) (by omega) hp)
 have hmf : ∀ (fn : Fn) (first cap : Array Value) (w : World), (Instr.makeFunc fn first cap).run Tryz.prog w = .ok (.func fn first cap) w := fun _ _ _ _ => rfl
 clear b2 b3 hz2
 go_enter Tryz.func12, Tryz.ntmps12
 go_wp2_with fail
 clear r0 r1 r2 r3 r4 r5
 generalize (((w.alloc (.cells #[.int .i64 k, .bool b, .int .i64 i, .string s, .slice al nl cl, .slice am nm cm] 25)).alloc (.cells #[.int .i64 0, .bool false, .int .i64 0, .string ⟨#[]⟩, .slice none 0 0, .slice none 0 0] 25)).alloc (.cells #[.int .i64 0, .bool false, .int .i64 0, .string ⟨#[]⟩, .slice none 0 0, .slice none 0 0] 25)) = w0 at *
 refine HRd.out.mono ?_
 rintro e w1 ⟨tv, l, rfl, hd, hn, hl, b1⟩
 have hz1 := b1.size
 have B1 := B3.trans (b1.mono (by omega))
 have t0 := (b1.block w.heap.size (by omega)).trans h0
 have t1 := (b1.block (w.heap.size + 1) (by omega)).trans h1
 have t2 := (b1.block (w.heap.size + 2) (by omega)).trans h2
 obtain ⟨z0, z1, z2, z3, z4, z5⟩ := sixC t1
 obtain ⟨y0, y1, y2, y3, y4, y5⟩ := sixC t2
 have f1 := frozen_of_block t1
 have f2 := frozen_of_block t2
 have n12 : ¬ w.heap.size + 1 = w.heap.size + 2 := by omega
 have n21 : ¬ w.heap.size + 2 = w.heap.size + 1 := by omega
 have HNN := hmk (tk_fin (x := nullV) (y := nullV) B1 (by omega) (null_lies _ _) (null_lies _ _))
 by_cases hrd : rdF v p = 0
 ·obtain ⟨hce, o, ho⟩ := rd_zero hrd
  have hG : allG v := rd_allG hrd
  have hdo : dat l = o := by have := hd hrd; rw [ho] at this; exact this
  have htl : l = toksOf p := by rw [toksOf, ho]; exact toks_of hdo
  have hbd := tok_len ho hdo
  rw [hrd]
  by_cases hne : l = []
  ·have HF : Hid (takF v p = (nullV, nullV, 41)) := by show _ = _; rw [takF, if_pos hrd, ← htl, if_pos hne]
   subst hne
   obtain ⟨⟨ta, tc, rfl⟩, _⟩ := hl
   clear hd hn hbd hdo htl ho hce hG
   go_wp2_with fail
   (try simp only [Exit.inBlock, Exit.then])
   refine bodyPost_ret (v := .tuple #[.agg #[.int .i64 0, .bool false, .int .i64 0, .string ⟨#[]⟩, .slice none 0 0, .slice none 0 0], .agg #[.int .i64 0, .bool false, .int .i64 0, .string ⟨#[]⟩, .slice none 0 0, .slice none 0 0], .int .i64 41]) ?_ rfl ?_
   rotate_left
   ·rw [HF.out]
    exact ⟨[.int .i64 0, .bool false, .int .i64 0, .string ⟨#[]⟩, .slice none 0 0, .slice none 0 0], [.int .i64 0, .bool false, .int .i64 0, .string ⟨#[]⟩, .slice none 0 0, .slice none 0 0], rfl, HNN.out.1, HNN.out.2.1, HNN.out.2.2⟩
   ·rw [results_cell2_tmp rfl]
    go_simp
  ·have HF : Hid (takF v p = ((nweF (wkV (takFn (lastT l)) v l.dropLast).1 (wkV (takFn (lastT l)) v l.dropLast).2.1).1, clnV (wasF (lastT l) (wkV (takFn (lastT l)) v l.dropLast).2.2), (nweF (wkV (takFn (lastT l)) v l.dropLast).1 (wkV (takFn (lastT l)) v l.dropLast).2.1).2)) := by show _ = _; rw [takF, if_pos hrd, ← htl, if_neg hne]
   have CS := hmk (psplit_any l tv w1 hl hne (by omega))
   have hlt : (lastT l).size ≤ 3900000 := by
    have hm : lastT l ∈ l := by
     rw [lastT, List.getLastD_eq_getLast?, List.getLast?_eq_some_getLast hne]
     exact List.getLast_mem hne
    exact Nat.le_trans (hbd.2 _ hm) hp
   have hdl : ∀ t ∈ l.dropLast, t.size ≤ 281474976710656 := fun t ht => by have := hbd.2 t (List.dropLast_subset l ht); omega
   have hdn : l.dropLast.length ≤ 4000000 := by rw [List.length_dropLast]; omega
   have hln : ¬ (l.length : Int) = 0 := by have := List.length_pos_iff.2 hne; omega
   obtain ⟨⟨ta, tc, rfl⟩, _⟩ := hl
   have hwv : v.wt ≤ 1114112 := wt_of_chk (by rw [← chkE40]; exact hce)
   have HWt := hmk (wk_heavy (takFn (lastT l)) 0 (fun y => tak_heavy _ _) l.dropLast v)
   have HFw := hmk (fun y => wk_wt (takFn (lastT l)) l.dropLast v y)
   clear hd hn hbd hdo htl ho hce HNN
   go_wp2_with fail
   refine CS.out.mono ?_
   rintro e w2 ⟨tb, rfl, htk, c2⟩
   have hzc := c2.size
   have C2 := B1.trans (c2.mono B1.size)
   generalize lastT l = la at *
   generalize l.dropLast = ld at *
   have d1 : Below w2.heap.size w2 (w2.alloc (.cells #[.string la] 9)) := one_belowG _ _
   have hd1 := heap_alloc_new w2 (.cells #[.string la] 9)
   have md1 : (w2.alloc (.cells #[.string la] 9)).heap.size = w2.heap.size + 1 := alloc_size _ _
   have d2 : Below (w2.alloc (.cells #[.string la] 9)).heap.size (w2.alloc (.cells #[.string la] 9)) ((w2.alloc (.cells #[.string la] 9)).alloc (.cells #[.int .i64 0, .bool false, .int .i64 0, .string ⟨#[]⟩, .slice none 0 0, .slice none 0 0] 25)) := one_belowG _ _
   have hd2 := heap_alloc_new (w2.alloc (.cells #[.string la] 9)) (.cells #[.int .i64 0, .bool false, .int .i64 0, .string ⟨#[]⟩, .slice none 0 0, .slice none 0 0] 25)
   have md2 : ((w2.alloc (.cells #[.string la] 9)).alloc (.cells #[.int .i64 0, .bool false, .int .i64 0, .string ⟨#[]⟩, .slice none 0 0, .slice none 0 0] 25)).heap.size = w2.heap.size + 2 := by rw [alloc_size, md1]
   rw [md1] at hd2
   have hd1' := (d2.block w2.heap.size (by omega)).trans hd1
   have dd : Below w2.heap.size w2 ((w2.alloc (.cells #[.string la] 9)).alloc (.cells #[.int .i64 0, .bool false, .int .i64 0, .string ⟨#[]⟩, .slice none 0 0, .slice none 0 0] 25)) := d1.trans (d2.mono (by omega))
   have D1 := C2.trans (dd.mono C2.size)
   have s0 := (dd.block w.heap.size (by omega)).trans ((c2.block w.heap.size (by omega)).trans t0)
   have s1 := (dd.block (w.heap.size + 1) (by omega)).trans ((c2.block (w.heap.size + 1) (by omega)).trans t1)
   have s2 := (dd.block (w.heap.size + 2) (by omega)).trans ((c2.block (w.heap.size + 2) (by omega)).trans t2)
   obtain ⟨a0, a1, a2, a3, a4, a5⟩ := sixC s0
   have htk' := htk.below dd
   have hSz : ∀ y, S y → y < ((w2.alloc (.cells #[.string la] 9)).alloc (.cells #[.int .i64 0, .bool false, .int .i64 0, .string ⟨#[]⟩, .slice none 0 0, .slice none 0 0] 25)).heap.size := fun y hy => Nat.lt_of_lt_of_le (hS y hy) D1.size
   have hSG : ¬ S (w2.heap.size + 1) := fun h => by have := hS _ h; omega
   have eg : ∀ args w, (callFunc 43 args).run Tryz.prog w = .ok (.enter 43 args) w := enters_of Tryz.func43 (by kernel_rfl) rfl
   have hwk := walk_any2 43 (.pointer (some ⟨w2.heap.size, 0, none⟩)) (.pointer (some ⟨w2.heap.size + 1, 0, none⟩)) (takFn la) S (w2.heap.size + 1) (Tot S (w2.heap.size + 1) la) eg hSG ld hdl hdn v _ tb ((w2.alloc (.cells #[.string la] 9)).alloc (.cells #[.int .i64 0, .bool false, .int .i64 0, .string ⟨#[]⟩, .slice none 0 0, .slice none 0 0] 25)) (HT.out _ D1) (lies_below HV.out hS D1) hSz (by omega) hwv hG htk' (takdo S (w2.heap.size + 1) w2.heap.size ((w2.alloc (.cells #[.string la] 9)).alloc (.cells #[.int .i64 0, .bool false, .int .i64 0, .string ⟨#[]⟩, .slice none 0 0, .slice none 0 0] 25)) (HT.out _ D1) la hSz hSG (by omega) (by omega) hd1' (by omega) hd2)
   clear CS hdl htk htk' hG z0 z1 z2 z3 z4 z5 y0 y1 y2 y3 y4 y5 f1 f2
   generalize wkV (takFn la) v ld = R3 at *
   obtain ⟨ry, re, rx⟩ := R3
   simp only at HF HWt HFw
   go_wp2_with fail
   clear a0 a1 a2 a3 a4 a5
   generalize hGd : w2.heap.size + 1 = G at *
   generalize ((w2.alloc (.cells #[.string la] 9)).alloc (.cells #[.int .i64 0, .bool false, .int .i64 0, .string ⟨#[]⟩, .slice none 0 0, .slice none 0 0] 25)) = w3 at *
   refine hwk.mono ?_
   rintro e ww ⟨cw, rfl, hlw, gw, lw, nw⟩
   have hzw := gw.size
   obtain ⟨csx, hrx, hlx⟩ : ∃ csx, rowAt ww G 0 csx ∧ (wasF la rx).lies false ww S csx := by
    cases rx with
    | none =>
     have hb := (nw rfl).block G (by omega)
     exact ⟨[.int .i64 0, .bool false, .int .i64 0, .string ⟨#[]⟩, .slice none 0 0, .slice none 0 0], fun q u hu => by rw [Nat.zero_add, cell_of_block (hb.trans hd2)]; simpa using hu, null_lies _ _⟩
    | some x =>
     obtain ⟨W0, W1, hb0, hT, _, hb⟩ := lw x rfl
     have hg := hb G (.inr (.inl rfl))
     by_cases h0 : (ledF x la).2 = 0
     ·obtain ⟨csx, e1, e2⟩ := hT.1 h0
      refine ⟨csx, e1.keep hg, ?_⟩
      show (if (ledF x la).2 = 0 then _ else _ : V).lies _ _ _ _
      rw [if_pos h0]
      exact V.lies_keep (fun h => h) (fun y hy => hb y (.inl hy)) (fun _ h => h) _ e2
     ·have e1 := (hg.trans (hT.2 h0)).trans ((hb0.block G (by omega)).trans hd2)
      refine ⟨[.int .i64 0, .bool false, .int .i64 0, .string ⟨#[]⟩, .slice none 0 0, .slice none 0 0], fun q u hu => by rw [Nat.zero_add, cell_of_block e1]; simpa using hu, ?_⟩
      show (if (ledF x la).2 = 0 then _ else _ : V).lies _ _ _ _
      rw [if_neg h0]
      exact null_lies _ _
   have hxw : (wasF la rx).wt ≤ 1099511627776 := by
    cases rx with
    | none => show nullV.wt ≤ _; rw [null_wt]; omega
    | some x =>
     have h1 := HFw.out x rfl
     show (if (ledF x la).2 = 0 then _ else _ : V).wt ≤ _
     by_cases h0 : (ledF x la).2 = 0
     ·rw [if_pos h0]
      have := kid_wt (led_kid h0)
      omega
     ·rw [if_neg h0, null_wt]; omega
   have Bw : Below w.heap.size w ww := ⟨gw.os.trans D1.os, gw.tape.trans D1.tape, gw.output.trans D1.output, Nat.le_trans D1.size gw.size, fun q hq => (gw.block q (by omega) (fun e => by have := Option.some.inj e; omega)).trans (D1.block q hq)⟩
   have v1 := (gw.block (w.heap.size + 1) (by omega) (fun e => by have := Option.some.inj e; omega)).trans s1
   have v2 := (gw.block (w.heap.size + 2) (by omega) (fun e => by have := Option.some.inj e; omega)).trans s2
   obtain ⟨yk, yb, yi, ys, yal, ynl, ycl, yam, ynm, ycm, rfl⟩ := V.ten hlw
   have hnw := nwe_any ry re (OrNew S w3 ww) _ ww ⟨(HT.out ww Bw).t.u, by have := (HT.out ww Bw).z; omega⟩ hlw (fun y hy => by rcases hy with hy | hy; exact Nat.lt_of_lt_of_le (hS y hy) Bw.size; exact hy.2) (Nat.le_trans HWt.out (by omega))
   clear hwk hlw lw nw HFw HWt
   go_wp2_with fail
   refine hnw.mono ?_
   rintro e wn ⟨csu, rfl, hlu, bu⟩
   obtain ⟨uk, ub, ui, us, ual, unl, ucl, uam, unm, ucm, rfl⟩ := V.ten hlu
   have hzn := bu.size
   have Bn := Bw.trans (bu.mono Bw.size)
   have q1 : Below wn.heap.size wn (wn.alloc (.cells #[.int .i64 uk, .bool ub, .int .i64 ui, .string us, .slice ual unl ucl, .slice uam unm ucm] 25)) := one_belowG _ _
   have hq := heap_alloc_new wn (.cells #[.int .i64 uk, .bool ub, .int .i64 ui, .string us, .slice ual unl ucl, .slice uam unm ucm] 25)
   have mq : wn.heap.size < (wn.alloc (.cells #[.int .i64 uk, .bool ub, .int .i64 ui, .string us, .slice ual unl ucl, .slice uam unm ucm] 25)).heap.size := by rw [alloc_size]; omega
   have Bq := Bn.trans (q1.mono Bn.size)
   have bwq := bu.trans (q1.mono bu.size)
   have x1 := (bwq.block (w.heap.size + 1) (by omega)).trans v1
   have x2 := (bwq.block (w.heap.size + 2) (by omega)).trans v2
   have hrq : rowAt (wn.alloc (.cells #[.int .i64 uk, .bool ub, .int .i64 ui, .string us, .slice ual unl ucl, .slice uam unm ucm] 25)) G 0 csx := hrx.keep (bwq.block G (by omega))
   have hlq : (wasF la rx).lies false (wn.alloc (.cells #[.int .i64 uk, .bool ub, .int .i64 ui, .string us, .slice ual unl ucl, .slice uam unm ucm] 25)) S csx := V.lies_keep (fun h => h) (fun y hy => bwq.block y (by have := hS y hy; have := Bw.size; omega)) (fun _ h => h) _ hlx
   have HU : Hid ((nweF ry re).1.lies false (wn.alloc (.cells #[.int .i64 uk, .bool ub, .int .i64 ui, .string us, .slice ual unl ucl, .slice uam unm ucm] 25)) (From (w.heap.size + 3) (wn.alloc (.cells #[.int .i64 uk, .bool ub, .int .i64 ui, .string us, .slice ual unl ucl, .slice uam unm ucm] 25))) [.int .i64 uk, .bool ub, .int .i64 ui, .string us, .slice ual unl ucl, .slice uam unm ucm]) := V.lies_keep (fun h => h) (fun z hz => q1.block z hz.2) (fun z hz => ⟨by have := hz.1; omega, by have := hz.2; omega⟩) _ hlu
   obtain ⟨ak, ab, ai, az, aal, anl, acl, aam, anm, acm, rfl⟩ := V.ten hlq
   have hXn : wn.heap.size ≠ w.heap.size + 1 ∧ wn.heap.size ≠ w.heap.size + 2 ∧ wn.heap.size ≠ G := by omega
   have hGn : G ≠ w.heap.size + 1 ∧ G ≠ w.heap.size + 2 := by omega
   have hlqd : (wasF la rx).lies false (wn.alloc (.cells #[.int .i64 uk, .bool ub, .int .i64 ui, .string us, .slice ual unl ucl, .slice uam unm ucm] 25)).drew S [.int .i64 ak, .bool ab, .int .i64 ai, .string az, .slice aal anl acl, .slice aam anm acm] := V.lies_keep (w := wn.alloc (.cells #[.int .i64 uk, .bool ub, .int .i64 ui, .string us, .slice ual unl ucl, .slice uam unm ucm] 25)) (w' := (wn.alloc (.cells #[.int .i64 uk, .bool ub, .int .i64 ui, .string us, .slice ual unl ucl, .slice uam unm ucm] 25)).drew) (fun h => h) (fun _ _ => rfl) (fun _ h => h) _ hlq
   have CC := hmk (clone_any (wasF la rx) false S _ (wn.alloc (.cells #[.int .i64 uk, .bool ub, .int .i64 ui, .string us, .slice ual unl ucl, .slice uam unm ucm] 25)).drew ⟨(HT.out _ Bq.drew).t.u, by have := (HT.out _ Bq.drew).z; omega⟩ hlqd (fun y hy => by have := hS y hy; have := Bq.size; exact Nat.lt_of_lt_of_le (hS y hy) Bq.size) hxw)
   clear hlu bu hnw hlx hrx
   generalize nweF ry re = NF at *
   obtain ⟨ny, ne⟩ := NF
   generalize wasF la rx = WS at *
   go_wp2_with fail
   have hszq : wn.heap.size < (wn.alloc (.cells #[.int .i64 uk, .bool ub, .int .i64 ui, .string us, .slice ual unl ucl, .slice uam unm ucm] 25)).heap.size := mq
   generalize hXd : wn.heap.size = X at *
   generalize (wn.alloc (.cells #[.int .i64 uk, .bool ub, .int .i64 ui, .string us, .slice ual unl ucl, .slice uam unm ucm] 25)) = wq at *
   refine wp_region_held_drew (S := fun W => W.heap[X]? = some (.cells #[.int .i64 uk, .bool ub, .int .i64 ui, .string us, .slice ual unl ucl, .slice uam unm ucm] 25) ∧ rowAt W G 0 [.int .i64 ak, .bool ab, .int .i64 ai, .string az, .slice aal anl acl, .slice aam anm acm]) (by kernel_rfl) ⟨hq, hrq⟩ (fun hHeld => ?_)
   (refine tkA 0 ?_ ?_ ?_; rotate_left 1; (intro W0 hSw; (have o0 : W0.cell? ⟨X, 0, none⟩ = some (.int .i64 uk) := by rw [cell_of_block hSw.1]; rfl); (have o1 : W0.cell? ⟨X, 1, none⟩ = some (.bool ub) := by rw [cell_of_block hSw.1]; rfl); (have o2 : W0.cell? ⟨X, 2, none⟩ = some (.int .i64 ui) := by rw [cell_of_block hSw.1]; rfl); (have o3 : W0.cell? ⟨X, 3, none⟩ = some (.string us) := by rw [cell_of_block hSw.1]; rfl); (have o4 : W0.cell? ⟨X, 4, none⟩ = some (.slice ual unl ucl) := by rw [cell_of_block hSw.1]; rfl); (have o5 : W0.cell? ⟨X, 5, none⟩ = some (.slice uam unm ucm) := by rw [cell_of_block hSw.1]; rfl); go_simp; (try with_reducible rfl)); (try simp only [Act.put, zA, zB, zC]))
   (refine tkA 1 ?_ ?_ ?_; rotate_left 1; (intro W0 hSw; (obtain ⟨o0, o1, o2, o3, o4, o5⟩ := row6z hSw.2); go_simp; (try with_reducible rfl)); (try simp only [Act.put, zA, zB, zC]))
   (refine tjA 3 ?_; (try simp only [Act.put, zA, zB, zC]))
   refine ryA [2] ?_
   refine rA1 fun K hK => ?_
   go_simp
   refine CC.out.mono ?_
   rintro e w5 ⟨csm, rfl, hl5, b5⟩
   have b5' : Below wq.heap.size wq w5 := ⟨b5.os, b5.tape, b5.output, b5.size, b5.block⟩
   have hz5 : wq.heap.size ≤ w5.heap.size := b5'.size
   have B5 := Bq.trans (b5'.mono Bq.size)
   obtain ⟨mk_, mb, mi, ms, mal, mnl, mcl, mam, mnm, mcm, rfl⟩ := V.ten hl5
   have HFN := hmk (tk_fin B5 (by omega) (V.lies_keep (fun h => h) (fun z hz => b5'.block z hz.2) (fun z hz => ⟨hz.1, Nat.lt_of_lt_of_le hz.2 hz5⟩) _ HU.out) (V.lies_keep (fun h => h) (fun _ _ => rfl) (fun z hz => ⟨by have h9 : wq.heap.size ≤ z := hz.1; omega, hz.2⟩) _ hl5))
   have p1 := (b5'.block (w.heap.size + 1) (by omega)).trans x1
   have p2 := (b5'.block (w.heap.size + 2) (by omega)).trans x2
   have pX := (b5'.block X (by omega)).trans hq
   have pG : rowAt w5 G 0 [.int .i64 ak, .bool ab, .int .i64 ai, .string az, .slice aal anl acl, .slice aam anm acm] := hrq.keep (b5'.block G (by omega))
   go_simp
   refine hK.out _ _ ⟨pX, pG⟩ (fun hHeld => ?_)
   clear hK K CC hl5
   (try simp only [Act.put, zA, zB, zC])
   obtain ⟨z0, z1, z2, z3, z4, z5⟩ := sixC p1
   have f1 := frozen_of_block p1
   refine ryA [4] ?_
   refine rA1 fun K hK => ?_
   go_simp
   have k2 := (six_o w5 (w.heap.size + 1) (.int .i64 uk) (.bool ub) (.int .i64 ui) (.string us) (.slice ual unl ucl) (.slice uam unm ucm) (w.heap.size + 2) (by omega)).trans p2
   have kX := (six_o w5 (w.heap.size + 1) (.int .i64 uk) (.bool ub) (.int .i64 ui) (.string us) (.slice ual unl ucl) (.slice uam unm ucm) X (by omega)).trans pX
   have kG : rowAt ((((((w5.setCell ⟨w.heap.size + 1, 0, none⟩ (.int .i64 uk)).setCell ⟨w.heap.size + 1, 1, none⟩ (.bool ub)).setCell ⟨w.heap.size + 1, 2, none⟩ (.int .i64 ui)).setCell ⟨w.heap.size + 1, 3, none⟩ (.string us)).setCell ⟨w.heap.size + 1, 4, none⟩ (.slice ual unl ucl)).setCell ⟨w.heap.size + 1, 5, none⟩ (.slice uam unm ucm)) G 0 [.int .i64 ak, .bool ab, .int .i64 ai, .string az, .slice aal anl acl, .slice aam anm acm] := pG.keep (six_o w5 (w.heap.size + 1) (.int .i64 uk) (.bool ub) (.int .i64 ui) (.string us) (.slice ual unl ucl) (.slice uam unm ucm) G (by omega))
   have kB := box_six p1 (.int .i64 uk) (.bool ub) (.int .i64 ui) (.string us) (.slice ual unl ucl) (.slice uam unm ucm)
   generalize hw6 : ((((((w5.setCell ⟨w.heap.size + 1, 0, none⟩ (.int .i64 uk)).setCell ⟨w.heap.size + 1, 1, none⟩ (.bool ub)).setCell ⟨w.heap.size + 1, 2, none⟩ (.int .i64 ui)).setCell ⟨w.heap.size + 1, 3, none⟩ (.string us)).setCell ⟨w.heap.size + 1, 4, none⟩ (.slice ual unl ucl)).setCell ⟨w.heap.size + 1, 5, none⟩ (.slice uam unm ucm)) = w6 at *
   refine hK.out _ _ ⟨kX, kG⟩ (fun hHeld => ?_)
   clear hK K z0 z1 z2 z3 z4 z5 f1
   (try simp only [Act.put, zA, zB, zC])
   obtain ⟨z0, z1, z2, z3, z4, z5⟩ := sixC k2
   have f2 := frozen_of_block k2
   refine ryA [5] ?_
   refine rA1 fun K hK => ?_
   go_simp
   have lX := (six_o w6 (w.heap.size + 2) (.int .i64 mk_) (.bool mb) (.int .i64 mi) (.string ms) (.slice mal mnl mcl) (.slice mam mnm mcm) X (by omega)).trans kX
   have lG : rowAt ((((((w6.setCell ⟨w.heap.size + 2, 0, none⟩ (.int .i64 mk_)).setCell ⟨w.heap.size + 2, 1, none⟩ (.bool mb)).setCell ⟨w.heap.size + 2, 2, none⟩ (.int .i64 mi)).setCell ⟨w.heap.size + 2, 3, none⟩ (.string ms)).setCell ⟨w.heap.size + 2, 4, none⟩ (.slice mal mnl mcl)).setCell ⟨w.heap.size + 2, 5, none⟩ (.slice mam mnm mcm)) G 0 [.int .i64 ak, .bool ab, .int .i64 ai, .string az, .slice aal anl acl, .slice aam anm acm] := kG.keep (six_o w6 (w.heap.size + 2) (.int .i64 mk_) (.bool mb) (.int .i64 mi) (.string ms) (.slice mal mnl mcl) (.slice mam mnm mcm) G (by omega))
   have l1 := (six_o w6 (w.heap.size + 2) (.int .i64 mk_) (.bool mb) (.int .i64 mi) (.string ms) (.slice mal mnl mcl) (.slice mam mnm mcm) (w.heap.size + 1) (by omega)).trans kB
   have l2 := box_six k2 (.int .i64 mk_) (.bool mb) (.int .i64 mi) (.string ms) (.slice mal mnl mcl) (.slice mam mnm mcm)
   generalize hw7 : ((((((w6.setCell ⟨w.heap.size + 2, 0, none⟩ (.int .i64 mk_)).setCell ⟨w.heap.size + 2, 1, none⟩ (.bool mb)).setCell ⟨w.heap.size + 2, 2, none⟩ (.int .i64 mi)).setCell ⟨w.heap.size + 2, 3, none⟩ (.string ms)).setCell ⟨w.heap.size + 2, 4, none⟩ (.slice mal mnl mcl)).setCell ⟨w.heap.size + 2, 5, none⟩ (.slice mam mnm mcm)) = w7 at *
   refine hK.out _ _ ⟨lX, lG⟩ (fun hHeld => ?_)
   clear hK K z0 z1 z2 z3 z4 z5 f2
   (try simp only [Act.put, zA, zB, zC])
   (refine tjA 6 ?_; (try simp only [Act.put, zA, zB, zC]))
   refine wpAnyH_done (by kernel_rfl) ?_ _
   (try dsimp only [Act.put, List.getElem_toArray, List.getElem_cons_succ, List.getElem_cons_zero, List.setIfInBounds_toArray, List.set_cons_zero, List.set_cons_succ])
   clear hHeld
   obtain ⟨v0, v1, v2, v3, v4, v5⟩ := sixC l1
   obtain ⟨y0, y1, y2, y3, y4, y5⟩ := sixC l2
   go_wp2_with fail
   (try simp only [Exit.inBlock, Exit.then])
   refine bodyPost_ret (v := .tuple #[.agg #[.int .i64 uk, .bool ub, .int .i64 ui, .string us, .slice ual unl ucl, .slice uam unm ucm], .agg #[.int .i64 mk_, .bool mb, .int .i64 mi, .string ms, .slice mal mnl mcl, .slice mam mnm mcm], .int .i64 ne]) ?_ rfl ?_
   rotate_left
   ·rw [HF.out]
    exact ⟨[.int .i64 uk, .bool ub, .int .i64 ui, .string us, .slice ual unl ucl, .slice uam unm ucm], [.int .i64 mk_, .bool mb, .int .i64 mi, .string ms, .slice mal mnl mcl, .slice mam mnm mcm], rfl, HFN.out.1, HFN.out.2.1, HFN.out.2.2⟩
   ·rw [results_cell2_tmp rfl]
    go_simp
 ·have HN : Hid (takF v p = (nullV, nullV, rdF v p)) := by show _ = _; rw [takF, if_neg hrd]
  obtain ⟨rfl, rfl⟩ := hn hrd
  generalize rdF v p = rd at *
  go_wp2_with fail
  (try simp only [Exit.inBlock, Exit.then])
  refine bodyPost_ret (v := .tuple #[.agg #[.int .i64 0, .bool false, .int .i64 0, .string ⟨#[]⟩, .slice none 0 0, .slice none 0 0], .agg #[.int .i64 0, .bool false, .int .i64 0, .string ⟨#[]⟩, .slice none 0 0, .slice none 0 0], .int .i64 rd]) ?_ rfl ?_
  rotate_left
  ·rw [HN.out]
   exact ⟨[.int .i64 0, .bool false, .int .i64 0, .string ⟨#[]⟩, .slice none 0 0, .slice none 0 0], [.int .i64 0, .bool false, .int .i64 0, .string ⟨#[]⟩, .slice none 0 0, .slice none 0 0], rfl, HNN.out.1, HNN.out.2.1, HNN.out.2.2⟩
  ·rw [results_cell2_tmp rfl]
   go_simp
end Go.Proofs.YtgnofbigggmilaaGreatDoor
