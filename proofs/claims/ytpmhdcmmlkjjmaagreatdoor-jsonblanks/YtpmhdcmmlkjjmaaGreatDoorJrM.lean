import Derived.Test.YtpmhdcmmlkjjmaaGreatDoorJrL
import Derived.Defers
import Derived.Recover
/- json.read: the reader that gave up is caught. -/
set_option linter.unusedSimpArgs false
set_option linter.unusedVariables false
set_option maxRecDepth 100000
namespace Go.Proofs.YtpmhdcmmlkjjmaaGreatDoor
open Go.RowKit Go.Lib
theorem catch_idle (p q : Value) (w : World) :
    CallsD Tryz.prog 44 #[p, q] .returning w fun e u' w' => e = .returned (.tuple #[]) ∧ u' = .returning ∧ w' = w := by
  refine callsD_of_wpS Tryz.func44 rfl fun c₀ cs hu => ?_
  apply wpS_seq
  apply wpS_region
  simp [wpOpsS, go_sem, recoverD, hu, Tryz.ntmps44, Exit.thenS]
  apply wpS_seq
  apply wpS_region
  simp [wpOpsS, go_sem, recoverD, hu, Exit.thenS]
  refine wpS_cond (t := false) (by simp [Act.eval, Array.replicate]) ?_
  simp only [Bool.false_eq_true, if_false]
  refine wpS_of_wp (wp_skip ?_)
  cases c₀
  simp_all [bodyPostS, results, Tryz.results44]
set_option maxHeartbeats 4000000 in
theorem catch_fault (ba be k er : Nat) (x y : Int) (w : World) (ha : w.heap[ba]? = some (.cells #[.int .i64 x] 3 (0, 0))) (hb : w.heap[be]? = some (.cells #[.int .i64 y] 29 (0, 0))) (hne : ba ≠ be) :
    CallsD Tryz.prog 44 #[.pointer (some ⟨ba, 0, none⟩), .pointer (some ⟨be, 0, none⟩)] (.panicking [{ v := .iface 77 (.agg #[.int .i64 (k : Int), .int .i64 (er : Int)]), recovered := false }]) w fun e u' w' =>
      e = .returned (.tuple #[]) ∧ u' = .panicking [{ v := .iface 77 (.agg #[.int .i64 (k : Int), .int .i64 (er : Int)]), recovered := true }] ∧ w'.heap[ba]? = some (.cells #[.int .i64 (k : Int)] 3 (0, 0)) ∧ w'.heap[be]? = some (.cells #[.int .i64 (er : Int)] 29 (0, 0)) ∧ G2 ba be w w' := by
  refine callsD_of_wpS Tryz.func44 rfl fun c₀ cs hu => ?_
  apply wpS_seq
  apply wpS_region
  simp [wpOpsS, go_sem, recoverD, hu, Tryz.ntmps44, Exit.thenS]
  apply wpS_seq
  apply wpS_region
  simp [wpOpsS, go_sem, recoverD, hu, Exit.thenS]
  refine wpS_cond (t := true) (by simp [Act.eval, Array.replicate]) ?_
  simp only [if_true]
  simp only [Array.replicate_succ, Array.replicate_zero, List.push_toArray, List.append_toArray, List.nil_append, List.cons_append, List.setIfInBounds_toArray, List.set_cons_zero, List.set_cons_succ]
  refine wpS_of_wp ?_
  have hta : ∀ W : World, (Instr.typeAssert (.iface 77 (.agg #[.int .i64 (k : Int), .int .i64 (er : Int)])) 20 77 false).run Tryz.prog W = .ok (.agg #[.int .i64 (k : Int), .int .i64 (er : Int)]) W := fun W => by kernel_rfl
  have bA : Below w.heap.size w (w.alloc (.cells #[.int .i64 (k : Int), .int .i64 (er : Int)] 77)) := (Below.refl _ _).alloc (Nat.le_refl _) _
  have hN := heap_alloc_new w (.cells #[.int .i64 (k : Int), .int .i64 (er : Int)] 77)
  have lta : ba < w.heap.size := by
    rcases Nat.lt_or_ge ba w.heap.size with q | q
    · exact q
    · rw [Array.getElem?_eq_none q] at ha; cases ha
  have ltb : be < w.heap.size := by
    rcases Nat.lt_or_ge be w.heap.size with q | q
    · exact q
    · rw [Array.getElem?_eq_none q] at hb; cases hb
  have ha1 := (bA.block ba lta).trans ha
  have hb1 := (bA.block be ltb).trans hb
  have HG : Hid (G2 ba be w (w.alloc (.cells #[.int .i64 (k : Int), .int .i64 (er : Int)] 77))) := G2.of (grown_belowS bA ba)
  clear ha hb bA
  go_wp2
  generalize w.alloc (.cells #[.int .i64 (k : Int), .int .i64 (er : Int)] 77) = w1 at *
  have c0 : w1.cell? ⟨w.heap.size, 0, none⟩ = some (.int .i64 (k : Int)) := cell_of_block hN 0
  have c1 : w1.cell? ⟨w.heap.size, 1, none⟩ = some (.int .i64 (er : Int)) := cell_of_block hN 1
  have ca : w1.cell? ⟨ba, 0, none⟩ = some (.int .i64 x) := cell_of_block ha1 0
  have cb : w1.cell? ⟨be, 0, none⟩ = some (.int .i64 y) := cell_of_block hb1 0
  have fa := frozen_of_block ha1 0
  have fb := frozen_of_block hb1 0
  have n1 : w.heap.size ≠ ba := by omega
  have n2 : w.heap.size ≠ be := by omega
  have HA := hmk ha1
  have HB := hmk hb1
  clear ha1 hb1 hN
  go_region
  have E1 : ((w1.setCell ⟨ba, 0, none⟩ (.int .i64 (k : Int))).setCell ⟨be, 0, none⟩ (.int .i64 (er : Int))).drew.heap[ba]? = some (.cells #[.int .i64 (k : Int)] 3 (0, 0)) := by
    show ((w1.setCell ⟨ba, 0, none⟩ (.int .i64 (k : Int))).setCell ⟨be, 0, none⟩ (.int .i64 (er : Int))).heap[ba]? = _
    rw [Below.heap_setCell _ _ _ _ hne, set_block HA.out]
    rfl
  have E2 : ((w1.setCell ⟨ba, 0, none⟩ (.int .i64 (k : Int))).setCell ⟨be, 0, none⟩ (.int .i64 (er : Int))).drew.heap[be]? = some (.cells #[.int .i64 (er : Int)] 29 (0, 0)) := by
    show ((w1.setCell ⟨ba, 0, none⟩ (.int .i64 (k : Int))).setCell ⟨be, 0, none⟩ (.int .i64 (er : Int))).heap[be]? = _
    rw [set_block (c := #[.int .i64 y]) ((Below.heap_setCell _ _ _ _ (Ne.symm hne)).trans HB.out)]
    rfl
  have E3 : G2 ba be w ((w1.setCell ⟨ba, 0, none⟩ (.int .i64 (k : Int))).setCell ⟨be, 0, none⟩ (.int .i64 (er : Int))).drew :=
    HG.out.trans ((G2.of (grown_set1 w1 ba 0 _)).trans ((G2.ofb (grown_set1 _ be 0 _)).trans (G2.of (grown_drew _ _))))
  generalize ((w1.setCell ⟨ba, 0, none⟩ (.int .i64 (k : Int))).setCell ⟨be, 0, none⟩ (.int .i64 (er : Int))).drew = w2 at *
  clear HA HB HG fa fb ca cb c0 c1 hta
  show bodyPostS _ _ _ _ _ _ _ _ _
  simp [bodyPostS, results, Tryz.results44]
  exact ⟨E1, E2, E3⟩
/-- what read answers -/
def ReP (R : Except Flt V) (w : World) (e : Ending) (w' : World) : Prop :=
  (match R with
  | .ok v => ∃ cs, e = .returned (.tuple #[.agg cs.toArray, .int .i64 (-1), .int .i64 0]) ∧ v.lies false w' (New w w') cs
  | .error f => e = .returned (.tuple #[.agg #[.int .i64 0, .bool false, .int .i64 0, .string ⟨#[]⟩, .slice none 0 0, .slice none 0 0], .int .i64 (f.1 : Int), .int .i64 (f.2 : Int)])) ∧ Below w.heap.size w w'
theorem four_allocs (w : World) (o0 o1 o2 o3 : Obj) : (((((w.alloc o0).alloc o1).alloc o2).alloc o3).heap[w.heap.size]? = some o0 ∧ ((((w.alloc o0).alloc o1).alloc o2).alloc o3).heap[w.heap.size + 1]? = some o1 ∧ ((((w.alloc o0).alloc o1).alloc o2).alloc o3).heap[w.heap.size + 1 + 1]? = some o2 ∧ ((((w.alloc o0).alloc o1).alloc o2).alloc o3).heap[w.heap.size + 1 + 1 + 1]? = some o3) ∧ Below w.heap.size w ((((w.alloc o0).alloc o1).alloc o2).alloc o3) ∧ ((((w.alloc o0).alloc o1).alloc o2).alloc o3).heap.size = w.heap.size + 4 := by
  obtain ⟨h0, h1, h2⟩ := three_allocs w o0 o1 o2
  have z : (((w.alloc o0).alloc o1).alloc o2).heap.size = w.heap.size + 1 + 1 + 1 := by rw [alloc_size, alloc_size, alloc_size]
  refine ⟨⟨?_, ?_, ?_, ?_⟩, (three_below w o0 o1 o2).alloc (by rw [z]; omega) _, by rw [alloc_size, z]⟩
  · rw [Below.heap_alloc _ _ _ (by rw [z]; omega)]; exact h0
  · rw [Below.heap_alloc _ _ _ (by rw [z]; omega)]; exact h1
  · rw [Below.heap_alloc _ _ _ (by rw [z]; omega)]; exact h2
  · have := heap_alloc_new (((w.alloc o0).alloc o1).alloc o2) o3
    rwa [z] at this
theorem fin8 {B : Nat} (W : World) (h0 : W.heap[B]? = some z46) (h1 : W.heap[B + 1]? = some (.cells #[.int .i64 0] 3)) (h2 : W.heap[B + 1 + 1]? = some (.cells #[.int .i64 0] 29)) (v0 v1 v2 v3 v4 v5 va vb : Value) :
    ∃ Wf, Wf = (((((((W.setCell ⟨B, 0, none⟩ v0).setCell ⟨B, 1, none⟩ v1).setCell ⟨B, 2, none⟩ v2).setCell ⟨B, 3, none⟩ v3).setCell ⟨B, 4, none⟩ v4).setCell ⟨B, 5, none⟩ v5).setCell ⟨B + 1, 0, none⟩ va).setCell ⟨B + 1 + 1, 0, none⟩ vb ∧
      Wf.heap[B]? = some (.cells #[v0, v1, v2, v3, v4, v5] 25 (0, 0)) ∧ Wf.heap[B + 1]? = some (.cells #[va] 3 (0, 0)) ∧ Wf.heap[B + 1 + 1]? = some (.cells #[vb] 29 (0, 0)) ∧ Below B W Wf ∧ ∀ b, B + 1 + 1 < b → Wf.heap[b]? = W.heap[b]? := by
  have e0 := st6_block h0 v0 v1 v2 v3 v4 v5
  have g0 := st6_grown W B v0 v1 v2 v3 v4 v5
  have hlt : B + 1 + 1 < W.heap.size := by
    rcases Nat.lt_or_ge (B + 1 + 1) W.heap.size with q | q
    · exact q
    · rw [Array.getElem?_eq_none q] at h2; cases h2
  have r : ∀ b, b ≠ B → ((((((W.setCell ⟨B, 0, none⟩ v0).setCell ⟨B, 1, none⟩ v1).setCell ⟨B, 2, none⟩ v2).setCell ⟨B, 3, none⟩ v3).setCell ⟨B, 4, none⟩ v4).setCell ⟨B, 5, none⟩ v5).heap[b]? = W.heap[b]? := fun b hb => by
    repeat rw [Below.heap_setCell _ _ _ _ hb]
  generalize ((((((W.setCell ⟨B, 0, none⟩ v0).setCell ⟨B, 1, none⟩ v1).setCell ⟨B, 2, none⟩ v2).setCell ⟨B, 3, none⟩ v3).setCell ⟨B, 4, none⟩ v4).setCell ⟨B, 5, none⟩ v5) = W6 at *
  have s6 := g0.size
  refine ⟨_, rfl, ?_, ?_, ?_, ?_, ?_⟩
  · rw [Below.heap_setCell _ _ _ _ (by show B ≠ B + 1 + 1; omega), Below.heap_setCell _ _ _ _ (by show B ≠ B + 1; omega)]
    exact e0
  · rw [Below.heap_setCell _ _ _ _ (by show B + 1 ≠ B + 1 + 1; omega), set_block ((r (B + 1) (by omega)).trans h1)]
    rfl
  · rw [set_block (c := #[.int .i64 0]) ((Below.heap_setCell _ _ _ _ (by show B + 1 + 1 ≠ B + 1; omega)).trans ((r (B + 1 + 1) (by omega)).trans h2))]
    rfl
  · have b6 : Below B W W6 := (Below.refl B W).grown g0 (by omega) (fun r e => by cases e; exact Nat.le_refl _)
    exact (b6.setCell (p := ⟨B + 1, 0, none⟩) (by show B ≤ B + 1; omega) va).setCell (p := ⟨B + 1 + 1, 0, none⟩) (by show B ≤ B + 1 + 1; omega) vb
  · intro b hb
    rw [Below.heap_setCell _ _ _ _ (by show b ≠ B + 1 + 1; omega), Below.heap_setCell _ _ _ _ (by show b ≠ B + 1; omega)]
    exact r b (by omega)
set_option maxHeartbeats 16000000 in
theorem read_any (s : ByteArray) (D F : Nat) (w : World) (t : Td w) (hs : s.size ≤ 100000000) (hD : D ≤ 900) (hF : 2 * s.size + 1 ≤ F) :
    Calls Tryz.prog 29 #[.string s, .int .i64 (D : Int)] w (ReP (whoJ s.data.toList D F) w) := by
  have hmf : ∀ (fn : Fn) (first cap : Array Value) (w : World), (Instr.makeFunc fn first cap).run Tryz.prog w = .ok (.func fn first cap) w := fun _ _ _ _ => rfl
  obtain ⟨⟨h0, h1, h2, h3⟩, bW, zW⟩ := four_allocs w z46 (.cells #[.int .i64 0] 3) (.cells #[.int .i64 0] 29) (.cells #[.string s, .int .i64 0, .int .i64 (D : Int), .int .i64 0] 79)
  have tz := t.z
  have tW := t.below bW (by omega) bW.size
  have CW := hmk (jwhole_any (w.heap.size + 1 + 1 + 1) s D F _ h3 tW (by omega) hs hD hF)
  have HB := hmk bW
  clear t tW h3 bW
  cases hv : whoJ s.data.toList D F with
  | error fl =>
    rw [hv] at CW
    clear hv
    go_enter_defers Tryz.func29, Tryz.ntmps29
    go_wp2_with fail
    generalize (((w.alloc z46).alloc (.cells #[.int .i64 0] 3)).alloc (.cells #[.int .i64 0] 29)).alloc (.cells #[.string s, .int .i64 0, .int .i64 (D : Int), .int .i64 0] 79) = w4 at *
    refine CW.out.mono ?_
    rintro e w5 ⟨he, g5⟩
    unfold flt at he
    subst he
    go_wp2_with fail
    have i0 := (g5.block _ (by omega) (fun e => by have := Option.some.inj e; omega)).trans h0
    have i1 := (g5.block _ (by omega) (fun e => by have := Option.some.inj e; omega)).trans h1
    have i2 := (g5.block _ (by omega) (fun e => by have := Option.some.inj e; omega)).trans h2
    have B5 : Below w.heap.size w w5 := HB.out.trans ((Below.refl w.heap.size w4).grown g5 (by omega) (fun r e => by cases e; omega))
    have s5 := g5.size
    refine leaves_cons (f := 44) (args := #[.pointer (some ⟨w.heap.size + 1, 0, none⟩), .pointer (some ⟨w.heap.size + 1 + 1, 0, none⟩)]) (by simp) (by simp [go_sem]) ?_
    refine (catch_fault (w.heap.size + 1) (w.heap.size + 1 + 1) fl.1 fl.2 0 0 w5 i1 i2 (by omega)).mono ?_
    rintro e u' w6 ⟨rfl, rfl, j1, j2, g6⟩
    have j0 := (g6.block _ (by omega) (by omega) (by omega)).trans i0
    have B6 : Below w.heap.size w w6 := B5.trans ⟨g6.os, g6.tape, g6.output, g6.size, fun b hb => g6.block b (by omega) (by omega) (by omega)⟩
    have z0 : w6.cell? ⟨w.heap.size, 0, none⟩ = some (.int .i64 0) := cell_of_block j0 0
    have z1 : w6.cell? ⟨w.heap.size, 1, none⟩ = some (.bool false) := cell_of_block j0 1
    have z2 : w6.cell? ⟨w.heap.size, 2, none⟩ = some (.int .i64 0) := cell_of_block j0 2
    have z3 : w6.cell? ⟨w.heap.size, 3, none⟩ = some (.string ⟨#[]⟩) := cell_of_block j0 3
    have z4 : w6.cell? ⟨w.heap.size, 4, none⟩ = some (.slice none 0 0) := cell_of_block j0 4
    have z5 : w6.cell? ⟨w.heap.size, 5, none⟩ = some (.slice none 0 0) := cell_of_block j0 5
    have za : w6.cell? ⟨w.heap.size + 1, 0, none⟩ = some (.int .i64 (fl.1 : Int)) := cell_of_block j1 0
    have zb : w6.cell? ⟨w.heap.size + 1 + 1, 0, none⟩ = some (.int .i64 (fl.2 : Int)) := cell_of_block j2 0
    have HB6 := hmk B6
    clear CW h0 h1 h2 i0 i1 i2 j0 j1 j2 g5 g6 B5 B6 HB
    simp [Leaves, settle, results, Tryz.results29, go_sem, z0, z1, z2, z3, z4, z5, za, zb]
    exact ⟨rfl, HB6.out⟩
  | ok v =>
    rw [hv] at CW
    clear hv
    go_enter_defers Tryz.func29, Tryz.ntmps29
    go_wp2_with fail
    generalize (((w.alloc z46).alloc (.cells #[.int .i64 0] 3)).alloc (.cells #[.int .i64 0] 29)).alloc (.cells #[.string s, .int .i64 0, .int .i64 (D : Int), .int .i64 0] 79) = w4 at *
    refine CW.out.mono ?_
    rintro e w5 ⟨⟨cs, rfl, hl⟩, g5⟩
    have HLV := hmk hl
    obtain ⟨vk, vb, vi, vs, vl, vm⟩ := v
    rw [V.lies] at hl
    obtain ⟨al, cl, bl, ol, am, cm, bm, om, rfl, _⟩ := hl
    have i0 := (g5.block _ (by omega) (fun e => by have := Option.some.inj e; omega)).trans h0
    have i1 := (g5.block _ (by omega) (fun e => by have := Option.some.inj e; omega)).trans h1
    have i2 := (g5.block _ (by omega) (fun e => by have := Option.some.inj e; omega)).trans h2
    have B5 : Below w.heap.size w w5 := HB.out.trans ((Below.refl w.heap.size w4).grown g5 (by omega) (fun r e => by cases e; omega))
    have s5 := g5.size
    obtain ⟨Wf, ef, f0, f1, f2, bf, kf⟩ := fin8 w5 i0 i1 i2 (.int .i64 vk) (.bool vb) (.int .i64 vi) (.string vs) (.slice al vl.length cl) (.slice am vm.length cm) (.int .i64 (-1)) (.int .i64 0)
    have q0 : w5.cell? ⟨w.heap.size, 0, none⟩ = some (.int .i64 0) := cell_of_block i0 0
    have q1 : w5.cell? ⟨w.heap.size, 1, none⟩ = some (.bool false) := cell_of_block i0 1
    have q2 : w5.cell? ⟨w.heap.size, 2, none⟩ = some (.int .i64 0) := cell_of_block i0 2
    have q3 : w5.cell? ⟨w.heap.size, 3, none⟩ = some (.string ⟨#[]⟩) := cell_of_block i0 3
    have q4 : w5.cell? ⟨w.heap.size, 4, none⟩ = some (.slice none 0 0) := cell_of_block i0 4
    have q5 : w5.cell? ⟨w.heap.size, 5, none⟩ = some (.slice none 0 0) := cell_of_block i0 5
    have qa : w5.cell? ⟨w.heap.size + 1, 0, none⟩ = some (.int .i64 0) := cell_of_block i1 0
    have qb : w5.cell? ⟨w.heap.size + 1 + 1, 0, none⟩ = some (.int .i64 0) := cell_of_block i2 0
    have k0 : ∀ i, w5.frozen? ⟨w.heap.size, i, none⟩ = false := frozen_of_block i0
    have k1 := frozen_of_block i1 0
    have k2 := frozen_of_block i2 0
    have z0 : Wf.cell? ⟨w.heap.size, 0, none⟩ = some (.int .i64 vk) := cell_of_block f0 0
    have z1 : Wf.cell? ⟨w.heap.size, 1, none⟩ = some (.bool vb) := cell_of_block f0 1
    have z2 : Wf.cell? ⟨w.heap.size, 2, none⟩ = some (.int .i64 vi) := cell_of_block f0 2
    have z3 : Wf.cell? ⟨w.heap.size, 3, none⟩ = some (.string vs) := cell_of_block f0 3
    have z4 : Wf.cell? ⟨w.heap.size, 4, none⟩ = some (.slice al vl.length cl) := cell_of_block f0 4
    have z5 : Wf.cell? ⟨w.heap.size, 5, none⟩ = some (.slice am vm.length cm) := cell_of_block f0 5
    have za : Wf.cell? ⟨w.heap.size + 1, 0, none⟩ = some (.int .i64 (-1)) := cell_of_block f1 0
    have zb : Wf.cell? ⟨w.heap.size + 1 + 1, 0, none⟩ = some (.int .i64 0) := cell_of_block f2 0
    have HLW : Hid (V.lies false Wf (New w Wf) (V.mk vk vb vi vs vl vm) [.int .i64 vk, .bool vb, .int .i64 vi, .string vs, .slice al vl.length cl, .slice am vm.length cm]) :=
      V.lies_keep (fun h => h) (fun b hb => kf b (by have := hb.1; omega)) (fun b hb => ⟨by have := hb.1; omega, by have := hb.2; have := bf.size; omega⟩) _ HLV.out
    have HBF := hmk (B5.trans (bf.mono (Nat.le_refl _)))
    clear CW h0 h1 h2 i0 i1 i2 g5 B5 HB HLV f0 f1 f2 bf kf
    go_wp2_with fail
    rw [← ef]
    clear ef q0 q1 q2 q3 q4 q5 qa qb k0 k1 k2
    refine leaves_cons (f := 44) (args := #[.pointer (some ⟨w.heap.size + 1, 0, none⟩), .pointer (some ⟨w.heap.size + 1 + 1, 0, none⟩)]) (by simp) (by simp [go_sem]) ?_
    refine (catch_idle (.pointer (some ⟨w.heap.size + 1, 0, none⟩)) (.pointer (some ⟨w.heap.size + 1 + 1, 0, none⟩)) Wf).mono ?_
    rintro e u' w6 ⟨rfl, rfl, hw6⟩
    rw [hw6]
    clear hw6
    simp [Leaves, settle, results, Tryz.results29, go_sem, z0, z1, z2, z3, z4, z5, za, zb]
    exact ⟨⟨_, rfl, HLW.out⟩, HBF.out⟩
end Go.Proofs.YtpmhdcmmlkjjmaaGreatDoor
