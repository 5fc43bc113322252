/- joined: JrL JrM -/
import Derived.Test.YtpmhdcmmlkjjmaaGreatDoorJrK
import Derived.Defers
import Derived.Recover
/- the reader's whole: a value, and nothing behind it. -/
set_option linter.unusedSimpArgs false
set_option linter.unusedVariables false
set_option maxRecDepth 100000
namespace Go.Proofs.YtpmhdcmmlkjjmaaGreatDoor
open Go.RowKit Go.Lib
/-- a whole text: the value, or the fault -/
def whoJ (l : List UInt8) (D F : Nat) : Except Flt V := match valJ l D F 0 (blk l 0) 0 with
  | .error f => .error f
  | .ok x => if blk l x.2.1 < l.length then .error (blk l x.2.1, 35) else .ok x.1
theorem whoJ_val {l : List UInt8} {D F : Nat} {f : Flt} (h : valJ l D F 0 (blk l 0) 0 = .error f) : whoJ l D F = .error f := by rw [whoJ, h]
theorem whoJ_more {l : List UInt8} {D F : Nat} {x : V × Nat × Nat} (h : valJ l D F 0 (blk l 0) 0 = .ok x) (h2 : blk l x.2.1 < l.length) : whoJ l D F = .error (blk l x.2.1, 35) := by rw [whoJ, h]; dsimp only; rw [if_pos h2]
theorem whoJ_ok {l : List UInt8} {D F : Nat} {x : V × Nat × Nat} (h : valJ l D F 0 (blk l 0) 0 = .ok x) (h2 : ¬ blk l x.2.1 < l.length) : whoJ l D F = .ok x.1 := by rw [whoJ, h]; dsimp only; rw [if_neg h2]
/-- what whole does -/
def WhP (R : Except Flt V) (g : Nat) (w : World) (e : Ending) (w' : World) : Prop :=
  match R with
  | .ok v => (∃ cs, e = .returned (.agg cs.toArray) ∧ v.lies false w' (New w w') cs) ∧ w.grownBy w' (some g)
  | .error f => e = flt f ∧ w.grownBy w' (some g)
theorem Fin6.keep {w : World} {g : Nat} {s : ByteArray} {D k1 n1 : Nat} {W W' : World} (h : Fin6 w g s D k1 n1 W) (hb : Below W.heap.size W W') : Fin6 w g s D k1 n1 W' :=
  ⟨(hb.block _ h.lt).trans h.box, h.jr.keep hb, grown_trans h.gr (grown_belowS hb g)⟩
theorem drewN_block {w : World} {b : Nat} {o : Option Obj} (h : w.heap[b]? = o) : ∀ q, (w.drewN q).heap[b]? = o
  | 0 => h
  | q + 1 => (fun (k : (w.drewN q).heap[b]? = o) => (k : (w.drewN q).drew.heap[b]? = o)) (drewN_block h q)
set_option maxHeartbeats 16000000 in
theorem jwhole_any (g : Nat) (s : ByteArray) (D F : Nat) (w : World) (h : JR g s 0 D 0 w) (t : Td w) (hg : 9 < g) (hs : s.size ≤ 100000000) (hD : D ≤ 900) (hF : 2 * s.size + 1 ≤ F) :
    Calls Tryz.prog 45 #[.pointer (some ⟨g, 0, none⟩)] w (WhP (whoJ s.data.toList D F) g w) := by
  have hll : s.data.toList.length = s.size := by simp
  have hlt := h.lt
  have bA : Below w.heap.size w (w.alloc z46) := (Below.refl _ _).alloc (Nat.le_refl _) _
  have F0 : Fin6 w g s D 0 0 (w.alloc z46) := ⟨heap_alloc_new w _, h.keep bA, grown_belowS bA g⟩
  have HTd : Hid (∀ W, w.grownBy W (some g) → Td W) := fun W gr => t.grown gr hg
  have CB := hmk (jblanks_any g s 0 D 0 _ F0.jr (by omega) (Nat.zero_le _))
  have hb0 := blk_le (l := s.data.toList) (k := 0) (Nat.zero_le _)
  rw [hll] at hb0
  have CV : Hid (∀ W, JR g s (blk s.data.toList 0) D 0 W → Td W → Calls Tryz.prog 63 #[.pointer (some ⟨g, 0, none⟩), .int .i64 0] W (ViP (valJ s.data.toList D F 0 (blk s.data.toList 0) 0) g s D W)) := fun W hW tW => value_all g s D hg hs hD F W 0 _ 0 hW tW hb0.2 (by omega) (by omega) (by omega)
  clear h t bA
  cases hv : valJ s.data.toList D F 0 (blk s.data.toList 0) 0 with
  | error fl =>
    have HE := hmk (whoJ_val hv)
    rw [hv] at CV
    clear hv
    generalize blk s.data.toList 0 = K0 at *
    go_enter Tryz.func45, Tryz.ntmps45
    go_wp2_with fail
    refine CB.out.mono ?_
    rintro e w1 ⟨rfl, R1, g1⟩
    have X1 := F0.next hlt g1 R1
    clear CB F0 R1 g1
    go_wp2_with fail
    refine (CV.out w1 X1.jr (HTd.out _ X1.gr)).mono ?_
    rintro e w2 ⟨he, g2⟩
    unfold flt at he
    subst he
    go_wp2_with fail
    refine ⟨rfl, ?_⟩
    rw [HE.out]
    exact ⟨rfl, grown_trans X1.gr g2⟩
  | ok x =>
    obtain ⟨v, k1, n1⟩ := x
    have hle := (allJ_le s.data.toList D F).1 _ _ _ _ (by omega) hv
    dsimp only at hle
    rw [hll] at hle
    have HM := hmk (whoJ_more hv)
    have HO := hmk (whoJ_ok hv)
    dsimp only at HM HO
    rw [hll] at HM HO
    have CB2 : Hid (∀ W, JR g s k1 D n1 W → Calls Tryz.prog 62 #[.pointer (some ⟨g, 0, none⟩)] W fun e w' => e = .returned (.tuple #[]) ∧ JR g s (blk s.data.toList k1) D n1 w' ∧ W.grownBy w' (some g)) := fun W hW => jblanks_any g s k1 D n1 W hW (by omega) hle.2.1
    have hb1 := blk_le (l := s.data.toList) (k := k1) (by rw [hll]; exact hle.2.1)
    rw [hll] at hb1
    rw [hv] at CV
    clear hv
    generalize blk s.data.toList 0 = K0 at *
    generalize blk s.data.toList k1 = K1 at *
    go_enter Tryz.func45, Tryz.ntmps45
    go_wp2_with fail
    refine CB.out.mono ?_
    rintro e w1 ⟨rfl, R1, g1⟩
    have X1 := F0.next hlt g1 R1
    clear CB F0 R1 g1
    go_wp2_with fail
    refine (CV.out w1 X1.jr (HTd.out _ X1.gr)).mono ?_
    rintro e w2 ⟨⟨cs, rfl, hl, R2⟩, g2⟩
    dsimp only at hl R2
    have X2 := X1.next hlt g2 R2
    have x1 := X1.lt
    have HLV := hmk hl
    obtain ⟨vk, vb, vi, vs, vl, vm⟩ := v
    rw [V.lies] at hl
    obtain ⟨al, cl, bl, ol, am, cm, bm, om, rfl, _⟩ := hl
    have bN : Below w2.heap.size w2 (w2.alloc (.cells #[.int .i64 vk, .bool vb, .int .i64 vi, .string vs, .slice al vl.length cl, .slice am vm.length cm] 25)) := (Below.refl _ _).alloc (Nat.le_refl _) _
    have hN : (w2.alloc (.cells #[.int .i64 vk, .bool vb, .int .i64 vi, .string vs, .slice al vl.length cl, .slice am vm.length cm] 25)).heap[w2.heap.size]? = some (.cells #[.int .i64 vk, .bool vb, .int .i64 vi, .string vs, .slice al vl.length cl, .slice am vm.length cm] 25) := heap_alloc_new w2 _
    have zN := alloc_size w2 (.cells #[.int .i64 vk, .bool vb, .int .i64 vi, .string vs, .slice al vl.length cl, .slice am vm.length cm] 25)
    have x2 := X2.lt
    clear CV X1 R2 g2
    go_wp2_with fail
    generalize w2.alloc (.cells #[.int .i64 vk, .bool vb, .int .i64 vi, .string vs, .slice al vl.length cl, .slice am vm.length cm] 25) = w3 at *
    have X3 := X2.keep bN
    refine (CB2.out w3 X3.jr).mono ?_
    rintro e w4 ⟨rfl, R4, g4⟩
    have X4 := X3.next hlt g4 R4
    have hN4 : w4.heap[w2.heap.size]? = some (.cells #[.int .i64 vk, .bool vb, .int .i64 vi, .string vs, .slice al vl.length cl, .slice am vm.length cm] 25) := (g4.block _ (by omega) (fun e => by have := Option.some.inj e; omega)).trans hN
    have HLS : Hid (∀ W6, w4.grownBy W6 (some w.heap.size) → V.lies false W6 (New w W6) (V.mk vk vb vi vs vl vm) [.int .i64 vk, .bool vb, .int .i64 vi, .string vs, .slice al vl.length cl, .slice am vm.length cm]) := fun W6 gb =>
      V.lies_keep (fun h => h) (fun b hb => by
        have h1 := hb.1
        have h2 := hb.2
        have h3 := bN.size
        have h4 := g4.size
        rw [gb.block b (by omega) (fun e => by have := Option.some.inj e; omega), g4.block b (by omega) (fun e => by have := Option.some.inj e; omega), bN.block b h2]) (fun b hb => ⟨by have := hb.1; omega, by have := hb.2; have := bN.size; have := g4.size; have := gb.size; omega⟩) _ HLV.out
    have c0 := R4.c0
    have c1 := R4.c1
    clear CB2 X2 X3 R4 g4 bN hN HLV
    by_cases hm : K1 < s.size
    · have HE := hmk (HM.out hm)
      have y1 : (K1 : Int) < s.size := by omega
      clear HM HO
      go_wp2_with fail
      go_quiet (fail)
      go_wp2_with (go_at_call 64; refine (giveup_any _ K1 35 _).mono ?_; rintro e w' ⟨he, hw⟩; rw [hw]; clear hw; unfold flt at he; subst he)
      refine ⟨rfl, ?_⟩
      rw [HE.out]
      exact ⟨rfl, grown_drewN X4.gr nq⟩
    · have HE := hmk (HO.out hm)
      have y1 : ¬ (K1 : Int) < s.size := by omega
      clear HM HO hm
      go_wp2_with fail
      go_quiet (fail)
      have X5 : Fin6 w g s D K1 n1 (w4.drewN nq) := ⟨drewN_block X4.box nq, X4.jr.drewN nq, grown_drewN X4.gr nq⟩
      have hN5 := drewN_block hN4 nq
      have HLS5 : Hid (∀ W6, (w4.drewN nq).grownBy W6 (some w.heap.size) → V.lies false W6 (New w W6) (V.mk vk vb vi vs vl vm) [.int .i64 vk, .bool vb, .int .i64 vi, .string vs, .slice al vl.length cl, .slice am vm.length cm]) := fun W6 gb => HLS.out W6 (grown_trans (drewN_grown _ _ _) gb)
      obtain ⟨⟨q0, q1, q2, q3, q4, q5⟩, kf⟩ := X5.cells
      obtain ⟨W6, e6, ⟨z0, z1, z2, z3, z4, z5⟩, R6, G6, gb⟩ := X5.done hlt (.int .i64 vk) (.bool vb) (.int .i64 vi) (.string vs) (.slice al vl.length cl) (.slice am vm.length cm)
      have p0 : (w4.drewN nq).cell? ⟨w2.heap.size, 0, none⟩ = some (.int .i64 vk) := cell_of_block hN5 0
      have p1 : (w4.drewN nq).cell? ⟨w2.heap.size, 1, none⟩ = some (.bool vb) := cell_of_block hN5 1
      have p2 : (w4.drewN nq).cell? ⟨w2.heap.size, 2, none⟩ = some (.int .i64 vi) := cell_of_block hN5 2
      have p3 : (w4.drewN nq).cell? ⟨w2.heap.size, 3, none⟩ = some (.string vs) := cell_of_block hN5 3
      have p4 : (w4.drewN nq).cell? ⟨w2.heap.size, 4, none⟩ = some (.slice al vl.length cl) := cell_of_block hN5 4
      have p5 : (w4.drewN nq).cell? ⟨w2.heap.size, 5, none⟩ = some (.slice am vm.length cm) := cell_of_block hN5 5
      clear HLS X4 X5 hN4 hN5 c0 c1
      generalize w4.drewN nq = w5 at *
      go_wp2_with fail
      (try rw [← e6])
      clear e6 q0 q1 q2 q3 q4 q5 kf p0 p1 p2 p3 p4 p5
      (try simp only [Exit.inBlock, Exit.then])
      refine bodyPost_ret (v := .agg #[.int .i64 vk, .bool vb, .int .i64 vi, .string vs, .slice al vl.length cl, .slice am vm.length cm]) ?_ rfl ?_
      · rw [results_cell1 rfl]
        go_simp
      · rw [HE.out]
        exact ⟨⟨[.int .i64 vk, .bool vb, .int .i64 vi, .string vs, .slice al vl.length cl, .slice am vm.length cm], rfl, HLS5.out _ gb⟩, G6⟩
end Go.Proofs.YtpmhdcmmlkjjmaaGreatDoor
/- json.read: the reader that gave up is caught. -/
set_option maxRecDepth 100000
namespace Go.Proofs.YtpmhdcmmlkjjmaaGreatDoor
open Go.RowKit Go.Lib
theorem catch_idle (p q : Value) (w : World) :
    CallsD Tryz.prog 44 #[p, q] .returning w fun e u' w' => e = .returned (.tuple #[]) ∧ u' = .returning ∧ w' = w := by
  refine callsD_of_wpS Tryz.func44 rfl fun c₀ cs hu => ?_
  apply wpS_seq
  apply wpS_region
  simp [wpOpsS, go_sem, recoverD, hu, Tryz.ntmps44, Exit.thenS]
  apply wpS_seq
  apply wpS_region
  simp [wpOpsS, go_sem, recoverD, hu, Exit.thenS]
  refine wpS_cond (t := false) (by simp [Act.eval, Array.replicate]) ?_
  simp only [Bool.false_eq_true, if_false]
  refine wpS_of_wp (wp_skip ?_)
  cases c₀
  simp_all [bodyPostS, results, Tryz.results44]
set_option maxHeartbeats 4000000 in
theorem catch_fault (ba be k er : Nat) (x y : Int) (w : World) (ha : w.heap[ba]? = some (.cells #[.int .i64 x] 3 (0, 0))) (hb : w.heap[be]? = some (.cells #[.int .i64 y] 29 (0, 0))) (hne : ba ≠ be) :
    CallsD Tryz.prog 44 #[.pointer (some ⟨ba, 0, none⟩), .pointer (some ⟨be, 0, none⟩)] (.panicking [{ v := .iface 77 (.agg #[.int .i64 (k : Int), .int .i64 (er : Int)]), recovered := false }]) w fun e u' w' =>
      e = .returned (.tuple #[]) ∧ u' = .panicking [{ v := .iface 77 (.agg #[.int .i64 (k : Int), .int .i64 (er : Int)]), recovered := true }] ∧ w'.heap[ba]? = some (.cells #[.int .i64 (k : Int)] 3 (0, 0)) ∧ w'.heap[be]? = some (.cells #[.int .i64 (er : Int)] 29 (0, 0)) ∧ G2 ba be w w' := by
  refine callsD_of_wpS Tryz.func44 rfl fun c₀ cs hu => ?_
  apply wpS_seq
  apply wpS_region
  simp [wpOpsS, go_sem, recoverD, hu, Tryz.ntmps44, Exit.thenS]
  apply wpS_seq
  apply wpS_region
  simp [wpOpsS, go_sem, recoverD, hu, Exit.thenS]
  refine wpS_cond (t := true) (by simp [Act.eval, Array.replicate]) ?_
  simp only [if_true]
  simp only [Array.replicate_succ, Array.replicate_zero, List.push_toArray, List.append_toArray, List.nil_append, List.cons_append, List.setIfInBounds_toArray, List.set_cons_zero, List.set_cons_succ]
  refine wpS_of_wp ?_
  have hta : ∀ W : World, (Instr.typeAssert (.iface 77 (.agg #[.int .i64 (k : Int), .int .i64 (er : Int)])) 20 77 false).run Tryz.prog W = .ok (.agg #[.int .i64 (k : Int), .int .i64 (er : Int)]) W := fun W => by kernel_rfl
  have bA : Below w.heap.size w (w.alloc (.cells #[.int .i64 (k : Int), .int .i64 (er : Int)] 77)) := (Below.refl _ _).alloc (Nat.le_refl _) _
  have hN := heap_alloc_new w (.cells #[.int .i64 (k : Int), .int .i64 (er : Int)] 77)
  have lta : ba < w.heap.size := by
    rcases Nat.lt_or_ge ba w.heap.size with q | q
    · exact q
    · rw [Array.getElem?_eq_none q] at ha; cases ha
  have ltb : be < w.heap.size := by
    rcases Nat.lt_or_ge be w.heap.size with q | q
    · exact q
    · rw [Array.getElem?_eq_none q] at hb; cases hb
  have ha1 := (bA.block ba lta).trans ha
  have hb1 := (bA.block be ltb).trans hb
  have HG : Hid (G2 ba be w (w.alloc (.cells #[.int .i64 (k : Int), .int .i64 (er : Int)] 77))) := G2.of (grown_belowS bA ba)
  clear ha hb bA
  go_wp2
  generalize w.alloc (.cells #[.int .i64 (k : Int), .int .i64 (er : Int)] 77) = w1 at *
  have c0 : w1.cell? ⟨w.heap.size, 0, none⟩ = some (.int .i64 (k : Int)) := cell_of_block hN 0
  have c1 : w1.cell? ⟨w.heap.size, 1, none⟩ = some (.int .i64 (er : Int)) := cell_of_block hN 1
  have ca : w1.cell? ⟨ba, 0, none⟩ = some (.int .i64 x) := cell_of_block ha1 0
  have cb : w1.cell? ⟨be, 0, none⟩ = some (.int .i64 y) := cell_of_block hb1 0
  have fa := frozen_of_block ha1 0
  have fb := frozen_of_block hb1 0
  have n1 : w.heap.size ≠ ba := by omega
  have n2 : w.heap.size ≠ be := by omega
  have HA := hmk ha1
  have HB := hmk hb1
  clear ha1 hb1 hN
  go_region
  have E1 : ((w1.setCell ⟨ba, 0, none⟩ (.int .i64 (k : Int))).setCell ⟨be, 0, none⟩ (.int .i64 (er : Int))).drew.heap[ba]? = some (.cells #[.int .i64 (k : Int)] 3 (0, 0)) := by
    show ((w1.setCell ⟨ba, 0, none⟩ (.int .i64 (k : Int))).setCell ⟨be, 0, none⟩ (.int .i64 (er : Int))).heap[ba]? = _
    rw [Below.heap_setCell _ _ _ _ hne, set_block HA.out]
    rfl
  have E2 : ((w1.setCell ⟨ba, 0, none⟩ (.int .i64 (k : Int))).setCell ⟨be, 0, none⟩ (.int .i64 (er : Int))).drew.heap[be]? = some (.cells #[.int .i64 (er : Int)] 29 (0, 0)) := by
    show ((w1.setCell ⟨ba, 0, none⟩ (.int .i64 (k : Int))).setCell ⟨be, 0, none⟩ (.int .i64 (er : Int))).heap[be]? = _
    rw [set_block (c := #[.int .i64 y]) ((Below.heap_setCell _ _ _ _ (Ne.symm hne)).trans HB.out)]
    rfl
  have E3 : G2 ba be w ((w1.setCell ⟨ba, 0, none⟩ (.int .i64 (k : Int))).setCell ⟨be, 0, none⟩ (.int .i64 (er : Int))).drew :=
    HG.out.trans ((G2.of (grown_set1 w1 ba 0 _)).trans ((G2.ofb (grown_set1 _ be 0 _)).trans (G2.of (grown_drew _ _))))
  generalize ((w1.setCell ⟨ba, 0, none⟩ (.int .i64 (k : Int))).setCell ⟨be, 0, none⟩ (.int .i64 (er : Int))).drew = w2 at *
  clear HA HB HG fa fb ca cb c0 c1 hta
  show bodyPostS _ _ _ _ _ _ _ _ _
  simp [bodyPostS, results, Tryz.results44]
  exact ⟨E1, E2, E3⟩
/-- what read answers -/
def ReP (R : Except Flt V) (w : World) (e : Ending) (w' : World) : Prop :=
  (match R with
  | .ok v => ∃ cs, e = .returned (.tuple #[.agg cs.toArray, .int .i64 (-1), .int .i64 0]) ∧ v.lies false w' (New w w') cs
  | .error f => e = .returned (.tuple #[.agg #[.int .i64 0, .bool false, .int .i64 0, .string ⟨#[]⟩, .slice none 0 0, .slice none 0 0], .int .i64 (f.1 : Int), .int .i64 (f.2 : Int)])) ∧ Below w.heap.size w w'
theorem four_allocs (w : World) (o0 o1 o2 o3 : Obj) : (((((w.alloc o0).alloc o1).alloc o2).alloc o3).heap[w.heap.size]? = some o0 ∧ ((((w.alloc o0).alloc o1).alloc o2).alloc o3).heap[w.heap.size + 1]? = some o1 ∧ ((((w.alloc o0).alloc o1).alloc o2).alloc o3).heap[w.heap.size + 1 + 1]? = some o2 ∧ ((((w.alloc o0).alloc o1).alloc o2).alloc o3).heap[w.heap.size + 1 + 1 + 1]? = some o3) ∧ Below w.heap.size w ((((w.alloc o0).alloc o1).alloc o2).alloc o3) ∧ ((((w.alloc o0).alloc o1).alloc o2).alloc o3).heap.size = w.heap.size + 4 := by
  obtain ⟨h0, h1, h2⟩ := three_allocs w o0 o1 o2
  have z : (((w.alloc o0).alloc o1).alloc o2).heap.size = w.heap.size + 1 + 1 + 1 := by rw [alloc_size, alloc_size, alloc_size]
  refine ⟨⟨?_, ?_, ?_, ?_⟩, (three_below w o0 o1 o2).alloc (by rw [z]; omega) _, by rw [alloc_size, z]⟩
  · rw [Below.heap_alloc _ _ _ (by rw [z]; omega)]; exact h0
  · rw [Below.heap_alloc _ _ _ (by rw [z]; omega)]; exact h1
  · rw [Below.heap_alloc _ _ _ (by rw [z]; omega)]; exact h2
  · have := heap_alloc_new (((w.alloc o0).alloc o1).alloc o2) o3
    rwa [z] at this
theorem fin8 {B : Nat} (W : World) (h0 : W.heap[B]? = some z46) (h1 : W.heap[B + 1]? = some (.cells #[.int .i64 0] 3)) (h2 : W.heap[B + 1 + 1]? = some (.cells #[.int .i64 0] 29)) (v0 v1 v2 v3 v4 v5 va vb : Value) :
    ∃ Wf, Wf = (((((((W.setCell ⟨B, 0, none⟩ v0).setCell ⟨B, 1, none⟩ v1).setCell ⟨B, 2, none⟩ v2).setCell ⟨B, 3, none⟩ v3).setCell ⟨B, 4, none⟩ v4).setCell ⟨B, 5, none⟩ v5).setCell ⟨B + 1, 0, none⟩ va).setCell ⟨B + 1 + 1, 0, none⟩ vb ∧
      Wf.heap[B]? = some (.cells #[v0, v1, v2, v3, v4, v5] 25 (0, 0)) ∧ Wf.heap[B + 1]? = some (.cells #[va] 3 (0, 0)) ∧ Wf.heap[B + 1 + 1]? = some (.cells #[vb] 29 (0, 0)) ∧ Below B W Wf ∧ ∀ b, B + 1 + 1 < b → Wf.heap[b]? = W.heap[b]? := by
  have e0 := st6_block h0 v0 v1 v2 v3 v4 v5
  have g0 := st6_grown W B v0 v1 v2 v3 v4 v5
  have hlt : B + 1 + 1 < W.heap.size := by
    rcases Nat.lt_or_ge (B + 1 + 1) W.heap.size with q | q
    · exact q
    · rw [Array.getElem?_eq_none q] at h2; cases h2
  have r : ∀ b, b ≠ B → ((((((W.setCell ⟨B, 0, none⟩ v0).setCell ⟨B, 1, none⟩ v1).setCell ⟨B, 2, none⟩ v2).setCell ⟨B, 3, none⟩ v3).setCell ⟨B, 4, none⟩ v4).setCell ⟨B, 5, none⟩ v5).heap[b]? = W.heap[b]? := fun b hb => by
    repeat rw [Below.heap_setCell _ _ _ _ hb]
  generalize ((((((W.setCell ⟨B, 0, none⟩ v0).setCell ⟨B, 1, none⟩ v1).setCell ⟨B, 2, none⟩ v2).setCell ⟨B, 3, none⟩ v3).setCell ⟨B, 4, none⟩ v4).setCell ⟨B, 5, none⟩ v5) = W6 at *
  have s6 := g0.size
  refine ⟨_, rfl, ?_, ?_, ?_, ?_, ?_⟩
  · rw [Below.heap_setCell _ _ _ _ (by show B ≠ B + 1 + 1; omega), Below.heap_setCell _ _ _ _ (by show B ≠ B + 1; omega)]
    exact e0
  · rw [Below.heap_setCell _ _ _ _ (by show B + 1 ≠ B + 1 + 1; omega), set_block ((r (B + 1) (by omega)).trans h1)]
    rfl
  · rw [set_block (c := #[.int .i64 0]) ((Below.heap_setCell _ _ _ _ (by show B + 1 + 1 ≠ B + 1; omega)).trans ((r (B + 1 + 1) (by omega)).trans h2))]
    rfl
  · have b6 : Below B W W6 := (Below.refl B W).grown g0 (by omega) (fun r e => by cases e; exact Nat.le_refl _)
    exact (b6.setCell (p := ⟨B + 1, 0, none⟩) (by show B ≤ B + 1; omega) va).setCell (p := ⟨B + 1 + 1, 0, none⟩) (by show B ≤ B + 1 + 1; omega) vb
  · intro b hb
    rw [Below.heap_setCell _ _ _ _ (by show b ≠ B + 1 + 1; omega), Below.heap_setCell _ _ _ _ (by show b ≠ B + 1; omega)]
    exact r b (by omega)
set_option maxHeartbeats 16000000 in
theorem read_any (s : ByteArray) (D F : Nat) (w : World) (t : Td w) (hs : s.size ≤ 100000000) (hD : D ≤ 900) (hF : 2 * s.size + 1 ≤ F) :
    Calls Tryz.prog 29 #[.string s, .int .i64 (D : Int)] w (ReP (whoJ s.data.toList D F) w) := by
  have hmf : ∀ (fn : Fn) (first cap : Array Value) (w : World), (Instr.makeFunc fn first cap).run Tryz.prog w = .ok (.func fn first cap) w := fun _ _ _ _ => rfl
  obtain ⟨⟨h0, h1, h2, h3⟩, bW, zW⟩ := four_allocs w z46 (.cells #[.int .i64 0] 3) (.cells #[.int .i64 0] 29) (.cells #[.string s, .int .i64 0, .int .i64 (D : Int), .int .i64 0] 79)
  have tz := t.z
  have tW := t.below bW (by omega) bW.size
  have CW := hmk (jwhole_any (w.heap.size + 1 + 1 + 1) s D F _ h3 tW (by omega) hs hD hF)
  have HB := hmk bW
  clear t tW h3 bW
  cases hv : whoJ s.data.toList D F with
  | error fl =>
    rw [hv] at CW
    clear hv
    go_enter_defers Tryz.func29, Tryz.ntmps29
    go_wp2_with fail
    generalize (((w.alloc z46).alloc (.cells #[.int .i64 0] 3)).alloc (.cells #[.int .i64 0] 29)).alloc (.cells #[.string s, .int .i64 0, .int .i64 (D : Int), .int .i64 0] 79) = w4 at *
    refine CW.out.mono ?_
    rintro e w5 ⟨he, g5⟩
    unfold flt at he
    subst he
    go_wp2_with fail
    have i0 := (g5.block _ (by omega) (fun e => by have := Option.some.inj e; omega)).trans h0
    have i1 := (g5.block _ (by omega) (fun e => by have := Option.some.inj e; omega)).trans h1
    have i2 := (g5.block _ (by omega) (fun e => by have := Option.some.inj e; omega)).trans h2
    have B5 : Below w.heap.size w w5 := HB.out.trans ((Below.refl w.heap.size w4).grown g5 (by omega) (fun r e => by cases e; omega))
    have s5 := g5.size
    refine leaves_cons (f := 44) (args := #[.pointer (some ⟨w.heap.size + 1, 0, none⟩), .pointer (some ⟨w.heap.size + 1 + 1, 0, none⟩)]) (by simp) (by simp [go_sem]) ?_
    refine (catch_fault (w.heap.size + 1) (w.heap.size + 1 + 1) fl.1 fl.2 0 0 w5 i1 i2 (by omega)).mono ?_
    rintro e u' w6 ⟨rfl, rfl, j1, j2, g6⟩
    have j0 := (g6.block _ (by omega) (by omega) (by omega)).trans i0
    have B6 : Below w.heap.size w w6 := B5.trans ⟨g6.os, g6.tape, g6.output, g6.size, fun b hb => g6.block b (by omega) (by omega) (by omega)⟩
    have z0 : w6.cell? ⟨w.heap.size, 0, none⟩ = some (.int .i64 0) := cell_of_block j0 0
    have z1 : w6.cell? ⟨w.heap.size, 1, none⟩ = some (.bool false) := cell_of_block j0 1
    have z2 : w6.cell? ⟨w.heap.size, 2, none⟩ = some (.int .i64 0) := cell_of_block j0 2
    have z3 : w6.cell? ⟨w.heap.size, 3, none⟩ = some (.string ⟨#[]⟩) := cell_of_block j0 3
    have z4 : w6.cell? ⟨w.heap.size, 4, none⟩ = some (.slice none 0 0) := cell_of_block j0 4
    have z5 : w6.cell? ⟨w.heap.size, 5, none⟩ = some (.slice none 0 0) := cell_of_block j0 5
    have za : w6.cell? ⟨w.heap.size + 1, 0, none⟩ = some (.int .i64 (fl.1 : Int)) := cell_of_block j1 0
    have zb : w6.cell? ⟨w.heap.size + 1 + 1, 0, none⟩ = some (.int .i64 (fl.2 : Int)) := cell_of_block j2 0
    have HB6 := hmk B6
    clear CW h0 h1 h2 i0 i1 i2 j0 j1 j2 g5 g6 B5 B6 HB
    simp [Leaves, settle, results, Tryz.results29, go_sem, z0, z1, z2, z3, z4, z5, za, zb]
    exact ⟨rfl, HB6.out⟩
  | ok v =>
    rw [hv] at CW
    clear hv
    go_enter_defers Tryz.func29, Tryz.ntmps29
    go_wp2_with fail
    generalize (((w.alloc z46).alloc (.cells #[.int .i64 0] 3)).alloc (.cells #[.int .i64 0] 29)).alloc (.cells #[.string s, .int .i64 0, .int .i64 (D : Int), .int .i64 0] 79) = w4 at *
    refine CW.out.mono ?_
    rintro e w5 ⟨⟨cs, rfl, hl⟩, g5⟩
    have HLV := hmk hl
    obtain ⟨vk, vb, vi, vs, vl, vm⟩ := v
    rw [V.lies] at hl
    obtain ⟨al, cl, bl, ol, am, cm, bm, om, rfl, _⟩ := hl
    have i0 := (g5.block _ (by omega) (fun e => by have := Option.some.inj e; omega)).trans h0
    have i1 := (g5.block _ (by omega) (fun e => by have := Option.some.inj e; omega)).trans h1
    have i2 := (g5.block _ (by omega) (fun e => by have := Option.some.inj e; omega)).trans h2
    have B5 : Below w.heap.size w w5 := HB.out.trans ((Below.refl w.heap.size w4).grown g5 (by omega) (fun r e => by cases e; omega))
    have s5 := g5.size
    obtain ⟨Wf, ef, f0, f1, f2, bf, kf⟩ := fin8 w5 i0 i1 i2 (.int .i64 vk) (.bool vb) (.int .i64 vi) (.string vs) (.slice al vl.length cl) (.slice am vm.length cm) (.int .i64 (-1)) (.int .i64 0)
    have q0 : w5.cell? ⟨w.heap.size, 0, none⟩ = some (.int .i64 0) := cell_of_block i0 0
    have q1 : w5.cell? ⟨w.heap.size, 1, none⟩ = some (.bool false) := cell_of_block i0 1
    have q2 : w5.cell? ⟨w.heap.size, 2, none⟩ = some (.int .i64 0) := cell_of_block i0 2
    have q3 : w5.cell? ⟨w.heap.size, 3, none⟩ = some (.string ⟨#[]⟩) := cell_of_block i0 3
    have q4 : w5.cell? ⟨w.heap.size, 4, none⟩ = some (.slice none 0 0) := cell_of_block i0 4
    have q5 : w5.cell? ⟨w.heap.size, 5, none⟩ = some (.slice none 0 0) := cell_of_block i0 5
    have qa : w5.cell? ⟨w.heap.size + 1, 0, none⟩ = some (.int .i64 0) := cell_of_block i1 0
    have qb : w5.cell? ⟨w.heap.size + 1 + 1, 0, none⟩ = some (.int .i64 0) := cell_of_block i2 0
    have k0 : ∀ i, w5.frozen? ⟨w.heap.size, i, none⟩ = false := frozen_of_block i0
    have k1 := frozen_of_block i1 0
    have k2 := frozen_of_block i2 0
    have z0 : Wf.cell? ⟨w.heap.size, 0, none⟩ = some (.int .i64 vk) := cell_of_block f0 0
    have z1 : Wf.cell? ⟨w.heap.size, 1, none⟩ = some (.bool vb) := cell_of_block f0 1
    have z2 : Wf.cell? ⟨w.heap.size, 2, none⟩ = some (.int .i64 vi) := cell_of_block f0 2
    have z3 : Wf.cell? ⟨w.heap.size, 3, none⟩ = some (.string vs) := cell_of_block f0 3
    have z4 : Wf.cell? ⟨w.heap.size, 4, none⟩ = some (.slice al vl.length cl) := cell_of_block f0 4
    have z5 : Wf.cell? ⟨w.heap.size, 5, none⟩ = some (.slice am vm.length cm) := cell_of_block f0 5
    have za : Wf.cell? ⟨w.heap.size + 1, 0, none⟩ = some (.int .i64 (-1)) := cell_of_block f1 0
    have zb : Wf.cell? ⟨w.heap.size + 1 + 1, 0, none⟩ = some (.int .i64 0) := cell_of_block f2 0
    have HLW : Hid (V.lies false Wf (New w Wf) (V.mk vk vb vi vs vl vm) [.int .i64 vk, .bool vb, .int .i64 vi, .string vs, .slice al vl.length cl, .slice am vm.length cm]) :=
      V.lies_keep (fun h => h) (fun b hb => kf b (by have := hb.1; omega)) (fun b hb => ⟨by have := hb.1; omega, by have := hb.2; have := bf.size; omega⟩) _ HLV.out
    have HBF := hmk (B5.trans (bf.mono (Nat.le_refl _)))
    clear CW h0 h1 h2 i0 i1 i2 g5 B5 HB HLV f0 f1 f2 bf kf
    go_wp2_with fail
    rw [← ef]
    clear ef q0 q1 q2 q3 q4 q5 qa qb k0 k1 k2
    refine leaves_cons (f := 44) (args := #[.pointer (some ⟨w.heap.size + 1, 0, none⟩), .pointer (some ⟨w.heap.size + 1 + 1, 0, none⟩)]) (by simp) (by simp [go_sem]) ?_
    refine (catch_idle (.pointer (some ⟨w.heap.size + 1, 0, none⟩)) (.pointer (some ⟨w.heap.size + 1 + 1, 0, none⟩)) Wf).mono ?_
    rintro e u' w6 ⟨rfl, rfl, hw6⟩
    rw [hw6]
    clear hw6
    simp [Leaves, settle, results, Tryz.results29, go_sem, z0, z1, z2, z3, z4, z5, za, zb]
    exact ⟨⟨_, rfl, HLW.out⟩, HBF.out⟩
end Go.Proofs.YtpmhdcmmlkjjmaaGreatDoor
