import Derived.Test.YtpmhdcmmlkjjmaaGreatDoorJrK
/- the reader's whole: a value, and nothing behind it. -/
set_option linter.unusedSimpArgs false
set_option linter.unusedVariables false
set_option maxRecDepth 100000
namespace Go.Proofs.YtpmhdcmmlkjjmaaGreatDoor
open Go.RowKit Go.Lib
/-- a whole text: the value, or the fault -/
def whoJ (l : List UInt8) (D F : Nat) : Except Flt V := match valJ l D F 0 (blk l 0) 0 with
  | .error f => .error f
  | .ok x => if blk l x.2.1 < l.length then .error (blk l x.2.1, 35) else .ok x.1
theorem whoJ_val {l : List UInt8} {D F : Nat} {f : Flt} (h : valJ l D F 0 (blk l 0) 0 = .error f) : whoJ l D F = .error f := by rw [whoJ, h]
theorem whoJ_more {l : List UInt8} {D F : Nat} {x : V × Nat × Nat} (h : valJ l D F 0 (blk l 0) 0 = .ok x) (h2 : blk l x.2.1 < l.length) : whoJ l D F = .error (blk l x.2.1, 35) := by rw [whoJ, h]; dsimp only; rw [if_pos h2]
theorem whoJ_ok {l : List UInt8} {D F : Nat} {x : V × Nat × Nat} (h : valJ l D F 0 (blk l 0) 0 = .ok x) (h2 : ¬ blk l x.2.1 < l.length) : whoJ l D F = .ok x.1 := by rw [whoJ, h]; dsimp only; rw [if_neg h2]
/-- what whole does -/
def WhP (R : Except Flt V) (g : Nat) (w : World) (e : Ending) (w' : World) : Prop :=
  match R with
  | .ok v => (∃ cs, e = .returned (.agg cs.toArray) ∧ v.lies false w' (New w w') cs) ∧ w.grownBy w' (some g)
  | .error f => e = flt f ∧ w.grownBy w' (some g)
theorem Fin6.keep {w : World} {g : Nat} {s : ByteArray} {D k1 n1 : Nat} {W W' : World} (h : Fin6 w g s D k1 n1 W) (hb : Below W.heap.size W W') : Fin6 w g s D k1 n1 W' :=
  ⟨(hb.block _ h.lt).trans h.box, h.jr.keep hb, grown_trans h.gr (grown_belowS hb g)⟩
theorem drewN_block {w : World} {b : Nat} {o : Option Obj} (h : w.heap[b]? = o) : ∀ q, (w.drewN q).heap[b]? = o
  | 0 => h
  | q + 1 => (fun (k : (w.drewN q).heap[b]? = o) => (k : (w.drewN q).drew.heap[b]? = o)) (drewN_block h q)
set_option maxHeartbeats 16000000 in
theorem jwhole_any (g : Nat) (s : ByteArray) (D F : Nat) (w : World) (h : JR g s 0 D 0 w) (t : Td w) (hg : 9 < g) (hs : s.size ≤ 100000000) (hD : D ≤ 900) (hF : 2 * s.size + 1 ≤ F) :
    Calls Tryz.prog 45 #[.pointer (some ⟨g, 0, none⟩)] w (WhP (whoJ s.data.toList D F) g w) := by
  have hll : s.data.toList.length = s.size := by simp
  have hlt := h.lt
  have bA : Below w.heap.size w (w.alloc z46) := (Below.refl _ _).alloc (Nat.le_refl _) _
  have F0 : Fin6 w g s D 0 0 (w.alloc z46) := ⟨heap_alloc_new w _, h.keep bA, grown_belowS bA g⟩
  have HTd : Hid (∀ W, w.grownBy W (some g) → Td W) := fun W gr => t.grown gr hg
  have CB := hmk (jblanks_any g s 0 D 0 _ F0.jr (by omega) (Nat.zero_le _))
  have hb0 := blk_le (l := s.data.toList) (k := 0) (Nat.zero_le _)
  rw [hll] at hb0
  have CV : Hid (∀ W, JR g s (blk s.data.toList 0) D 0 W → Td W → Calls Tryz.prog 63 #[.pointer (some ⟨g, 0, none⟩), .int .i64 0] W (ViP (valJ s.data.toList D F 0 (blk s.data.toList 0) 0) g s D W)) := fun W hW tW => value_all g s D hg hs hD F W 0 _ 0 hW tW hb0.2 (by omega) (by omega) (by omega)
  clear h t bA
  cases hv : valJ s.data.toList D F 0 (blk s.data.toList 0) 0 with
  | error fl =>
    have HE := hmk (whoJ_val hv)
    rw [hv] at CV
    clear hv
    generalize blk s.data.toList 0 = K0 at *
    go_enter Tryz.func45, Tryz.ntmps45
    go_wp2_with fail
    refine CB.out.mono ?_
    rintro e w1 ⟨rfl, R1, g1⟩
    have X1 := F0.next hlt g1 R1
    clear CB F0 R1 g1
    go_wp2_with fail
    refine (CV.out w1 X1.jr (HTd.out _ X1.gr)).mono ?_
    rintro e w2 ⟨he, g2⟩
    unfold flt at he
    subst he
    go_wp2_with fail
    refine ⟨rfl, ?_⟩
    rw [HE.out]
    exact ⟨rfl, grown_trans X1.gr g2⟩
  | ok x =>
    obtain ⟨v, k1, n1⟩ := x
    have hle := (allJ_le s.data.toList D F).1 _ _ _ _ (by omega) hv
    dsimp only at hle
    rw [hll] at hle
    have HM := hmk (whoJ_more hv)
    have HO := hmk (whoJ_ok hv)
    dsimp only at HM HO
    rw [hll] at HM HO
    have CB2 : Hid (∀ W, JR g s k1 D n1 W → Calls Tryz.prog 62 #[.pointer (some ⟨g, 0, none⟩)] W fun e w' => e = .returned (.tuple #[]) ∧ JR g s (blk s.data.toList k1) D n1 w' ∧ W.grownBy w' (some g)) := fun W hW => jblanks_any g s k1 D n1 W hW (by omega) hle.2.1
    have hb1 := blk_le (l := s.data.toList) (k := k1) (by rw [hll]; exact hle.2.1)
    rw [hll] at hb1
    rw [hv] at CV
    clear hv
    generalize blk s.data.toList 0 = K0 at *
    generalize blk s.data.toList k1 = K1 at *
    go_enter Tryz.func45, Tryz.ntmps45
    go_wp2_with fail
    refine CB.out.mono ?_
    rintro e w1 ⟨rfl, R1, g1⟩
    have X1 := F0.next hlt g1 R1
    clear CB F0 R1 g1
    go_wp2_with fail
    refine (CV.out w1 X1.jr (HTd.out _ X1.gr)).mono ?_
    rintro e w2 ⟨⟨cs, rfl, hl, R2⟩, g2⟩
    dsimp only at hl R2
    have X2 := X1.next hlt g2 R2
    have x1 := X1.lt
    have HLV := hmk hl
    obtain ⟨vk, vb, vi, vs, vl, vm⟩ := v
    rw [V.lies] at hl
    obtain ⟨al, cl, bl, ol, am, cm, bm, om, rfl, _⟩ := hl
    have bN : Below w2.heap.size w2 (w2.alloc (.cells #[.int .i64 vk, .bool vb, .int .i64 vi, .string vs, .slice al vl.length cl, .slice am vm.length cm] 25)) := (Below.refl _ _).alloc (Nat.le_refl _) _
    have hN : (w2.alloc (.cells #[.int .i64 vk, .bool vb, .int .i64 vi, .string vs, .slice al vl.length cl, .slice am vm.length cm] 25)).heap[w2.heap.size]? = some (.cells #[.int .i64 vk, .bool vb, .int .i64 vi, .string vs, .slice al vl.length cl, .slice am vm.length cm] 25) := heap_alloc_new w2 _
    have zN := alloc_size w2 (.cells #[.int .i64 vk, .bool vb, .int .i64 vi, .string vs, .slice al vl.length cl, .slice am vm.length cm] 25)
    have x2 := X2.lt
    clear CV X1 R2 g2
    go_wp2_with fail
    generalize w2.alloc (.cells #[.int .i64 vk, .bool vb, .int .i64 vi, .string vs, .slice al vl.length cl, .slice am vm.length cm] 25) = w3 at *
    have X3 := X2.keep bN
    refine (CB2.out w3 X3.jr).mono ?_
    rintro e w4 ⟨rfl, R4, g4⟩
    have X4 := X3.next hlt g4 R4
    have hN4 : w4.heap[w2.heap.size]? = some (.cells #[.int .i64 vk, .bool vb, .int .i64 vi, .string vs, .slice al vl.length cl, .slice am vm.length cm] 25) := (g4.block _ (by omega) (fun e => by have := Option.some.inj e; omega)).trans hN
    have HLS : Hid (∀ W6, w4.grownBy W6 (some w.heap.size) → V.lies false W6 (New w W6) (V.mk vk vb vi vs vl vm) [.int .i64 vk, .bool vb, .int .i64 vi, .string vs, .slice al vl.length cl, .slice am vm.length cm]) := fun W6 gb =>
      V.lies_keep (fun h => h) (fun b hb => by
        have h1 := hb.1
        have h2 := hb.2
        have h3 := bN.size
        have h4 := g4.size
        rw [gb.block b (by omega) (fun e => by have := Option.some.inj e; omega), g4.block b (by omega) (fun e => by have := Option.some.inj e; omega), bN.block b h2]) (fun b hb => ⟨by have := hb.1; omega, by have := hb.2; have := bN.size; have := g4.size; have := gb.size; omega⟩) _ HLV.out
    have c0 := R4.c0
    have c1 := R4.c1
    clear CB2 X2 X3 R4 g4 bN hN HLV
    by_cases hm : K1 < s.size
    · have HE := hmk (HM.out hm)
      have y1 : (K1 : Int) < s.size := by omega
      clear HM HO
      go_wp2_with fail
      go_quiet (fail)
      go_wp2_with (go_at_call 64; refine (giveup_any _ K1 35 _).mono ?_; rintro e w' ⟨he, hw⟩; rw [hw]; clear hw; unfold flt at he; subst he)
      refine ⟨rfl, ?_⟩
      rw [HE.out]
      exact ⟨rfl, grown_drewN X4.gr nq⟩
    · have HE := hmk (HO.out hm)
      have y1 : ¬ (K1 : Int) < s.size := by omega
      clear HM HO hm
      go_wp2_with fail
      go_quiet (fail)
      have X5 : Fin6 w g s D K1 n1 (w4.drewN nq) := ⟨drewN_block X4.box nq, X4.jr.drewN nq, grown_drewN X4.gr nq⟩
      have hN5 := drewN_block hN4 nq
      have HLS5 : Hid (∀ W6, (w4.drewN nq).grownBy W6 (some w.heap.size) → V.lies false W6 (New w W6) (V.mk vk vb vi vs vl vm) [.int .i64 vk, .bool vb, .int .i64 vi, .string vs, .slice al vl.length cl, .slice am vm.length cm]) := fun W6 gb => HLS.out W6 (grown_trans (drewN_grown _ _ _) gb)
      obtain ⟨⟨q0, q1, q2, q3, q4, q5⟩, kf⟩ := X5.cells
      obtain ⟨W6, e6, ⟨z0, z1, z2, z3, z4, z5⟩, R6, G6, gb⟩ := X5.done hlt (.int .i64 vk) (.bool vb) (.int .i64 vi) (.string vs) (.slice al vl.length cl) (.slice am vm.length cm)
      have p0 : (w4.drewN nq).cell? ⟨w2.heap.size, 0, none⟩ = some (.int .i64 vk) := cell_of_block hN5 0
      have p1 : (w4.drewN nq).cell? ⟨w2.heap.size, 1, none⟩ = some (.bool vb) := cell_of_block hN5 1
      have p2 : (w4.drewN nq).cell? ⟨w2.heap.size, 2, none⟩ = some (.int .i64 vi) := cell_of_block hN5 2
      have p3 : (w4.drewN nq).cell? ⟨w2.heap.size, 3, none⟩ = some (.string vs) := cell_of_block hN5 3
      have p4 : (w4.drewN nq).cell? ⟨w2.heap.size, 4, none⟩ = some (.slice al vl.length cl) := cell_of_block hN5 4
      have p5 : (w4.drewN nq).cell? ⟨w2.heap.size, 5, none⟩ = some (.slice am vm.length cm) := cell_of_block hN5 5
      clear HLS X4 X5 hN4 hN5 c0 c1
      generalize w4.drewN nq = w5 at *
      go_wp2_with fail
      (try rw [← e6])
      clear e6 q0 q1 q2 q3 q4 q5 kf p0 p1 p2 p3 p4 p5
      (try simp only [Exit.inBlock, Exit.then])
      refine bodyPost_ret (v := .agg #[.int .i64 vk, .bool vb, .int .i64 vi, .string vs, .slice al vl.length cl, .slice am vm.length cm]) ?_ rfl ?_
      · rw [results_cell1 rfl]
        go_simp
      · rw [HE.out]
        exact ⟨⟨[.int .i64 vk, .bool vb, .int .i64 vi, .string vs, .slice al vl.length cl, .slice am vm.length cm], rfl, HLS5.out _ gb⟩, G6⟩
end Go.Proofs.YtpmhdcmmlkjjmaaGreatDoor
