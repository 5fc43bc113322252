import Derived.Test.YtpmhdcmmlkjjmaaGreatDoorH14
import Derived.RegionTactic
import Derived.ChangeAlike
/- the document's Parse. -/
set_option linter.unusedSimpArgs false
set_option linter.unusedVariables false
set_option maxRecDepth 100000
namespace Go.Proofs.YtpmhdcmmlkjjmaaGreatDoor
open Go.RowKit Go.Lib
/-- the box that answers, the reader's box -/
structure Dz (w : World) (s : ByteArray) (D k n e bd : Nat) (W : World) : Prop where
  b4 : W.heap[w.heap.size]? = some z46
  jd : JD (w.heap.size + 1) s k n D e bd W
  bl : Below w.heap.size w W
section
variable {w W W' : World} {D k n e bd : Nat} {s : ByteArray}
theorem Dz.next {k2 n2 e2 bd2 : Nat} (h : Dz w s D k n e bd W) (gr : W.grownBy W' (some (w.heap.size + 1))) (hj : JD (w.heap.size + 1) s k2 n2 D e2 bd2 W') : Dz w s D k2 n2 e2 bd2 W' :=
  ⟨(gr.block _ (by have := h.jd.lt; omega) (fun e => by have := Option.some.inj e; omega)).trans h.b4, hj, h.bl.grown gr h.bl.size (fun r e => by cases e; omega)⟩
theorem Dz.alloc (h : Dz w s D k n e bd W) (o : Obj) : Dz w s D k n e bd (W.alloc o) :=
  ⟨(Below.heap_alloc W o _ (by have := h.jd.lt; omega)).trans h.b4, h.jd.keep ((Below.refl _ _).alloc (Nat.le_refl _) _), h.bl.alloc h.bl.size _⟩
theorem Dz.below (h : Dz w s D k n e bd W) (hb : Below W.heap.size W W') : Dz w s D k n e bd W' :=
  ⟨(hb.block _ (by have := h.jd.lt; omega)).trans h.b4, h.jd.keep hb, h.bl.trans (hb.mono h.bl.size)⟩
end
set_option maxHeartbeats 8000000 in
theorem dblanks_free (g : Nat) (s : ByteArray) (k n D e bd : Nat) (w : World) (h : JD g s k n D e bd w) (hs : s.size ≤ 281474976710656) :
    Calls Tryz.prog 35 #[.pointer (some ⟨g, 0, none⟩)] w fun en w' => en = .returned (.tuple #[]) ∧ (∃ k', JD g s k' n D e bd w') ∧ w.grownBy w' (some g) := by
  by_cases hk : k ≤ s.size
  · exact (dblanks_any g s k n D e bd w h hs hk).mono fun en w' q => ⟨q.1, ⟨_, q.2.1⟩, q.2.2⟩
  · go_enter Tryz.func35, Tryz.ntmps35
    go_wp2
    go_loopg [] 1 (fun gk wr => JD g s k n D e bd wr ∧ w.grownBy wr (some g))
    case atStart => exact ⟨h, World.grownBy.refl _ _⟩
    case round =>
      obtain ⟨R, gr⟩ := hrel
      have c0 := R.c0
      have c1 := R.c1
      have f1 := R.fz 1
      have HR := hmk R
      clear R h
      have y1 : ¬ (k : Int) < s.size := by omega
      have y2 : ¬ k < s.size := by omega
      clear hk
      have hgw := HR.out.lt
      have p0 : ∀ x : Sub wr.heap.size wr, x.w.cell? ⟨g, 0, none⟩ = some (.string s) := sub_cell c0 hgw
      have p1 : ∀ x : Sub wr.heap.size wr, x.w.cell? ⟨g, 1, none⟩ = some (.int .i64 (k : Int)) := sub_cell c1 hgw
      go_wp2_with fail
      refine wp_region_sub wr.heap.size (by kernel_rfl) (by kernel_rfl) ?_
      repeat (go_big_quiet_step (fail))
      refine wpQuiet_nil ?_
      rintro wq ⟨⟨wq', bq⟩, hq⟩
      have hq' : wq = wq' := hq
      subst hq'
      clear hq
      have R2 := HR.out.keep bq
      go_wp2_with fail
      go_end0
      exact ⟨rfl, ⟨k, R2⟩, grown_trans gr (grown_belowS bq g)⟩
set_option maxHeartbeats 16000000 in
theorem dparse_of (l : List UInt8) (v : Value) (z : Int) (w : World) (hb : Bys w v l) (hz : In64 z) (hl : l.length ≤ 140737488355328) (HV : ∀ g s D, s.size ≤ 100000000 → D ≤ 900 → ∀ F, ValD g s D F) :
    Calls Tryz.prog 25 #[v, .int .i64 z] w (PrP (parJ l z) w) := by
  have bA : Below w.heap.size w (w.alloc z46) := (Below.refl _ _).alloc (Nat.le_refl _) _
  have hcv := hb.conv bA
  have hN := heap_alloc_new w z46
  have hza := alloc_size w z46
  obtain ⟨ao, cap, rfl, _⟩ := hb
  have X0 : Bx6 w (w.alloc z46) := ⟨hN, bA⟩
  obtain ⟨⟨q0, q1, q2, q3, q4, q5⟩, kf⟩ := X0.cells
  obtain ⟨W6, e6, ⟨z0, z1, z2, z3, z4, z5⟩, B6, gb⟩ := X0.done (.int .i64 0) (.bool false) (.int .i64 0) (.string ⟨#[]⟩) (.slice none 0 0) (.slice none 0 0)
  have HB6 := hmk B6
  have HBA := hmk bA
  by_cases h1 : z < 0 ∨ 40 < z
  · have HR := hmk (parJ_arg (l := l) h1)
    clear hcv hN hza bA B6 gb X0 HV
    rcases h1 with h1 | h1
    · go_enter Tryz.func25, Tryz.ntmps25
      go_wp2_with fail
      (try simp only [Exit.inBlock, Exit.then])
      (try rw [← e6])
      refine bodyPost_ret (results_c11 rfl _ _ _ (x := .agg #[.int .i64 0, .bool false, .int .i64 0, .string ⟨#[]⟩, .slice none 0 0, .slice none 0 0]) (by go_simp)) rfl ?_
      rw [HR.out]
      exact ⟨_, rfl, nul_lies _ _, HBA.out⟩
    · have h0 : ¬ z < 0 := by omega
      go_enter Tryz.func25, Tryz.ntmps25
      go_wp2_with fail
      (try simp only [Exit.inBlock, Exit.then])
      (try rw [← e6])
      refine bodyPost_ret (results_c11 rfl _ _ _ (x := .agg #[.int .i64 0, .bool false, .int .i64 0, .string ⟨#[]⟩, .slice none 0 0, .slice none 0 0]) (by go_simp)) rfl ?_
      rw [HR.out]
      exact ⟨_, rfl, nul_lies _ _, HBA.out⟩
  · have h1a : ¬ z < 0 := fun q => h1 (.inl q)
    have h1b : ¬ 40 < z := fun q => h1 (.inr q)
    by_cases h2 : 1048576 < l.length
    · have HR := hmk (parJ_long h1 h2)
      have y2 : (1048576 : Int) < l.length := by omega
      clear hcv hN hza bA h1 h2 B6 gb X0 HV
      go_enter Tryz.func25, Tryz.ntmps25
      go_wp2_with fail
      (try simp only [Exit.inBlock, Exit.then])
      (try rw [← e6])
      refine bodyPost_ret (results_c11 rfl _ _ _ (x := .agg #[.int .i64 0, .bool false, .int .i64 0, .string ⟨#[]⟩, .slice none 0 0, .slice none 0 0]) (by go_simp)) rfl ?_
      rw [HR.out]
      exact ⟨_, rfl, nul_lies _ _, HBA.out⟩
    · have y2 : ¬ (1048576 : Int) < l.length := by omega
      clear q0 q1 q2 q3 q4 q5 kf e6 z0 z1 z2 z3 z4 z5 B6 gb HB6 X0
      obtain ⟨D, rfl⟩ : ∃ D : Nat, z = (D : Int) := ⟨z.toNat, by omega⟩
      have hsz : (⟨l.toArray⟩ : ByteArray).size = l.length := by show Array.size _ = _; simp
      have X1 : Dz w ⟨l.toArray⟩ D 0 0 0 0 ((w.alloc z46).alloc (.cells #[.string ⟨l.toArray⟩, .int .i64 0, .int .i64 0, .int .i64 (D : Int), .int .i64 0, .int .i64 0] 66)) := by
        refine ⟨(Below.heap_alloc _ _ _ (by rw [hza]; omega)).trans hN, ?_, bA.alloc (by rw [hza]; omega) _⟩
        exact alloc2_new w _ _
      have CV := hmk (HV (w.heap.size + 1) ⟨l.toArray⟩ D (by rw [hsz]; omega) (by omega) (2 * l.length + 1) _ 0 0 0 X1.jd (Nat.zero_le _) (by rw [hsz]; omega) (by omega) (by omega))
      have e0 : ((0 : Nat) : Int) = 0 := rfl
      rw [e0] at CV
      have el : (⟨l.toArray⟩ : ByteArray).data.toList = l := by simp
      rw [el] at CV
      clear el
      have HX1 := hmk X1
      clear HV X1 e0
      have HPB : Hid (∀ f, whoJ l D (2 * l.length + 1) = .error f → parJ l (D : Int) = (nulV, (f.1 : Int), (f.2 : Int))) := fun f hf => parJ_bad h1 h2 (by rw [Int.toNat_natCast]; exact hf)
      have HPO : Hid (∀ x, whoJ l D (2 * l.length + 1) = .ok x → parJ l (D : Int) = (x, -1, 0)) := fun x hf => parJ_ok h1 h2 (by rw [Int.toNat_natCast]; exact hf)
      have hbx1 := alloc_size (w.alloc z46) (.cells #[.string ⟨l.toArray⟩, .int .i64 0, .int .i64 0, .int .i64 (D : Int), .int .i64 0, .int .i64 0] 66)
      rw [hza] at hbx1
      obtain ⟨W1, hW1⟩ : ∃ W1, W1 = ((w.alloc z46).alloc (.cells #[.string ⟨l.toArray⟩, .int .i64 0, .int .i64 0, .int .i64 (D : Int), .int .i64 0, .int .i64 0] 66)) := ⟨_, rfl⟩
      rw [← hW1] at CV HX1 hbx1
      cases hv : valJ l D (2 * l.length + 1) 0 (blk l 0) 0 with
      | error fl =>
        obtain ⟨fp, fe⟩ := fl
        have HR := hmk (HPB.out _ (whoJ_val hv))
        rw [hv] at CV
        clear hv HPB HPO h1 h2
        go_enter Tryz.func25, Tryz.ntmps25
        go_wp2_with fail
        rw [← hW1]
        refine CV.out.mono ?_
        rintro e w2 ⟨⟨a0, a1, a2, a3, xa4, xl4, xc4, xa5, xl5, xc5, kq, nq, rfl, R2, hne⟩, g2⟩
        dsimp only at R2 hne
        have X2 := HX1.out.next g2 R2
        have X3 := X2.alloc (.cells #[.int .i64 a0, .bool a1, .int .i64 a2, .string a3, .slice xa4 xl4 xc4, .slice xa5 xl5 xc5] 25)
        have CB := hmk (dblanks_free (w.heap.size + 1) ⟨l.toArray⟩ kq nq D fe fp _ X3.jd (by rw [hsz]; omega))
        have y4 : ((fe : Int) == 0) = false := by rw [beq_eq_false_iff_ne]; omega
        have y5 : ((fe : Int) != 0) = true := by rw [bne_iff_ne]; omega
        clear CV HX1 X2 R2 g2 hW1
        go_wp2_with fail
        refine CB.out.mono ?_
        rintro e w3 ⟨rfl, ⟨kb, R3⟩, g3⟩
        have X4 := X3.next g3 R3
        clear CB X3 R3 g3
        have c4 := X4.jd.c4
        have hlt3 := X4.jd.lt
        have p4 : ∀ x : Sub w3.heap.size w3, x.w.cell? ⟨w.heap.size + 1, 4, none⟩ = some (.int .i64 (fe : Int)) := sub_cell c4 hlt3
        go_wp2_with fail
        refine wp_region_sub w3.heap.size (by kernel_rfl) (by kernel_rfl) ?_
        repeat (go_big_quiet_step (fail))
        refine wpQuiet_nil ?_
        rintro w4 ⟨⟨w4', bq⟩, hq⟩
        have hq' : w4 = w4' := hq
        subst hq'
        clear hq
        have X5 := X4.below bq
        clear X4 bq c4 p4
        have HBX : Bx6 w w4 := ⟨X5.b4, X5.bl⟩
        obtain ⟨⟨q0, q1, q2, q3, q4, q5⟩, kf⟩ := HBX.cells
        obtain ⟨W6, e6, ⟨z0, z1, z2, z3, z4, z5⟩, B6, gb⟩ := HBX.done (.int .i64 0) (.bool false) (.int .i64 0) (.string ⟨#[]⟩) (.slice none 0 0) (.slice none 0 0)
        have HB6 : Hid (Below w.heap.size w W6.drew) := B6.grown (grown_drew W6 none) B6.size (fun r e => by cases e)
        have c4 := X5.jd.c4
        have c5 := X5.jd.c5
        have hneb : ¬ w.heap.size + 1 = w.heap.size := by omega
        clear HBX B6 gb
        go_wp2_with fail
        go_region
        go_wp2_with fail
        (try rw [← e6])
        clear e6 q0 q1 q2 q3 q4 q5 kf c4 c5
        (try simp only [Exit.inBlock, Exit.then])
        refine bodyPost_ret (results_c11 rfl _ _ _ (x := .agg #[.int .i64 0, .bool false, .int .i64 0, .string ⟨#[]⟩, .slice none 0 0, .slice none 0 0]) (by go_simp)) rfl ?_
        rw [HR.out]
        exact ⟨_, rfl, nul_lies _ _, HB6.out⟩
      | ok x =>
        obtain ⟨v, k1, n1⟩ := x
        have hle := (allJ_le l D (2 * l.length + 1)).1 _ _ _ _ (by omega) hv
        dsimp only at hle
        have hbk := blk_le (l := l) hle.2.1
        rw [hv] at CV
        have HPM : Hid (blk l k1 < l.length → parJ l (D : Int) = (nulV, ((blk l k1 : Nat) : Int), 35)) := fun h => HPB.out _ (whoJ_more hv h)
        have HPK : Hid (¬ blk l k1 < l.length → parJ l (D : Int) = (v, -1, 0)) := fun h => HPO.out _ (whoJ_ok hv h)
        clear hv HPB HPO h1 h2
        go_enter Tryz.func25, Tryz.ntmps25
        go_wp2_with fail
        rw [← hW1]
        refine CV.out.mono ?_
        rintro e w2 ⟨⟨cs, rfl, hl2, R2⟩, g2⟩
        dsimp only at hl2 R2
        have X2 := HX1.out.next g2 R2
        have HLV := hmk hl2
        obtain ⟨vk, vb, vi, vs, vl, vm⟩ := v
        rw [V.lies] at hl2
        obtain ⟨al, cl, bl, ol, am, cm, bm, om, rfl, _⟩ := hl2
        have X3 := X2.alloc (.cells #[.int .i64 vk, .bool vb, .int .i64 vi, .string vs, .slice al vl.length cl, .slice am vm.length cm] 25)
        have CB := dblanks_any (w.heap.size + 1) ⟨l.toArray⟩ k1 n1 D 0 0 _ X3.jd (by rw [hsz]; omega) (by rw [hsz]; exact hle.2.1)
        rw [show (⟨l.toArray⟩ : ByteArray).data.toList = l by simp] at CB
        have CBH := hmk CB
        have hN8 := heap_alloc_new w2 (.cells #[.int .i64 vk, .bool vb, .int .i64 vi, .string vs, .slice al vl.length cl, .slice am vm.length cm] 25)
        have za8 := alloc_size w2 (.cells #[.int .i64 vk, .bool vb, .int .i64 vi, .string vs, .slice al vl.length cl, .slice am vm.length cm] 25)
        have b8 : Below w2.heap.size w2 (w2.alloc (.cells #[.int .i64 vk, .bool vb, .int .i64 vi, .string vs, .slice al vl.length cl, .slice am vm.length cm] 25)) := (Below.refl _ _).alloc (Nat.le_refl _) _
        have hz2 := g2.size
        clear CV CB R2 g2 hW1
        go_wp2_with fail
        refine CBH.out.mono ?_
        rintro e w3 ⟨rfl, R3, g3⟩
        have X4 := X3.next g3 R3
        have hz3 := g3.size
        have HLW : Hid (V.lies false w3 (New W1 w2) (V.mk vk vb vi vs vl vm) [.int .i64 vk, .bool vb, .int .i64 vi, .string vs, .slice al vl.length cl, .slice am vm.length cm]) := V.lies_keep (fun h => h) (fun b hb => (g3.block b (by rw [za8]; have := hb.2; omega) (fun e => by have := Option.some.inj e; have := hb.1; omega)).trans (b8.block b hb.2)) (fun _ h => h) _ HLV.out
        have hN9 := (g3.block w2.heap.size (by rw [za8]; omega) (fun e => by have := Option.some.inj e; have := X2.jd.lt; omega)).trans hN8
        have hs2 := X2.jd.lt
        have y4 : ((0 : Int) == 0) = true := rfl
        clear CBH X3 R3 g3 hN8 b8 HLV X2 HX1
        by_cases hmo : blk l k1 < l.length
        · have HR := hmk (HPM.out hmo)
          have y6 : ((blk l k1 : Nat) : Int) < (l.length : Int) := by omega
          have hszi : ((⟨l.toArray⟩ : ByteArray).size : Int) = (l.length : Int) := by rw [hsz]
          have c0 := X4.jd.c0
          have c1 := X4.jd.c1
          have c4 := X4.jd.c4
          have hlt3 := X4.jd.lt
          have p0 : ∀ x : Sub w3.heap.size w3, x.w.cell? ⟨w.heap.size + 1, 0, none⟩ = some (.string ⟨l.toArray⟩) := sub_cell c0 hlt3
          have p1 : ∀ x : Sub w3.heap.size w3, x.w.cell? ⟨w.heap.size + 1, 1, none⟩ = some (.int .i64 ((blk l k1 : Nat) : Int)) := sub_cell c1 hlt3
          have p4 : ∀ x : Sub w3.heap.size w3, x.w.cell? ⟨w.heap.size + 1, 4, none⟩ = some (.int .i64 0) := sub_cell c4 hlt3
          clear HPM HPK HLW hN9
          generalize blk l k1 = KB at *
          go_wp2_with fail
          refine wp_region_sub w3.heap.size (by kernel_rfl) (by kernel_rfl) ?_
          repeat (go_big_quiet_step (fail))
          refine wpQuiet_nil ?_
          rintro w4 ⟨⟨w4', bq⟩, hq⟩
          have hq' : w4 = w4' := hq
          subst hq'
          clear hq
          have X5 := X4.below bq
          have d1 := X5.jd.c1
          clear X4 bq c0 c1 c4 p0 p1 p4
          go_wp2_with fail
          refine (dfail_any (w.heap.size + 1) ⟨l.toArray⟩ KB n1 D 0 KB 35 _ X5.jd).mono ?_
          rintro e w5 ⟨rfl, R5, g5⟩
          have X6 := X5.next g5 R5
          clear X5 R5 g5 d1
          have y5 : ((35 : Int) != 0) = true := rfl
          have HBX : Bx6 w w5 := ⟨X6.b4, X6.bl⟩
          obtain ⟨⟨q0, q1, q2, q3, q4, q5⟩, kf⟩ := HBX.cells
          obtain ⟨W6, e6, ⟨z0, z1, z2, z3, z4, z5⟩, B6, gb⟩ := HBX.done (.int .i64 0) (.bool false) (.int .i64 0) (.string ⟨#[]⟩) (.slice none 0 0) (.slice none 0 0)
          have HB6 : Hid (Below w.heap.size w W6.drew) := B6.grown (grown_drew W6 none) B6.size (fun r e => by cases e)
          have c4 := X6.jd.c4
          have c5 := X6.jd.c5
          have hneb : ¬ w.heap.size + 1 = w.heap.size := by omega
          clear HBX B6 gb
          go_wp2_with fail
          go_region
          go_wp2_with fail
          (try rw [← e6])
          clear e6 q0 q1 q2 q3 q4 q5 kf c4 c5
          (try simp only [Exit.inBlock, Exit.then])
          refine bodyPost_ret (results_c11 rfl _ _ _ (x := .agg #[.int .i64 0, .bool false, .int .i64 0, .string ⟨#[]⟩, .slice none 0 0, .slice none 0 0]) (by go_simp)) rfl ?_
          rw [HR.out]
          exact ⟨_, rfl, nul_lies _ _, HB6.out⟩
        · have HR := hmk (HPK.out hmo)
          have y6 : ¬ ((blk l k1 : Nat) : Int) < (l.length : Int) := by omega
          have hszi : ((⟨l.toArray⟩ : ByteArray).size : Int) = (l.length : Int) := by rw [hsz]
          have c0 := X4.jd.c0
          have c1 := X4.jd.c1
          have c4 := X4.jd.c4
          have hlt3 := X4.jd.lt
          have p0 : ∀ x : Sub w3.heap.size w3, x.w.cell? ⟨w.heap.size + 1, 0, none⟩ = some (.string ⟨l.toArray⟩) := sub_cell c0 hlt3
          have p1 : ∀ x : Sub w3.heap.size w3, x.w.cell? ⟨w.heap.size + 1, 1, none⟩ = some (.int .i64 ((blk l k1 : Nat) : Int)) := sub_cell c1 hlt3
          have p4 : ∀ x : Sub w3.heap.size w3, x.w.cell? ⟨w.heap.size + 1, 4, none⟩ = some (.int .i64 0) := sub_cell c4 hlt3
          clear HPM HPK
          generalize blk l k1 = KB at *
          go_wp2_with fail
          refine wp_region_sub w3.heap.size (by kernel_rfl) (by kernel_rfl) ?_
          repeat (go_big_quiet_step (fail))
          refine wpQuiet_nil ?_
          rintro w4 ⟨⟨w4', bq⟩, hq⟩
          have hq' : w4 = w4' := hq
          subst hq'
          clear hq
          have X5 := X4.below bq
          have d4 := X5.jd.c4
          have hw2 : w2.heap.size < w3.heap.size := by omega
          have hN10 := (bq.block w2.heap.size hw2).trans hN9
          have a0 := cell_of_block hN10 0
          have a1 := cell_of_block hN10 1
          have a2 := cell_of_block hN10 2
          have a3 := cell_of_block hN10 3
          have a4 := cell_of_block hN10 4
          have a5 := cell_of_block hN10 5
          simp only [List.getElem?_toArray, List.getElem?_cons_zero, List.getElem?_cons_succ] at a0 a1 a2 a3 a4 a5
          have HLX : Hid (V.lies false w4 (New W1 w2) (V.mk vk vb vi vs vl vm) [.int .i64 vk, .bool vb, .int .i64 vi, .string vs, .slice al vl.length cl, .slice am vm.length cm]) := V.lies_keep (fun h => h) (fun b hb => bq.block b (by have := hb.2; omega)) (fun _ h => h) _ HLW.out
          have HBX : Bx6 w w4 := ⟨X5.b4, X5.bl⟩
          obtain ⟨⟨q0, q1, q2, q3, q4, q5⟩, kf⟩ := HBX.cells
          obtain ⟨W6, e6, ⟨z0, z1, z2, z3, z4, z5⟩, B6, gb⟩ := HBX.done (.int .i64 vk) (.bool vb) (.int .i64 vi) (.string vs) (.slice al vl.length cl) (.slice am vm.length cm)
          have HB6 := hmk B6
          have HLY : Hid (V.lies false W6 (New w W6) (V.mk vk vb vi vs vl vm) [.int .i64 vk, .bool vb, .int .i64 vi, .string vs, .slice al vl.length cl, .slice am vm.length cm]) := V.lies_keep (fun h => h) (fun b hb => gb.block b (by have := hb.2; have := bq.size; omega) (fun e => by have := Option.some.inj e; have := hb.1; omega)) (fun b hb => ⟨by have := hb.1; omega, by have := hb.2; have := gb.size; have := bq.size; omega⟩) _ HLX.out
          clear X4 bq c0 c1 c4 p0 p1 p4 B6 gb HLX HLW HBX hN9 hN10 X5
          go_wp2_with fail
          (try rw [← e6])
          clear e6 q0 q1 q2 q3 q4 q5 kf
          (try simp only [Exit.inBlock, Exit.then])
          refine bodyPost_ret (results_c11 rfl _ _ _ (x := .agg #[.int .i64 vk, .bool vb, .int .i64 vi, .string vs, .slice al vl.length cl, .slice am vm.length cm]) (by go_simp)) rfl ?_
          rw [HR.out]
          exact ⟨[.int .i64 vk, .bool vb, .int .i64 vi, .string vs, .slice al vl.length cl, .slice am vm.length cm], rfl, HLY.out, HB6.out⟩
end Go.Proofs.YtpmhdcmmlkjjmaaGreatDoor
