import Derived.Test.YtpmhdcmmlkjjmaaGreatDoorG47
import Derived.Test.YtpmhdcmmlkjjmaaGreatDoorG48
import Derived.Deep.DeepCutAuto
/- JsonBack: the law's walk. -/
set_option linter.unusedSimpArgs false
set_option linter.unusedVariables false
set_option maxRecDepth 100000
namespace Go.Proofs.YtpmhdcmmlkjjmaaGreatDoor
open Go.RowKit Go.Lib
theorem pr_zero {v : V} {z : Int} (h : (prF v z).1 = 0) : 0 ≤ z ∧ z ≤ 40 ∧ chkE v z = 0 ∧ (txtV v).length ≤ 1048576 ∧ prF v z = (0, txtV v) := by
  unfold prF at h
  split at h
  · rename_i h1; exact absurd h h1
  · rename_i h1
    have h1 : chkE v z = 0 := by simpa using h1
    split at h
    · simp at h
    · rename_i h2
      have hz : ¬ (z < 0 ∨ 40 < z) := fun q => by rw [chkE, if_pos q] at h1; cases h1
      refine ⟨by omega, by omega, h1, by omega, ?_⟩
      rw [prF, if_neg (by simp [h1]), if_neg h2]
theorem pr_not {v : V} {z : Int} (h : ¬ (prF v z).1 = 0) : (prF v z).2 = [] ∧ (chkE v z = (prF v z).1 ∨ (chkE v z = 0 ∧ (prF v z).1 = 30)) := by
  unfold prF at h ⊢
  split
  · exact ⟨rfl, .inl rfl⟩
  · rename_i h1
    rw [if_neg h1] at h
    have h1 : chkE v z = 0 := by simpa using h1
    split
    · exact ⟨rfl, .inr ⟨h1, rfl⟩⟩
    · rename_i h2; rw [if_neg h2] at h; exact absurd rfl h
set_option maxHeartbeats 16000000 in
theorem backlaw_walk (v u : V) (z : Int) (S T : Nat → Prop) (cs ds : List Value) (w : World) (hv : v.lies false w S cs) (hu : u.lies false w T ds) (hS : ∀ x, S x → x < w.heap.size) (hT : ∀ x, T x → x < w.heap.size) (hz : In64 z) (t : Td w) (td : Tdl w) : Calls Tryz.prog 3 #[.agg cs.toArray, .agg ds.toArray, .int .i64 z] w (BPost true w) := by
  have HV := hmk hv
  have HU := hmk hu
  have HIV := hmk (lies_in v hv)
  have HIU := hmk (lies_in u hu)
  obtain ⟨vk, vb, vi, vs, val, vnl, vcl, vam, vnm, vcm, rfl⟩ := V.ten hv
  obtain ⟨uk, ub, ui, us, ual, unl, ucl, uam, unm, ucm, rfl⟩ := V.ten hu
  have B0 := two_below w (.cells #[.int .i64 vk, .bool vb, .int .i64 vi, .string vs, .slice val vnl vcl, .slice vam vnm vcm] 25) (.cells #[.int .i64 uk, .bool ub, .int .i64 ui, .string us, .slice ual unl ucl, .slice uam unm ucm] 25)
  have z0 : ((w.alloc (.cells #[.int .i64 vk, .bool vb, .int .i64 vi, .string vs, .slice val vnl vcl, .slice vam vnm vcm] 25)).alloc (.cells #[.int .i64 uk, .bool ub, .int .i64 ui, .string us, .slice ual unl ucl, .slice uam unm ucm] 25)).heap.size = w.heap.size + 1 + 1 := by rw [alloc_size, alloc_size]
  have N0 : ((w.alloc (.cells #[.int .i64 vk, .bool vb, .int .i64 vi, .string vs, .slice val vnl vcl, .slice vam vnm vcm] 25)).alloc (.cells #[.int .i64 uk, .bool ub, .int .i64 ui, .string us, .slice ual unl ucl, .slice uam unm ucm] 25)).heap[w.heap.size]? = some (.cells #[.int .i64 vk, .bool vb, .int .i64 vi, .string vs, .slice val vnl vcl, .slice vam vnm vcm] 25) := (Below.heap_alloc _ _ _ (by rw [alloc_size]; omega)).trans (heap_alloc_new w _)
  have M0 := alloc2_new w (.cells #[.int .i64 vk, .bool vb, .int .i64 vi, .string vs, .slice val vnl vcl, .slice vam vnm vcm] 25) (.cells #[.int .i64 uk, .bool ub, .int .i64 ui, .string us, .slice ual unl ucl, .slice uam unm ucm] 25)
  have HK : Hid (∀ W, Below ((w.alloc (.cells #[.int .i64 vk, .bool vb, .int .i64 vi, .string vs, .slice val vnl vcl, .slice vam vnm vcm] 25)).alloc (.cells #[.int .i64 uk, .bool ub, .int .i64 ui, .string us, .slice ual unl ucl, .slice uam unm ucm] 25)).heap.size ((w.alloc (.cells #[.int .i64 vk, .bool vb, .int .i64 vi, .string vs, .slice val vnl vcl, .slice vam vnm vcm] 25)).alloc (.cells #[.int .i64 uk, .bool ub, .int .i64 ui, .string us, .slice ual unl ucl, .slice uam unm ucm] 25)) W → W.heap[w.heap.size]? = some (.cells #[.int .i64 vk, .bool vb, .int .i64 vi, .string vs, .slice val vnl vcl, .slice vam vnm vcm] 25) ∧ W.heap[w.heap.size + 1]? = some (.cells #[.int .i64 uk, .bool ub, .int .i64 ui, .string us, .slice ual unl ucl, .slice uam unm ucm] 25) ∧ v.lies false W S [.int .i64 vk, .bool vb, .int .i64 vi, .string vs, .slice val vnl vcl, .slice vam vnm vcm] ∧ u.lies false W T [.int .i64 uk, .bool ub, .int .i64 ui, .string us, .slice ual unl ucl, .slice uam unm ucm] ∧ Td W ∧ Tdl W ∧ Below w.heap.size w W) := fun W h => by
    have bW := B0.trans (h.mono (by omega))
    exact ⟨(h.block _ (by omega)).trans N0, (h.block _ (by omega)).trans M0, V.lies_keep (fun h => h) (fun x hx => bW.block x (hS x hx)) (fun _ h => h) _ HV.out, V.lies_keep (fun h => h) (fun x hx => bW.block x (hT x hx)) (fun _ h => h) _ HU.out, t.below bW (by have := t.z; omega) bW.size, td.below bW (by have := td.z; omega) bW.size, bW⟩
  clear hv hu HV HU t td N0 M0
  obtain ⟨W0, hW0⟩ : ∃ W0, W0 = ((w.alloc (.cells #[.int .i64 vk, .bool vb, .int .i64 vi, .string vs, .slice val vnl vcl, .slice vam vnm vcm] 25)).alloc (.cells #[.int .i64 uk, .bool ub, .int .i64 ui, .string us, .slice ual unl ucl, .slice uam unm ucm] 25)) := ⟨_, rfl⟩
  rw [← hW0] at B0 z0 HK
  obtain ⟨N0, M0, L0, K0, _, _, _⟩ := HK.out W0 (Below.refl _ _)
  have C1 := hmk (beyond_any v S _ W0 L0 (fun x hx => by have := hS x hx; omega))
  have a0 := cell_of_block N0 0
  have a1 := cell_of_block N0 1
  have a2 := cell_of_block N0 2
  have a3 := cell_of_block N0 3
  have a4 := cell_of_block N0 4
  have a5 := cell_of_block N0 5
  simp only [List.getElem?_toArray, List.getElem?_cons_zero, List.getElem?_cons_succ] at a0 a1 a2 a3 a4 a5
  clear L0 K0
  go_enter Tryz.func3, Tryz.ntmps3
  go_wp2_with fail
  (try rw [← hW0])
  refine C1.out.mono ?_
  rintro e w1 ⟨r, rfl, hr, b1⟩
  clear C1 a0 a1 a2 a3 a4 a5 N0 M0 hW0
  have z1 := b1.size
  obtain ⟨N1, M1, L1, K1, _, _, B1⟩ := HK.out w1 b1
  cases r with
  | true =>
    clear N1 M1 L1 K1
    go_wp2_with fail
    go_ret
    exact ⟨rfl, B1⟩
  | false =>
    have HWV := hmk (hr rfl)
    have C2 := hmk (beyond_any u T _ w1 K1 (fun x hx => by have := hT x hx; omega))
    have a0 := cell_of_block M1 0
    have a1 := cell_of_block M1 1
    have a2 := cell_of_block M1 2
    have a3 := cell_of_block M1 3
    have a4 := cell_of_block M1 4
    have a5 := cell_of_block M1 5
    simp only [List.getElem?_toArray, List.getElem?_cons_zero, List.getElem?_cons_succ] at a0 a1 a2 a3 a4 a5
    clear L1 K1 hr N1 M1
    go_wp2_with fail
    refine C2.out.mono ?_
    rintro e w2 ⟨r, rfl, hr, b2⟩
    clear C2 a0 a1 a2 a3 a4 a5
    have z2 := b2.size
    have D2 := b1.trans (b2.mono (by omega))
    obtain ⟨N2, M2, L2, K2, T2, U2, B2⟩ := HK.out w2 D2
    cases r with
    | true =>
      clear N2 M2 L2 K2
      go_wp2_with fail
      go_ret
      exact ⟨rfl, B2⟩
    | false =>
      have HWU := hmk (hr rfl)
      have C3 := hmk (alive_any w2 T2 U2)
      clear N2 M2 L2 K2 T2 U2 hr B1 B2 b1 b2
      go_wp2_with fail
      refine C3.out.mono ?_
      rintro e w3 ⟨rfl, b3⟩
      have z3 := b3.size
      have D3 := D2.trans (b3.mono (by omega))
      obtain ⟨N3, M3, L3, K3, T3, U3, B3⟩ := HK.out w3 D3
      obtain ⟨nv, tv, hPV⟩ : ∃ n b, prF v z = (n, b) := ⟨_, _, rfl⟩
      obtain ⟨nu, tu, hPU⟩ : ∃ n b, prF u z = (n, b) := ⟨_, _, rfl⟩
      have C4 := hmk (print_any v z S _ w3 U3 L3 (fun x hx => by have := hS x hx; omega) (by have := HWV.out; omega))
      have a0 := cell_of_block N3 0
      have a1 := cell_of_block N3 1
      have a2 := cell_of_block N3 2
      have a3 := cell_of_block N3 3
      have a4 := cell_of_block N3 4
      have a5 := cell_of_block N3 5
      simp only [List.getElem?_toArray, List.getElem?_cons_zero, List.getElem?_cons_succ] at a0 a1 a2 a3 a4 a5
      clear C3 N3 M3 L3 K3 T3 U3 B3 D2 b3
      unfold PrPost at C4
      rw [hPV] at C4
      dsimp only at C4
      have HPV := hmk hPV
      clear hPV
      go_wp2_with fail
      refine C4.out.mono ?_
      rintro e w4 ⟨bv, Bv, rfl, ho4, _, b4⟩
      have z4 := b4.size
      have D4 := D3.trans (b4.mono (by omega))
      obtain ⟨N4, M4, L4, K4, T4, U4, B4⟩ := HK.out w4 D4
      have C5 := hmk (print_any u z T _ w4 U4 K4 (fun x hx => by have := hT x hx; omega) (by have := HWU.out; omega))
      have HBV := hmk (byt_ownB ho4)
      obtain ⟨ba, bc, rfl⟩ := own_slice ho4
      clear a0 a1 a2 a3 a4 a5
      have a0 := cell_of_block M4 0
      have a1 := cell_of_block M4 1
      have a2 := cell_of_block M4 2
      have a3 := cell_of_block M4 3
      have a4 := cell_of_block M4 4
      have a5 := cell_of_block M4 5
      simp only [List.getElem?_toArray, List.getElem?_cons_zero, List.getElem?_cons_succ] at a0 a1 a2 a3 a4 a5
      clear C4 N4 M4 L4 K4 T4 U4 B4 D3 ho4
      unfold PrPost at C5
      rw [hPU] at C5
      dsimp only at C5
      have HPU := hmk hPU
      clear hPU
      go_wp2_with fail
      refine C5.out.mono ?_
      rintro e w5 ⟨dv, Bd, rfl, ho5, _, b5⟩
      have z5 := b5.size
      have D5 := D4.trans (b5.mono (by omega))
      obtain ⟨N5, M5, L5, K5, T5, U5, B5⟩ := HK.out w5 D5
      have HDV := hmk (byt_ownB ho5)
      have HBV5 := hmk (HBV.out.keep b5)
      obtain ⟨da, dc, rfl⟩ := own_slice ho5
      clear C5 a0 a1 a2 a3 a4 a5 ho5 HBV b4 b5 D4
      go_upto_region 8 with fail
      go_cut [60] (fun e wx => e = .bool false ∧ Below w5.heap.size w5 wx)
      case first =>
        by_cases hn : nv = 0
        · subst hn
          by_cases hm : nu = 0
          · subst hm
            have ev : (prF v z).1 = 0 := by rw [HPV.out]
            have eu : (prF u z).1 = 0 := by rw [HPU.out]
            obtain ⟨hz0, hz1, hcz, hlt, hpf⟩ := pr_zero ev
            obtain ⟨_, _, hcu, hlu, hpg⟩ := pr_zero eu
            obtain rfl : tv = txtV v := by have := HPV.out.symm.trans hpf; injection this
            obtain rfl : tu = txtV u := by have := HPU.out.symm.trans hpg; injection this
            rw [chkE, if_neg (by omega)] at hcz hcu
            obtain ⟨okv, _, _, _, hndv⟩ := chk_inv z.toNat v 0 (0, 0, 0) HIV.out hcz
            obtain ⟨oku, _, _, _, hndu⟩ := chk_inv z.toNat u 0 (0, 0, 0) HIU.out hcu
            have EQ : decide (txtV v = txtV u) = V.eqB v u := txt_one okv oku (by dsimp only at hndv; omega) (by dsimp only at hndu; omega)
            have hht := ok_ht okv
            obtain ⟨q, hq0⟩ : ∃ q, V.eqB v u = q := ⟨_, rfl⟩
            have C12 : Hid (∀ x : Sub w5.heap.size w5, Calls Tryz.prog 12 #[.slice ba (txtV v).length bc, .slice da (txtV u).length dc] x.w fun e w'' => e = .returned (.bool q) ∧ ∃ y : Sub w5.heap.size w5, w'' = y.w) :=
              sub_call fun w' hb => (bytes_cmp _ _ _ _ w' (HBV5.out.keep hb) (HDV.out.keep hb) (by omega) (by omega)).mono fun e w'' h => ⟨h.1.trans (by rw [EQ, hq0]), hb.trans (h.2.mono hb.size)⟩
            have C13 : Hid (∀ x : Sub w5.heap.size w5, Calls Tryz.prog 13 #[.agg #[.int .i64 vk, .bool vb, .int .i64 vi, .string vs, .slice val vnl vcl, .slice vam vnm vcm], .agg #[.int .i64 uk, .bool ub, .int .i64 ui, .string us, .slice ual unl ucl, .slice uam unm ucm], .int .i64 0] x.w fun e w'' => e = .returned (.bool q) ∧ ∃ y : Sub w5.heap.size w5, w'' = y.w) :=
              sub_call fun w' hb => by
                obtain ⟨_, _, Lx, Kx, _, _, _⟩ := HK.out w' (D5.trans (hb.mono (by omega)))
                have zb := hb.size
                exact (samc_any v 0 u S T _ _ w' (by omega) (by omega) Lx Kx (fun x hx => by have := hS x hx; omega) (fun x hx => by have := hT x hx; omega)).mono fun e w'' h => ⟨h.1.trans (by rw [hq0]), hb.trans (h.2.mono hb.size)⟩
            have a0 := cell_of_block N5 0
            have a1 := cell_of_block N5 1
            have a2 := cell_of_block N5 2
            have a3 := cell_of_block N5 3
            have a4 := cell_of_block N5 4
            have a5 := cell_of_block N5 5
            simp only [List.getElem?_toArray, List.getElem?_cons_zero, List.getElem?_cons_succ] at a0 a1 a2 a3 a4 a5
            have d0 := cell_of_block M5 0
            have d1 := cell_of_block M5 1
            have d2 := cell_of_block M5 2
            have d3 := cell_of_block M5 3
            have d4 := cell_of_block M5 4
            have d5 := cell_of_block M5 5
            simp only [List.getElem?_toArray, List.getElem?_cons_zero, List.getElem?_cons_succ] at d0 d1 d2 d3 d4 d5
            have p0 : ∀ x : Sub w5.heap.size w5, _ := sub_cell a0 (by omega)
            have q0 : ∀ x : Sub w5.heap.size w5, _ := sub_cell d0 (by omega)
            have p1 : ∀ x : Sub w5.heap.size w5, _ := sub_cell a1 (by omega)
            have q1 : ∀ x : Sub w5.heap.size w5, _ := sub_cell d1 (by omega)
            have p2 : ∀ x : Sub w5.heap.size w5, _ := sub_cell a2 (by omega)
            have q2 : ∀ x : Sub w5.heap.size w5, _ := sub_cell d2 (by omega)
            have p3 : ∀ x : Sub w5.heap.size w5, _ := sub_cell a3 (by omega)
            have q3 : ∀ x : Sub w5.heap.size w5, _ := sub_cell d3 (by omega)
            have p4 : ∀ x : Sub w5.heap.size w5, _ := sub_cell a4 (by omega)
            have q4 : ∀ x : Sub w5.heap.size w5, _ := sub_cell d4 (by omega)
            have p5 : ∀ x : Sub w5.heap.size w5, _ := sub_cell a5 (by omega)
            have q5 : ∀ x : Sub w5.heap.size w5, _ := sub_cell d5 (by omega)
            clear a0 a1 a2 a3 a4 a5 d0 d1 d2 d3 d4 d5 N5 M5 L5 K5 T5 U5 B5 ev eu hcz hcu hpf hpg okv oku EQ hq0 HBV5 HDV
            cases q with
            | true =>
              refine wp_region_sub w5.heap.size (by kernel_rfl) (by kernel_rfl) ?_
              repeat (go_big_quiet_step (first | exact C12.out _ | exact C13.out _))
              refine wpQuiet_nil ?_
              rintro w6 ⟨⟨w6', b6⟩, hq⟩
              have hq' : w6 = w6' := hq
              subst hq'
              clear hq
              go_wp2_with fail
              go_meet
              case rel => exact ⟨rfl, b6⟩
            | false =>
              refine wp_region_sub w5.heap.size (by kernel_rfl) (by kernel_rfl) ?_
              repeat (go_big_quiet_step (first | exact C12.out _ | exact C13.out _))
              refine wpQuiet_nil ?_
              rintro w6 ⟨⟨w6', b6⟩, hq⟩
              have hq' : w6 = w6' := hq
              subst hq'
              clear hq
              go_wp2_with fail
              go_meet
              case rel => exact ⟨rfl, b6⟩
          · have yu : ((nu : Int) == 0) = false := by rw [beq_eq_false_iff_ne]; omega
            clear N5 M5 L5 K5 T5 U5 B5 HDV HBV5
            refine wp_region_sub w5.heap.size (by kernel_rfl) (by kernel_rfl) ?_
            repeat (go_big_quiet_step (fail))
            refine wpQuiet_nil ?_
            rintro w6 ⟨⟨w6', b6⟩, hq⟩
            have hq' : w6 = w6' := hq
            subst hq'
            clear hq
            go_wp2_with fail
            go_meet
            case rel => exact ⟨rfl, b6⟩
        · have yu : ((nv : Int) == 0) = false := by rw [beq_eq_false_iff_ne]; omega
          clear N5 M5 L5 K5 T5 U5 B5 HDV HBV5
          refine wp_region_sub w5.heap.size (by kernel_rfl) (by kernel_rfl) ?_
          repeat (go_big_quiet_step (fail))
          refine wpQuiet_nil ?_
          rintro w6 ⟨⟨w6', b6⟩, hq⟩
          have hq' : w6 = w6' := hq
          subst hq'
          clear hq
          go_wp2_with fail
          go_meet
          case rel => exact ⟨rfl, b6⟩
      case rest =>
        rename World => w6
        obtain ⟨rfl, b6⟩ := hcut
        have z6 := b6.size
        have D6 := D5.trans (b6.mono (by omega))
        have HBV6 := hmk (HBV5.out.keep b6)
        clear N5 M5 L5 K5 T5 U5 B5 HDV HBV5 b6 D5
        by_cases hn : nv = 0
        · subst hn
          have ev : (prF v z).1 = 0 := by rw [HPV.out]
          obtain ⟨hz0, hz1, hcz, hlt, hpf⟩ := pr_zero ev
          obtain rfl : tv = txtV v := by have := HPV.out.symm.trans hpf; injection this
          have HCZ := hmk hcz
          have HLT := hmk hlt
          rw [chkE, if_neg (by omega)] at hcz
          obtain ⟨okv, hnd0, hby0, hht, hnd⟩ := chk_inv z.toNat v 0 (0, 0, 0) HIV.out hcz
          have hby : byV v ≤ 1048576 := by
            have hbn := (chkV_bnd z.toNat v 0 (0, 0, 0) ⟨by dsimp only; omega, by dsimp only; omega, by dsimp only; omega⟩ hcz).y
            rw [hby0] at hbn
            dsimp only at hbn
            omega
          dsimp only at hnd
          have hhz := ok_ht okv
          obtain ⟨h, hh⟩ : ∃ h, h = htV v := ⟨_, rfl⟩
          have okh : okD h v 0 := ok_less okv (by omega)
          have HDF : Hid (depF v = (h : Int)) := by
            show _ = _
            have e40 := chk_ok 40 v 0 (0, 0, 0) (ok_less okv (by omega)) (by dsimp only; omega) (by dsimp only; omega)
            have e41 := chk_inv 40 v 0 (0, 0, 0) HIV.out e40.1
            rw [depF, if_pos e40.1, e41.2.2.2.1]
            dsimp only
            omega
          have HPB : Hid (parJ (txtV v) z = (v, -1, 0)) := par_back hz0 hz1 okv (by omega) hlt
          have HPD : Hid (parJ (txtV v) (h : Int) = (v, -1, 0)) := par_back (by omega) (by omega) (by rw [Int.toNat_natCast]; exact okh) (by omega) hlt
          have HPP : Hid (¬ h = 0 → ∃ p : Nat, parJ (txtV v) ((h - 1 : Nat) : Int) = (nulV, (p : Int), 21) ∧ 0 < p ∧ p < (txtV v).length) := fun hne => par_deep okv (by omega) (by omega) (by omega) hlt
          have HPQ : Hid (¬ h = 0 → prF v ((h - 1 : Nat) : Int) = (21, [])) := fun hne => by
            have e := chk_deep (h - 1) z.toNat v 0 (0, 0, 0) okv (by omega) (by dsimp only; omega) (by dsimp only; omega)
            have e2 : chkE v ((h - 1 : Nat) : Int) = 21 := by rw [chkE, if_neg (by omega), Int.toNat_natCast]; exact e
            rw [prF, e2, if_pos (by decide)]
          have yz0 : ¬ z < 0 := by omega
          have yz1 : ¬ 40 < z := by omega
          have yh1 : ¬ (h : Int) < 0 := by omega
          have yh2 : ¬ z < (h : Int) := by omega
          have hh40 : h ≤ 40 := by omega
          clear ev hpf hcz hnd0 hby0 hht hnd hby okh okv HPV HPU hh hhz
          obtain ⟨N6, M6, L6, K6, T6, U6, B6⟩ := HK.out w6 D6
          have C7 := hmk (check_wide false v z S _ w6 ⟨T6.u, by have := T6.z; omega⟩ L6 (fun x hx => by have := hS x hx; omega) (by have := HWV.out; omega))
          rw [HCZ.out] at C7
          have a0 := cell_of_block N6 0
          have a1 := cell_of_block N6 1
          have a2 := cell_of_block N6 2
          have a3 := cell_of_block N6 3
          have a4 := cell_of_block N6 4
          have a5 := cell_of_block N6 5
          simp only [List.getElem?_toArray, List.getElem?_cons_zero, List.getElem?_cons_succ] at a0 a1 a2 a3 a4 a5
          clear N6 M6 L6 K6 U6 B6
          go_wp2_with fail
          refine C7.out.mono ?_
          rintro e w7 ⟨rfl, b7⟩
          clear C7 a0 a1 a2 a3 a4 a5 T6
          have z7 := b7.size
          have D7 := D6.trans (b7.mono (by omega))
          have HBV7 := hmk (HBV6.out.keep b7)
          obtain ⟨N7, M7, L7, K7, T7, U7, B7⟩ := HK.out w7 D7
          have C8 := parse_any (txtV v) _ z w7 HBV7.out.bys T7 hz (by have := HLT.out; omega)
          rw [HPB.out] at C8
          have C8H := hmk C8
          clear C8 N7 M7 L7 K7 T7 U7 B7 HBV6
          go_wp2_with fail
          refine C8H.out.mono ?_
          rintro e w8 ⟨xs, rfl, hl8, b8⟩
          dsimp only at hl8
          have HL8 := hmk hl8
          obtain ⟨xk, xb, xi, xs, xal, xnl, xcl, xam, xnm, xcm, rfl⟩ := V.ten hl8
          clear hl8 C8H
          have z8 := b8.size
          have bX : Below w8.heap.size w8 (w8.alloc (.cells #[.int .i64 xk, .bool xb, .int .i64 xi, .string xs, .slice xal xnl xcl, .slice xam xnm xcm] 25)) := (Below.refl _ _).alloc (Nat.le_refl _) _
          have zX := alloc_size w8 (.cells #[.int .i64 xk, .bool xb, .int .i64 xi, .string xs, .slice xal xnl xcl, .slice xam xnm xcm] 25)
          have NX := heap_alloc_new w8 (.cells #[.int .i64 xk, .bool xb, .int .i64 xi, .string xs, .slice xal xnl xcl, .slice xam xnm xcm] 25)
          have D8 := (D7.trans (b8.mono (by omega))).trans (bX.mono (by omega))
          obtain ⟨N8, M8, L8, K8, T8, U8, B8⟩ := HK.out _ D8
          have C9 := hmk (samv_any v 0 (New w7 w8) S _ _ _ (by omega) (by omega) (V.lies_keep (fun h => h) (fun x hx => bX.block x hx.2) (fun _ h => h) _ HL8.out) L8 (fun x hx => by have := hx.2; omega) (fun x hx => by have := hS x hx; omega))
          have HBV8 := hmk ((HBV7.out.keep b8).keep bX)
          have a0 := cell_of_block N8 0
          have a1 := cell_of_block N8 1
          have a2 := cell_of_block N8 2
          have a3 := cell_of_block N8 3
          have a4 := cell_of_block N8 4
          have a5 := cell_of_block N8 5
          simp only [List.getElem?_toArray, List.getElem?_cons_zero, List.getElem?_cons_succ] at a0 a1 a2 a3 a4 a5
          have d0 := cell_of_block NX 0
          have d1 := cell_of_block NX 1
          have d2 := cell_of_block NX 2
          have d3 := cell_of_block NX 3
          have d4 := cell_of_block NX 4
          have d5 := cell_of_block NX 5
          simp only [List.getElem?_toArray, List.getElem?_cons_zero, List.getElem?_cons_succ] at d0 d1 d2 d3 d4 d5
          clear N8 M8 L8 K8 T8 U8 B8 NX HL8 HBV7
          go_wp2_with fail
          refine C9.out.mono ?_
          rintro e w9 ⟨rfl, b9⟩
          clear C9 a0 a1 a2 a3 a4 a5 d0 d1 d2 d3 d4 d5
          have z9 := b9.size
          have D9 := D8.trans (b9.mono (by omega))
          have HBV9 := hmk (HBV8.out.keep b9)
          obtain ⟨N9, M9, L9, K9, T9, U9, B9⟩ := HK.out w9 D9
          have C10 := hmk (depth_any false v S _ w9 ⟨T9.u, by have := T9.z; omega⟩ L9 (fun x hx => by have := hS x hx; omega) (by have := HWV.out; omega))
          rw [HDF.out] at C10
          have a0 := cell_of_block N9 0
          have a1 := cell_of_block N9 1
          have a2 := cell_of_block N9 2
          have a3 := cell_of_block N9 3
          have a4 := cell_of_block N9 4
          have a5 := cell_of_block N9 5
          simp only [List.getElem?_toArray, List.getElem?_cons_zero, List.getElem?_cons_succ] at a0 a1 a2 a3 a4 a5
          clear N9 M9 L9 K9 T9 U9 B9 HBV8
          go_wp2_with fail
          refine C10.out.mono ?_
          rintro e wA ⟨rfl, bA⟩
          clear C10 a0 a1 a2 a3 a4 a5
          have zA := bA.size
          have DA := D9.trans (bA.mono (by omega))
          have HBVA := hmk (HBV9.out.keep bA)
          obtain ⟨NA, MA, LA, KA, TA, UA, BA⟩ := HK.out wA DA
          have CB := parse_any (txtV v) _ (h : Int) wA HBVA.out.bys TA ⟨by omega, by omega⟩ (by have := HLT.out; omega)
          rw [HPD.out] at CB
          have CBH := hmk CB
          clear CB NA MA LA KA TA UA BA HBV9
          go_wp2_with fail
          refine CBH.out.mono ?_
          rintro e wB ⟨ys, rfl, hlB, bB⟩
          dsimp only at hlB
          have HLB := hmk hlB
          obtain ⟨yk, yb, yi, ys, yal, ynl, ycl, yam, ynm, ycm, rfl⟩ := V.ten hlB
          clear hlB CBH
          have zB := bB.size
          have bY : Below wB.heap.size wB (wB.alloc (.cells #[.int .i64 yk, .bool yb, .int .i64 yi, .string ys, .slice yal ynl ycl, .slice yam ynm ycm] 25)) := (Below.refl _ _).alloc (Nat.le_refl _) _
          have zY := alloc_size wB (.cells #[.int .i64 yk, .bool yb, .int .i64 yi, .string ys, .slice yal ynl ycl, .slice yam ynm ycm] 25)
          have NY := heap_alloc_new wB (.cells #[.int .i64 yk, .bool yb, .int .i64 yi, .string ys, .slice yal ynl ycl, .slice yam ynm ycm] 25)
          have DB := (DA.trans (bB.mono (by omega))).trans (bY.mono (by omega))
          obtain ⟨NB, MB, LB, KB, TB, UB, BB⟩ := HK.out _ DB
          have CC := hmk (samv_any v 0 (New wA wB) S _ _ _ (by omega) (by omega) (V.lies_keep (fun h => h) (fun x hx => bY.block x hx.2) (fun _ h => h) _ HLB.out) LB (fun x hx => by have := hx.2; omega) (fun x hx => by have := hS x hx; omega))
          have HBVB := hmk ((HBVA.out.keep bB).keep bY)
          have a0 := cell_of_block NB 0
          have a1 := cell_of_block NB 1
          have a2 := cell_of_block NB 2
          have a3 := cell_of_block NB 3
          have a4 := cell_of_block NB 4
          have a5 := cell_of_block NB 5
          simp only [List.getElem?_toArray, List.getElem?_cons_zero, List.getElem?_cons_succ] at a0 a1 a2 a3 a4 a5
          have d0 := cell_of_block NY 0
          have d1 := cell_of_block NY 1
          have d2 := cell_of_block NY 2
          have d3 := cell_of_block NY 3
          have d4 := cell_of_block NY 4
          have d5 := cell_of_block NY 5
          simp only [List.getElem?_toArray, List.getElem?_cons_zero, List.getElem?_cons_succ] at d0 d1 d2 d3 d4 d5
          clear NB MB LB KB TB UB BB NY HLB HBVA
          go_wp2_with fail
          refine CC.out.mono ?_
          rintro e wC ⟨rfl, bC⟩
          clear CC a0 a1 a2 a3 a4 a5 d0 d1 d2 d3 d4 d5
          have zC := bC.size
          have DC := DB.trans (bC.mono (by omega))
          have HBVC := hmk (HBVB.out.keep bC)
          obtain ⟨NC, MC, LC, KC, TC, UC, BC⟩ := HK.out wC DC
          by_cases hh0 : h = 0
          · have yh : ((h : Int) == 0) = true := by rw [beq_iff_eq]; omega
            clear NC MC LC KC TC UC
            go_wp2_with fail
            go_ret
            exact ⟨rfl, BC⟩
          · have yh : ((h : Int) == 0) = false := by rw [beq_eq_false_iff_ne]; omega
            obtain ⟨p, hp1, hp2, hp3⟩ := HPP.out hh0
            have HPR := hmk (HPQ.out hh0)
            have e1 : ((h - 1 : Nat) : Int) = (h : Int) - 1 := by omega
            have CD := parse_any (txtV v) _ ((h - 1 : Nat) : Int) wC HBVC.out.bys TC ⟨by omega, by omega⟩ (by have := HLT.out; omega)
            rw [hp1, e1] at CD
            have CDH := hmk CD
            clear CD NC MC LC KC TC UC BC hp1 HBVB
            go_wp2_with fail
            refine CDH.out.mono ?_
            rintro e wD ⟨ps, rfl, hlD, bD⟩
            dsimp only at hlD
            obtain ⟨pk, pb, pi, ps, pal, pnl, pcl, pam, pnm, pcm, rfl⟩ := V.ten hlD
            clear hlD CDH
            have zD := bD.size
            have bP : Below wD.heap.size wD (wD.alloc (.cells #[.int .i64 pk, .bool pb, .int .i64 pi, .string ps, .slice pal pnl pcl, .slice pam pnm pcm] 25)) := (Below.refl _ _).alloc (Nat.le_refl _) _
            have zP := alloc_size wD (.cells #[.int .i64 pk, .bool pb, .int .i64 pi, .string ps, .slice pal pnl pcl, .slice pam pnm pcm] 25)
            have DD := (DC.trans (bD.mono (by omega))).trans (bP.mono (by omega))
            obtain ⟨ND, MD, LD, KD, TD, UD, BD⟩ := HK.out _ DD
            have CE := print_any v ((h - 1 : Nat) : Int) S _ _ UD LD (fun x hx => by have := hS x hx; omega) (by have := HWV.out; omega)
            unfold PrPost at CE
            rw [HPR.out, e1] at CE
            have CEH := hmk CE
            have a0 := cell_of_block ND 0
            have a1 := cell_of_block ND 1
            have a2 := cell_of_block ND 2
            have a3 := cell_of_block ND 3
            have a4 := cell_of_block ND 4
            have a5 := cell_of_block ND 5
            simp only [List.getElem?_toArray, List.getElem?_cons_zero, List.getElem?_cons_succ] at a0 a1 a2 a3 a4 a5
            have y9 : (0 : Int) < (p : Int) := by omega
            have y8 : (p : Int) < ((txtV v).length : Int) := by omega
            clear CE ND MD LD KD TD UD BD
            go_wp2_with fail
            refine CEH.out.mono ?_
            rintro e wE ⟨ev, BE, rfl, hoE, _, bE⟩
            have BF := (HK.out _ (DD.trans (bE.mono (by omega)))).2.2.2.2.2.2
            clear CEH a0 a1 a2 a3 a4 a5 hoE
            go_wp2_with fail
            go_ret
            exact ⟨rfl, BF⟩
        · have ev : ¬ (prF v z).1 = 0 := by rw [HPV.out]; exact hn
          have HPN := pr_not ev
          rw [HPV.out] at HPN
          dsimp only at HPN
          obtain ⟨htv, hpn⟩ := HPN
          have hl : tv.length = 0 := by rw [htv]; rfl
          have yn0 : ((nv : Int) == 0) = false := by rw [beq_eq_false_iff_ne]; omega
          have yn1 : ((nv : Int) != 0) = true := by rw [bne_iff_ne]; omega
          obtain ⟨N6, M6, L6, K6, T6, U6, B6⟩ := HK.out w6 D6
          by_cases hzr : z < 0 ∨ 40 < z
          · obtain rfl : nv = 2 := by
              have e2 : chkE v z = 2 := by rw [chkE, if_pos hzr]
              rcases hpn with h | h
              · omega
              · omega
            clear N6 M6 L6 K6 T6 U6 HPV HPU ev htv hpn HBV6 yn0 yn1 hn
            by_cases yz0 : z < 0
            · clear hzr
              go_wp2_with fail
              go_ret
              exact ⟨rfl, B6⟩
            · have yz1 : 40 < z := by omega
              clear hzr
              go_wp2_with fail
              go_ret
              exact ⟨rfl, B6⟩
          · have yz0 : ¬ z < 0 := by omega
            have yz1 : ¬ 40 < z := by omega
            have C7 := hmk (check_wide false v z S _ w6 ⟨T6.u, by have := T6.z; omega⟩ L6 (fun x hx => by have := hS x hx; omega) (by have := HWV.out; omega))
            generalize hg : chkE v z = g at C7 hpn
            have a0 := cell_of_block N6 0
            have a1 := cell_of_block N6 1
            have a2 := cell_of_block N6 2
            have a3 := cell_of_block N6 3
            have a4 := cell_of_block N6 4
            have a5 := cell_of_block N6 5
            simp only [List.getElem?_toArray, List.getElem?_cons_zero, List.getElem?_cons_succ] at a0 a1 a2 a3 a4 a5
            clear N6 M6 L6 K6 U6 B6 HPV HPU ev htv HBV6 hzr hg
            go_wp2_with fail
            refine C7.out.mono ?_
            rintro e w7 ⟨rfl, b7⟩
            clear C7 a0 a1 a2 a3 a4 a5 T6
            have BF := (HK.out _ (D6.trans (b7.mono (by omega)))).2.2.2.2.2.2
            rcases hpn with hpn | ⟨hg0, hpn⟩
            · obtain rfl : g = nv := hpn
              have yg : ((g : Int) == (g : Int)) = true := by rw [beq_iff_eq]
              go_wp2_with fail
              go_ret
              exact ⟨rfl, BF⟩
            · subst hg0 hpn
              go_wp2_with fail
              go_ret
              exact ⟨rfl, BF⟩
end Go.Proofs.YtpmhdcmmlkjjmaaGreatDoor
