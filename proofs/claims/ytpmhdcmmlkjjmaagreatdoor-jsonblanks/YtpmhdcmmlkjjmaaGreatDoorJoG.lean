import Derived.Test.YtpmhdcmmlkjjmaaGreatDoorG51
/- JsonBlanks: the law's walk. -/
set_option linter.unusedSimpArgs false
set_option linter.unusedVariables false
set_option maxRecDepth 100000
namespace Go.Proofs.YtpmhdcmmlkjjmaaGreatDoor
open Go.RowKit Go.Lib
theorem kind_of {R : Bool} {w : World} {S : Nat → Prop} {v : V} {k : Int} {cs : List Value} (h : v.lies R w S (.int .i64 k :: cs)) : v.kind = k := by
  cases v
  rw [V.lies] at h
  obtain ⟨al, cl, bl, ol, am, cm, bm, om, e, _⟩ := h
  injection e with e _
  injection e with _ e
  exact e.symm
theorem Byt.take {w : World} {a : Option Addr} {c b o k : Nat} {l : List UInt8} (hd : Headed a k c b o) (hk : k ≤ l.length) (hc : ∀ (j : Nat) (h : j < l.length), b < w.heap.size ∧ w.cell? ⟨b, o + j, none⟩ = some (.int .u8 ((l[j]).toNat : Int))) : Byt w (.slice a k c) (l.take k) := by
  have hl : (l.take k).length = k := by rw [List.length_take]; omega
  refine ⟨a, c, b, o, by rw [hl], by rw [hl]; exact hd, fun j hj => ?_⟩
  rw [hl] at hj
  have := hc j (by omega)
  rw [List.getElem_take]
  exact this
set_option maxHeartbeats 16000000 in
theorem blankslaw_walk (v : V) (gaps : List Int) (gv : Value) (cut : Int) (S : Nat → Prop) (cs : List Value) (w : World) (hv : v.lies false w S cs) (hS : ∀ x, S x → x < w.heap.size) (hg : Ints w gv gaps) (hgl : gaps.length ≤ 140737488355328) (hcut : In64 cut) (t : Td w) (td : Tdl w) : Calls Tryz.prog 5 #[.agg cs.toArray, gv, .int .i64 cut] w (BPost true w) := by
  have HV := hmk hv
  have HIV := hmk (lies_in v hv)
  have HGV := hmk hg
  obtain ⟨vk, vb, vi, vs, val, vnl, vcl, vam, vnm, vcm, rfl⟩ := V.ten hv
  have HKD := hmk (kind_of hv)
  have B0 : Below w.heap.size w (w.alloc (.cells #[.int .i64 vk, .bool vb, .int .i64 vi, .string vs, .slice val vnl vcl, .slice vam vnm vcm] 25)) := (Below.refl _ _).alloc (Nat.le_refl _) _
  have z0 := alloc_size w (.cells #[.int .i64 vk, .bool vb, .int .i64 vi, .string vs, .slice val vnl vcl, .slice vam vnm vcm] 25)
  have N0 := heap_alloc_new w (.cells #[.int .i64 vk, .bool vb, .int .i64 vi, .string vs, .slice val vnl vcl, .slice vam vnm vcm] 25)
  have HK : Hid (∀ W, Below (w.alloc (.cells #[.int .i64 vk, .bool vb, .int .i64 vi, .string vs, .slice val vnl vcl, .slice vam vnm vcm] 25)).heap.size (w.alloc (.cells #[.int .i64 vk, .bool vb, .int .i64 vi, .string vs, .slice val vnl vcl, .slice vam vnm vcm] 25)) W → W.heap[w.heap.size]? = some (.cells #[.int .i64 vk, .bool vb, .int .i64 vi, .string vs, .slice val vnl vcl, .slice vam vnm vcm] 25) ∧ v.lies false W S [.int .i64 vk, .bool vb, .int .i64 vi, .string vs, .slice val vnl vcl, .slice vam vnm vcm] ∧ Ints W gv gaps ∧ Td W ∧ Tdl W ∧ Below w.heap.size w W) := fun W h => by
    have bW := B0.trans (h.mono (by omega))
    exact ⟨(h.block _ (by omega)).trans N0, V.lies_keep (fun h => h) (fun x hx => bW.block x (hS x hx)) (fun _ h => h) _ HV.out, HGV.out.keep bW, t.below bW (by have := t.z; omega) bW.size, td.below bW (by have := td.z; omega) bW.size, bW⟩
  clear hv HV t td N0 hg HGV
  obtain ⟨W0, hW0⟩ : ∃ W0, W0 = w.alloc (.cells #[.int .i64 vk, .bool vb, .int .i64 vi, .string vs, .slice val vnl vcl, .slice vam vnm vcm] 25) := ⟨_, rfl⟩
  rw [← hW0] at B0 z0 HK
  obtain ⟨N0, L0, _, _, _, _⟩ := HK.out W0 (Below.refl _ _)
  have C1 := hmk (beyond_any v S _ W0 L0 (fun x hx => by have := hS x hx; omega))
  have a0 := cell_of_block N0 0
  have a1 := cell_of_block N0 1
  have a2 := cell_of_block N0 2
  have a3 := cell_of_block N0 3
  have a4 := cell_of_block N0 4
  have a5 := cell_of_block N0 5
  simp only [List.getElem?_toArray, List.getElem?_cons_zero, List.getElem?_cons_succ] at a0 a1 a2 a3 a4 a5
  clear L0
  go_enter Tryz.func5, Tryz.ntmps5
  go_wp2_with fail
  (try rw [← hW0])
  refine C1.out.mono ?_
  rintro e w1 ⟨r, rfl, hr, b1⟩
  clear C1 a0 a1 a2 a3 a4 a5 N0 hW0
  have z1 := b1.size
  cases r with
  | true =>
    have BF := (HK.out w1 b1).2.2.2.2.2
    go_wp2_with fail
    go_ret
    exact ⟨rfl, BF⟩
  | false =>
    have HWV := hmk (hr rfl)
    obtain ⟨_, _, _, T1, U1, _⟩ := HK.out w1 b1
    have C2 := hmk (alive_any w1 T1 U1)
    clear hr T1 U1
    go_wp2_with fail
    refine C2.out.mono ?_
    rintro e w2 ⟨rfl, b2⟩
    have z2 := b2.size
    have D2 := b1.trans (b2.mono (by omega))
    obtain ⟨N2, L2, _, T2, U2, _⟩ := HK.out w2 D2
    obtain ⟨nv, tv, hPV⟩ : ∃ n b, prF v 32 = (n, b) := ⟨_, _, rfl⟩
    have C3 := print_any v 32 S _ w2 U2 L2 (fun x hx => by have := hS x hx; omega) (by have := HWV.out; omega)
    unfold PrPost at C3
    rw [hPV] at C3
    dsimp only at C3
    have C3H := hmk C3
    have HPV := hmk hPV
    have a0 := cell_of_block N2 0
    have a1 := cell_of_block N2 1
    have a2 := cell_of_block N2 2
    have a3 := cell_of_block N2 3
    have a4 := cell_of_block N2 4
    have a5 := cell_of_block N2 5
    simp only [List.getElem?_toArray, List.getElem?_cons_zero, List.getElem?_cons_succ] at a0 a1 a2 a3 a4 a5
    clear C2 C3 hPV N2 L2 T2 U2 b1 b2
    go_wp2_with fail
    refine C3H.out.mono ?_
    rintro e w3 ⟨bv, Bv, rfl, ho3, hBv, b3⟩
    have z3 := b3.size
    have D3 := D2.trans (b3.mono (by omega))
    have O3 := hmk ho3
    obtain ⟨ba, bc, rfl⟩ := own_slice ho3
    clear C3H a0 a1 a2 a3 a4 a5 ho3 b3 D2
    by_cases hn : nv = 0
    · subst hn
      have ev : (prF v 32).1 = 0 := by rw [HPV.out]
      obtain ⟨hp1, hp2, hp3⟩ := pr_back HIV.out ev
      obtain ⟨_, _, hcz, _, _⟩ := pr_zero ev
      obtain rfl : tv = txtV v := by have := HPV.out.symm.trans hp1; injection this
      rw [chkE, if_neg (by omega)] at hcz
      obtain ⟨okv, _, _, _, hnd⟩ := chk_inv (32 : Int).toNat v 0 (0, 0, 0) HIV.out hcz
      dsimp only at hnd
      have HOK : Hid (okD 32 v 0) := okv
      have HND : Hid (ndV v ≤ 65536) := by show _ ≤ _; omega
      obtain ⟨SP, hSP⟩ : ∃ SP, spR (gpJ gaps) (decide (0 < gaps.length)) (txtV v) 0 0 0 false [] = SP := ⟨_, rfl⟩
      obtain ⟨BB, WW, BE, hbl1, hW, hbl2, hsp⟩ := spr_all (gp := gpJ gaps) (g0 := decide (0 < gaps.length)) (gp_bl gaps) v
      have HSPW : Hid (SP.length ≤ 1048576 → parJ SP 32 = (v, -1, 0)) := fun h => by
        have e := hSP.symm.trans hsp
        rw [e] at h ⊢
        exact par_wide okv (by omega) hW hbl1 hbl2 h
      have C4 := spread_any (txtV v) _ gaps gv w3 (byt_ownB O3.out) (HK.out w3 D3).2.2.1 hp2 hgl
      rw [hSP] at C4
      have C4H := hmk C4
      clear ev hp1 hp3 hcz okv hnd hsp hSP hbl1 hbl2 hW C4 HPV
      go_wp2_with fail
      refine C4H.out.mono ?_
      rintro e w4 ⟨v4, rfl, o4, hl4, b4⟩
      have z4 := b4.size
      have D4 := D3.trans (b4.mono (by omega))
      have O4 := hmk o4
      have O34 := hmk (O3.out.below b4)
      obtain ⟨qa, qc, rfl⟩ := own_slice o4
      obtain ⟨_, _, _, T4, _, _⟩ := HK.out w4 D4
      by_cases hlong : 1048576 < SP.length
      · have C5 := parse_any SP _ 32 w4 (byt_ownB O4.out).bys T4 ⟨by omega, by omega⟩ (by omega)
        rw [parJ_long (by omega) hlong] at C5
        have C5H := hmk C5
        have yl : (1048576 : Int) < SP.length := by omega
        clear C4H o4 b4 C5 T4 O3 O34
        go_wp2_with fail
        refine C5H.out.mono ?_
        rintro e w5 ⟨xs, rfl, hl5, b5⟩
        dsimp only at hl5
        obtain ⟨xk, xb, xi, xs, xal, xnl, xcl, xam, xnm, xcm, rfl⟩ := V.ten hl5
        clear hl5 C5H
        have z5 := b5.size
        have bX : Below w5.heap.size w5 (w5.alloc (.cells #[.int .i64 xk, .bool xb, .int .i64 xi, .string xs, .slice xal xnl xcl, .slice xam xnm xcm] 25)) := (Below.refl _ _).alloc (Nat.le_refl _) _
        have BF := (HK.out _ ((D4.trans (b5.mono (by omega))).trans (bX.mono (by omega)))).2.2.2.2.2
        go_wp2_with fail
        go_ret
        exact ⟨rfl, BF⟩
      · have C5 := parse_any SP _ 32 w4 (byt_ownB O4.out).bys T4 ⟨by omega, by omega⟩ (by omega)
        rw [HSPW.out (by omega)] at C5
        have C5H := hmk C5
        have yl : ¬ (1048576 : Int) < SP.length := by omega
        clear C4H o4 b4 C5 T4 O3 HSPW
        go_wp2_with fail
        refine C5H.out.mono ?_
        rintro e w5 ⟨xs, rfl, hl5, b5⟩
        dsimp only at hl5
        have HL5 := hmk hl5
        obtain ⟨xk, xb, xi, xs, xal, xnl, xcl, xam, xnm, xcm, rfl⟩ := V.ten hl5
        clear hl5 C5H
        have z5 := b5.size
        have bX : Below w5.heap.size w5 (w5.alloc (.cells #[.int .i64 xk, .bool xb, .int .i64 xi, .string xs, .slice xal xnl xcl, .slice xam xnm xcm] 25)) := (Below.refl _ _).alloc (Nat.le_refl _) _
        have zX := alloc_size w5 (.cells #[.int .i64 xk, .bool xb, .int .i64 xi, .string xs, .slice xal xnl xcl, .slice xam xnm xcm] 25)
        have NX := heap_alloc_new w5 (.cells #[.int .i64 xk, .bool xb, .int .i64 xi, .string xs, .slice xal xnl xcl, .slice xam xnm xcm] 25)
        have b45 := b5.trans (bX.mono (by omega))
        have D5 := D4.trans (b45.mono (by omega))
        have O5 := hmk (O34.out.below b45)
        obtain ⟨N5, L5, _, _, _, _⟩ := HK.out _ D5
        have C6 := hmk (samv_any v 0 (New w4 w5) S _ _ _ (by omega) (by omega) (V.lies_keep (fun h => h) (fun x hx => bX.block x hx.2) (fun _ h => h) _ HL5.out) L5 (fun x hx => by have := hx.2; omega) (fun x hx => by have := hS x hx; omega))
        have a0 := cell_of_block N5 0
        have a1 := cell_of_block N5 1
        have a2 := cell_of_block N5 2
        have a3 := cell_of_block N5 3
        have a4 := cell_of_block N5 4
        have a5 := cell_of_block N5 5
        simp only [List.getElem?_toArray, List.getElem?_cons_zero, List.getElem?_cons_succ] at a0 a1 a2 a3 a4 a5
        have d0 := cell_of_block NX 0
        have d1 := cell_of_block NX 1
        have d2 := cell_of_block NX 2
        have d3 := cell_of_block NX 3
        have d4 := cell_of_block NX 4
        have d5 := cell_of_block NX 5
        simp only [List.getElem?_toArray, List.getElem?_cons_zero, List.getElem?_cons_succ] at d0 d1 d2 d3 d4 d5
        clear N5 L5 NX HL5 O34 D4
        go_wp2_with fail
        refine C6.out.mono ?_
        rintro e w6 ⟨rfl, b6⟩
        clear C6 a0 a1 a2 a3 a4 a5 d0 d1 d2 d3 d4 d5
        have z6 := b6.size
        have D6 := D5.trans (b6.mono (by omega))
        have O6 := hmk (O5.out.below b6)
        obtain ⟨N6, _, _, T6, _, B6⟩ := HK.out w6 D6
        have a0 := cell_of_block N6 0
        have a1 := cell_of_block N6 1
        have a2 := cell_of_block N6 2
        have a3 := cell_of_block N6 3
        have a4 := cell_of_block N6 4
        have a5 := cell_of_block N6 5
        simp only [List.getElem?_toArray, List.getElem?_cons_zero, List.getElem?_cons_succ] at a0 a1 a2 a3 a4 a5
        clear N6 O5 D5 b45 bX b5
        by_cases hk3 : vk < 3
        · clear T6
          go_wp2_with fail
          go_ret
          exact ⟨rfl, B6⟩
        · by_cases hc0 : cut < 0
          · clear T6
            go_wp2_with fail
            go_ret
            exact ⟨rfl, B6⟩
          · by_cases hc1 : ((txtV v).length : Int) ≤ cut
            · clear T6
              go_wp2_with fail
              go_ret
              exact ⟨rfl, B6⟩
            · obtain ⟨k, rfl⟩ : ∃ k : Nat, cut = (k : Int) := ⟨cut.toNat, by omega⟩
              have hk : k < (txtV v).length := by omega
              obtain ⟨f, hf, hE⟩ := par_cut HOK.out HND.out hp2 (by rw [HKD.out]; omega) hk
              obtain ⟨ao, cap, sb, so, e', hd, hcc⟩ := byt_ownB O6.out
              injection e' with e1 e2 e3
              subst e1 e3
              have HCC := hmk hcc
              obtain ⟨hs1, hd1⟩ := slB_hi ba (txtV v).length bc sb so k hd (by omega)
              have HB6 := hmk (Byt.take hd1 (by omega) hcc)
              have C7 := parse_any ((txtV v).take k) (.slice ba k bc) 32 w6 HB6.out.bys T6 ⟨by omega, by omega⟩ (by rw [List.length_take]; omega)
              rw [hf] at C7
              have C7H := hmk C7
              obtain ⟨p, n⟩ := f
              have HE := hmk hE
              have HHD := hmk hd
              clear C7 hf hE e2 hcc hd hd1 T6 O6 B6
              go_wp2_with fail
              refine C7H.out.mono ?_
              rintro e w7 ⟨us, rfl, hl7, b7⟩
              dsimp only at hl7
              obtain ⟨xk', xb', xi', xs', xal', xnl', xcl', xam', xnm', xcm', rfl⟩ := V.ten hl7
              clear hl7 C7H hs1 a0 a1 a2 a3 a4 a5
              have z7 := b7.size
              have bX : Below w7.heap.size w7 (w7.alloc (.cells #[.int .i64 xk', .bool xb', .int .i64 xi', .string xs', .slice xal' xnl' xcl', .slice xam' xnm' xcm'] 25)) := (Below.refl _ _).alloc (Nat.le_refl _) _
              have b67 := b7.trans (bX.mono (by omega))
              have BF := (HK.out _ (D6.trans (b67.mono (by omega)))).2.2.2.2.2
              obtain ⟨hpc, hcode⟩ := HE.out
              dsimp only at hpc hcode
              have ypc : (p : Int) ≤ k := by omega
              rcases hcode with ⟨h1, h2⟩ | h1 | h1 | h1 | ⟨h1, h2, h3, h4⟩
              · subst h1 h2
                have yk : ((p : Int) == (p : Int)) = true := by rw [beq_iff_eq]
                clear HE
                go_wp2_with fail
                go_ret
                exact ⟨rfl, BF⟩
              · subst h1
                clear HE
                go_wp2_with fail
                go_ret
                exact ⟨rfl, BF⟩
              · subst h1
                clear HE
                go_wp2_with fail
                go_ret
                exact ⟨rfl, BF⟩
              · subst h1
                clear HE
                go_wp2_with fail
                go_ret
                exact ⟨rfl, BF⟩
              · subst h1
                have yp : (p : Int) = (k : Int) - 1 := by omega
                obtain ⟨m, hm⟩ : ∃ m : Nat, m = k - 1 := ⟨_, rfl⟩
                have em : (k : Int) - 1 = (m : Int) := by omega
                have hml : m < (txtV v).length := by omega
                have ym : (m : Int) < (txtV v).length := by omega
                have yk0 : (0 : Int) < k := by omega
                obtain rfl : ba = some ⟨sb, so, none⟩ := HHD.out.at_.resolve_left (by omega)
                have c1 := (HCC.out m hml)
                have e45 : (txtV v)[m] = 45 := by
                  rw [← hm, List.getElem?_eq_getElem hml] at h4
                  exact Option.some.inj h4
                rw [e45] at c1
                have c2 := (b67.cell (p := ⟨sb, so + m, none⟩) c1.1).trans c1.2
                obtain rfl : p = m := by omega
                have yk : ((p : Int) == (p : Int)) = true := by rw [beq_iff_eq]
                clear HE yp hm h3 h4 e45 c1
                go_wp2_with fail
                go_ret
                exact ⟨rfl, BF⟩
    · have ev : ¬ (prF v 32).1 = 0 := by rw [HPV.out]; exact hn
      have HPN := (pr_not ev).1
      rw [HPV.out] at HPN
      dsimp only at HPN
      have hl : tv.length = 0 := by rw [HPN]; rfl
      have yn : ((nv : Int) != 0) = true := by rw [bne_iff_ne]; omega
      have BF := (HK.out w3 D3).2.2.2.2.2
      clear ev HPN HPV O3
      go_wp2_with fail
      go_ret
      exact ⟨rfl, BF⟩
end Go.Proofs.YtpmhdcmmlkjjmaaGreatDoor
