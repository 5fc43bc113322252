import Derived.Test.YtpmhdcmmlkjjmaaGreatDoorG49
/- JsonRows: the law's walk. -/
set_option linter.unusedSimpArgs false
set_option linter.unusedVariables false
set_option maxRecDepth 100000
namespace Go.Proofs.YtpmhdcmmlkjjmaaGreatDoor
open Go.RowKit Go.Lib
/-- two rows of the call's own, and a third that is read alone -/
structure Thr (B : Nat) (x y : Value) (l m : List UInt8) (C : Nat) (z : Value) (t : List UInt8) (w : World) : Prop where
  two : Two B x y l m w
  c : OwnB C z t w
  nx : ∀ g, x.ownBlock = some g → z.ownBlock ≠ some g
  ny : ∀ g, y.ownBlock = some g → z.ownBlock ≠ some g
theorem ne_some {x y : Value} (h : ∀ g, x.ownBlock = some g → y.ownBlock ≠ some g) : y.ownBlock = none ∨ y.ownBlock ≠ x.ownBlock := by
  cases hy : y.ownBlock with
  | none => exact .inl rfl
  | some g => exact .inr (fun e => h g e.symm hy)
theorem Thr.left {B C : Nat} {x y z x' : Value} {l m l' t : List UInt8} {w w' : World} (T : Thr B x y l m C z t w) (h1 : OwnB B x' l' w') (h2 : w.grownBy w' x.ownBlock) (h3 : Lands x w.heap.size x') : Thr B x' y l' m C z t w' :=
  ⟨T.two.left h1 h2 h3, World.ownsRow.kept T.c h2 (ne_some T.nx), fun g hg e => (h3 g hg).elim (fun q => T.nx g q e) (fun q => by have := (T.c.lt e).2; omega), T.ny⟩
theorem Thr.right {B C : Nat} {x y z y' : Value} {l m m' t : List UInt8} {w w' : World} (T : Thr B x y l m C z t w) (h1 : OwnB B y' m' w') (h2 : w.grownBy w' y.ownBlock) (h3 : Lands y w.heap.size y') : Thr B x y' l m' C z t w' :=
  ⟨T.two.right h1 h2 h3, World.ownsRow.kept T.c h2 (ne_some T.ny), T.nx, fun g hg e => (h3 g hg).elim (fun q => T.ny g q e) (fun q => by have := (T.c.lt e).2; omega)⟩
theorem Thr.below {B C : Nat} {x y z : Value} {l m t : List UInt8} {w w' : World} (T : Thr B x y l m C z t w) (hb : Below w.heap.size w w') : Thr B x y l m C z t w' := ⟨T.two.below hb, T.c.below hb, T.nx, T.ny⟩
theorem Two.third {B C : Nat} {x y z : Value} {l m t : List UInt8} {w w' : World} (T : Two B x y l m w) (hb : Below w.heap.size w w') (hz : OwnB C z t w') (hC : w.heap.size ≤ C) : Thr B x y l m C z t w' :=
  ⟨T.below hb, hz, fun g hg e => by have := (T.a.lt hg).2; have := (hz.lt e).1; omega, fun g hg e => by have := (T.b.lt hg).2; have := (hz.lt e).1; omega⟩
theorem pr_back {v : V} (hi : inV v) (h : (prF v 32).1 = 0) : prF v 32 = (0, txtV v) ∧ (txtV v).length ≤ 1048576 ∧ parJ (txtV v) 32 = (v, -1, 0) := by
  obtain ⟨h0, h1, hc, hl, hp⟩ := pr_zero h
  rw [chkE, if_neg (by omega)] at hc
  obtain ⟨ok, _, _, _, hn⟩ := chk_inv (32 : Int).toNat v 0 (0, 0, 0) hi hc
  exact ⟨hp, hl, par_back (by omega) (by omega) ok (by dsimp only at hn; omega) hl⟩
set_option maxHeartbeats 16000000 in
theorem rowslaw_walk (l : List V) (al : Option Addr) (cl bl ol : Nat) (bad : Int) (odd : List UInt8) (ov : Value) (S : Nat → Prop) (w : World) (hd : Headed al l.length cl bl ol) (hl : liesL false w S l bl ol) (hS : ∀ x, S x → x < w.heap.size) (hbad : In64 bad) (hov : Byt w ov odd) (hodd : odd.length ≤ 140737488355328) (t : Td w) (td : Tdl w) : Calls Tryz.prog 6 #[.slice al l.length cl, .int .i64 bad, ov] w (BPost true w) := by
  have HK : Hid (∀ W, Below w.heap.size w W → liesL false W S l bl ol ∧ Byt W ov odd ∧ Td W ∧ Tdl W) := fun W h => ⟨liesL_keep (fun h => h) (fun x hx => h.block x (hS x hx)) (fun _ h => h) _ hl, hov.keep h, t.below h t.z h.size, td.below h td.z h.size⟩
  have C1 := hmk (beyonds_any l S al cl bl ol w hd hl hS)
  have HIN : Hid (∀ (j : Nat) (h : j < l.length), inV l[j]) := fun j h => by
    obtain ⟨_, cs, _, hj⟩ := liesL_get hl j h
    exact lies_in _ hj
  obtain ⟨oa, oc, ob, oo, rfl, hod, hoc⟩ := hov
  have HOC := hmk hoc
  have HD := hmk hd
  clear hl t td hoc
  go_enter Tryz.func6, Tryz.ntmps6
  go_wp2_with fail
  refine C1.out.mono ?_
  rintro e w1 ⟨r, rfl, hr, b1⟩
  clear C1
  have z1 := b1.size
  cases r with
  | true =>
    go_wp2_with fail
    go_ret
    exact ⟨rfl, b1⟩
  | false =>
    have HWL := hmk (hr rfl)
    have hlb : l.length ≤ 2147483647 := by have := wtL_len l; have := HWL.out; omega
    obtain ⟨_, _, T1, U1⟩ := HK.out w1 b1
    have C2 := hmk (alive_any w1 T1 U1)
    clear hr T1 U1
    go_wp2_with fail
    refine C2.out.mono ?_
    rintro e w2 ⟨rfl, b2⟩
    have z2 := b2.size
    have B2 := b1.trans (b2.mono (by omega))
    clear C2 b1 b2
    go_wp2_with fail
    go_loopw [8] (fun e wr => ∃ j : Nat, j ≤ odd.length ∧ e = .int .i64 (j : Int) ∧ Below w2.heap.size w2 wr ∧ Hid (∀ i (h : i < odd.length), i < j → odd[i] ≠ 10)) (fun e _ => odd.length - (RowKit.intOf e).toNat)
    case atStart => exact ⟨0, by omega, rfl, Below.refl _ _, fun i _ h => by omega⟩
    case round =>
      obtain ⟨j, hj, rfl, bj, H0⟩ := hrel
      have hzr := bj.size
      by_cases hjl : j < odd.length
      · have y1 : (j : Int) < odd.length := by omega
        obtain rfl : oa = some ⟨ob, oo, none⟩ := hod.at_.resolve_left (by omega)
        obtain ⟨hg, h1⟩ := HOC.out j hjl
        have c1 : wr.cell? ⟨ob, oo + j, none⟩ = some (.int .u8 ((odd[j]).toNat : Int)) := ((B2.trans (bj.mono (by omega))).cell (p := ⟨ob, oo + j, none⟩) hg).trans h1
        by_cases he : odd[j] = 10
        · have y2 : ((odd[j]).toNat : Int) = 10 := by rw [he]; rfl
          have B3 := B2.trans (bj.mono (by omega))
          rw [y2] at c1
          clear h1 he y2
          go_wp2_with fail
          go_ret
          exact ⟨rfl, B3⟩
        · have HN : Hid (∀ i (h : i < odd.length), i < j + 1 → odd[i] ≠ 10) := fun i hi h => by
            by_cases q : i = j
            · subst q; exact he
            · exact H0.out i hi (by omega)
          have y2 : (((odd[j]).toNat : Int) == 10) = false := by
            rw [beq_eq_false_iff_ne]
            intro q
            exact he (UInt8.toNat_inj.1 (by show (odd[j]).toNat = 10; omega))
          generalize ((odd[j]).toNat : Int) = z at *
          clear h1 he H0
          go_wp2_with fail
          go_roundw
          case rel => exact ⟨j + 1, by omega, by go_num, bj, HN⟩
          case measure => simp [RowKit.intOf]; omega
      · obtain rfl : j = odd.length := by omega
        have y1 : ¬ (odd.length : Int) < odd.length := by omega
        have H10 : Hid ((10 : UInt8) ∉ odd) := fun h => by
          obtain ⟨i, hi, e⟩ := List.getElem_of_mem h
          exact H0.out i hi hi e
        have B3 := B2.trans (bj.mono (by omega))
        clear H0 B2 bj hj
        obtain ⟨w3, hw3⟩ : ∃ w3 : World, w3 = wr := ⟨_, rfl⟩
        subst hw3
        go_wp2_with fail
        go_loopw [9, 10, 11] (fun e9 e10 e11 wk => ∃ (j : Nat) (x y : Value), j ≤ l.length ∧ x = e9 ∧ y = e10 ∧ e11 = .int .i64 (j : Int) ∧ Two w3.heap.size x y (lnJ ((l.take j).map txtV)) (lnJ (uT bad odd 0 (l.take j))) wk ∧ Hid (Below w3.heap.size w3 wk) ∧ Hid (∀ x ∈ l.take j, parJ (txtV x) 32 = (x, -1, 0)) ∧ (lnJ ((l.take j).map txtV)).length < 1048576 ∧ (lnJ (uT bad odd 0 (l.take j))).length < 1048576) (fun _ _ e _ => l.length - (RowKit.intOf e).toNat)
        case atStart => exact ⟨0, _, _, by omega, rfl, rfl, rfl, Two.nil _ _, Below.refl _ _, fun x hx => by simp at hx, by simp [lnJ], by simp [lnJ, uT]⟩
        case round =>
          obtain ⟨j, x, y, hj, rfl, rfl, rfl, TW, Bj, HG, hP1, hQ1⟩ := hrel
          have hzk := Bj.out.size
          obtain ⟨P, hP⟩ : ∃ P, lnJ ((l.take j).map txtV) = P := ⟨_, rfl⟩
          obtain ⟨Q, hQ⟩ : ∃ P, lnJ (uT bad odd 0 (l.take j)) = P := ⟨_, rfl⟩
          have HPP := hmk hP
          have HQQ := hmk hQ
          rw [hP] at TW hP1
          rw [hQ] at TW hQ1
          clear hP hQ
          have BK := B3.trans (Bj.out.mono (by omega))
          by_cases hjl : j < l.length
          · have y1 : (j : Int) < l.length := by omega
            obtain rfl : al = some ⟨bl, ol, none⟩ := HD.out.at_.resolve_left (by omega)
            obtain ⟨LK, _, TK, UK⟩ := HK.out wr BK
            obtain ⟨hSb, csj, hrow, hlj⟩ := liesL_get LK j hjl
            obtain ⟨ek, eb, ei, es, eal, enl, ecl, eam, enm, ecm, rfl⟩ := V.ten hlj
            obtain ⟨q0, q1, q2, q3, q4, q5⟩ := row6 hrow
            have hwj := wtL_mem (List.getElem_mem hjl)
            have CP := print_any l[j] 32 S _ wr UK hlj (fun x hx => by have := hS x hx; have := BK.size; omega) (by have := HWL.out; omega)
            unfold PrPost at CP
            obtain ⟨nx, tx, hPR⟩ : ∃ n b, prF l[j] 32 = (n, b) := ⟨(prF l[j] 32).1, (prF l[j] 32).2, rfl⟩
            rw [hPR] at CP
            dsimp only at CP
            have HPR := hmk hPR
            have CPH := hmk CP
            have TWH := hmk TW
            clear LK TK UK hrow hlj hPR CP TW hwj
            go_wp2_with fail
            refine CPH.out.mono ?_
            rintro e w4 ⟨bv, C, rfl, ho4, hC, b4⟩
            have z4 := b4.size
            have D4 : Below w3.heap.size w3 w4 := Bj.out.trans (b4.mono (by omega))
            have T4 := hmk (TWH.out.third b4 ho4 hC)
            obtain ⟨ba, bc, rfl⟩ := own_slice ho4
            clear CPH TWH ho4 b4 q0 q1 q2 q3 q4 q5
            by_cases hn : nx = 0
            · subst hn
              have ev : (prF l[j] 32).1 = 0 := by rw [HPR.out]
              obtain ⟨hp1, hp2, hp3⟩ := pr_back (HIN.out j hjl) ev
              have HTX : Hid (txtV l[j] = tx) := by have := HPR.out.symm.trans hp1; injection this with _ h; exact h.symm
              have htx : tx.length ≤ 1048576 := by rw [← HTX.out]; exact hp2
              have HG2 : Hid (∀ x ∈ l.take (j + 1), parJ (txtV x) 32 = (x, -1, 0)) := fun x hx => by
                rw [takeV_snoc hjl] at hx
                rcases List.mem_append.1 hx with h | h
                · exact HG.out x h
                · rw [List.mem_singleton.1 h]; exact hp3
              clear ev hp1 hp2 hp3 HG HPR
              by_cases hj0 : j = 0
              · have y3 : ¬ (0 : Int) < j := by omega
                go_wp2_with (at_builtin; go_loud (refine wpl_byt _ rfl (.tmp 66) (.tmp 67) rfl w3.heap.size x P rfl T4.out.two.a _ tx rfl (byt_ownB T4.out.c) (by (try simp only [List.length_append, List.length_cons, List.length_nil]); omega) (by omega) ?_))
                intro x7 w7 h1 h2 h3
                have D7 := D4.trans ((T4.out.two.a.belowOf h2 (by omega)).mono (Nat.le_refl _))
                have T7 := hmk (T4.out.left h1 h2 h3)
                have z7 := h2.size
                clear h1 h2 h3 T4 D4
                by_cases hjb : (j : Int) = bad
                · have yb : ((j : Int) == bad) = true := by rw [beq_iff_eq]; exact hjb
                  have HJB := hmk hjb
                  clear hjb
                  go_wp2_with (at_builtin; go_loud (refine wpl_byt _ rfl (.tmp 72) (.tmp 73) rfl w3.heap.size y Q rfl T7.out.two.b _ odd rfl (HK.out w7 (B3.trans (D7.mono (by omega)))).2.1 (by (try simp only [List.length_append, List.length_cons, List.length_nil]); omega) (by omega) ?_))
                  intro y8 w8 h1 h2 h3
                  have D8 := D7.trans ((T7.out.two.b.belowOf h2 (by omega)).mono (Nat.le_refl _))
                  have T8 := hmk (T7.out.right h1 h2 h3)
                  have z8 := h2.size
                  have D9 := B3.trans (D8.mono (by omega))
                  clear h1 h2 h3 T7 D7
                  have HEX : Hid (lnJ ((l.take (j + 1)).map txtV) = P ++ tx) := by
                    show _ = _
                    rw [takeV_snoc hjl, List.map_append, List.map_cons, List.map_nil, row_first _ _ (by have := hj0; subst this; rfl), HPP.out, HTX.out]
                  have HEY : Hid (lnJ (uT bad odd 0 (l.take (j + 1))) = Q ++ odd) := by
                    show _ = _
                    rw [takeV_snoc hjl, uT_snoc, if_pos (by rw [List.length_take]; have := HJB.out; omega), row_first _ _ (by have := hj0; subst this; rfl), HQQ.out]
                  obtain ⟨bx, cx, rfl⟩ := own_slice T8.out.two.a
                  obtain ⟨by_, cy, rfl⟩ := own_slice T8.out.two.b
                  obtain ⟨R, hR⟩ : ∃ R, P ++ tx = R := ⟨_, rfl⟩
                  obtain ⟨R', hR'⟩ : ∃ R, Q ++ odd = R := ⟨_, rfl⟩
                  rw [hR] at T8 HEX ⊢
                  rw [hR'] at T8 HEY ⊢
                  clear hR hR'
                  by_cases hr1 : 1048576 ≤ R.length
                  · have yr : (1048576 : Int) ≤ R.length := by omega
                    go_wp2_with fail
                    go_ret
                    exact ⟨rfl, D9⟩
                  · have yr : ¬ (1048576 : Int) ≤ R.length := by omega
                    by_cases hr2 : 1048576 ≤ R'.length
                    · have yr' : (1048576 : Int) ≤ R'.length := by omega
                      go_wp2_with fail
                      go_ret
                      exact ⟨rfl, D9⟩
                    · have yr' : ¬ (1048576 : Int) ≤ R'.length := by omega
                      go_wp2_with fail
                      go_roundw
                      case rel => exact ⟨j + 1, _, _, by omega, rfl, rfl, by go_num, by rw [HEX.out, HEY.out]; exact T8.out.two, D8, HG2.out, by rw [HEX.out]; omega, by rw [HEY.out]; omega⟩
                      case measure => simp [RowKit.intOf]; omega
                · have yb : ((j : Int) == bad) = false := by rw [beq_eq_false_iff_ne]; exact hjb
                  have HJB := hmk hjb
                  clear hjb
                  go_wp2_with (at_builtin; go_loud (refine wpl_byt _ rfl (.tmp 75) (.tmp 76) rfl w3.heap.size y Q rfl T7.out.two.b _ tx rfl (byt_ownB T7.out.c) (by (try simp only [List.length_append, List.length_cons, List.length_nil]); omega) (by omega) ?_))
                  intro y8 w8 h1 h2 h3
                  have D8 := D7.trans ((T7.out.two.b.belowOf h2 (by omega)).mono (Nat.le_refl _))
                  have T8 := hmk (T7.out.right h1 h2 h3)
                  have z8 := h2.size
                  have D9 := B3.trans (D8.mono (by omega))
                  clear h1 h2 h3 T7 D7
                  have HEX : Hid (lnJ ((l.take (j + 1)).map txtV) = P ++ tx) := by
                    show _ = _
                    rw [takeV_snoc hjl, List.map_append, List.map_cons, List.map_nil, row_first _ _ (by have := hj0; subst this; rfl), HPP.out, HTX.out]
                  have HEY : Hid (lnJ (uT bad odd 0 (l.take (j + 1))) = Q ++ tx) := by
                    show _ = _
                    rw [takeV_snoc hjl, uT_snoc, if_neg (by rw [List.length_take]; have := HJB.out; omega), row_first _ _ (by have := hj0; subst this; rfl), HQQ.out, HTX.out]
                  obtain ⟨bx, cx, rfl⟩ := own_slice T8.out.two.a
                  obtain ⟨by_, cy, rfl⟩ := own_slice T8.out.two.b
                  obtain ⟨R, hR⟩ : ∃ R, P ++ tx = R := ⟨_, rfl⟩
                  obtain ⟨R', hR'⟩ : ∃ R, Q ++ tx = R := ⟨_, rfl⟩
                  rw [hR] at T8 HEX ⊢
                  rw [hR'] at T8 HEY ⊢
                  clear hR hR'
                  by_cases hr1 : 1048576 ≤ R.length
                  · have yr : (1048576 : Int) ≤ R.length := by omega
                    go_wp2_with fail
                    go_ret
                    exact ⟨rfl, D9⟩
                  · have yr : ¬ (1048576 : Int) ≤ R.length := by omega
                    by_cases hr2 : 1048576 ≤ R'.length
                    · have yr' : (1048576 : Int) ≤ R'.length := by omega
                      go_wp2_with fail
                      go_ret
                      exact ⟨rfl, D9⟩
                    · have yr' : ¬ (1048576 : Int) ≤ R'.length := by omega
                      go_wp2_with fail
                      go_roundw
                      case rel => exact ⟨j + 1, _, _, by omega, rfl, rfl, by go_num, by rw [HEX.out, HEY.out]; exact T8.out.two, D8, HG2.out, by rw [HEX.out]; omega, by rw [HEY.out]; omega⟩
                      case measure => simp [RowKit.intOf]; omega
              · have y3 : (0 : Int) < j := by omega
                have n10 : Byt (w4.alloc (.cells #[.int .u8 10] 5)) (.slice (some ⟨w4.heap.size, 0, none⟩) 1 1) [10] := Byt.one w4 10 _
                have bA : Below w4.heap.size w4 (w4.alloc (.cells #[.int .u8 10] 5)) := (Below.refl _ _).alloc (Nat.le_refl _) _
                have TA := T4.out.below bA
                go_wp2_with (at_builtin; go_loud (refine wpl_byt _ rfl (.tmp 60) (.tmp 61) rfl w3.heap.size x P rfl TA.two.a _ [10] rfl n10 (by simp only [List.length_cons, List.length_nil]; omega) (by rw [alloc_size]; omega) ?_))
                intro x5 w5 h1 h2 h3
                have b5 := bA.size
                have D5 := (D4.trans (bA.mono (by omega))).trans ((TA.two.a.belowOf h2 (by omega)).mono (Nat.le_refl _))
                obtain ⟨P5, hP5⟩ : ∃ P5, P ++ [10] = P5 := ⟨_, rfl⟩
                have hl5 : P5.length = P.length + 1 := by rw [← hP5]; simp
                have HP5 := hmk hP5
                rw [hP5] at h1
                clear hP5
                have T5 := hmk (TA.left h1 h2 (by rw [alloc_size]; exact h3))
                have z5 := h2.size
                clear h1 h2 h3 TA n10 bA T4 D4
                have n10 : Byt (w5.alloc (.cells #[.int .u8 10] 5)) (.slice (some ⟨w5.heap.size, 0, none⟩) 1 1) [10] := Byt.one w5 10 _
                have bA : Below w5.heap.size w5 (w5.alloc (.cells #[.int .u8 10] 5)) := (Below.refl _ _).alloc (Nat.le_refl _) _
                have TA := T5.out.below bA
                go_wp2_with (at_builtin; go_loud (refine wpl_byt _ rfl (.tmp 63) (.tmp 64) rfl w3.heap.size y Q rfl TA.two.b _ [10] rfl n10 (by simp only [List.length_cons, List.length_nil]; omega) (by rw [alloc_size]; omega) ?_))
                intro y6 w6 h1 h2 h3
                have b6 := bA.size
                have D6 := (D5.trans (bA.mono (by omega))).trans ((TA.two.b.belowOf h2 (by omega)).mono (Nat.le_refl _))
                obtain ⟨Q6, hQ6⟩ : ∃ P5, Q ++ [10] = P5 := ⟨_, rfl⟩
                have hl6 : Q6.length = Q.length + 1 := by rw [← hQ6]; simp
                have HQ6 := hmk hQ6
                rw [hQ6] at h1
                clear hQ6
                have T6 := hmk (TA.right h1 h2 (by rw [alloc_size]; exact h3))
                have z6 := h2.size
                clear h1 h2 h3 TA n10 bA T5 D5
                go_wp2_with (at_builtin; go_loud (refine wpl_byt _ rfl (.tmp 66) (.tmp 67) rfl w3.heap.size x5 P5 rfl T6.out.two.a _ tx rfl (byt_ownB T6.out.c) (by (try simp only [List.length_append, List.length_cons, List.length_nil]); omega) (by omega) ?_))
                intro x7 w7 h1 h2 h3
                have D7 := D6.trans ((T6.out.two.a.belowOf h2 (by omega)).mono (Nat.le_refl _))
                have T7 := hmk (T6.out.left h1 h2 h3)
                have z7 := h2.size
                clear h1 h2 h3 T6 D6
                by_cases hjb : (j : Int) = bad
                · have yb : ((j : Int) == bad) = true := by rw [beq_iff_eq]; exact hjb
                  have HJB := hmk hjb
                  clear hjb
                  go_wp2_with (at_builtin; go_loud (refine wpl_byt _ rfl (.tmp 72) (.tmp 73) rfl w3.heap.size y6 Q6 rfl T7.out.two.b _ odd rfl (HK.out w7 (B3.trans (D7.mono (by omega)))).2.1 (by (try simp only [List.length_append, List.length_cons, List.length_nil]); omega) (by omega) ?_))
                  intro y8 w8 h1 h2 h3
                  have D8 := D7.trans ((T7.out.two.b.belowOf h2 (by omega)).mono (Nat.le_refl _))
                  have T8 := hmk (T7.out.right h1 h2 h3)
                  have z8 := h2.size
                  have D9 := B3.trans (D8.mono (by omega))
                  clear h1 h2 h3 T7 D7
                  have HEX : Hid (lnJ ((l.take (j + 1)).map txtV) = P5 ++ tx) := by
                    show _ = _
                    rw [takeV_snoc hjl, List.map_append, List.map_cons, List.map_nil, row_next _ _ (by intro q; have := congrArg List.length q; simp only [List.length_map, List.length_take, List.length_nil] at this; omega), HPP.out, HP5.out, HTX.out]
                  have HEY : Hid (lnJ (uT bad odd 0 (l.take (j + 1))) = Q6 ++ odd) := by
                    show _ = _
                    rw [takeV_snoc hjl, uT_snoc, if_pos (by rw [List.length_take]; have := HJB.out; omega), row_next _ _ (by intro q; have := congrArg List.length q; rw [uT_len] at this; simp only [List.length_take, List.length_nil] at this; omega), HQQ.out, HQ6.out]
                  obtain ⟨bx, cx, rfl⟩ := own_slice T8.out.two.a
                  obtain ⟨by_, cy, rfl⟩ := own_slice T8.out.two.b
                  obtain ⟨R, hR⟩ : ∃ R, P5 ++ tx = R := ⟨_, rfl⟩
                  obtain ⟨R', hR'⟩ : ∃ R, Q6 ++ odd = R := ⟨_, rfl⟩
                  rw [hR] at T8 HEX ⊢
                  rw [hR'] at T8 HEY ⊢
                  clear hR hR'
                  by_cases hr1 : 1048576 ≤ R.length
                  · have yr : (1048576 : Int) ≤ R.length := by omega
                    go_wp2_with fail
                    go_ret
                    exact ⟨rfl, D9⟩
                  · have yr : ¬ (1048576 : Int) ≤ R.length := by omega
                    by_cases hr2 : 1048576 ≤ R'.length
                    · have yr' : (1048576 : Int) ≤ R'.length := by omega
                      go_wp2_with fail
                      go_ret
                      exact ⟨rfl, D9⟩
                    · have yr' : ¬ (1048576 : Int) ≤ R'.length := by omega
                      go_wp2_with fail
                      go_roundw
                      case rel => exact ⟨j + 1, _, _, by omega, rfl, rfl, by go_num, by rw [HEX.out, HEY.out]; exact T8.out.two, D8, HG2.out, by rw [HEX.out]; omega, by rw [HEY.out]; omega⟩
                      case measure => simp [RowKit.intOf]; omega
                · have yb : ((j : Int) == bad) = false := by rw [beq_eq_false_iff_ne]; exact hjb
                  have HJB := hmk hjb
                  clear hjb
                  go_wp2_with (at_builtin; go_loud (refine wpl_byt _ rfl (.tmp 75) (.tmp 76) rfl w3.heap.size y6 Q6 rfl T7.out.two.b _ tx rfl (byt_ownB T7.out.c) (by (try simp only [List.length_append, List.length_cons, List.length_nil]); omega) (by omega) ?_))
                  intro y8 w8 h1 h2 h3
                  have D8 := D7.trans ((T7.out.two.b.belowOf h2 (by omega)).mono (Nat.le_refl _))
                  have T8 := hmk (T7.out.right h1 h2 h3)
                  have z8 := h2.size
                  have D9 := B3.trans (D8.mono (by omega))
                  clear h1 h2 h3 T7 D7
                  have HEX : Hid (lnJ ((l.take (j + 1)).map txtV) = P5 ++ tx) := by
                    show _ = _
                    rw [takeV_snoc hjl, List.map_append, List.map_cons, List.map_nil, row_next _ _ (by intro q; have := congrArg List.length q; simp only [List.length_map, List.length_take, List.length_nil] at this; omega), HPP.out, HP5.out, HTX.out]
                  have HEY : Hid (lnJ (uT bad odd 0 (l.take (j + 1))) = Q6 ++ tx) := by
                    show _ = _
                    rw [takeV_snoc hjl, uT_snoc, if_neg (by rw [List.length_take]; have := HJB.out; omega), row_next _ _ (by intro q; have := congrArg List.length q; rw [uT_len] at this; simp only [List.length_take, List.length_nil] at this; omega), HQQ.out, HQ6.out, HTX.out]
                  obtain ⟨bx, cx, rfl⟩ := own_slice T8.out.two.a
                  obtain ⟨by_, cy, rfl⟩ := own_slice T8.out.two.b
                  obtain ⟨R, hR⟩ : ∃ R, P5 ++ tx = R := ⟨_, rfl⟩
                  obtain ⟨R', hR'⟩ : ∃ R, Q6 ++ tx = R := ⟨_, rfl⟩
                  rw [hR] at T8 HEX ⊢
                  rw [hR'] at T8 HEY ⊢
                  clear hR hR'
                  by_cases hr1 : 1048576 ≤ R.length
                  · have yr : (1048576 : Int) ≤ R.length := by omega
                    go_wp2_with fail
                    go_ret
                    exact ⟨rfl, D9⟩
                  · have yr : ¬ (1048576 : Int) ≤ R.length := by omega
                    by_cases hr2 : 1048576 ≤ R'.length
                    · have yr' : (1048576 : Int) ≤ R'.length := by omega
                      go_wp2_with fail
                      go_ret
                      exact ⟨rfl, D9⟩
                    · have yr' : ¬ (1048576 : Int) ≤ R'.length := by omega
                      go_wp2_with fail
                      go_roundw
                      case rel => exact ⟨j + 1, _, _, by omega, rfl, rfl, by go_num, by rw [HEX.out, HEY.out]; exact T8.out.two, D8, HG2.out, by rw [HEX.out]; omega, by rw [HEY.out]; omega⟩
                      case measure => simp [RowKit.intOf]; omega
            · have yn : ((nx : Int) != 0) = true := by rw [bne_iff_ne]; omega
              have D9 := B3.trans (D4.mono (by omega))
              clear T4 HPR HG
              go_wp2_with fail
              go_ret
              exact ⟨rfl, D9⟩
          · obtain rfl : j = l.length := by omega
            have y1 : ¬ (l.length : Int) < l.length := by omega
            have HG' : Hid (∀ x ∈ l, parJ (txtV x) 32 = (x, -1, 0)) := fun x hx => HG.out x (by rw [List.take_length]; exact hx)
            have HP' : Hid (lnJ (l.map txtV) = P) := by have := HPP.out; rw [List.take_length] at this; exact this
            have HQ' : Hid (lnJ (uT bad odd 0 l) = Q) := by have := HQQ.out; rw [List.take_length] at this; exact this
            have HSP : Hid (spJ P = (l, -1, 0)) := by
              have := rows_split l HG'.out (by rw [HP'.out]; omega)
              rw [HP'.out] at this
              exact this
            have HSN : Hid (¬ l.length = 0 → spJ (P ++ [10]) = (l, -1, 0)) := fun h0 => by
              have := rows_split_nl l HG'.out (fun e => h0 (by rw [e]; rfl)) (by rw [HP'.out]; omega)
              rw [HP'.out] at this
              exact this
            have hlP : l.length ≤ 1048576 := by
              have := ln_len (l.map txtV) (fun t ht => by obtain ⟨x, _, rfl⟩ := List.mem_map.1 ht; exact txt_ne x)
              rw [HP'.out, List.length_map] at this
              omega
            clear HG HPP HQQ
            obtain ⟨_, _, TK, UK⟩ := HK.out wr BK
            have C4 := split_any P x wr (byt_ownB TW.a) TK (by omega)
            rw [HSP.out] at C4
            have C4H := hmk C4
            have TWH := hmk TW
            obtain ⟨xa, xc, rfl⟩ := own_slice TW.a
            obtain ⟨ya, yc, rfl⟩ := own_slice TW.b
            clear C4 TK UK TW
            go_wp2_with fail
            refine C4H.out.mono ?_
            rintro e w4 ⟨ma, mc, mb, mo, rfl, hm4, lm4, b4⟩
            dsimp only at hm4 lm4
            have HM4 := hmk hm4
            have LM4 := hmk lm4
            have z4 := b4.size
            have D4 : Below w3.heap.size w3 w4 := Bj.out.trans (b4.mono (by omega))
            have T4 := hmk (TWH.out.below b4)
            clear C4H hm4 lm4 TWH b4 BK Bj
            have C5 := hmk (twin_own P _ w4 (byt_ownB T4.out.a) (by omega))
            go_wp2_with fail
            refine C5.out.mono ?_
            rintro e w5 ⟨v5, rfl, o5, b5⟩
            have z5 := b5.size
            have n10 : Byt (w5.alloc (.cells #[.int .u8 10] 5)) (.slice (some ⟨w5.heap.size, 0, none⟩) 1 1) [10] := Byt.one w5 10 _
            have bA : Below w5.heap.size w5 (w5.alloc (.cells #[.int .u8 10] 5)) := (Below.refl _ _).alloc (Nat.le_refl _) _
            have oA := o5.below bA
            clear C5
            go_wp2_with (at_builtin; go_loud (refine wpl_byt _ rfl (.tmp 94) (.tmp 95) rfl w4.heap.size v5 P rfl oA _ [10] rfl n10 (by simp only [List.length_cons, List.length_nil]; omega) (by rw [alloc_size]; omega) ?_))
            intro v6 w6 h1 h2 h3
            have b6 := bA.size
            have b46 : Below w4.heap.size w4 w6 := (b5.trans (bA.mono (by omega))).trans ((oA.belowOf h2 (by omega)).mono (Nat.le_refl _))
            have z6 := b46.size
            have D6 := D4.trans (b46.mono (by omega))
            have T6 := hmk (T4.out.below b46)
            have BW6 := B3.trans (D6.mono (by omega))
            obtain ⟨_, _, TT6, _⟩ := HK.out w6 BW6
            obtain ⟨R7, hR7⟩ : ∃ R7, spJ (P ++ [10]) = R7 := ⟨_, rfl⟩
            have C7 := split_any (P ++ [10]) v6 w6 (byt_ownB h1) TT6 (by simp only [List.length_append, List.length_cons, List.length_nil]; omega)
            rw [hR7] at C7 HSN
            have C7H := hmk C7
            clear C7 h1 h2 h3 TT6 hR7 n10 bA oA o5 b5 T4
            go_wp2_with fail
            refine C7H.out.mono ?_
            rintro e w7 ⟨na, nc, nb, no, rfl, hn7, ln7, b7⟩
            have z7 := b7.size
            have HN7 := hmk hn7
            have LN7 := hmk ln7
            have b47 := b46.trans (b7.mono (by omega))
            have D7 := D6.trans (b7.mono (by omega))
            have T7 := hmk (T6.out.below b7)
            have BW7 := B3.trans (D7.mono (by omega))
            obtain ⟨L7, _, _, _⟩ := HK.out w7 BW7
            have C8 := hmk (values_same l (New wr w4) S ma al mc cl mb bl mo ol w7 HM4.out HD.out (liesL_keep (fun h => h) (fun x hx => b47.block x hx.2) (fun _ h => h) _ LM4.out) L7 (fun x hx => by have := hx.2; omega) (fun x hx => by have := hS x hx; have := BW7.size; omega) (by omega))
            clear C7H hn7 ln7 L7 T6 D6 BW6 b46 HM4 LM4
            go_wp2_with fail
            refine C8.out.mono ?_
            rintro e w8 ⟨rfl, b8⟩
            have z8 := b8.size
            have D8 := D7.trans (b8.mono (by omega))
            have T8 := hmk (T7.out.below b8)
            have BW8 := B3.trans (D8.mono (by omega))
            clear C8 T7 D7 BW7 b47
            go_upto_region 31 with fail
            go_cut [129] (fun e wx => e = .bool false ∧ Below w8.heap.size w8 wx)
            case first =>
              by_cases hl0 : l.length = 0
              · have yl : ¬ (0 : Int) < l.length := by omega
                clear hl0
                go_wp2_with fail
                go_meet
                case rel => exact ⟨rfl, Below.refl _ _⟩
              · have yl : (0 : Int) < l.length := by omega
                obtain rfl := HSN.out hl0
                dsimp only at HN7 LN7 ⊢
                obtain ⟨L8, _, _, _⟩ := HK.out w8 BW8
                have C9 := hmk (values_same l (New w6 w7) S na al nc cl nb bl no ol w8 HN7.out HD.out (liesL_keep (fun h => h) (fun x hx => b8.block x hx.2) (fun _ h => h) _ LN7.out) L8 (fun x hx => by have := hx.2; omega) (fun x hx => by have := hS x hx; have := BW8.size; omega) (by omega))
                clear L8 hl0
                go_wp2_with fail
                refine C9.out.mono ?_
                rintro e w9 ⟨rfl, b9⟩
                go_wp2_with fail
                go_meet
                case rel => exact ⟨rfl, b9⟩
            case rest =>
              rename World => w9
              obtain ⟨rfl, b9⟩ := hcut
              have z9 := b9.size
              have D9 := D8.trans (b9.mono (by omega))
              have T9 := hmk (T8.out.below b9)
              have BW9 := B3.trans (D9.mono (by omega))
              clear T8 D8 BW8 b8 b9 HN7 LN7 HSN b7
              obtain ⟨_, O9, TT9, _⟩ := HK.out w9 BW9
              obtain ⟨X, aX, gX, hX⟩ : ∃ X a g, parJ odd 32 = (X, a, g) := ⟨(parJ odd 32).1, (parJ odd 32).2.1, (parJ odd 32).2.2, rfl⟩
              have C10 := parse_any odd _ 32 w9 O9.bys TT9 ⟨by omega, by omega⟩ hodd
              rw [hX] at C10
              have C10H := hmk C10
              have HX := hmk hX
              clear C10 hX O9 TT9
              go_wp2_with fail
              refine C10H.out.mono ?_
              rintro e wA ⟨ys, rfl, hlA, bA⟩
              dsimp only at hlA
              have HLA := hmk hlA
              obtain ⟨yk, yb, yi, ys, yal, ynl, ycl, yam, ynm, ycm, rfl⟩ := V.ten hlA
              clear hlA C10H
              have zA := bA.size
              have bY : Below wA.heap.size wA (wA.alloc (.cells #[.int .i64 yk, .bool yb, .int .i64 yi, .string ys, .slice yal ynl ycl, .slice yam ynm ycm] 25)) := (Below.refl _ _).alloc (Nat.le_refl _) _
              have zY := alloc_size wA (.cells #[.int .i64 yk, .bool yb, .int .i64 yi, .string ys, .slice yal ynl ycl, .slice yam ynm ycm] 25)
              have NY := heap_alloc_new wA (.cells #[.int .i64 yk, .bool yb, .int .i64 yi, .string ys, .slice yal ynl ycl, .slice yam ynm ycm] 25)
              have b9A := bA.trans (bY.mono (by omega))
              have DA := D9.trans (b9A.mono (by omega))
              have TA := hmk (T9.out.below b9A)
              have BWA := B3.trans (DA.mono (by omega))
              by_cases hb0 : bad < 0
              · clear NY
                go_wp2_with fail
                go_ret
                exact ⟨rfl, BWA⟩
              · by_cases hb1 : (l.length : Int) ≤ bad
                · clear NY
                  go_wp2_with fail
                  go_ret
                  exact ⟨rfl, BWA⟩
                · by_cases ho0 : odd.length = 0
                  · have yo : ((odd.length : Int) == 0) = true := by rw [beq_iff_eq]; omega
                    clear NY
                    go_wp2_with fail
                    go_ret
                    exact ⟨rfl, BWA⟩
                  · have yo : ((odd.length : Int) == 0) = false := by rw [beq_eq_false_iff_ne]; omega
                    obtain ⟨k, rfl⟩ : ∃ k : Nat, bad = (k : Int) := ⟨bad.toNat, by omega⟩
                    have hk : k < l.length := by omega
                    have hne : odd ≠ [] := fun e => ho0 (by rw [e]; rfl)
                    obtain ⟨_, _, TTA, _⟩ := HK.out _ BWA
                    by_cases hg : gX = 0
                    · subst hg
                      obtain ⟨la, lb, hs1, hs2, hs3⟩ := rows_odd l odd k hk HG'.out hne H10.out (by rw [HX.out]) (by rw [HQ'.out]; omega)
                      rw [HX.out, HQ'.out] at hs1
                      rw [HX.out] at hs3
                      dsimp only at hs1 hs3
                      have CB := split_any Q _ _ (byt_ownB TA.out.b) TTA (by omega)
                      rw [hs1] at CB
                      unfold SpP at CB
                      dsimp only at CB
                      rw [hs3] at CB
                      have CBH := hmk CB
                      have HS2 := hmk hs2
                      have HS3 := hmk hs3
                      clear CB hs1 hs2 hs3 TTA ho0 hne
                      go_wp2_with fail
                      refine CBH.out.mono ?_
                      rintro e wB ⟨ua, uc, ub, uo, rfl, huB, luB, bB⟩
                      have zB := bB.size
                      have BWB := BWA.trans (bB.mono (by have := BWA.size; omega))
                      obtain rfl : ua = some ⟨ub, uo, none⟩ := huB.at_.resolve_left (by omega)
                      have hkk : k < (la ++ X :: lb).length := by rw [HS3.out]; exact hk
                      obtain ⟨hSu, csu, hru, hlu⟩ := liesL_get luB k hkk
                      have hget : (la ++ X :: lb)[k] = X := by
                        have e := HS2.out
                        subst e
                        simp
                      rw [hget] at hlu
                      obtain ⟨ek, eb, ei, es, eal, enl, ecl, eam, enm, ecm, rfl⟩ := V.ten hlu
                      obtain ⟨p0, p1, p2, p3, p4, p5⟩ := row6 hru
                      have NB := (bB.block wA.heap.size (by omega)).trans NY
                      have CI : Hid (∀ x : Sub wB.heap.size wB, Calls Tryz.prog 13 #[.agg #[.int .i64 ek, .bool eb, .int .i64 ei, .string es, .slice eal enl ecl, .slice eam enm ecm], .agg #[.int .i64 yk, .bool yb, .int .i64 yi, .string ys, .slice yal ynl ycl, .slice yam ynm ycm], .int .i64 0] x.w fun e w'' => e = .returned (.bool true) ∧ ∃ y : Sub wB.heap.size wB, w'' = y.w) :=
                        sub_call fun w' hb => (samv_any X 0 _ (New w9 wA) _ _ w' (by omega) (by omega) (V.lies_keep (fun h => h) (fun x hx => hb.block x (by have := hx.2; omega)) (fun _ h => h) _ hlu) (V.lies_keep (fun h => h) (fun x hx => (hb.block x (by have := hx.2; omega)).trans ((bB.block x (by have := hx.2; omega)).trans (bY.block x hx.2))) (fun _ h => h) _ HLA.out) (fun x hx => by have := hx.2; have := hb.size; omega) (fun x hx => by have := hx.2; have := hb.size; omega)).mono fun e w'' h => ⟨h.1, hb.trans (h.2.mono hb.size)⟩
                      have hub : ub < wB.heap.size := World.block_lt_of_cell? wB _ p0
                      have a0 := cell_of_block NB 0
                      have a1 := cell_of_block NB 1
                      have a2 := cell_of_block NB 2
                      have a3 := cell_of_block NB 3
                      have a4 := cell_of_block NB 4
                      have a5 := cell_of_block NB 5
                      simp only [List.getElem?_toArray, List.getElem?_cons_zero, List.getElem?_cons_succ] at a0 a1 a2 a3 a4 a5
                      have r0 : ∀ x : Sub wB.heap.size wB, _ := sub_cell p0 hub
                      have q0 : ∀ x : Sub wB.heap.size wB, _ := sub_cell a0 (by omega)
                      have r1 : ∀ x : Sub wB.heap.size wB, _ := sub_cell p1 hub
                      have q1 : ∀ x : Sub wB.heap.size wB, _ := sub_cell a1 (by omega)
                      have r2 : ∀ x : Sub wB.heap.size wB, _ := sub_cell p2 hub
                      have q2 : ∀ x : Sub wB.heap.size wB, _ := sub_cell a2 (by omega)
                      have r3 : ∀ x : Sub wB.heap.size wB, _ := sub_cell p3 hub
                      have q3 : ∀ x : Sub wB.heap.size wB, _ := sub_cell a3 (by omega)
                      have r4 : ∀ x : Sub wB.heap.size wB, _ := sub_cell p4 hub
                      have q4 : ∀ x : Sub wB.heap.size wB, _ := sub_cell a4 (by omega)
                      have r5 : ∀ x : Sub wB.heap.size wB, _ := sub_cell p5 hub
                      have q5 : ∀ x : Sub wB.heap.size wB, _ := sub_cell a5 (by omega)
                      have ylen : ((l.length : Int) == l.length) = true := by rw [beq_iff_eq]
                      have yk0 : (k : Int) < l.length := by omega
                      clear NY NB CBH hru hlu luB huB hget hSu p0 p1 p2 p3 p4 p5 a0 a1 a2 a3 a4 a5 HX
                      go_wp2_with fail
                      refine wp_region_sub wB.heap.size (by kernel_rfl) (by kernel_rfl) ?_
                      repeat (go_big_quiet_step (exact CI.out _))
                      refine wpQuiet_nil ?_
                      rintro _ ⟨⟨wq, bq⟩, rfl⟩
                      go_wp2_with fail
                      go_ret
                      exact ⟨rfl, BWB.trans (bq.mono (by have := BWB.size; omega))⟩
                    · have hs1 := rows_bad l odd k hk HG'.out hne H10.out (by rw [HX.out]; exact hg) (by rw [HQ'.out]; omega)
                      rw [HX.out, HQ'.out] at hs1
                      dsimp only at hs1
                      have CB := split_any Q _ _ (byt_ownB TA.out.b) TTA (by omega)
                      rw [hs1] at CB
                      unfold SpP at CB
                      dsimp only [List.length_nil] at CB
                      have CBH := hmk CB
                      have yg : (gX != 0) = true := by rw [bne_iff_ne]; exact hg
                      have yg2 : (gX == gX) = true := by rw [beq_iff_eq]
                      have yk2 : ((k : Int) == (k : Int)) = true := by rw [beq_iff_eq]
                      clear CB hs1 TTA ho0 hne NY
                      go_wp2_with fail
                      refine CBH.out.mono ?_
                      rintro e wB ⟨ua, uc, ub, uo, rfl, huB, luB, bB⟩
                      have BWB := BWA.trans (bB.mono (by have := BWA.size; omega))
                      clear CBH huB luB
                      go_wp2_with fail
                      go_ret
                      exact ⟨rfl, BWB⟩
end Go.Proofs.YtpmhdcmmlkjjmaaGreatDoor
