/- joined: JlD JlE -/
import Derived.Test.YtpmhdcmmlkjjmaaGreatDoorG50
/- the document's Split. -/
set_option linter.unusedSimpArgs false
set_option linter.unusedVariables false
set_option maxRecDepth 100000
namespace Go.Proofs.YtpmhdcmmlkjjmaaGreatDoor
open Go.RowKit Go.Lib
set_option maxHeartbeats 16000000 in
theorem dsplit_any (l : List UInt8) (v : Value) (w : World) (hb : Byt w v l) (hl : l.length ≤ 140737488355328) : Calls Tryz.prog 24 #[v] w (SpP (spJ l) w) := by
  by_cases hlong : 1048576 < l.length
  · have HE : Hid (spJ l = ([], 0, 30)) := by show _ = _; rw [spJ, if_pos hlong]
    obtain ⟨ao, cap, b, o, rfl, _⟩ := hb
    have y1 : (1048576 : Int) < l.length := by omega
    go_enter Tryz.func24, Tryz.ntmps24
    go_wp2_with fail
    go_ret3
    rw [HE.out]
    exact ⟨none, 0, 0, 0, rfl, headed_nil, lies_none _ _, Below.refl _ _⟩
  have HE : Hid (spJ l = splJ (l.length + 1) l []) := by show _ = _; rw [spJ, if_neg hlong]
  have y1 : ¬ (1048576 : Int) < l.length := by omega
  obtain ⟨i1, hi1, hy0, hy1, hy2⟩ := info_parts info25
  have hJ : Hid (Tryz.prog.info? 25 = some i1 ∧ i1.zero = some (.agg #[.int .i64 0, .bool false, .int .i64 0, .string ⟨#[]⟩, .slice none 0 0, .slice none 0 0]) ∧ i1.size = 6 ∧ i1.bytes = 88) := ⟨hi1, hy0, hy1, hy2⟩
  obtain ⟨ao, vcap, vb0, vo0, rfl, hd, hc⟩ := hb
  have HC := hmk hc
  clear hc hi1 hy0 hy1 hy2
  go_enter Tryz.func24, Tryz.ntmps24
  go_wp2_with fail
  go_loopg [5, 6, 7] (l.length + 1) (fun F e5 e6 e7 wr => ∃ (i : Nat) (acc : List V) (S : Nat → Prop), e6 = .int .i64 (i : Int) ∧ e7 = .int .i64 (acc.length : Int) ∧ i ≤ l.length + 1 ∧ (l.drop i).length < F ∧ acc.length ≤ i ∧ Below w.heap.size w wr ∧ OwnL false wr w.heap.size S e5 (acc.map some) ∧ Hid (spJ l = splJ F (l.drop i) acc))
  case atStart => exact ⟨0, [], _, rfl, rfl, by omega, by simp, by simp, Below.refl _ _, OwnR.nil _ _, HE⟩
  case round =>
    clear HE
    obtain ⟨i, acc, S, rfl, rfl, hi, hF, hac, bj, oj, HF⟩ := hrel
    obtain ⟨f, rfl⟩ : ∃ f, gk = f + 1 := ⟨gk - 1, by omega⟩
    rw [List.length_drop] at hF
    by_cases hil : i < l.length
    · have y2 : (i : Int) < (l.length : Int) := by omega
      have h0 : l.drop i ≠ [] := fun e => by have := congrArg List.length e; rw [List.length_drop] at this; simp at this; omega
      obtain ⟨hp1, hp2, hp3, hp4⟩ := line_parts (l.drop i)
      have hll := line_len (l.drop i)
      rw [List.length_drop] at hll
      have HGO : Hid ((parJ (lineJ (l.drop i)) 32).2.2 = 0 → spJ l = splJ f (restJ (l.drop i)) (acc ++ [(parJ (lineJ (l.drop i)) 32).1])) := fun h => by rw [HF.out, splJ_on h0 h]
      have HBD : Hid (¬ (parJ (lineJ (l.drop i)) 32).2.2 = 0 → spJ l = ([], (acc.length : Int), (parJ (lineJ (l.drop i)) 32).2.2)) := fun h => by rw [HF.out, splJ_bad h0 h]
      obtain ⟨T, hT⟩ : ∃ T, T = i + (lineJ (l.drop i)).length := ⟨_, rfl⟩
      have er1 : restJ (l.drop i) = l.drop (T + 1) := by rw [hp2, List.drop_drop, hT]; congr 1
      rw [er1] at HGO
      have HN10 : Hid (∀ t, i ≤ t → t < T → (h : t < l.length) → l[t] ≠ 10) := fun t h1 h2 h => by
        have := hp3 (t - i) (by omega) (by rw [List.length_drop]; omega)
        rw [List.getElem_drop] at this
        have e : i + (t - i) = t := by omega
        simp only [e] at this
        exact this
      have HT10 : Hid (∀ h : T < l.length, l[T] = 10) := fun h => by
        have := hp4 (by rw [List.length_drop]; omega)
        rw [List.getElem_drop] at this
        simp only [← hT] at this
        exact this
      obtain rfl : ao = some ⟨vb0, vo0, none⟩ := hd.at_.resolve_left (by omega)
      obtain ⟨a3, c3, hs3, hd3⟩ := slB_in (some ⟨vb0, vo0, none⟩) l.length vcap vb0 vo0 i T hd (by omega) (by omega)
      have HX : Hid (Byt w (.slice a3 (T - i) c3) (lineJ (l.drop i))) := byt_part (i := i) (o := vo0) (b := vb0) (l := l) hd3 (by omega) (fun j hj => ⟨by omega, by
        have e := hp1
        have h2 : (lineJ (l.drop i))[j] = ((l.drop i).take (lineJ (l.drop i)).length)[j]'(by rw [← e]; exact hj) := by congr 1
        rw [h2, List.getElem_take, List.getElem_drop]⟩) HC.out
      have CP : Hid (∀ (W : World), Below w.heap.size w W → Calls Tryz.prog 25 #[.slice a3 (T - i) c3, .int .i64 32] W (PrP (parJ (lineJ (l.drop i)) 32) W)) := fun W hW => dparse_any _ _ 32 W (HX.out.keep hW).bys ⟨by omega, by omega⟩ (by omega)
      have hlt : ∀ r, u5.ownBlock = some r → w.heap.size ≤ r := fun r e => (oj.lt e).1
      have hltx : ∀ r, u5.ownBlock = some r → r < wr.heap.size := fun r e => (oj.lt e).2
      have hiT : i ≤ T := by omega
      have hTl : T ≤ l.length := by omega
      have zj := bj.size
      clear HF hp1 hp2 hp3 hp4 hd3 HX er1 h0 hT hll
      obtain ⟨wo, hwo⟩ : ∃ wo : World, wo = wr := ⟨_, rfl⟩
      subst hwo
      have oo := oj
      clear oj
      go_wp2_with fail
      go_loopw [8] (fun e8 wi => ∃ t : Nat, e8 = .int .i64 (t : Int) ∧ i ≤ t ∧ t ≤ T ∧ Below wo.heap.size wo wi) (fun e8 _ => T - (RowKit.intOf e8).toNat)
      case atStart => exact ⟨i, rfl, Nat.le_refl _, hiT, Below.refl _ _⟩
      case round =>
      obtain ⟨t, rfl, hit, htT, bi⟩ := hrel
      have hzi := bi.size
      have B0' := bj.trans (bi.mono zj)
      by_cases htl : t < l.length
      · have y3 : (t : Int) < l.length := by omega
        obtain ⟨hg, h1⟩ := HC.out t htl
        have c1 : wr.cell? ⟨vb0, vo0 + t, none⟩ = some (.int .u8 ((l[t]).toNat : Int)) := (B0'.cell (p := ⟨vb0, vo0 + t, none⟩) hg).trans h1
        have p1 : ∀ x : Sub wr.heap.size wr, _ := sub_cell c1 (by omega)
        clear h1
        by_cases htt : t < T
        · have y4 : (((l[t]).toNat : Int) != 10) = true := by
            rw [bne_iff_ne]
            intro q
            exact HN10.out t hit htt htl (UInt8.toNat_inj.1 (by show (l[t]).toNat = 10; omega))
          generalize ((l[t]).toNat : Int) = z at *
          go_wp2_with fail
          go_roundw
          case rel => exact ⟨t + 1, by go_num, by omega, by omega, bi⟩
          case measure => simp [RowKit.intOf]; omega
        obtain rfl : t = T := by omega
        have y4 : (((l[t]).toNat : Int) != 10) = false := by rw [HT10.out htl]; rfl
        generalize ((l[t]).toNat : Int) = z at *
        clear HN10 HT10
        have bq := bi
        have B0 := B0'
        clear bi B0'
        have CPH := hmk (CP.out _ B0)
        have oQ := oo.below (keepL false) bq
        clear CP oo bq
        generalize parJ (lineJ (l.drop i)) 32 = R at *
        obtain ⟨X, at_, er⟩ := R
        dsimp only at *
        go_wp2_with fail
        refine CPH.out.mono ?_
        rintro e w2 ⟨cs, rfl, hl1, b2⟩
        dsimp only at hl1
        have HL1 := hmk hl1
        obtain ⟨vk, vb, vi, vs, al, nl, cl, am, nm, cm, rfl⟩ := V.ten hl1
        have z2 := b2.size
        have B2 := B0.trans (b2.mono (by omega))
        have o2 := oQ.below (keepL false) b2
        have zC := alloc_size w2 (.cells #[.int .i64 vk, .bool vb, .int .i64 vi, .string vs, .slice al nl cl, .slice am nm cm] 25)
        have bC : Below w2.heap.size w2 (w2.alloc (.cells #[.int .i64 vk, .bool vb, .int .i64 vi, .string vs, .slice al nl cl, .slice am nm cm] 25)) := (Below.refl _ _).alloc (Nat.le_refl _) _
        have BC := B2.trans (bC.mono (by omega))
        have HBC := hmk BC
        clear CPH hl1 oQ
        by_cases he : er = 0
        · subst he
          have HN := hmk (HGO.out rfl)
          have oC := o2.below (keepL false) bC
          have zD := alloc_size (w2.alloc (.cells #[.int .i64 vk, .bool vb, .int .i64 vi, .string vs, .slice al nl cl, .slice am nm cm] 25)) (.cells #[.int .i64 vk, .bool vb, .int .i64 vi, .string vs, .slice al nl cl, .slice am nm cm] 25)
          have bD : Below (w2.alloc (.cells #[.int .i64 vk, .bool vb, .int .i64 vi, .string vs, .slice al nl cl, .slice am nm cm] 25)).heap.size (w2.alloc (.cells #[.int .i64 vk, .bool vb, .int .i64 vi, .string vs, .slice al nl cl, .slice am nm cm] 25)) ((w2.alloc (.cells #[.int .i64 vk, .bool vb, .int .i64 vi, .string vs, .slice al nl cl, .slice am nm cm] 25)).alloc (.cells #[.int .i64 vk, .bool vb, .int .i64 vi, .string vs, .slice al nl cl, .slice am nm cm] 25)) := (Below.refl _ _).alloc (Nat.le_refl _) _
          have oD := oC.below (keepL false) bD
          have BD := BC.trans (bD.mono (by omega))
          have N8 := heap_alloc_new w2 (.cells #[.int .i64 vk, .bool vb, .int .i64 vi, .string vs, .slice al nl cl, .slice am nm cm] 25)
          have N9 := heap_alloc_new (w2.alloc (.cells #[.int .i64 vk, .bool vb, .int .i64 vi, .string vs, .slice al nl cl, .slice am nm cm] 25)) (.cells #[.int .i64 vk, .bool vb, .int .i64 vi, .string vs, .slice al nl cl, .slice am nm cm] 25)
          rw [zC] at N9
          have HEL : Hid (EL false (some X) ((w2.alloc (.cells #[.int .i64 vk, .bool vb, .int .i64 vi, .string vs, .slice al nl cl, .slice am nm cm] 25)).alloc (.cells #[.int .i64 vk, .bool vb, .int .i64 vi, .string vs, .slice al nl cl, .slice am nm cm] 25)) (New wr w2) [.int .i64 vk, .bool vb, .int .i64 vi, .string vs, .slice al nl cl, .slice am nm cm]) :=
            V.lies_keep (fun h => h) (fun b hb => (bD.block b (by have := hb.2; omega)).trans (bC.block b hb.2)) (fun _ h => h) _ HL1.out
          have hSx : ∀ b, New wr w2 b → w.heap.size ≤ b ∧ b < ((w2.alloc (.cells #[.int .i64 vk, .bool vb, .int .i64 vi, .string vs, .slice al nl cl, .slice am nm cm] 25)).alloc (.cells #[.int .i64 vk, .bool vb, .int .i64 vi, .string vs, .slice al nl cl, .slice am nm cm] 25)).heap.size ∧ some b ≠ u5.ownBlock := fun b hb => ⟨by have := hb.1; omega, by have := hb.2; omega, fun e => by have := hltx b e.symm; have := hb.1; omega⟩
          have hb2 : w.heap.size ≤ ((w2.alloc (.cells #[.int .i64 vk, .bool vb, .int .i64 vi, .string vs, .slice al nl cl, .slice am nm cm] 25)).alloc (.cells #[.int .i64 vk, .bool vb, .int .i64 vi, .string vs, .slice al nl cl, .slice am nm cm] 25)).heap.size := by omega
          have HBD2 := hmk BD
          have a0 := cell_of_block N8 0
          have a1 := cell_of_block N8 1
          have a2 := cell_of_block N8 2
          have a3 := cell_of_block N8 3
          have a4 := cell_of_block N8 4
          have a5 := cell_of_block N8 5
          simp only [List.getElem?_toArray, List.getElem?_cons_zero, List.getElem?_cons_succ] at a0 a1 a2 a3 a4 a5
          have HN9 := hmk N9
          clear HBD HGO HL1 oC o2 bC BC bD BD N8 N9
          go_wp2_with (at_builtin; go_loud (refine wpl_push (keepL false) _ rfl (.tmp 46) (.tmp 48) 22 rfl w.heap.size i1 _ 88 Tryz.underlying22 hJ.out.1 hJ.out.2.1 hJ.out.2.2.1 hJ.out.2.2.2 rfl (by decide) (by decide) u5 (some X) rfl oD (w2.heap.size + 1) 1 (0, 0) rfl HN9.out rfl one6 HEL.out hSx (by rw [List.length_map]; omega) hb2 ?_))
          intro g' cap w5 o5 g5 e5
          have B5 : Below w.heap.size w w5 := HBD2.out.grown g5 HBD2.out.size hlt
          have HA5 : Hid (acc.map some ++ [some X] = (acc ++ [X]).map some) := by show _ = _; rw [List.map_append]; rfl
          rw [HA5.out] at o5
          clear oD g5 e5 hb2 hSx HEL HN9 a0 a1 a2 a3 a4 a5 HBD2 HBC hlt hltx
          go_wp2_with fail
          go_roundg f
          case measure => omega
          case rel => exact ⟨t + 1, acc ++ [X], _, by go_num, by rw [List.length_append]; go_num, by omega, by rw [List.length_drop]; omega, by rw [List.length_append]; simp only [List.length_cons, List.length_nil]; omega, B5, o5, HN⟩
        · have HN := hmk (HBD.out he)
          have y0 : (er != 0) = true := by rw [bne_iff_ne]; exact he
          clear o2 HBD HGO HL1 bC BC hlt hltx
          go_wp2_with fail
          go_ret3
          rw [HN.out]
          exact ⟨none, 0, 0, 0, rfl, headed_nil, lies_none _ _, HBC.out⟩
      · obtain rfl : t = T := by omega
        have y3 : ¬ (t : Int) < l.length := by omega
        clear HN10 HT10
        have bq := bi
        have B0 := B0'
        clear bi B0'
        have CPH := hmk (CP.out _ B0)
        have oQ := oo.below (keepL false) bq
        clear CP oo bq
        generalize parJ (lineJ (l.drop i)) 32 = R at *
        obtain ⟨X, at_, er⟩ := R
        dsimp only at *
        go_wp2_with fail
        refine CPH.out.mono ?_
        rintro e w2 ⟨cs, rfl, hl1, b2⟩
        dsimp only at hl1
        have HL1 := hmk hl1
        obtain ⟨vk, vb, vi, vs, al, nl, cl, am, nm, cm, rfl⟩ := V.ten hl1
        have z2 := b2.size
        have B2 := B0.trans (b2.mono (by omega))
        have o2 := oQ.below (keepL false) b2
        have zC := alloc_size w2 (.cells #[.int .i64 vk, .bool vb, .int .i64 vi, .string vs, .slice al nl cl, .slice am nm cm] 25)
        have bC : Below w2.heap.size w2 (w2.alloc (.cells #[.int .i64 vk, .bool vb, .int .i64 vi, .string vs, .slice al nl cl, .slice am nm cm] 25)) := (Below.refl _ _).alloc (Nat.le_refl _) _
        have BC := B2.trans (bC.mono (by omega))
        have HBC := hmk BC
        clear CPH hl1 oQ
        by_cases he : er = 0
        · subst he
          have HN := hmk (HGO.out rfl)
          have oC := o2.below (keepL false) bC
          have zD := alloc_size (w2.alloc (.cells #[.int .i64 vk, .bool vb, .int .i64 vi, .string vs, .slice al nl cl, .slice am nm cm] 25)) (.cells #[.int .i64 vk, .bool vb, .int .i64 vi, .string vs, .slice al nl cl, .slice am nm cm] 25)
          have bD : Below (w2.alloc (.cells #[.int .i64 vk, .bool vb, .int .i64 vi, .string vs, .slice al nl cl, .slice am nm cm] 25)).heap.size (w2.alloc (.cells #[.int .i64 vk, .bool vb, .int .i64 vi, .string vs, .slice al nl cl, .slice am nm cm] 25)) ((w2.alloc (.cells #[.int .i64 vk, .bool vb, .int .i64 vi, .string vs, .slice al nl cl, .slice am nm cm] 25)).alloc (.cells #[.int .i64 vk, .bool vb, .int .i64 vi, .string vs, .slice al nl cl, .slice am nm cm] 25)) := (Below.refl _ _).alloc (Nat.le_refl _) _
          have oD := oC.below (keepL false) bD
          have BD := BC.trans (bD.mono (by omega))
          have N8 := heap_alloc_new w2 (.cells #[.int .i64 vk, .bool vb, .int .i64 vi, .string vs, .slice al nl cl, .slice am nm cm] 25)
          have N9 := heap_alloc_new (w2.alloc (.cells #[.int .i64 vk, .bool vb, .int .i64 vi, .string vs, .slice al nl cl, .slice am nm cm] 25)) (.cells #[.int .i64 vk, .bool vb, .int .i64 vi, .string vs, .slice al nl cl, .slice am nm cm] 25)
          rw [zC] at N9
          have HEL : Hid (EL false (some X) ((w2.alloc (.cells #[.int .i64 vk, .bool vb, .int .i64 vi, .string vs, .slice al nl cl, .slice am nm cm] 25)).alloc (.cells #[.int .i64 vk, .bool vb, .int .i64 vi, .string vs, .slice al nl cl, .slice am nm cm] 25)) (New wr w2) [.int .i64 vk, .bool vb, .int .i64 vi, .string vs, .slice al nl cl, .slice am nm cm]) :=
            V.lies_keep (fun h => h) (fun b hb => (bD.block b (by have := hb.2; omega)).trans (bC.block b hb.2)) (fun _ h => h) _ HL1.out
          have hSx : ∀ b, New wr w2 b → w.heap.size ≤ b ∧ b < ((w2.alloc (.cells #[.int .i64 vk, .bool vb, .int .i64 vi, .string vs, .slice al nl cl, .slice am nm cm] 25)).alloc (.cells #[.int .i64 vk, .bool vb, .int .i64 vi, .string vs, .slice al nl cl, .slice am nm cm] 25)).heap.size ∧ some b ≠ u5.ownBlock := fun b hb => ⟨by have := hb.1; omega, by have := hb.2; omega, fun e => by have := hltx b e.symm; have := hb.1; omega⟩
          have hb2 : w.heap.size ≤ ((w2.alloc (.cells #[.int .i64 vk, .bool vb, .int .i64 vi, .string vs, .slice al nl cl, .slice am nm cm] 25)).alloc (.cells #[.int .i64 vk, .bool vb, .int .i64 vi, .string vs, .slice al nl cl, .slice am nm cm] 25)).heap.size := by omega
          have HBD2 := hmk BD
          have a0 := cell_of_block N8 0
          have a1 := cell_of_block N8 1
          have a2 := cell_of_block N8 2
          have a3 := cell_of_block N8 3
          have a4 := cell_of_block N8 4
          have a5 := cell_of_block N8 5
          simp only [List.getElem?_toArray, List.getElem?_cons_zero, List.getElem?_cons_succ] at a0 a1 a2 a3 a4 a5
          have HN9 := hmk N9
          clear HBD HGO HL1 oC o2 bC BC bD BD N8 N9
          go_wp2_with (at_builtin; go_loud (refine wpl_push (keepL false) _ rfl (.tmp 46) (.tmp 48) 22 rfl w.heap.size i1 _ 88 Tryz.underlying22 hJ.out.1 hJ.out.2.1 hJ.out.2.2.1 hJ.out.2.2.2 rfl (by decide) (by decide) u5 (some X) rfl oD (w2.heap.size + 1) 1 (0, 0) rfl HN9.out rfl one6 HEL.out hSx (by rw [List.length_map]; omega) hb2 ?_))
          intro g' cap w5 o5 g5 e5
          have B5 : Below w.heap.size w w5 := HBD2.out.grown g5 HBD2.out.size hlt
          have HA5 : Hid (acc.map some ++ [some X] = (acc ++ [X]).map some) := by show _ = _; rw [List.map_append]; rfl
          rw [HA5.out] at o5
          clear oD g5 e5 hb2 hSx HEL HN9 a0 a1 a2 a3 a4 a5 HBD2 HBC hlt hltx
          go_wp2_with fail
          go_roundg f
          case measure => omega
          case rel => exact ⟨t + 1, acc ++ [X], _, by go_num, by rw [List.length_append]; go_num, by omega, by rw [List.length_drop]; omega, by rw [List.length_append]; simp only [List.length_cons, List.length_nil]; omega, B5, o5, HN⟩
        · have HN := hmk (HBD.out he)
          have y0 : (er != 0) = true := by rw [bne_iff_ne]; exact he
          clear o2 HBD HGO HL1 bC BC hlt hltx
          go_wp2_with fail
          go_ret3
          rw [HN.out]
          exact ⟨none, 0, 0, 0, rfl, headed_nil, lies_none _ _, HBC.out⟩
    · have y2 : ¬ (i : Int) < (l.length : Int) := by omega
      have e0 : l.drop i = [] := List.drop_eq_nil_of_le (by omega)
      rw [e0, splJ_end] at HF
      obtain ⟨sa, sc, sb, so, hu, hds, hls⟩ := own_listL0 (T := New w wr) oj (fun b hb => ⟨(oj.off b hb).1, (oj.off b hb).2.1⟩) (fun g hg => oj.lt hg)
      have HU := hmk hu
      have HD := hmk hds
      have HL := hmk hls
      clear hu hds hls oj e0
      go_wp2_with fail
      go_ret3
      rw [HF.out]
      exact ⟨sa, sc, sb, so, by rw [HU.out]; rfl, HD.out, HL.out, bj⟩
end Go.Proofs.YtpmhdcmmlkjjmaaGreatDoor
/- JsonLines: the law's walk. -/
set_option maxRecDepth 100000
namespace Go.Proofs.YtpmhdcmmlkjjmaaGreatDoor
open Go.RowKit Go.Lib
theorem can_len (l : List UInt8) : (canJ l).1.length ≤ l.length := by
  unfold canJ
  split
  · rename_i h; exact (par_good h).2.2.2.2.2.2
  · simp
theorem sp_len (l : List UInt8) : (spJ l).1.length ≤ 1048576 := by
  unfold spJ
  split
  · simp
  · have := splJ_len (l.length + 1) l [] (by omega)
    simp only [List.length_nil] at this
    omega
set_option maxHeartbeats 16000000 in
theorem lineslaw_walk (l : List UInt8) (v : Value) (w : World) (hb : Byt w v l) (t : Td w) (td : Tdl w) (hl : l.length ≤ 140737488355328) : Calls Tryz.prog 7 #[v] w (BPost true w) := by
  have CT := hmk (twin_bytes l v w hb hl)
  have HT : Hid (∀ W, Below w.heap.size w W → Td W ∧ Tdl W ∧ Byt W v l) := fun W h => ⟨t.below h (by have := t.z; omega) h.size, td.below h (by have := td.z; omega) h.size, hb.keep h⟩
  obtain ⟨va, vc, rfl⟩ : ∃ a c, v = .slice a l.length c := by
    obtain ⟨ao, cap, b, o, rfl, _⟩ := hb
    exact ⟨_, _, rfl⟩
  have hcl := can_len l
  have hsl := sp_len l
  have HCC : Hid (∀ W, Below w.heap.size w W → Calls Tryz.prog 17 #[.slice va l.length vc] W (CaP (canJ l) W)) := fun W h => canon_any l _ W (HT.out W h).2.2 (HT.out W h).1 (HT.out W h).2.1 hl
  have HCD : Hid (∀ W x, Byt W x l → Calls Tryz.prog 23 #[x] W (CaP (canJ l) W)) := fun W x h => dcanon_any l x W h hl
  have HCS : Hid (∀ W, Below w.heap.size w W → Calls Tryz.prog 20 #[.slice va l.length vc] W (SpP (spJ l) W)) := fun W h => split_any l _ W (HT.out W h).2.2 (HT.out W h).1 hl
  have HCE : Hid (∀ W x, Byt W x l → Calls Tryz.prog 24 #[x] W (SpP (spJ l) W)) := fun W x h => dsplit_any l x W h hl
  clear hb t td
  generalize canJ l = CJ at *
  obtain ⟨cb, cat, ce⟩ := CJ
  generalize spJ l = SJ at *
  obtain ⟨sx, sat, se⟩ := SJ
  dsimp only at *
  go_enter Tryz.func7, Tryz.ntmps7
  go_wp2_with fail
  refine CT.out.mono ?_
  rintro e w0 ⟨tv, rfl, htv, b0⟩
  obtain ⟨ta, tc, rfl⟩ : ∃ a c, tv = .slice a l.length c := by
    obtain ⟨ao, cap, b, o, rfl, _⟩ := htv
    exact ⟨_, _, rfl⟩
  have HTV := hmk htv
  have C1 := hmk (HCC.out w0 b0)
  have z0 := b0.size
  clear htv CT HCC
  go_wp2_with fail
  refine C1.out.mono ?_
  rintro e w1 ⟨bv, rfl, hbv, b1⟩
  have HBV := hmk hbv
  obtain ⟨ba, bc, rfl⟩ : ∃ a c, bv = .slice a cb.length c := by
    obtain ⟨ao, cap, b, o, rfl, _⟩ := hbv
    exact ⟨_, _, rfl⟩
  have z1 := b1.size
  have C2 := hmk (HCD.out w1 _ (HTV.out.keep b1))
  clear hbv C1 HCD
  go_wp2_with fail
  refine C2.out.mono ?_
  rintro e w2 ⟨dv, rfl, hdv, b2⟩
  have HDV := hmk hdv
  obtain ⟨da, dc, rfl⟩ : ∃ a c, dv = .slice a cb.length c := by
    obtain ⟨ao, cap, b, o, rfl, _⟩ := hdv
    exact ⟨_, _, rfl⟩
  have z2 := b2.size
  have C3 := hmk (bytes_same cb _ _ w2 (HBV.out.keep b2) HDV.out (by omega))
  clear hdv C2 HBV HDV
  go_wp2_with fail
  refine C3.out.mono ?_
  rintro e w3 ⟨rfl, b3⟩
  have z3 := b3.size
  have B1 := b0.trans (b1.mono z0)
  have B2 := B1.trans (b2.mono (by omega))
  have B3 := B2.trans (b3.mono (by omega))
  have T3 := b1.trans ((b2.mono z1).trans (b3.mono (by omega)))
  have C4 := hmk (HCS.out w3 B3)
  clear C3 HCS B1 B2 b0 b1 b2 b3
  go_wp2_with fail
  refine C4.out.mono ?_
  rintro e w4 ⟨a4, c4, k4, o4, rfl, hd4, hl4, b4⟩
  dsimp only at hd4 hl4
  have z4 := b4.size
  have B4 := B3.trans (b4.mono (by omega))
  have T4 := T3.trans (b4.mono (by omega))
  have C5 := hmk (HCE.out w4 _ (HTV.out.keep T4))
  have HD4 := hmk hd4
  have HL4 := hmk hl4
  clear C4 HCE hd4 hl4
  go_wp2_with fail
  refine C5.out.mono ?_
  rintro e w5 ⟨a5, c5, k5, o5, rfl, hd5, hl5, b5⟩
  dsimp only at hd5 hl5
  have z5 := b5.size
  have B5 := B4.trans (b5.mono (by omega))
  have T5 := T4.trans (b5.mono (by omega))
  have C6 := hmk (values_same sx (New w3 w4) (New w4 w5) _ _ _ _ k4 k5 o4 o5 w5 HD4.out hd5 (liesL_keep (fun h => h) (fun x hx => b5.block x hx.2) (fun _ h => h) _ HL4.out) hl5 (fun x hx => by have := hx.2; omega) (fun x hx => hx.2) (by omega))
  clear C5 hd5 hl5 HD4 HL4
  go_wp2_with fail
  refine C6.out.mono ?_
  rintro e w6 ⟨rfl, b6⟩
  have z6 := b6.size
  have B6 := B5.trans (b6.mono (by omega))
  have C7 := hmk (bytes_same l _ _ w6 (HT.out _ B6).2.2 (HTV.out.keep (T5.trans (b6.mono (by omega)))) (by omega))
  clear C6
  go_wp2_with fail
  refine C7.out.mono ?_
  rintro e w7 ⟨rfl, b7⟩
  have B7 := B6.trans (b7.mono (by omega))
  clear C7
  go_wp2_with fail
  go_ret
  exact ⟨rfl, B7⟩
end Go.Proofs.YtpmhdcmmlkjjmaaGreatDoor
