import Derived.Test.YtpmhdcmmlkjjmaaGreatDoorH14
/- the document's members: the walk. -/
set_option linter.unusedSimpArgs false
set_option linter.unusedVariables false
set_option maxRecDepth 100000
namespace Go.Proofs.YtpmhdcmmlkjjmaaGreatDoor
open Go.RowKit Go.Lib
theorem lies_nilM (w : World) (S : Nat → Prop) : V.lies false w S (.mk 5 false 0 ⟨#[]⟩ [] []) [.int .i64 5, .bool false, .int .i64 0, .string ⟨#[]⟩, .slice none 0 0, .slice none 0 0] := lies_sca ⟨by omega, by omega⟩ In64.zero (by simp [maxLen, ByteArray.size]) w S
/-- the members with the value set in the first i -/
def upM (key : ByteArray) (x : V) (L : List Mem) (i : Nat) : List Mem := (L.take i).map (setK key x) ++ L.drop i
theorem upM_len {key : ByteArray} {x : V} {L : List Mem} {i : Nat} (h : i ≤ L.length) : (upM key x L i).length = L.length := by
  rw [upM, List.length_append, List.length_map, List.length_take, List.length_drop]; omega
theorem upM_at {key : ByteArray} {x : V} {L : List Mem} {i : Nat} (h : i < L.length) : (upM key x L i)[i]'(by rw [upM_len (by omega)]; exact h) = L[i] := by
  have e : ((L.take i).map (setK key x)).length = i := by rw [List.length_map, List.length_take]; omega
  unfold upM
  rw [List.getElem_append_right (by omega), List.getElem_drop]
  congr 1
  omega
theorem upM_no {key : ByteArray} {x : V} {L : List Mem} {i : Nat} (h : i < L.length) (hk : ¬ (L[i]).1.data.toList = key.data.toList) : upM key x L (i + 1) = upM key x L i := by
  unfold upM
  rw [List.take_succ_eq_append_getElem h, List.map_append, List.append_assoc, List.drop_eq_getElem_cons h]
  congr 1
  rw [List.map_cons, List.map_nil, setK, if_neg hk]
  rfl
theorem upM_yes {key : ByteArray} {x : V} {L : List Mem} {i : Nat} (h : i < L.length) (hk : (L[i]).1.data.toList = key.data.toList) : upM key x L (i + 1) = (upM key x L i).set i ((L[i]).1, x) := by
  have e : ((L.take i).map (setK key x)).length = i := by rw [List.length_map, List.length_take]; omega
  unfold upM
  rw [List.take_succ_eq_append_getElem h, List.map_append, List.append_assoc, List.set_append_right _ _ (by omega), e, Nat.sub_self, List.drop_eq_getElem_cons h, List.set_cons_zero]
  congr 1
  rw [List.map_cons, List.map_nil, setK, if_pos hk]
  rfl
theorem upM_zero {key : ByteArray} {x : V} {L : List Mem} : upM key x L 0 = L := by simp [upM]
theorem upM_all {key : ByteArray} {x : V} {L : List Mem} : upM key x L L.length = L.map (setK key x) := by simp [upM]
set_option maxHeartbeats 32000000 in
theorem dmembers_any (g : Nat) (s : ByteArray) (D F0 : Nat) (HV : ∀ f, f < F0 → ValD g s D f) (o k n : Nat) (w : World) (h : JD g s k n D 0 0 w) (hs : s.size ≤ 100000000) (hk : k < s.size) (hF : 2 * (s.size - k) ≤ F0) (hn : n ≤ 65536) (ho : o ≤ D) (hD : D ≤ 1000) :
    Calls Tryz.prog 54 #[.pointer (some ⟨g, 0, none⟩), .int .i64 (o : Int)] w (DvP (memV (memJ s.data.toList D F0 (o + 1) (begunJ s.data.toList k 125).1 (begunJ s.data.toList k 125).2 n [])) g s D w) := by
  have hll : s.data.toList.length = s.size := by simp
  have HLL := hmk hll
  have hlt := h.lt
  have hbl := blk_le (l := s.data.toList) (k := k + 1) (by rw [hll]; omega)
  rw [hll] at hbl
  have X0 := dx_two w g s D k n #[.int .i64 5, .bool false, .int .i64 0, .string ⟨#[]⟩, .slice none 0 0, .slice none 0 0] h
  have c1 := X0.jd.c1
  have f1 := X0.jd.fz 1
  have X1 := hmk (dx_three w (w.setCell ⟨g, 1, none⟩ (.int .i64 ((k : Int) + 1))) g s D (k + 1) n #[.int .i64 5, .bool false, .int .i64 0, .string ⟨#[]⟩, .slice none 0 0, .slice none 0 0] (h.put (k + 1) _ (by omega)) (grown_set1 w g 1 _) (by simp))
  clear X0 h
  by_cases hend : blk s.data.toList (k + 1) = s.size
  · have CN := hmk (dnext_end g s (k + 1) n D 0 _ X1.out.jd (by omega) (by omega) hend)
    have HE : Hid (memV (memJ s.data.toList D F0 (o + 1) (begunJ s.data.toList k 125).1 (begunJ s.data.toList k 125).2 n []) = .error (s.size, 31)) := by
      show _ = _
      obtain ⟨f, rfl⟩ : ∃ f, F0 = f + 1 + 1 := ⟨F0 - 2, by omega⟩
      rw [begunJ_end (by rw [hll]; omega)]
      dsimp only
      rw [memJ_key (keyJ_end (by rw [hll]; omega)), hend]
      rfl
    clear HV
    go_enter Tryz.func54, Tryz.ntmps54
    go_wp2_with fail
    refine CN.out.mono ?_
    rintro e w1 ⟨rfl, R1, g1⟩
    have X2 := X1.out.next hlt g1 R1
    have c4 := X2.jd.c4
    clear CN X1 c1 f1 R1 g1
    obtain ⟨⟨q0, q1, q2, q3, q4, q5⟩, kf, ⟨p0, p1, p2, p3, p4, p5⟩, kf2⟩ := X2.cells
    obtain ⟨W6, e6, ⟨z0, z1, z2, z3, z4, z5⟩, R6, G6, gb⟩ := X2.done hlt (.int .i64 5) (.bool false) (.int .i64 0) (.string ⟨#[]⟩) (.slice none 0 0) (.slice none 0 0)
    have HR6 := hmk R6
    have HG6 := hmk G6
    have HGB := hmk gb
    clear R6 G6 gb
    go_wp2_with fail
    (try rw [← e6])
    clear e6 q0 q1 q2 q3 q4 q5 kf p0 p1 p2 p3 p4 p5 kf2
    (try simp only [Exit.inBlock, Exit.then])
    refine bodyPost_ret (v := .agg #[.int .i64 5, .bool false, .int .i64 0, .string ⟨#[]⟩, .slice none 0 0, .slice none 0 0]) ?_ rfl ?_
    · rw [results_cell1 rfl]
      go_simp
    · rw [HE.out]
      exact ⟨⟨_, _, _, _, _, _, _, _, _, _, _, _, rfl, HR6.out, by simp⟩, HG6.out⟩
  · have hlt2 : blk s.data.toList (k + 1) < s.size := by omega
    have CN := hmk (dnext_yes g s (k + 1) n D 0 0 _ X1.out.jd (by omega) (by omega) hlt2)
    have HB1 := hmk (@begunJ_close s.data.toList k 125 (by rw [hll]; exact hlt2))
    have HB2 := hmk (@begunJ_open s.data.toList k 125 (by rw [hll]; exact hlt2))
    have eg : s.data.toList[blk s.data.toList (k + 1)]'(by rw [hll]; exact hlt2) = s[blk s.data.toList (k + 1)] := rfl
    rw [eg] at HB1 HB2
    clear eg
    have HBA : Hid (blk s.data.toList (blk s.data.toList (k + 1)) = blk s.data.toList (k + 1)) := blk_again (by rw [hll]; omega)
    generalize s[blk s.data.toList (k + 1)] = b at *
    generalize blk s.data.toList (k + 1) = K at *
    by_cases hb : b = 125
    · have HE : Hid (memV (memJ s.data.toList D F0 (o + 1) (begunJ s.data.toList k 125).1 (begunJ s.data.toList k 125).2 n []) = .ok (.mk 5 false 0 ⟨#[]⟩ [] [], K + 1, n)) := by
        show _ = _
        obtain ⟨f, rfl⟩ : ∃ f, F0 = f + 1 := ⟨F0 - 1, by omega⟩
        rw [HB1.out hb]
        dsimp only
        rw [memJ_end]
        rfl
      have y1 : ((b.toNat : Int) == 125) = true := by rw [hb]; rfl
      clear HV HB1 HB2 hb
      go_enter Tryz.func54, Tryz.ntmps54
      go_wp2_with fail
      refine CN.out.mono ?_
      rintro e w1 ⟨rfl, R1, g1⟩
      have X2 := X1.out.next hlt g1 R1
      have c4 := X2.jd.c4
      have c1' := X2.jd.c1
      have f1' := X2.jd.fz 1
      clear CN X1 c1 f1 R1 g1
      have X3 := X2.put1 hlt (K + 1) ((K : Int) + 1) (by omega)
      clear X2
      obtain ⟨⟨q0, q1, q2, q3, q4, q5⟩, kf, ⟨p0, p1, p2, p3, p4, p5⟩, kf2⟩ := X3.cells
      obtain ⟨W6, e6, ⟨z0, z1, z2, z3, z4, z5⟩, R6, G6, gb⟩ := X3.done hlt (.int .i64 5) (.bool false) (.int .i64 0) (.string ⟨#[]⟩) (.slice none 0 0) (.slice none 0 0)
      have HR6 := hmk R6
      have HG6 := hmk G6
      have HGB := hmk gb
      clear R6 G6 gb
      go_wp2_with fail
      (try rw [← e6])
      clear e6 q0 q1 q2 q3 q4 q5 kf p0 p1 p2 p3 p4 p5 kf2
      (try simp only [Exit.inBlock, Exit.then])
      refine bodyPost_ret (v := .agg #[.int .i64 5, .bool false, .int .i64 0, .string ⟨#[]⟩, .slice none 0 0, .slice none 0 0]) ?_ rfl ?_
      · rw [results_cell1 rfl]
        go_simp
      · rw [HE.out]
        exact ⟨⟨_, rfl, lies_nilM _ _, HR6.out⟩, HG6.out⟩
    · have HB3 := hmk (HB2.out hb)
      have y1 : ((b.toNat : Int) == 125) = false := by rw [beq_eq_false_iff_ne]; intro q; exact hb (UInt8.toNat_inj.1 (by show b.toNat = 125; omega))
      rw [HB3.out]
      clear HB1 HB2 hb HB3
      dsimp only
      have CG : Hid (∀ (W : World) (k n : Nat), JD g s k n D 0 0 W → k ≤ s.size → Calls Tryz.prog 74 #[.pointer (some ⟨g, 0, none⟩), .int .u8 125] W (DP (.bool false) (morJ s.data.toList k 125) (fun x e w' => e = .returned (.bool x.1) ∧ JD g s x.2 n D 0 0 w') g s D W)) := fun W k n hW hk => dmore_any g s k n D 0 125 W hW (by omega) hk
      have CF : Hid (∀ (W : World) (k n p er : Nat), JD g s k n D 0 0 W → Calls Tryz.prog 36 #[.pointer (some ⟨g, 0, none⟩), .int .i64 (p : Int), .int .i64 (er : Int)] W fun e w' => e = .returned (.tuple #[]) ∧ JD g s k n D er p w' ∧ W.grownBy w' (some g)) := fun W k n p er hW => dfail_any g s k n D 0 p er W hW
      have HKG : Hid (∀ (W W' : World) (S : Nat → Prop) (v : Value) (l : List (Option Mem)), OwnM false W (w.heap.size + 2) S v l → W.grownBy W' (some g) → OwnM false W' (w.heap.size + 2) S v l) := fun W W' S v l o gr => o.keep (keepM false) gr (fun r e => by
        cases e
        exact ⟨fun hS => by have := (o.off g hS).1; omega, fun e => by have := (o.lt e).1; omega⟩)
      have HVV := hmk HV
      clear HV
      obtain ⟨RR, HRR⟩ : ∃ RR, Hid (memJ s.data.toList D F0 (o + 1) true K n [] = RR) := ⟨_, hmk rfl⟩
      rw [HRR.out]
      go_enter Tryz.func54, Tryz.ntmps54
      go_wp2_with fail
      refine CN.out.mono ?_
      rintro e w1 ⟨rfl, R1, g1⟩
      have X2 := X1.out.next hlt g1 R1
      have c4 := X2.jd.c4
      clear CN X1 c1 f1 R1 g1
      go_wp2_with fail
      go_loopg [7] F0 (fun F e7 wr => ∃ (acc : List Mem) (more : Bool) (kk nn ee bd : Nat) (u : Value) (S : Nat → Prop), e7 = .bool more ∧ F ≤ F0 ∧ Dx w g s D kk nn ee bd #[.int .i64 5, .bool false, .int .i64 0, .string ⟨#[]⟩, .slice none 0 0, u] wr ∧ OwnM false wr (w.heap.size + 2) S u ((sortM acc).map some) ∧ Hid ((keysM acc).Nodup) ∧ ((ee = 0 ∧ bd = 0 ∧ kk ≤ s.size ∧ nn ≤ 65536 ∧ acc.length ≤ kk ∧ 2 * (s.size - kk) + 2 ≤ F ∧ Hid (RR = memJ s.data.toList D F (o + 1) more (if more = true then blk s.data.toList kk else kk) nn acc)) ∨ (more = false ∧ ee ≠ 0 ∧ Hid (RR = .error (bd, ee)))))
      case atStart => exact ⟨[], true, K, n, 0, 0, _, _, rfl, Nat.le_refl _, X2, OwnR.nil _ _, hmk List.nodup_nil, .inl ⟨rfl, rfl, by omega, hn, Nat.zero_le _, by omega, by rw [if_pos rfl, HBA.out]; exact hmk HRR.out.symm⟩⟩
      case round =>
        clear X2 c4
        obtain ⟨acc, more, kk, nn, ee, bd, u, S, rfl, hF2, X, oj, HND, hst⟩ := hrel
        have HLS : Hid ((sortM acc).length = acc.length) := sortM_len acc
        have hwlt := X.lt
        obtain ⟨sa, sc, sb, so, hu, hd, hls⟩ := own_listM0 (T := fun x => w.heap.size + 2 ≤ x ∧ x < wr.heap.size) oj (fun b hb => ⟨(oj.off b hb).1, (oj.off b hb).2.1⟩) (fun g hg => oj.lt hg)
        subst hu
        have HDD := hmk hd
        have HLI := hmk hls
        clear hd hls oj
        cases more with
        | false =>
          clear CG HKG HVV CF
          rcases hst with ⟨rfl, rfl, hkk, hnn, hac, hF1, HF⟩ | ⟨_, hee, HF⟩
          · have HE : Hid (memV RR = .ok (.mk 5 false 0 ⟨#[]⟩ [] (sortM acc), kk, nn)) := by
              show _ = _
              obtain ⟨f, rfl⟩ : ∃ f, gk = f + 1 := ⟨gk - 1, by omega⟩
              rw [HF.out, memJ_end]
              rfl
            clear HF
            obtain ⟨⟨q0, q1, q2, q3, q4, q5⟩, kf, ⟨p0, p1, p2, p3, p4, p5⟩, kf2⟩ := X.cells
            obtain ⟨W6, e6, ⟨z0, z1, z2, z3, z4, z5⟩, R6, G6, gb⟩ := X.done hlt (.int .i64 5) (.bool false) (.int .i64 0) (.string ⟨#[]⟩) (.slice none 0 0) (.slice sa (sortM acc).length sc)
            have HR6 := hmk R6
            have HG6 := hmk G6
            have HGB := hmk gb
            clear R6 G6 gb
            go_wp2_with fail
            (try rw [← e6])
            clear e6 q0 q1 q2 q3 q4 q5 kf p0 p1 p2 p3 p4 p5 kf2
            (try simp only [Exit.inBlock, Exit.then])
            refine bodyPost_ret (v := .agg #[.int .i64 5, .bool false, .int .i64 0, .string ⟨#[]⟩, .slice none 0 0, .slice sa (sortM acc).length sc]) ?_ rfl ?_
            · rw [results_cell1 rfl]
              go_simp
            · rw [HE.out]
              exact ⟨⟨_, rfl, lies_map2 HDD.out (liesM_keep (fun h => h) (fun _ _ => rfl) (fun b hb => ⟨by have := hb.1; omega, hb.2⟩) _ HLI.out) HGB.out, HR6.out⟩, HG6.out⟩
          · have HE : Hid (memV RR = .error (bd, ee)) := by
              show _ = _
              rw [HF.out]
              rfl
            have HEE := hmk hee
            clear HF hee
            obtain ⟨⟨q0, q1, q2, q3, q4, q5⟩, kf, ⟨p0, p1, p2, p3, p4, p5⟩, kf2⟩ := X.cells
            obtain ⟨W6, e6, ⟨z0, z1, z2, z3, z4, z5⟩, R6, G6, gb⟩ := X.done hlt (.int .i64 5) (.bool false) (.int .i64 0) (.string ⟨#[]⟩) (.slice none 0 0) (.slice sa (sortM acc).length sc)
            have HR6 := hmk R6
            have HG6 := hmk G6
            have HGB := hmk gb
            clear R6 G6 gb
            go_wp2_with fail
            (try rw [← e6])
            clear e6 q0 q1 q2 q3 q4 q5 kf p0 p1 p2 p3 p4 p5 kf2
            (try simp only [Exit.inBlock, Exit.then])
            refine bodyPost_ret (v := .agg #[.int .i64 5, .bool false, .int .i64 0, .string ⟨#[]⟩, .slice none 0 0, .slice sa (sortM acc).length sc]) ?_ rfl ?_
            · rw [results_cell1 rfl]
              go_simp
            · rw [HE.out]
              exact ⟨⟨_, _, _, _, _, _, _, _, _, _, _, _, rfl, HR6.out, HEE.out⟩, HG6.out⟩
        | true =>
          obtain ⟨rfl, rfl, hkk, hnn, hac, hF1, HF⟩ := hst.resolve_right (fun q => by cases q.1)
          clear hst
          rw [if_pos rfl] at HF
          obtain ⟨f, rfl⟩ : ∃ f, gk = f + 1 := ⟨gk - 1, by omega⟩
          have hbk := blk_le (l := s.data.toList) (k := kk) (by rw [HLL.out]; exact hkk)
          rw [HLL.out] at hbk
          have HVF := hmk (HVV.out f (by omega))
          by_cases hend2 : blk s.data.toList kk = s.size
          · have CN := hmk (dnext_end g s kk nn D 0 _ X.jd (by omega) (by omega) hend2)
            have HE : Hid (memV RR = .error (s.size, 31)) := by show _ = _; rw [HF.out, memJ_key (keyJ_end (by rw [HLL.out]; omega)), hend2]; rfl
            clear HF CG HKG HVV HVF CF
            go_wp2_with fail
            refine CN.out.mono ?_
            rintro e w1 ⟨rfl, R1, g1⟩
            have X2 := X.next hlt g1 R1
            have c4 := X2.jd.c4
            clear CN X R1 g1
            obtain ⟨⟨q0, q1, q2, q3, q4, q5⟩, kf, ⟨p0, p1, p2, p3, p4, p5⟩, kf2⟩ := X2.cells
            obtain ⟨W6, e6, ⟨z0, z1, z2, z3, z4, z5⟩, R6, G6, gb⟩ := X2.done hlt (.int .i64 5) (.bool false) (.int .i64 0) (.string ⟨#[]⟩) (.slice none 0 0) (.slice sa (sortM acc).length sc)
            have HR6 := hmk R6
            have HG6 := hmk G6
            have HGB := hmk gb
            clear R6 G6 gb
            go_wp2_with fail
            (try rw [← e6])
            clear e6 q0 q1 q2 q3 q4 q5 kf p0 p1 p2 p3 p4 p5 kf2
            (try simp only [Exit.inBlock, Exit.then])
            refine bodyPost_ret (v := .agg #[.int .i64 5, .bool false, .int .i64 0, .string ⟨#[]⟩, .slice none 0 0, .slice sa (sortM acc).length sc]) ?_ rfl ?_
            · rw [results_cell1 rfl]
              go_simp
            · rw [HE.out]
              exact ⟨⟨_, _, _, _, _, _, _, _, _, _, _, _, rfl, HR6.out, by simp⟩, HG6.out⟩
          have hlt3 : blk s.data.toList kk < s.size := by omega
          have CN := hmk (dnext_yes g s kk nn D 0 0 _ X.jd (by omega) (by omega) hlt3)
          by_cases h34 : s[blk s.data.toList kk] = 34
          case neg =>
            have HE : Hid (memV RR = .error (blk s.data.toList kk, 32)) := by show _ = _; rw [HF.out, memJ_key (keyJ_byte (by rw [HLL.out]; exact hlt3) h34)]; rfl
            have y34 : ((s[blk s.data.toList kk].toNat : Int) != 34) = true := by rw [bne_iff_ne]; intro q; exact h34 (UInt8.toNat_inj.1 (by show s[blk s.data.toList kk].toNat = 34; omega))
            clear HF CG HKG HVV HVF h34
            generalize s[blk s.data.toList kk] = b2 at *
            generalize blk s.data.toList kk = K2 at *
            go_wp2_with fail
            refine CN.out.mono ?_
            rintro e w1 ⟨rfl, R1, g1⟩
            have X2 := X.next hlt g1 R1
            have c4 := X2.jd.c4
            have c1 := X2.jd.c1
            clear CN X R1 g1
            go_wp2_with fail
            refine (CF.out _ _ _ K2 32 X2.jd).mono ?_
            rintro e w2 ⟨rfl, R2, g2⟩
            have X3 := X2.next hlt g2 R2
            have c4' := X3.jd.c4
            clear X2 R2 g2 c4 c1 CF
            obtain ⟨⟨q0, q1, q2, q3, q4, q5⟩, kf, ⟨p0, p1, p2, p3, p4, p5⟩, kf2⟩ := X3.cells
            obtain ⟨W6, e6, ⟨z0, z1, z2, z3, z4, z5⟩, R6, G6, gb⟩ := X3.done hlt (.int .i64 5) (.bool false) (.int .i64 0) (.string ⟨#[]⟩) (.slice none 0 0) (.slice sa (sortM acc).length sc)
            have HR6 := hmk R6
            have HG6 := hmk G6
            have HGB := hmk gb
            clear R6 G6 gb
            go_wp2_with fail
            (try rw [← e6])
            clear e6 q0 q1 q2 q3 q4 q5 kf p0 p1 p2 p3 p4 p5 kf2
            (try simp only [Exit.inBlock, Exit.then])
            refine bodyPost_ret (v := .agg #[.int .i64 5, .bool false, .int .i64 0, .string ⟨#[]⟩, .slice none 0 0, .slice sa (sortM acc).length sc]) ?_ rfl ?_
            · rw [results_cell1 rfl]
              go_simp
            · rw [HE.out]
              exact ⟨⟨_, _, _, _, _, _, _, _, _, _, _, _, rfl, HR6.out, by simp⟩, HG6.out⟩
          case pos =>
          have y34 : ((s[blk s.data.toList kk].toNat : Int) != 34) = false := by rw [h34]; rfl
          have CT : Hid (∀ W n, JD g s (blk s.data.toList kk) n D 0 0 W → Calls Tryz.prog 52 #[.pointer (some ⟨g, 0, none⟩)] W (DP (.string ⟨#[]⟩) (quoJ s.data.toList (blk s.data.toList kk)) (fun x e w' => e = .returned (.string x.1) ∧ JD g s x.2 n D 0 0 w') g s D W)) := fun W n hW => dtext_any g s (blk s.data.toList kk) n D 0 W hW hs hlt3 h34
          have HKQ : Hid (∀ e, quoJ s.data.toList (blk s.data.toList kk) = .error e → RR = .error e) := fun e he => by rw [HF.out, memJ_key (keyJ_quo (by rw [HLL.out]; exact hlt3) h34 he)]
          have HKT : Hid (∀ x k1, quoJ s.data.toList (blk s.data.toList kk) = .ok (x, k1) → x.data.toList ∈ keysM acc → RR = .error (blk s.data.toList kk, 34)) := fun x k1 he hx => by rw [HF.out, memJ_key (keyJ_twice (by rw [HLL.out]; exact hlt3) h34 he hx)]
          have HKC : Hid (∀ x k1 e, quoJ s.data.toList (blk s.data.toList kk) = .ok (x, k1) → x.data.toList ∉ keysM acc → mustJ s.data.toList (blk s.data.toList k1) 58 = .error e → RR = .error e) := fun x k1 e he hx hm => by rw [HF.out, memJ_key (keyJ_colon (by rw [HLL.out]; exact hlt3) h34 he hx hm)]
          have HKK : Hid (∀ x k1 k2, quoJ s.data.toList (blk s.data.toList kk) = .ok (x, k1) → x.data.toList ∉ keysM acc → mustJ s.data.toList (blk s.data.toList k1) 58 = .ok k2 → keyJ s.data.toList (blk s.data.toList kk) (acc.map fun x => x.1.data.toList) = .ok (x, blk s.data.toList k2)) := fun x k1 k2 he hx hm => keyJ_ok (by rw [HLL.out]; exact hlt3) h34 he hx hm
          clear h34
          go_wp2_with fail
          refine CN.out.mono ?_
          rintro e w1 ⟨rfl, R1, g1⟩
          have X2 := X.next hlt g1 R1
          have c4 := X2.jd.c4
          have c1 := X2.jd.c1
          have hz1 := g1.size
          have HLI1 : Hid (liesM false w1 (fun x => w.heap.size + 2 ≤ x ∧ x < wr.heap.size) (sortM acc) sb so) := liesM_keep (fun h => h) (fun b hb => g1.block b hb.2 (fun e => by have := Option.some.inj e; have := hb.1; omega)) (fun _ h => h) _ HLI.out
          clear CN X R1 g1 HLI
          generalize s[blk s.data.toList kk] = b2 at *
          go_wp2_with fail
          cases hq : quoJ s.data.toList (blk s.data.toList kk) with
          | error fl =>
            obtain ⟨fp, fe⟩ := fl
            have HE : Hid (memV RR = .error (fp, fe)) := by show _ = _; rw [HKQ.out _ hq]; rfl
            have CT1 := hmk (CT.out _ _ X2.jd)
            rw [hq] at CT1
            clear HF CG HKG HVV HVF CF CT HKQ HKT HKC HKK hq
            refine CT1.out.mono ?_
            rintro e w2 ⟨⟨kq, nq, rfl, R2, hne⟩, g2⟩
            dsimp only at R2 hne
            have X3 := X2.next hlt g2 R2
            have c4' := X3.jd.c4
            have y4 : ((fe : Int) != 0) = true := by rw [bne_iff_ne]; omega
            have HNE := hmk hne
            clear X2 R2 g2 c4 c1 CT1 hne
            obtain ⟨⟨q0, q1, q2, q3, q4, q5⟩, kf, ⟨p0, p1, p2, p3, p4, p5⟩, kf2⟩ := X3.cells
            obtain ⟨W6, e6, ⟨z0, z1, z2, z3, z4, z5⟩, R6, G6, gb⟩ := X3.done hlt (.int .i64 5) (.bool false) (.int .i64 0) (.string ⟨#[]⟩) (.slice none 0 0) (.slice sa (sortM acc).length sc)
            have HR6 := hmk R6
            have HG6 := hmk G6
            have HGB := hmk gb
            clear R6 G6 gb
            go_wp2_with fail
            (try rw [← e6])
            clear e6 q0 q1 q2 q3 q4 q5 kf p0 p1 p2 p3 p4 p5 kf2
            (try simp only [Exit.inBlock, Exit.then])
            refine bodyPost_ret (v := .agg #[.int .i64 5, .bool false, .int .i64 0, .string ⟨#[]⟩, .slice none 0 0, .slice sa (sortM acc).length sc]) ?_ rfl ?_
            · rw [results_cell1 rfl]
              go_simp
            · rw [HE.out]
              exact ⟨⟨_, _, _, _, _, _, _, _, _, _, _, _, rfl, HR6.out, HNE.out⟩, HG6.out⟩
          | ok y =>
          obtain ⟨key, k1⟩ := y
          have CT1 := hmk (CT.out _ _ X2.jd)
          rw [hq] at CT1
          have hqi := quoJ_in hq
          dsimp only at hqi
          rw [HLL.out] at hqi
          have HKT1 := hmk (HKT.out key k1 hq)
          have HKC1 : Hid (∀ e, key.data.toList ∉ keysM acc → mustJ s.data.toList (blk s.data.toList k1) 58 = .error e → RR = .error e) := fun e => HKC.out key k1 e hq
          have HKK1 : Hid (∀ k2, key.data.toList ∉ keysM acc → mustJ s.data.toList (blk s.data.toList k1) 58 = .ok k2 → keyJ s.data.toList (blk s.data.toList kk) (acc.map fun x => x.1.data.toList) = .ok (key, blk s.data.toList k2)) := fun k2 => HKK.out key k1 k2 hq
          clear CT HKQ HKT HKC HKK hq
          refine CT1.out.mono ?_
          rintro e w2 ⟨⟨rfl, R2⟩, g2⟩
          dsimp only at R2
          have X3 := X2.next hlt g2 R2
          have c4' := X3.jd.c4
          have hz2 := g2.size
          have hkm : key.size ≤ maxLen := by have := hqi.2.2; simp only [maxLen]; omega
          have CP := hmk (dput_any (sortM acc) key (fun x => w.heap.size + 2 ≤ x ∧ x < wr.heap.size) sa sc sb so (w.heap.size + 2) w2 HDD.out (liesM_keep (fun h => h) (fun b hb => g2.block b (by have := hb.2; omega) (fun e => by have := Option.some.inj e; have := hb.1; omega)) (fun _ h => h) _ HLI1.out) (fun x hx => ⟨hx.1, by have := hx.2; omega⟩) (sortM_sorted acc) (by rw [HLS.out]; omega) hkm (by have := X3.lt; omega))
          obtain ⟨_, _, ⟨_, _, _, _, _, p5⟩, _⟩ := X3.cells
          clear CT1 R2 g2 X2 c4 c1 HLI1
          go_wp2_with fail
          refine CP.out.mono ?_
          rintro e w3 ⟨b3, hput⟩
          have X4 := X3.own hlt (grown_of_below b3) (fun r e => by cases e)
          have hz3 := b3.size
          clear CP X3 p5 c4'
          rcases hput with ⟨hin, a3, n3, cc3, rfl⟩ | ⟨hni, v3, S3, rfl, o3, hv3⟩
          · have HE : Hid (memV RR = .error (blk s.data.toList kk, 34)) := by show _ = _; rw [HKT1.out (keys_sort.1 hin)]; rfl
            clear HF CG HKG HVV HVF HKT1 HKC1 HKK1 hin
            generalize blk s.data.toList kk = K2 at *
            go_wp2_with fail
            refine (CF.out _ _ _ K2 34 X4.jd).mono ?_
            rintro e w4 ⟨rfl, R4, g4⟩
            have X5 := X4.next hlt g4 R4
            have c4' := X5.jd.c4
            clear X4 R4 g4 CF b3
            obtain ⟨⟨q0, q1, q2, q3, q4, q5⟩, kf, ⟨p0, p1, p2, p3, p4, p5⟩, kf2⟩ := X5.cells
            obtain ⟨W6, e6, ⟨z0, z1, z2, z3, z4, z5⟩, R6, G6, gb⟩ := X5.done hlt (.int .i64 5) (.bool false) (.int .i64 0) (.string ⟨#[]⟩) (.slice none 0 0) (.slice sa (sortM acc).length sc)
            have HR6 := hmk R6
            have HG6 := hmk G6
            have HGB := hmk gb
            clear R6 G6 gb
            go_wp2_with fail
            (try rw [← e6])
            clear e6 q0 q1 q2 q3 q4 q5 kf p0 p1 p2 p3 p4 p5 kf2
            (try simp only [Exit.inBlock, Exit.then])
            refine bodyPost_ret (v := .agg #[.int .i64 5, .bool false, .int .i64 0, .string ⟨#[]⟩, .slice none 0 0, .slice sa (sortM acc).length sc]) ?_ rfl ?_
            · rw [results_cell1 rfl]
              go_simp
            · rw [HE.out]
              exact ⟨⟨_, _, _, _, _, _, _, _, _, _, _, _, rfl, HR6.out, by simp⟩, HG6.out⟩
          have hni2 : key.data.toList ∉ keysM acc := fun q => hni (keys_sort.2 q)
          have HNI := hmk hni2
          have HNS := hmk hni
          clear hni hni2 HKT1
          have hbk1 := blk_le (l := s.data.toList) (k := k1) (by rw [HLL.out]; exact hqi.2.1)
          rw [HLL.out] at hbk1
          by_cases hend3 : blk s.data.toList k1 = s.size
          · have CN := hmk (dnext_end g s k1 nn D 0 _ X4.jd (by omega) hqi.2.1 hend3)
            have HE : Hid (memV RR = .error (s.size, 31)) := by show _ = _; rw [HKC1.out _ HNI.out (mustJ_end (by rw [HLL.out]; omega)), hend3]; rfl
            clear HF CG HKG HVV HVF CF HKC1 HKK1 o3 hv3
            go_wp2_with fail
            refine CN.out.mono ?_
            rintro e w4 ⟨rfl, R4, g4⟩
            have X5 := X4.next hlt g4 R4
            have c4' := X5.jd.c4
            clear CN X4 R4 g4 b3
            obtain ⟨⟨q0, q1, q2, q3, q4, q5⟩, kf, ⟨p0, p1, p2, p3, p4, p5⟩, kf2⟩ := X5.cells
            obtain ⟨W6, e6, ⟨z0, z1, z2, z3, z4, z5⟩, R6, G6, gb⟩ := X5.done hlt (.int .i64 5) (.bool false) (.int .i64 0) (.string ⟨#[]⟩) (.slice none 0 0) (.slice sa (sortM acc).length sc)
            have HR6 := hmk R6
            have HG6 := hmk G6
            have HGB := hmk gb
            clear R6 G6 gb
            go_wp2_with fail
            (try rw [← e6])
            clear e6 q0 q1 q2 q3 q4 q5 kf p0 p1 p2 p3 p4 p5 kf2
            (try simp only [Exit.inBlock, Exit.then])
            refine bodyPost_ret (v := .agg #[.int .i64 5, .bool false, .int .i64 0, .string ⟨#[]⟩, .slice none 0 0, .slice sa (sortM acc).length sc]) ?_ rfl ?_
            · rw [results_cell1 rfl]
              go_simp
            · rw [HE.out]
              exact ⟨⟨_, _, _, _, _, _, _, _, _, _, _, _, rfl, HR6.out, by simp⟩, HG6.out⟩
          have hlt4 : blk s.data.toList k1 < s.size := by omega
          have CN := hmk (dnext_yes g s k1 nn D 0 0 _ X4.jd (by omega) hqi.2.1 hlt4)
          by_cases h58 : s[blk s.data.toList k1] = 58
          case neg =>
            have HE : Hid (memV RR = .error (blk s.data.toList k1, 32)) := by show _ = _; rw [HKC1.out _ HNI.out (mustJ_no (by rw [HLL.out]; exact hlt4) h58)]; rfl
            have y58 : ((s[blk s.data.toList k1].toNat : Int) != 58) = true := by rw [bne_iff_ne]; intro q; exact h58 (UInt8.toNat_inj.1 (by show s[blk s.data.toList k1].toNat = 58; omega))
            clear HF CG HKG HVV HVF h58 HKC1 HKK1 o3 hv3
            generalize s[blk s.data.toList k1] = b3' at *
            generalize blk s.data.toList k1 = K3 at *
            go_wp2_with fail
            refine CN.out.mono ?_
            rintro e w4 ⟨rfl, R4, g4⟩
            have X5 := X4.next hlt g4 R4
            have c4 := X5.jd.c4
            have c1 := X5.jd.c1
            clear CN X4 R4 g4 b3
            go_wp2_with fail
            refine (CF.out _ _ _ K3 32 X5.jd).mono ?_
            rintro e w5 ⟨rfl, R5, g5⟩
            have X6 := X5.next hlt g5 R5
            have c4' := X6.jd.c4
            clear X5 R5 g5 c4 c1 CF
            obtain ⟨⟨q0, q1, q2, q3, q4, q5⟩, kf, ⟨p0, p1, p2, p3, p4, p5⟩, kf2⟩ := X6.cells
            obtain ⟨W6, e6, ⟨z0, z1, z2, z3, z4, z5⟩, R6, G6, gb⟩ := X6.done hlt (.int .i64 5) (.bool false) (.int .i64 0) (.string ⟨#[]⟩) (.slice none 0 0) (.slice sa (sortM acc).length sc)
            have HR6 := hmk R6
            have HG6 := hmk G6
            have HGB := hmk gb
            clear R6 G6 gb
            go_wp2_with fail
            (try rw [← e6])
            clear e6 q0 q1 q2 q3 q4 q5 kf p0 p1 p2 p3 p4 p5 kf2
            (try simp only [Exit.inBlock, Exit.then])
            refine bodyPost_ret (v := .agg #[.int .i64 5, .bool false, .int .i64 0, .string ⟨#[]⟩, .slice none 0 0, .slice sa (sortM acc).length sc]) ?_ rfl ?_
            · rw [results_cell1 rfl]
              go_simp
            · rw [HE.out]
              exact ⟨⟨_, _, _, _, _, _, _, _, _, _, _, _, rfl, HR6.out, by simp⟩, HG6.out⟩
          case pos =>
          have y58 : ((s[blk s.data.toList k1].toNat : Int) != 58) = false := by rw [h58]; rfl
          have HKY := hmk (HKK1.out _ HNI.out (mustJ_yes (by rw [HLL.out]; exact hlt4) h58))
          clear h58 HKC1 HKK1
          generalize s[blk s.data.toList k1] = b4' at *
          obtain ⟨K3, hK3⟩ : ∃ K3, K3 = blk s.data.toList k1 := ⟨_, rfl⟩
          rw [← hK3] at HKY CN hlt4 hbk1
          clear hK3 hend3
          go_wp2_with fail
          refine CN.out.mono ?_
          rintro e w4 ⟨rfl, R4, g4⟩
          have X5 := X4.next hlt g4 R4
          have o4 := HKG.out _ _ _ _ _ o3 g4
          have c4 := X5.jd.c4
          have c1 := X5.jd.c1
          have f1 := X5.jd.fz 1
          have hz4 := g4.size
          clear CN X4 R4 o3
          have X6 := hmk (X5.put1 hlt (K3 + 1) ((K3 : Int) + 1) (by omega))
          have o6 := hmk (HKG.out _ _ _ _ _ o4 (grown_set1 w4 g 1 (.int .i64 ((K3 : Int) + 1))))
          have hbk3 := blk_le (l := s.data.toList) (k := K3 + 1) (by rw [HLL.out]; omega)
          rw [HLL.out] at hbk3
          have CV := hmk (HVF.out _ (o + 1) (K3 + 1) nn X6.out.jd (by omega) (by omega) hnn (by omega))
          have eo : (((o + 1 : Nat) : Int)) = (o : Int) + 1 := by omega
          rw [eo] at CV
          clear X5 o4 g4
          cases hv : valJ s.data.toList D f (o + 1) (blk s.data.toList (K3 + 1)) nn with
          | error fl =>
            obtain ⟨fp, fe⟩ := fl
            have HE : Hid (memV RR = .error (fp, fe)) := by show _ = _; rw [HF.out, memJ_val HKY.out hv]; rfl
            rw [hv] at CV
            clear hv HF CG HKG HVV HVF CF HKY hv3
            go_wp2_with fail
            refine CV.out.mono ?_
            rintro e w5 ⟨⟨a0, a1, a2, a3, xa4, xl4, xc4, xa5, xl5, xc5, kq, nq, rfl, R5, hne⟩, g5⟩
            dsimp only at R5 hne
            have X7 := X6.out.next hlt g5 R5
            clear CV R5 X6 o6
            have bA : Below w5.heap.size w5 (w5.alloc (.cells #[.int .i64 a0, .bool a1, .int .i64 a2, .string a3, .slice xa4 xl4 xc4, .slice xa5 xl5 xc5] 25)) := (Below.refl _ _).alloc (Nat.le_refl _) _
            have X8 := X7.own hlt (grown_of_below bA) (fun r e => by cases e)
            have c4' := X8.jd.c4
            have y4 : ((fe : Int) != 0) = true := by rw [bne_iff_ne]; omega
            have HNE := hmk hne
            clear X7 bA hne g5 c4 c1 f1 b3
            obtain ⟨⟨q0, q1, q2, q3, q4, q5⟩, kf, ⟨p0, p1, p2, p3, p4, p5⟩, kf2⟩ := X8.cells
            obtain ⟨W6, e6, ⟨z0, z1, z2, z3, z4, z5⟩, R6, G6, gb⟩ := X8.done hlt (.int .i64 5) (.bool false) (.int .i64 0) (.string ⟨#[]⟩) (.slice none 0 0) (.slice sa (sortM acc).length sc)
            have HR6 := hmk R6
            have HG6 := hmk G6
            have HGB := hmk gb
            clear R6 G6 gb
            go_wp2_with fail
            (try rw [← e6])
            clear e6 q0 q1 q2 q3 q4 q5 kf p0 p1 p2 p3 p4 p5 kf2
            (try simp only [Exit.inBlock, Exit.then])
            refine bodyPost_ret (v := .agg #[.int .i64 5, .bool false, .int .i64 0, .string ⟨#[]⟩, .slice none 0 0, .slice sa (sortM acc).length sc]) ?_ rfl ?_
            · rw [results_cell1 rfl]
              go_simp
            · rw [HE.out]
              exact ⟨⟨_, _, _, _, _, _, _, _, _, _, _, _, rfl, HR6.out, HNE.out⟩, HG6.out⟩
          | ok x =>
          obtain ⟨v, k5, n5⟩ := x
          have hle := (allJ_le s.data.toList D f).1 _ _ _ _ hnn hv
          dsimp only at hle
          rw [HLL.out] at hle
          have hbm := blk_le (l := s.data.toList) (k := k5) (by rw [HLL.out]; exact hle.2.1)
          rw [HLL.out] at hbm
          have HG : Hid (∀ fl, morJ s.data.toList k5 125 = .error fl → RR = .error fl) := fun fl hg => by rw [HF.out, memJ_goes HKY.out hv (e := fl) (by dsimp only; rw [goes_mor, hg])]
          have HO : Hid (∀ y, morJ s.data.toList k5 125 = .ok y → RR = memJ s.data.toList D f (o + 1) y.1 (if y.1 = true then blk s.data.toList y.2 else y.2) n5 (acc ++ [(key, v)])) := fun y hg => by rw [HF.out, memJ_on HKY.out hv (y := (y.1, if y.1 = true then blk s.data.toList y.2 else y.2)) (by dsimp only; rw [goes_mor, hg])]
          rw [hv] at CV
          clear hv HF HKY HVV HVF CF
          go_wp2_with fail
          refine CV.out.mono ?_
          rintro e w5 ⟨⟨cs, rfl, hl, R5⟩, g5⟩
          dsimp only at hl R5
          clear CV
          have HLV := hmk hl
          obtain ⟨vk, vb, vi, vs, vl, vm⟩ := v
          rw [V.lies] at hl
          obtain ⟨al, cl, bl, ol, am, cm, bm, om, rfl, _⟩ := hl
          have X7 := X6.out.next hlt g5 R5
          have o7 := HKG.out _ _ _ _ _ o6.out g5
          have hz5 := g5.size
          have bA : Below w5.heap.size w5 (w5.alloc (.cells #[.int .i64 vk, .bool vb, .int .i64 vi, .string vs, .slice al vl.length cl, .slice am vm.length cm] 25)) := (Below.refl _ _).alloc (Nat.le_refl _) _
          have X8 := X7.own hlt (grown_of_below bA) (fun r e => by cases e)
          have o8 := o7.alloc (keepM false) (.cells #[.int .i64 vk, .bool vb, .int .i64 vi, .string vs, .slice al vl.length cl, .slice am vm.length cm] 25)
          have c4' := X8.jd.c4
          have hbx := heap_alloc_new w5 (.cells #[.int .i64 vk, .bool vb, .int .i64 vi, .string vs, .slice al vl.length cl, .slice am vm.length cm] 25)
          have za := alloc_size w5 (.cells #[.int .i64 vk, .bool vb, .int .i64 vi, .string vs, .slice al vl.length cl, .slice am vm.length cm] 25)
          have HLX : Hid (V.lies false (w5.alloc (.cells #[.int .i64 vk, .bool vb, .int .i64 vi, .string vs, .slice al vl.length cl, .slice am vm.length cm] 25)) (New (w4.setCell ⟨g, 1, none⟩ (.int .i64 ((K3 : Int) + 1))) w5) (V.mk vk vb vi vs vl vm) [.int .i64 vk, .bool vb, .int .i64 vi, .string vs, .slice al vl.length cl, .slice am vm.length cm]) := V.lies_keep (fun h => h) (fun b hb => bA.block b hb.2) (fun _ h => h) _ HLV.out
          obtain ⟨L, hL⟩ : ∃ L, L = insM (key, nulV) (sortM acc) := ⟨_, rfl⟩
          rw [← hL] at o8
          have hLlen : L.length = acc.length + 1 := by rw [hL, (insM_perm _ _).length_eq, List.length_cons, HLS.out]
          have HLF : Hid (L.map (setK key (V.mk vk vb vi vs vl vm)) = sortM (acc ++ [(key, V.mk vk vb vi vs vl vm)])) := by
            show _ = _
            rw [hL, set_ins HNS.out]
            refine ins_sort ?_
            rw [List.map_append, List.map_cons, List.map_nil]
            exact List.nodup_append.2 ⟨HND.out, by simp, fun a ha b hb => by
              rw [List.mem_singleton] at hb
              subst hb
              intro e
              subst e
              exact HNI.out ha⟩
          have HND2 : Hid ((keysM (acc ++ [(key, V.mk vk vb vi vs vl vm)])).Nodup) := by
            show List.Nodup _
            rw [keysM, List.map_append, List.map_cons, List.map_nil]
            exact List.nodup_append.2 ⟨HND.out, by simp, fun a ha b hb => by
              rw [List.mem_singleton] at hb
              subst hb
              intro e
              subst e
              exact HNI.out ha⟩
          have hsc : (w4.setCell ⟨g, 1, none⟩ (.int .i64 ((K3 : Int) + 1))).heap.size = w4.heap.size := by simp
          obtain ⟨g3, cp3, rfl⟩ : ∃ g3 cp3, v3 = .slice (some ⟨g3, 0, none⟩) L.length cp3 := by
            obtain ⟨⟨xs, h1, _⟩, _⟩ := o8
            rcases h1.2 with ⟨_, e⟩ | ⟨g3, cp3, cur, e, _⟩
            · rw [List.length_map] at e; omega
            · exact ⟨g3, cp3, by rw [e, List.length_map]⟩
          have hg3 : w2.heap.size ≤ g3 := hv3 g3 rfl
          have hg3w : g3 < w4.heap.size := by rw [← hsc]; exact (o6.out.lt rfl).2
          have hNg : Hid (∀ b, New (w4.setCell ⟨g, 1, none⟩ (.int .i64 ((K3 : Int) + 1))) w5 b → w.heap.size + 2 ≤ b ∧ b < w5.heap.size ∧ b ≠ g3) := fun b hb => ⟨by have := hb.1; rw [hsc] at this; omega, hb.2, by have := hb.1; rw [hsc] at this; omega⟩
          have hLb : L.length ≤ 100000001 := by omega
          clear hLlen hL HLV X7 o7 X6 o6 c4 c1 f1 g5 R5 hv3 bA b3 HNS HNI HND
          go_wp2_with fail
          generalize hw8 : (w5.alloc (.cells #[.int .i64 vk, .bool vb, .int .i64 vi, .string vs, .slice al vl.length cl, .slice am vm.length cm] 25)) = w8 at *
          clear hw8
          go_loopw [15] (fun e15 wi => ∃ (i : Nat) (Si : Nat → Prop), i ≤ L.length ∧ e15 = .int .i64 (i : Int) ∧ w8.grownBy wi (some g3) ∧ OwnM false wi (w.heap.size + 2) Si (.slice (some ⟨g3, 0, none⟩) L.length cp3) ((upM key (V.mk vk vb vi vs vl vm) L i).map some)) (fun e15 _ => L.length - (RowKit.intOf e15).toNat)
          case atStart => exact ⟨0, _, Nat.zero_le _, rfl, World.grownBy.refl _ _, by rw [upM_zero]; exact o8⟩
          case round =>
            obtain ⟨i, Si, hi, rfl, gi, oi⟩ := hrel
            have hzi := gi.size
            by_cases hil : i < L.length
            · have y1 : (i : Int) < L.length := by omega
              have hul : i < (upM key (V.mk vk vb vi vs vl vm) L i).length := by rw [upM_len hi]; exact hil
              obtain ⟨csr, hr1, hr2⟩ := oi.at (by simp [upM_len hi]) i (by simpa using hul)
              rw [List.getElem_map, upM_at hil] at hr2
              obtain ⟨cs', rfl, hks, hlv⟩ := hr2
              obtain ⟨ek, eb, ei, es, eal, enl, ecl, eam, enm, ecm, rfl⟩ := V.ten hlv
              obtain ⟨r, r0, r1, r2, r3, r4, r5⟩ := row7 hr1
              simp only [Nat.zero_add] at r r0 r1 r2 r3 r4 r5
              cases hE : ((L[i]).1.toList == key.toList)
              · have HUN : Hid (upM key (V.mk vk vb vi vs vl vm) L (i + 1) = upM key (V.mk vk vb vi vs vl vm) L i) := upM_no hil (fun e => by rw [← toList_data, ← toList_data] at e; rw [e] at hE; simp at hE)
                clear hlv hr1
                go_wp2_with fail
                go_roundw
                case rel => exact ⟨i + 1, Si, by omega, by go_num, gi, by rw [HUN.out]; exact oi⟩
                case measure => simp [RowKit.intOf]; omega
              · have HUY : Hid (upM key (V.mk vk vb vi vs vl vm) L (i + 1) = (upM key (V.mk vk vb vi vs vl vm) L i).set i (((upM key (V.mk vk vb vi vs vl vm) L i)[i]'hul).1, V.mk vk vb vi vs vl vm)) := by show _ = _; rw [upM_at hil]; exact upM_yes hil (by rw [← toList_data, ← toList_data]; simpa using hE)
                have hbi := (gi.block w5.heap.size (by omega) (fun e => by have := Option.some.inj e; omega)).trans hbx
                have a0 := cell_of_block hbi 0
                have a1 := cell_of_block hbi 1
                have a2 := cell_of_block hbi 2
                have a3 := cell_of_block hbi 3
                have a4 := cell_of_block hbi 4
                have a5 := cell_of_block hbi 5
                simp only [List.getElem?_toArray, List.getElem?_cons_zero, List.getElem?_cons_succ] at a0 a1 a2 a3 a4 a5
                have kfr : ∀ j, wr.frozen? ⟨g3, j, none⟩ = false := by
                  obtain ⟨⟨xs, h1, _⟩, _⟩ := oi
                  rcases h1.2 with ⟨e, _⟩ | ⟨g3', cp3', cur, e, _, hblk, _⟩
                  · cases e
                  · injection e with e1 e2 e3
                    injection e1 with e1
                    injection e1 with e1
                    subst e1
                    exact frozen_of_block hblk
                obtain ⟨W6, hW6⟩ : ∃ W6, W6 = ((((((wr.setCell ⟨g3, i * 7 + 1, none⟩ (.int .i64 vk)).setCell ⟨g3, i * 7 + 1 + 1, none⟩ (.bool vb)).setCell ⟨g3, i * 7 + 1 + 2, none⟩ (.int .i64 vi)).setCell ⟨g3, i * 7 + 1 + 3, none⟩ (.string vs)).setCell ⟨g3, i * 7 + 1 + 4, none⟩ (.slice al vl.length cl)).setCell ⟨g3, i * 7 + 1 + 5, none⟩ (.slice am vm.length cm)) := ⟨_, rfl⟩
                obtain ⟨o9, g9⟩ := own_setM oi hul (V.lies_keep (S := New (w4.setCell ⟨g, 1, none⟩ (.int .i64 ((K3 : Int) + 1))) w5) (fun h => h) (fun b hb => gi.block b (by have := (hNg.out b hb).2.1; omega) (fun e => (hNg.out b hb).2.2 (Option.some.inj e))) (fun _ h => h) _ HLX.out) (fun b hb => ⟨(hNg.out b hb).1, by have := (hNg.out b hb).2.1; omega, (hNg.out b hb).2.2⟩) hW6
                rw [← HUY.out] at o9
                have O9 := hmk o9
                have G9 := hmk (grown_trans gi g9)
                clear hlv hr1 o9 g9 hbi
                go_wp2_with fail
                first | rw [← hW6] | (rw [hW6] at O9 G9)
                go_roundw
                case rel => exact ⟨i + 1, _, by omega, by go_num, G9.out, O9.out⟩
                case measure => simp [RowKit.intOf]; omega
            · obtain rfl : i = L.length := by omega
              have y1 : ¬ (L.length : Int) < L.length := by omega
              have X9 := X8.own hlt gi (fun r e => by cases e; omega)
              rw [upM_all, HLF.out] at oi
              obtain ⟨_, _, ⟨_, _, _, _, _, p5⟩, kf3⟩ := X9.cells
              have X10 := hmk (X9.set hlt 5 (.slice (some ⟨g3, 0, none⟩) L.length cp3) rfl)
              have o10 := hmk (OwnR.keep (keepM false) oi (grown_set1 wr (w.heap.size + 1) 5 (.slice (some ⟨g3, 0, none⟩) L.length cp3)) (fun r e => by
                cases e
                exact ⟨fun hS => by have := (oi.off _ hS).1; omega, fun e => by have := (oi.lt e).1; omega⟩))
              have CGG := hmk (CG.out _ k5 n5 X10.out.jd hle.2.1)
              clear X9 oi X8 o8 hbx
              cases hgo : morJ s.data.toList k5 125 with
              | error fl =>
                obtain ⟨fp, fe⟩ := fl
                have HE := hmk (HG.out _ hgo)
                rw [hgo] at CGG
                clear HG HO hgo
                go_wp2_with fail
                refine CGG.out.mono ?_
                rintro e w6 ⟨⟨kq, nq, rfl, R6, hne⟩, g6⟩
                dsimp only at R6 hne
                clear CGG
                have o7 := HKG.out _ _ _ _ _ o10.out g6
                have X7 := X10.out.next hlt g6 R6
                go_wp2_with fail
                go_roundg f
                case measure => omega
                case rel => exact ⟨acc ++ [(key, V.mk vk vb vi vs vl vm)], false, kq, nq, fe, fp, _, _, rfl, by omega, X7, o7, HND2, .inr ⟨rfl, hne, HE⟩⟩
              | ok y =>
                obtain ⟨m2, k2⟩ := y
                have HN := hmk (HO.out _ hgo)
                have hgl := morJ_le hgo
                rw [HLL.out] at hgl
                rw [hgo] at CGG
                clear HG HO hgo
                go_wp2_with fail
                refine CGG.out.mono ?_
                rintro e w6 ⟨⟨rfl, R6⟩, g6⟩
                dsimp only at R6
                clear CGG
                have o7 := HKG.out _ _ _ _ _ o10.out g6
                have X7 := X10.out.next hlt g6 R6
                go_wp2_with fail
                go_roundg f
                case measure => omega
                case rel => exact ⟨acc ++ [(key, V.mk vk vb vi vs vl vm)], m2, k2, n5, 0, 0, _, _, rfl, by omega, X7, o7, HND2, .inl ⟨rfl, rfl, hgl.2, hle.2.2, by rw [List.length_append]; simp only [List.length_cons, List.length_nil]; omega, by omega, HN⟩⟩
end Go.Proofs.YtpmhdcmmlkjjmaaGreatDoor
