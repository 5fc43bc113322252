import Derived.Test.YtpmhdcmmlkjjmaaGreatDoorJdG
/- the document's list: the walk. -/
set_option linter.unusedSimpArgs false
set_option linter.unusedVariables false
set_option maxRecDepth 100000
namespace Go.Proofs.YtpmhdcmmlkjjmaaGreatDoor
open Go.RowKit Go.Lib
def New2 (w w' : World) (x : Nat) : Prop := w.heap.size + 1 ≤ x ∧ x < w'.heap.size
theorem morJ_le {l : List UInt8} {k : Nat} {c : UInt8} {y : Bool × Nat} (h : morJ l k c = .ok y) : blk l k < y.2 ∧ y.2 ≤ l.length := by
  rcases Nat.lt_or_ge (blk l k) l.length with q | q
  · by_cases e : l[blk l k] = 44
    · rw [morJ_comma q e] at h; cases h; exact ⟨Nat.lt_succ_self _, q⟩
    · by_cases e2 : l[blk l k] = c
      · rw [morJ_close q e e2] at h; cases h; exact ⟨Nat.lt_succ_self _, q⟩
      · rw [morJ_byte q e e2] at h; cases h
  · rw [morJ_end q] at h; cases h
theorem lies_list2 {w wr W6 : World} {xs : List V} {sa : Option Addr} {sc sb so : Nat} (hd : Headed sa xs.length sc sb so) (hl : liesL false wr (New2 w wr) xs sb so) (gb : wr.grownBy W6 (some w.heap.size)) : V.lies false W6 (New w W6) (.mk 4 false 0 ⟨#[]⟩ xs []) [.int .i64 4, .bool false, .int .i64 0, .string ⟨#[]⟩, .slice sa xs.length sc, .slice none 0 0] := by
  have hk : ∀ b, New2 w wr b → W6.heap[b]? = wr.heap[b]? := fun b hb => gb.block b hb.2 (fun e => by have := Option.some.inj e; have := hb.1; omega)
  have hS : ∀ b, New2 w wr b → New w W6 b := fun b hb => ⟨by have := hb.1; omega, Nat.lt_of_lt_of_le hb.2 gb.size⟩
  rw [V.lies]
  exact ⟨sa, sc, sb, so, none, 0, 0, 0, rfl, ⟨by omega, by omega⟩, In64.zero, by simp [maxLen, ByteArray.size], hd, headed_nil, liesL_mk fun j hj => (fun (q : _ ∧ _) => ⟨hS _ q.1, q.2.elim fun cs r => ⟨cs, fun i u hu => (World.cell?_of_block (hk _ q.1)).trans (r.1 i u hu), V.lies_keep (fun h => h) hk hS _ r.2⟩⟩) (liesL_get hl j hj), by rw [liesM]; trivial, fun h => by cases h⟩
theorem lies_map2 {w wr W6 : World} {xs : List Mem} {sa : Option Addr} {sc sb so : Nat} (hd : Headed sa xs.length sc sb so) (hl : liesM false wr (New2 w wr) xs sb so) (gb : wr.grownBy W6 (some w.heap.size)) : V.lies false W6 (New w W6) (.mk 5 false 0 ⟨#[]⟩ [] xs) [.int .i64 5, .bool false, .int .i64 0, .string ⟨#[]⟩, .slice none 0 0, .slice sa xs.length sc] := by
  have hk : ∀ b, New2 w wr b → W6.heap[b]? = wr.heap[b]? := fun b hb => gb.block b hb.2 (fun e => by have := Option.some.inj e; have := hb.1; omega)
  have hS : ∀ b, New2 w wr b → New w W6 b := fun b hb => ⟨by have := hb.1; omega, Nat.lt_of_lt_of_le hb.2 gb.size⟩
  rw [V.lies]
  exact ⟨none, 0, 0, 0, sa, sc, sb, so, rfl, ⟨by omega, by omega⟩, In64.zero, by simp [maxLen, ByteArray.size], headed_nil, hd, by rw [liesL]; trivial, liesM_mk fun j hj => (fun (q : _ ∧ _) => ⟨hS _ q.1, q.2.1, q.2.2.elim fun cs r => ⟨cs, fun i u hu => (World.cell?_of_block (hk _ q.1)).trans (r.1 i u hu), V.lies_keep (fun h => h) hk hS _ r.2⟩⟩) (liesM_get hl j hj), fun h => by cases h⟩
theorem lies_nilL (w : World) (S : Nat → Prop) : V.lies false w S (.mk 4 false 0 ⟨#[]⟩ [] []) [.int .i64 4, .bool false, .int .i64 0, .string ⟨#[]⟩, .slice none 0 0, .slice none 0 0] := lies_sca ⟨by omega, by omega⟩ In64.zero (by simp [maxLen, ByteArray.size]) w S
theorem dx_two (w : World) (g : Nat) (s : ByteArray) (D k n : Nat) (c : Array Value) (h : JD g s k n D 0 0 w) : Dx w g s D k n 0 0 c ((w.alloc z46).alloc (.cells c 25)) := by
  have bA : Below w.heap.size w ((w.alloc z46).alloc (.cells c 25)) := ((Below.refl _ _).alloc (Nat.le_refl _) _).alloc (by rw [alloc_size]; omega) _
  exact ⟨by rw [Below.heap_alloc _ _ _ (by rw [alloc_size]; omega)]; exact heap_alloc_new w _, alloc2_new w _ _, h.keep bA, grown_belowS bA g⟩
theorem dx_three (w w0 : World) (g : Nat) (s : ByteArray) (D k n : Nat) (c : Array Value) (h : JD g s k n D 0 0 w0) (gr : w.grownBy w0 (some g)) (hz : w0.heap.size = w.heap.size) : Dx w g s D k n 0 0 c ((w0.alloc z46).alloc (.cells c 25)) := by
  have X := dx_two w0 g s D k n c h
  exact ⟨by rw [← hz]; exact X.b4, by rw [← hz]; exact X.b5, X.jd, grown_trans gr X.gr⟩
theorem Dx.put1 {w W : World} {g D k n e bd : Nat} {s : ByteArray} {c : Array Value} (h : Dx w g s D k n e bd c W) (hg : g < w.heap.size) (m : Nat) (z : Int) (hz : z = m) : Dx w g s D m n e bd c (W.setCell ⟨g, 1, none⟩ (.int .i64 z)) :=
  h.next hg (grown_set1 W g 1 _) (h.jd.put m z hz)
set_option maxHeartbeats 16000000 in
theorem dlist_any (g : Nat) (s : ByteArray) (D F0 : Nat) (HV : ∀ f, f < F0 → ValD g s D f) (o k n : Nat) (w : World) (h : JD g s k n D 0 0 w) (hs : s.size ≤ 100000000) (hk : k < s.size) (hF : 2 * (s.size - k) ≤ F0) (hn : n ≤ 65536) (ho : o ≤ D) (hD : D ≤ 1000) :
    Calls Tryz.prog 53 #[.pointer (some ⟨g, 0, none⟩), .int .i64 (o : Int)] w (DvP (lisV (lisJ s.data.toList D F0 (o + 1) (begunJ s.data.toList k 93).1 (begunJ s.data.toList k 93).2 n [])) g s D w) := by
  have hll : s.data.toList.length = s.size := by simp
  have HLL := hmk hll
  have hlt := h.lt
  have hbl := blk_le (l := s.data.toList) (k := k + 1) (by rw [hll]; omega)
  rw [hll] at hbl
  have X0 := dx_two w g s D k n #[.int .i64 4, .bool false, .int .i64 0, .string ⟨#[]⟩, .slice none 0 0, .slice none 0 0] h
  have c1 := X0.jd.c1
  have f1 := X0.jd.fz 1
  have X1 := hmk (dx_three w (w.setCell ⟨g, 1, none⟩ (.int .i64 ((k : Int) + 1))) g s D (k + 1) n #[.int .i64 4, .bool false, .int .i64 0, .string ⟨#[]⟩, .slice none 0 0, .slice none 0 0] (h.put (k + 1) _ (by omega)) (grown_set1 w g 1 _) (by simp))
  clear X0 h
  by_cases hend : blk s.data.toList (k + 1) = s.size
  · have CN := hmk (dnext_end g s (k + 1) n D 0 _ X1.out.jd (by omega) (by omega) hend)
    have HE : Hid (lisV (lisJ s.data.toList D F0 (o + 1) (begunJ s.data.toList k 93).1 (begunJ s.data.toList k 93).2 n []) = .error (s.size, 31)) := by
      show _ = _
      obtain ⟨f, rfl⟩ : ∃ f, F0 = f + 1 + 1 := ⟨F0 - 2, by omega⟩
      rw [begunJ_end (by rw [hll]; omega)]
      dsimp only
      rw [lisJ_val (valJ_end (by rw [hll]; omega)), hend]
      rfl
    clear HV
    go_enter Tryz.func53, Tryz.ntmps53
    go_wp2_with fail
    refine CN.out.mono ?_
    rintro e w1 ⟨rfl, R1, g1⟩
    have X2 := X1.out.next hlt g1 R1
    have c4 := X2.jd.c4
    clear CN X1 c1 f1 R1 g1
    obtain ⟨⟨q0, q1, q2, q3, q4, q5⟩, kf, ⟨p0, p1, p2, p3, p4, p5⟩, kf2⟩ := X2.cells
    obtain ⟨W6, e6, ⟨z0, z1, z2, z3, z4, z5⟩, R6, G6, gb⟩ := X2.done hlt (.int .i64 4) (.bool false) (.int .i64 0) (.string ⟨#[]⟩) (.slice none 0 0) (.slice none 0 0)
    have HR6 := hmk R6
    have HG6 := hmk G6
    have HGB := hmk gb
    clear R6 G6 gb
    go_wp2_with fail
    (try rw [← e6])
    clear e6 q0 q1 q2 q3 q4 q5 kf p0 p1 p2 p3 p4 p5 kf2
    (try simp only [Exit.inBlock, Exit.then])
    refine bodyPost_ret (v := .agg #[.int .i64 4, .bool false, .int .i64 0, .string ⟨#[]⟩, .slice none 0 0, .slice none 0 0]) ?_ rfl ?_
    · rw [results_cell1 rfl]
      go_simp
    · rw [HE.out]
      exact ⟨⟨_, _, _, _, _, _, _, _, _, _, _, _, rfl, HR6.out, by simp⟩, HG6.out⟩
  · have hlt2 : blk s.data.toList (k + 1) < s.size := by omega
    have CN := hmk (dnext_yes g s (k + 1) n D 0 0 _ X1.out.jd (by omega) (by omega) hlt2)
    have HB1 := hmk (@begunJ_close s.data.toList k 93 (by rw [hll]; exact hlt2))
    have HB2 := hmk (@begunJ_open s.data.toList k 93 (by rw [hll]; exact hlt2))
    have eg : s.data.toList[blk s.data.toList (k + 1)]'(by rw [hll]; exact hlt2) = s[blk s.data.toList (k + 1)] := rfl
    rw [eg] at HB1 HB2
    clear eg
    have HBA : Hid (blk s.data.toList (blk s.data.toList (k + 1)) = blk s.data.toList (k + 1)) := blk_again (by rw [hll]; omega)
    generalize s[blk s.data.toList (k + 1)] = b at *
    generalize blk s.data.toList (k + 1) = K at *
    by_cases hb : b = 93
    · have HE : Hid (lisV (lisJ s.data.toList D F0 (o + 1) (begunJ s.data.toList k 93).1 (begunJ s.data.toList k 93).2 n []) = .ok (.mk 4 false 0 ⟨#[]⟩ [] [], K + 1, n)) := by
        show _ = _
        obtain ⟨f, rfl⟩ : ∃ f, F0 = f + 1 := ⟨F0 - 1, by omega⟩
        rw [HB1.out hb]
        dsimp only
        rw [lisJ_end]
        rfl
      have y1 : ((b.toNat : Int) == 93) = true := by rw [hb]; rfl
      clear HV HB1 HB2 hb
      go_enter Tryz.func53, Tryz.ntmps53
      go_wp2_with fail
      refine CN.out.mono ?_
      rintro e w1 ⟨rfl, R1, g1⟩
      have X2 := X1.out.next hlt g1 R1
      have c4 := X2.jd.c4
      have c1' := X2.jd.c1
      have f1' := X2.jd.fz 1
      clear CN X1 c1 f1 R1 g1
      have X3 := X2.put1 hlt (K + 1) ((K : Int) + 1) (by omega)
      clear X2
      obtain ⟨⟨q0, q1, q2, q3, q4, q5⟩, kf, ⟨p0, p1, p2, p3, p4, p5⟩, kf2⟩ := X3.cells
      obtain ⟨W6, e6, ⟨z0, z1, z2, z3, z4, z5⟩, R6, G6, gb⟩ := X3.done hlt (.int .i64 4) (.bool false) (.int .i64 0) (.string ⟨#[]⟩) (.slice none 0 0) (.slice none 0 0)
      have HR6 := hmk R6
      have HG6 := hmk G6
      have HGB := hmk gb
      clear R6 G6 gb
      go_wp2_with fail
      (try rw [← e6])
      clear e6 q0 q1 q2 q3 q4 q5 kf p0 p1 p2 p3 p4 p5 kf2
      (try simp only [Exit.inBlock, Exit.then])
      refine bodyPost_ret (v := .agg #[.int .i64 4, .bool false, .int .i64 0, .string ⟨#[]⟩, .slice none 0 0, .slice none 0 0]) ?_ rfl ?_
      · rw [results_cell1 rfl]
        go_simp
      · rw [HE.out]
        exact ⟨⟨_, rfl, lies_nilL _ _, HR6.out⟩, HG6.out⟩
    · have HB3 := hmk (HB2.out hb)
      have y1 : ((b.toNat : Int) == 93) = false := by rw [beq_eq_false_iff_ne]; intro q; exact hb (UInt8.toNat_inj.1 (by show b.toNat = 93; omega))
      rw [HB3.out]
      clear HB1 HB2 hb HB3
      dsimp only
      have CG : Hid (∀ (W : World) (k n : Nat), JD g s k n D 0 0 W → k ≤ s.size → Calls Tryz.prog 74 #[.pointer (some ⟨g, 0, none⟩), .int .u8 93] W (DP (.bool false) (morJ s.data.toList k 93) (fun x e w' => e = .returned (.bool x.1) ∧ JD g s x.2 n D 0 0 w') g s D W)) := fun W k n hW hk => dmore_any g s k n D 0 93 W hW (by omega) hk
      obtain ⟨i1, hi1, hy0, hy1, hy2⟩ := info_parts info25
      have hJ : Hid (Tryz.prog.info? 25 = some i1 ∧ i1.zero = some (.agg #[.int .i64 0, .bool false, .int .i64 0, .string ⟨#[]⟩, .slice none 0 0, .slice none 0 0]) ∧ i1.size = 6 ∧ i1.bytes = 88) := ⟨hi1, hy0, hy1, hy2⟩
      have HKG : Hid (∀ (W W' : World) (S : Nat → Prop) (v : Value) (l : List (Option V)), OwnL false W (w.heap.size + 2) S v l → W.grownBy W' (some g) → OwnL false W' (w.heap.size + 2) S v l) := fun W W' S v l o gr => o.keep (keepL false) gr (fun r e => by
        cases e
        exact ⟨fun hS => by have := (o.off g hS).1; omega, fun e => by have := (o.lt e).1; omega⟩)
      have HVV := hmk HV
      clear hi1 hy0 hy1 hy2 HV
      obtain ⟨RR, HRR⟩ : ∃ RR, Hid (lisJ s.data.toList D F0 (o + 1) true K n [] = RR) := ⟨_, hmk rfl⟩
      rw [HRR.out]
      go_enter Tryz.func53, Tryz.ntmps53
      go_wp2_with fail
      refine CN.out.mono ?_
      rintro e w1 ⟨rfl, R1, g1⟩
      have X2 := X1.out.next hlt g1 R1
      have c4 := X2.jd.c4
      clear CN X1 c1 f1 R1 g1
      go_wp2_with fail
      go_loopg [7] F0 (fun F e7 wr => ∃ (acc : List V) (more : Bool) (kk nn ee bd : Nat) (u : Value) (S : Nat → Prop), e7 = .bool more ∧ F ≤ F0 ∧ Dx w g s D kk nn ee bd #[.int .i64 4, .bool false, .int .i64 0, .string ⟨#[]⟩, u, .slice none 0 0] wr ∧ OwnL false wr (w.heap.size + 2) S u (acc.map some) ∧ ((ee = 0 ∧ bd = 0 ∧ kk ≤ s.size ∧ nn ≤ 65536 ∧ acc.length ≤ kk ∧ 2 * (s.size - kk) + 2 ≤ F ∧ Hid (RR = lisJ s.data.toList D F (o + 1) more (if more = true then blk s.data.toList kk else kk) nn acc)) ∨ (more = false ∧ ee ≠ 0 ∧ Hid (RR = .error (bd, ee)))))
      case atStart => exact ⟨[], true, K, n, 0, 0, _, _, rfl, Nat.le_refl _, X2, OwnR.nil _ _, .inl ⟨rfl, rfl, by omega, hn, Nat.zero_le _, by omega, by rw [if_pos rfl, HBA.out]; exact hmk HRR.out.symm⟩⟩
      case round =>
        clear X2 c4
        obtain ⟨acc, more, kk, nn, ee, bd, u, S, rfl, hF2, X, oj, hst⟩ := hrel
        cases more with
        | false =>
          obtain ⟨sa, sc, sb, so, hu, hd, hls⟩ := own_listL0 (T := New2 w wr) oj (fun b hb => ⟨by have := (oj.off b hb).1; omega, (oj.off b hb).2.1⟩) (fun g hg => ⟨by have := (oj.lt hg).1; omega, (oj.lt hg).2⟩)
          subst hu
          have HD := hmk hd
          have HL := hmk hls
          have hwlt := X.lt
          clear hd hls oj CG HKG HVV
          rcases hst with ⟨rfl, rfl, hkk, hnn, hac, hF1, HF⟩ | ⟨_, hee, HF⟩
          · have HE : Hid (lisV RR = .ok (.mk 4 false 0 ⟨#[]⟩ acc [], kk, nn)) := by
              show _ = _
              obtain ⟨f, rfl⟩ : ∃ f, gk = f + 1 := ⟨gk - 1, by omega⟩
              rw [HF.out, lisJ_end]
              rfl
            clear HF
            have XX := hmk X
            obtain ⟨⟨q0, q1, q2, q3, q4, q5⟩, kf, ⟨p0, p1, p2, p3, p4, p5⟩, kf2⟩ := X.cells
            obtain ⟨W6, e6, ⟨z0, z1, z2, z3, z4, z5⟩, R6, G6, gb⟩ := X.done hlt (.int .i64 4) (.bool false) (.int .i64 0) (.string ⟨#[]⟩) (.slice sa acc.length sc) (.slice none 0 0)
            have HR6 := hmk R6
            have HG6 := hmk G6
            have HGB := hmk gb
            clear R6 G6 gb
            go_wp2_with fail
            (try rw [← e6])
            clear e6 q0 q1 q2 q3 q4 q5 kf p0 p1 p2 p3 p4 p5 kf2
            (try simp only [Exit.inBlock, Exit.then])
            refine bodyPost_ret (v := .agg #[.int .i64 4, .bool false, .int .i64 0, .string ⟨#[]⟩, .slice sa acc.length sc, .slice none 0 0]) ?_ rfl ?_
            · rw [results_cell1 rfl]
              go_simp
            · rw [HE.out]
              exact ⟨⟨_, rfl, lies_list2 HD.out HL.out HGB.out, HR6.out⟩, HG6.out⟩
          · have HE : Hid (lisV RR = .error (bd, ee)) := by
              show _ = _
              rw [HF.out]
              rfl
            have HEE := hmk hee
            clear HF hee
            obtain ⟨⟨q0, q1, q2, q3, q4, q5⟩, kf, ⟨p0, p1, p2, p3, p4, p5⟩, kf2⟩ := X.cells
            obtain ⟨W6, e6, ⟨z0, z1, z2, z3, z4, z5⟩, R6, G6, gb⟩ := X.done hlt (.int .i64 4) (.bool false) (.int .i64 0) (.string ⟨#[]⟩) (.slice sa acc.length sc) (.slice none 0 0)
            have HR6 := hmk R6
            have HG6 := hmk G6
            have HGB := hmk gb
            clear R6 G6 gb
            go_wp2_with fail
            (try rw [← e6])
            clear e6 q0 q1 q2 q3 q4 q5 kf p0 p1 p2 p3 p4 p5 kf2
            (try simp only [Exit.inBlock, Exit.then])
            refine bodyPost_ret (v := .agg #[.int .i64 4, .bool false, .int .i64 0, .string ⟨#[]⟩, .slice sa acc.length sc, .slice none 0 0]) ?_ rfl ?_
            · rw [results_cell1 rfl]
              go_simp
            · rw [HE.out]
              exact ⟨⟨_, _, _, _, _, _, _, _, _, _, _, _, rfl, HR6.out, HEE.out⟩, HG6.out⟩
        | true =>
          obtain ⟨rfl, rfl, hkk, hnn, hac, hF1, HF⟩ := hst.resolve_right (fun q => by cases q.1)
          rw [if_pos rfl] at HF
          obtain ⟨f, rfl⟩ : ∃ f, gk = f + 1 := ⟨gk - 1, by omega⟩
          have hbk := blk_le (l := s.data.toList) (k := kk) (by rw [HLL.out]; exact hkk)
          rw [HLL.out] at hbk
          have CV := hmk ((HVV.out f (by omega)) wr (o + 1) kk nn X.jd hkk (by omega) hnn (by omega))
          have eo : (((o + 1 : Nat) : Int)) = (o : Int) + 1 := by omega
          rw [eo] at CV
          cases hv : valJ s.data.toList D f (o + 1) (blk s.data.toList kk) nn with
          | error fl =>
            obtain ⟨fp, fe⟩ := fl
            have HE : Hid (lisV RR = .error (fp, fe)) := by show _ = _; rw [HF.out, lisJ_val hv]; rfl
            rw [hv] at CV
            obtain ⟨sa, sc, sb, so, hu, _, _⟩ := own_listL0 (T := fun _ => True) oj (fun b hb => trivial) (fun g hg => trivial)
            subst hu
            clear hv HF CG HKG HVV oj
            go_wp2_with fail
            refine CV.out.mono ?_
            rintro e w1 ⟨⟨a0, a1, a2, a3, xa4, xl4, xc4, xa5, xl5, xc5, kq, nq, rfl, R1, hne⟩, g1⟩
            dsimp only at R1 hne
            have X1 := X.next hlt g1 R1
            clear CV R1 X
            have bA : Below w1.heap.size w1 (w1.alloc (.cells #[.int .i64 a0, .bool a1, .int .i64 a2, .string a3, .slice xa4 xl4 xc4, .slice xa5 xl5 xc5] 25)) := (Below.refl _ _).alloc (Nat.le_refl _) _
            have X2 := X1.own hlt (grown_of_below bA) (fun r e => by cases e)
            have c4 := X2.jd.c4
            have y4 : ((fe : Int) != 0) = true := by rw [bne_iff_ne]; omega
            have HNE := hmk hne
            clear X1 bA hne g1
            obtain ⟨⟨q0, q1, q2, q3, q4, q5⟩, kf, ⟨p0, p1, p2, p3, p4, p5⟩, kf2⟩ := X2.cells
            obtain ⟨W6, e6, ⟨z0, z1, z2, z3, z4, z5⟩, R6, G6, gb⟩ := X2.done hlt (.int .i64 4) (.bool false) (.int .i64 0) (.string ⟨#[]⟩) (.slice sa acc.length sc) (.slice none 0 0)
            have HR6 := hmk R6
            have HG6 := hmk G6
            have HGB := hmk gb
            clear R6 G6 gb
            go_wp2_with fail
            (try rw [← e6])
            clear e6 q0 q1 q2 q3 q4 q5 kf p0 p1 p2 p3 p4 p5 kf2
            (try simp only [Exit.inBlock, Exit.then])
            refine bodyPost_ret (v := .agg #[.int .i64 4, .bool false, .int .i64 0, .string ⟨#[]⟩, .slice sa acc.length sc, .slice none 0 0]) ?_ rfl ?_
            · rw [results_cell1 rfl]
              go_simp
            · rw [HE.out]
              exact ⟨⟨_, _, _, _, _, _, _, _, _, _, _, _, rfl, HR6.out, HNE.out⟩, HG6.out⟩
          | ok x =>
            obtain ⟨v, k1, n1⟩ := x
            have hle := (allJ_le s.data.toList D f).1 _ _ _ _ hnn hv
            dsimp only at hle
            rw [HLL.out] at hle
            have hbm := blk_le (l := s.data.toList) (k := k1) (by rw [HLL.out]; exact hle.2.1)
            rw [HLL.out] at hbm
            have HG : Hid (∀ fl, morJ s.data.toList k1 93 = .error fl → RR = .error fl) := fun fl hg => by rw [HF.out, lisJ_goes hv (e := fl) (by dsimp only; rw [goes_mor, hg])]
            have HO : Hid (∀ y, morJ s.data.toList k1 93 = .ok y → RR = lisJ s.data.toList D f (o + 1) y.1 (if y.1 = true then blk s.data.toList y.2 else y.2) n1 (acc ++ [v])) := fun y hg => by rw [HF.out, lisJ_on hv (y := (y.1, if y.1 = true then blk s.data.toList y.2 else y.2)) (by dsimp only; rw [goes_mor, hg])]
            rw [hv] at CV
            clear hv HF
            go_wp2_with fail
            refine CV.out.mono ?_
            rintro e w1 ⟨⟨cs, rfl, hl, R1⟩, g1⟩
            dsimp only at hl R1
            clear CV
            have HLV := hmk hl
            obtain ⟨vk, vb, vi, vs, vl, vm⟩ := v
            rw [V.lies] at hl
            obtain ⟨al, cl, bl, ol, am, cm, bm, om, rfl, _⟩ := hl
            have o1 := HKG.out _ _ _ _ _ oj g1
            have o2 := (o1.alloc (keepL false) (.cells #[.int .i64 vk, .bool vb, .int .i64 vi, .string vs, .slice al vl.length cl, .slice am vm.length cm] 25)).alloc (keepL false) (.cells #[.int .i64 vk, .bool vb, .int .i64 vi, .string vs, .slice al vl.length cl, .slice am vm.length cm] 25)
            have X1 := X.next hlt g1 R1
            have hsj := X.lt
            have hs1 := g1.size
            have za := alloc_size w1 (.cells #[.int .i64 vk, .bool vb, .int .i64 vi, .string vs, .slice al vl.length cl, .slice am vm.length cm] 25)
            have za2 := alloc_size (w1.alloc (.cells #[.int .i64 vk, .bool vb, .int .i64 vi, .string vs, .slice al vl.length cl, .slice am vm.length cm] 25)) (.cells #[.int .i64 vk, .bool vb, .int .i64 vi, .string vs, .slice al vl.length cl, .slice am vm.length cm] 25)
            have bA : Below w1.heap.size w1 (w1.alloc (.cells #[.int .i64 vk, .bool vb, .int .i64 vi, .string vs, .slice al vl.length cl, .slice am vm.length cm] 25)) := (Below.refl _ _).alloc (Nat.le_refl _) _
            have bB : Below w1.heap.size w1 ((w1.alloc (.cells #[.int .i64 vk, .bool vb, .int .i64 vi, .string vs, .slice al vl.length cl, .slice am vm.length cm] 25)).alloc (.cells #[.int .i64 vk, .bool vb, .int .i64 vi, .string vs, .slice al vl.length cl, .slice am vm.length cm] 25)) := bA.alloc (by rw [za]; omega) _
            have HEL : Hid (EL false (some (V.mk vk vb vi vs vl vm)) ((w1.alloc (.cells #[.int .i64 vk, .bool vb, .int .i64 vi, .string vs, .slice al vl.length cl, .slice am vm.length cm] 25)).alloc (.cells #[.int .i64 vk, .bool vb, .int .i64 vi, .string vs, .slice al vl.length cl, .slice am vm.length cm] 25)) (New wr w1) [.int .i64 vk, .bool vb, .int .i64 vi, .string vs, .slice al vl.length cl, .slice am vm.length cm]) :=
              V.lies_keep (fun h => h) (fun b hb => bB.block b hb.2) (fun _ h => h) _ HLV.out
            have hSx : ∀ b, New wr w1 b → w.heap.size + 2 ≤ b ∧ b < ((w1.alloc (.cells #[.int .i64 vk, .bool vb, .int .i64 vi, .string vs, .slice al vl.length cl, .slice am vm.length cm] 25)).alloc (.cells #[.int .i64 vk, .bool vb, .int .i64 vi, .string vs, .slice al vl.length cl, .slice am vm.length cm] 25)).heap.size ∧ some b ≠ u.ownBlock := fun b hb => ⟨by have := hb.1; omega, by rw [za2, za]; have := hb.2; omega, fun e => by have := (oj.lt e.symm).2; have := hb.1; omega⟩
            have hb2 : w.heap.size + 2 ≤ ((w1.alloc (.cells #[.int .i64 vk, .bool vb, .int .i64 vi, .string vs, .slice al vl.length cl, .slice am vm.length cm] 25)).alloc (.cells #[.int .i64 vk, .bool vb, .int .i64 vi, .string vs, .slice al vl.length cl, .slice am vm.length cm] 25)).heap.size := by rw [za2, za]; omega
            have hrow : ∀ r, u.ownBlock = some r → w.heap.size + 2 ≤ r := fun r e => (oj.lt e).1
            have XA := X1.own hlt (grown_of_below bA) (fun r e => by cases e)
            have XB := X1.own hlt (grown_of_below bB) (fun r e => by cases e)
            have c4 := XA.jd.c4
            obtain ⟨_, _, ⟨_, _, _, _, p4, _⟩, kf2⟩ := XA.cells
            have hbx := heap_alloc_new w1 (.cells #[.int .i64 vk, .bool vb, .int .i64 vi, .string vs, .slice al vl.length cl, .slice am vm.length cm] 25)
            have a0 := cell_of_block hbx 0
            have a1 := cell_of_block hbx 1
            have a2 := cell_of_block hbx 2
            have a3 := cell_of_block hbx 3
            have a4 := cell_of_block hbx 4
            have a5 := cell_of_block hbx 5
            simp only [List.getElem?_toArray, List.getElem?_cons_zero, List.getElem?_cons_succ] at a0 a1 a2 a3 a4 a5
            have HXB := hmk XB
            clear oj o1 HLV bA bB za XA XB X1 X hbx R1
            go_wp2_with (at_builtin; go_loud (refine wpl_push (keepL false) _ rfl (.tmp 47) (.tmp 49) 22 rfl (w.heap.size + 2) i1 _ 88 Tryz.underlying22 hJ.out.1 hJ.out.2.1 hJ.out.2.2.1 hJ.out.2.2.2 rfl (by decide) (by decide) u (some (V.mk vk vb vi vs vl vm)) rfl o2 (w1.heap.size + 1) 1 (0, 0) rfl (alloc2_new w1 (.cells #[.int .i64 vk, .bool vb, .int .i64 vi, .string vs, .slice al vl.length cl, .slice am vm.length cm] 25) (.cells #[.int .i64 vk, .bool vb, .int .i64 vi, .string vs, .slice al vl.length cl, .slice am vm.length cm] 25)) rfl one6 HEL.out hSx (by rw [List.length_map]; omega) hb2 ?_))
            intro g' cap w5 o5 g5 e5
            have X5 := HXB.out.own hlt g5 hrow
            have hg' : w.heap.size + 2 ≤ g' := e5.elim (fun h => hrow g' h) (fun h => by omega)
            have HA5 : Hid (acc.map some ++ [some (V.mk vk vb vi vs vl vm)] = (acc ++ [V.mk vk vb vi vs vl vm]).map some) := by show _ = _; rw [List.map_append]; rfl
            rw [HA5.out] at o5
            obtain ⟨_, _, ⟨_, _, _, _, p4', _⟩, kf3⟩ := X5.cells
            have X6 := hmk (X5.set hlt 4 (.slice (some ⟨g', 0, none⟩) (acc.length + 1) cap) rfl)
            have o6 := hmk (OwnR.keep (keepL false) o5 (grown_set1 w5 (w.heap.size + 1) 4 (.slice (some ⟨g', 0, none⟩) (acc.length + 1) cap)) (fun r e => by
              cases e
              exact ⟨fun hS => by have := (o5.off _ hS).1; omega, fun e => by have := (o5.lt e).1; omega⟩))
            have HLEN : Hid ((List.map some acc).length + 1 = acc.length + 1) := by show _ = _; rw [List.length_map]
            have CGG := hmk (CG.out _ k1 n1 X6.out.jd hle.2.1)
            clear o2 g5 e5 hb2 hrow hSx HEL o5 X5 HXB a0 a1 a2 a3 a4 a5 c4 p4
            cases hgo : morJ s.data.toList k1 93 with
            | error fl =>
              obtain ⟨fp, fe⟩ := fl
              have HE := hmk (HG.out _ hgo)
              rw [hgo] at CGG
              clear HG HO hgo
              go_wp2_with fail
              refine CGG.out.mono ?_
              rintro e w6 ⟨⟨kq, nq, rfl, R6, hne⟩, g6⟩
              dsimp only at R6 hne
              clear CGG
              have o7 := HKG.out _ _ _ _ _ o6.out g6
              have X7 := X6.out.next hlt g6 R6
              go_wp2_with fail
              go_roundg f
              case measure => omega
              case rel => exact ⟨acc ++ [V.mk vk vb vi vs vl vm], false, kq, nq, fe, fp, _, _, rfl, by omega, X7, o7, .inr ⟨rfl, hne, HE⟩⟩
            | ok y =>
              obtain ⟨m2, k2⟩ := y
              have HN := hmk (HO.out _ hgo)
              have hgl := morJ_le hgo
              rw [HLL.out] at hgl
              rw [hgo] at CGG
              clear HG HO hgo
              go_wp2_with fail
              refine CGG.out.mono ?_
              rintro e w6 ⟨⟨rfl, R6⟩, g6⟩
              dsimp only at R6
              clear CGG
              have o7 := HKG.out _ _ _ _ _ o6.out g6
              have X7 := X6.out.next hlt g6 R6
              go_wp2_with fail
              go_roundg f
              case measure => omega
              case rel => exact ⟨acc ++ [V.mk vk vb vi vs vl vm], m2, k2, n1, 0, 0, _, _, rfl, by omega, X7, o7, .inl ⟨rfl, rfl, hgl.2, hle.2.2, by rw [List.length_append]; simp only [List.length_cons, List.length_nil]; omega, by omega, HN⟩⟩
end Go.Proofs.YtpmhdcmmlkjjmaaGreatDoor
