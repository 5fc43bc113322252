/- joined: DpsA LawV -/
import Derived.Test.YtihcggepeadklaaGreatDoorDrdB
import Derived.Test.YtihcggepeadklaaGreatDoorG49
/- The document's Parse. -/
set_option linter.unusedSimpArgs false
set_option linter.unusedVariables false
namespace Go.Proofs.YtihcggepeadklaaGreatDoor
open Go.RowKit Go.Lib
set_option maxHeartbeats 4000000 in
set_option maxRecDepth 100000 in
theorem relem_many (x : El) (S : Nat → Prop) (cs : List Value) (w : World) (hl : x.lies w S cs) (hk : x.kind = 2) (hn : x.name = ⟨#[]⟩) (h8 : 8 < x.key.length) :
    Calls Tryz.prog 34 #[.agg cs.toArray] w (BPost false w) := by
  obtain ⟨k, nm, m, v⟩ := x
  obtain ⟨am, cm, bm, om, is, rfl, _, hnm, ham, hm, hv⟩ := hl
  obtain ⟨vk, vb, vi, vs, vl, vm⟩ := v
  rw [V.lies] at hv
  obtain ⟨val, vcl, vbl, vol, vam, vcm, vbm, vom, rfl, _⟩ := hv
  dsimp only at hk hn h8 ham ⊢
  subst hk
  subst hn
  have HB := hmk ((Below.refl _ w).alloc (Nat.le_refl _) (.cells #[.int .i64 2, .string ⟨#[]⟩, .slice am m.length cm, .int .i64 vk, .bool vb, .int .i64 vi, .string vs, .slice val vl.length vcl, .slice vam vm.length vcm] 48))
  have hbx := box_row w [.int .i64 2, .string ⟨#[]⟩, .slice am m.length cm, .int .i64 vk, .bool vb, .int .i64 vi, .string vs, .slice val vl.length vcl, .slice vam vm.length vcm] 48
  obtain ⟨d0, d1, d2, d3, d4, d5, d6, d7, d8⟩ := row9z hbx
  have y0 : ((m.length : Int) == 0) = false := by rw [beq_eq_false_iff_ne]; omega
  have y1 : (8 : Int) < m.length := by omega
  clear hm hnm
  go_enter Tryz.func34, Tryz.ntmps34
  go_wp2_with fail
  go_ret
  exact ⟨rfl, HB.out⟩
/-- the document's Elem of what was read -/
theorem relem_read {s : ByteArray} {k : Nat} {x : El} {k1 : Nat} (h : dreadF s.data.toList k = some (x, k1)) (hs : s.size ≤ 1048576) (S : Nat → Prop) (cs : List Value) (w : World) (hl : x.lies w S cs) (hS : ∀ b, S b → b < w.heap.size) :
    Calls Tryz.prog 34 #[.agg cs.toArray] w (BPost (elB x) w) := by
  rcases dread_wt h with ⟨m, rfl, h8⟩ | hw
  · have e : elB ⟨2, ⟨#[]⟩, m, nilW⟩ = false := by
      rw [elB2 rfl, keysB_len (fun hh => by omega)]; simp
    rw [e]
    exact relem_many _ S cs w hl rfl rfl h8
  · exact relem_any x S cs w hl hS (by omega)
theorem dnx_none {l : List UInt8} {k : Nat} (h : dreadF l k = none) (hk : k ≤ l.length) : nxtF l k = none := by rw [← dnxt_eq l k hk, dnxtF, h]
theorem dnx_bad {l : List UInt8} {k k1 : Nat} {x : El} (h : dreadF l k = some (x, k1)) (h2 : elB x = false) (hk : k ≤ l.length) : nxtF l k = none := by rw [← dnxt_eq l k hk, dnxtF, h]; dsimp only; rw [if_neg (by rw [h2]; decide)]
theorem dnx_yes {l : List UInt8} {k k1 : Nat} {x : El} (h : dreadF l k = some (x, k1)) (h2 : elB x = true) (h3 : elT x = (l.drop k).take (k1 - k)) (hk : k ≤ l.length) : nxtF l k = some (x, k1) := by rw [← dnxt_eq l k hk, dnxtF, h]; dsimp only; rw [if_pos h2, if_pos h3]
theorem dnx_no {l : List UInt8} {k k1 : Nat} {x : El} (h : dreadF l k = some (x, k1)) (h2 : elB x = true) (h3 : elT x ≠ (l.drop k).take (k1 - k)) (hk : k ≤ l.length) : nxtF l k = none := by rw [← dnxt_eq l k hk, dnxtF, h]; dsimp only; rw [if_pos h2, if_neg h3]
theorem elB_light {s : ByteArray} {k : Nat} {x : El} {k1 : Nat} (h : dreadF s.data.toList k = some (x, k1)) (hs : s.size ≤ 1048576) (he : elB x = true) : x.wt ≤ 2147483647 := by
  rcases dread_wt h with ⟨m, rfl, h8⟩ | hw
  · rw [elB2 rfl, keysB_len (fun hh => by omega)] at he; simp at he
  · omega
set_option maxHeartbeats 8000000 in
set_option maxRecDepth 100000 in
theorem dpar_any (s : ByteArray) (w : World) (hs : s.size ≤ 1048576) :
    Calls Tryz.prog 19 #[.string s] w (PaP (parF s.data.toList 33 0 []) w) := by
  have hll : s.data.toList.length = s.size := by simp
  have HLL := hmk hll
  obtain ⟨i0, hi0, hz0, hz1, hz2⟩ := info_parts info35
  have hI : Hid (Tryz.prog.info? 48 = some i0 ∧ i0.zero = some (.agg #[.int .i64 0, .string ⟨#[]⟩, .slice none 0 0, .int .i64 0, .bool false, .int .i64 0, .string ⟨#[]⟩, .slice none 0 0, .slice none 0 0]) ∧ i0.size = 9 ∧ i0.bytes = 136) := ⟨hi0, hz0, hz1, hz2⟩
  have CR : Hid (∀ W k, k < s.size → Calls Tryz.prog 33 #[.string s, .int .i64 (k : Int)] W (DrP (dreadF s.data.toList k) k s W)) := fun W k hk => dread_any s k W hs hk
  clear hll hi0 hz0 hz1 hz2
  go_enter Tryz.func19, Tryz.ntmps19
  go_wp2_with fail
  go_loopw [5, 6] (fun e5 e6 wq => ∃ (acc : List El) (kk : Nat) (SM : Nat → Prop), acc.length ≤ 32 ∧ lenOf e5 = acc.length ∧ kk ≤ s.size ∧ e6 = .int .i64 (kk : Int) ∧ Hid (parF s.data.toList 33 0 [] = parF s.data.toList (33 - acc.length) kk acc) ∧ Below w.heap.size w wq ∧ OwnP wq w.heap.size SM e5 acc) (fun e5 _ _ => 33 - lenOf e5)
  case atStart => exact ⟨[], 0, _, by simp, rfl, by omega, rfl, hmk rfl, Below.refl _ _, OwnR.nil _ _⟩
  case round =>
    obtain ⟨acc, kk, SM, ha32, hlen, hks, rfl, HF, bj, oj⟩ := hrel
    obtain ⟨sa, sc, sb, so, rfl, hd, hls⟩ := own_listP (T := fun b => w.heap.size ≤ b ∧ b < wr.heap.size) oj (fun b hb => ⟨(oj.off b hb).1, (oj.off b hb).2.1⟩) (fun g hg => oj.lt hg)
    have HD := hmk hd
    have HLS := hmk hls
    clear hlen hd hls
    by_cases hlt : kk < s.size
    case neg =>
      have y1 : ¬ (kk : Int) < s.size := by omega
      have HE : Hid (parF s.data.toList 33 0 [] = (acc, -1, 0)) := by show _ = _; rw [HF.out, par_end (by rw [HLL.out]; exact hlt)]
      have HB := hmk bj
      clear oj bj
      go_wp2_with fail
      go_ret3
      exact (by rw [HE.out]; exact ⟨sa, sc, sb, so, rfl, HD.out, liesP_keep (fun _ _ => rfl) (fun b hb => ⟨hb.1, hb.2⟩) HLS.out, HB.out⟩)
    have y1 : (kk : Int) < s.size := by omega
    have hkk0 : (0 : Int) ≤ kk := by omega
    have e33 : 33 - acc.length = (32 - acc.length) + 1 := by omega
    rw [e33] at HF
    have HKL : Hid (kk < s.data.toList.length) := by show _ < _; rw [HLL.out]; exact hlt
    clear e33
    go_wp2_with fail
    refine (CR.out _ kk hlt).mono ?_
    rintro e w2 ⟨b2, ⟨x, k1, cs, hx, hk1, hk2, rfl, hl⟩ | ⟨hx, x, cs, rfl, hl, hxw⟩⟩
    · obtain ⟨ek, es, ea, en, ec, fk, fb, fi, fs, fa, fn, fc, ga, gn, gc, rfl⟩ := El.nine hl
      have HX := hmk hx
      have bB : Below w2.heap.size w2 (w2.alloc (.cells #[.int .i64 ek, .string es, .slice ea en ec, .int .i64 fk, .bool fb, .int .i64 fi, .string fs, .slice fa fn fc, .slice ga gn gc] 48)) := (Below.refl _ _).alloc (Nat.le_refl _) _
      have nB := heap_alloc_new w2 (.cells #[.int .i64 ek, .string es, .slice ea en ec, .int .i64 fk, .bool fb, .int .i64 fi, .string fs, .slice fa fn fc, .slice ga gn gc] 48)
      have zB : w2.heap.size < (w2.alloc (.cells #[.int .i64 ek, .string es, .slice ea en ec, .int .i64 fk, .bool fb, .int .i64 fi, .string fs, .slice fa fn fc, .slice ga gn gc] 48)).heap.size := by rw [alloc_size]; omega
      have HL : Hid (∀ W, Below w2.heap.size w2 W → x.lies W (New wr w2) [.int .i64 ek, .string es, .slice ea en ec, .int .i64 fk, .bool fb, .int .i64 fi, .string fs, .slice fa fn fc, .slice ga gn gc]) := fun W b => El.lies_keep (fun y hy => b.block y hy.2) (fun _ h => h) hl
      have CE := hmk (relem_read hx hs (New wr w2) _ (w2.alloc (.cells #[.int .i64 ek, .string es, .slice ea en ec, .int .i64 fk, .bool fb, .int .i64 fi, .string fs, .slice fa fn fc, .slice ga gn gc] 48)) (El.lies_keep (fun y hy => bB.block y hy.2) (fun _ h => h) hl) (fun y hy => Nat.lt_of_lt_of_le hy.2 bB.size))
      have bj2 := bj.trans (b2.mono bj.size)
      have p0 : (w2.alloc (.cells #[.int .i64 ek, .string es, .slice ea en ec, .int .i64 fk, .bool fb, .int .i64 fi, .string fs, .slice fa fn fc, .slice ga gn gc] 48)).cell? ⟨w2.heap.size, 0, none⟩ = some (.int .i64 ek) := cell_of_block nB 0
      have p1 : (w2.alloc (.cells #[.int .i64 ek, .string es, .slice ea en ec, .int .i64 fk, .bool fb, .int .i64 fi, .string fs, .slice fa fn fc, .slice ga gn gc] 48)).cell? ⟨w2.heap.size, 1, none⟩ = some (.string es) := cell_of_block nB 1
      have p2 : (w2.alloc (.cells #[.int .i64 ek, .string es, .slice ea en ec, .int .i64 fk, .bool fb, .int .i64 fi, .string fs, .slice fa fn fc, .slice ga gn gc] 48)).cell? ⟨w2.heap.size, 2, none⟩ = some (.slice ea en ec) := cell_of_block nB 2
      have p3 : (w2.alloc (.cells #[.int .i64 ek, .string es, .slice ea en ec, .int .i64 fk, .bool fb, .int .i64 fi, .string fs, .slice fa fn fc, .slice ga gn gc] 48)).cell? ⟨w2.heap.size, 3, none⟩ = some (.int .i64 fk) := cell_of_block nB 3
      have p4 : (w2.alloc (.cells #[.int .i64 ek, .string es, .slice ea en ec, .int .i64 fk, .bool fb, .int .i64 fi, .string fs, .slice fa fn fc, .slice ga gn gc] 48)).cell? ⟨w2.heap.size, 4, none⟩ = some (.bool fb) := cell_of_block nB 4
      have p5 : (w2.alloc (.cells #[.int .i64 ek, .string es, .slice ea en ec, .int .i64 fk, .bool fb, .int .i64 fi, .string fs, .slice fa fn fc, .slice ga gn gc] 48)).cell? ⟨w2.heap.size, 5, none⟩ = some (.int .i64 fi) := cell_of_block nB 5
      have p6 : (w2.alloc (.cells #[.int .i64 ek, .string es, .slice ea en ec, .int .i64 fk, .bool fb, .int .i64 fi, .string fs, .slice fa fn fc, .slice ga gn gc] 48)).cell? ⟨w2.heap.size, 6, none⟩ = some (.string fs) := cell_of_block nB 6
      have p7 : (w2.alloc (.cells #[.int .i64 ek, .string es, .slice ea en ec, .int .i64 fk, .bool fb, .int .i64 fi, .string fs, .slice fa fn fc, .slice ga gn gc] 48)).cell? ⟨w2.heap.size, 7, none⟩ = some (.slice fa fn fc) := cell_of_block nB 7
      have p8 : (w2.alloc (.cells #[.int .i64 ek, .string es, .slice ea en ec, .int .i64 fk, .bool fb, .int .i64 fi, .string fs, .slice fa fn fc, .slice ga gn gc] 48)).cell? ⟨w2.heap.size, 8, none⟩ = some (.slice ga gn gc) := cell_of_block nB 8
      have HO : Hid (OwnP w2 w.heap.size SM (.slice sa acc.length sc) acc) := oj.below keepP b2
      have HSX : Hid (∀ b, New wr w2 b → w.heap.size ≤ b ∧ b < w2.heap.size ∧ some b ≠ (Value.slice sa acc.length sc).ownBlock) := fun b hb => ⟨Nat.le_trans bj.size hb.1, hb.2, fun e => by have := (oj.lt e.symm).2; have := hb.1; omega⟩
      clear hx hl oj
      generalize hEB : elB x = EB at *
      have HEB := hmk hEB
      clear hEB
      go_wp2_with fail
      refine CE.out.mono ?_
      rintro e w3 ⟨rfl, b3⟩
      have b23 := bB.trans (b3.mono bB.size)
      have n3 : w3.heap[w2.heap.size]? = some (.cells #[.int .i64 ek, .string es, .slice ea en ec, .int .i64 fk, .bool fb, .int .i64 fi, .string fs, .slice fa fn fc, .slice ga gn gc] 48 (0, 0)) := (b3.block _ zB).trans nB
      have z3 := Nat.lt_of_lt_of_le zB b3.size
      have bw3 := bj2.trans (b23.mono bj2.size)
      have HB3 := hmk bw3
      clear CE p0 p1 p2 p3 p4 p5 p6 p7 p8 nB bB zB b3
      by_cases h32 : acc.length = 32
      · have y32 : ((acc.length : Int) == 32) = true := by rw [beq_iff_eq]; omega
        have H32 := hmk h32
        clear h32 n3 z3 b23 bw3
        go_wp2_with fail
        go_ret3
        exact pa_err (l := s.data.toList) _ (by rw [HF.out, par_full HKL.out H32.out]) HB3.out
      have y32 : ((acc.length : Int) == 32) = false := by rw [beq_eq_false_iff_ne]; omega
      have H32 := hmk h32
      have a0 : ¬ (k1 : Int) < 0 := by omega
      cases EB with
      | false =>
        have HN := hmk (dnx_bad HX.out HEB.out (by rw [HLL.out]; exact hks))
        clear h32 n3 z3 b23 bw3
        go_wp2_with fail
        go_ret3
        exact pa_err (l := s.data.toList) _ (by rw [HF.out, par_no HKL.out HN.out]) HB3.out
      | true =>
        have HTX : Hid (∀ W, Below w3.heap.size w3 W → Calls Tryz.prog 35 #[.agg #[.int .i64 ek, .string es, .slice ea en ec, .int .i64 fk, .bool fb, .int .i64 fi, .string fs, .slice fa fn fc, .slice ga gn gc]] W (SPost (elT x) W)) := fun W b => rltext_any x _ (New wr w2) W (HL.out W (b23.trans (b.mono (Nat.le_of_lt z3)))) (fun y hy => Nat.lt_of_lt_of_le (Nat.lt_trans hy.2 z3) b.size) HEB.out (elB_light HX.out hs HEB.out)
        have CT : Hid (∀ y : Sub w3.heap.size w3, Calls Tryz.prog 35 #[.agg #[.int .i64 ek, .string es, .slice ea en ec, .int .i64 fk, .bool fb, .int .i64 fi, .string fs, .slice fa fn fc, .slice ga gn gc]] y.w fun e w'' => e = .returned (.string ⟨(elT x).toArray⟩) ∧ ∃ z : Sub w3.heap.size w3, w'' = z.w) :=
          sub_call fun w' hb => (HTX.out w' hb).mono fun e w'' ⟨he, h2⟩ => ⟨he, hb.trans (h2.mono hb.size)⟩
        have p0 : w3.cell? ⟨w2.heap.size, 0, none⟩ = some (.int .i64 ek) := cell_of_block n3 0
        have p1 : w3.cell? ⟨w2.heap.size, 1, none⟩ = some (.string es) := cell_of_block n3 1
        have p2 : w3.cell? ⟨w2.heap.size, 2, none⟩ = some (.slice ea en ec) := cell_of_block n3 2
        have p3 : w3.cell? ⟨w2.heap.size, 3, none⟩ = some (.int .i64 fk) := cell_of_block n3 3
        have p4 : w3.cell? ⟨w2.heap.size, 4, none⟩ = some (.bool fb) := cell_of_block n3 4
        have p5 : w3.cell? ⟨w2.heap.size, 5, none⟩ = some (.int .i64 fi) := cell_of_block n3 5
        have p6 : w3.cell? ⟨w2.heap.size, 6, none⟩ = some (.string fs) := cell_of_block n3 6
        have p7 : w3.cell? ⟨w2.heap.size, 7, none⟩ = some (.slice fa fn fc) := cell_of_block n3 7
        have p8 : w3.cell? ⟨w2.heap.size, 8, none⟩ = some (.slice ga gn gc) := cell_of_block n3 8
        have x0 : ∀ y : Sub w3.heap.size w3, _ := sub_cell p0 z3
        have x1 : ∀ y : Sub w3.heap.size w3, _ := sub_cell p1 z3
        have x2 : ∀ y : Sub w3.heap.size w3, _ := sub_cell p2 z3
        have x3 : ∀ y : Sub w3.heap.size w3, _ := sub_cell p3 z3
        have x4 : ∀ y : Sub w3.heap.size w3, _ := sub_cell p4 z3
        have x5 : ∀ y : Sub w3.heap.size w3, _ := sub_cell p5 z3
        have x6 : ∀ y : Sub w3.heap.size w3, _ := sub_cell p6 z3
        have x7 : ∀ y : Sub w3.heap.size w3, _ := sub_cell p7 z3
        have x8 : ∀ y : Sub w3.heap.size w3, _ := sub_cell p8 z3
        have hM := hmk (ext_mid s kk k1 (by omega) hk2)
        have hkk1 : (kk : Int) ≤ k1 := by omega
        have hk1s : (k1 : Int) ≤ s.size := by omega
        obtain ⟨SL, hSL⟩ : ∃ SL : ByteArray, Hid (s.extract kk k1 = SL) := ⟨_, rfl⟩
        have hS2 : s.extract kk k1 = SL := hSL
        obtain ⟨TX, hTX⟩ : ∃ TX : ByteArray, (⟨(elT x).toArray⟩ : ByteArray) = TX := ⟨_, rfl⟩
        rw [hTX] at CT
        have HEQ : Hid (TX = SL ↔ elT x = (s.data.toList.drop kk).take (k1 - kk)) := by
          show _ ↔ _
          rw [← hTX, ← hSL.out, hM.out]
          constructor
          · intro h; have := congrArg (fun b : ByteArray => b.data.toList) h; simpa using this
          · intro h; rw [h]
        clear HTX hTX h32
        by_cases hq : TX = SL
        · have HY := hmk (dnx_yes HX.out HEB.out (HEQ.out.1 hq) (by rw [HLL.out]; exact hks))
          subst hq
          go_wp2_with fail
          refine wp_region_sub w3.heap.size (by kernel_rfl) (by kernel_rfl) ?_
          repeat (go_big_quiet_step (first | exact CT.out _))
          refine wpQuiet_nil ?_
          rintro w4 ⟨⟨w4', b4⟩, hq4⟩
          have hq' : w4 = w4' := hq4
          subst hq'
          clear hq4 CT x0 x1 x2 x3 x4 x5 x6 x7 x8 p0 p1 p2 p3 p4 p5 p6 p7 p8
          have n4 : w4.heap[w2.heap.size]? = some (.cells #[.int .i64 ek, .string es, .slice ea en ec, .int .i64 fk, .bool fb, .int .i64 fi, .string fs, .slice fa fn fc, .slice ga gn gc] 48 (0, 0)) := (b4.block _ z3).trans n3
          have z4 := Nat.lt_of_lt_of_le z3 b4.size
          have b24 := b23.trans (b4.mono b23.size)
          have bw4 := bw3.trans (b4.mono bw3.size)
          have p0 : w4.cell? ⟨w2.heap.size, 0, none⟩ = some (.int .i64 ek) := cell_of_block n4 0
          have p1 : w4.cell? ⟨w2.heap.size, 1, none⟩ = some (.string es) := cell_of_block n4 1
          have p2 : w4.cell? ⟨w2.heap.size, 2, none⟩ = some (.slice ea en ec) := cell_of_block n4 2
          have p3 : w4.cell? ⟨w2.heap.size, 3, none⟩ = some (.int .i64 fk) := cell_of_block n4 3
          have p4 : w4.cell? ⟨w2.heap.size, 4, none⟩ = some (.bool fb) := cell_of_block n4 4
          have p5 : w4.cell? ⟨w2.heap.size, 5, none⟩ = some (.int .i64 fi) := cell_of_block n4 5
          have p6 : w4.cell? ⟨w2.heap.size, 6, none⟩ = some (.string fs) := cell_of_block n4 6
          have p7 : w4.cell? ⟨w2.heap.size, 7, none⟩ = some (.slice fa fn fc) := cell_of_block n4 7
          have p8 : w4.cell? ⟨w2.heap.size, 8, none⟩ = some (.slice ga gn gc) := cell_of_block n4 8
          have b45 : Below w4.heap.size w4 (w4.alloc (.cells #[.int .i64 ek, .string es, .slice ea en ec, .int .i64 fk, .bool fb, .int .i64 fi, .string fs, .slice fa fn fc, .slice ga gn gc] 48)) := (Below.refl _ _).alloc (Nat.le_refl _) _
          have b25 := b24.trans (b45.mono b24.size)
          have bw5 := bw4.trans (b45.mono bw4.size)
          have o5 : OwnP (w4.alloc (.cells #[.int .i64 ek, .string es, .slice ea en ec, .int .i64 fk, .bool fb, .int .i64 fi, .string fs, .slice fa fn fc, .slice ga gn gc] 48)) w.heap.size SM (.slice sa acc.length sc) acc := HO.out.below keepP b25
          have HEP : Hid (EP x (w4.alloc (.cells #[.int .i64 ek, .string es, .slice ea en ec, .int .i64 fk, .bool fb, .int .i64 fi, .string fs, .slice fa fn fc, .slice ga gn gc] 48)) (New wr w2) [.int .i64 ek, .string es, .slice ea en ec, .int .i64 fk, .bool fb, .int .i64 fi, .string fs, .slice fa fn fc, .slice ga gn gc]) := HL.out _ b25
          have HS5 : Hid (∀ b, New wr w2 b → w.heap.size ≤ b ∧ b < (w4.alloc (.cells #[.int .i64 ek, .string es, .slice ea en ec, .int .i64 fk, .bool fb, .int .i64 fi, .string fs, .slice fa fn fc, .slice ga gn gc] 48)).heap.size ∧ some b ≠ (Value.slice sa acc.length sc).ownBlock) := fun b hb => ⟨(HSX.out b hb).1, Nat.lt_of_lt_of_le (HSX.out b hb).2.1 b25.size, (HSX.out b hb).2.2⟩
          have ha3 : acc.length + 1 ≤ 32 := by have := H32.out; omega
          clear n4 b24 bw4 b25 bw3 b23 n3 b4
          go_wp2_with (at_builtin; go_loud (refine wpl_push keepP _ rfl (.tmp 42) (.tmp 44) 23 rfl w.heap.size i0 _ 136 Tryz.underlying23 hI.out.1 hI.out.2.1 hI.out.2.2.1 hI.out.2.2.2 rfl (by decide) (by decide) (.slice sa acc.length sc) x rfl o5 w4.heap.size 1 (0, 0) rfl (heap_alloc_new w4 _) rfl one9 HEP.out HS5.out (by omega) bw5.size ?_))
          intro g' cap w6 o6 g6 e6
          have hrow : ∀ r, (Value.slice sa acc.length sc).ownBlock = some r → w.heap.size ≤ r := fun r e => (o5.lt e).1
          have bw6 := bw5.grown g6 bw5.size hrow
          clear o5 bw5 g6 e6 hrow b45
          go_wp2_with fail
          go_roundw
          case rel => exact ⟨acc ++ [x], k1, _, by rw [List.length_append]; exact ha3, by rw [List.length_append]; rfl, hk2, rfl, hmk (by rw [HF.out, par_yes HKL.out H32.out HY.out]; congr 1; rw [List.length_append]; show _ = 33 - (acc.length + 1); omega), bw6, o6⟩
          case measure => simp [lenOf]; omega
        · have HY := hmk (dnx_no HX.out HEB.out (fun h => hq (HEQ.out.2 h)) (by rw [HLL.out]; exact hks))
          have e1 : (TX.toList == SL.toList) = false := by rw [beq_eq_false_iff_ne]; exact fun h => hq (bytes_eq h)
          have e2 : (TX.toList != SL.toList) = true := by rw [bne_iff_ne]; exact fun h => hq (bytes_eq h)
          have e3 : ¬ TX.toList = SL.toList := fun h => hq (bytes_eq h)
          go_wp2_with fail
          refine wp_region_sub w3.heap.size (by kernel_rfl) (by kernel_rfl) ?_
          repeat (go_big_quiet_step (first | exact CT.out _))
          refine wpQuiet_nil ?_
          rintro w4 ⟨⟨w4', b4⟩, hq4⟩
          have hq' : w4 = w4' := hq4
          subst hq'
          have HB4 := hmk (bw3.trans (b4.mono bw3.size))
          clear hq4 CT x0 x1 x2 x3 x4 x5 x6 x7 x8 p0 p1 p2 p3 p4 p5 p6 p7 p8 n3 b23 bw3 b4
          go_wp2_with fail
          go_ret3
          exact pa_err (l := s.data.toList) _ (by rw [HF.out, par_no HKL.out HY.out]) HB4.out
    · obtain ⟨ek, es, ea, en, ec, fk, fb, fi, fs, fa, fn, fc, ga, gn, gc, rfl⟩ := El.nine hl
      have HX := hmk hx
      have bB : Below w2.heap.size w2 (w2.alloc (.cells #[.int .i64 ek, .string es, .slice ea en ec, .int .i64 fk, .bool fb, .int .i64 fi, .string fs, .slice fa fn fc, .slice ga gn gc] 48)) := (Below.refl _ _).alloc (Nat.le_refl _) _
      have nB := heap_alloc_new w2 (.cells #[.int .i64 ek, .string es, .slice ea en ec, .int .i64 fk, .bool fb, .int .i64 fi, .string fs, .slice fa fn fc, .slice ga gn gc] 48)
      have zB : w2.heap.size < (w2.alloc (.cells #[.int .i64 ek, .string es, .slice ea en ec, .int .i64 fk, .bool fb, .int .i64 fi, .string fs, .slice fa fn fc, .slice ga gn gc] 48)).heap.size := by rw [alloc_size]; omega
      have HL : Hid (∀ W, Below w2.heap.size w2 W → x.lies W (New wr w2) [.int .i64 ek, .string es, .slice ea en ec, .int .i64 fk, .bool fb, .int .i64 fi, .string fs, .slice fa fn fc, .slice ga gn gc]) := fun W b => El.lies_keep (fun y hy => b.block y hy.2) (fun _ h => h) hl
      have CE := hmk (relem_any x (New wr w2) _ (w2.alloc (.cells #[.int .i64 ek, .string es, .slice ea en ec, .int .i64 fk, .bool fb, .int .i64 fi, .string fs, .slice fa fn fc, .slice ga gn gc] 48)) (El.lies_keep (fun y hy => bB.block y hy.2) (fun _ h => h) hl) (fun y hy => Nat.lt_of_lt_of_le hy.2 bB.size) (by omega))
      have bj2 := bj.trans (b2.mono bj.size)
      have p0 : (w2.alloc (.cells #[.int .i64 ek, .string es, .slice ea en ec, .int .i64 fk, .bool fb, .int .i64 fi, .string fs, .slice fa fn fc, .slice ga gn gc] 48)).cell? ⟨w2.heap.size, 0, none⟩ = some (.int .i64 ek) := cell_of_block nB 0
      have p1 : (w2.alloc (.cells #[.int .i64 ek, .string es, .slice ea en ec, .int .i64 fk, .bool fb, .int .i64 fi, .string fs, .slice fa fn fc, .slice ga gn gc] 48)).cell? ⟨w2.heap.size, 1, none⟩ = some (.string es) := cell_of_block nB 1
      have p2 : (w2.alloc (.cells #[.int .i64 ek, .string es, .slice ea en ec, .int .i64 fk, .bool fb, .int .i64 fi, .string fs, .slice fa fn fc, .slice ga gn gc] 48)).cell? ⟨w2.heap.size, 2, none⟩ = some (.slice ea en ec) := cell_of_block nB 2
      have p3 : (w2.alloc (.cells #[.int .i64 ek, .string es, .slice ea en ec, .int .i64 fk, .bool fb, .int .i64 fi, .string fs, .slice fa fn fc, .slice ga gn gc] 48)).cell? ⟨w2.heap.size, 3, none⟩ = some (.int .i64 fk) := cell_of_block nB 3
      have p4 : (w2.alloc (.cells #[.int .i64 ek, .string es, .slice ea en ec, .int .i64 fk, .bool fb, .int .i64 fi, .string fs, .slice fa fn fc, .slice ga gn gc] 48)).cell? ⟨w2.heap.size, 4, none⟩ = some (.bool fb) := cell_of_block nB 4
      have p5 : (w2.alloc (.cells #[.int .i64 ek, .string es, .slice ea en ec, .int .i64 fk, .bool fb, .int .i64 fi, .string fs, .slice fa fn fc, .slice ga gn gc] 48)).cell? ⟨w2.heap.size, 5, none⟩ = some (.int .i64 fi) := cell_of_block nB 5
      have p6 : (w2.alloc (.cells #[.int .i64 ek, .string es, .slice ea en ec, .int .i64 fk, .bool fb, .int .i64 fi, .string fs, .slice fa fn fc, .slice ga gn gc] 48)).cell? ⟨w2.heap.size, 6, none⟩ = some (.string fs) := cell_of_block nB 6
      have p7 : (w2.alloc (.cells #[.int .i64 ek, .string es, .slice ea en ec, .int .i64 fk, .bool fb, .int .i64 fi, .string fs, .slice fa fn fc, .slice ga gn gc] 48)).cell? ⟨w2.heap.size, 7, none⟩ = some (.slice fa fn fc) := cell_of_block nB 7
      have p8 : (w2.alloc (.cells #[.int .i64 ek, .string es, .slice ea en ec, .int .i64 fk, .bool fb, .int .i64 fi, .string fs, .slice fa fn fc, .slice ga gn gc] 48)).cell? ⟨w2.heap.size, 8, none⟩ = some (.slice ga gn gc) := cell_of_block nB 8
      have HN := hmk (dnx_none HX.out (by rw [HLL.out]; exact hks))
      clear hx hl oj
      generalize elB x = EB at *
      go_wp2_with fail
      refine CE.out.mono ?_
      rintro e w3 ⟨rfl, b3⟩
      have b23 := bB.trans (b3.mono bB.size)
      have HB3 := hmk (bj2.trans (b23.mono bj2.size))
      clear CE p0 p1 p2 p3 p4 p5 p6 p7 p8 nB bB zB b3 b23
      by_cases h32 : acc.length = 32
      · have y32 : ((acc.length : Int) == 32) = true := by rw [beq_iff_eq]; omega
        have H32 := hmk h32
        clear h32
        go_wp2_with fail
        go_ret3
        exact pa_err (l := s.data.toList) _ (by rw [HF.out, par_full HKL.out H32.out]) HB3.out
      · have y32 : ((acc.length : Int) == 32) = false := by rw [beq_eq_false_iff_ne]; omega
        clear h32
        go_wp2_with fail
        go_ret3
        exact pa_err (l := s.data.toList) _ (by rw [HF.out, par_no HKL.out HN.out]) HB3.out
end Go.Proofs.YtihcggepeadklaaGreatDoor
/- PathParses: the law's own walk, for texts of a bulk. -/
namespace Go.Proofs.YtihcggepeadklaaGreatDoor
open Go.RowKit Go.Lib
set_option maxHeartbeats 4000000 in
set_option maxRecDepth 100000 in
theorem parses_walk (s : ByteArray) (w : World) (td : Td w) (hs : s.size ≤ 1048576) :
    Calls Tryz.prog 6 #[.string s] w (BPost true w) := by
  have CP := hmk (parse_any s w td (by omega))
  have CD : Hid (∀ W, Calls Tryz.prog 19 #[.string s] W (PaP (parF s.data.toList 33 0 []) W)) := fun W => dpar_any s W hs
  generalize parF s.data.toList 33 0 [] = P at *
  obtain ⟨p, z, n⟩ := P
  clear td
  go_enter Tryz.func6, Tryz.ntmps6
  go_wp2_with fail
  refine CP.out.mono ?_
  rintro e w1 ⟨ap, cp, bp, op, rfl, hd, hl, b1⟩
  dsimp only at hd hl ⊢
  clear CP
  go_wp2_with fail
  refine (CD.out w1).mono ?_
  rintro e w2 ⟨aq, cq, bq, oq, rfl, hd2, hl2, b2⟩
  dsimp only at hd2 hl2 ⊢
  have hl1 : liesP w2 (New w w1) p bp op := liesP_keep (fun b hb => b2.block b hb.2) (fun _ h => h) hl
  have CS := hmk (psame_any p (New w w1) (New w1 w2) ap cp bp op aq cq bq oq w2 hd hl1 hd2 hl2 (fun x hx => Nat.lt_of_lt_of_le hx.2 b2.size) (fun x hx => hx.2))
  have b12 := b1.trans (b2.mono b1.size)
  clear CD hd hl hd2 hl2 hl1
  go_wp2_with fail
  refine CS.out.mono ?_
  rintro e w3 ⟨rfl, b3⟩
  have HB := hmk (b12.trans (b3.mono b12.size))
  clear CS b1 b2 b3 b12
  go_wp2_with fail
  go_ret
  exact ⟨rfl, HB.out⟩
end Go.Proofs.YtihcggepeadklaaGreatDoor
