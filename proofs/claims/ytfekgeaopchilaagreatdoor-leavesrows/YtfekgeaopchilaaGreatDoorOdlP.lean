import Derived.Test.YtfekgeaopchilaaGreatDoorG16
/- The program's order: keys, elements, paths. -/
set_option linter.unusedSimpArgs false
set_option linter.unusedVariables false
namespace Go.Proofs.YtfekgeaopchilaaGreatDoor
open Go.RowKit Go.Lib
set_option maxHeartbeats 4000000 in
set_option maxRecDepth 100000 in
theorem okeys_any (a b : List Mem) (S S' : Nat → Prop) (aa : Option Addr) (ca ba oa : Nat) (ab : Option Addr) (cb bb ob : Nat) (w : World) (hha : Headed aa a.length ca ba oa) (hla : liesM false w S a ba oa) (hhb : Headed ab b.length cb bb ob) (hlb : liesM false w S' b bb ob) (hS : ∀ x, S x → x < w.heap.size) (hS' : ∀ x, S' x → x < w.heap.size) :
    Calls Tryz.prog 73 #[.slice aa a.length ca, .slice ab b.length cb, .func (.func 74) #[] #[]] w (JPost (lexL omM a b) w) := by
  have HA := hmk hla
  have HB := hmk hlb
  clear hla hlb
  have hna : a.length ≤ 9223372036854775807 := Nat.le_trans hha.le hha.max
  have hnb : b.length ≤ 9223372036854775807 := Nat.le_trans hhb.le hhb.max
  have HR : Hid (lexL omM a b = lexL omM (a.drop 0) (b.drop 0)) := rfl
  generalize lexL omM a b = RR at *
  go_enter Tryz.func73, Tryz.ntmps73
  go_wp2_with fail
  go_loopw [14] (fun e wr => ∃ j : Nat, (j ≤ a.length ∧ j ≤ b.length) ∧ e = .int .i64 (j : Int) ∧ Below w.heap.size w wr ∧ Hid (RR = lexL omM (a.drop j) (b.drop j))) (fun e _ => a.length - (RowKit.intOf e).toNat)
  case atStart => exact ⟨0, by omega, rfl, Below.refl _ _, HR⟩
  case round =>
    clear HR
    obtain ⟨j, hj, rfl, bj, HR⟩ := hrel
    have hzr := bj.size
    by_cases hjl : j < a.length ∧ j < b.length
    · have y1 : (j : Int) < min (a.length : Int) (b.length : Int) := by omega
      have y2 : (j : Int) < a.length := by omega
      have y3 : (j : Int) < b.length := by omega
      obtain ⟨hSb, hks, csj, hrow, hlj⟩ := liesM_get HA.out j hjl.1
      obtain ⟨hSb', hks', dsj, hrow', hlj'⟩ := liesM_get HB.out j hjl.2
      obtain rfl : aa = some ⟨ba, oa, none⟩ := hha.at_.resolve_left (by omega)
      obtain rfl : ab = some ⟨bb, ob, none⟩ := hhb.at_.resolve_left (by omega)
      obtain ⟨ek, eb, ei, es, eal, enl, ecl, eam, enm, ecm, rfl⟩ := V.ten hlj
      obtain ⟨fk, fb, fi, fs, fal, fnl, fcl, fam, fnm, fcm, rfl⟩ := V.ten hlj'
      have rw0 := row7 (hrow.keep (bj.block _ (hS _ hSb)))
      have rw1 := row7 (hrow'.keep (bj.block _ (hS' _ hSb')))
      have hbl : ba < wr.heap.size := World.block_lt_of_cell? wr _ rw0.1
      have hbl' : bb < wr.heap.size := World.block_lt_of_cell? wr _ rw1.1
      have p0 : ∀ x : Sub wr.heap.size wr, _ := sub_cell rw0.1 hbl
      have p1 : ∀ x : Sub wr.heap.size wr, _ := sub_cell rw0.2.1 hbl
      have p2 : ∀ x : Sub wr.heap.size wr, _ := sub_cell rw0.2.2.1 hbl
      have p3 : ∀ x : Sub wr.heap.size wr, _ := sub_cell rw0.2.2.2.1 hbl
      have p4 : ∀ x : Sub wr.heap.size wr, _ := sub_cell rw0.2.2.2.2.1 hbl
      have p5 : ∀ x : Sub wr.heap.size wr, _ := sub_cell rw0.2.2.2.2.2.1 hbl
      have p6 : ∀ x : Sub wr.heap.size wr, _ := sub_cell rw0.2.2.2.2.2.2 hbl
      have q0 : ∀ x : Sub wr.heap.size wr, _ := sub_cell rw1.1 hbl'
      have q1 : ∀ x : Sub wr.heap.size wr, _ := sub_cell rw1.2.1 hbl'
      have q2 : ∀ x : Sub wr.heap.size wr, _ := sub_cell rw1.2.2.1 hbl'
      have q3 : ∀ x : Sub wr.heap.size wr, _ := sub_cell rw1.2.2.2.1 hbl'
      have q4 : ∀ x : Sub wr.heap.size wr, _ := sub_cell rw1.2.2.2.2.1 hbl'
      have q5 : ∀ x : Sub wr.heap.size wr, _ := sub_cell rw1.2.2.2.2.2.1 hbl'
      have q6 : ∀ x : Sub wr.heap.size wr, _ := sub_cell rw1.2.2.2.2.2.2 hbl'
      have CI : Hid (∀ x : Sub wr.heap.size wr, Calls Tryz.prog 74 #[.agg #[.string (a[j]'(hjl.1)).1, .int .i64 ek, .bool eb, .int .i64 ei, .string es, .slice eal enl ecl, .slice eam enm ecm], .agg #[.string (b[j]'(hjl.2)).1, .int .i64 fk, .bool fb, .int .i64 fi, .string fs, .slice fal fnl fcl, .slice fam fnm fcm]] x.w fun e w'' => e = .returned (.int .i64 (omM (a[j]'(hjl.1)) (b[j]'(hjl.2)))) ∧ ∃ y : Sub wr.heap.size wr, w'' = y.w) :=
        sub_call fun w' hb => by
          refine (omem_any (a[j]'(hjl.1)).1 (b[j]'(hjl.2)).1 ek eb ei es eal enl ecl eam enm ecm fk fb fi fs fal fnl fcl fam fnm fcm w').mono ?_
          rintro e w'' ⟨he, h2⟩
          exact ⟨by rw [he, omM, osV_cells _ _ _ _ _ _ _ _ _ _ _ _ _ _ _ _ _ _ _ _ hlj hlj'], hb.trans (h2.mono hb.size)⟩
      have HD := hmk (lex_drop omM hjl.1 hjl.2)
      generalize omM (a[j]'(hjl.1)) (b[j]'(hjl.2)) = Z at *
      clear rw0 rw1 hlj hlj' hrow hrow'
      go_wp2_with fail
      refine wp_region_sub wr.heap.size (by kernel_rfl) (by kernel_rfl) ?_
      repeat (go_big_quiet_step (exact CI.out _))
      refine wpQuiet_nil ?_
      rintro wq ⟨⟨wq', bq⟩, hq⟩
      have hq' : wq = wq' := hq
      subst hq'
      clear hq
      have BQ := hmk (bj.trans (bq.mono hzr))
      by_cases hZ : Z = 0
      · have HF : Hid (RR = lexL omM (a.drop (j + 1)) (b.drop (j + 1))) := by show _ = _; rw [HR.out, HD.out, if_pos hZ]
        have y4 : (Z != 0) = false := by rw [hZ]; rfl
        clear hZ
        go_wp2_with fail
        go_roundw
        case rel => exact ⟨j + 1, by omega, by go_num, BQ.out, HF⟩
        case measure => simp [RowKit.intOf]; omega
      · have HF : Hid (RR = Z) := by show _ = _; rw [HR.out, HD.out, if_neg hZ]
        have y4 : (Z != 0) = true := by rw [bne_iff_ne]; exact hZ
        clear hZ
        go_wp2_with fail
        go_ret
        exact ⟨by rw [HF.out]; rfl, BQ.out⟩
    · have y1 : ¬ (j : Int) < min (a.length : Int) (b.length : Int) := by omega
      have HF : Hid (RR = cmpI a.length b.length) := by show _ = _; rw [HR.out, lex_end omM hj.1 hj.2 hjl]
      have c := hmk (icompare_any a.length b.length wr)
      go_wp2_with fail
      refine c.out.mono ?_
      rintro e w1 ⟨rfl, b1⟩
      go_wp2_with fail
      go_ret
      exact ⟨by rw [HF.out]; rfl, bj.trans (b1.mono hzr)⟩
set_option maxHeartbeats 4000000 in
set_option maxRecDepth 100000 in
theorem oelem_any (x y : El) (S S' : Nat → Prop) (cs ds : List Value) (w : World) (hl : x.lies w S cs) (hl' : y.lies w S' ds) (hS : ∀ b, S b → b < w.heap.size) (hS' : ∀ b, S' b → b < w.heap.size) :
    Calls Tryz.prog 53 #[.agg cs.toArray, .agg ds.toArray] w (JPost (oeE x y) w) := by
  obtain ⟨eq, en, me, ve⟩ := x
  obtain ⟨fq, fn, mf, vf⟩ := y
  obtain ⟨ema, emc, ebm, eom, is, rfl, hk, hnm, hem, hm, hv⟩ := hl
  obtain ⟨fma, fmc, fbm, fom, is', rfl, hk', hnm', hfm, hm', hv'⟩ := hl'
  dsimp only at hk hnm hem hm hv hk' hnm' hfm hm' hv'
  obtain ⟨ek, eb, ei, es, eal, enl, ecl, eam, enm, ecm, rfl⟩ := V.ten hv
  obtain ⟨fk, fb, fi, fs, fal, fnl, fcl, fam, fnm, fcm, rfl⟩ := V.ten hv'
  have HO := hmk (osV_cells _ _ _ _ _ _ _ _ _ _ _ _ _ _ _ _ _ _ _ _ hv hv')
  have HM := hmk hm
  have HM' := hmk hm'
  have hb0 := box_row w [.int .i64 eq, .string en, .slice ema me.length emc, .int .i64 ek, .bool eb, .int .i64 ei, .string es, .slice eal enl ecl, .slice eam enm ecm] 60
  have hb1 : rowAt ((w.alloc (.cells #[.int .i64 eq, .string en, .slice ema me.length emc, .int .i64 ek, .bool eb, .int .i64 ei, .string es, .slice eal enl ecl, .slice eam enm ecm] 60)).alloc (.cells #[.int .i64 fq, .string fn, .slice fma mf.length fmc, .int .i64 fk, .bool fb, .int .i64 fi, .string fs, .slice fal fnl fcl, .slice fam fnm fcm] 60)) w.heap.size 0 [.int .i64 eq, .string en, .slice ema me.length emc, .int .i64 ek, .bool eb, .int .i64 ei, .string es, .slice eal enl ecl, .slice eam enm ecm] := hb0.keep (Below.heap_alloc _ _ _ (by rw [alloc_size]; omega))
  have hb2 : rowAt ((w.alloc (.cells #[.int .i64 eq, .string en, .slice ema me.length emc, .int .i64 ek, .bool eb, .int .i64 ei, .string es, .slice eal enl ecl, .slice eam enm ecm] 60)).alloc (.cells #[.int .i64 fq, .string fn, .slice fma mf.length fmc, .int .i64 fk, .bool fb, .int .i64 fi, .string fs, .slice fal fnl fcl, .slice fam fnm fcm] 60)) (w.heap.size + 1) 0 [.int .i64 fq, .string fn, .slice fma mf.length fmc, .int .i64 fk, .bool fb, .int .i64 fi, .string fs, .slice fal fnl fcl, .slice fam fnm fcm] := by
    have := box_row (w.alloc (.cells #[.int .i64 eq, .string en, .slice ema me.length emc, .int .i64 ek, .bool eb, .int .i64 ei, .string es, .slice eal enl ecl, .slice eam enm ecm] 60)) [.int .i64 fq, .string fn, .slice fma mf.length fmc, .int .i64 fk, .bool fb, .int .i64 fi, .string fs, .slice fal fnl fcl, .slice fam fnm fcm] 60
    rwa [alloc_size] at this
  have B0 := two_below w (.cells #[.int .i64 eq, .string en, .slice ema me.length emc, .int .i64 ek, .bool eb, .int .i64 ei, .string es, .slice eal enl ecl, .slice eam enm ecm] 60) (.cells #[.int .i64 fq, .string fn, .slice fma mf.length fmc, .int .i64 fk, .bool fb, .int .i64 fi, .string fs, .slice fal fnl fcl, .slice fam fnm fcm] 60)
  obtain ⟨d0, d1, d2, d3, d4, d5, d6, d7, d8⟩ := row9z hb1
  obtain ⟨g0, g1, g2, g3, g4, g5, g6, g7, g8⟩ := row9z hb2
  have HB := hmk B0
  clear hm hm' hv hv'
  by_cases hq : eq = fq
  case neg =>
    have y1 : (eq != fq) = true := by rw [bne_iff_ne]; exact hq
    have HF : Hid (oeE ⟨eq, en, me, ve⟩ ⟨fq, fn, mf, vf⟩ = cmpI eq fq) := by show _ = _; rw [oeE]; dsimp only; rw [if_neg hq]
    have c := hmk (icompare_any eq fq ((w.alloc (.cells #[.int .i64 eq, .string en, .slice ema me.length emc, .int .i64 ek, .bool eb, .int .i64 ei, .string es, .slice eal enl ecl, .slice eam enm ecm] 60)).alloc (.cells #[.int .i64 fq, .string fn, .slice fma mf.length fmc, .int .i64 fk, .bool fb, .int .i64 fi, .string fs, .slice fal fnl fcl, .slice fam fnm fcm] 60)))
    generalize oeE ⟨eq, en, me, ve⟩ ⟨fq, fn, mf, vf⟩ = RR at *
    clear hq
    go_enter Tryz.func53, Tryz.ntmps53
    go_wp2_with fail
    refine c.out.mono ?_
    rintro e w1 ⟨rfl, b1⟩
    go_wp2_with fail
    go_ret
    exact ⟨by rw [HF.out]; rfl, HB.out.trans (b1.mono HB.out.size)⟩
  subst hq
  by_cases h1 : eq = 1
  · have HF : Hid (oeE ⟨eq, en, me, ve⟩ ⟨eq, fn, mf, vf⟩ = cmpS en fn) := by show _ = _; rw [oeE]; dsimp only; rw [if_pos rfl, if_pos h1]
    generalize oeE ⟨eq, en, me, ve⟩ ⟨eq, fn, mf, vf⟩ = RR at *
    subst h1
    have c := hmk (scompare_any en fn ((w.alloc (.cells #[.int .i64 1, .string en, .slice ema me.length emc, .int .i64 ek, .bool eb, .int .i64 ei, .string es, .slice eal enl ecl, .slice eam enm ecm] 60)).alloc (.cells #[.int .i64 1, .string fn, .slice fma mf.length fmc, .int .i64 fk, .bool fb, .int .i64 fi, .string fs, .slice fal fnl fcl, .slice fam fnm fcm] 60)))
    go_enter Tryz.func53, Tryz.ntmps53
    go_wp2_with fail
    refine c.out.mono ?_
    rintro e w1 ⟨rfl, b1⟩
    go_wp2_with fail
    go_ret
    exact ⟨by rw [HF.out]; rfl, HB.out.trans (b1.mono HB.out.size)⟩
  have z1 : (eq == 1) = false := beq_eq_false_iff_ne.2 h1
  by_cases h2 : eq = 2
  · have HF : Hid (oeE ⟨eq, en, me, ve⟩ ⟨eq, fn, mf, vf⟩ = lexL omM me mf) := by show _ = _; rw [oeE]; dsimp only; rw [if_pos rfl, if_neg h1, if_pos h2]
    generalize oeE ⟨eq, en, me, ve⟩ ⟨eq, fn, mf, vf⟩ = RR at *
    clear h1 z1
    subst h2
    have c := hmk (okeys_any me mf S S' ema emc ebm eom fma fmc fbm fom ((w.alloc (.cells #[.int .i64 2, .string en, .slice ema me.length emc, .int .i64 ek, .bool eb, .int .i64 ei, .string es, .slice eal enl ecl, .slice eam enm ecm] 60)).alloc (.cells #[.int .i64 2, .string fn, .slice fma mf.length fmc, .int .i64 fk, .bool fb, .int .i64 fi, .string fs, .slice fal fnl fcl, .slice fam fnm fcm] 60)) hem (liesM_keep (fun h => h) (fun b hb => HB.out.block b (hS b hb)) (fun _ h => h) _ HM.out) hfm (liesM_keep (fun h => h) (fun b hb => HB.out.block b (hS' b hb)) (fun _ h => h) _ HM'.out) (fun b hb => Nat.lt_of_lt_of_le (hS b hb) HB.out.size) (fun b hb => Nat.lt_of_lt_of_le (hS' b hb) HB.out.size))
    go_enter Tryz.func53, Tryz.ntmps53
    go_wp2_with fail
    refine c.out.mono ?_
    rintro e w1 ⟨rfl, b1⟩
    go_wp2_with fail
    go_ret
    exact ⟨by rw [HF.out]; rfl, HB.out.trans (b1.mono HB.out.size)⟩
  have z2 : (eq == 2) = false := beq_eq_false_iff_ne.2 h2
  have HF : Hid (oeE ⟨eq, en, me, ve⟩ ⟨eq, fn, mf, vf⟩ = osB ek eb ei es fk fb fi fs) := by show _ = _; rw [oeE]; dsimp only; rw [if_pos rfl, if_neg h1, if_neg h2, HO.out]
  generalize oeE ⟨eq, en, me, ve⟩ ⟨eq, fn, mf, vf⟩ = RR at *
  have c := hmk (oscal_any ek eb ei es eal enl ecl eam enm ecm fk fb fi fs fal fnl fcl fam fnm fcm ((w.alloc (.cells #[.int .i64 eq, .string en, .slice ema me.length emc, .int .i64 ek, .bool eb, .int .i64 ei, .string es, .slice eal enl ecl, .slice eam enm ecm] 60)).alloc (.cells #[.int .i64 eq, .string fn, .slice fma mf.length fmc, .int .i64 fk, .bool fb, .int .i64 fi, .string fs, .slice fal fnl fcl, .slice fam fnm fcm] 60)))
  generalize osB ek eb ei es fk fb fi fs = ZZ at *
  clear h1 h2
  go_enter Tryz.func53, Tryz.ntmps53
  go_wp2_with fail
  refine c.out.mono ?_
  rintro e w1 ⟨rfl, b1⟩
  go_wp2_with fail
  go_ret
  exact ⟨by rw [HF.out]; rfl, HB.out.trans (b1.mono HB.out.size)⟩
set_option maxHeartbeats 4000000 in
set_option maxRecDepth 100000 in
theorem olex_any (a b : List El) (S S' : Nat → Prop) (aa : Option Addr) (ca ba oa : Nat) (ab : Option Addr) (cb bb ob : Nat) (w : World) (hha : Headed aa a.length ca ba oa) (hla : liesP w S a ba oa) (hhb : Headed ab b.length cb bb ob) (hlb : liesP w S' b bb ob) (hS : ∀ x, S x → x < w.heap.size) (hS' : ∀ x, S' x → x < w.heap.size) :
    Calls Tryz.prog 52 #[.slice aa a.length ca, .slice ab b.length cb, .func (.func 53) #[] #[]] w (JPost (lexL oeE a b) w) := by
  have HA := hmk hla
  have HB := hmk hlb
  clear hla hlb
  have hna : a.length ≤ 9223372036854775807 := Nat.le_trans hha.le hha.max
  have hnb : b.length ≤ 9223372036854775807 := Nat.le_trans hhb.le hhb.max
  have HR : Hid (lexL oeE a b = lexL oeE (a.drop 0) (b.drop 0)) := rfl
  generalize lexL oeE a b = RR at *
  go_enter Tryz.func52, Tryz.ntmps52
  go_wp2_with fail
  go_loopw [14] (fun e wr => ∃ j : Nat, (j ≤ a.length ∧ j ≤ b.length) ∧ e = .int .i64 (j : Int) ∧ Below w.heap.size w wr ∧ Hid (RR = lexL oeE (a.drop j) (b.drop j))) (fun e _ => a.length - (RowKit.intOf e).toNat)
  case atStart => exact ⟨0, by omega, rfl, Below.refl _ _, HR⟩
  case round =>
    clear HR
    obtain ⟨j, hj, rfl, bj, HR⟩ := hrel
    have hzr := bj.size
    by_cases hjl : j < a.length ∧ j < b.length
    · have y1 : (j : Int) < min (a.length : Int) (b.length : Int) := by omega
      have y2 : (j : Int) < a.length := by omega
      have y3 : (j : Int) < b.length := by omega
      obtain ⟨hSb, csj, hrow, hlj⟩ := HA.out j hjl.1
      obtain ⟨hSb', dsj, hrow', hlj'⟩ := HB.out j hjl.2
      obtain rfl : aa = some ⟨ba, oa, none⟩ := hha.at_.resolve_left (by omega)
      obtain rfl : ab = some ⟨bb, ob, none⟩ := hhb.at_.resolve_left (by omega)
      have hk0 : ∀ x, S x → wr.heap[x]? = w.heap[x]? := fun x hx => bj.block x (hS x hx)
      have hk1 : ∀ x, S' x → wr.heap[x]? = w.heap[x]? := fun x hx => bj.block x (hS' x hx)
      obtain ⟨eq, en, ema, eml, emc, ek, eb, ei, es, eal, enl, ecl, eam, enm, ecm, rfl⟩ := El.nine hlj
      obtain ⟨fq, fn, fma, fml, fmc, fk, fb, fi, fs, fal, fnl, fcl, fam, fnm, fcm, rfl⟩ := El.nine hlj'
      have rw0 := row9 (hrow.keep (hk0 _ hSb))
      have rw1 := row9 (hrow'.keep (hk1 _ hSb'))
      have hbl : ba < wr.heap.size := World.block_lt_of_cell? wr _ rw0.1
      have hbl' : bb < wr.heap.size := World.block_lt_of_cell? wr _ rw1.1
      have p0 : ∀ x : Sub wr.heap.size wr, _ := sub_cell rw0.1 hbl
      have p1 : ∀ x : Sub wr.heap.size wr, _ := sub_cell rw0.2.1 hbl
      have p2 : ∀ x : Sub wr.heap.size wr, _ := sub_cell rw0.2.2.1 hbl
      have p3 : ∀ x : Sub wr.heap.size wr, _ := sub_cell rw0.2.2.2.1 hbl
      have p4 : ∀ x : Sub wr.heap.size wr, _ := sub_cell rw0.2.2.2.2.1 hbl
      have p5 : ∀ x : Sub wr.heap.size wr, _ := sub_cell rw0.2.2.2.2.2.1 hbl
      have p6 : ∀ x : Sub wr.heap.size wr, _ := sub_cell rw0.2.2.2.2.2.2.1 hbl
      have p7 : ∀ x : Sub wr.heap.size wr, _ := sub_cell rw0.2.2.2.2.2.2.2.1 hbl
      have p8 : ∀ x : Sub wr.heap.size wr, _ := sub_cell rw0.2.2.2.2.2.2.2.2 hbl
      have q0 : ∀ x : Sub wr.heap.size wr, _ := sub_cell rw1.1 hbl'
      have q1 : ∀ x : Sub wr.heap.size wr, _ := sub_cell rw1.2.1 hbl'
      have q2 : ∀ x : Sub wr.heap.size wr, _ := sub_cell rw1.2.2.1 hbl'
      have q3 : ∀ x : Sub wr.heap.size wr, _ := sub_cell rw1.2.2.2.1 hbl'
      have q4 : ∀ x : Sub wr.heap.size wr, _ := sub_cell rw1.2.2.2.2.1 hbl'
      have q5 : ∀ x : Sub wr.heap.size wr, _ := sub_cell rw1.2.2.2.2.2.1 hbl'
      have q6 : ∀ x : Sub wr.heap.size wr, _ := sub_cell rw1.2.2.2.2.2.2.1 hbl'
      have q7 : ∀ x : Sub wr.heap.size wr, _ := sub_cell rw1.2.2.2.2.2.2.2.1 hbl'
      have q8 : ∀ x : Sub wr.heap.size wr, _ := sub_cell rw1.2.2.2.2.2.2.2.2 hbl'
      have CI : Hid (∀ x : Sub wr.heap.size wr, Calls Tryz.prog 53 #[.agg #[.int .i64 eq, .string en, .slice ema eml emc, .int .i64 ek, .bool eb, .int .i64 ei, .string es, .slice eal enl ecl, .slice eam enm ecm], .agg #[.int .i64 fq, .string fn, .slice fma fml fmc, .int .i64 fk, .bool fb, .int .i64 fi, .string fs, .slice fal fnl fcl, .slice fam fnm fcm]] x.w fun e w'' => e = .returned (.int .i64 (oeE (a[j]'(hjl.1)) (b[j]'(hjl.2)))) ∧ ∃ y : Sub wr.heap.size wr, w'' = y.w) :=
        sub_call fun w' hb => by
          refine (oelem_any (a[j]'(hjl.1)) (b[j]'(hjl.2)) S S' _ _ w' (El.lies_keep (fun x hx => (hb.block x (by have := hS x hx; omega)).trans (hk0 x hx)) (fun _ h => h) hlj) (El.lies_keep (fun x hx => (hb.block x (by have := hS' x hx; omega)).trans (hk1 x hx)) (fun _ h => h) hlj') (fun x hx => by have := hS x hx; have := hb.size; omega) (fun x hx => by have := hS' x hx; have := hb.size; omega)).mono ?_
          rintro e w'' ⟨he, h2⟩
          exact ⟨he, hb.trans (h2.mono hb.size)⟩
      have HD := hmk (lex_drop oeE hjl.1 hjl.2)
      generalize oeE (a[j]'(hjl.1)) (b[j]'(hjl.2)) = Z at *
      clear rw0 rw1 hlj hlj' hrow hrow' hk0 hk1
      go_wp2_with fail
      refine wp_region_sub wr.heap.size (by kernel_rfl) (by kernel_rfl) ?_
      repeat (go_big_quiet_step (exact CI.out _))
      refine wpQuiet_nil ?_
      rintro wq ⟨⟨wq', bq⟩, hq⟩
      have hq' : wq = wq' := hq
      subst hq'
      clear hq
      have BQ := hmk (bj.trans (bq.mono hzr))
      by_cases hZ : Z = 0
      · have HF : Hid (RR = lexL oeE (a.drop (j + 1)) (b.drop (j + 1))) := by show _ = _; rw [HR.out, HD.out, if_pos hZ]
        have y4 : (Z != 0) = false := by rw [hZ]; rfl
        clear hZ
        go_wp2_with fail
        go_roundw
        case rel => exact ⟨j + 1, by omega, by go_num, BQ.out, HF⟩
        case measure => simp [RowKit.intOf]; omega
      · have HF : Hid (RR = Z) := by show _ = _; rw [HR.out, HD.out, if_neg hZ]
        have y4 : (Z != 0) = true := by rw [bne_iff_ne]; exact hZ
        clear hZ
        go_wp2_with fail
        go_ret
        exact ⟨by rw [HF.out]; rfl, BQ.out⟩
    · have y1 : ¬ (j : Int) < min (a.length : Int) (b.length : Int) := by omega
      have HF : Hid (RR = cmpI a.length b.length) := by show _ = _; rw [HR.out, lex_end oeE hj.1 hj.2 hjl]
      have c := hmk (icompare_any a.length b.length wr)
      go_wp2_with fail
      refine c.out.mono ?_
      rintro e w1 ⟨rfl, b1⟩
      go_wp2_with fail
      go_ret
      exact ⟨by rw [HF.out]; rfl, bj.trans (b1.mono hzr)⟩
set_option maxHeartbeats 4000000 in
theorem opaths_any (a b : List El) (S S' : Nat → Prop) (aa : Option Addr) (ca ba oa : Nat) (ab : Option Addr) (cb bb ob : Nat) (w : World) (hha : Headed aa a.length ca ba oa) (hla : liesP w S a ba oa) (hhb : Headed ab b.length cb bb ob) (hlb : liesP w S' b bb ob) (hS : ∀ x, S x → x < w.heap.size) (hS' : ∀ x, S' x → x < w.heap.size) :
    Calls Tryz.prog 33 #[.slice aa a.length ca, .slice ab b.length cb] w (JPost (lexL oeE a b) w) := by
  have c := hmk (olex_any a b S S' aa ca ba oa ab cb bb ob w hha hla hhb hlb hS hS')
  clear hla hlb
  generalize lexL oeE a b = RR at *
  go_enter Tryz.func33, Tryz.ntmps33
  go_wp2_with fail
  refine c.out.mono ?_
  rintro e w1 ⟨rfl, b1⟩
  go_wp2_with fail
  go_ret
  exact ⟨rfl, b1⟩
end Go.Proofs.YtfekgeaopchilaaGreatDoor
