import Derived.Test.YtfbmmilphcnolaaDoorOdrP
/- Compare, Above: the program's and the document's. -/
set_option linter.unusedSimpArgs false
set_option linter.unusedVariables false
namespace Go.Proofs.YtfbmmilphcnolaaDoor
open Go.RowKit Go.Lib
theorem errP_yes {p : List El} (h : pathB p = true) : errP p = 0 := by rw [errP, if_pos h]
theorem errP_no {p : List El} (h : pathB p = false) : errP p = 90 := by rw [errP, if_neg (by rw [h]; simp)]
/-- the order of two paths -/
def cmpP (a b : List El) : Int := if pathB a = true ∧ pathB b = true then lexL reE a b else 0
theorem cmpP_no {a b : List El} (h : ¬ (pathB a = true ∧ pathB b = true)) : cmpP a b = 0 := by rw [cmpP, if_neg h]
theorem cmpP_yes {a b : List El} (h : pathB a = true) (h' : pathB b = true) : cmpP a b = lexL reE a b := by rw [cmpP, if_pos ⟨h, h'⟩]
set_option maxHeartbeats 8000000 in
set_option maxRecDepth 100000 in
theorem rcmpP_any (a b : List El) (S S' : Nat → Prop) (aa : Option Addr) (ca ba oa : Nat) (ab : Option Addr) (cb bb ob : Nat) (w : World) (hha : Headed aa a.length ca ba oa) (hla : liesP w S a ba oa) (hhb : Headed ab b.length cb bb ob) (hlb : liesP w S' b bb ob) (hS : ∀ x, S x → x < w.heap.size) (hS' : ∀ x, S' x → x < w.heap.size) (hwa : wtP a ≤ 2147483647) (hwb : wtP b ≤ 2147483647) :
    Calls Tryd.prog 51 #[.slice aa a.length ca, .slice ab b.length cb] w (JPost (cmpP a b) w) := by
  have HA := hmk hla
  have HB := hmk hlb
  clear hla hlb
  have hna : a.length ≤ 9223372036854775807 := Nat.le_trans hha.le hha.max
  have hnb : b.length ≤ 9223372036854775807 := Nat.le_trans hhb.le hhb.max
  have ca_ := hmk (rpcheck_any a S aa ca ba oa w hha HA.out hS hwa)
  cases ha : pathB a with
  | false =>
    have ya : (((errP a : Nat) : Int) != 0) = true := by rw [errP_no ha]; rfl
    generalize errP a = Ea at *
    go_enter Tryd.func51, Tryd.ntmps51
    go_wp2_with fail
    refine ca_.out.mono ?_
    rintro e w1 ⟨rfl, b1⟩
    go_wp2_with fail
    go_ret
    exact ⟨by rw [cmpP_no (by rw [ha]; simp)]; rfl, b1⟩
  | true =>
  cases hb : pathB b with
  | false =>
    have ya : (((errP a : Nat) : Int) != 0) = false := by rw [errP_yes ha]; rfl
    have yb : (((errP b : Nat) : Int) != 0) = true := by rw [errP_no hb]; rfl
    have cb_ : Hid (∀ W, Below w.heap.size w W → Calls Tryd.prog 32 #[.slice ab b.length cb] W (NPost (errP b) W)) := fun W h => rpcheck_any b S' ab cb bb ob W hhb (liesP_keep (fun x hx => h.block x (hS' x hx)) (fun _ h => h) HB.out) (fun x hx => Nat.lt_of_lt_of_le (hS' x hx) h.size) hwb
    generalize errP a = Ea at *
    generalize errP b = Eb at *
    go_enter Tryd.func51, Tryd.ntmps51
    go_wp2_with fail
    refine ca_.out.mono ?_
    rintro e w1 ⟨rfl, b1⟩
    go_wp2_with fail
    refine (cb_.out w1 b1).mono ?_
    rintro e w2 ⟨rfl, b2⟩
    have b2' := b1.trans (b2.mono b1.size)
    go_wp2_with fail
    go_ret
    exact ⟨by rw [cmpP_no (by rw [hb]; simp)]; rfl, b2'⟩
  | true =>
    have ya : (((errP a : Nat) : Int) != 0) = false := by rw [errP_yes ha]; rfl
    have yb : (((errP b : Nat) : Int) != 0) = false := by rw [errP_yes hb]; rfl
    have cb_ : Hid (∀ W, Below w.heap.size w W → Calls Tryd.prog 32 #[.slice ab b.length cb] W (NPost (errP b) W)) := fun W h => rpcheck_any b S' ab cb bb ob W hhb (liesP_keep (fun x hx => h.block x (hS' x hx)) (fun _ h => h) HB.out) (fun x hx => Nat.lt_of_lt_of_le (hS' x hx) h.size) hwb
    generalize errP a = Ea at *
    generalize errP b = Eb at *
    go_enter Tryd.func51, Tryd.ntmps51
    go_wp2_with fail
    refine ca_.out.mono ?_
    rintro e w1 ⟨rfl, b1⟩
    go_wp2_with fail
    refine (cb_.out w1 b1).mono ?_
    rintro e w2 ⟨rfl, b2⟩
    have b2' := b1.trans (b2.mono b1.size)
    clear b1 b2 ca_ cb_
    have HC := hmk (cmpP_yes ha hb)
    generalize cmpP a b = RR at *
    clear ha hb
    go_wp2_with fail
    go_loopw [5] (fun e wr => ∃ j : Nat, (j ≤ a.length ∧ j ≤ b.length) ∧ e = .int .i64 (j : Int) ∧ Below w.heap.size w wr ∧ Hid (lexL reE a b = lexL reE (a.drop j) (b.drop j))) (fun e _ => a.length - (RowKit.intOf e).toNat)
    case atStart => exact ⟨0, by omega, rfl, b2', rfl⟩
    case round =>
      clear b2'
      obtain ⟨j, hj, rfl, bj, HR⟩ := hrel
      have hzr := bj.size
      by_cases hjl : j < a.length ∧ j < b.length
      · have y2 : (j : Int) < a.length := by omega
        have y3 : (j : Int) < b.length := by omega
        obtain ⟨hSb, csj, hrow, hlj⟩ := HA.out j hjl.1
        obtain ⟨hSb', dsj, hrow', hlj'⟩ := HB.out j hjl.2
        obtain rfl : aa = some ⟨ba, oa, none⟩ := hha.at_.resolve_left (by omega)
        obtain rfl : ab = some ⟨bb, ob, none⟩ := hhb.at_.resolve_left (by omega)
        have hk0 : ∀ x, S x → wr.heap[x]? = w.heap[x]? := fun x hx => bj.block x (hS x hx)
        have hk1 : ∀ x, S' x → wr.heap[x]? = w.heap[x]? := fun x hx => bj.block x (hS' x hx)
        have hwx : (a[j]'(hjl.1)).wt ≤ 2147483647 := by have := wtP_mem (List.getElem_mem hjl.1); omega
        have hwy : (b[j]'(hjl.2)).wt ≤ 2147483647 := by have := wtP_mem (List.getElem_mem hjl.2); omega
        obtain ⟨eq, en, ema, eml, emc, ek, eb, ei, es, eal, enl, ecl, eam, enm, ecm, rfl⟩ := El.nine hlj
        obtain ⟨fq, fn, fma, fml, fmc, fk, fb, fi, fs, fal, fnl, fcl, fam, fnm, fcm, rfl⟩ := El.nine hlj'
        have rw0 := row9 (hrow.keep (hk0 _ hSb))
        have rw1 := row9 (hrow'.keep (hk1 _ hSb'))
        have hbl : ba < wr.heap.size := World.block_lt_of_cell? wr _ rw0.1
        have hbl' : bb < wr.heap.size := World.block_lt_of_cell? wr _ rw1.1
        have p0 : ∀ x : Sub wr.heap.size wr, _ := sub_cell rw0.1 hbl
        have p1 : ∀ x : Sub wr.heap.size wr, _ := sub_cell rw0.2.1 hbl
        have p2 : ∀ x : Sub wr.heap.size wr, _ := sub_cell rw0.2.2.1 hbl
        have p3 : ∀ x : Sub wr.heap.size wr, _ := sub_cell rw0.2.2.2.1 hbl
        have p4 : ∀ x : Sub wr.heap.size wr, _ := sub_cell rw0.2.2.2.2.1 hbl
        have p5 : ∀ x : Sub wr.heap.size wr, _ := sub_cell rw0.2.2.2.2.2.1 hbl
        have p6 : ∀ x : Sub wr.heap.size wr, _ := sub_cell rw0.2.2.2.2.2.2.1 hbl
        have p7 : ∀ x : Sub wr.heap.size wr, _ := sub_cell rw0.2.2.2.2.2.2.2.1 hbl
        have p8 : ∀ x : Sub wr.heap.size wr, _ := sub_cell rw0.2.2.2.2.2.2.2.2 hbl
        have q0 : ∀ x : Sub wr.heap.size wr, _ := sub_cell rw1.1 hbl'
        have q1 : ∀ x : Sub wr.heap.size wr, _ := sub_cell rw1.2.1 hbl'
        have q2 : ∀ x : Sub wr.heap.size wr, _ := sub_cell rw1.2.2.1 hbl'
        have q3 : ∀ x : Sub wr.heap.size wr, _ := sub_cell rw1.2.2.2.1 hbl'
        have q4 : ∀ x : Sub wr.heap.size wr, _ := sub_cell rw1.2.2.2.2.1 hbl'
        have q5 : ∀ x : Sub wr.heap.size wr, _ := sub_cell rw1.2.2.2.2.2.1 hbl'
        have q6 : ∀ x : Sub wr.heap.size wr, _ := sub_cell rw1.2.2.2.2.2.2.1 hbl'
        have q7 : ∀ x : Sub wr.heap.size wr, _ := sub_cell rw1.2.2.2.2.2.2.2.1 hbl'
        have q8 : ∀ x : Sub wr.heap.size wr, _ := sub_cell rw1.2.2.2.2.2.2.2.2 hbl'
        have CI : Hid (∀ x : Sub wr.heap.size wr, Calls Tryd.prog 69 #[.agg #[.int .i64 eq, .string en, .slice ema eml emc, .int .i64 ek, .bool eb, .int .i64 ei, .string es, .slice eal enl ecl, .slice eam enm ecm], .agg #[.int .i64 fq, .string fn, .slice fma fml fmc, .int .i64 fk, .bool fb, .int .i64 fi, .string fs, .slice fal fnl fcl, .slice fam fnm fcm]] x.w fun e w'' => e = .returned (.int .i64 (reE (a[j]'(hjl.1)) (b[j]'(hjl.2)))) ∧ ∃ y : Sub wr.heap.size wr, w'' = y.w) :=
          sub_call fun w' hb => by
            refine (relems_any (a[j]'(hjl.1)) (b[j]'(hjl.2)) S S' _ _ w' (El.lies_keep (fun x hx => (hb.block x (by have := hS x hx; omega)).trans (hk0 x hx)) (fun _ h => h) hlj) (El.lies_keep (fun x hx => (hb.block x (by have := hS' x hx; omega)).trans (hk1 x hx)) (fun _ h => h) hlj') (fun x hx => by have := hS x hx; have := hb.size; omega) (fun x hx => by have := hS' x hx; have := hb.size; omega) hwx hwy).mono ?_
            rintro e w'' ⟨he, h2⟩
            exact ⟨he, hb.trans (h2.mono hb.size)⟩
        have HD : Hid (lexL reE (a.drop j) (b.drop j) = if reE (a[j]'(hjl.1)) (b[j]'(hjl.2)) = 0 then lexL reE (a.drop (j + 1)) (b.drop (j + 1)) else reE (a[j]'(hjl.1)) (b[j]'(hjl.2))) := by
          show _ = _
          rw [lex_drop reE hjl.1 (show j < b.length by omega)]
        generalize reE (a[j]'(hjl.1)) (b[j]'(hjl.2)) = Z at *
        clear rw0 rw1 hlj hlj' hrow hrow' hk0 hk1
        go_wp2_with fail
        refine wp_region_sub wr.heap.size (by kernel_rfl) (by kernel_rfl) ?_
        repeat (go_big_quiet_step (exact CI.out _))
        refine wpQuiet_nil ?_
        rintro wq ⟨⟨wq', bq⟩, hq⟩
        have hq' : wq = wq' := hq
        subst hq'
        clear hq
        have BQ := hmk (bj.trans (bq.mono hzr))
        by_cases hZ : Z = 0
        · have HF : Hid (lexL reE a b = lexL reE (a.drop (j + 1)) (b.drop (j + 1))) := by show _ = _; rw [HR.out, HD.out, if_pos hZ]
          have y4 : (Z != 0) = false := by rw [hZ]; rfl
          clear hZ
          go_wp2_with fail
          go_roundw
          case rel => exact ⟨j + 1, ⟨by omega, by omega⟩, by go_num, BQ.out, HF⟩
          case measure => simp [RowKit.intOf]; omega
        · have HF : Hid (lexL reE a b = Z) := by show _ = _; rw [HR.out, HD.out, if_neg hZ]
          have y4 : (Z != 0) = true := by rw [bne_iff_ne]; exact hZ
          have HZ := hmk hZ
          clear hZ
          go_wp2_with fail
          go_ret
          exact ⟨by rw [HC.out, HF.out]; rfl, BQ.out⟩
      · have HF : Hid (lexL reE a b = cmpI a.length b.length) := by show _ = _; rw [HR.out, lex_end reE hj.1 hj.2 hjl]
        have c := hmk (rlens_any a.length b.length wr)
        have BJ := hmk bj
        by_cases h1 : j < a.length
        · have y2 : (j : Int) < a.length := by omega
          have y3 : ¬ (j : Int) < b.length := by omega
          go_wp2_with fail
          refine c.out.mono ?_
          rintro e w1 ⟨rfl, b1⟩
          go_wp2_with fail
          go_ret
          exact ⟨by rw [HC.out, HF.out]; rfl, BJ.out.trans (b1.mono hzr)⟩
        · have y2 : ¬ (j : Int) < a.length := by omega
          go_wp2_with fail
          refine c.out.mono ?_
          rintro e w1 ⟨rfl, b1⟩
          go_wp2_with fail
          go_ret
          exact ⟨by rw [HC.out, HF.out]; rfl, BJ.out.trans (b1.mono hzr)⟩
end Go.Proofs.YtfbmmilphcnolaaDoor
