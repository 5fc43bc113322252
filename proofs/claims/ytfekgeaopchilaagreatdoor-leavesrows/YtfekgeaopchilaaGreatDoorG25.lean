/- joined: OdcP AbvR -/
import Derived.Test.YtfekgeaopchilaaGreatDoorOdrP
/- Compare, Above: the program's and the document's. -/
set_option linter.unusedSimpArgs false
set_option linter.unusedVariables false
namespace Go.Proofs.YtfekgeaopchilaaGreatDoor
open Go.RowKit Go.Lib
theorem errP_yes {p : List El} (h : pathB p = true) : errP p = 0 := by rw [errP, if_pos h]
theorem errP_no {p : List El} (h : pathB p = false) : errP p = 90 := by rw [errP, if_neg (by rw [h]; simp)]
/-- the order of two paths -/
def cmpP (a b : List El) : Int := if pathB a = true ∧ pathB b = true then lexL reE a b else 0
def abvP (a b : List El) : Bool := if pathB a = true ∧ pathB b = true ∧ a.length ≤ b.length then decide (lexL reE a (b.take a.length) = 0) else false
theorem cmpP_no {a b : List El} (h : ¬ (pathB a = true ∧ pathB b = true)) : cmpP a b = 0 := by rw [cmpP, if_neg h]
theorem cmpP_yes {a b : List El} (h : pathB a = true) (h' : pathB b = true) : cmpP a b = lexL reE a b := by rw [cmpP, if_pos ⟨h, h'⟩]
theorem abvP_no {a b : List El} (h : ¬ (pathB a = true ∧ pathB b = true)) : abvP a b = false := by rw [abvP, if_neg (fun h2 => h ⟨h2.1, h2.2.1⟩)]
theorem abvP_len {a b : List El} (h : ¬ a.length ≤ b.length) : abvP a b = false := by rw [abvP, if_neg (fun h2 => h h2.2.2)]
theorem abvP_yes {a b : List El} (h : pathB a = true) (h' : pathB b = true) (h2 : a.length ≤ b.length) : abvP a b = decide (lexL reE a (b.take a.length) = 0) := by rw [abvP, if_pos ⟨h, h', h2⟩]
set_option maxHeartbeats 8000000 in
set_option maxRecDepth 100000 in
theorem rcmpP_any (a b : List El) (S S' : Nat → Prop) (aa : Option Addr) (ca ba oa : Nat) (ab : Option Addr) (cb bb ob : Nat) (w : World) (hha : Headed aa a.length ca ba oa) (hla : liesP w S a ba oa) (hhb : Headed ab b.length cb bb ob) (hlb : liesP w S' b bb ob) (hS : ∀ x, S x → x < w.heap.size) (hS' : ∀ x, S' x → x < w.heap.size) (hwa : wtP a ≤ 2147483647) (hwb : wtP b ≤ 2147483647) :
    Calls Tryz.prog 28 #[.slice aa a.length ca, .slice ab b.length cb] w (JPost (cmpP a b) w) := by
  have HA := hmk hla
  have HB := hmk hlb
  clear hla hlb
  have hna : a.length ≤ 9223372036854775807 := Nat.le_trans hha.le hha.max
  have hnb : b.length ≤ 9223372036854775807 := Nat.le_trans hhb.le hhb.max
  have ca_ := hmk (rpcheck_any a S aa ca ba oa w hha HA.out hS hwa)
  cases ha : pathB a with
  | false =>
    have ya : (((errP a : Nat) : Int) != 0) = true := by rw [errP_no ha]; rfl
    generalize errP a = Ea at *
    go_enter Tryz.func28, Tryz.ntmps28
    go_wp2_with fail
    refine ca_.out.mono ?_
    rintro e w1 ⟨rfl, b1⟩
    go_wp2_with fail
    go_ret
    exact ⟨by rw [cmpP_no (by rw [ha]; simp)]; rfl, b1⟩
  | true =>
  cases hb : pathB b with
  | false =>
    have ya : (((errP a : Nat) : Int) != 0) = false := by rw [errP_yes ha]; rfl
    have yb : (((errP b : Nat) : Int) != 0) = true := by rw [errP_no hb]; rfl
    have cb_ : Hid (∀ W, Below w.heap.size w W → Calls Tryz.prog 27 #[.slice ab b.length cb] W (NPost (errP b) W)) := fun W h => rpcheck_any b S' ab cb bb ob W hhb (liesP_keep (fun x hx => h.block x (hS' x hx)) (fun _ h => h) HB.out) (fun x hx => Nat.lt_of_lt_of_le (hS' x hx) h.size) hwb
    generalize errP a = Ea at *
    generalize errP b = Eb at *
    go_enter Tryz.func28, Tryz.ntmps28
    go_wp2_with fail
    refine ca_.out.mono ?_
    rintro e w1 ⟨rfl, b1⟩
    go_wp2_with fail
    refine (cb_.out w1 b1).mono ?_
    rintro e w2 ⟨rfl, b2⟩
    have b2' := b1.trans (b2.mono b1.size)
    go_wp2_with fail
    go_ret
    exact ⟨by rw [cmpP_no (by rw [hb]; simp)]; rfl, b2'⟩
  | true =>
    have ya : (((errP a : Nat) : Int) != 0) = false := by rw [errP_yes ha]; rfl
    have yb : (((errP b : Nat) : Int) != 0) = false := by rw [errP_yes hb]; rfl
    have cb_ : Hid (∀ W, Below w.heap.size w W → Calls Tryz.prog 27 #[.slice ab b.length cb] W (NPost (errP b) W)) := fun W h => rpcheck_any b S' ab cb bb ob W hhb (liesP_keep (fun x hx => h.block x (hS' x hx)) (fun _ h => h) HB.out) (fun x hx => Nat.lt_of_lt_of_le (hS' x hx) h.size) hwb
    generalize errP a = Ea at *
    generalize errP b = Eb at *
    go_enter Tryz.func28, Tryz.ntmps28
    go_wp2_with fail
    refine ca_.out.mono ?_
    rintro e w1 ⟨rfl, b1⟩
    go_wp2_with fail
    refine (cb_.out w1 b1).mono ?_
    rintro e w2 ⟨rfl, b2⟩
    have b2' := b1.trans (b2.mono b1.size)
    clear b1 b2 ca_ cb_
    have HC := hmk (cmpP_yes ha hb)
    generalize cmpP a b = RR at *
    clear ha hb
    go_wp2_with fail
    go_loopw [5] (fun e wr => ∃ j : Nat, (j ≤ a.length ∧ j ≤ b.length) ∧ e = .int .i64 (j : Int) ∧ Below w.heap.size w wr ∧ Hid (lexL reE a b = lexL reE (a.drop j) (b.drop j))) (fun e _ => a.length - (RowKit.intOf e).toNat)
    case atStart => exact ⟨0, by omega, rfl, b2', rfl⟩
    case round =>
      clear b2'
      obtain ⟨j, hj, rfl, bj, HR⟩ := hrel
      have hzr := bj.size
      by_cases hjl : j < a.length ∧ j < b.length
      · have y2 : (j : Int) < a.length := by omega
        have y3 : (j : Int) < b.length := by omega
        obtain ⟨hSb, csj, hrow, hlj⟩ := HA.out j hjl.1
        obtain ⟨hSb', dsj, hrow', hlj'⟩ := HB.out j hjl.2
        obtain rfl : aa = some ⟨ba, oa, none⟩ := hha.at_.resolve_left (by omega)
        obtain rfl : ab = some ⟨bb, ob, none⟩ := hhb.at_.resolve_left (by omega)
        have hk0 : ∀ x, S x → wr.heap[x]? = w.heap[x]? := fun x hx => bj.block x (hS x hx)
        have hk1 : ∀ x, S' x → wr.heap[x]? = w.heap[x]? := fun x hx => bj.block x (hS' x hx)
        have hwx : (a[j]'(hjl.1)).wt ≤ 2147483647 := by have := wtP_mem (List.getElem_mem hjl.1); omega
        have hwy : (b[j]'(hjl.2)).wt ≤ 2147483647 := by have := wtP_mem (List.getElem_mem hjl.2); omega
        obtain ⟨eq, en, ema, eml, emc, ek, eb, ei, es, eal, enl, ecl, eam, enm, ecm, rfl⟩ := El.nine hlj
        obtain ⟨fq, fn, fma, fml, fmc, fk, fb, fi, fs, fal, fnl, fcl, fam, fnm, fcm, rfl⟩ := El.nine hlj'
        have rw0 := row9 (hrow.keep (hk0 _ hSb))
        have rw1 := row9 (hrow'.keep (hk1 _ hSb'))
        have hbl : ba < wr.heap.size := World.block_lt_of_cell? wr _ rw0.1
        have hbl' : bb < wr.heap.size := World.block_lt_of_cell? wr _ rw1.1
        have p0 : ∀ x : Sub wr.heap.size wr, _ := sub_cell rw0.1 hbl
        have p1 : ∀ x : Sub wr.heap.size wr, _ := sub_cell rw0.2.1 hbl
        have p2 : ∀ x : Sub wr.heap.size wr, _ := sub_cell rw0.2.2.1 hbl
        have p3 : ∀ x : Sub wr.heap.size wr, _ := sub_cell rw0.2.2.2.1 hbl
        have p4 : ∀ x : Sub wr.heap.size wr, _ := sub_cell rw0.2.2.2.2.1 hbl
        have p5 : ∀ x : Sub wr.heap.size wr, _ := sub_cell rw0.2.2.2.2.2.1 hbl
        have p6 : ∀ x : Sub wr.heap.size wr, _ := sub_cell rw0.2.2.2.2.2.2.1 hbl
        have p7 : ∀ x : Sub wr.heap.size wr, _ := sub_cell rw0.2.2.2.2.2.2.2.1 hbl
        have p8 : ∀ x : Sub wr.heap.size wr, _ := sub_cell rw0.2.2.2.2.2.2.2.2 hbl
        have q0 : ∀ x : Sub wr.heap.size wr, _ := sub_cell rw1.1 hbl'
        have q1 : ∀ x : Sub wr.heap.size wr, _ := sub_cell rw1.2.1 hbl'
        have q2 : ∀ x : Sub wr.heap.size wr, _ := sub_cell rw1.2.2.1 hbl'
        have q3 : ∀ x : Sub wr.heap.size wr, _ := sub_cell rw1.2.2.2.1 hbl'
        have q4 : ∀ x : Sub wr.heap.size wr, _ := sub_cell rw1.2.2.2.2.1 hbl'
        have q5 : ∀ x : Sub wr.heap.size wr, _ := sub_cell rw1.2.2.2.2.2.1 hbl'
        have q6 : ∀ x : Sub wr.heap.size wr, _ := sub_cell rw1.2.2.2.2.2.2.1 hbl'
        have q7 : ∀ x : Sub wr.heap.size wr, _ := sub_cell rw1.2.2.2.2.2.2.2.1 hbl'
        have q8 : ∀ x : Sub wr.heap.size wr, _ := sub_cell rw1.2.2.2.2.2.2.2.2 hbl'
        have CI : Hid (∀ x : Sub wr.heap.size wr, Calls Tryz.prog 44 #[.agg #[.int .i64 eq, .string en, .slice ema eml emc, .int .i64 ek, .bool eb, .int .i64 ei, .string es, .slice eal enl ecl, .slice eam enm ecm], .agg #[.int .i64 fq, .string fn, .slice fma fml fmc, .int .i64 fk, .bool fb, .int .i64 fi, .string fs, .slice fal fnl fcl, .slice fam fnm fcm]] x.w fun e w'' => e = .returned (.int .i64 (reE (a[j]'(hjl.1)) (b[j]'(hjl.2)))) ∧ ∃ y : Sub wr.heap.size wr, w'' = y.w) :=
          sub_call fun w' hb => by
            refine (relems_any (a[j]'(hjl.1)) (b[j]'(hjl.2)) S S' _ _ w' (El.lies_keep (fun x hx => (hb.block x (by have := hS x hx; omega)).trans (hk0 x hx)) (fun _ h => h) hlj) (El.lies_keep (fun x hx => (hb.block x (by have := hS' x hx; omega)).trans (hk1 x hx)) (fun _ h => h) hlj') (fun x hx => by have := hS x hx; have := hb.size; omega) (fun x hx => by have := hS' x hx; have := hb.size; omega) hwx hwy).mono ?_
            rintro e w'' ⟨he, h2⟩
            exact ⟨he, hb.trans (h2.mono hb.size)⟩
        have HD : Hid (lexL reE (a.drop j) (b.drop j) = if reE (a[j]'(hjl.1)) (b[j]'(hjl.2)) = 0 then lexL reE (a.drop (j + 1)) (b.drop (j + 1)) else reE (a[j]'(hjl.1)) (b[j]'(hjl.2))) := by
          show _ = _
          rw [lex_drop reE hjl.1 (show j < b.length by omega)]
        generalize reE (a[j]'(hjl.1)) (b[j]'(hjl.2)) = Z at *
        clear rw0 rw1 hlj hlj' hrow hrow' hk0 hk1
        go_wp2_with fail
        refine wp_region_sub wr.heap.size (by kernel_rfl) (by kernel_rfl) ?_
        repeat (go_big_quiet_step (exact CI.out _))
        refine wpQuiet_nil ?_
        rintro wq ⟨⟨wq', bq⟩, hq⟩
        have hq' : wq = wq' := hq
        subst hq'
        clear hq
        have BQ := hmk (bj.trans (bq.mono hzr))
        by_cases hZ : Z = 0
        · have HF : Hid (lexL reE a b = lexL reE (a.drop (j + 1)) (b.drop (j + 1))) := by show _ = _; rw [HR.out, HD.out, if_pos hZ]
          have y4 : (Z != 0) = false := by rw [hZ]; rfl
          clear hZ
          go_wp2_with fail
          go_roundw
          case rel => exact ⟨j + 1, ⟨by omega, by omega⟩, by go_num, BQ.out, HF⟩
          case measure => simp [RowKit.intOf]; omega
        · have HF : Hid (lexL reE a b = Z) := by show _ = _; rw [HR.out, HD.out, if_neg hZ]
          have y4 : (Z != 0) = true := by rw [bne_iff_ne]; exact hZ
          have HZ := hmk hZ
          clear hZ
          go_wp2_with fail
          go_ret
          exact ⟨by rw [HC.out, HF.out]; rfl, BQ.out⟩
      · have HF : Hid (lexL reE a b = cmpI a.length b.length) := by show _ = _; rw [HR.out, lex_end reE hj.1 hj.2 hjl]
        have c := hmk (rlens_any a.length b.length wr)
        have BJ := hmk bj
        by_cases h1 : j < a.length
        · have y2 : (j : Int) < a.length := by omega
          have y3 : ¬ (j : Int) < b.length := by omega
          go_wp2_with fail
          refine c.out.mono ?_
          rintro e w1 ⟨rfl, b1⟩
          go_wp2_with fail
          go_ret
          exact ⟨by rw [HC.out, HF.out]; rfl, BJ.out.trans (b1.mono hzr)⟩
        · have y2 : ¬ (j : Int) < a.length := by omega
          go_wp2_with fail
          refine c.out.mono ?_
          rintro e w1 ⟨rfl, b1⟩
          go_wp2_with fail
          go_ret
          exact ⟨by rw [HC.out, HF.out]; rfl, BJ.out.trans (b1.mono hzr)⟩
set_option maxHeartbeats 8000000 in
set_option maxRecDepth 100000 in
theorem rabvP_any (a b : List El) (S S' : Nat → Prop) (aa : Option Addr) (ca ba oa : Nat) (ab : Option Addr) (cb bb ob : Nat) (w : World) (hha : Headed aa a.length ca ba oa) (hla : liesP w S a ba oa) (hhb : Headed ab b.length cb bb ob) (hlb : liesP w S' b bb ob) (hS : ∀ x, S x → x < w.heap.size) (hS' : ∀ x, S' x → x < w.heap.size) (hwa : wtP a ≤ 2147483647) (hwb : wtP b ≤ 2147483647) :
    Calls Tryz.prog 38 #[.slice aa a.length ca, .slice ab b.length cb] w (BPost (abvP a b) w) := by
  have HA := hmk hla
  have HB := hmk hlb
  clear hla hlb
  have hna : a.length ≤ 9223372036854775807 := Nat.le_trans hha.le hha.max
  have hnb : b.length ≤ 9223372036854775807 := Nat.le_trans hhb.le hhb.max
  have ca_ := hmk (rpcheck_any a S aa ca ba oa w hha HA.out hS hwa)
  cases ha : pathB a with
  | false =>
    have ya : (((errP a : Nat) : Int) != 0) = true := by rw [errP_no ha]; rfl
    generalize errP a = Ea at *
    go_enter Tryz.func38, Tryz.ntmps38
    go_wp2_with fail
    refine ca_.out.mono ?_
    rintro e w1 ⟨rfl, b1⟩
    go_wp2_with fail
    go_ret
    exact ⟨by rw [abvP_no (by rw [ha]; simp)]; rfl, b1⟩
  | true =>
  cases hb : pathB b with
  | false =>
    have ya : (((errP a : Nat) : Int) != 0) = false := by rw [errP_yes ha]; rfl
    have yb : (((errP b : Nat) : Int) != 0) = true := by rw [errP_no hb]; rfl
    have cb_ : Hid (∀ W, Below w.heap.size w W → Calls Tryz.prog 27 #[.slice ab b.length cb] W (NPost (errP b) W)) := fun W h => rpcheck_any b S' ab cb bb ob W hhb (liesP_keep (fun x hx => h.block x (hS' x hx)) (fun _ h => h) HB.out) (fun x hx => Nat.lt_of_lt_of_le (hS' x hx) h.size) hwb
    generalize errP a = Ea at *
    generalize errP b = Eb at *
    go_enter Tryz.func38, Tryz.ntmps38
    go_wp2_with fail
    refine ca_.out.mono ?_
    rintro e w1 ⟨rfl, b1⟩
    go_wp2_with fail
    refine (cb_.out w1 b1).mono ?_
    rintro e w2 ⟨rfl, b2⟩
    have b2' := b1.trans (b2.mono b1.size)
    go_wp2_with fail
    go_ret
    exact ⟨by rw [abvP_no (by rw [hb]; simp)]; rfl, b2'⟩
  | true =>
    have ya : (((errP a : Nat) : Int) != 0) = false := by rw [errP_yes ha]; rfl
    have yb : (((errP b : Nat) : Int) != 0) = false := by rw [errP_yes hb]; rfl
    have cb_ : Hid (∀ W, Below w.heap.size w W → Calls Tryz.prog 27 #[.slice ab b.length cb] W (NPost (errP b) W)) := fun W h => rpcheck_any b S' ab cb bb ob W hhb (liesP_keep (fun x hx => h.block x (hS' x hx)) (fun _ h => h) HB.out) (fun x hx => Nat.lt_of_lt_of_le (hS' x hx) h.size) hwb
    generalize errP a = Ea at *
    generalize errP b = Eb at *
    go_enter Tryz.func38, Tryz.ntmps38
    go_wp2_with fail
    refine ca_.out.mono ?_
    rintro e w1 ⟨rfl, b1⟩
    go_wp2_with fail
    refine (cb_.out w1 b1).mono ?_
    rintro e w2 ⟨rfl, b2⟩
    have b2' := b1.trans (b2.mono b1.size)
    clear b1 b2 ca_ cb_
    by_cases hlen : a.length ≤ b.length
    case neg =>
      have HF := hmk (abvP_len hlen)
      have y8 : (b.length : Int) < a.length := by omega
      go_wp2_with fail
      go_ret
      exact ⟨by rw [HF.out]; rfl, b2'⟩
    have y8 : ¬ (b.length : Int) < a.length := by omega
    have HC := hmk (abvP_yes ha hb hlen)
    have htl : (b.take a.length).length = a.length := by simp; omega
    have HTL := hmk htl
    generalize abvP a b = RR at *
    clear ha hb htl
    go_wp2_with fail
    go_loopw [5] (fun e wr => ∃ j : Nat, (j ≤ a.length ∧ j ≤ (b.take a.length).length) ∧ e = .int .i64 (j : Int) ∧ Below w.heap.size w wr ∧ Hid (lexL reE a (b.take a.length) = lexL reE (a.drop j) ((b.take a.length).drop j))) (fun e _ => a.length - (RowKit.intOf e).toNat)
    case atStart => exact ⟨0, by omega, rfl, b2', rfl⟩
    case round =>
      clear b2'
      obtain ⟨j, hj, rfl, bj, HR⟩ := hrel
      have hzr := bj.size
      by_cases hjl : j < a.length ∧ j < b.length
      · have y2 : (j : Int) < a.length := by omega
        have y3 : (j : Int) < b.length := by omega
        obtain ⟨hSb, csj, hrow, hlj⟩ := HA.out j hjl.1
        obtain ⟨hSb', dsj, hrow', hlj'⟩ := HB.out j hjl.2
        obtain rfl : aa = some ⟨ba, oa, none⟩ := hha.at_.resolve_left (by omega)
        obtain rfl : ab = some ⟨bb, ob, none⟩ := hhb.at_.resolve_left (by omega)
        have hk0 : ∀ x, S x → wr.heap[x]? = w.heap[x]? := fun x hx => bj.block x (hS x hx)
        have hk1 : ∀ x, S' x → wr.heap[x]? = w.heap[x]? := fun x hx => bj.block x (hS' x hx)
        have hwx : (a[j]'(hjl.1)).wt ≤ 2147483647 := by have := wtP_mem (List.getElem_mem hjl.1); omega
        have hwy : (b[j]'(hjl.2)).wt ≤ 2147483647 := by have := wtP_mem (List.getElem_mem hjl.2); omega
        obtain ⟨eq, en, ema, eml, emc, ek, eb, ei, es, eal, enl, ecl, eam, enm, ecm, rfl⟩ := El.nine hlj
        obtain ⟨fq, fn, fma, fml, fmc, fk, fb, fi, fs, fal, fnl, fcl, fam, fnm, fcm, rfl⟩ := El.nine hlj'
        have rw0 := row9 (hrow.keep (hk0 _ hSb))
        have rw1 := row9 (hrow'.keep (hk1 _ hSb'))
        have hbl : ba < wr.heap.size := World.block_lt_of_cell? wr _ rw0.1
        have hbl' : bb < wr.heap.size := World.block_lt_of_cell? wr _ rw1.1
        have p0 : ∀ x : Sub wr.heap.size wr, _ := sub_cell rw0.1 hbl
        have p1 : ∀ x : Sub wr.heap.size wr, _ := sub_cell rw0.2.1 hbl
        have p2 : ∀ x : Sub wr.heap.size wr, _ := sub_cell rw0.2.2.1 hbl
        have p3 : ∀ x : Sub wr.heap.size wr, _ := sub_cell rw0.2.2.2.1 hbl
        have p4 : ∀ x : Sub wr.heap.size wr, _ := sub_cell rw0.2.2.2.2.1 hbl
        have p5 : ∀ x : Sub wr.heap.size wr, _ := sub_cell rw0.2.2.2.2.2.1 hbl
        have p6 : ∀ x : Sub wr.heap.size wr, _ := sub_cell rw0.2.2.2.2.2.2.1 hbl
        have p7 : ∀ x : Sub wr.heap.size wr, _ := sub_cell rw0.2.2.2.2.2.2.2.1 hbl
        have p8 : ∀ x : Sub wr.heap.size wr, _ := sub_cell rw0.2.2.2.2.2.2.2.2 hbl
        have q0 : ∀ x : Sub wr.heap.size wr, _ := sub_cell rw1.1 hbl'
        have q1 : ∀ x : Sub wr.heap.size wr, _ := sub_cell rw1.2.1 hbl'
        have q2 : ∀ x : Sub wr.heap.size wr, _ := sub_cell rw1.2.2.1 hbl'
        have q3 : ∀ x : Sub wr.heap.size wr, _ := sub_cell rw1.2.2.2.1 hbl'
        have q4 : ∀ x : Sub wr.heap.size wr, _ := sub_cell rw1.2.2.2.2.1 hbl'
        have q5 : ∀ x : Sub wr.heap.size wr, _ := sub_cell rw1.2.2.2.2.2.1 hbl'
        have q6 : ∀ x : Sub wr.heap.size wr, _ := sub_cell rw1.2.2.2.2.2.2.1 hbl'
        have q7 : ∀ x : Sub wr.heap.size wr, _ := sub_cell rw1.2.2.2.2.2.2.2.1 hbl'
        have q8 : ∀ x : Sub wr.heap.size wr, _ := sub_cell rw1.2.2.2.2.2.2.2.2 hbl'
        have CI : Hid (∀ x : Sub wr.heap.size wr, Calls Tryz.prog 44 #[.agg #[.int .i64 eq, .string en, .slice ema eml emc, .int .i64 ek, .bool eb, .int .i64 ei, .string es, .slice eal enl ecl, .slice eam enm ecm], .agg #[.int .i64 fq, .string fn, .slice fma fml fmc, .int .i64 fk, .bool fb, .int .i64 fi, .string fs, .slice fal fnl fcl, .slice fam fnm fcm]] x.w fun e w'' => e = .returned (.int .i64 (reE (a[j]'(hjl.1)) (b[j]'(hjl.2)))) ∧ ∃ y : Sub wr.heap.size wr, w'' = y.w) :=
          sub_call fun w' hb => by
            refine (relems_any (a[j]'(hjl.1)) (b[j]'(hjl.2)) S S' _ _ w' (El.lies_keep (fun x hx => (hb.block x (by have := hS x hx; omega)).trans (hk0 x hx)) (fun _ h => h) hlj) (El.lies_keep (fun x hx => (hb.block x (by have := hS' x hx; omega)).trans (hk1 x hx)) (fun _ h => h) hlj') (fun x hx => by have := hS x hx; have := hb.size; omega) (fun x hx => by have := hS' x hx; have := hb.size; omega) hwx hwy).mono ?_
            rintro e w'' ⟨he, h2⟩
            exact ⟨he, hb.trans (h2.mono hb.size)⟩
        have HD : Hid (lexL reE (a.drop j) ((b.take a.length).drop j) = if reE (a[j]'(hjl.1)) (b[j]'(hjl.2)) = 0 then lexL reE (a.drop (j + 1)) ((b.take a.length).drop (j + 1)) else reE (a[j]'(hjl.1)) (b[j]'(hjl.2))) := by
          show _ = _
          rw [lex_drop reE hjl.1 (show j < (b.take a.length).length by (have := HTL.out; omega))]
          rw [List.getElem_take]
        generalize reE (a[j]'(hjl.1)) (b[j]'(hjl.2)) = Z at *
        clear rw0 rw1 hlj hlj' hrow hrow' hk0 hk1
        go_wp2_with fail
        refine wp_region_sub wr.heap.size (by kernel_rfl) (by kernel_rfl) ?_
        repeat (go_big_quiet_step (exact CI.out _))
        refine wpQuiet_nil ?_
        rintro wq ⟨⟨wq', bq⟩, hq⟩
        have hq' : wq = wq' := hq
        subst hq'
        clear hq
        have BQ := hmk (bj.trans (bq.mono hzr))
        by_cases hZ : Z = 0
        · have HF : Hid (lexL reE a (b.take a.length) = lexL reE (a.drop (j + 1)) ((b.take a.length).drop (j + 1))) := by show _ = _; rw [HR.out, HD.out, if_pos hZ]
          have y4 : (Z != 0) = false := by rw [hZ]; rfl
          clear hZ
          go_wp2_with fail
          go_roundw
          case rel => exact ⟨j + 1, ⟨by omega, by (have := HTL.out; omega)⟩, by go_num, BQ.out, HF⟩
          case measure => simp [RowKit.intOf]; omega
        · have HF : Hid (lexL reE a (b.take a.length) = Z) := by show _ = _; rw [HR.out, HD.out, if_neg hZ]
          have y4 : (Z != 0) = true := by rw [bne_iff_ne]; exact hZ
          have HZ := hmk hZ
          clear hZ
          go_wp2_with fail
          go_ret
          exact ⟨by rw [HC.out, HF.out, decide_eq_false HZ.out]; rfl, BQ.out⟩
      · have h1 : ¬ j < a.length := fun h => hjl ⟨h, by omega⟩
        have HF : Hid (lexL reE a (b.take a.length) = 0) := by
          show _ = _
          rw [HR.out, lex_end reE hj.1 hj.2 (fun h => h1 h.1), HTL.out, cmpI]
          simp
        have BJ := hmk bj
        have y2 : ¬ (j : Int) < a.length := by omega
        go_wp2_with fail
        go_ret
        exact ⟨by rw [HC.out, HF.out]; rfl, BJ.out⟩
end Go.Proofs.YtfekgeaopchilaaGreatDoor
/- Above: of paths that were looked at, and of any. -/
namespace Go.Proofs.YtfekgeaopchilaaGreatDoor
open Go.RowKit Go.Lib
/-- is the one at or above the other, by the order of paths alone -/
def cabP (a b : List El) : Bool := decide (a.length ≤ b.length) && decide (lexL oeE a (b.take a.length) = 0)
theorem abvP_cab {a b : List El} (ha : pathB a = true) (hb : pathB b = true) : abvP a b = cabP a b := by
  by_cases hlen : a.length ≤ b.length
  · rw [abvP_yes ha hb hlen, cabP, op_rp (pathB_all ha).2 (fun x hx => (pathB_all hb).2 x (List.mem_of_mem_take hx))]
    simp [hlen]
  · rw [abvP_len hlen, cabP]; simp [hlen]
set_option maxHeartbeats 8000000 in
set_option maxRecDepth 100000 in
theorem cabP_any (a b : List El) (S S' : Nat → Prop) (aa : Option Addr) (ca ba oa : Nat) (ab : Option Addr) (cb bb ob : Nat) (w : World) (hha : Headed aa a.length ca ba oa) (hla : liesP w S a ba oa) (hhb : Headed ab b.length cb bb ob) (hlb : liesP w S' b bb ob) (hS : ∀ x, S x → x < w.heap.size) (hS' : ∀ x, S' x → x < w.heap.size) :
    Calls Tryz.prog 37 #[.slice aa a.length ca, .slice ab b.length cb] w (BPost (cabP a b) w) := by
  have HA := hmk hla
  have HB := hmk hlb
  clear hla hlb
  have hna : a.length ≤ 9223372036854775807 := Nat.le_trans hha.le hha.max
  have hnb : b.length ≤ 9223372036854775807 := Nat.le_trans hhb.le hhb.max
  by_cases hlen : a.length ≤ b.length
  case neg =>
    have HF : Hid (cabP a b = false) := by show _ = _; rw [cabP]; simp [hlen]
    have y8 : ¬ (a.length : Int) ≤ b.length := by omega
    generalize cabP a b = RR at *
    go_enter Tryz.func37, Tryz.ntmps37
    go_wp2_with fail
    go_ret
    exact ⟨by rw [HF.out]; rfl, Below.refl _ _⟩
  have y8 : (a.length : Int) ≤ b.length := by omega
  have y9 : (a.length : Int) ≤ cb := by have := hhb.le; omega
  have htl : (b.take a.length).length = a.length := by simp; omega
  have HC : Hid (cabP a b = decide (lexL oeE a (b.take a.length) = 0)) := by show _ = _; rw [cabP]; simp [hlen]
  have hhc : Headed ab (b.take a.length).length cb bb ob := ⟨by rw [htl]; have := hhb.le; omega, hhb.max, by
    rcases hhb.at_ with h | h
    · exact .inl (by rw [htl]; omega)
    · exact .inr h, hhb.nil⟩
  have c := hmk (opaths_any a (b.take a.length) S S' aa ca ba oa ab cb bb ob w hha HA.out hhc (liesP_sub HB.out a.length) hS hS')
  rw [htl] at c
  generalize cabP a b = RR at *
  generalize lexL oeE a (b.take a.length) = ZZ at *
  clear htl hhc
  have HZ : Hid (decide (ZZ = 0) = (ZZ == 0)) := by show _ = _; by_cases h : ZZ = 0 <;> simp [h]
  cases ab with
  | none =>
    have hc0 : cb = 0 := hhb.nil rfl
    have h0 : a.length = 0 := by have := hhb.le; omega
    rw [h0, hc0] at c
    go_enter Tryz.func37, Tryz.ntmps37
    go_wp2_with fail
    refine c.out.mono ?_
    rintro e w3 ⟨rfl, b3⟩
    go_wp2_with fail
    go_ret
    exact ⟨by rw [HC.out, HZ.out]; rfl, b3⟩
  | some ad =>
    go_enter Tryz.func37, Tryz.ntmps37
    go_wp2_with fail
    refine c.out.mono ?_
    rintro e w3 ⟨rfl, b3⟩
    go_wp2_with fail
    go_ret
    exact ⟨by rw [HC.out, HZ.out]; rfl, b3⟩
end Go.Proofs.YtfekgeaopchilaaGreatDoor
