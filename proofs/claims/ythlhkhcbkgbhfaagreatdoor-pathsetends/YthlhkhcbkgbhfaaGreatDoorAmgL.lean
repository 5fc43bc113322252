import Derived.Test.YthlhkhcbkgbhfaaGreatDoorEndP
/- among, paths, rises of the statements of layer 10. -/
set_option linter.unusedSimpArgs false
set_option linter.unusedVariables false
namespace Go.Proofs.YthlhkhcbkgbhfaaGreatDoor
open Go.RowKit Go.Lib
set_option maxHeartbeats 8000000 in
set_option maxRecDepth 100000 in
theorem among_any (l : List (List El)) (p : List El) (S S' : Nat → Prop) (al : Option Addr) (cl bl ol : Nat) (ap : Option Addr) (cp bp op : Nat) (w : World) (hal : Headed al l.length cl bl ol) (hl : liesQ w S l bl ol) (hap : Headed ap p.length cp bp op) (hp : liesP w S' p bp op) (hS : ∀ b, S b → b < w.heap.size) (hS' : ∀ b, S' b → b < w.heap.size) (hg : ∀ q ∈ l, pathB q = true) (hpp : pathB p = true) :
    Calls Tryz.prog 14 #[.slice al l.length cl, .slice ap p.length cp] w (BPost (memB l p) w) := by
  have HL := hmk hl
  have HP := hmk hp
  have HG := hmk hg
  have HPP := hmk hpp
  clear hl hp hg hpp
  have hlen : l.length ≤ 9223372036854775807 := Nat.le_trans hal.le hal.max
  have HM1 : Hid (∀ j, (h : j < l.length) → lexL oeE l[j] p = 0 → memB l p = true) := fun j h e => memB_yes h e
  have HM2 : Hid ((∀ i, (hi : i < l.length) → lexL oeE l[i] p ≠ 0) → memB l p = false) := memB_no
  generalize memB l p = RR at *
  go_enter Tryz.func14, Tryz.ntmps14
  go_wp2_with fail
  go_loopw [5] (fun e wr => ∃ j : Nat, j ≤ l.length ∧ e = .int .i64 (j : Int) ∧ Below w.heap.size w wr ∧ Hid (∀ i, (hi : i < l.length) → i < j → lexL oeE l[i] p ≠ 0)) (fun e _ => l.length - (RowKit.intOf e).toNat)
  case atStart => exact ⟨0, by omega, rfl, Below.refl _ _, fun i hi h => by omega⟩
  case round =>
    obtain ⟨j, hj, rfl, bj, HN⟩ := hrel
    have hzr := bj.size
    by_cases hjl : j < l.length
    case neg =>
      obtain rfl : j = l.length := by omega
      have y1 : ¬ (l.length : Int) < l.length := by omega
      have HF := hmk (HM2.out (fun i hi => HN.out i hi hi))
      go_wp2_with fail
      go_ret
      exact ⟨by rw [HF.out]; rfl, bj⟩
    have y1 : (j : Int) < l.length := by omega
    obtain ⟨hSb, v, hv, aq, cq, bq, oq, rfl, hhq, hlq⟩ := HL.out j hjl
    obtain rfl : al = some ⟨bl, ol, none⟩ := hal.at_.resolve_left (by omega)
    have hk0 : ∀ x, S x → wr.heap[x]? = w.heap[x]? := fun x hx => bj.block x (hS x hx)
    have r0 : wr.cell? ⟨bl, ol + j, none⟩ = some (.slice aq (l[j]).length cq) := (World.cell?_of_block (w := w) (a := ⟨bl, ol + j, none⟩) (hk0 _ hSb)).trans hv
    have c := hmk (spathE_any l[j] p S S' aq cq bq oq ap cp bp op wr hhq (liesP_keep hk0 (fun _ h => h) hlq) hap (liesP_keep (fun x hx => bj.block x (hS' x hx)) (fun _ h => h) HP.out) (fun x hx => Nat.lt_of_lt_of_le (hS x hx) hzr) (fun x hx => Nat.lt_of_lt_of_le (hS' x hx) hzr) (HG.out _ (List.getElem_mem hjl)) HPP.out)
    have HX1 := hmk (HM1.out j hjl)
    have HX2 : Hid (lexL oeE l[j] p ≠ 0 → ∀ i, (hi : i < l.length) → i < j + 1 → lexL oeE l[i] p ≠ 0) := fun h i hi hij => by
      by_cases e : i = j
      · subst e; exact h
      · exact HN.out i hi (by omega)
    clear hlq hhq hv hk0
    generalize lexL oeE l[j] p = Z at *
    generalize l[j] = pj at *
    by_cases hZ : Z = 0
    · have HF := hmk (HX1.out hZ)
      rw [decide_eq_true hZ] at c
      clear HX1 HX2
      go_wp2_with fail
      refine c.out.mono ?_
      rintro e w1 ⟨rfl, b1⟩
      go_wp2_with fail
      go_ret
      exact ⟨by rw [HF.out]; rfl, bj.trans (b1.mono hzr)⟩
    · have HF := hmk (HX2.out hZ)
      rw [decide_eq_false hZ] at c
      clear HX1 HX2
      go_wp2_with fail
      refine c.out.mono ?_
      rintro e w1 ⟨rfl, b1⟩
      go_wp2_with fail
      go_roundw
      case rel => exact ⟨j + 1, by omega, by go_num, bj.trans (b1.mono hzr), HF⟩
      case measure => simp [RowKit.intOf]; omega
set_option maxHeartbeats 8000000 in
set_option maxRecDepth 100000 in
theorem paths_any (l : List (List El)) (S : Nat → Prop) (al : Option Addr) (cl bl ol : Nat) (w : World) (tb : Tb w) (hal : Headed al l.length cl bl ol) (hl : liesQ w S l bl ol) (hS : ∀ b, S b → b < w.heap.size) (hw : ∀ p ∈ l, wtP p ≤ 2147483647) :
    Calls Tryz.prog 8 #[.slice al l.length cl] w (BPost (l.all pathB) w) := by
  have HL := hmk hl
  have HT := hmk tb
  have HW := hmk hw
  clear hl tb hw
  have hlen : l.length ≤ 9223372036854775807 := Nat.le_trans hal.le hal.max
  have HM1 : Hid (∀ j, (h : j < l.length) → pathB l[j] = false → l.all pathB = false) := fun j h e => by
    rw [List.all_eq_false]; exact ⟨l[j], List.getElem_mem h, by rw [e]; simp⟩
  have HM2 : Hid ((∀ i, (hi : i < l.length) → pathB l[i] = true) → l.all pathB = true) := fun h => by
    rw [List.all_eq_true]; intro x hx; obtain ⟨i, hi, rfl⟩ := List.getElem_of_mem hx; exact h i hi
  generalize l.all pathB = RR at *
  go_enter Tryz.func8, Tryz.ntmps8
  go_wp2_with fail
  go_loopw [3] (fun e wr => ∃ j : Nat, j ≤ l.length ∧ e = .int .i64 (j : Int) ∧ Below w.heap.size w wr ∧ Hid (∀ i, (hi : i < l.length) → i < j → pathB l[i] = true)) (fun e _ => l.length - (RowKit.intOf e).toNat)
  case atStart => exact ⟨0, by omega, rfl, Below.refl _ _, fun i hi h => by omega⟩
  case round =>
    obtain ⟨j, hj, rfl, bj, HN⟩ := hrel
    have hzr := bj.size
    by_cases hjl : j < l.length
    case neg =>
      obtain rfl : j = l.length := by omega
      have y1 : ¬ (l.length : Int) < l.length := by omega
      have HF := hmk (HM2.out (fun i hi => HN.out i hi hi))
      go_wp2_with fail
      go_ret
      exact ⟨by rw [HF.out]; rfl, bj⟩
    have y1 : (j : Int) < l.length := by omega
    obtain ⟨hSb, v, hv, aq, cq, bq, oq, rfl, hhq, hlq⟩ := HL.out j hjl
    obtain rfl : al = some ⟨bl, ol, none⟩ := hal.at_.resolve_left (by omega)
    have hk0 : ∀ x, S x → wr.heap[x]? = w.heap[x]? := fun x hx => bj.block x (hS x hx)
    have r0 : wr.cell? ⟨bl, ol + j, none⟩ = some (.slice aq (l[j]).length cq) := (World.cell?_of_block (w := w) (a := ⟨bl, ol + j, none⟩) (hk0 _ hSb)).trans hv
    have c := hmk (pcheck_any l[j] S aq cq bq oq wr (HT.out.below bj HT.out.z) hhq (liesP_keep hk0 (fun _ h => h) hlq) (fun x hx => Nat.lt_of_lt_of_le (hS x hx) hzr) (HW.out _ (List.getElem_mem hjl)))
    have HX1 := hmk (HM1.out j hjl)
    have HX2 : Hid (pathB l[j] = true → ∀ i, (hi : i < l.length) → i < j + 1 → pathB l[i] = true) := fun h i hi hij => by
      by_cases e : i = j
      · subst e; exact h
      · exact HN.out i hi (by omega)
    clear hlq hhq hv hk0
    cases hb : pathB l[j] with
    | false =>
      have HF := hmk (HX1.out hb)
      rw [errP_no hb] at c
      clear HX1 HX2 hb
      generalize l[j] = pj at *
      go_wp2_with fail
      refine c.out.mono ?_
      rintro e w1 ⟨rfl, b1⟩
      go_wp2_with fail
      go_ret
      exact ⟨by rw [HF.out]; rfl, bj.trans (b1.mono hzr)⟩
    | true =>
      have HF := hmk (HX2.out hb)
      rw [errP_yes hb] at c
      clear HX1 HX2 hb
      generalize l[j] = pj at *
      go_wp2_with fail
      refine c.out.mono ?_
      rintro e w1 ⟨rfl, b1⟩
      go_wp2_with fail
      go_roundw
      case rel => exact ⟨j + 1, by omega, by go_num, bj.trans (b1.mono hzr), HF⟩
      case measure => simp [RowKit.intOf]; omega
set_option maxHeartbeats 8000000 in
set_option maxRecDepth 100000 in
theorem rises_any (l : List (List El)) (S : Nat → Prop) (al : Option Addr) (cl bl ol : Nat) (w : World) (tb : Tb w) (hal : Headed al l.length cl bl ol) (hl : liesQ w S l bl ol) (hS : ∀ b, S b → b < w.heap.size) (hw : ∀ p ∈ l, wtP p ≤ 2147483647) (hlm : l.length ≤ 17179869184) (hg : ∀ p ∈ l, pathB p = true) (hr : l.Pairwise (fun a b => lexL oeE a b < 0)) :
    Calls Tryz.prog 12 #[.slice al l.length cl] w (BPost true w) := by
  have CP : Hid (∀ W, Below w.heap.size w W → Calls Tryz.prog 8 #[.slice al l.length cl] W (BPost true W)) := fun W hb => by
    have := paths_any l S al cl bl ol W (tb.below hb tb.z) hal (liesQ_keep (fun x hx => hb.block x (hS x hx)) (fun _ h => h) hl) (fun x hx => Nat.lt_of_lt_of_le (hS x hx) hb.size) hw
    rwa [List.all_eq_true.2 hg] at this
  have HL := hmk hl
  have HT := hmk tb
  have HW := hmk hw
  have HG := hmk hg
  have HR := hmk hr
  clear hl tb hw hg hr
  go_enter Tryz.func12, Tryz.ntmps12
  go_wp2_with fail
  go_loopw [3] (fun e wr => ∃ j : Nat, 1 ≤ j ∧ j ≤ l.length + 1 ∧ e = .int .i64 (j : Int) ∧ Below w.heap.size w wr) (fun e _ => l.length + 1 - (RowKit.intOf e).toNat)
  case atStart => exact ⟨1, by omega, by omega, rfl, Below.refl _ _⟩
  case round =>
    obtain ⟨j, hj1, hj, rfl, bj⟩ := hrel
    have hzr := bj.size
    by_cases hjl : j < l.length
    case neg =>
      have y1 : ¬ (j : Int) < l.length := by omega
      have c := hmk (CP.out wr bj)
      go_wp2_with fail
      refine c.out.mono ?_
      rintro e w1 ⟨rfl, b1⟩
      go_wp2_with fail
      go_ret
      exact ⟨rfl, bj.trans (b1.mono hzr)⟩
    have y1 : (j : Int) < l.length := by omega
    have y6 : ((j : Int) - 1) = ((j - 1 : Nat) : Int) := by omega
    have y7 : ((j - 1 : Nat) : Int) < (l.length : Int) := by omega
    have y7b : (j - 1 : Nat) < l.length := by omega
    obtain ⟨hSb, v, hv, aq, cq, bq, oq, rfl, hhq, hlq⟩ := HL.out j hjl
    obtain ⟨hSb2, v2, hv2, ap, cp, bp, op, rfl, hhp, hlp⟩ := HL.out (j - 1) y7b
    obtain rfl : al = some ⟨bl, ol, none⟩ := hal.at_.resolve_left (by omega)
    have r1 : wr.cell? ⟨bl, ol + j, none⟩ = some (.slice aq (l[j]).length cq) := (World.cell?_of_block (w := w) (a := ⟨bl, ol + j, none⟩) (bj.block _ (hS _ hSb))).trans hv
    have r0 : wr.cell? ⟨bl, ol + (j - 1), none⟩ = some (.slice ap (l[j - 1]).length cp) := (World.cell?_of_block (w := w) (a := ⟨bl, ol + (j - 1), none⟩) (bj.block _ (hS _ hSb2))).trans hv2
    have hlt := List.pairwise_iff_getElem.1 HR.out (j - 1) j y7b hjl (by omega)
    have e1 : cmpP l[j - 1] l[j] = lexL oeE l[j - 1] l[j] := cmpP_oe (HG.out _ (List.getElem_mem y7b)) (HG.out _ (List.getElem_mem hjl))
    have p0 : ∀ x : Sub wr.heap.size wr, _ := sub_cell r0 (World.block_lt_of_cell? wr _ r0)
    have p1 : ∀ x : Sub wr.heap.size wr, _ := sub_cell r1 (World.block_lt_of_cell? wr _ r1)
    have CI : Hid (∀ x : Sub wr.heap.size wr, Calls Tryz.prog 35 #[.slice ap (l[j - 1]).length cp, .slice aq (l[j]).length cq] x.w fun e w'' => e = .returned (.int .i64 (lexL oeE l[j - 1] l[j])) ∧ ∃ y : Sub wr.heap.size wr, w'' = y.w) := sub_call fun w' hb => by
      have hb2 := bj.trans (hb.mono hzr)
      have := cmpP_any l[j - 1] l[j] S S ap cp bp op aq cq bq oq w' (HT.out.below hb2 HT.out.z) hhp (liesP_keep (fun x hx => hb2.block x (hS x hx)) (fun _ h => h) hlp) hhq (liesP_keep (fun x hx => hb2.block x (hS x hx)) (fun _ h => h) hlq) (fun x hx => Nat.lt_of_lt_of_le (hS x hx) hb2.size) (fun x hx => Nat.lt_of_lt_of_le (hS x hx) hb2.size) (HW.out _ (List.getElem_mem y7b)) (HW.out _ (List.getElem_mem hjl))
      rw [e1] at this
      exact this.mono fun e w'' h => ⟨h.1, hb.trans (h.2.mono hb.size)⟩
    clear hlq hhq hv hlp hhp hv2 e1 r0 r1
    generalize lexL oeE l[j - 1] l[j] = Z at *
    generalize l[j - 1] = pi at *
    generalize l[j] = pj at *
    have y8 : ¬ (0 : Int) ≤ Z := by omega
    go_wp2_with fail
    refine wp_region_sub wr.heap.size (by kernel_rfl) (by kernel_rfl) ?_
    repeat (go_big_quiet_step (exact CI.out _))
    refine wpQuiet_nil ?_
    rintro wq ⟨⟨wq', bq⟩, hq⟩
    have hq' : wq = wq' := hq
    subst hq'
    clear hq p0 p1 CI
    go_wp2_with fail
    go_roundw
    case rel => exact ⟨j + 1, by omega, by omega, by go_num, bj.trans (bq.mono hzr)⟩
    case measure => simp [RowKit.intOf]; omega
end Go.Proofs.YthlhkhcbkgbhfaaGreatDoor
