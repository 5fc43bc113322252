import Derived.Test.YtfbmmilphcnolaaDoorG30
/- pathset.Check: the program's and the document's. -/
set_option linter.unusedSimpArgs false
set_option linter.unusedVariables false
namespace Go.Proofs.YtfbmmilphcnolaaDoor
open Go.RowKit Go.Lib
def okPv (pv : Option (List El)) (p : List El) : Bool := match pv with | none => true | some q => decide (lexL oeE q p < 0)
/-- is it a set: 0, or what is wrong first -/
def setC : Option (List El) → List (List El) → Nat
  | _, [] => 0
  | pv, p :: t => if pathB p = true then (if okPv pv p = true then setC (some p) t else 100) else 90
def errS (l : List (List El)) : Nat := setC none l
def pvAt (l : List (List El)) (j : Nat) : Option (List El) := if j = 0 then none else l[j - 1]?
theorem setC_step {l : List (List El)} {j : Nat} (h : j < l.length) (pv : Option (List El)) : setC pv (l.drop j) = if pathB l[j] = true then (if okPv pv l[j] = true then setC (some l[j]) (l.drop (j + 1)) else 100) else 90 := by
  rw [List.drop_eq_getElem_cons h, setC]
theorem pvAt_succ {l : List (List El)} {j : Nat} (h : j < l.length) : pvAt l (j + 1) = some l[j] := by
  rw [pvAt, if_neg (by omega), Nat.add_sub_cancel, List.getElem?_eq_getElem h]
theorem pvAt_zero {l : List (List El)} : pvAt l 0 = none := rfl
theorem pvAt_pos {l : List (List El)} {j : Nat} (h : j < l.length) (h0 : 0 < j) : pvAt l j = some l[j - 1] := by
  rw [pvAt, if_neg (by omega), List.getElem?_eq_getElem (by omega)]
theorem setC_zero : ∀ {l : List (List El)} {pv : Option (List El)}, setC pv l = 0 → (∀ p ∈ l, pathB p = true) ∧ l.Pairwise (fun a b => lexL oeE a b < 0) ∧ ∀ q, pv = some q → ∀ p ∈ l, lexL oeE q p < 0
  | [], pv, _ => ⟨by simp, by simp, by simp⟩
  | p :: t, pv, h => by
    rw [setC] at h
    split at h
    · rename_i hp
      split at h
      · rename_i hok
        obtain ⟨h1, h2, h3⟩ := setC_zero h
        refine ⟨fun q hq => ?_, List.pairwise_cons.2 ⟨fun b hb => h3 p rfl b hb, h2⟩, fun q hq x hx => ?_⟩
        · rcases List.mem_cons.1 hq with rfl | hq
          · exact hp
          · exact h1 q hq
        · subst hq
          have hq0 : lexL oeE q p < 0 := by simpa [okPv] using hok
          rcases List.mem_cons.1 hx with rfl | hx
          · exact hq0
          · exact wk_P.tri _ _ _ hq0 (h3 p rfl x hx)
      · cases h
    · cases h
set_option maxHeartbeats 8000000 in
set_option maxRecDepth 100000 in
theorem schk_any (l : List (List El)) (S : Nat → Prop) (al : Option Addr) (cl bl ol : Nat) (w : World) (tb : Tb w) (hal : Headed al l.length cl bl ol) (hl : liesQ w S l bl ol) (hS : ∀ b, S b → b < w.heap.size) (hwt : l.length + wtQ l ≤ 2147483647) :
    Calls Tryd.prog 24 #[.slice al l.length cl] w (NPost (errS l) w) := by
  have HL := hmk hl
  have HT := hmk tb
  clear tb
  clear hl
  have hlen : l.length ≤ 9223372036854775807 := by omega
  have HE : Hid (errS l = setC (pvAt l 0) (l.drop 0)) := rfl
  generalize errS l = RR at *
  go_enter Tryd.func24, Tryd.ntmps24
  go_wp2_with fail
  go_loopw [8] (fun e wr => ∃ j : Nat, j ≤ l.length ∧ e = .int .i64 (j : Int) ∧ Below w.heap.size w wr ∧ Hid (RR = setC (pvAt l j) (l.drop j)) ∧ Hid (∀ p ∈ l.take j, pathB p = true)) (fun e _ => l.length - (RowKit.intOf e).toNat)
  case atStart => exact ⟨0, by omega, rfl, Below.refl _ _, HE, by intro p hp; simp at hp⟩
  case round =>
    clear HE
    obtain ⟨j, hj, rfl, bj, HE, HG⟩ := hrel
    have hzr := bj.size
    by_cases hjl : j < l.length
    case neg =>
      obtain rfl : j = l.length := by omega
      have y1 : ¬ (l.length : Int) < l.length := by omega
      have HF : Hid (RR = 0) := by show _ = _; rw [HE.out, List.drop_length]; cases pvAt l l.length <;> rfl
      go_wp2_with fail
      go_ret
      exact ⟨by rw [HF.out]; rfl, bj⟩
    have y1 : (j : Int) < l.length := by omega
    obtain ⟨hSb, v, hv, aq, cq, bq, oq, rfl, hhq, hlq⟩ := HL.out j hjl
    obtain rfl : al = some ⟨bl, ol, none⟩ := hal.at_.resolve_left (by omega)
    have hk0 : ∀ x, S x → wr.heap[x]? = w.heap[x]? := fun x hx => bj.block x (hS x hx)
    have r0 : wr.cell? ⟨bl, ol + j, none⟩ = some (.slice aq (l[j]).length cq) := (World.cell?_of_block (w := w) (a := ⟨bl, ol + j, none⟩) (hk0 _ hSb)).trans hv
    have hwx : wtP l[j] ≤ 2147483647 := by have := wtQ_mem (List.getElem_mem hjl); omega
    have c := hmk (pcheck_any l[j] S aq cq bq oq wr (HT.out.below bj HT.out.z) hhq (liesP_keep hk0 (fun _ h => h) hlq) (fun x hx => Nat.lt_of_lt_of_le (hS x hx) hzr) hwx)
    have HST := hmk (setC_step hjl (pvAt l j))
    have KH : Hid (∀ W, Below w.heap.size w W → liesP W S l[j] bq oq ∧ ∀ x, S x → x < W.heap.size) := fun W hb => ⟨liesP_keep (fun x hx => hb.block x (hS x hx)) (fun _ h => h) hlq, fun x hx => Nat.lt_of_lt_of_le (hS x hx) hb.size⟩
    clear hlq hv hk0
    cases hp : pathB l[j] with
    | false =>
      have ya : (((errP l[j] : Nat) : Int) != 0) = true := by rw [errP_no hp]; rfl
      have HN : Hid (errP l[j] = 90) := errP_no hp
      have HF : Hid (RR = 90) := by show _ = _; rw [HE.out, HST.out, if_neg (by rw [hp]; simp)]
      generalize errP l[j] = Ea at *
      clear hp HE HST HG KH
      generalize l[j] = pj at *
      go_wp2_with fail
      refine c.out.mono ?_
      rintro e w1 ⟨rfl, b1⟩
      go_wp2_with fail
      go_ret
      exact ⟨by rw [HF.out, HN.out]; rfl, bj.trans (b1.mono hzr)⟩
    | true =>
    have ya : (((errP l[j] : Nat) : Int) != 0) = false := by rw [errP_yes hp]; rfl
    have HG2 : Hid (∀ p ∈ l.take (j + 1), pathB p = true) := fun p h => by
      rw [List.take_succ_eq_append_getElem hjl, List.mem_append, List.mem_singleton] at h
      rcases h with h | rfl
      · exact HG.out p h
      · exact hp
    have HP1 := hmk hp
    have HSU := hmk (pvAt_succ hjl)
    have HF0 : Hid (RR = if okPv (pvAt l j) l[j] = true then setC (some l[j]) (l.drop (j + 1)) else 100) := by show _ = _; rw [HE.out, HST.out, if_pos hp]
    by_cases hj0 : 0 < j
    case neg =>
      obtain rfl : j = 0 := by omega
      rw [Nat.add_zero] at r0
      have HF : Hid (RR = setC (pvAt l (0 + 1)) (l.drop (0 + 1))) := by show _ = _; rw [HSU.out, HF0.out, pvAt_zero]; rfl
      generalize errP l[0] = Ea at *
      clear hp HE HST HG HF0 HSU KH HP1
      generalize l[0] = pj at *
      go_wp2_with fail
      refine c.out.mono ?_
      rintro e w1 ⟨rfl, b1⟩
      have B1 := bj.trans (b1.mono hzr)
      go_wp2_with fail
      go_roundw
      case rel => exact ⟨0 + 1, by omega, by go_num, B1, HF, HG2⟩
      case measure => simp [RowKit.intOf]; omega
    have hj1 : j - 1 < l.length := by omega
    obtain ⟨hSb1, v1, hv1, ap, cp, bp, op, rfl, hhp, hlp⟩ := HL.out (j - 1) hj1
    have HPV := hmk (pvAt_pos hjl hj0)
    have hwp : wtP l[j - 1] ≤ 2147483647 := by have := wtQ_mem (List.getElem_mem hj1); omega
    have HP0 : Hid (pathB l[j - 1] = true) := HG.out _ (by rw [List.mem_take_iff_getElem]; exact ⟨j - 1, by omega, rfl⟩)
    have RC : Hid (∀ W, Below w.heap.size w W → W.cell? ⟨bl, ol + (j - 1), none⟩ = some (.slice ap (l[j - 1]).length cp)) := fun W hb => (World.cell?_of_block (w := w) (a := ⟨bl, ol + (j - 1), none⟩) (hb.block _ (hS _ hSb1))).trans hv1
    have CC : Hid (∀ W, Below w.heap.size w W → Calls Tryd.prog 27 #[.slice ap (l[j - 1]).length cp, .slice aq (l[j]).length cq] W (JPost (lexL oeE l[j - 1] l[j]) W)) := fun W hb =>
      opaths_any l[j - 1] l[j] S S ap cp bp op aq cq bq oq W hhp (liesP_keep (fun x hx => hb.block x (hS x hx)) (fun _ h => h) hlp) hhq (KH.out W hb).1 (KH.out W hb).2 (KH.out W hb).2
    have HF1 : Hid (lexL oeE l[j - 1] l[j] < 0 → RR = setC (pvAt l (j + 1)) (l.drop (j + 1))) := fun h => by rw [HSU.out, HF0.out, HPV.out, okPv, if_pos (by simpa using h)]
    have HF2 : Hid (¬ lexL oeE l[j - 1] l[j] < 0 → RR = 100) := fun h => by rw [HF0.out, HPV.out, okPv, if_neg (by simpa using h)]
    generalize errP l[j] = Ea at *
    clear hp HE HST HG HF0 HSU KH HP1 HPV HP0 hlp hv1 hwp hwx hhp hhq
    generalize lexL oeE l[j - 1] l[j] = Z at *
    generalize l[j] = pj at *
    generalize l[j - 1] = pi at *
    have y5 : (0 : Int) < (j : Int) := by omega
    have y6 : ((j : Int) - 1) = ((j - 1 : Nat) : Int) := by omega
    have y7 : ((j - 1 : Nat) : Int) < (l.length : Int) := by omega
    go_wp2_with fail
    refine c.out.mono ?_
    rintro e w1 ⟨rfl, b1⟩
    have B1 := bj.trans (b1.mono hzr)
    have r1 := RC.out w1 B1
    have c2 := hmk (CC.out w1 B1)
    clear bj b1 r0 RC c
    go_wp2_with fail
    refine c2.out.mono ?_
    rintro e wq ⟨rfl, bq⟩
    have BQ := B1.trans (bq.mono B1.size)
    by_cases hZ : Z < 0
    · have HF := hmk (HF1.out hZ)
      have y8 : ¬ (0 : Int) ≤ Z := by omega
      go_wp2_with fail
      go_roundw
      case rel => exact ⟨j + 1, by omega, by go_num, BQ, HF, HG2⟩
      case measure => simp [RowKit.intOf]; omega
    · have HF := hmk (HF2.out (by omega))
      have y8 : (0 : Int) ≤ Z := by omega
      clear HF1 HF2
      go_wp2_with fail
      go_ret
      exact ⟨by rw [HF.out]; rfl, BQ⟩
set_option maxHeartbeats 8000000 in
set_option maxRecDepth 100000 in
theorem rschk_any (l : List (List El)) (S : Nat → Prop) (al : Option Addr) (cl bl ol : Nat) (w : World) (hal : Headed al l.length cl bl ol) (hl : liesQ w S l bl ol) (hS : ∀ b, S b → b < w.heap.size) (hwt : l.length + wtQ l ≤ 2147483647) :
    Calls Tryd.prog 31 #[.slice al l.length cl] w (NPost (errS l) w) := by
  have HL := hmk hl
  clear hl
  have hlen : l.length ≤ 9223372036854775807 := by omega
  have HE : Hid (errS l = setC (pvAt l 0) (l.drop 0)) := rfl
  generalize errS l = RR at *
  go_enter Tryd.func31, Tryd.ntmps31
  go_wp2_with fail
  go_loopw [3] (fun e wr => ∃ j : Nat, j ≤ l.length ∧ e = .int .i64 (j : Int) ∧ Below w.heap.size w wr ∧ Hid (RR = setC (pvAt l j) (l.drop j)) ∧ Hid (∀ p ∈ l.take j, pathB p = true)) (fun e _ => l.length - (RowKit.intOf e).toNat)
  case atStart => exact ⟨0, by omega, rfl, Below.refl _ _, HE, by intro p hp; simp at hp⟩
  case round =>
    clear HE
    obtain ⟨j, hj, rfl, bj, HE, HG⟩ := hrel
    have hzr := bj.size
    by_cases hjl : j < l.length
    case neg =>
      obtain rfl : j = l.length := by omega
      have y1 : ¬ (l.length : Int) < l.length := by omega
      have HF : Hid (RR = 0) := by show _ = _; rw [HE.out, List.drop_length]; cases pvAt l l.length <;> rfl
      go_wp2_with fail
      go_ret
      exact ⟨by rw [HF.out]; rfl, bj⟩
    have y1 : (j : Int) < l.length := by omega
    obtain ⟨hSb, v, hv, aq, cq, bq, oq, rfl, hhq, hlq⟩ := HL.out j hjl
    obtain rfl : al = some ⟨bl, ol, none⟩ := hal.at_.resolve_left (by omega)
    have hk0 : ∀ x, S x → wr.heap[x]? = w.heap[x]? := fun x hx => bj.block x (hS x hx)
    have r0 : wr.cell? ⟨bl, ol + j, none⟩ = some (.slice aq (l[j]).length cq) := (World.cell?_of_block (w := w) (a := ⟨bl, ol + j, none⟩) (hk0 _ hSb)).trans hv
    have hwx : wtP l[j] ≤ 2147483647 := by have := wtQ_mem (List.getElem_mem hjl); omega
    have c := hmk (rpcheck_any l[j] S aq cq bq oq wr hhq (liesP_keep hk0 (fun _ h => h) hlq) (fun x hx => Nat.lt_of_lt_of_le (hS x hx) hzr) hwx)
    have HST := hmk (setC_step hjl (pvAt l j))
    have KH : Hid (∀ W, Below w.heap.size w W → liesP W S l[j] bq oq ∧ ∀ x, S x → x < W.heap.size) := fun W hb => ⟨liesP_keep (fun x hx => hb.block x (hS x hx)) (fun _ h => h) hlq, fun x hx => Nat.lt_of_lt_of_le (hS x hx) hb.size⟩
    clear hlq hv hk0
    cases hp : pathB l[j] with
    | false =>
      have ya : (((errP l[j] : Nat) : Int) != 0) = true := by rw [errP_no hp]; rfl
      have HN : Hid (errP l[j] = 90) := errP_no hp
      have HF : Hid (RR = 90) := by show _ = _; rw [HE.out, HST.out, if_neg (by rw [hp]; simp)]
      generalize errP l[j] = Ea at *
      clear hp HE HST HG KH
      generalize l[j] = pj at *
      go_wp2_with fail
      refine c.out.mono ?_
      rintro e w1 ⟨rfl, b1⟩
      go_wp2_with fail
      go_ret
      exact ⟨by rw [HF.out]; rfl, bj.trans (b1.mono hzr)⟩
    | true =>
    have ya : (((errP l[j] : Nat) : Int) != 0) = false := by rw [errP_yes hp]; rfl
    have HG2 : Hid (∀ p ∈ l.take (j + 1), pathB p = true) := fun p h => by
      rw [List.take_succ_eq_append_getElem hjl, List.mem_append, List.mem_singleton] at h
      rcases h with h | rfl
      · exact HG.out p h
      · exact hp
    have HP1 := hmk hp
    have HSU := hmk (pvAt_succ hjl)
    have HF0 : Hid (RR = if okPv (pvAt l j) l[j] = true then setC (some l[j]) (l.drop (j + 1)) else 100) := by show _ = _; rw [HE.out, HST.out, if_pos hp]
    by_cases hj0 : 0 < j
    case neg =>
      obtain rfl : j = 0 := by omega
      rw [Nat.add_zero] at r0
      have HF : Hid (RR = setC (pvAt l (0 + 1)) (l.drop (0 + 1))) := by show _ = _; rw [HSU.out, HF0.out, pvAt_zero]; rfl
      generalize errP l[0] = Ea at *
      clear hp HE HST HG HF0 HSU KH HP1
      generalize l[0] = pj at *
      go_wp2_with fail
      refine c.out.mono ?_
      rintro e w1 ⟨rfl, b1⟩
      have B1 := bj.trans (b1.mono hzr)
      clear bj b1
      go_wp2_with fail
      refine wp_region_sub w1.heap.size (by kernel_rfl) (by kernel_rfl) ?_
      repeat (go_big_quiet_step (fail))
      refine wpQuiet_nil ?_
      rintro wq ⟨⟨wq', bq⟩, hq⟩
      have hq' : wq = wq' := hq
      subst hq'
      clear hq
      have BQ := B1.trans (bq.mono B1.size)
      go_wp2_with fail
      go_roundw
      case rel => exact ⟨0 + 1, by omega, by go_num, BQ, HF, HG2⟩
      case measure => simp [RowKit.intOf]; omega
    have hj1 : j - 1 < l.length := by omega
    obtain ⟨hSb1, v1, hv1, ap, cp, bp, op, rfl, hhp, hlp⟩ := HL.out (j - 1) hj1
    have HPV := hmk (pvAt_pos hjl hj0)
    have hwp : wtP l[j - 1] ≤ 2147483647 := by have := wtQ_mem (List.getElem_mem hj1); omega
    have HP0 : Hid (pathB l[j - 1] = true) := HG.out _ (by rw [List.mem_take_iff_getElem]; exact ⟨j - 1, by omega, rfl⟩)
    have RC : Hid (∀ W, Below w.heap.size w W → W.cell? ⟨bl, ol + (j - 1), none⟩ = some (.slice ap (l[j - 1]).length cp)) := fun W hb => (World.cell?_of_block (w := w) (a := ⟨bl, ol + (j - 1), none⟩) (hb.block _ (hS _ hSb1))).trans hv1
    have CC : Hid (∀ W, Below w.heap.size w W → Calls Tryd.prog 51 #[.slice ap (l[j - 1]).length cp, .slice aq (l[j]).length cq] W (JPost (lexL oeE l[j - 1] l[j]) W)) := fun W hb => by
      have := rcmpP_any l[j - 1] l[j] S S ap cp bp op aq cq bq oq W hhp (liesP_keep (fun x hx => hb.block x (hS x hx)) (fun _ h => h) hlp) hhq (KH.out W hb).1 (KH.out W hb).2 (KH.out W hb).2 hwp hwx
      rw [cmpP_oe HP0.out HP1.out] at this
      exact this
    have HF1 : Hid (lexL oeE l[j - 1] l[j] < 0 → RR = setC (pvAt l (j + 1)) (l.drop (j + 1))) := fun h => by rw [HSU.out, HF0.out, HPV.out, okPv, if_pos (by simpa using h)]
    have HF2 : Hid (¬ lexL oeE l[j - 1] l[j] < 0 → RR = 100) := fun h => by rw [HF0.out, HPV.out, okPv, if_neg (by simpa using h)]
    generalize errP l[j] = Ea at *
    clear hp HE HST HG HF0 HSU KH HP1 HPV HP0 hlp hv1 hwp hwx hhp hhq
    generalize lexL oeE l[j - 1] l[j] = Z at *
    generalize l[j] = pj at *
    generalize l[j - 1] = pi at *
    have y5 : (0 : Int) < (j : Int) := by omega
    have y6 : ((j : Int) - 1) = ((j - 1 : Nat) : Int) := by omega
    have y7 : ((j - 1 : Nat) : Int) < (l.length : Int) := by omega
    go_wp2_with fail
    refine c.out.mono ?_
    rintro e w1 ⟨rfl, b1⟩
    have B1 := bj.trans (b1.mono hzr)
    have r1 := RC.out w1 B1
    have r2 : w1.cell? ⟨bl, ol + j, none⟩ = some (.slice aq pj.length cq) := (b1.cell (p := ⟨bl, ol + j, none⟩) (World.block_lt_of_cell? wr _ r0)).trans r0
    clear bj b1 r0 RC
    have p0 : ∀ x : Sub w1.heap.size w1, _ := sub_cell r1 (World.block_lt_of_cell? w1 _ r1)
    have p1 : ∀ x : Sub w1.heap.size w1, _ := sub_cell r2 (World.block_lt_of_cell? w1 _ r2)
    have CI1 : Hid (∀ x : Sub w1.heap.size w1, Calls Tryd.prog 51 #[.slice ap pi.length cp, .slice aq pj.length cq] x.w fun e w'' => e = .returned (.int .i64 Z) ∧ ∃ y : Sub w1.heap.size w1, w'' = y.w) := sub_call fun w' hb => (CC.out w' (B1.trans (hb.mono B1.size))).mono fun e w'' h => ⟨h.1, hb.trans (h.2.mono hb.size)⟩
    go_wp2_with fail
    refine wp_region_sub w1.heap.size (by kernel_rfl) (by kernel_rfl) ?_
    repeat (go_big_quiet_step (exact CI1.out _))
    refine wpQuiet_nil ?_
    rintro wq ⟨⟨wq', bq⟩, hq⟩
    have hq' : wq = wq' := hq
    subst hq'
    clear hq p0 p1 CI1
    have BQ := B1.trans (bq.mono B1.size)
    by_cases hZ : Z < 0
    · have HF := hmk (HF1.out hZ)
      have y8 : ¬ (0 : Int) ≤ Z := by omega
      go_wp2_with fail
      go_roundw
      case rel => exact ⟨j + 1, by omega, by go_num, BQ, HF, HG2⟩
      case measure => simp [RowKit.intOf]; omega
    · have HF := hmk (HF2.out (by omega))
      have y8 : (0 : Int) ≤ Z := by omega
      clear HF1 HF2
      go_wp2_with fail
      go_ret
      exact ⟨by rw [HF.out]; rfl, BQ⟩
end Go.Proofs.YtfbmmilphcnolaaDoor
