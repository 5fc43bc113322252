import Derived.Test.YtfekgeaopchilaaGreatDoorG41
/- leaves.Drop. -/
set_option linter.unusedSimpArgs false
set_option linter.unusedVariables false
namespace Go.Proofs.YtfekgeaopchilaaGreatDoor
open Go.RowKit Go.Lib
theorem wtF_filt (f : Lf → Bool) : ∀ l : List Lf, wtF (l.filter f) ≤ wtF l
  | [] => by simp
  | x :: t => by
    have := wtF_filt f t
    rw [List.filter_cons]
    split
    · simp only [wtF]; omega
    · simp only [wtF]; omega
def lenQ : Value → Nat
  | .slice _ n _ => n
  | _ => 0
theorem rs_any {ps R : List (List El)} (h : Rs (ps.filter pathB) R) {x : Lf} (hx : pathB x.1 = true) : stF ps x = !(R.any (fun p => cabP p x.1)) := by
  unfold stF
  congr 1
  rw [Bool.eq_iff_iff, List.any_eq_true, List.any_eq_true]
  constructor
  · rintro ⟨p, hp, ha⟩
    cases hB : pathB p with
    | false => rw [abvP_no (fun h => by rw [hB] at h; cases h.1)] at ha; cases ha
    | true => exact ⟨p, (h.2 p).2 (List.mem_filter.2 ⟨hp, hB⟩), by rw [← abvP_cab hB hx]; exact ha⟩
  · rintro ⟨p, hp, ha⟩
    have hm := List.mem_filter.1 ((h.2 p).1 hp)
    exact ⟨p, hm.1, by rw [abvP_cab hm.2 hx]; exact ha⟩
/-- those ahead of d are above none of the leaves from j on -/
def PasF (l : List Lf) (R : List (List El)) (j d : Nat) : Prop := ∀ (q : Nat) (hq : q < R.length), q < d → ∀ (k : Nat) (hk : k < l.length), j ≤ k → cabP R[q] (l[k]).1 = false
theorem PasF.more {l : List Lf} {R : List (List El)} {j d : Nat} (h : PasF l R j d) (hr : Rl l) (hd : d < R.length) (hj : j < l.length) (h1 : lexL oeE R[d] (l[j]).1 < 0) (h2 : cabP R[d] (l[j]).1 = false) : PasF l R j (d + 1) := fun q hq hqd k hk hjk => by
  by_cases e : q = d
  · subst e
    by_cases ek : k = j
    · subst ek; exact h2
    · cases hc : cabP R[q] (l[k]).1 with
      | false => rfl
      | true => rw [cab_between hc h1 (hr.lt j k hj hk (by omega))] at h2; cases h2
  · exact h q hq (by omega) k hk hjk
theorem PasF.next {l : List Lf} {R : List (List El)} {j d : Nat} (h : PasF l R j d) : PasF l R (j + 1) d := fun q hq hqd k hk hjk => h q hq hqd k hk (by omega)
theorem drp_end {l : List Lf} {ps R : List (List El)} {j d : Nat} (h : PasF l R j d) (hRs : Rs (ps.filter pathB) R) (hr : Rl l) (hj : j < l.length) (hd : ¬ d < R.length) : stF ps l[j] = true := by
  rw [rs_any hRs (hr.ok j hj)]
  have : R.any (fun p => cabP p (l[j]).1) = false := by
    rw [List.any_eq_false]
    intro p hp
    obtain ⟨q, hq, rfl⟩ := List.getElem_of_mem hp
    rw [h q hq (by omega) j hj (Nat.le_refl _)]; decide
  rw [this]; rfl
theorem drp_out {l : List Lf} {ps R : List (List El)} {j d : Nat} (hRs : Rs (ps.filter pathB) R) (hr : Rl l) (hj : j < l.length) (hd : d < R.length) (hc : cabP R[d] (l[j]).1 = true) : stF ps l[j] = false := by
  rw [rs_any hRs (hr.ok j hj)]
  have : R.any (fun p => cabP p (l[j]).1) = true := by
    rw [List.any_eq_true]
    exact ⟨R[d], List.getElem_mem hd, hc⟩
  rw [this]; rfl
theorem drp_in {l : List Lf} {ps R : List (List El)} {j d : Nat} (h : PasF l R j d) (hRs : Rs (ps.filter pathB) R) (hr : Rl l) (hj : j < l.length) (hd : d < R.length) (h1 : ¬ lexL oeE R[d] (l[j]).1 < 0) (hc : cabP R[d] (l[j]).1 = false) : stF ps l[j] = true := by
  rw [rs_any hRs (hr.ok j hj)]
  have : R.any (fun p => cabP p (l[j]).1) = false := by
    rw [List.any_eq_false]
    intro p hp hb
    obtain ⟨q, hq, rfl⟩ := List.getElem_of_mem hp
    rcases Nat.lt_trichotomy q d with e | e | e
    · rw [h q hq e j hj (Nat.le_refl _)] at hb; cases hb
    · subst e; rw [hb] at hc; cases hc
    · have h3 := cab_le hb
      have h4 := List.pairwise_iff_getElem.1 hRs.1 d q hd hq e
      by_cases e0 : lexL oeE R[q] (l[j]).1 = 0
      · have h5 := wk_P.congR e0 R[d]; omega
      · have := wk_P.tri _ _ (l[j]).1 h4 (by omega); omega
  rw [this]; rfl
set_option maxHeartbeats 8000000 in
set_option maxRecDepth 100000 in
theorem drop_any (l : List Lf) (S : Nat → Prop) (al : Option Addr) (cl bl ol : Nat) (w : World) (hal : Headed al l.length cl bl ol) (hl : liesF w S l bl ol) (hS : ∀ b, S b → b < w.heap.size) (hwt : wtF l ≤ 2147483647) (tb : Tb w) (hr : Rl l) (hok : ∀ x ∈ l, pathB x.1 = true ∧ okV x.2 = true) (ps : List (List El)) (a2 : Option Addr) (c2 b2 o2 : Nat) (h2 : Headed a2 ps.length c2 b2 o2) (hp : liesQ w S ps b2 o2) (hwp : ps.length + wtQ ps ≤ 2147483647) :
    Calls Tryz.prog 17 #[.slice al l.length cl, .slice a2 ps.length c2] w (TfPost (l.filter (stF ps)) S w) := by
  have HL := hmk hl
  have hlm := wtF_len l
  have HR := hmk hr
  have HOK := hmk hok
  have HTB := hmk tb
  have C36 := hmk (risp_any ps S a2 c2 b2 o2 w tb h2 hp hS hwp)
  clear hl hp hr hok tb
  go_enter Tryz.func17, Tryz.ntmps17
  go_wp2_with fail
  refine C36.out.mono ?_
  rintro e w1 ⟨R, ar, cr, br, orr, hRs, rfl, hdR, hlR, b1⟩
  have HRS := hmk hRs
  have HB1 := hmk b1
  have hS1 : ∀ b, S b → b < w1.heap.size := fun b h => Nat.lt_of_lt_of_le (hS b h) b1.size
  have kb : Hid (∀ W, Below w1.heap.size w1 W → (∀ b, S b → W.heap[b]? = w.heap[b]?) ∧ (∀ b, S b → b < W.heap.size)) := fun W hb => ⟨fun b h => (hb.block b (hS1 b h)).trans (b1.block b (hS b h)), fun b h => Nat.lt_of_lt_of_le (hS1 b h) hb.size⟩
  have HLR : Hid (∀ W, Below w1.heap.size w1 W → ∀ d b o, liesQ w1 (New w w1) (R.drop d) b o → liesQ W (New w w1) (R.drop d) b o) := fun W hb d b o h => liesQ_keep (fun x hx => hb.block x hx.2) (fun _ h => h) h
  have hlR0 : liesQ w1 (New w w1) (R.drop 0) br orr := by rw [List.drop_zero]; exact hlR
  clear C36 hRs b1 hlR
  go_wp2_with fail
  go_loopw [5, 6, 13] (fun e5 e6 e wr => ∃ (j d n5 : Nat) (a5 : Option Addr) (c5 b5 o5 : Nat), j ≤ l.length ∧ n5 + d = R.length ∧ e = .int .i64 (j : Int) ∧ e5 = .slice a5 n5 c5 ∧ Headed a5 n5 c5 b5 o5 ∧ liesQ w1 (New w w1) (R.drop d) b5 o5 ∧ OutF w1 S ((l.take j).filter (stF ps)) e6 wr ∧ Hid (PasF l R j d)) (fun _ _ e _ => l.length - (RowKit.intOf e).toNat)
  case atStart => exact ⟨0, 0, R.length, ar, cr, br, orr, by omega, by omega, rfl, rfl, hdR, hlR0, OutF.nil _ _, fun q hq h => by omega⟩
  case round =>
    clear hdR hlR0
    obtain ⟨j, d, n5, a5, c5, b5, o5, hj, hd, rfl, rfl, hh5, hl5, oj, HPF⟩ := hrel
    by_cases hjl : j < l.length
    case neg =>
      obtain rfl : j = l.length := by omega
      have y1 : ¬ (l.length : Int) < l.length := by omega
      rw [List.take_length] at oj
      obtain ⟨a, c, b, o, rfl, hdo, hls⟩ := oj.list
      have hB := oj.b
      have hwf : wtF (l.filter (stF ps)) ≤ 2147483647 := Nat.le_trans (wtF_filt _ l) hwt
      have CP := hmk (copied_any (l.filter (stF ps)) (Tw S w1 wr) a c b o wr hdo hls (fun b hb => hb.elim (fun h => (kb.out wr hB).2 b h) (fun h => h.2)) hwf (HTB.out.below (HB1.out.trans (hB.mono HB1.out.size)) HTB.out.z) (fun x hx => HOK.out x (List.mem_filter.1 hx).1))
      clear oj hls hl5
      go_wp2_with fail
      refine CP.out.mono ?_
      rintro e w4 ⟨a, c, b, o, rfl, hd4, hl4, b4⟩
      have HL4 := hmk hl4
      have hz1 := HB1.out.size
      have hz2 := hB.size
      clear CP hl4
      go_wp2_with fail
      go_ret
      exact ⟨a, c, b, o, rfl, hd4, liesF_keep (fun _ _ => rfl) (fun y hy => by
        rcases hy with (h | h) | h
        · exact .inl h
        · exact .inr ⟨by have h8 := h.1; omega, by have h8 := h.2; have := b4.size; omega⟩
        · exact .inr ⟨by have h8 := h.1; omega, h.2⟩) HL4.out, (HB1.out.trans (hB.mono HB1.out.size)).trans (b4.mono (by omega))⟩
    have y1 : (j : Int) < l.length := by omega
    obtain ⟨hSb, cs, hrow, v, is, rfl, ⟨ap, cp, bp, op, rfl, hh, hlp⟩, hv⟩ := HL.out j hjl
    obtain rfl : al = some ⟨bl, ol, none⟩ := hal.at_.resolve_left (by omega)
    have HLF0 : Hid (Lf.lies w S l[j] (.slice ap (l[j]).1.length cp :: is)) := ⟨_, _, rfl, ⟨ap, cp, bp, op, rfl, hh, hlp⟩, hv⟩
    obtain ⟨vk, vb, vi, vs, val, vnl, vcl, vam, vnm, vcm, rfl⟩ := V.ten hv
    obtain ⟨q, q0, q1, q2, q3, q4, q5⟩ := row7 (hrow.keep ((kb.out wr oj.b).1 _ hSb))
    have nb : (wr.alloc (.cells #[.slice ap (l[j]).1.length cp, .int .i64 vk, .bool vb, .int .i64 vi, .string vs, .slice val vnl vcl, .slice vam vnm vcm] 50)).heap[wr.heap.size]? = some (.cells #[.slice ap (l[j]).1.length cp, .int .i64 vk, .bool vb, .int .i64 vi, .string vs, .slice val vnl vcl, .slice vam vnm vcm] 50 (0, 0)) := heap_alloc_new wr _
    have ba : Below wr.heap.size wr (wr.alloc (.cells #[.slice ap (l[j]).1.length cp, .int .i64 vk, .bool vb, .int .i64 vi, .string vs, .slice val vnl vcl, .slice vam vnm vcm] 50)) := (Below.refl _ _).alloc (Nat.le_refl _) _
    have oa := oj.below ba
    have hG : wr.heap.size < (wr.alloc (.cells #[.slice ap (l[j]).1.length cp, .int .i64 vk, .bool vb, .int .i64 vi, .string vs, .slice val vnl vcl, .slice vam vnm vcm] 50)).heap.size := by rw [alloc_size]; omega
    have hfl := filt_len (stF ps) l j
    have HLP := hmk hlp
    clear hrow hlp hv oj ba
    go_wp2_with fail
    clear q q0 q1 q2 q3 q4 q5
    generalize hGd : wr.heap.size = G at *
    generalize (wr.alloc (.cells #[.slice ap (l[j]).1.length cp, .int .i64 vk, .bool vb, .int .i64 vi, .string vs, .slice val vnl vcl, .slice vam vnm vcm] 50)) = wa at *
    clear hGd
    go_loopw [5] (fun e5 wq => ∃ (d n5 : Nat) (a5 : Option Addr) (c5 b5 o5 : Nat), n5 + d = R.length ∧ e5 = .slice a5 n5 c5 ∧ Headed a5 n5 c5 b5 o5 ∧ liesQ w1 (New w w1) (R.drop d) b5 o5 ∧ OutF w1 S ((l.take j).filter (stF ps)) u6 wq ∧ Hid (PasF l R j d) ∧ wq.heap[G]? = some (.cells #[.slice ap (l[j]).1.length cp, .int .i64 vk, .bool vb, .int .i64 vi, .string vs, .slice val vnl vcl, .slice vam vnm vcm] 50 (0, 0)) ∧ G < wq.heap.size) (fun e5 _ => lenQ e5)
    case atStart => exact ⟨d, n5, a5, c5, b5, o5, hd, rfl, hh5, hl5, oa, HPF, nb, hG⟩
    case round =>
      clear hh5 hl5 oa HPF nb hG hd
      obtain ⟨d, n5, a5, c5, b5, o5, hd, rfl, hh5, hl5, oj, HPF, nb, hG⟩ := hrel
      rename World => wq
      have hzq := oj.b.size
      have hdl : (R.drop d).length = n5 := by rw [List.length_drop]; omega
      have m0 : wq.cell? ⟨G, 0, none⟩ = some (.slice ap (l[j]).1.length cp) := cell_of_block nb 0
      have m1 : wq.cell? ⟨G, 1, none⟩ = some (.int .i64 vk) := cell_of_block nb 1
      have m2 : wq.cell? ⟨G, 2, none⟩ = some (.bool vb) := cell_of_block nb 2
      have m3 : wq.cell? ⟨G, 3, none⟩ = some (.int .i64 vi) := cell_of_block nb 3
      have m4 : wq.cell? ⟨G, 4, none⟩ = some (.string vs) := cell_of_block nb 4
      have m5 : wq.cell? ⟨G, 5, none⟩ = some (.slice val vnl vcl) := cell_of_block nb 5
      have m6 : wq.cell? ⟨G, 6, none⟩ = some (.slice vam vnm vcm) := cell_of_block nb 6
      have xm0 : ∀ x : Sub wq.heap.size wq, _ := sub_cell m0 hG
      have xm1 : ∀ x : Sub wq.heap.size wq, _ := sub_cell m1 hG
      have xm2 : ∀ x : Sub wq.heap.size wq, _ := sub_cell m2 hG
      have xm3 : ∀ x : Sub wq.heap.size wq, _ := sub_cell m3 hG
      have xm4 : ∀ x : Sub wq.heap.size wq, _ := sub_cell m4 hG
      have xm5 : ∀ x : Sub wq.heap.size wq, _ := sub_cell m5 hG
      have xm6 : ∀ x : Sub wq.heap.size wq, _ := sub_cell m6 hG
      by_cases hdR : d < R.length
      case neg =>
        have y2 : ((n5 : Int) == 0) = true := by rw [beq_iff_eq]; omega
        have y3 : ¬ (0 : Int) < n5 := by omega
        have y5 : decide (0 < n5) = false := decide_eq_false (by omega)
        have y4 : decide ((0 : Int) < (n5 : Int)) = false := decide_eq_false y3
        have hST := drp_end HPF.out HRS.out HR.out hjl hdR
        have HOJ := hmk oj
        clear oj
        clear hdl
        go_wp2_with fail
        refine wp_region_sub wq.heap.size (by kernel_rfl) (by kernel_rfl) ?_
        repeat (go_big_quiet_step (first | fail))
        refine wpQuiet_nil ?_
        rintro w2 ⟨⟨wq', bq⟩, hq⟩
        have hq' : w2 = wq' := hq
        subst hq'
        clear hq
        have HO2 := hmk (HOJ.out.below bq)
        have hG2 := Nat.lt_of_lt_of_le hG bq.size
        have nb2 : w2.heap[G]? = some (.cells #[.slice ap (l[j]).1.length cp, .int .i64 vk, .bool vb, .int .i64 vi, .string vs, .slice val vnl vcl, .slice vam vnm vcm] 50 (0, 0)) := (bq.block _ hG).trans nb
        clear xm0 xm1 xm2 xm3 xm4 xm5 xm6 m0 m1 m2 m3 m4 m5 m6
        clear bq HOJ
        go_wp2_with fail
        refine wp_region_sub w2.heap.size (by kernel_rfl) (by kernel_rfl) ?_
        repeat (go_big_quiet_step (first | fail))
        refine wpQuiet_nil ?_
        rintro w3 ⟨⟨wq', bq⟩, hq⟩
        have hq' : w3 = wq' := hq
        subst hq'
        clear hq
        have HN := hmk (filt_yes (f := stF ps) hjl hST)
        have o3 := HO2.out.below bq
        have HLF : Hid (Lf.lies w3 S l[j] [.slice ap (l[j]).1.length cp, .int .i64 vk, .bool vb, .int .i64 vi, .string vs, .slice val vnl vcl, .slice vam vnm vcm]) := Lf.keep (kb.out w3 o3.b).1 (fun _ h => h) HLF0.out
        have nb3 : w3.heap[G]? = some (.cells #[.slice ap (l[j]).1.length cp, .int .i64 vk, .bool vb, .int .i64 vi, .string vs, .slice val vnl vcl, .slice vam vnm vcm] 50 (0, 0)) := (bq.block _ (hG2)).trans nb2
        have n0 : w3.cell? ⟨G, 0, none⟩ = some (.slice ap (l[j]).1.length cp) := cell_of_block nb3 0
        have n1 : w3.cell? ⟨G, 1, none⟩ = some (.int .i64 vk) := cell_of_block nb3 1
        have n2 : w3.cell? ⟨G, 2, none⟩ = some (.bool vb) := cell_of_block nb3 2
        have n3 : w3.cell? ⟨G, 3, none⟩ = some (.int .i64 vi) := cell_of_block nb3 3
        have n4 : w3.cell? ⟨G, 4, none⟩ = some (.string vs) := cell_of_block nb3 4
        have n5 : w3.cell? ⟨G, 5, none⟩ = some (.slice val vnl vcl) := cell_of_block nb3 5
        have n6 : w3.cell? ⟨G, 6, none⟩ = some (.slice vam vnm vcm) := cell_of_block nb3 6
        clear bq
        go_wp2_with (at_builtin; go_loud (refine wpl_outF rfl (.tmp 52) (.tmp 54) rfl _ rfl o3 hS1 HLF.out (fun b h => .inl h) 1 rfl (by omega) ?_))
        intro g6 cap w6 o6
        rw [← HN.out] at o6
        clear o3 HLF n0 n1 n2 n3 n4 n5 n6 nb3
        go_wp2_with fail
        go_roundw
        case rel => exact ⟨j + 1, d, n5, _, c5, b5, o5, by omega, hd, by go_num, rfl, hh5, hl5, o6, HPF.out.next⟩
        case measure => simp [RowKit.intOf]; omega
      have y2 : ((n5 : Int) == 0) = false := by rw [beq_eq_false_iff_ne]; omega
      have y3 : (0 : Int) < n5 := by omega
      have y5 : decide (0 < n5) = true := decide_eq_true (by omega)
      have y4 : decide ((0 : Int) < (n5 : Int)) = true := decide_eq_true y3
      obtain ⟨_, vr, hvr, ar', cr', br', or', rfl, hhr, hlr⟩ := HLR.out wq oj.b d b5 o5 hl5 0 (by omega)
      have e0 : (R.drop d)[0]'(by omega) = R[d] := by rw [List.getElem_drop]; rfl
      obtain rfl : a5 = some ⟨b5, o5, none⟩ := hh5.at_.resolve_left (by omega)
      have hSr := (HLR.out wq oj.b d b5 o5 hl5 0 (by omega)).1
      have zr : b5 < wq.heap.size := Nat.lt_of_lt_of_le hSr.2 hzq
      rw [e0] at hvr hhr hlr
      have r0 : wq.cell? ⟨b5, o5, none⟩ = some (.slice ar' (R[d]).length cr') := by simpa using hvr
      have xr0 : ∀ x : Sub wq.heap.size wq, _ := sub_cell r0 zr
      have KQ : Hid (∀ W, Below wq.heap.size wq W → liesP W (New w w1) R[d] br' or' ∧ liesP W S (l[j]).1 bp op ∧ (∀ b, New w w1 b → b < W.heap.size) ∧ (∀ b, S b → b < W.heap.size)) := fun W hb =>
        ⟨liesP_keep (fun x hx => hb.block x (Nat.lt_of_lt_of_le hx.2 hzq)) (fun _ h => h) hlr, liesP_keep (kb.out W (oj.below hb).b).1 (fun _ h => h) HLP.out, fun b hb' => Nat.lt_of_lt_of_le (Nat.lt_of_lt_of_le hb'.2 hzq) hb.size, (kb.out W (oj.below hb).b).2⟩
      have C33 : Hid (∀ x : Sub wq.heap.size wq, Calls Tryz.prog 33 #[.slice ar' (R[d]).length cr', .slice ap (l[j]).1.length cp] x.w fun e w'' => e = .returned (.int .i64 (lexL oeE R[d] (l[j]).1)) ∧ ∃ y : Sub wq.heap.size wq, w'' = y.w) :=
        sub_call fun w' hb => (opaths_any R[d] (l[j]).1 (New w w1) S ar' cr' br' or' ap cp bp op w' hhr (KQ.out w' hb).1 hh (KQ.out w' hb).2.1 (KQ.out w' hb).2.2.1 (KQ.out w' hb).2.2.2).mono fun e w'' ⟨he, h2⟩ => ⟨he, hb.trans (h2.mono hb.size)⟩
      have CAB : Hid (∀ W, Below wq.heap.size wq W → ∀ x : Sub W.heap.size W, Calls Tryz.prog 37 #[.slice ar' (R[d]).length cr', .slice ap (l[j]).1.length cp] x.w fun e w'' => e = .returned (.bool (cabP R[d] (l[j]).1)) ∧ ∃ y : Sub W.heap.size W, w'' = y.w) := fun W hW =>
        sub_call fun w' hb => (cabP_any R[d] (l[j]).1 (New w w1) S ar' cr' br' or' ap cp bp op w' hhr (KQ.out w' (hW.trans (hb.mono hW.size))).1 hh (KQ.out w' (hW.trans (hb.mono hW.size))).2.1 (KQ.out w' (hW.trans (hb.mono hW.size))).2.2.1 (KQ.out w' (hW.trans (hb.mono hW.size))).2.2.2).mono fun e w'' ⟨he, h2⟩ => ⟨he, hb.trans (h2.mono hb.size)⟩
      have C37 := hmk (CAB.out wq (Below.refl _ _))
      have HST1 : Hid (cabP R[d] (l[j]).1 = true → stF ps l[j] = false) := fun h => drp_out HRS.out HR.out hjl hdR h
      have HST2 : Hid (¬ lexL oeE R[d] (l[j]).1 < 0 → cabP R[d] (l[j]).1 = false → stF ps l[j] = true) := fun h h' => drp_in HPF.out HRS.out HR.out hjl hdR h h'
      have HMO : Hid (lexL oeE R[d] (l[j]).1 < 0 → cabP R[d] (l[j]).1 = false → PasF l R j (d + 1)) := fun h h' => HPF.out.more HR.out hdR hjl h h'
      obtain ⟨a6, c6, hsl, hh6⟩ := slP1 (some ⟨b5, o5, none⟩) n5 c5 b5 o5 hh5 (by omega)
      have hl6 : liesQ w1 (New w w1) (R.drop (d + 1)) b5 (o5 + 1) := fun i hi => by
        have hi' : i + 1 < (R.drop d).length := by rw [List.length_drop] at hi ⊢; omega
        obtain ⟨g1, v, g2, g3⟩ := hl5 (i + 1) hi'
        refine ⟨g1, v, by rw [show o5 + 1 + i = o5 + (i + 1) by omega]; exact g2, ?_⟩
        have : (R.drop (d + 1))[i] = (R.drop d)[i + 1] := by rw [List.getElem_drop, List.getElem_drop]; congr 1; omega
        rw [this]; exact g3
      have HOJ := hmk oj
      generalize hcc : lexL oeE R[d] (l[j]).1 = cc at *
      generalize hab : cabP R[d] (l[j]).1 = AB at *
      clear oj hcc hab hvr hlr e0 KQ
      clear hdl
      by_cases hlt : cc < 0
      · cases AB with
        | false =>
          have HP2 := hmk (HMO.out hlt rfl)
          clear HST1 HST2 HMO
          go_wp2_with fail
          refine wp_region_sub wq.heap.size (by kernel_rfl) (by kernel_rfl) ?_
          repeat (go_big_quiet_step (first | exact C33.out _ | exact C37.out _))
          refine wpQuiet_nil ?_
          rintro w2 ⟨⟨wq', bq⟩, hq⟩
          have hq' : w2 = wq' := hq
          subst hq'
          clear hq
          have o2 := HOJ.out.below bq
          have nb2 : w2.heap[G]? = some (.cells #[.slice ap (l[j]).1.length cp, .int .i64 vk, .bool vb, .int .i64 vi, .string vs, .slice val vnl vcl, .slice vam vnm vcm] 50 (0, 0)) := (bq.block _ hG).trans nb
          have hG2 := Nat.lt_of_lt_of_le hG bq.size
          clear xm0 xm1 xm2 xm3 xm4 xm5 xm6 m0 m1 m2 m3 m4 m5 m6
          clear bq HOJ C33 C37 CAB xr0 r0
          go_wp2_with fail
          go_roundw
          case rel => exact ⟨d + 1, n5 - 1, a6, c6, b5, o5 + 1, by omega, rfl, hh6, hl6, o2, HP2, nb2, hG2⟩
          case measure => simp [lenQ]; omega
        | true =>
          have hST := HST1.out rfl
          clear HST1 HST2 HMO
          go_wp2_with fail
          refine wp_region_sub wq.heap.size (by kernel_rfl) (by kernel_rfl) ?_
          repeat (go_big_quiet_step (first | exact C33.out _ | exact C37.out _))
          refine wpQuiet_nil ?_
          rintro w2 ⟨⟨wq', bq⟩, hq⟩
          have hq' : w2 = wq' := hq
          subst hq'
          clear hq
          have HO2 := hmk (HOJ.out.below bq)
          have C37' := hmk (CAB.out w2 bq)
          have nb2 : w2.heap[G]? = some (.cells #[.slice ap (l[j]).1.length cp, .int .i64 vk, .bool vb, .int .i64 vi, .string vs, .slice val vnl vcl, .slice vam vnm vcm] 50 (0, 0)) := (bq.block _ hG).trans nb
          have hG2 := Nat.lt_of_lt_of_le hG bq.size
          have r0' : w2.cell? ⟨b5, o5, none⟩ = some (.slice ar' (R[d]).length cr') := (bq.cell (p := ⟨b5, o5, none⟩) zr).trans r0
          have xr0' : ∀ x : Sub w2.heap.size w2, _ := sub_cell r0' (Nat.lt_of_lt_of_le zr bq.size)
          clear xm0 xm1 xm2 xm3 xm4 xm5 xm6 m0 m1 m2 m3 m4 m5 m6
          have m0 : w2.cell? ⟨G, 0, none⟩ = some (.slice ap (l[j]).1.length cp) := cell_of_block nb2 0
          have xm0 : ∀ x : Sub w2.heap.size w2, _ := sub_cell m0 hG2
          have HN := hmk (filt_no (f := stF ps) hjl hST)
          clear bq HOJ C33 C37 CAB xr0 r0 hST
          go_wp2_with fail
          refine wp_region_sub w2.heap.size (by kernel_rfl) (by kernel_rfl) ?_
          repeat (go_big_quiet_step (first | exact C37'.out _))
          refine wpQuiet_nil ?_
          rintro w3 ⟨⟨wq', bq⟩, hq⟩
          have hq' : w3 = wq' := hq
          subst hq'
          clear hq
          have o3 := HO2.out.below bq
          rw [← HN.out] at o3
          clear bq HO2 C37' xr0' r0' m0 xm0
          go_wp2_with fail
          go_roundw
          case rel => exact ⟨j + 1, d, n5, _, c5, b5, o5, by omega, hd, by go_num, rfl, hh5, hl5, o3, HPF.out.next⟩
          case measure => simp [RowKit.intOf]; omega
      · have hdc : decide (cc < 0) = false := decide_eq_false hlt
        cases AB with
        | true =>
          have hST := HST1.out rfl
          clear HST1 HST2 HMO
          go_wp2_with fail
          refine wp_region_sub wq.heap.size (by kernel_rfl) (by kernel_rfl) ?_
          repeat (go_big_quiet_step (first | exact C33.out _ | exact C37.out _))
          refine wpQuiet_nil ?_
          rintro w2 ⟨⟨wq', bq⟩, hq⟩
          have hq' : w2 = wq' := hq
          subst hq'
          clear hq
          have HO2 := hmk (HOJ.out.below bq)
          have C37' := hmk (CAB.out w2 bq)
          have nb2 : w2.heap[G]? = some (.cells #[.slice ap (l[j]).1.length cp, .int .i64 vk, .bool vb, .int .i64 vi, .string vs, .slice val vnl vcl, .slice vam vnm vcm] 50 (0, 0)) := (bq.block _ hG).trans nb
          have hG2 := Nat.lt_of_lt_of_le hG bq.size
          have r0' : w2.cell? ⟨b5, o5, none⟩ = some (.slice ar' (R[d]).length cr') := (bq.cell (p := ⟨b5, o5, none⟩) zr).trans r0
          have xr0' : ∀ x : Sub w2.heap.size w2, _ := sub_cell r0' (Nat.lt_of_lt_of_le zr bq.size)
          clear xm0 xm1 xm2 xm3 xm4 xm5 xm6 m0 m1 m2 m3 m4 m5 m6
          have m0 : w2.cell? ⟨G, 0, none⟩ = some (.slice ap (l[j]).1.length cp) := cell_of_block nb2 0
          have xm0 : ∀ x : Sub w2.heap.size w2, _ := sub_cell m0 hG2
          have HN := hmk (filt_no (f := stF ps) hjl hST)
          clear bq HOJ C33 C37 CAB xr0 r0 hST
          go_wp2_with fail
          refine wp_region_sub w2.heap.size (by kernel_rfl) (by kernel_rfl) ?_
          repeat (go_big_quiet_step (first | exact C37'.out _))
          refine wpQuiet_nil ?_
          rintro w3 ⟨⟨wq', bq⟩, hq⟩
          have hq' : w3 = wq' := hq
          subst hq'
          clear hq
          have o3 := HO2.out.below bq
          rw [← HN.out] at o3
          clear bq HO2 C37' xr0' r0' m0 xm0
          go_wp2_with fail
          go_roundw
          case rel => exact ⟨j + 1, d, n5, _, c5, b5, o5, by omega, hd, by go_num, rfl, hh5, hl5, o3, HPF.out.next⟩
          case measure => simp [RowKit.intOf]; omega
        | false =>
          have hST := HST2.out hlt rfl
          clear HST1 HST2 HMO
          go_wp2_with fail
          refine wp_region_sub wq.heap.size (by kernel_rfl) (by kernel_rfl) ?_
          repeat (go_big_quiet_step (first | exact C33.out _ | exact C37.out _))
          refine wpQuiet_nil ?_
          rintro w2 ⟨⟨wq', bq⟩, hq⟩
          have hq' : w2 = wq' := hq
          subst hq'
          clear hq
          have HO2 := hmk (HOJ.out.below bq)
          have C37' := hmk (CAB.out w2 bq)
          have nb2 : w2.heap[G]? = some (.cells #[.slice ap (l[j]).1.length cp, .int .i64 vk, .bool vb, .int .i64 vi, .string vs, .slice val vnl vcl, .slice vam vnm vcm] 50 (0, 0)) := (bq.block _ hG).trans nb
          have hG2 := Nat.lt_of_lt_of_le hG bq.size
          have r0' : w2.cell? ⟨b5, o5, none⟩ = some (.slice ar' (R[d]).length cr') := (bq.cell (p := ⟨b5, o5, none⟩) zr).trans r0
          have xr0' : ∀ x : Sub w2.heap.size w2, _ := sub_cell r0' (Nat.lt_of_lt_of_le zr bq.size)
          clear xm0 xm1 xm2 xm3 xm4 xm5 xm6 m0 m1 m2 m3 m4 m5 m6
          have m0 : w2.cell? ⟨G, 0, none⟩ = some (.slice ap (l[j]).1.length cp) := cell_of_block nb2 0
          have xm0 : ∀ x : Sub w2.heap.size w2, _ := sub_cell m0 hG2
          clear bq HOJ C33 C37 CAB xr0 r0
          go_wp2_with fail
          refine wp_region_sub w2.heap.size (by kernel_rfl) (by kernel_rfl) ?_
          repeat (go_big_quiet_step (first | exact C37'.out _))
          refine wpQuiet_nil ?_
          rintro w3 ⟨⟨wq', bq⟩, hq⟩
          have hq' : w3 = wq' := hq
          subst hq'
          clear hq
          have HN := hmk (filt_yes (f := stF ps) hjl hST)
          have o3 := HO2.out.below bq
          have HLF : Hid (Lf.lies w3 S l[j] [.slice ap (l[j]).1.length cp, .int .i64 vk, .bool vb, .int .i64 vi, .string vs, .slice val vnl vcl, .slice vam vnm vcm]) := Lf.keep (kb.out w3 o3.b).1 (fun _ h => h) HLF0.out
          have nb3 : w3.heap[G]? = some (.cells #[.slice ap (l[j]).1.length cp, .int .i64 vk, .bool vb, .int .i64 vi, .string vs, .slice val vnl vcl, .slice vam vnm vcm] 50 (0, 0)) := (bq.block _ (hG2)).trans nb2
          have n0 : w3.cell? ⟨G, 0, none⟩ = some (.slice ap (l[j]).1.length cp) := cell_of_block nb3 0
          have n1 : w3.cell? ⟨G, 1, none⟩ = some (.int .i64 vk) := cell_of_block nb3 1
          have n2 : w3.cell? ⟨G, 2, none⟩ = some (.bool vb) := cell_of_block nb3 2
          have n3 : w3.cell? ⟨G, 3, none⟩ = some (.int .i64 vi) := cell_of_block nb3 3
          have n4 : w3.cell? ⟨G, 4, none⟩ = some (.string vs) := cell_of_block nb3 4
          have n5 : w3.cell? ⟨G, 5, none⟩ = some (.slice val vnl vcl) := cell_of_block nb3 5
          have n6 : w3.cell? ⟨G, 6, none⟩ = some (.slice vam vnm vcm) := cell_of_block nb3 6
          clear bq C37' xr0' r0' m0 xm0
          go_wp2_with (at_builtin; go_loud (refine wpl_outF rfl (.tmp 52) (.tmp 54) rfl _ rfl o3 hS1 HLF.out (fun b h => .inl h) 1 rfl (by omega) ?_))
          intro g6 cap w6 o6
          rw [← HN.out] at o6
          clear o3 HLF n0 n1 n2 n3 n4 n5 n6 nb3
          go_wp2_with fail
          go_roundw
          case rel => exact ⟨j + 1, d, n5, _, c5, b5, o5, by omega, hd, by go_num, rfl, hh5, hl5, o6, HPF.out.next⟩
          case measure => simp [RowKit.intOf]; omega
end Go.Proofs.YtfekgeaopchilaaGreatDoor
