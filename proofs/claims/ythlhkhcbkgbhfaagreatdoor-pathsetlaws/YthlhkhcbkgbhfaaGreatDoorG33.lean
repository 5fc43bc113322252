/- joined: EndP AmgL -/
import Derived.Test.YthlhkhcbkgbhfaaGreatDoorSmhL
import Derived.Test.YthlhkhcbkgbhfaaGreatDoorCopS
/- samePath of paths that may be; what is below stands side by side; each path is at or above an end. -/
set_option linter.unusedSimpArgs false
set_option linter.unusedVariables false
namespace Go.Proofs.YthlhkhcbkgbhfaaGreatDoor
open Go.RowKit Go.Lib
theorem sV_os {v u : V} (h : sV v u = true) : osV v u = 0 := by
  obtain ⟨k, b, i, s, l, m⟩ := v
  obtain ⟨k2, b2, i2, s2, l2, m2⟩ := u
  rw [sV, sv6] at h
  obtain ⟨rfl, rfl, rfl, rfl, _, _⟩ := of_decide_eq_true h
  rw [osV_then]
  show (if cmpI k k = 0 then (if cmpB b b = 0 then (if cmpI i i = 0 then cmpS s s else cmpI i i) else cmpB b b) else cmpI k k) = 0
  rw [if_pos ((cmpI_nul _ _).2 rfl), if_pos ((cmpB_nul _ _).2 rfl), if_pos ((cmpI_nul _ _).2 rfl)]
  exact wk_S.self s
theorem sV_refl (v : V) : sV v v = true := by
  obtain ⟨k, b, i, s, l, m⟩ := v
  rw [sV, sv6]
  exact decide_eq_true ⟨rfl, rfl, rfl, rfl, rfl, rfl⟩
theorem lex_zero {α : Type} {f : α → α → Int} : ∀ (a b : List α), a.length = b.length → (∀ i, (h : i < a.length) → (h' : i < b.length) → f a[i] b[i] = 0) → lexL f a b = 0
  | [], [], _, _ => rfl
  | [], y :: b, h, _ => by simp at h
  | x :: a, [], h, _ => by simp at h
  | x :: a, y :: b, h, hf => by
    have h0 := hf 0 (by simp) (by simp)
    simp only [List.getElem_cons_zero] at h0
    rw [lexL, if_pos h0]
    refine lex_zero a b (by simpa using h) fun i hi hi' => ?_
    have := hf (i + 1) (by simp; omega) (by simp; omega)
    simpa using this
theorem sM_om {a b : Mem} (h : sM a b = true) : omM a b = 0 := by
  rw [sM] at h
  obtain ⟨h1, h2⟩ := of_decide_eq_true h
  rw [omM_then]
  show (if cmpS a.1 b.1 = 0 then osV a.2 b.2 else cmpS a.1 b.1) = 0
  rw [h1, if_pos (wk_S.self _)]
  exact sV_os h2
theorem sPr_lex {p q : List El} (h : sPr p q) : lexL oeE p q = 0 := by
  refine lex_zero p q h.1 fun j hj hj' => ?_
  obtain ⟨h1, h2⟩ := h.2 j hj hj'
  rw [sE] at h1
  obtain ⟨e1, e2, e3, e4⟩ := of_decide_eq_true h1
  have hk : lexL omM p[j].key q[j].key = 0 := lex_zero _ _ e3 fun i hi hi' => sM_om (h2 i hi hi')
  rw [oeE_then]
  show (if cmpI p[j].kind q[j].kind = 0 then gE p[j].kind p[j] q[j] else cmpI p[j].kind q[j].kind) = 0
  rw [e1, if_pos ((cmpI_nul _ _).2 rfl), gE]
  split
  · rw [e2]; exact wk_S.self _
  · split
    · exact hk
    · exact sV_os e4
theorem sPr_refl (p : List El) : sPr p p := ⟨rfl, fun j h h' => ⟨by rw [sE]; exact decide_eq_true ⟨rfl, rfl, rfl, sV_refl _⟩, fun i hi hi' => by rw [sM]; exact decide_eq_true ⟨rfl, sV_refl _⟩⟩⟩
/-- of paths that may be: samePath tells whether they are the same -/
theorem sP_lex {p q : List El} (hp : pathB p = true) (hq : pathB q = true) : sP p q = decide (lexL oeE p q = 0) := by
  by_cases h : lexL oeE p q = 0
  · rw [decide_eq_true h]
    have e := (path_same hp hq).1 h
    rw [e]
    exact sP_yes (sPr_refl q)
  · rw [decide_eq_false h]
    exact sP_no fun hh => h (sPr_lex hh)
theorem spathE_any (p q : List El) (S S' : Nat → Prop) (ap : Option Addr) (cp bp op : Nat) (ap' : Option Addr) (cp' bp' op' : Nat) (w : World) (hap : Headed ap p.length cp bp op) (hp : liesP w S p bp op) (hap' : Headed ap' q.length cp' bp' op') (hp' : liesP w S' q bp' op') (hS : ∀ x, S x → x < w.heap.size) (hS' : ∀ x, S' x → x < w.heap.size) (h1 : pathB p = true) (h2 : pathB q = true) :
    Calls Tryz.prog 25 #[.slice ap p.length cp, .slice ap' q.length cp'] w (BPost (decide (lexL oeE p q = 0)) w) := by
  have := spathG_any p q S S' ap cp bp op ap' cp' bp' op' w hap hp hap' hp' hS hS'
  rwa [sP_lex h1 h2] at this
/-- a set of some paths weighs no more than they -/
theorem set_wt : ∀ (R l : List (List El)), R.Pairwise (fun a b => lexL oeE a b < 0) → (∀ p ∈ R, p ∈ l) → R.length + wtQ R ≤ l.length + wtQ l
  | [], l, _, _ => by simp [wtQ]
  | x :: t, l, hr, hs => by
    obtain ⟨l1, l2, rfl⟩ := List.append_of_mem (hs x List.mem_cons_self)
    rw [List.pairwise_cons] at hr
    have ih := set_wt t (l1 ++ l2) hr.2 fun p hp => by
      have h1 := hs p (List.mem_cons_of_mem _ hp)
      have hne : p ≠ x := fun e => by have := hr.1 p hp; rw [e, wk_P.self] at this; omega
      rw [List.mem_append, List.mem_cons] at h1
      rw [List.mem_append]
      exact h1.elim .inl (fun h => h.elim (fun e => absurd e hne) .inr)
    simp only [List.length_append, List.length_cons, wtQ_app, wtQ] at ih ⊢
    omega
end Go.Proofs.YthlhkhcbkgbhfaaGreatDoor
/- among, paths, rises of the statements of layer 10. -/
namespace Go.Proofs.YthlhkhcbkgbhfaaGreatDoor
open Go.RowKit Go.Lib
set_option maxHeartbeats 8000000 in
set_option maxRecDepth 100000 in
theorem among_any (l : List (List El)) (p : List El) (S S' : Nat → Prop) (al : Option Addr) (cl bl ol : Nat) (ap : Option Addr) (cp bp op : Nat) (w : World) (hal : Headed al l.length cl bl ol) (hl : liesQ w S l bl ol) (hap : Headed ap p.length cp bp op) (hp : liesP w S' p bp op) (hS : ∀ b, S b → b < w.heap.size) (hS' : ∀ b, S' b → b < w.heap.size) (hg : ∀ q ∈ l, pathB q = true) (hpp : pathB p = true) :
    Calls Tryz.prog 14 #[.slice al l.length cl, .slice ap p.length cp] w (BPost (memB l p) w) := by
  have HL := hmk hl
  have HP := hmk hp
  have HG := hmk hg
  have HPP := hmk hpp
  clear hl hp hg hpp
  have hlen : l.length ≤ 9223372036854775807 := Nat.le_trans hal.le hal.max
  have HM1 : Hid (∀ j, (h : j < l.length) → lexL oeE l[j] p = 0 → memB l p = true) := fun j h e => memB_yes h e
  have HM2 : Hid ((∀ i, (hi : i < l.length) → lexL oeE l[i] p ≠ 0) → memB l p = false) := memB_no
  generalize memB l p = RR at *
  go_enter Tryz.func14, Tryz.ntmps14
  go_wp2_with fail
  go_loopw [5] (fun e wr => ∃ j : Nat, j ≤ l.length ∧ e = .int .i64 (j : Int) ∧ Below w.heap.size w wr ∧ Hid (∀ i, (hi : i < l.length) → i < j → lexL oeE l[i] p ≠ 0)) (fun e _ => l.length - (RowKit.intOf e).toNat)
  case atStart => exact ⟨0, by omega, rfl, Below.refl _ _, fun i hi h => by omega⟩
  case round =>
    obtain ⟨j, hj, rfl, bj, HN⟩ := hrel
    have hzr := bj.size
    by_cases hjl : j < l.length
    case neg =>
      obtain rfl : j = l.length := by omega
      have y1 : ¬ (l.length : Int) < l.length := by omega
      have HF := hmk (HM2.out (fun i hi => HN.out i hi hi))
      go_wp2_with fail
      go_ret
      exact ⟨by rw [HF.out]; rfl, bj⟩
    have y1 : (j : Int) < l.length := by omega
    obtain ⟨hSb, v, hv, aq, cq, bq, oq, rfl, hhq, hlq⟩ := HL.out j hjl
    obtain rfl : al = some ⟨bl, ol, none⟩ := hal.at_.resolve_left (by omega)
    have hk0 : ∀ x, S x → wr.heap[x]? = w.heap[x]? := fun x hx => bj.block x (hS x hx)
    have r0 : wr.cell? ⟨bl, ol + j, none⟩ = some (.slice aq (l[j]).length cq) := (World.cell?_of_block (w := w) (a := ⟨bl, ol + j, none⟩) (hk0 _ hSb)).trans hv
    have c := hmk (spathE_any l[j] p S S' aq cq bq oq ap cp bp op wr hhq (liesP_keep hk0 (fun _ h => h) hlq) hap (liesP_keep (fun x hx => bj.block x (hS' x hx)) (fun _ h => h) HP.out) (fun x hx => Nat.lt_of_lt_of_le (hS x hx) hzr) (fun x hx => Nat.lt_of_lt_of_le (hS' x hx) hzr) (HG.out _ (List.getElem_mem hjl)) HPP.out)
    have HX1 := hmk (HM1.out j hjl)
    have HX2 : Hid (lexL oeE l[j] p ≠ 0 → ∀ i, (hi : i < l.length) → i < j + 1 → lexL oeE l[i] p ≠ 0) := fun h i hi hij => by
      by_cases e : i = j
      · subst e; exact h
      · exact HN.out i hi (by omega)
    clear hlq hhq hv hk0
    generalize lexL oeE l[j] p = Z at *
    generalize l[j] = pj at *
    by_cases hZ : Z = 0
    · have HF := hmk (HX1.out hZ)
      rw [decide_eq_true hZ] at c
      clear HX1 HX2
      go_wp2_with fail
      refine c.out.mono ?_
      rintro e w1 ⟨rfl, b1⟩
      go_wp2_with fail
      go_ret
      exact ⟨by rw [HF.out]; rfl, bj.trans (b1.mono hzr)⟩
    · have HF := hmk (HX2.out hZ)
      rw [decide_eq_false hZ] at c
      clear HX1 HX2
      go_wp2_with fail
      refine c.out.mono ?_
      rintro e w1 ⟨rfl, b1⟩
      go_wp2_with fail
      go_roundw
      case rel => exact ⟨j + 1, by omega, by go_num, bj.trans (b1.mono hzr), HF⟩
      case measure => simp [RowKit.intOf]; omega
set_option maxHeartbeats 8000000 in
set_option maxRecDepth 100000 in
theorem paths_any (l : List (List El)) (S : Nat → Prop) (al : Option Addr) (cl bl ol : Nat) (w : World) (tb : Tb w) (hal : Headed al l.length cl bl ol) (hl : liesQ w S l bl ol) (hS : ∀ b, S b → b < w.heap.size) (hw : ∀ p ∈ l, wtP p ≤ 2147483647) :
    Calls Tryz.prog 8 #[.slice al l.length cl] w (BPost (l.all pathB) w) := by
  have HL := hmk hl
  have HT := hmk tb
  have HW := hmk hw
  clear hl tb hw
  have hlen : l.length ≤ 9223372036854775807 := Nat.le_trans hal.le hal.max
  have HM1 : Hid (∀ j, (h : j < l.length) → pathB l[j] = false → l.all pathB = false) := fun j h e => by
    rw [List.all_eq_false]; exact ⟨l[j], List.getElem_mem h, by rw [e]; simp⟩
  have HM2 : Hid ((∀ i, (hi : i < l.length) → pathB l[i] = true) → l.all pathB = true) := fun h => by
    rw [List.all_eq_true]; intro x hx; obtain ⟨i, hi, rfl⟩ := List.getElem_of_mem hx; exact h i hi
  generalize l.all pathB = RR at *
  go_enter Tryz.func8, Tryz.ntmps8
  go_wp2_with fail
  go_loopw [3] (fun e wr => ∃ j : Nat, j ≤ l.length ∧ e = .int .i64 (j : Int) ∧ Below w.heap.size w wr ∧ Hid (∀ i, (hi : i < l.length) → i < j → pathB l[i] = true)) (fun e _ => l.length - (RowKit.intOf e).toNat)
  case atStart => exact ⟨0, by omega, rfl, Below.refl _ _, fun i hi h => by omega⟩
  case round =>
    obtain ⟨j, hj, rfl, bj, HN⟩ := hrel
    have hzr := bj.size
    by_cases hjl : j < l.length
    case neg =>
      obtain rfl : j = l.length := by omega
      have y1 : ¬ (l.length : Int) < l.length := by omega
      have HF := hmk (HM2.out (fun i hi => HN.out i hi hi))
      go_wp2_with fail
      go_ret
      exact ⟨by rw [HF.out]; rfl, bj⟩
    have y1 : (j : Int) < l.length := by omega
    obtain ⟨hSb, v, hv, aq, cq, bq, oq, rfl, hhq, hlq⟩ := HL.out j hjl
    obtain rfl : al = some ⟨bl, ol, none⟩ := hal.at_.resolve_left (by omega)
    have hk0 : ∀ x, S x → wr.heap[x]? = w.heap[x]? := fun x hx => bj.block x (hS x hx)
    have r0 : wr.cell? ⟨bl, ol + j, none⟩ = some (.slice aq (l[j]).length cq) := (World.cell?_of_block (w := w) (a := ⟨bl, ol + j, none⟩) (hk0 _ hSb)).trans hv
    have c := hmk (pcheck_any l[j] S aq cq bq oq wr (HT.out.below bj HT.out.z) hhq (liesP_keep hk0 (fun _ h => h) hlq) (fun x hx => Nat.lt_of_lt_of_le (hS x hx) hzr) (HW.out _ (List.getElem_mem hjl)))
    have HX1 := hmk (HM1.out j hjl)
    have HX2 : Hid (pathB l[j] = true → ∀ i, (hi : i < l.length) → i < j + 1 → pathB l[i] = true) := fun h i hi hij => by
      by_cases e : i = j
      · subst e; exact h
      · exact HN.out i hi (by omega)
    clear hlq hhq hv hk0
    cases hb : pathB l[j] with
    | false =>
      have HF := hmk (HX1.out hb)
      rw [errP_no hb] at c
      clear HX1 HX2 hb
      generalize l[j] = pj at *
      go_wp2_with fail
      refine c.out.mono ?_
      rintro e w1 ⟨rfl, b1⟩
      go_wp2_with fail
      go_ret
      exact ⟨by rw [HF.out]; rfl, bj.trans (b1.mono hzr)⟩
    | true =>
      have HF := hmk (HX2.out hb)
      rw [errP_yes hb] at c
      clear HX1 HX2 hb
      generalize l[j] = pj at *
      go_wp2_with fail
      refine c.out.mono ?_
      rintro e w1 ⟨rfl, b1⟩
      go_wp2_with fail
      go_roundw
      case rel => exact ⟨j + 1, by omega, by go_num, bj.trans (b1.mono hzr), HF⟩
      case measure => simp [RowKit.intOf]; omega
set_option maxHeartbeats 8000000 in
set_option maxRecDepth 100000 in
theorem rises_any (l : List (List El)) (S : Nat → Prop) (al : Option Addr) (cl bl ol : Nat) (w : World) (tb : Tb w) (hal : Headed al l.length cl bl ol) (hl : liesQ w S l bl ol) (hS : ∀ b, S b → b < w.heap.size) (hw : ∀ p ∈ l, wtP p ≤ 2147483647) (hlm : l.length ≤ 17179869184) (hg : ∀ p ∈ l, pathB p = true) (hr : l.Pairwise (fun a b => lexL oeE a b < 0)) :
    Calls Tryz.prog 12 #[.slice al l.length cl] w (BPost true w) := by
  have CP : Hid (∀ W, Below w.heap.size w W → Calls Tryz.prog 8 #[.slice al l.length cl] W (BPost true W)) := fun W hb => by
    have := paths_any l S al cl bl ol W (tb.below hb tb.z) hal (liesQ_keep (fun x hx => hb.block x (hS x hx)) (fun _ h => h) hl) (fun x hx => Nat.lt_of_lt_of_le (hS x hx) hb.size) hw
    rwa [List.all_eq_true.2 hg] at this
  have HL := hmk hl
  have HT := hmk tb
  have HW := hmk hw
  have HG := hmk hg
  have HR := hmk hr
  clear hl tb hw hg hr
  go_enter Tryz.func12, Tryz.ntmps12
  go_wp2_with fail
  go_loopw [3] (fun e wr => ∃ j : Nat, 1 ≤ j ∧ j ≤ l.length + 1 ∧ e = .int .i64 (j : Int) ∧ Below w.heap.size w wr) (fun e _ => l.length + 1 - (RowKit.intOf e).toNat)
  case atStart => exact ⟨1, by omega, by omega, rfl, Below.refl _ _⟩
  case round =>
    obtain ⟨j, hj1, hj, rfl, bj⟩ := hrel
    have hzr := bj.size
    by_cases hjl : j < l.length
    case neg =>
      have y1 : ¬ (j : Int) < l.length := by omega
      have c := hmk (CP.out wr bj)
      go_wp2_with fail
      refine c.out.mono ?_
      rintro e w1 ⟨rfl, b1⟩
      go_wp2_with fail
      go_ret
      exact ⟨rfl, bj.trans (b1.mono hzr)⟩
    have y1 : (j : Int) < l.length := by omega
    have y6 : ((j : Int) - 1) = ((j - 1 : Nat) : Int) := by omega
    have y7 : ((j - 1 : Nat) : Int) < (l.length : Int) := by omega
    have y7b : (j - 1 : Nat) < l.length := by omega
    obtain ⟨hSb, v, hv, aq, cq, bq, oq, rfl, hhq, hlq⟩ := HL.out j hjl
    obtain ⟨hSb2, v2, hv2, ap, cp, bp, op, rfl, hhp, hlp⟩ := HL.out (j - 1) y7b
    obtain rfl : al = some ⟨bl, ol, none⟩ := hal.at_.resolve_left (by omega)
    have r1 : wr.cell? ⟨bl, ol + j, none⟩ = some (.slice aq (l[j]).length cq) := (World.cell?_of_block (w := w) (a := ⟨bl, ol + j, none⟩) (bj.block _ (hS _ hSb))).trans hv
    have r0 : wr.cell? ⟨bl, ol + (j - 1), none⟩ = some (.slice ap (l[j - 1]).length cp) := (World.cell?_of_block (w := w) (a := ⟨bl, ol + (j - 1), none⟩) (bj.block _ (hS _ hSb2))).trans hv2
    have hlt := List.pairwise_iff_getElem.1 HR.out (j - 1) j y7b hjl (by omega)
    have e1 : cmpP l[j - 1] l[j] = lexL oeE l[j - 1] l[j] := cmpP_oe (HG.out _ (List.getElem_mem y7b)) (HG.out _ (List.getElem_mem hjl))
    have p0 : ∀ x : Sub wr.heap.size wr, _ := sub_cell r0 (World.block_lt_of_cell? wr _ r0)
    have p1 : ∀ x : Sub wr.heap.size wr, _ := sub_cell r1 (World.block_lt_of_cell? wr _ r1)
    have CI : Hid (∀ x : Sub wr.heap.size wr, Calls Tryz.prog 35 #[.slice ap (l[j - 1]).length cp, .slice aq (l[j]).length cq] x.w fun e w'' => e = .returned (.int .i64 (lexL oeE l[j - 1] l[j])) ∧ ∃ y : Sub wr.heap.size wr, w'' = y.w) := sub_call fun w' hb => by
      have hb2 := bj.trans (hb.mono hzr)
      have := cmpP_any l[j - 1] l[j] S S ap cp bp op aq cq bq oq w' (HT.out.below hb2 HT.out.z) hhp (liesP_keep (fun x hx => hb2.block x (hS x hx)) (fun _ h => h) hlp) hhq (liesP_keep (fun x hx => hb2.block x (hS x hx)) (fun _ h => h) hlq) (fun x hx => Nat.lt_of_lt_of_le (hS x hx) hb2.size) (fun x hx => Nat.lt_of_lt_of_le (hS x hx) hb2.size) (HW.out _ (List.getElem_mem y7b)) (HW.out _ (List.getElem_mem hjl))
      rw [e1] at this
      exact this.mono fun e w'' h => ⟨h.1, hb.trans (h.2.mono hb.size)⟩
    clear hlq hhq hv hlp hhp hv2 e1 r0 r1
    generalize lexL oeE l[j - 1] l[j] = Z at *
    generalize l[j - 1] = pi at *
    generalize l[j] = pj at *
    have y8 : ¬ (0 : Int) ≤ Z := by omega
    go_wp2_with fail
    refine wp_region_sub wr.heap.size (by kernel_rfl) (by kernel_rfl) ?_
    repeat (go_big_quiet_step (exact CI.out _))
    refine wpQuiet_nil ?_
    rintro wq ⟨⟨wq', bq⟩, hq⟩
    have hq' : wq = wq' := hq
    subst hq'
    clear hq p0 p1 CI
    go_wp2_with fail
    go_roundw
    case rel => exact ⟨j + 1, by omega, by omega, by go_num, bj.trans (bq.mono hzr)⟩
    case measure => simp [RowKit.intOf]; omega
end Go.Proofs.YthlhkhcbkgbhfaaGreatDoor
