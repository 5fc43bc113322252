import Derived.Test.YtolekldjbbjmjaaGreatDoorParH
/- the selector's reader: terms, Parse. -/
set_option linter.unusedSimpArgs false
set_option linter.unusedVariables false
namespace Go.Proofs.YtolekldjbbjmjaaGreatDoor
open Go.RowKit Go.Lib
def terF : Nat → List UInt8 → Nat → List Trm → Option (List Trm) × Nat
  | 0, _, k, _ => (none, k)
  | f + 1, l, k, acc => match (termF l k).1 with
    | none => (none, (termF l k).2)
    | some t => if (termF l k).2 = l.length then (some (acc ++ [t]), (termF l k).2) else if tkB l (termF l k).2 [44] = true then terF f l (skp l ((termF l k).2 + 1)) (acc ++ [t]) else (none, (termF l k).2)
def tersF (l : List UInt8) : Option (List Trm) × Nat := if skp l 0 = l.length then (some [], skp l 0) else terF (l.length + 1) l (skp l 0) []
def parF (l : List UInt8) : Option (List Trm) × Nat := if 1048576 < l.length then (none, 1048576) else tersF l
theorem terF_no {f : Nat} {l : List UInt8} {k : Nat} {acc : List Trm} (h : (termF l k).1 = none) : terF (f + 1) l k acc = (none, (termF l k).2) := by rw [terF, h]
theorem terF_end {f : Nat} {l : List UInt8} {k : Nat} {acc : List Trm} {t : Trm} (h : (termF l k).1 = some t) (h2 : (termF l k).2 = l.length) : terF (f + 1) l k acc = (some (acc ++ [t]), (termF l k).2) := by rw [terF, h]; simp only []; rw [if_pos h2]
theorem terF_next {f : Nat} {l : List UInt8} {k : Nat} {acc : List Trm} {t : Trm} (h : (termF l k).1 = some t) (h2 : (termF l k).2 ≠ l.length) (h3 : tkB l (termF l k).2 [44] = true) : terF (f + 1) l k acc = terF f l (skp l ((termF l k).2 + 1)) (acc ++ [t]) := by rw [terF, h]; simp only []; rw [if_neg h2, if_pos h3]
theorem terF_stop {f : Nat} {l : List UInt8} {k : Nat} {acc : List Trm} {t : Trm} (h : (termF l k).1 = some t) (h2 : (termF l k).2 ≠ l.length) (h3 : tkB l (termF l k).2 [44] = false) : terF (f + 1) l k acc = (none, (termF l k).2) := by rw [terF, h]; simp only []; rw [if_neg h2, if_neg (by rw [h3]; decide)]
def TsPost (R : Option (List Trm) × Nat) (g : Nat) (s : ByteArray) (w : World) (e : Ending) (w' : World) : Prop :=
  (∃ l u S, R.1 = some l ∧ e = .returned (.tuple #[u, .bool true]) ∧ OwnF w' w.heap.size S u l ∧ l.length ≤ s.size + 1 ∧ RdP g s w w' R.2) ∨ (R.1 = none ∧ e = .returned (.tuple #[.slice none 0 0, .bool false]) ∧ RdP g s w w' R.2)
theorem ext_empty (s : ByteArray) (k : Nat) (hk : k ≤ s.size) : (s.extract k s.size).toList.isEmpty = decide (k = s.size) := by
  rw [ByteArray.toList_eq, ext_list s k]
  by_cases h : k = s.size
  · rw [decide_eq_true h, List.drop_eq_nil_of_le (by simp; omega)]; rfl
  · rw [decide_eq_false h]
    cases hd : s.data.toList.drop k with
    | nil =>
      have := congrArg List.length hd
      simp at this
      have e : s.data.size = s.size := rfl
      omega
    | cons x t => rfl
theorem OwnF_rd {w W : World} {base g : Nat} {S : Nat → Prop} {u : Value} {l : List Trm} (h : OwnF w base S u l) (gr : w.grownBy W (some g)) (hg : g < base) : OwnF W base S u l :=
  h.keep keepF gr (fun r hr => by
    cases hr
    exact ⟨fun hs => by have := (h.off g hs).1; omega, fun e => by have := (h.lt e).1; omega⟩)
theorem wrdE_ge {l : List UInt8} {least j : Nat} {y x : List UInt8} {z : ByteArray} {k1 : Nat} (h : wrdE l least y j = some (z, k1)) : j ≤ k1 := by
  unfold wrdE at h
  split at h
  · have e := congrArg Prod.snd (Option.some.inj h)
    have := skp_ge l j
    simp only at e
    omega
  · cases h
theorem wrd_ge {l : List UInt8} {least k k1 : Nat} {x : ByteArray} (h : wrdF l least k = some (x, k1)) : k ≤ k1 := by
  unfold wrdF at h
  split at h
  · split at h
    · rename_i h0
      have h1 := ((Q.unqAll_inv l (k : Int)).2 h0).2.2.1
      have h2 := wrdE_ge (x := []) h
      omega
    · cases h
  · have h2 := wrdE_ge (x := []) h
    omega
theorem one_ge (l : List UInt8) (k : Nat) : k ≤ (oneF l k).2 := by
  unfold oneF
  cases h : wrdF l 0 k with
  | none => exact Nat.le_refl _
  | some y => obtain ⟨x, k1⟩ := y; exact wrd_ge h
theorem man_ge : ∀ (f : Nat) (l : List UInt8) (k : Nat) (acc : List ByteArray), k ≤ (manF f l k acc).2
  | 0, _, _, _ => Nat.le_refl _
  | f + 1, l, k, acc => by
    cases h : wrdF l 0 k with
    | none => rw [manF_no h]; exact Nat.le_refl _
    | some y =>
      obtain ⟨x, k1⟩ := y
      have h1 := wrd_ge h
      have h2 := skp_ge l (k1 + 1)
      cases ha : tkB l k1 [41] with
      | true => rw [manF_end h ha]; show k ≤ skp l (k1 + 1); omega
      | false =>
        cases hb : tkB l k1 [44] with
        | true =>
          rw [manF_next h ha hb]
          have := man_ge f l (skp l (k1 + 1)) (acc ++ [x])
          omega
        | false => rw [manF_stop h ha hb]; exact h1
theorem many_ge (l : List UInt8) (k : Nat) : k ≤ (manyF l k).2 := by
  unfold manyF
  split
  · have := man_ge (l.length + 1) l (skp l (k + 1)) []
    have h2 := skp_ge l (k + 1)
    omega
  · exact Nat.le_refl _
theorem withO_two (op : Int) (r : Option (List ByteArray) × Nat) : (withO op r).2 = r.2 := by
  unfold withO
  split <;> rfl
theorem cond_ge (l : List UInt8) (k : Nat) : k ≤ (condF l k).2 := by
  have h (n : Nat) := skp_ge l (k + n)
  unfold condF
  repeat' split
  all_goals (try rw [withO_two])
  · have := one_ge l (skp l (k + 2)); have := h 2; omega
  · have := one_ge l (skp l (k + 1)); have := h 1; omega
  · have := one_ge l (skp l (k + 2)); have := h 2; omega
  · have := many_ge l (skp l (k + 5)); have := h 5; omega
  · have := many_ge l (skp l (k + 2)); have := h 2; omega
  · exact Nat.le_refl _
theorem tkN_ge (l : List UInt8) (k : Nat) (p : List UInt8) : k ≤ tkN l k p := by
  unfold tkN
  split
  · have := skp_ge l (k + p.length); omega
  · exact Nat.le_refl _
theorem term_ge (l : List UInt8) (k : Nat) : k ≤ (termF l k).2 := by
  have h0 := tkN_ge l k [33]
  cases h : wrdF l 1 (tkN l k [33]) with
  | none => rw [termF_none h]; exact h0
  | some y =>
    obtain ⟨x, k2⟩ := y
    have h1 := wrd_ge h
    cases ht : tkB l k [33] with
    | true => rw [termF_not h ht]; show k ≤ k2; omega
    | false =>
      have h2 := cond_ge l k2
      cases hc : (condF l k2).1 with
      | none => rw [termF_bad h ht hc]; show k ≤ (condF l k2).2; omega
      | some z => obtain ⟨op, vs⟩ := z; rw [termF_some h ht hc]; show k ≤ (condF l k2).2; omega
set_option maxHeartbeats 8000000 in
set_option maxRecDepth 100000 in
theorem terms_at (g : Nat) (s : ByteArray) (w : World) (h : PB g s 0 w) (t : Tp w) (hs : s.size ≤ 1048576) (hg : 4 < g) :
    Calls Tryz.prog 36 #[.pointer (some ⟨g, 0, none⟩)] w (TsPost (tersF s.data.toList) g s w) := by
  have hlt := h.lt
  have hll : s.data.toList.length = s.size := by simp
  have R0 : RdP g s w w 0 := RdP.refl h (by omega)
  have HT := hmk t
  have CP : Hid (Calls Tryz.prog 54 #[.pointer (some ⟨g, 0, none⟩), .int .i64 0] w (PsPost g s 0 w)) := pass_any g s 0 0 w h (by omega) (by omega)
  have CRy : Hid (∀ W k, RdP g s w W k → k = s.size → Calls Tryz.prog 55 #[.pointer (some ⟨g, 0, none⟩)] W fun e w' => ∃ Y : ByteArray, e = .returned (.string Y) ∧ Y.toList.isEmpty = true ∧ RdP g s w w' k) := fun W k r hk => by
    refine (rest_any g s k W r.pb r.le).mono ?_
    rintro e w' ⟨rfl, q, rfl⟩
    exact ⟨_, rfl, by rw [ext_empty s k r.le, decide_eq_true hk], r.le, r.pb.drewN _, grown_drewN r.gr _⟩
  have CRn : Hid (∀ W k, RdP g s w W k → k ≠ s.size → Calls Tryz.prog 55 #[.pointer (some ⟨g, 0, none⟩)] W fun e w' => ∃ Y : ByteArray, e = .returned (.string Y) ∧ Y.toList.isEmpty = false ∧ w.grownBy w' (some g) ∧ RdP g s W w' k) := fun W k r hk => by
    refine (rest_any g s k W r.pb r.le).mono ?_
    rintro e w' ⟨rfl, q, rfl⟩
    exact ⟨_, rfl, by rw [ext_empty s k r.le, decide_eq_false hk], grown_drewN r.gr _, r.le, r.pb.drewN _, grown_drewN (World.grownBy.refl _ _) _⟩
  have CRy2 : Hid (∀ W k, RdP g s w W k → k = s.size → Calls Tryz.prog 55 #[.pointer (some ⟨g, 0, none⟩)] W fun e w' => ∃ Y : ByteArray, e = .returned (.string Y) ∧ Y.toList.isEmpty = true ∧ RdP g s W w' k) := fun W k r hk => by
    refine (rest_any g s k W r.pb r.le).mono ?_
    rintro e w' ⟨rfl, q, rfl⟩
    exact ⟨_, rfl, by rw [ext_empty s k r.le, decide_eq_true hk], r.le, r.pb.drewN _, grown_drewN (World.grownBy.refl _ _) _⟩
  have CT : Hid (∀ W k, RdP g s w W k → Calls Tryz.prog 56 #[.pointer (some ⟨g, 0, none⟩)] W (TmPost (termF s.data.toList k) g s W)) := fun W k r => term_at g s k W r.pb (HT.out.grown r.gr hg) hs r.le hg
  have CM : Hid (∀ W k, RdP g s w W k → Calls Tryz.prog 57 #[.pointer (some ⟨g, 0, none⟩), .string ⟨#[44]⟩] W (TkPost s.data.toList k [44] g s W)) := fun W k r => ptk g s _ k [44] W r.pb (by omega) r.le rfl (by decide) (by decide)
  obtain ⟨RES, hRES⟩ : ∃ RES, RES = tersF s.data.toList := ⟨_, rfl⟩
  rw [← hRES]
  have HM : Hid (RES = if skp s.data.toList 0 = s.size then (some [], skp s.data.toList 0) else terF (s.size + 1) s.data.toList (skp s.data.toList 0) []) := by show _ = _; rw [hRES]; unfold tersF; rw [hll]
  clear h t hRES
  go_enter Tryz.func36, Tryz.ntmps36
  go_wp2_with fail
  refine CP.out.mono ?_
  rintro e w1 ⟨rfl, r1⟩
  by_cases he : skp s.data.toList 0 = s.size
  · have HX : Hid (RES = (some [], skp s.data.toList 0)) := by show _ = _; rw [HM.out, if_pos he]
    have CR1 := hmk (CRy.out _ _ r1 he)
    clear HM CRy CRn CRy2 he
    go_wp2_with fail
    refine CR1.out.mono ?_
    rintro e w2 ⟨Y, rfl, hY, r2⟩
    go_wp2_with fail
    go_ret2
    exact .inl ⟨[], _, fun _ => False, by rw [HX.out], rfl, OwnR.nil _ _, by simp, by rw [HX.out]; exact r2⟩
  · have HX : Hid (RES = terF (s.size + 1) s.data.toList (skp s.data.toList 0) []) := by show _ = _; rw [HM.out, if_neg he]
    have CR1 := hmk (CRn.out _ _ r1 he)
    clear HM CRy he
    generalize skp s.data.toList 0 = k0 at *
    go_wp2_with fail
    refine CR1.out.mono ?_
    rintro e w2 ⟨Y, rfl, hY, gr2, r2⟩
    have R2 : RdP g s w w2 k0 := r1.trans r2
    clear r1 r2 gr2 CR1
    go_wp2_with fail
    clear hY
    go_loopw [4] (fun e4 wr => ∃ (f k : Nat) (acc : List Trm) (S : Nat → Prop), s.size < f + k ∧ RdP g s w wr k ∧ acc.length ≤ k ∧ Hid (RES = terF f s.data.toList k acc) ∧ Hid (OwnF wr w.heap.size S e4 acc)) (fun _ wr => s.size - at_ g wr)
    case atStart => exact ⟨s.size + 1, k0, [], _, by omega, R2, by simp, HX.out, OwnR.nil _ _⟩
    case round =>
      obtain ⟨f, k, acc, S, hf, R, hac, HR, HO⟩ := hrel
      have hkle := R.le
      obtain ⟨f, rfl⟩ : ∃ f', f = f' + 1 := ⟨f - 1, by omega⟩
      have hkat := hmk R.pb.at_
      have hzr := R.gr.size
      clear R2 HX
      go_wp2_with fail
      refine (CT.out _ _ R).mono ?_
      rintro e w3 (⟨key, op, vs, a, c, b, o, h1, rfl, h3, h4, h5, h6, h7, h8, r3⟩ | ⟨h1, key, op, rfl, r3⟩)
      case inr =>
        have HX2 : Hid (RES = (none, (termF s.data.toList k).2)) := by show _ = _; rw [HR.out, terF_no h1]
        have R3 := R.trans r3
        have R4 := hmk (R3.below ((Below.refl _ _).alloc (Nat.le_refl _) (.cells #[.string key, .int .i64 op, .slice none 0 0] 35)))
        clear h1 r3 R3
        go_wp2_with fail
        go_ret2
        exact .inr ⟨by rw [HX2.out], rfl, by rw [HX2.out]; exact R4.out⟩
      case inl =>
        have H1 := hmk h1
        have R3 := R.trans r3
        have hk1 := term_ge s.data.toList k
        have HO3 := hmk (OwnF_rd HO.out r3.gr hlt)
        have hult : ∀ r, u4.ownBlock = some r → w.heap.size ≤ r ∧ r < wr.heap.size := fun r hr => HO.out.lt hr
        clear h1 r3 HO
        generalize hk1e : (termF s.data.toList k).2 = k1 at *
        have HK1 := hmk hk1e
        clear hk1e
        obtain ⟨wb, hwb⟩ : ∃ wb, w3.alloc (.cells #[.string key, .int .i64 op, .slice a vs.length c] 35) = wb := ⟨_, rfl⟩
        have bB : Below w3.heap.size w3 wb := by rw [← hwb]; exact (Below.refl _ _).alloc (Nat.le_refl _) _
        have hX0 : wb.heap[w3.heap.size]? = some (.cells #[.string key, .int .i64 op, .slice a vs.length c] 35 (0, 0)) := by rw [← hwb]; exact heap_alloc_new _ _
        have d0 : wb.cell? ⟨w3.heap.size, 0, none⟩ = some (.string key) := by rw [cell_of_block hX0]; rfl
        have d1 : wb.cell? ⟨w3.heap.size, 1, none⟩ = some (.int .i64 op) := by rw [cell_of_block hX0]; rfl
        have d2 : wb.cell? ⟨w3.heap.size, 2, none⟩ = some (.slice a vs.length c) := by rw [cell_of_block hX0]; rfl
        have RB := R3.below bB
        have HOB := hmk (HO3.out.below keepF bB)
        have HLB : Hid (liesS wb (New wr w3) vs b o) := h5.keep (fun y hy => bB.block y hy.2) (fun _ h => h)
        have HBZ : Hid (w3.heap.size ≤ wb.heap.size) := bB.size
        have HLT : Hid (∀ r, New wr w3 r → r < wb.heap.size) := fun r hr => Nat.lt_of_lt_of_le hr.2 bB.size
        have HSP : Hid (∀ r, New wr w3 r → w.heap.size ≤ r ∧ some r ≠ u4.ownBlock) := fun r hr => ⟨Nat.le_trans hzr hr.1, fun e => by have := (hult r e.symm).2; have := hr.1; omega⟩
        have HD := hmk h4
        have HIN : Hid (In64 op) := by show In64 op; unfold In64; omega
        have HKS : Hid (key.size ≤ 140737488355328) := by show _ ≤ _; omega
        have HLN : Hid (acc.length ≤ 4294967296) := by show _ ≤ _; omega
        have HBS : Hid (w.heap.size ≤ wb.heap.size) := Nat.le_trans R3.gr.size bB.size
        have HUL := hmk hult
        clear R3 HO3 h5 h4 bB hX0 hult
        go_wp2_with (at_builtin; go_loud (refine wpl_termL wb rfl (.tmp 19) (.tmp 21) rfl w.heap.size rfl HOB.out key op HD.out HLB.out HLT.out HIN.out HKS.out HSP.out rfl HLN.out HBS.out ?_))
        intro g1 cap1 w4 o1 gr1 e1
        have R4 : RdP g s w w4 k1 := RB.far gr1 (fun r hr => (HUL.out r hr).1) hlt
        have HO4 : Hid (OwnF w4 w.heap.size (fun y => S y ∨ New wr w3 y) (.slice (some ⟨g1, 0, none⟩) (acc.length + 1) cap1) (acc ++ [(key, op, vs)])) := o1
        have hk1le := R4.le
        clear RB HOB HLB d0 d1 d2 hwb o1 gr1 e1
        by_cases he : k1 = s.size
        · have HX2 : Hid (RES = (some (acc ++ [(key, op, vs)]), k1)) := by show _ = _; rw [HR.out, terF_end H1.out (by rw [HK1.out, hll]; exact he), HK1.out]
          have CR2 := hmk (CRy2.out _ _ R4 he)
          clear he
          go_wp2_with fail
          refine CR2.out.mono ?_
          rintro e w5 ⟨Y, rfl, hY, r5⟩
          have HF : Hid (TsPost RES g s w (.returned (.tuple #[.slice (some ⟨g1, 0, none⟩) (acc.length + 1) cap1, .bool true])) w5) := .inl ⟨_, _, _, by rw [HX2.out], rfl, OwnF_rd HO4.out r5.gr hlt, by rw [List.length_append]; simp only [List.length_singleton]; omega, by rw [HX2.out]; exact R4.trans r5⟩
          clear r5 HO4 CR2
          go_wp2_with fail
          go_ret2
          exact HF.out
        · have CR2 := hmk (CRn.out _ _ R4 he)
          have HNE : Hid ((termF s.data.toList k).2 ≠ s.data.toList.length) := by show _ ≠ _; rw [HK1.out, hll]; exact he
          clear he
          go_wp2_with fail
          refine CR2.out.mono ?_
          rintro e w5 ⟨Y, rfl, hY, gr5, r5⟩
          have R5 := R4.trans r5
          have HO5 := hmk (OwnF_rd HO4.out r5.gr hlt)
          clear r5 gr5 CR2 HO4 R4
          go_wp2_with fail
          refine (CM.out _ _ R5).mono ?_
          rintro e w6 (⟨hT6, rfl, r6⟩ | ⟨hT6, rfl, r6⟩)
          · have R6 : RdP g s w w6 (skp s.data.toList (k1 + 1)) := R5.trans r6
            have HX2 : Hid (RES = terF f s.data.toList (skp s.data.toList (k1 + 1)) (acc ++ [(key, op, vs)])) := by
              show _ = _
              rw [HR.out, terF_next H1.out HNE.out (by rw [HK1.out]; exact hT6), HK1.out]
            have hle1 := tkB_le hT6 (by decide)
            have HO6 := hmk (OwnF_rd HO5.out r6.gr hlt)
            have hsk1 := skp_ge s.data.toList (k1 + 1)
            have hat6 := hmk R6.pb.at_
            clear hT6 r6 HO5 hY
            go_wp2_with fail
            go_roundw
            case rel => exact ⟨f, _, acc ++ [(key, op, vs)], _, by omega, R6, by rw [List.length_append]; simp only [List.length_singleton]; omega, HX2.out, HO6.out⟩
            case measure =>
              rw [hat6.out, hkat.out]
              simp only [List.length_singleton] at hle1
              omega
          · have R6 := R5.trans r6
            have HX2 : Hid (RES = (none, k1)) := by show _ = _; rw [HR.out, terF_stop H1.out HNE.out (by rw [HK1.out]; exact hT6), HK1.out]
            clear hT6 r6 hY
            go_wp2_with fail
            go_ret2
            exact .inr ⟨by rw [HX2.out], rfl, by rw [HX2.out]; exact R6⟩
def PaPost (R : Option (List Trm) × Nat) (w : World) (e : Ending) (w' : World) : Prop :=
  (∃ l u S, R.1 = some l ∧ e = .returned (.tuple #[u, .int .i64 (-1), .int .i64 0]) ∧ OwnF w' w.heap.size S u l ∧ l.length ≤ 1048577 ∧ Below w.heap.size w w') ∨ (R.1 = none ∧ e = .returned (.tuple #[.slice none 0 0, .int .i64 (R.2 : Int), .int .i64 200]) ∧ Below w.heap.size w w')
set_option maxHeartbeats 8000000 in
set_option maxRecDepth 100000 in
theorem parse_any (s : ByteArray) (w : World) (t : Tp w) (hs : s.size ≤ 140737488355328) : Calls Tryz.prog 17 #[.string s] w (PaPost (parF s.data.toList) w) := by
  have hll : s.data.toList.length = s.size := by simp
  by_cases hbig : 1048576 < s.size
  · have HX : Hid (parF s.data.toList = (none, 1048576)) := by show _ = _; unfold parF; rw [hll, if_pos hbig]
    have y : (s.size : Int) > 1048576 := by omega
    generalize parF s.data.toList = RES at *
    clear hbig hll t
    go_enter Tryz.func17, Tryz.ntmps17
    go_wp2_with fail
    go_ret3
    exact .inr ⟨by rw [HX.out], by rw [HX.out]; rfl, Below.refl _ _⟩
  · have HX : Hid (parF s.data.toList = tersF s.data.toList) := by show _ = _; unfold parF; rw [hll, if_neg hbig]
    have y : ¬ (s.size : Int) > 1048576 := by omega
    have hz := t.z
    have hw1 := heap_alloc_new w (.cells #[.string s, .int .i64 0] 82)
    have b1 : Below w.heap.size w (w.alloc (.cells #[.string s, .int .i64 0] 82)) := (Below.refl _ _).alloc (Nat.le_refl _) _
    have CT := hmk (terms_at w.heap.size s (w.alloc (.cells #[.string s, .int .i64 0] 82)) hw1 (t.below b1 hz) (by omega) hz)
    have HB := hmk b1
    have HSZ : Hid ((w.alloc (.cells #[.string s, .int .i64 0] 82)).heap.size = w.heap.size + 1) := by show _ = _; rw [alloc_size]
    have HKB : Hid (∀ W k, RdP w.heap.size s (w.alloc (.cells #[.string s, .int .i64 0] 82)) W k → Below w.heap.size w W) := fun W k r =>
      b1.trans ((Below.refl w.heap.size _).grown r.gr (by rw [alloc_size]; omega) (fun y hy => by cases hy; exact Nat.le_refl _))
    generalize parF s.data.toList = RES at *
    generalize tersF s.data.toList = RES2 at *
    obtain rfl : RES = RES2 := HX.out
    clear hw1 b1 HX hbig hll t
    go_enter Tryz.func17, Tryz.ntmps17
    go_wp2_with fail
    refine CT.out.mono ?_
    rintro e w2 (⟨l, u, S, h1, rfl, h3, h4, r2⟩ | ⟨h1, rfl, r2⟩)
    · have HF : Hid (PaPost RES w (.returned (.tuple #[u, .int .i64 (-1), .int .i64 0])) w2) := .inl ⟨l, u, S, h1, rfl, h3.base (by have := HSZ.out; have h9 : (w.alloc (.cells #[.string s, .int .i64 0] 82)).heap.size = w.heap.size + 1 := this; omega), by omega, HKB.out _ _ r2⟩
      clear h3 r2
      go_wp2_with fail
      go_ret3
      exact HF.out
    · have c1 := r2.pb.c1
      have HB2 := hmk (HKB.out _ _ r2)
      have H1 := hmk h1
      clear r2 h1
      go_wp2
      go_quiet (fail)
      go_wp2
      go_ret3
      exact .inr ⟨H1.out, rfl, below_drewN HB2.out _⟩
end Go.Proofs.YtolekldjbbjmjaaGreatDoor
