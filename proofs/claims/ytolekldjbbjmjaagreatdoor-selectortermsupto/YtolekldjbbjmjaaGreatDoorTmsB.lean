import Derived.Test.YtolekldjbbjmjaaGreatDoorAwkB
/- SelectorTerms: the law's own walk. -/
set_option linter.unusedSimpArgs false
set_option linter.unusedVariables false
namespace Go.Proofs.YtolekldjbbjmjaaGreatDoor
open Go.RowKit Go.Lib
theorem one_term {R : Bool} {w : World} {S : Nat → Prop} {l : List Trm} {b o : Nat} (h : liesT R w S l b o) {i : Nat} (hi : i < l.length) : liesT R w S [l[i]] b (o + i * 3) := fun j hj => by
  obtain rfl : j = 0 := by simp at hj; exact hj
  have := h i hi
  simpa using this
theorem wtT_one {l : List Trm} {i : Nat} (hi : i < l.length) : wtT [l[i]] ≤ wtT l := by
  have := wtT_mem (List.getElem_mem hi)
  simp only [wtT]; omega
/-- the terms up to there -/
def allT (l : List Trm) (m : List Mem) (i : Nat) : Bool := (l.take i).all (termB m)
theorem allT_next {l : List Trm} {m : List Mem} {i : Nat} (h : i < l.length) : allT l m (i + 1) = (allT l m i && termB m l[i]) := by
  unfold allT
  rw [List.take_succ_eq_append_getElem h, List.all_append]
  simp
/-- the values up to there -/
def anyV (m : List Mem) (key : ByteArray) (vs : List ByteArray) (j : Nat) : Bool := (vs.take j).any (fun v => termB m (key, 3, [v]))
theorem anyV_next {m : List Mem} {key : ByteArray} {vs : List ByteArray} {j : Nat} (h : j < vs.length) : anyV m key vs (j + 1) = (anyV m key vs j || termB m (key, 3, [vs[j]])) := by
  unfold anyV
  rw [List.take_succ_eq_append_getElem h, List.any_append]
  simp
/-- a term in a block of its own -/
theorem term_box {W : World} {B : Nat} {key : ByteArray} {op : Int} {a : Option Addr} {c b o : Nat} {vs : List ByteArray} {S : Nat → Prop} (hX : W.heap[B]? = some (.cells #[.string key, .int .i64 op, .slice a vs.length c] 35 (0, 0)))
    (hk : key.size ≤ 140737488355328) (ho : In64 op) (hd : Headed a vs.length c b o) (hl : liesS W S vs b o) : liesT false W (fun y => S y ∨ y = B) [(key, op, vs)] B 0 := fun j hj => by
  obtain rfl : j = 0 := by simp at hj; exact hj
  refine ⟨.inr rfl, [.string key, .int .i64 op, .slice a vs.length c], fun i u hu => ?_, a, c, b, o, rfl, ho, hk, hd, hl.keep (fun _ _ => rfl) (fun y hy => .inl hy), fun h => by cases h⟩
  rw [cell_of_block hX]
  simpa using hu
set_option maxRecDepth 100000 in
set_option maxHeartbeats 1000000 in
theorem sl22 (bl ol n c i : Nat) (hi : i < n) (hn : n ≤ c) : ∃ c', (1 ≤ c' ∧ c' ≤ c) ∧ ∀ W, (Instr.slice 22 (.slice (some ⟨bl, ol, none⟩) n c) (some (.int .i64 (i : Int))) (some (.int .i64 ((i : Int) + 1))) none).run Tryz.prog W = .ok (.slice (some ⟨bl, ol + i * 3, none⟩) 1 c') W := by
  refine ⟨c - i, by omega, fun W => ?_⟩
  have h0 : (0 : Int) ≤ i := by omega
  have h1 : (i : Int) ≤ (i : Int) + 1 := by omega
  have h2 : (i : Int) + 1 ≤ c := by omega
  have e : ((i : Int) + 1).toNat = i + 1 := by omega
  have e2 : ¬ (c = i) := by omega
  have e3 : ¬ (c - i = 0) := by omega
  have e4 : i + 1 - i = 1 := by omega
  go_simp
set_option maxRecDepth 100000 in
set_option maxHeartbeats 1000000 in
theorem sl33 (bl ol n c i : Nat) (hi : i < n) (hn : n ≤ c) : ∃ c', (1 ≤ c' ∧ c' ≤ c) ∧ ∀ W, (Instr.slice 33 (.slice (some ⟨bl, ol, none⟩) n c) (some (.int .i64 (i : Int))) (some (.int .i64 ((i : Int) + 1))) none).run Tryz.prog W = .ok (.slice (some ⟨bl, ol + i, none⟩) 1 c') W := by
  refine ⟨c - i, by omega, fun W => ?_⟩
  have h0 : (0 : Int) ≤ i := by omega
  have h1 : (i : Int) ≤ (i : Int) + 1 := by omega
  have h2 : (i : Int) + 1 ≤ c := by omega
  have e : ((i : Int) + 1).toNat = i + 1 := by omega
  have e2 : ¬ (c = i) := by omega
  have e3 : ¬ (c - i = 0) := by omega
  have e4 : i + 1 - i = 1 := by omega
  go_simp
theorem step_openG {P : Program} {ops : Array Oper} {o : Oper} {a : Act} {w : World} {K' : Act → World → Prop} {Q : Exit → Act → World → Prop} {D : Prop} (hw : Region.wanted o (yielded ops a.tmps) = true)
    (h : Oper.wp P o a w K' Q) : if Region.wanted o (yielded ops a.tmps) = true then Oper.wp P o a w K' Q else D := by
  rw [if_pos hw]
  exact h
theorem one_text {w : World} {S : Nat → Prop} {l : List ByteArray} {b o : Nat} (h : liesS w S l b o) {j : Nat} (hj : j < l.length) : liesS w S [l[j]] b (o + j) := fun k hk => by
  obtain rfl : k = 0 := by simp at hk; exact hk
  have := h j hj
  simpa using this
/-- the box of a term, its operator stored into -/
theorem box_put {W : World} {B : Nat} {key : ByteArray} {op op' : Int} {v : Value} (h : W.heap[B]? = some (.cells #[.string key, .int .i64 op, v] 35 (0, 0))) : (W.setCell ⟨B, 1, none⟩ (.int .i64 op')).heap[B]? = some (.cells #[.string key, .int .i64 op', v] 35 (0, 0)) := by rw [set_block h]; rfl
theorem below_set {B i : Nat} {w W : World} {u : Value} (h : Below w.heap.size w W) (hB : w.heap.size ≤ B) : Below w.heap.size w (W.setCell ⟨B, i, none⟩ u) :=
  h.grown (grown_set1 W B i u) h.size (fun r hr => by cases hr; exact hB)
set_option maxHeartbeats 16000000 in
set_option maxRecDepth 100000 in
theorem terms_walk (l : List Trm) (lb : List Lab) (al : Option Addr) (cl bl ol : Nat) (ab : Option Addr) (cb bb ob : Nat) (w : World) (hT : Tq w)
    (hh : Headed al l.length cl bl ol) (hl : liesT false w (Old w) l bl ol) (hh2 : Headed ab lb.length cb bb ob) (hl2 : liesB w (Old w) lb bb ob) (hlm : lb.length ≤ 1048576) :
    Calls Tryz.prog 3 #[.slice al l.length cl, .slice ab lb.length cb] w (BPost true w) := by
  have HH := hmk hh
  have HL : Hid (∀ W, Below w.heap.size w W → liesT false W (Old w) l bl ol) := fun W hW => hl.keep (fun h => h) (fun y hy => hW.block y hy) (fun _ h => h)
  have HH2 := hmk hh2
  have HL2 : Hid (∀ W, Below w.heap.size w W → liesB W (Old w) lb bb ob) := fun W hW => hl2.keep (fun y hy => hW.block y hy) (fun _ h => h)
  have HTQ : Hid (∀ W, Below w.heap.size w W → Tq W) := fun W hW => hT.below hW hT.z
  have HOLD : Hid (∀ W, Below w.heap.size w W → ∀ y, Old w y → y < W.heap.size) := fun W hW y hy => Nat.lt_of_lt_of_le hy hW.size
  have H0 := hmk (terms_any l false (Old w) al cl bl ol w hh hl (fun y hy => hy))
  have HLM := hmk hlm
  have CN := num_any
  clear hh hl hh2 hl2 hT hlm
  go_enter Tryz.func3, Tryz.ntmps3
  go_wp2_with fail
  refine H0.out.mono ?_
  rintro e w1 ⟨r, rfl, hr, b1⟩
  have B1 := hmk b1
  cases r with
  | true =>
    go_wp2_with fail
    go_ret
    exact ⟨rfl, B1.out⟩
  | false =>
    have HWT : Hid (wtT l ≤ 2147483647) := hr rfl
    have HLL : Hid (l.length ≤ 2147483647) := Nat.le_trans (wtT_len l) HWT.out
    clear hr b1 H0
    have CA := hmk (awake_any w1 (HTQ.out _ B1.out))
    go_wp2_with fail
    refine CA.out.mono ?_
    rintro e w2 ⟨rfl, b2⟩
    have B2 := hmk (B1.out.trans (b2.mono B1.out.size))
    have CP : Hid (Calls Tryz.prog 10 #[.slice al l.length cl] w2 (fun e w' => e = .returned (.tuple #[.string (textL l), .int .i64 (errN l)]) ∧ Below w2.heap.size w2 w')) := print_any l false (Old w) al cl bl ol w2 HH.out (HL.out _ B2.out) (HOLD.out _ B2.out) HWT.out (HTQ.out _ B2.out).t
    clear b2 CA
    generalize textL l = X at *
    obtain ⟨en, hen⟩ : ∃ en, errN l = en := ⟨_, rfl⟩
    rw [hen] at CP
    have HEN := hmk hen
    clear hen
    go_wp2_with fail
    refine CP.out.mono ?_
    rintro e w3 ⟨rfl, b3⟩
    have B3 := hmk (B2.out.trans (b3.mono B2.out.size))
    have CB := hmk (members_any lb (Old w) ab cb bb ob w3 HH2.out (HL2.out _ B3.out) (HOLD.out _ B3.out) (by have := HLM.out; omega))
    clear b3 CP
    go_wp2_with fail
    refine CB.out.mono ?_
    rintro e w4 ⟨v4, rfl, o4, b4⟩
    obtain ⟨am, cm, bm, om, rfl, hhm, hlm⟩ := own_mems o4
    have B4 := hmk (B3.out.trans (b4.mono B3.out.size))
    have hml : (lb.map memV).length = lb.length := by simp
    have HHM : Hid (Headed am lb.length cm bm om) := by rw [hml] at hhm; exact hhm
    have HMS : Hid (∀ W, Below w4.heap.size w4 W → liesM false W (fun y => w3.heap.size ≤ y ∧ y < w4.heap.size) (lb.map memV) bm om ∧ ∀ y, (w3.heap.size ≤ y ∧ y < w4.heap.size) → y < W.heap.size) := fun W hW => ⟨liesM_keep (fun h => h) (fun y hy => hW.block y hy.2) (fun _ h => h) _ hlm, fun y hy => Nat.lt_of_lt_of_le hy.2 hW.size⟩
    rw [hml]
    have HMA : Hid (∀ (x : List Trm) (S : Nat → Prop) (a : Option Addr) (c b o : Nat) (W : World), Below w4.heap.size w4 W → Headed a x.length c b o → liesT false W S x b o → (∀ y, S y → y < W.heap.size) → wtT x ≤ 2147483647 →
        Calls Tryz.prog 13 #[.slice a x.length c, .slice am lb.length cm] W (BPost (matchB x (lb.map memV)) W)) := fun x S a c b o W hW h1 h2 h3 h4 => by
      have c := match_any x (lb.map memV) false false S _ a c b o am cm bm om W h1 h2 h3 (by rw [hml]; exact HHM.out) (HMS.out W hW).1 (HMS.out W hW).2 (by rw [hml]; have := HLM.out; omega) h4 (HTQ.out W (B4.out.trans (hW.mono B4.out.size))).t.t
      rw [hml] at c
      exact c
    clear b4 CB o4 hhm hlm hml
    generalize lb.map memV = M at *
    cases hg : l.all goodB with
    | false =>
      have e1 : en = 200 := by rw [← HEN.out]; unfold errN; rw [hg]; rfl
      have hm : matchB l M = false := by unfold matchB; rw [hg]; rfl
      have CM := HMA.out l _ al cl bl ol w4 (Below.refl _ _) HH.out (HL.out _ B4.out) (HOLD.out _ B4.out) HWT.out
      rw [hm] at CM
      have CM := hmk CM
      subst e1
      clear hg hm HMA HMS HHM HEN
      go_wp2_with (first | (go_at_call 12; refine (CN _ _).mono ?_; rintro e wn ⟨rfl, hwn⟩; obtain rfl : w4 = wn := hwn.symm; clear hwn))
      refine CM.out.mono ?_
      rintro e w5 ⟨rfl, b5⟩
      have B5 := hmk (B4.out.trans (b5.mono B4.out.size))
      clear b5 CM
      go_wp2_with fail
      go_ret
      exact ⟨rfl, B5.out⟩
    | true =>
      have e1 : en = 0 := by rw [← HEN.out]; unfold errN; rw [hg]; rfl
      subst e1
      have HG : Hid (∀ i (hi : i < l.length), goodB l[i] = true) := fun i hi => List.all_eq_true.1 hg _ (List.getElem_mem hi)
      have HFIN : Hid (matchB l M = allT l M l.length) := by show _ = _; unfold matchB allT; rw [hg, List.take_length]; rfl
      have HNIL : Hid (∀ W, Below w4.heap.size w4 W → Calls Tryz.prog 13 #[.slice none 0 0, .slice am lb.length cm] W (BPost true W)) := fun W hW => HMA.out [] (fun _ => False) none 0 0 0 W hW head_nilS (fun j hj => by simp at hj) (fun y hy => hy.elim) (by decide)
      have HALL : Hid (∀ W, Below w4.heap.size w4 W → Calls Tryz.prog 13 #[.slice al l.length cl, .slice am lb.length cm] W (BPost (allT l M l.length) W)) := fun W hW => by
        have c := HMA.out l _ al cl bl ol W hW HH.out (HL.out W (B4.out.trans (hW.mono B4.out.size))) (HOLD.out W (B4.out.trans (hW.mono B4.out.size))) HWT.out
        rw [HFIN.out] at c
        exact c
      have HB4 : Hid (∀ W, Below w4.heap.size w4 W → Below w.heap.size w W) := fun W hW => B4.out.trans (hW.mono B4.out.size)
      clear hg HEN
      go_wp2_with (first | (go_at_call 12; refine (CN _ _).mono ?_; rintro e wn ⟨rfl, hwn⟩; obtain rfl : w4 = wn := hwn.symm; clear hwn))
      go_loopw [9, 10] (fun e9 e10 wr => ∃ i : Nat, i ≤ l.length ∧ e10 = .int .i64 (i : Int) ∧ e9 = .bool (allT l M i) ∧ Below w4.heap.size w4 wr) (fun _ e10 _ => l.length - (RowKit.intOf e10).toNat)
      case atStart => exact ⟨0, by omega, rfl, rfl, Below.refl _ _⟩
      case round =>
        obtain ⟨i, hi, rfl, rfl, Bi⟩ := hrel
        by_cases hil : i < l.length
        · skip
          have hbl : bl < w4.heap.size := by
            have h1 := (HL.out w4 B4.out i hil).1
            have h2 := B4.out.size
            have : bl < w.heap.size := h1
            omega
          obtain rfl : al = some ⟨bl, ol, none⟩ := HH.out.at_.resolve_left (by omega)
          have yi : (i : Int) < l.length := by omega
          have hcl := HH.out.le
          have hLb : l.length ≤ 2147483647 := HLL.out
          have hmx := HH.out.max
          obtain ⟨key, op, vs, hti⟩ : ∃ key op vs, l[i] = (key, op, vs) := ⟨_, _, _, rfl⟩
          have HCO : Hid (∀ c W, 1 ≤ c → c ≤ maxLen → Below w4.heap.size w4 W → Calls Tryz.prog 13 #[.slice (some ⟨bl, ol + i * 3, none⟩) 1 c, .slice am lb.length cm] W (BPost (termB M (key, op, vs)) W)) := fun c W hc1 hc2 hW => by
            have c := HMA.out [l[i]] _ (some ⟨bl, ol + i * 3, none⟩) c bl (ol + i * 3) W hW ⟨hc1, hc2, .inr rfl, fun h => by cases h⟩ (one_term (HL.out W (HB4.out W hW)) hil) (HOLD.out W (HB4.out W hW)) (Nat.le_trans (wtT_one hil) HWT.out)
            rw [match_one M (HG.out i hil), hti] at c
            exact c
          have hgd := HG.out i hil
          have hwt1 := Nat.le_trans (wtT_one hil) HWT.out
          rw [hti] at hgd hwt1
          have HAN : Hid (allT l M (i + 1) = (allT l M i && termB M (key, op, vs))) := by show _ = _; rw [allT_next hil, hti]
          obtain ⟨hSi, cs, hrow, hlies⟩ := HL.out w4 B4.out i hil
          rw [hti] at hlies
          obtain ⟨ta, tc, tb, to', e, hin, hks, hd1, hls1, _⟩ := hlies
          subst e
          obtain ⟨g0, g1, g2⟩ := row3 hrow
          have HC : Hid (∀ W, Below w4.heap.size w4 W → W.cell? ⟨bl, ol + i * 3, none⟩ = some (.string key) ∧ W.cell? ⟨bl, ol + i * 3 + 1, none⟩ = some (.int .i64 op) ∧ W.cell? ⟨bl, ol + i * 3 + 2, none⟩ = some (.slice ta vs.length tc)) := fun W hW =>
            ⟨(hW.cell (p := ⟨bl, ol + i * 3, none⟩) hbl).trans g0, (hW.cell (p := ⟨bl, ol + i * 3 + 1, none⟩) hbl).trans g1, (hW.cell (p := ⟨bl, ol + i * 3 + 2, none⟩) hbl).trans g2⟩
          have HLS : Hid (∀ W, Below w4.heap.size w4 W → liesS W (Old w) vs tb to' ∧ ∀ y, Old w y → y < W.heap.size) := fun W hW => ⟨hls1.keep (fun y hy => hW.block y (HOLD.out w4 B4.out y hy)) (fun _ h => h), HOLD.out W (HB4.out W hW)⟩
          have HKS := hmk hks
          have HD1 := hmk hd1
          have HFL : Hid (∀ op', goodB (key, op', vs) = true → matchB [(key, op', vs)] M = termB M (key, op', vs)) := fun op' h => match_one M h
          have HBX : Hid (∀ (W : World) (B : Nat) (op' : Int), w4.heap.size ≤ B → B < W.heap.size → Below w4.heap.size w4 W → W.heap[B]? = some (.cells #[.string key, .int .i64 op', .slice ta vs.length tc] 35 (0, 0)) → goodB (key, op', vs) = true → In64 op' →
              Calls Tryz.prog 13 #[.slice (some ⟨B, 0, none⟩) 1 1, .slice am lb.length cm] W (BPost (termB M (key, op', vs)) W)) := fun W B op' h1 h2 h3 h4 h5 h6 => by
            have hl' := (HLS.out W h3)
            have c := HMA.out [(key, op', vs)] _ (some ⟨B, 0, none⟩) 1 B 0 W h3 ⟨Nat.le_refl _, by decide, .inr rfl, fun h => by cases h⟩ (term_box h4 HKS.out h6 HD1.out hl'.1) (fun y hy => hy.elim (fun q => hl'.2 y q) (fun q => by rw [q]; exact h2)) (by simp only [wtT] at hwt1 ⊢; exact hwt1)
            rw [HFL.out op' h5] at c
            exact c
          have HVL : Hid (vs.length ≤ 2147483647) := by have := wtS_len vs; simp only [wtT] at hwt1; show _ ≤ _; omega
          have HWV : Hid (∀ x ∈ vs, wtT [(key, (3 : Int), [x])] ≤ 2147483647) := fun x hx => by have := wtS_mem hx; simp only [wtT, wtS] at hwt1 ⊢; omega
          have HGD := hmk hgd
          have HFT := hmk (flip_term M hgd)
          have HFG := hmk (flip_good hgd)
          have ho := good_ops hgd
          have hop : op = 1 ∨ op = 2 ∨ op = 3 ∨ op = 4 := ho
          have HVT := hmk (vals_term (key := key) (vs := vs) M)
          clear hti ho hin hks hd1 hls1 hrow g0 g1 g2 hSi hgd hwt1 HFL
          have hzi := Bi.size
          obtain ⟨t, htt⟩ : ∃ t, termB M (key, op, vs) = t := ⟨_, rfl⟩
          obtain ⟨A, hA⟩ : ∃ A, allT l M i = A := ⟨_, rfl⟩
          rw [htt] at HCO HAN HFT
          rw [hA] at HAN
          rw [hA]
          have HTT := hmk htt
          clear htt hA
          have yt : ((!t) == t) = false := by cases t <;> rfl
          have ytt : (t != t) = false := by cases t <;> rfl
          rcases hop with rfl | rfl | rfl | rfl
          · have HF1 : Hid (termB M (key, 2, vs) = !t) := HFT.out
            have HF2 : Hid (goodB (key, 2, vs) = true) := HFG.out
            clear HFT HFG
            obtain ⟨cl2, ⟨hc1, hc2⟩, HSL⟩ := sl22 bl ol l.length cl i hil hcl
            have C1 := hmk (HCO.out cl2 wr hc1 (by omega) Bi)
            cases A with
            | true =>
              have HAN2 : Hid (allT l M (i + 1) = t) := HAN.out
              go_wp2_with fail
              refine C1.out.mono ?_
              rintro e v1 ⟨rfl, c1⟩
              have BV1 := Bi.trans (c1.mono Bi.size)
              have hzv := BV1.size
              obtain ⟨r0, r1, r2⟩ := HC.out _ BV1
              clear c1 C1 HSL
              obtain ⟨vb, hvb⟩ : ∃ vb, v1.alloc (.cells #[.string key, .int .i64 1, .slice ta vs.length tc] 35) = vb := ⟨_, rfl⟩
              have Bb : Below w4.heap.size w4 vb := by rw [← hvb]; exact BV1.alloc hzv _
              have hXvb : vb.heap[v1.heap.size]? = some (.cells #[.string key, .int .i64 1, .slice ta vs.length tc] 35 (0, 0)) := by rw [← hvb]; exact heap_alloc_new _ _
              have k0 : vb.cell? ⟨v1.heap.size, 0, none⟩ = some (.string key) := by rw [cell_of_block hXvb]; rfl
              have k1 : vb.cell? ⟨v1.heap.size, 1, none⟩ = some (.int .i64 1) := by rw [cell_of_block hXvb]; rfl
              have k2 : vb.cell? ⟨v1.heap.size, 2, none⟩ = some (.slice ta vs.length tc) := by rw [cell_of_block hXvb]; rfl
              have kf : ∀ ii, vb.frozen? ⟨v1.heap.size, ii, none⟩ = false := frozen_of_block hXvb
              obtain ⟨vc, hvc⟩ : ∃ vc, vb.setCell ⟨v1.heap.size, 1, none⟩ (.int .i64 2) = vc := ⟨_, rfl⟩
              have Bc : Below w4.heap.size w4 vc := by rw [← hvc]; exact below_set Bb hzv
              have hXvc : vc.heap[v1.heap.size]? = some (.cells #[.string key, .int .i64 2, .slice ta vs.length tc] 35 (0, 0)) := by rw [← hvc]; exact box_put hXvb
              have m0 : vc.cell? ⟨v1.heap.size, 0, none⟩ = some (.string key) := by rw [cell_of_block hXvc]; rfl
              have m1 : vc.cell? ⟨v1.heap.size, 1, none⟩ = some (.int .i64 2) := by rw [cell_of_block hXvc]; rfl
              have m2 : vc.cell? ⟨v1.heap.size, 2, none⟩ = some (.slice ta vs.length tc) := by rw [cell_of_block hXvc]; rfl
              obtain ⟨rc0, rc1, rc2⟩ := HC.out _ Bc
              obtain ⟨rb0, rb1, rb2⟩ := HC.out _ Bb
              have hzl : w4.heap.size ≤ vc.heap.size := Bc.size
              have bA : Below w4.heap.size w4 (vc.alloc (.cells #[.string key, .int .i64 2, .slice ta vs.length tc] 35)) := Bc.alloc hzl _
              have C2 := hmk (HBX.out (vc.alloc (.cells #[.string key, .int .i64 2, .slice ta vs.length tc] 35)) vc.heap.size 2 hzl (by rw [alloc_size]; omega) bA (heap_alloc_new _ _) HF2.out (by unfold In64; omega))
              rw [HF1.out] at C2
              have BA := hmk bA
              clear bA hXvb hXvc
              go_wp2_with fail
              refine C2.out.mono ?_
              rintro e v2 ⟨rfl, c2⟩
              have BV2 := BA.out.trans (c2.mono BA.out.size)
              obtain ⟨s0, s1, s2⟩ := HC.out _ BV2
              clear c2 C2 BA
              go_wp2_with fail
              go_roundw
              case rel => exact ⟨i + 1, by omega, by go_num, by rw [HAN2.out], BV2⟩
              case measure => simp [RowKit.intOf]; omega
            | false =>
              have HAN2 : Hid (allT l M (i + 1) = false) := HAN.out
              go_wp2_with fail
              refine C1.out.mono ?_
              rintro e v1 ⟨rfl, c1⟩
              have BV1 := Bi.trans (c1.mono Bi.size)
              have hzv := BV1.size
              obtain ⟨r0, r1, r2⟩ := HC.out _ BV1
              clear c1 C1 HSL
              obtain ⟨vb, hvb⟩ : ∃ vb, v1.alloc (.cells #[.string key, .int .i64 1, .slice ta vs.length tc] 35) = vb := ⟨_, rfl⟩
              have Bb : Below w4.heap.size w4 vb := by rw [← hvb]; exact BV1.alloc hzv _
              have hXvb : vb.heap[v1.heap.size]? = some (.cells #[.string key, .int .i64 1, .slice ta vs.length tc] 35 (0, 0)) := by rw [← hvb]; exact heap_alloc_new _ _
              have k0 : vb.cell? ⟨v1.heap.size, 0, none⟩ = some (.string key) := by rw [cell_of_block hXvb]; rfl
              have k1 : vb.cell? ⟨v1.heap.size, 1, none⟩ = some (.int .i64 1) := by rw [cell_of_block hXvb]; rfl
              have k2 : vb.cell? ⟨v1.heap.size, 2, none⟩ = some (.slice ta vs.length tc) := by rw [cell_of_block hXvb]; rfl
              have kf : ∀ ii, vb.frozen? ⟨v1.heap.size, ii, none⟩ = false := frozen_of_block hXvb
              obtain ⟨vc, hvc⟩ : ∃ vc, vb.setCell ⟨v1.heap.size, 1, none⟩ (.int .i64 2) = vc := ⟨_, rfl⟩
              have Bc : Below w4.heap.size w4 vc := by rw [← hvc]; exact below_set Bb hzv
              have hXvc : vc.heap[v1.heap.size]? = some (.cells #[.string key, .int .i64 2, .slice ta vs.length tc] 35 (0, 0)) := by rw [← hvc]; exact box_put hXvb
              have m0 : vc.cell? ⟨v1.heap.size, 0, none⟩ = some (.string key) := by rw [cell_of_block hXvc]; rfl
              have m1 : vc.cell? ⟨v1.heap.size, 1, none⟩ = some (.int .i64 2) := by rw [cell_of_block hXvc]; rfl
              have m2 : vc.cell? ⟨v1.heap.size, 2, none⟩ = some (.slice ta vs.length tc) := by rw [cell_of_block hXvc]; rfl
              obtain ⟨rc0, rc1, rc2⟩ := HC.out _ Bc
              obtain ⟨rb0, rb1, rb2⟩ := HC.out _ Bb
              have hzl : w4.heap.size ≤ vc.heap.size := Bc.size
              have bA : Below w4.heap.size w4 (vc.alloc (.cells #[.string key, .int .i64 2, .slice ta vs.length tc] 35)) := Bc.alloc hzl _
              have C2 := hmk (HBX.out (vc.alloc (.cells #[.string key, .int .i64 2, .slice ta vs.length tc] 35)) vc.heap.size 2 hzl (by rw [alloc_size]; omega) bA (heap_alloc_new _ _) HF2.out (by unfold In64; omega))
              rw [HF1.out] at C2
              have BA := hmk bA
              clear bA hXvb hXvc
              go_wp2_with fail
              refine C2.out.mono ?_
              rintro e v2 ⟨rfl, c2⟩
              have BV2 := BA.out.trans (c2.mono BA.out.size)
              obtain ⟨s0, s1, s2⟩ := HC.out _ BV2
              clear c2 C2 BA
              go_wp2_with fail
              go_roundw
              case rel => exact ⟨i + 1, by omega, by go_num, by rw [HAN2.out], BV2⟩
              case measure => simp [RowKit.intOf]; omega
          · have HF1 : Hid (termB M (key, 1, vs) = !t) := HFT.out
            have HF2 : Hid (goodB (key, 1, vs) = true) := HFG.out
            clear HFT HFG
            obtain ⟨cl2, ⟨hc1, hc2⟩, HSL⟩ := sl22 bl ol l.length cl i hil hcl
            have C1 := hmk (HCO.out cl2 wr hc1 (by omega) Bi)
            cases A with
            | true =>
              have HAN2 : Hid (allT l M (i + 1) = t) := HAN.out
              go_wp2_with fail
              refine C1.out.mono ?_
              rintro e v1 ⟨rfl, c1⟩
              have BV1 := Bi.trans (c1.mono Bi.size)
              have hzv := BV1.size
              obtain ⟨r0, r1, r2⟩ := HC.out _ BV1
              clear c1 C1 HSL
              obtain ⟨vb, hvb⟩ : ∃ vb, v1.alloc (.cells #[.string key, .int .i64 2, .slice ta vs.length tc] 35) = vb := ⟨_, rfl⟩
              have Bb : Below w4.heap.size w4 vb := by rw [← hvb]; exact BV1.alloc hzv _
              have hXvb : vb.heap[v1.heap.size]? = some (.cells #[.string key, .int .i64 2, .slice ta vs.length tc] 35 (0, 0)) := by rw [← hvb]; exact heap_alloc_new _ _
              have k0 : vb.cell? ⟨v1.heap.size, 0, none⟩ = some (.string key) := by rw [cell_of_block hXvb]; rfl
              have k1 : vb.cell? ⟨v1.heap.size, 1, none⟩ = some (.int .i64 2) := by rw [cell_of_block hXvb]; rfl
              have k2 : vb.cell? ⟨v1.heap.size, 2, none⟩ = some (.slice ta vs.length tc) := by rw [cell_of_block hXvb]; rfl
              have kf : ∀ ii, vb.frozen? ⟨v1.heap.size, ii, none⟩ = false := frozen_of_block hXvb
              obtain ⟨vc, hvc⟩ : ∃ vc, vb.setCell ⟨v1.heap.size, 1, none⟩ (.int .i64 1) = vc := ⟨_, rfl⟩
              have Bc : Below w4.heap.size w4 vc := by rw [← hvc]; exact below_set Bb hzv
              have hXvc : vc.heap[v1.heap.size]? = some (.cells #[.string key, .int .i64 1, .slice ta vs.length tc] 35 (0, 0)) := by rw [← hvc]; exact box_put hXvb
              have m0 : vc.cell? ⟨v1.heap.size, 0, none⟩ = some (.string key) := by rw [cell_of_block hXvc]; rfl
              have m1 : vc.cell? ⟨v1.heap.size, 1, none⟩ = some (.int .i64 1) := by rw [cell_of_block hXvc]; rfl
              have m2 : vc.cell? ⟨v1.heap.size, 2, none⟩ = some (.slice ta vs.length tc) := by rw [cell_of_block hXvc]; rfl
              obtain ⟨rc0, rc1, rc2⟩ := HC.out _ Bc
              obtain ⟨rb0, rb1, rb2⟩ := HC.out _ Bb
              have hzl : w4.heap.size ≤ vc.heap.size := Bc.size
              have bA : Below w4.heap.size w4 (vc.alloc (.cells #[.string key, .int .i64 1, .slice ta vs.length tc] 35)) := Bc.alloc hzl _
              have C2 := hmk (HBX.out (vc.alloc (.cells #[.string key, .int .i64 1, .slice ta vs.length tc] 35)) vc.heap.size 1 hzl (by rw [alloc_size]; omega) bA (heap_alloc_new _ _) HF2.out (by unfold In64; omega))
              rw [HF1.out] at C2
              have BA := hmk bA
              clear bA hXvb hXvc
              go_wp2_with fail
              refine C2.out.mono ?_
              rintro e v2 ⟨rfl, c2⟩
              have BV2 := BA.out.trans (c2.mono BA.out.size)
              obtain ⟨s0, s1, s2⟩ := HC.out _ BV2
              clear c2 C2 BA
              go_wp2_with fail
              go_roundw
              case rel => exact ⟨i + 1, by omega, by go_num, by rw [HAN2.out], BV2⟩
              case measure => simp [RowKit.intOf]; omega
            | false =>
              have HAN2 : Hid (allT l M (i + 1) = false) := HAN.out
              go_wp2_with fail
              refine C1.out.mono ?_
              rintro e v1 ⟨rfl, c1⟩
              have BV1 := Bi.trans (c1.mono Bi.size)
              have hzv := BV1.size
              obtain ⟨r0, r1, r2⟩ := HC.out _ BV1
              clear c1 C1 HSL
              obtain ⟨vb, hvb⟩ : ∃ vb, v1.alloc (.cells #[.string key, .int .i64 2, .slice ta vs.length tc] 35) = vb := ⟨_, rfl⟩
              have Bb : Below w4.heap.size w4 vb := by rw [← hvb]; exact BV1.alloc hzv _
              have hXvb : vb.heap[v1.heap.size]? = some (.cells #[.string key, .int .i64 2, .slice ta vs.length tc] 35 (0, 0)) := by rw [← hvb]; exact heap_alloc_new _ _
              have k0 : vb.cell? ⟨v1.heap.size, 0, none⟩ = some (.string key) := by rw [cell_of_block hXvb]; rfl
              have k1 : vb.cell? ⟨v1.heap.size, 1, none⟩ = some (.int .i64 2) := by rw [cell_of_block hXvb]; rfl
              have k2 : vb.cell? ⟨v1.heap.size, 2, none⟩ = some (.slice ta vs.length tc) := by rw [cell_of_block hXvb]; rfl
              have kf : ∀ ii, vb.frozen? ⟨v1.heap.size, ii, none⟩ = false := frozen_of_block hXvb
              obtain ⟨vc, hvc⟩ : ∃ vc, vb.setCell ⟨v1.heap.size, 1, none⟩ (.int .i64 1) = vc := ⟨_, rfl⟩
              have Bc : Below w4.heap.size w4 vc := by rw [← hvc]; exact below_set Bb hzv
              have hXvc : vc.heap[v1.heap.size]? = some (.cells #[.string key, .int .i64 1, .slice ta vs.length tc] 35 (0, 0)) := by rw [← hvc]; exact box_put hXvb
              have m0 : vc.cell? ⟨v1.heap.size, 0, none⟩ = some (.string key) := by rw [cell_of_block hXvc]; rfl
              have m1 : vc.cell? ⟨v1.heap.size, 1, none⟩ = some (.int .i64 1) := by rw [cell_of_block hXvc]; rfl
              have m2 : vc.cell? ⟨v1.heap.size, 2, none⟩ = some (.slice ta vs.length tc) := by rw [cell_of_block hXvc]; rfl
              obtain ⟨rc0, rc1, rc2⟩ := HC.out _ Bc
              obtain ⟨rb0, rb1, rb2⟩ := HC.out _ Bb
              have hzl : w4.heap.size ≤ vc.heap.size := Bc.size
              have bA : Below w4.heap.size w4 (vc.alloc (.cells #[.string key, .int .i64 1, .slice ta vs.length tc] 35)) := Bc.alloc hzl _
              have C2 := hmk (HBX.out (vc.alloc (.cells #[.string key, .int .i64 1, .slice ta vs.length tc] 35)) vc.heap.size 1 hzl (by rw [alloc_size]; omega) bA (heap_alloc_new _ _) HF2.out (by unfold In64; omega))
              rw [HF1.out] at C2
              have BA := hmk bA
              clear bA hXvb hXvc
              go_wp2_with fail
              refine C2.out.mono ?_
              rintro e v2 ⟨rfl, c2⟩
              have BV2 := BA.out.trans (c2.mono BA.out.size)
              obtain ⟨s0, s1, s2⟩ := HC.out _ BV2
              clear c2 C2 BA
              go_wp2_with fail
              go_roundw
              case rel => exact ⟨i + 1, by omega, by go_num, by rw [HAN2.out], BV2⟩
              case measure => simp [RowKit.intOf]; omega
          · have HF1 : Hid (termB M (key, 4, vs) = !t) := HFT.out
            have HF2 : Hid (goodB (key, 4, vs) = true) := HFG.out
            clear HFT HFG
            obtain ⟨cl2, ⟨hc1, hc2⟩, HSL⟩ := sl22 bl ol l.length cl i hil hcl
            have C1 := hmk (HCO.out cl2 wr hc1 (by omega) Bi)
            cases A with
            | true =>
              have HAN2 : Hid (allT l M (i + 1) = t) := HAN.out
              go_wp2_with fail
              refine C1.out.mono ?_
              rintro e v1 ⟨rfl, c1⟩
              have BV1 := Bi.trans (c1.mono Bi.size)
              have hzv := BV1.size
              obtain ⟨r0, r1, r2⟩ := HC.out _ BV1
              clear c1 C1 HSL
              obtain ⟨vb, hvb⟩ : ∃ vb, v1.alloc (.cells #[.string key, .int .i64 3, .slice ta vs.length tc] 35) = vb := ⟨_, rfl⟩
              have Bb : Below w4.heap.size w4 vb := by rw [← hvb]; exact BV1.alloc hzv _
              have hXvb : vb.heap[v1.heap.size]? = some (.cells #[.string key, .int .i64 3, .slice ta vs.length tc] 35 (0, 0)) := by rw [← hvb]; exact heap_alloc_new _ _
              have k0 : vb.cell? ⟨v1.heap.size, 0, none⟩ = some (.string key) := by rw [cell_of_block hXvb]; rfl
              have k1 : vb.cell? ⟨v1.heap.size, 1, none⟩ = some (.int .i64 3) := by rw [cell_of_block hXvb]; rfl
              have k2 : vb.cell? ⟨v1.heap.size, 2, none⟩ = some (.slice ta vs.length tc) := by rw [cell_of_block hXvb]; rfl
              have kf : ∀ ii, vb.frozen? ⟨v1.heap.size, ii, none⟩ = false := frozen_of_block hXvb
              obtain ⟨vc, hvc⟩ : ∃ vc, vb.setCell ⟨v1.heap.size, 1, none⟩ (.int .i64 0) = vc := ⟨_, rfl⟩
              have Bc : Below w4.heap.size w4 vc := by rw [← hvc]; exact below_set Bb hzv
              have hXvc : vc.heap[v1.heap.size]? = some (.cells #[.string key, .int .i64 0, .slice ta vs.length tc] 35 (0, 0)) := by rw [← hvc]; exact box_put hXvb
              have m0 : vc.cell? ⟨v1.heap.size, 0, none⟩ = some (.string key) := by rw [cell_of_block hXvc]; rfl
              have m1 : vc.cell? ⟨v1.heap.size, 1, none⟩ = some (.int .i64 0) := by rw [cell_of_block hXvc]; rfl
              have m2 : vc.cell? ⟨v1.heap.size, 2, none⟩ = some (.slice ta vs.length tc) := by rw [cell_of_block hXvc]; rfl
              obtain ⟨rc0, rc1, rc2⟩ := HC.out _ Bc
              obtain ⟨rb0, rb1, rb2⟩ := HC.out _ Bb
              have mf : ∀ ii, vc.frozen? ⟨v1.heap.size, ii, none⟩ = false := frozen_of_block hXvc
              obtain ⟨vd, hvd⟩ : ∃ vd, vc.setCell ⟨v1.heap.size, 1, none⟩ (.int .i64 4) = vd := ⟨_, rfl⟩
              have Bd : Below w4.heap.size w4 vd := by rw [← hvd]; exact below_set Bc hzv
              have hXvd : vd.heap[v1.heap.size]? = some (.cells #[.string key, .int .i64 4, .slice ta vs.length tc] 35 (0, 0)) := by rw [← hvd]; exact box_put hXvc
              have n0 : vd.cell? ⟨v1.heap.size, 0, none⟩ = some (.string key) := by rw [cell_of_block hXvd]; rfl
              have n1 : vd.cell? ⟨v1.heap.size, 1, none⟩ = some (.int .i64 4) := by rw [cell_of_block hXvd]; rfl
              have n2 : vd.cell? ⟨v1.heap.size, 2, none⟩ = some (.slice ta vs.length tc) := by rw [cell_of_block hXvd]; rfl
              obtain ⟨rd0, rd1, rd2⟩ := HC.out _ Bd
              have hzl : w4.heap.size ≤ vd.heap.size := Bd.size
              have bA : Below w4.heap.size w4 (vd.alloc (.cells #[.string key, .int .i64 4, .slice ta vs.length tc] 35)) := Bd.alloc hzl _
              have C2 := hmk (HBX.out (vd.alloc (.cells #[.string key, .int .i64 4, .slice ta vs.length tc] 35)) vd.heap.size 4 hzl (by rw [alloc_size]; omega) bA (heap_alloc_new _ _) HF2.out (by unfold In64; omega))
              rw [HF1.out] at C2
              have BA := hmk bA
              clear bA hXvb hXvc hXvd
              go_wp2_with fail
              refine C2.out.mono ?_
              rintro e v2 ⟨rfl, c2⟩
              have BV2 := BA.out.trans (c2.mono BA.out.size)
              obtain ⟨s0, s1, s2⟩ := HC.out _ BV2
              clear c2 C2 BA
              have HANY : Hid (anyV M key vs vs.length = t) := by show _ = _; unfold anyV; rw [List.take_length, ← HVT.out]; exact HTT.out
              have hvl : vs.length ≤ 2147483647 := HVL.out
              go_wp2_with fail
              go_loopw [13, 14] (fun e13 e14 wq => ∃ j : Nat, j ≤ vs.length ∧ e14 = .int .i64 (j : Int) ∧ e13 = .bool (anyV M key vs j) ∧ Below w4.heap.size w4 wq) (fun _ e14 _ => vs.length - (RowKit.intOf e14).toNat)
              case atStart => exact ⟨0, by omega, rfl, rfl, BV2⟩
              case round =>
                obtain ⟨j, hj, rfl, rfl, Bj⟩ := hrel
                obtain ⟨j0, j1, j2⟩ := HC.out _ Bj
                by_cases hjl : j < vs.length
                · have yj : (j : Int) < vs.length := by omega
                  have HAV : Hid (anyV M key vs (j + 1) = (anyV M key vs j || termB M (key, 3, [vs[j]]))) := anyV_next hjl
                  generalize anyV M key vs j = Aj at *
                  cases Aj with
                  | true =>
                    have HAV2 : Hid (anyV M key vs (j + 1) = true) := HAV.out
                    go_wp2_with fail
                    go_quiet (fail)
                    go_wp2_with fail
                    go_roundw
                    case rel => exact ⟨j + 1, by omega, by go_num, by rw [HAV2.out], below_drewN Bj _⟩
                    case measure => simp [RowKit.intOf]; omega
                  | false =>
                    have HAV2 : Hid (anyV M key vs (j + 1) = termB M (key, 3, [vs[j]])) := HAV.out
                    obtain rfl : ta = some ⟨tb, to', none⟩ := HD1.out.at_.resolve_left (by omega)
                    have hvc := HD1.out.le
                    have hvm := HD1.out.max
                    obtain ⟨c3, ⟨hc31, hc32⟩, HSV⟩ := sl33 tb to' vs.length tc j hjl hvc
                    have hbA : Below w4.heap.size w4 (wr.drew.alloc (.cells #[.string key, .int .i64 3, .slice (some ⟨tb, to' + j, none⟩) 1 c3] 35)) := (Bj.drew).alloc Bj.size _
                    have hLV := HLS.out _ hbA
                    have CV := HMA.out [(key, 3, [vs[j]])] _ (some ⟨wr.heap.size, 0, none⟩) 1 wr.heap.size 0 (wr.drew.alloc (.cells #[.string key, .int .i64 3, .slice (some ⟨tb, to' + j, none⟩) 1 c3] 35)) hbA ⟨Nat.le_refl _, by decide, .inr rfl, fun h => by cases h⟩ (term_box (vs := [vs[j]]) (heap_alloc_new wr.drew _) HKS.out (by unfold In64; omega) ⟨hc31, by omega, .inr rfl, fun h => by cases h⟩ (one_text hLV.1 hjl)) (fun y hy => hy.elim (fun q => hLV.2 y q) (fun q => by rw [q, alloc_size]; show wr.heap.size < wr.heap.size + 1; omega)) (by have := HWV.out vs[j] (List.getElem_mem hjl); simp only [wtT, wtS] at this ⊢; omega)
                    rw [match_one M (val_good HGD.out (List.getElem_mem hjl))] at CV
                    have CV := hmk CV
                    have HBA := hmk hbA
                    clear hbA hLV HAV
                    generalize termB M (key, 3, [vs[j]]) = tv at *
                    go_upto_region 27 with fail
                    have d0 : wr.cell? ⟨bl, ol + i * 3, none⟩ = some (.string key) ∧ wr.cell? ⟨bl, ol + i * 3 + 2, none⟩ = some (.slice (some ⟨tb, to', none⟩) vs.length tc) := ⟨j0, j2⟩
                    have d1 : (wr.drew.alloc (.cells #[.string key, .int .i64 3, .slice (some ⟨tb, to' + j, none⟩) 1 c3] 35)).cell? ⟨bl, ol + i * 3, none⟩ = some (.string key) ∧ (wr.drew.alloc (.cells #[.string key, .int .i64 3, .slice (some ⟨tb, to' + j, none⟩) 1 c3] 35)).cell? ⟨bl, ol + i * 3 + 2, none⟩ = some (.slice (some ⟨tb, to', none⟩) vs.length tc) := by obtain ⟨x0, x1, x2⟩ := HC.out _ HBA.out; exact ⟨x0, x2⟩
                    refine wp_region_held_drew (S := fun Y => Y.cell? ⟨bl, ol + i * 3, none⟩ = some (.string key) ∧ Y.cell? ⟨bl, ol + i * 3 + 2, none⟩ = some (.slice (some ⟨tb, to', none⟩) vs.length tc)) (by kernel_rfl) d0 (fun hHeld => ?_)
                    (refine wpAnyH_take (i := 0) (v := ?_) rfl (by kernel_rfl) (by kernel_rfl) (by kernel_rfl) (by intro _ _ _ h; first | exact h | simpa [Exit.inBlock, Exit.then] using h) (Or.inl ⟨by kernel_rfl, ?_⟩) (by assumption) ?_; rotate_left 1; (intro W0 hSw; (obtain ⟨s0, s1⟩ := hSw); go_simp; (try with_reducible rfl)); (try dsimp only [Act.put, List.getElem_toArray, List.getElem_cons_succ, List.getElem_cons_zero, List.setIfInBounds_toArray, List.set_cons_zero, List.set_cons_succ]); (try simp only [Act.put, List.setIfInBounds_toArray, List.set_cons_zero, List.set_cons_succ]))
                    (refine wpAnyH_take (i := 1) (v := ?_) rfl (by kernel_rfl) (by kernel_rfl) (by kernel_rfl) (by intro _ _ _ h; first | exact h | simpa [Exit.inBlock, Exit.then] using h) (Or.inl ⟨by kernel_rfl, ?_⟩) (by assumption) ?_; rotate_left 1; (intro W0 hSw; (obtain ⟨s0, s1⟩ := hSw); go_simp; (try with_reducible rfl)); (try dsimp only [Act.put, List.getElem_toArray, List.getElem_cons_succ, List.getElem_cons_zero, List.setIfInBounds_toArray, List.set_cons_zero, List.set_cons_succ]); (try simp only [Act.put, List.setIfInBounds_toArray, List.set_cons_zero, List.set_cons_succ]))
                    (refine wpAnyH_take (i := 18) (v := ?_) rfl (by kernel_rfl) (by kernel_rfl) (by kernel_rfl) (by intro _ _ _ h; first | exact h | simpa [Exit.inBlock, Exit.then] using h) (Or.inl ⟨by kernel_rfl, ?_⟩) (by assumption) ?_; rotate_left 1; (intro W0 hSw; (obtain ⟨s0, s1⟩ := hSw); go_simp; (try with_reducible rfl)); (try dsimp only [Act.put, List.getElem_toArray, List.getElem_cons_succ, List.getElem_cons_zero, List.setIfInBounds_toArray, List.set_cons_zero, List.set_cons_succ]); (try simp only [Act.put, List.setIfInBounds_toArray, List.set_cons_zero, List.set_cons_succ]))
                    (refine wpAnyH_take (i := 2) (v := ?_) rfl (by kernel_rfl) (by kernel_rfl) (by kernel_rfl) (by intro _ _ _ h; first | exact h | simpa [Exit.inBlock, Exit.then] using h) (Or.inl ⟨by kernel_rfl, ?_⟩) (by assumption) ?_; rotate_left 1; (intro W0 hSw; (obtain ⟨s0, s1⟩ := hSw); go_simp; (try with_reducible rfl)); (try dsimp only [Act.put, List.getElem_toArray, List.getElem_cons_succ, List.getElem_cons_zero, List.setIfInBounds_toArray, List.set_cons_zero, List.set_cons_succ]); (try simp only [Act.put, List.setIfInBounds_toArray, List.set_cons_zero, List.set_cons_succ]))
                    (refine wpAnyH_take (i := 3) (v := ?_) rfl (by kernel_rfl) (by kernel_rfl) (by kernel_rfl) (by intro _ _ _ h; first | exact h | simpa [Exit.inBlock, Exit.then] using h) (Or.inl ⟨by kernel_rfl, ?_⟩) (by assumption) ?_; rotate_left 1; (intro W0 hSw; (obtain ⟨s0, s1⟩ := hSw); go_simp; (try with_reducible rfl)); (try dsimp only [Act.put, List.getElem_toArray, List.getElem_cons_succ, List.getElem_cons_zero, List.setIfInBounds_toArray, List.set_cons_zero, List.set_cons_succ]); (try simp only [Act.put, List.setIfInBounds_toArray, List.set_cons_zero, List.set_cons_succ]))
                    (refine wpAnyH_take (i := 4) (v := ?_) rfl (by kernel_rfl) (by kernel_rfl) (by kernel_rfl) (by intro _ _ _ h; first | exact h | simpa [Exit.inBlock, Exit.then] using h) (Or.inl ⟨by kernel_rfl, ?_⟩) (by assumption) ?_; rotate_left 1; (intro W0 hSw; (obtain ⟨s0, s1⟩ := hSw); go_simp; (try with_reducible rfl)); (try dsimp only [Act.put, List.getElem_toArray, List.getElem_cons_succ, List.getElem_cons_zero, List.setIfInBounds_toArray, List.set_cons_zero, List.set_cons_succ]); (try simp only [Act.put, List.setIfInBounds_toArray, List.set_cons_zero, List.set_cons_succ]))
                    (refine wpAnyH_take (i := 5) (v := ?_) rfl (by kernel_rfl) (by kernel_rfl) (by kernel_rfl) (by intro _ _ _ h; first | exact h | simpa [Exit.inBlock, Exit.then] using h) (Or.inl ⟨by kernel_rfl, ?_⟩) (by assumption) ?_; rotate_left 1; (intro W0 hSw; (obtain ⟨s0, s1⟩ := hSw); go_simp; (try with_reducible rfl)); (try dsimp only [Act.put, List.getElem_toArray, List.getElem_cons_succ, List.getElem_cons_zero, List.setIfInBounds_toArray, List.set_cons_zero, List.set_cons_succ]); (try simp only [Act.put, List.setIfInBounds_toArray, List.set_cons_zero, List.set_cons_succ]))
                    (refine wpAnyH_take (i := 6) (v := ?_) rfl (by kernel_rfl) (by kernel_rfl) (by kernel_rfl) (by intro _ _ _ h; first | exact h | simpa [Exit.inBlock, Exit.then] using h) (Or.inl ⟨by kernel_rfl, ?_⟩) (by assumption) ?_; rotate_left 1; (intro W0 hSw; (obtain ⟨s0, s1⟩ := hSw); go_simp; (try with_reducible rfl)); (try dsimp only [Act.put, List.getElem_toArray, List.getElem_cons_succ, List.getElem_cons_zero, List.setIfInBounds_toArray, List.set_cons_zero, List.set_cons_succ]); (try simp only [Act.put, List.setIfInBounds_toArray, List.set_cons_zero, List.set_cons_succ]))
                    (refine wpAnyH_take (i := 7) (v := ?_) rfl (by kernel_rfl) (by kernel_rfl) (by kernel_rfl) (by intro _ _ _ h; first | exact h | simpa [Exit.inBlock, Exit.then] using h) (Or.inl ⟨by kernel_rfl, ?_⟩) (by assumption) ?_; rotate_left 1; (intro W0 hSw; (obtain ⟨s0, s1⟩ := hSw); go_simp; (try with_reducible rfl)); (try dsimp only [Act.put, List.getElem_toArray, List.getElem_cons_succ, List.getElem_cons_zero, List.setIfInBounds_toArray, List.set_cons_zero, List.set_cons_succ]); (try simp only [Act.put, List.setIfInBounds_toArray, List.set_cons_zero, List.set_cons_succ]))
                    (refine wpAnyH_take (i := 8) (v := ?_) rfl (by kernel_rfl) (by kernel_rfl) (by kernel_rfl) (by intro _ _ _ h; first | exact h | simpa [Exit.inBlock, Exit.then] using h) (Or.inl ⟨by kernel_rfl, ?_⟩) (by assumption) ?_; rotate_left 1; (intro W0 hSw; (obtain ⟨s0, s1⟩ := hSw); go_simp; (try with_reducible rfl)); (try dsimp only [Act.put, List.getElem_toArray, List.getElem_cons_succ, List.getElem_cons_zero, List.setIfInBounds_toArray, List.set_cons_zero, List.set_cons_succ]); (try simp only [Act.put, List.setIfInBounds_toArray, List.set_cons_zero, List.set_cons_succ]))
                    (refine wpAnyH_take (i := 9) (v := ?_) rfl (by kernel_rfl) (by kernel_rfl) (by kernel_rfl) (by intro _ _ _ h; first | exact h | simpa [Exit.inBlock, Exit.then] using h) (Or.inl ⟨by kernel_rfl, ?_⟩) (by assumption) ?_; rotate_left 1; (intro W0 hSw; (obtain ⟨s0, s1⟩ := hSw); go_simp; (try with_reducible rfl)); (try dsimp only [Act.put, List.getElem_toArray, List.getElem_cons_succ, List.getElem_cons_zero, List.setIfInBounds_toArray, List.set_cons_zero, List.set_cons_succ]); (try simp only [Act.put, List.setIfInBounds_toArray, List.set_cons_zero, List.set_cons_succ]))
                    (refine wpAnyH_take (i := 10) (v := ?_) rfl (by kernel_rfl) (by kernel_rfl) (by kernel_rfl) (by intro _ _ _ h; first | exact h | simpa [Exit.inBlock, Exit.then] using h) (Or.inl ⟨by kernel_rfl, ?_⟩) (by assumption) ?_; rotate_left 1; (intro W0 hSw; (obtain ⟨s0, s1⟩ := hSw); go_simp; (try with_reducible rfl)); (try dsimp only [Act.put, List.getElem_toArray, List.getElem_cons_succ, List.getElem_cons_zero, List.setIfInBounds_toArray, List.set_cons_zero, List.set_cons_succ]); (try simp only [Act.put, List.setIfInBounds_toArray, List.set_cons_zero, List.set_cons_succ]))
                    (refine wpAnyH_take (i := 11) (v := ?_) rfl (by kernel_rfl) (by kernel_rfl) (by kernel_rfl) (by intro _ _ _ h; first | exact h | simpa [Exit.inBlock, Exit.then] using h) (Or.inl ⟨by kernel_rfl, ?_⟩) (by assumption) ?_; rotate_left 1; (intro W0 hSw; (obtain ⟨s0, s1⟩ := hSw); go_simp; (try with_reducible rfl)); (try dsimp only [Act.put, List.getElem_toArray, List.getElem_cons_succ, List.getElem_cons_zero, List.setIfInBounds_toArray, List.set_cons_zero, List.set_cons_succ]); (try simp only [Act.put, List.setIfInBounds_toArray, List.set_cons_zero, List.set_cons_succ]))
                    (refine wpAnyH_take (i := 12) (v := ?_) rfl (by kernel_rfl) (by kernel_rfl) (by kernel_rfl) (by intro _ _ _ h; first | exact h | simpa [Exit.inBlock, Exit.then] using h) (Or.inl ⟨by kernel_rfl, ?_⟩) (by assumption) ?_; rotate_left 1; (intro W0 hSw; (obtain ⟨s0, s1⟩ := hSw); go_simp; (try with_reducible rfl)); (try dsimp only [Act.put, List.getElem_toArray, List.getElem_cons_succ, List.getElem_cons_zero, List.setIfInBounds_toArray, List.set_cons_zero, List.set_cons_succ]); (try simp only [Act.put, List.setIfInBounds_toArray, List.set_cons_zero, List.set_cons_succ]))
                    (refine wpAnyH_take (i := 13) (v := ?_) rfl (by kernel_rfl) (by kernel_rfl) (by kernel_rfl) (by intro _ _ _ h; first | exact h | simpa [Exit.inBlock, Exit.then] using h) (Or.inl ⟨by kernel_rfl, ?_⟩) (by assumption) ?_; rotate_left 1; (intro W0 hSw; (obtain ⟨s0, s1⟩ := hSw); go_simp; (try with_reducible rfl)); (try dsimp only [Act.put, List.getElem_toArray, List.getElem_cons_succ, List.getElem_cons_zero, List.setIfInBounds_toArray, List.set_cons_zero, List.set_cons_succ]); (try simp only [Act.put, List.setIfInBounds_toArray, List.set_cons_zero, List.set_cons_succ]))
                    (refine wpAnyH_take (i := 14) (v := .int .i64 ((j : Int) + 1)) rfl (by kernel_rfl) (by kernel_rfl) (by kernel_rfl) (by intro _ _ _ h; first | exact h | simpa [Exit.inBlock, Exit.then] using h) (Or.inl ⟨by kernel_rfl, ?_⟩) (by assumption) ?_; (intro W0 hSw; (obtain ⟨s0, s1⟩ := hSw); go_simp; rw [wrap_small ((j : Int) + 1) (by omega) (by omega)]); (try dsimp only [Act.put, List.getElem_toArray, List.getElem_cons_succ, List.getElem_cons_zero, List.setIfInBounds_toArray, List.set_cons_zero, List.set_cons_succ]); (try simp only [Act.put, List.setIfInBounds_toArray, List.set_cons_zero, List.set_cons_succ]))
                    (refine wpAnyH_take (i := 15) (v := (.slice (some ⟨tb, to' + j, none⟩) 1 c3)) rfl (by kernel_rfl) (by kernel_rfl) (by kernel_rfl) (by intro _ _ _ h; first | exact h | simpa [Exit.inBlock, Exit.then] using h) (Or.inl ⟨by kernel_rfl, ?_⟩) (by assumption) ?_; (intro W0 hSw; (obtain ⟨s0, s1⟩ := hSw); go_simp); (try dsimp only [Act.put, List.getElem_toArray, List.getElem_cons_succ, List.getElem_cons_zero, List.setIfInBounds_toArray, List.set_cons_zero, List.set_cons_succ]); (try simp only [Act.put, List.setIfInBounds_toArray, List.set_cons_zero, List.set_cons_succ]))
                    refine wpAnyH_ready (rs := [16]) (by kernel_rfl) (by simp) ?_
                    refine AllReadyH.cons rfl (fun K hK => ?_) AllReadyH.nil
                    refine step_openG (by kernel_rfl) ?_
                    go_simp
                    refine hK.out _ _ d0 (fun _ => ?_)
                    clear hK K
                    (try dsimp only [Act.put, List.getElem_toArray, List.getElem_cons_succ, List.getElem_cons_zero, List.setIfInBounds_toArray, List.set_cons_zero, List.set_cons_succ]); (try simp only [Act.put, List.setIfInBounds_toArray, List.set_cons_zero, List.set_cons_succ])
                    refine wpAnyH_ready (rs := [17]) (by kernel_rfl) (by simp) ?_
                    refine AllReadyH.cons rfl (fun K hK => ?_) AllReadyH.nil
                    refine step_openG (by kernel_rfl) ?_
                    go_simp
                    refine hK.out _ _ d1 (fun _ => ?_)
                    clear hK K
                    (try dsimp only [Act.put, List.getElem_toArray, List.getElem_cons_succ, List.getElem_cons_zero, List.setIfInBounds_toArray, List.set_cons_zero, List.set_cons_succ]); (try simp only [Act.put, List.setIfInBounds_toArray, List.set_cons_zero, List.set_cons_succ])
                    refine wpAnyH_ready (rs := [19]) (by kernel_rfl) (by simp) ?_
                    refine AllReadyH.cons rfl (fun K hK => ?_) AllReadyH.nil
                    refine step_openG (by kernel_rfl) ?_
                    go_wp2_with (go_at_call 13; refine CV.out.mono ?_; rintro e v5 ⟨rfl, c5⟩)
                    have BV5 := HBA.out.trans (c5.mono HBA.out.size)
                    have d2 : v5.cell? ⟨bl, ol + i * 3, none⟩ = some (.string key) ∧ v5.cell? ⟨bl, ol + i * 3 + 2, none⟩ = some (.slice (some ⟨tb, to', none⟩) vs.length tc) := by obtain ⟨x0, x1, x2⟩ := HC.out _ BV5; exact ⟨x0, x2⟩
                    refine hK.out _ _ d2 (fun _ => ?_)
                    clear hK K
                    (try dsimp only [Act.put, List.getElem_toArray, List.getElem_cons_succ, List.getElem_cons_zero, List.setIfInBounds_toArray, List.set_cons_zero, List.set_cons_succ]); (try simp only [Act.put, List.setIfInBounds_toArray, List.set_cons_zero, List.set_cons_succ])
                    (refine wpAnyH_take (i := 20) (v := ?_) rfl (by kernel_rfl) (by kernel_rfl) (by kernel_rfl) (by intro _ _ _ h; first | exact h | simpa [Exit.inBlock, Exit.then] using h) (Or.inl ⟨by kernel_rfl, ?_⟩) (by assumption) ?_; rotate_left 1; (intro W0 hSw; (obtain ⟨s0, s1⟩ := hSw); go_simp; (try with_reducible rfl)); (try dsimp only [Act.put, List.getElem_toArray, List.getElem_cons_succ, List.getElem_cons_zero, List.setIfInBounds_toArray, List.set_cons_zero, List.set_cons_succ]); (try simp only [Act.put, List.setIfInBounds_toArray, List.set_cons_zero, List.set_cons_succ]))
                    (refine wpAnyH_take (i := 21) (v := ?_) rfl (by kernel_rfl) (by kernel_rfl) (by kernel_rfl) (by intro _ _ _ h; first | exact h | simpa [Exit.inBlock, Exit.then] using h) (Or.inl ⟨by kernel_rfl, ?_⟩) (by assumption) ?_; rotate_left 1; (intro W0 hSw; (obtain ⟨s0, s1⟩ := hSw); go_simp; (try with_reducible rfl)); (try dsimp only [Act.put, List.getElem_toArray, List.getElem_cons_succ, List.getElem_cons_zero, List.setIfInBounds_toArray, List.set_cons_zero, List.set_cons_succ]); (try simp only [Act.put, List.setIfInBounds_toArray, List.set_cons_zero, List.set_cons_succ]))
                    refine wpAnyH_done (by kernel_rfl) ?_ _
                    (try dsimp only [Act.put, List.getElem_toArray, List.getElem_cons_succ, List.getElem_cons_zero, List.setIfInBounds_toArray, List.set_cons_zero, List.set_cons_succ])
                    clear d0 d1 d2 hHeld c5
                    go_wp2_with fail
                    go_roundw
                    case rel => exact ⟨j + 1, by omega, by go_num, by rw [HAV2.out], BV5⟩
                    case measure => simp [RowKit.intOf]; omega
                · obtain rfl : j = vs.length := by omega
                  have yj : ¬ ((vs.length : Int) < vs.length) := by omega
                  rw [HANY.out]
                  go_wp2_with fail
                  go_roundw
                  case rel => exact ⟨i + 1, by omega, by go_num, by rw [HAN2.out], Bj⟩
                  case measure => simp [RowKit.intOf]; omega
            | false =>
              have HAN2 : Hid (allT l M (i + 1) = false) := HAN.out
              go_wp2_with fail
              refine C1.out.mono ?_
              rintro e v1 ⟨rfl, c1⟩
              have BV1 := Bi.trans (c1.mono Bi.size)
              have hzv := BV1.size
              obtain ⟨r0, r1, r2⟩ := HC.out _ BV1
              clear c1 C1 HSL
              obtain ⟨vb, hvb⟩ : ∃ vb, v1.alloc (.cells #[.string key, .int .i64 3, .slice ta vs.length tc] 35) = vb := ⟨_, rfl⟩
              have Bb : Below w4.heap.size w4 vb := by rw [← hvb]; exact BV1.alloc hzv _
              have hXvb : vb.heap[v1.heap.size]? = some (.cells #[.string key, .int .i64 3, .slice ta vs.length tc] 35 (0, 0)) := by rw [← hvb]; exact heap_alloc_new _ _
              have k0 : vb.cell? ⟨v1.heap.size, 0, none⟩ = some (.string key) := by rw [cell_of_block hXvb]; rfl
              have k1 : vb.cell? ⟨v1.heap.size, 1, none⟩ = some (.int .i64 3) := by rw [cell_of_block hXvb]; rfl
              have k2 : vb.cell? ⟨v1.heap.size, 2, none⟩ = some (.slice ta vs.length tc) := by rw [cell_of_block hXvb]; rfl
              have kf : ∀ ii, vb.frozen? ⟨v1.heap.size, ii, none⟩ = false := frozen_of_block hXvb
              obtain ⟨vc, hvc⟩ : ∃ vc, vb.setCell ⟨v1.heap.size, 1, none⟩ (.int .i64 0) = vc := ⟨_, rfl⟩
              have Bc : Below w4.heap.size w4 vc := by rw [← hvc]; exact below_set Bb hzv
              have hXvc : vc.heap[v1.heap.size]? = some (.cells #[.string key, .int .i64 0, .slice ta vs.length tc] 35 (0, 0)) := by rw [← hvc]; exact box_put hXvb
              have m0 : vc.cell? ⟨v1.heap.size, 0, none⟩ = some (.string key) := by rw [cell_of_block hXvc]; rfl
              have m1 : vc.cell? ⟨v1.heap.size, 1, none⟩ = some (.int .i64 0) := by rw [cell_of_block hXvc]; rfl
              have m2 : vc.cell? ⟨v1.heap.size, 2, none⟩ = some (.slice ta vs.length tc) := by rw [cell_of_block hXvc]; rfl
              obtain ⟨rc0, rc1, rc2⟩ := HC.out _ Bc
              obtain ⟨rb0, rb1, rb2⟩ := HC.out _ Bb
              have mf : ∀ ii, vc.frozen? ⟨v1.heap.size, ii, none⟩ = false := frozen_of_block hXvc
              obtain ⟨vd, hvd⟩ : ∃ vd, vc.setCell ⟨v1.heap.size, 1, none⟩ (.int .i64 4) = vd := ⟨_, rfl⟩
              have Bd : Below w4.heap.size w4 vd := by rw [← hvd]; exact below_set Bc hzv
              have hXvd : vd.heap[v1.heap.size]? = some (.cells #[.string key, .int .i64 4, .slice ta vs.length tc] 35 (0, 0)) := by rw [← hvd]; exact box_put hXvc
              have n0 : vd.cell? ⟨v1.heap.size, 0, none⟩ = some (.string key) := by rw [cell_of_block hXvd]; rfl
              have n1 : vd.cell? ⟨v1.heap.size, 1, none⟩ = some (.int .i64 4) := by rw [cell_of_block hXvd]; rfl
              have n2 : vd.cell? ⟨v1.heap.size, 2, none⟩ = some (.slice ta vs.length tc) := by rw [cell_of_block hXvd]; rfl
              obtain ⟨rd0, rd1, rd2⟩ := HC.out _ Bd
              have hzl : w4.heap.size ≤ vd.heap.size := Bd.size
              have bA : Below w4.heap.size w4 (vd.alloc (.cells #[.string key, .int .i64 4, .slice ta vs.length tc] 35)) := Bd.alloc hzl _
              have C2 := hmk (HBX.out (vd.alloc (.cells #[.string key, .int .i64 4, .slice ta vs.length tc] 35)) vd.heap.size 4 hzl (by rw [alloc_size]; omega) bA (heap_alloc_new _ _) HF2.out (by unfold In64; omega))
              rw [HF1.out] at C2
              have BA := hmk bA
              clear bA hXvb hXvc hXvd
              go_wp2_with fail
              refine C2.out.mono ?_
              rintro e v2 ⟨rfl, c2⟩
              have BV2 := BA.out.trans (c2.mono BA.out.size)
              obtain ⟨s0, s1, s2⟩ := HC.out _ BV2
              clear c2 C2 BA
              have HANY : Hid (anyV M key vs vs.length = t) := by show _ = _; unfold anyV; rw [List.take_length, ← HVT.out]; exact HTT.out
              have hvl : vs.length ≤ 2147483647 := HVL.out
              go_wp2_with fail
              go_loopw [13, 14] (fun e13 e14 wq => ∃ j : Nat, j ≤ vs.length ∧ e14 = .int .i64 (j : Int) ∧ e13 = .bool (anyV M key vs j) ∧ Below w4.heap.size w4 wq) (fun _ e14 _ => vs.length - (RowKit.intOf e14).toNat)
              case atStart => exact ⟨0, by omega, rfl, rfl, BV2⟩
              case round =>
                obtain ⟨j, hj, rfl, rfl, Bj⟩ := hrel
                obtain ⟨j0, j1, j2⟩ := HC.out _ Bj
                by_cases hjl : j < vs.length
                · have yj : (j : Int) < vs.length := by omega
                  have HAV : Hid (anyV M key vs (j + 1) = (anyV M key vs j || termB M (key, 3, [vs[j]]))) := anyV_next hjl
                  generalize anyV M key vs j = Aj at *
                  cases Aj with
                  | true =>
                    have HAV2 : Hid (anyV M key vs (j + 1) = true) := HAV.out
                    go_wp2_with fail
                    go_quiet (fail)
                    go_wp2_with fail
                    go_roundw
                    case rel => exact ⟨j + 1, by omega, by go_num, by rw [HAV2.out], below_drewN Bj _⟩
                    case measure => simp [RowKit.intOf]; omega
                  | false =>
                    have HAV2 : Hid (anyV M key vs (j + 1) = termB M (key, 3, [vs[j]])) := HAV.out
                    obtain rfl : ta = some ⟨tb, to', none⟩ := HD1.out.at_.resolve_left (by omega)
                    have hvc := HD1.out.le
                    have hvm := HD1.out.max
                    obtain ⟨c3, ⟨hc31, hc32⟩, HSV⟩ := sl33 tb to' vs.length tc j hjl hvc
                    have hbA : Below w4.heap.size w4 (wr.drew.alloc (.cells #[.string key, .int .i64 3, .slice (some ⟨tb, to' + j, none⟩) 1 c3] 35)) := (Bj.drew).alloc Bj.size _
                    have hLV := HLS.out _ hbA
                    have CV := HMA.out [(key, 3, [vs[j]])] _ (some ⟨wr.heap.size, 0, none⟩) 1 wr.heap.size 0 (wr.drew.alloc (.cells #[.string key, .int .i64 3, .slice (some ⟨tb, to' + j, none⟩) 1 c3] 35)) hbA ⟨Nat.le_refl _, by decide, .inr rfl, fun h => by cases h⟩ (term_box (vs := [vs[j]]) (heap_alloc_new wr.drew _) HKS.out (by unfold In64; omega) ⟨hc31, by omega, .inr rfl, fun h => by cases h⟩ (one_text hLV.1 hjl)) (fun y hy => hy.elim (fun q => hLV.2 y q) (fun q => by rw [q, alloc_size]; show wr.heap.size < wr.heap.size + 1; omega)) (by have := HWV.out vs[j] (List.getElem_mem hjl); simp only [wtT, wtS] at this ⊢; omega)
                    rw [match_one M (val_good HGD.out (List.getElem_mem hjl))] at CV
                    have CV := hmk CV
                    have HBA := hmk hbA
                    clear hbA hLV HAV
                    generalize termB M (key, 3, [vs[j]]) = tv at *
                    go_upto_region 27 with fail
                    have d0 : wr.cell? ⟨bl, ol + i * 3, none⟩ = some (.string key) ∧ wr.cell? ⟨bl, ol + i * 3 + 2, none⟩ = some (.slice (some ⟨tb, to', none⟩) vs.length tc) := ⟨j0, j2⟩
                    have d1 : (wr.drew.alloc (.cells #[.string key, .int .i64 3, .slice (some ⟨tb, to' + j, none⟩) 1 c3] 35)).cell? ⟨bl, ol + i * 3, none⟩ = some (.string key) ∧ (wr.drew.alloc (.cells #[.string key, .int .i64 3, .slice (some ⟨tb, to' + j, none⟩) 1 c3] 35)).cell? ⟨bl, ol + i * 3 + 2, none⟩ = some (.slice (some ⟨tb, to', none⟩) vs.length tc) := by obtain ⟨x0, x1, x2⟩ := HC.out _ HBA.out; exact ⟨x0, x2⟩
                    refine wp_region_held_drew (S := fun Y => Y.cell? ⟨bl, ol + i * 3, none⟩ = some (.string key) ∧ Y.cell? ⟨bl, ol + i * 3 + 2, none⟩ = some (.slice (some ⟨tb, to', none⟩) vs.length tc)) (by kernel_rfl) d0 (fun hHeld => ?_)
                    (refine wpAnyH_take (i := 0) (v := ?_) rfl (by kernel_rfl) (by kernel_rfl) (by kernel_rfl) (by intro _ _ _ h; first | exact h | simpa [Exit.inBlock, Exit.then] using h) (Or.inl ⟨by kernel_rfl, ?_⟩) (by assumption) ?_; rotate_left 1; (intro W0 hSw; (obtain ⟨s0, s1⟩ := hSw); go_simp; (try with_reducible rfl)); (try dsimp only [Act.put, List.getElem_toArray, List.getElem_cons_succ, List.getElem_cons_zero, List.setIfInBounds_toArray, List.set_cons_zero, List.set_cons_succ]); (try simp only [Act.put, List.setIfInBounds_toArray, List.set_cons_zero, List.set_cons_succ]))
                    (refine wpAnyH_take (i := 1) (v := ?_) rfl (by kernel_rfl) (by kernel_rfl) (by kernel_rfl) (by intro _ _ _ h; first | exact h | simpa [Exit.inBlock, Exit.then] using h) (Or.inl ⟨by kernel_rfl, ?_⟩) (by assumption) ?_; rotate_left 1; (intro W0 hSw; (obtain ⟨s0, s1⟩ := hSw); go_simp; (try with_reducible rfl)); (try dsimp only [Act.put, List.getElem_toArray, List.getElem_cons_succ, List.getElem_cons_zero, List.setIfInBounds_toArray, List.set_cons_zero, List.set_cons_succ]); (try simp only [Act.put, List.setIfInBounds_toArray, List.set_cons_zero, List.set_cons_succ]))
                    (refine wpAnyH_take (i := 18) (v := ?_) rfl (by kernel_rfl) (by kernel_rfl) (by kernel_rfl) (by intro _ _ _ h; first | exact h | simpa [Exit.inBlock, Exit.then] using h) (Or.inl ⟨by kernel_rfl, ?_⟩) (by assumption) ?_; rotate_left 1; (intro W0 hSw; (obtain ⟨s0, s1⟩ := hSw); go_simp; (try with_reducible rfl)); (try dsimp only [Act.put, List.getElem_toArray, List.getElem_cons_succ, List.getElem_cons_zero, List.setIfInBounds_toArray, List.set_cons_zero, List.set_cons_succ]); (try simp only [Act.put, List.setIfInBounds_toArray, List.set_cons_zero, List.set_cons_succ]))
                    (refine wpAnyH_take (i := 2) (v := ?_) rfl (by kernel_rfl) (by kernel_rfl) (by kernel_rfl) (by intro _ _ _ h; first | exact h | simpa [Exit.inBlock, Exit.then] using h) (Or.inl ⟨by kernel_rfl, ?_⟩) (by assumption) ?_; rotate_left 1; (intro W0 hSw; (obtain ⟨s0, s1⟩ := hSw); go_simp; (try with_reducible rfl)); (try dsimp only [Act.put, List.getElem_toArray, List.getElem_cons_succ, List.getElem_cons_zero, List.setIfInBounds_toArray, List.set_cons_zero, List.set_cons_succ]); (try simp only [Act.put, List.setIfInBounds_toArray, List.set_cons_zero, List.set_cons_succ]))
                    (refine wpAnyH_take (i := 3) (v := ?_) rfl (by kernel_rfl) (by kernel_rfl) (by kernel_rfl) (by intro _ _ _ h; first | exact h | simpa [Exit.inBlock, Exit.then] using h) (Or.inl ⟨by kernel_rfl, ?_⟩) (by assumption) ?_; rotate_left 1; (intro W0 hSw; (obtain ⟨s0, s1⟩ := hSw); go_simp; (try with_reducible rfl)); (try dsimp only [Act.put, List.getElem_toArray, List.getElem_cons_succ, List.getElem_cons_zero, List.setIfInBounds_toArray, List.set_cons_zero, List.set_cons_succ]); (try simp only [Act.put, List.setIfInBounds_toArray, List.set_cons_zero, List.set_cons_succ]))
                    (refine wpAnyH_take (i := 4) (v := ?_) rfl (by kernel_rfl) (by kernel_rfl) (by kernel_rfl) (by intro _ _ _ h; first | exact h | simpa [Exit.inBlock, Exit.then] using h) (Or.inl ⟨by kernel_rfl, ?_⟩) (by assumption) ?_; rotate_left 1; (intro W0 hSw; (obtain ⟨s0, s1⟩ := hSw); go_simp; (try with_reducible rfl)); (try dsimp only [Act.put, List.getElem_toArray, List.getElem_cons_succ, List.getElem_cons_zero, List.setIfInBounds_toArray, List.set_cons_zero, List.set_cons_succ]); (try simp only [Act.put, List.setIfInBounds_toArray, List.set_cons_zero, List.set_cons_succ]))
                    (refine wpAnyH_take (i := 5) (v := ?_) rfl (by kernel_rfl) (by kernel_rfl) (by kernel_rfl) (by intro _ _ _ h; first | exact h | simpa [Exit.inBlock, Exit.then] using h) (Or.inl ⟨by kernel_rfl, ?_⟩) (by assumption) ?_; rotate_left 1; (intro W0 hSw; (obtain ⟨s0, s1⟩ := hSw); go_simp; (try with_reducible rfl)); (try dsimp only [Act.put, List.getElem_toArray, List.getElem_cons_succ, List.getElem_cons_zero, List.setIfInBounds_toArray, List.set_cons_zero, List.set_cons_succ]); (try simp only [Act.put, List.setIfInBounds_toArray, List.set_cons_zero, List.set_cons_succ]))
                    (refine wpAnyH_take (i := 6) (v := ?_) rfl (by kernel_rfl) (by kernel_rfl) (by kernel_rfl) (by intro _ _ _ h; first | exact h | simpa [Exit.inBlock, Exit.then] using h) (Or.inl ⟨by kernel_rfl, ?_⟩) (by assumption) ?_; rotate_left 1; (intro W0 hSw; (obtain ⟨s0, s1⟩ := hSw); go_simp; (try with_reducible rfl)); (try dsimp only [Act.put, List.getElem_toArray, List.getElem_cons_succ, List.getElem_cons_zero, List.setIfInBounds_toArray, List.set_cons_zero, List.set_cons_succ]); (try simp only [Act.put, List.setIfInBounds_toArray, List.set_cons_zero, List.set_cons_succ]))
                    (refine wpAnyH_take (i := 7) (v := ?_) rfl (by kernel_rfl) (by kernel_rfl) (by kernel_rfl) (by intro _ _ _ h; first | exact h | simpa [Exit.inBlock, Exit.then] using h) (Or.inl ⟨by kernel_rfl, ?_⟩) (by assumption) ?_; rotate_left 1; (intro W0 hSw; (obtain ⟨s0, s1⟩ := hSw); go_simp; (try with_reducible rfl)); (try dsimp only [Act.put, List.getElem_toArray, List.getElem_cons_succ, List.getElem_cons_zero, List.setIfInBounds_toArray, List.set_cons_zero, List.set_cons_succ]); (try simp only [Act.put, List.setIfInBounds_toArray, List.set_cons_zero, List.set_cons_succ]))
                    (refine wpAnyH_take (i := 8) (v := ?_) rfl (by kernel_rfl) (by kernel_rfl) (by kernel_rfl) (by intro _ _ _ h; first | exact h | simpa [Exit.inBlock, Exit.then] using h) (Or.inl ⟨by kernel_rfl, ?_⟩) (by assumption) ?_; rotate_left 1; (intro W0 hSw; (obtain ⟨s0, s1⟩ := hSw); go_simp; (try with_reducible rfl)); (try dsimp only [Act.put, List.getElem_toArray, List.getElem_cons_succ, List.getElem_cons_zero, List.setIfInBounds_toArray, List.set_cons_zero, List.set_cons_succ]); (try simp only [Act.put, List.setIfInBounds_toArray, List.set_cons_zero, List.set_cons_succ]))
                    (refine wpAnyH_take (i := 9) (v := ?_) rfl (by kernel_rfl) (by kernel_rfl) (by kernel_rfl) (by intro _ _ _ h; first | exact h | simpa [Exit.inBlock, Exit.then] using h) (Or.inl ⟨by kernel_rfl, ?_⟩) (by assumption) ?_; rotate_left 1; (intro W0 hSw; (obtain ⟨s0, s1⟩ := hSw); go_simp; (try with_reducible rfl)); (try dsimp only [Act.put, List.getElem_toArray, List.getElem_cons_succ, List.getElem_cons_zero, List.setIfInBounds_toArray, List.set_cons_zero, List.set_cons_succ]); (try simp only [Act.put, List.setIfInBounds_toArray, List.set_cons_zero, List.set_cons_succ]))
                    (refine wpAnyH_take (i := 10) (v := ?_) rfl (by kernel_rfl) (by kernel_rfl) (by kernel_rfl) (by intro _ _ _ h; first | exact h | simpa [Exit.inBlock, Exit.then] using h) (Or.inl ⟨by kernel_rfl, ?_⟩) (by assumption) ?_; rotate_left 1; (intro W0 hSw; (obtain ⟨s0, s1⟩ := hSw); go_simp; (try with_reducible rfl)); (try dsimp only [Act.put, List.getElem_toArray, List.getElem_cons_succ, List.getElem_cons_zero, List.setIfInBounds_toArray, List.set_cons_zero, List.set_cons_succ]); (try simp only [Act.put, List.setIfInBounds_toArray, List.set_cons_zero, List.set_cons_succ]))
                    (refine wpAnyH_take (i := 11) (v := ?_) rfl (by kernel_rfl) (by kernel_rfl) (by kernel_rfl) (by intro _ _ _ h; first | exact h | simpa [Exit.inBlock, Exit.then] using h) (Or.inl ⟨by kernel_rfl, ?_⟩) (by assumption) ?_; rotate_left 1; (intro W0 hSw; (obtain ⟨s0, s1⟩ := hSw); go_simp; (try with_reducible rfl)); (try dsimp only [Act.put, List.getElem_toArray, List.getElem_cons_succ, List.getElem_cons_zero, List.setIfInBounds_toArray, List.set_cons_zero, List.set_cons_succ]); (try simp only [Act.put, List.setIfInBounds_toArray, List.set_cons_zero, List.set_cons_succ]))
                    (refine wpAnyH_take (i := 12) (v := ?_) rfl (by kernel_rfl) (by kernel_rfl) (by kernel_rfl) (by intro _ _ _ h; first | exact h | simpa [Exit.inBlock, Exit.then] using h) (Or.inl ⟨by kernel_rfl, ?_⟩) (by assumption) ?_; rotate_left 1; (intro W0 hSw; (obtain ⟨s0, s1⟩ := hSw); go_simp; (try with_reducible rfl)); (try dsimp only [Act.put, List.getElem_toArray, List.getElem_cons_succ, List.getElem_cons_zero, List.setIfInBounds_toArray, List.set_cons_zero, List.set_cons_succ]); (try simp only [Act.put, List.setIfInBounds_toArray, List.set_cons_zero, List.set_cons_succ]))
                    (refine wpAnyH_take (i := 13) (v := ?_) rfl (by kernel_rfl) (by kernel_rfl) (by kernel_rfl) (by intro _ _ _ h; first | exact h | simpa [Exit.inBlock, Exit.then] using h) (Or.inl ⟨by kernel_rfl, ?_⟩) (by assumption) ?_; rotate_left 1; (intro W0 hSw; (obtain ⟨s0, s1⟩ := hSw); go_simp; (try with_reducible rfl)); (try dsimp only [Act.put, List.getElem_toArray, List.getElem_cons_succ, List.getElem_cons_zero, List.setIfInBounds_toArray, List.set_cons_zero, List.set_cons_succ]); (try simp only [Act.put, List.setIfInBounds_toArray, List.set_cons_zero, List.set_cons_succ]))
                    (refine wpAnyH_take (i := 14) (v := .int .i64 ((j : Int) + 1)) rfl (by kernel_rfl) (by kernel_rfl) (by kernel_rfl) (by intro _ _ _ h; first | exact h | simpa [Exit.inBlock, Exit.then] using h) (Or.inl ⟨by kernel_rfl, ?_⟩) (by assumption) ?_; (intro W0 hSw; (obtain ⟨s0, s1⟩ := hSw); go_simp; rw [wrap_small ((j : Int) + 1) (by omega) (by omega)]); (try dsimp only [Act.put, List.getElem_toArray, List.getElem_cons_succ, List.getElem_cons_zero, List.setIfInBounds_toArray, List.set_cons_zero, List.set_cons_succ]); (try simp only [Act.put, List.setIfInBounds_toArray, List.set_cons_zero, List.set_cons_succ]))
                    (refine wpAnyH_take (i := 15) (v := (.slice (some ⟨tb, to' + j, none⟩) 1 c3)) rfl (by kernel_rfl) (by kernel_rfl) (by kernel_rfl) (by intro _ _ _ h; first | exact h | simpa [Exit.inBlock, Exit.then] using h) (Or.inl ⟨by kernel_rfl, ?_⟩) (by assumption) ?_; (intro W0 hSw; (obtain ⟨s0, s1⟩ := hSw); go_simp); (try dsimp only [Act.put, List.getElem_toArray, List.getElem_cons_succ, List.getElem_cons_zero, List.setIfInBounds_toArray, List.set_cons_zero, List.set_cons_succ]); (try simp only [Act.put, List.setIfInBounds_toArray, List.set_cons_zero, List.set_cons_succ]))
                    refine wpAnyH_ready (rs := [16]) (by kernel_rfl) (by simp) ?_
                    refine AllReadyH.cons rfl (fun K hK => ?_) AllReadyH.nil
                    refine step_openG (by kernel_rfl) ?_
                    go_simp
                    refine hK.out _ _ d0 (fun _ => ?_)
                    clear hK K
                    (try dsimp only [Act.put, List.getElem_toArray, List.getElem_cons_succ, List.getElem_cons_zero, List.setIfInBounds_toArray, List.set_cons_zero, List.set_cons_succ]); (try simp only [Act.put, List.setIfInBounds_toArray, List.set_cons_zero, List.set_cons_succ])
                    refine wpAnyH_ready (rs := [17]) (by kernel_rfl) (by simp) ?_
                    refine AllReadyH.cons rfl (fun K hK => ?_) AllReadyH.nil
                    refine step_openG (by kernel_rfl) ?_
                    go_simp
                    refine hK.out _ _ d1 (fun _ => ?_)
                    clear hK K
                    (try dsimp only [Act.put, List.getElem_toArray, List.getElem_cons_succ, List.getElem_cons_zero, List.setIfInBounds_toArray, List.set_cons_zero, List.set_cons_succ]); (try simp only [Act.put, List.setIfInBounds_toArray, List.set_cons_zero, List.set_cons_succ])
                    refine wpAnyH_ready (rs := [19]) (by kernel_rfl) (by simp) ?_
                    refine AllReadyH.cons rfl (fun K hK => ?_) AllReadyH.nil
                    refine step_openG (by kernel_rfl) ?_
                    go_wp2_with (go_at_call 13; refine CV.out.mono ?_; rintro e v5 ⟨rfl, c5⟩)
                    have BV5 := HBA.out.trans (c5.mono HBA.out.size)
                    have d2 : v5.cell? ⟨bl, ol + i * 3, none⟩ = some (.string key) ∧ v5.cell? ⟨bl, ol + i * 3 + 2, none⟩ = some (.slice (some ⟨tb, to', none⟩) vs.length tc) := by obtain ⟨x0, x1, x2⟩ := HC.out _ BV5; exact ⟨x0, x2⟩
                    refine hK.out _ _ d2 (fun _ => ?_)
                    clear hK K
                    (try dsimp only [Act.put, List.getElem_toArray, List.getElem_cons_succ, List.getElem_cons_zero, List.setIfInBounds_toArray, List.set_cons_zero, List.set_cons_succ]); (try simp only [Act.put, List.setIfInBounds_toArray, List.set_cons_zero, List.set_cons_succ])
                    (refine wpAnyH_take (i := 20) (v := ?_) rfl (by kernel_rfl) (by kernel_rfl) (by kernel_rfl) (by intro _ _ _ h; first | exact h | simpa [Exit.inBlock, Exit.then] using h) (Or.inl ⟨by kernel_rfl, ?_⟩) (by assumption) ?_; rotate_left 1; (intro W0 hSw; (obtain ⟨s0, s1⟩ := hSw); go_simp; (try with_reducible rfl)); (try dsimp only [Act.put, List.getElem_toArray, List.getElem_cons_succ, List.getElem_cons_zero, List.setIfInBounds_toArray, List.set_cons_zero, List.set_cons_succ]); (try simp only [Act.put, List.setIfInBounds_toArray, List.set_cons_zero, List.set_cons_succ]))
                    (refine wpAnyH_take (i := 21) (v := ?_) rfl (by kernel_rfl) (by kernel_rfl) (by kernel_rfl) (by intro _ _ _ h; first | exact h | simpa [Exit.inBlock, Exit.then] using h) (Or.inl ⟨by kernel_rfl, ?_⟩) (by assumption) ?_; rotate_left 1; (intro W0 hSw; (obtain ⟨s0, s1⟩ := hSw); go_simp; (try with_reducible rfl)); (try dsimp only [Act.put, List.getElem_toArray, List.getElem_cons_succ, List.getElem_cons_zero, List.setIfInBounds_toArray, List.set_cons_zero, List.set_cons_succ]); (try simp only [Act.put, List.setIfInBounds_toArray, List.set_cons_zero, List.set_cons_succ]))
                    refine wpAnyH_done (by kernel_rfl) ?_ _
                    (try dsimp only [Act.put, List.getElem_toArray, List.getElem_cons_succ, List.getElem_cons_zero, List.setIfInBounds_toArray, List.set_cons_zero, List.set_cons_succ])
                    clear d0 d1 d2 hHeld c5
                    go_wp2_with fail
                    go_roundw
                    case rel => exact ⟨j + 1, by omega, by go_num, by rw [HAV2.out], BV5⟩
                    case measure => simp [RowKit.intOf]; omega
                · obtain rfl : j = vs.length := by omega
                  have yj : ¬ ((vs.length : Int) < vs.length) := by omega
                  rw [HANY.out]
                  go_wp2_with fail
                  go_roundw
                  case rel => exact ⟨i + 1, by omega, by go_num, by rw [HAN2.out], Bj⟩
                  case measure => simp [RowKit.intOf]; omega
          · have HF1 : Hid (termB M (key, 3, vs) = !t) := HFT.out
            have HF2 : Hid (goodB (key, 3, vs) = true) := HFG.out
            clear HFT HFG
            obtain ⟨cl2, ⟨hc1, hc2⟩, HSL⟩ := sl22 bl ol l.length cl i hil hcl
            have C1 := hmk (HCO.out cl2 wr hc1 (by omega) Bi)
            cases A with
            | true =>
              have HAN2 : Hid (allT l M (i + 1) = t) := HAN.out
              go_wp2_with fail
              refine C1.out.mono ?_
              rintro e v1 ⟨rfl, c1⟩
              have BV1 := Bi.trans (c1.mono Bi.size)
              have hzv := BV1.size
              obtain ⟨r0, r1, r2⟩ := HC.out _ BV1
              clear c1 C1 HSL
              obtain ⟨vb, hvb⟩ : ∃ vb, v1.alloc (.cells #[.string key, .int .i64 4, .slice ta vs.length tc] 35) = vb := ⟨_, rfl⟩
              have Bb : Below w4.heap.size w4 vb := by rw [← hvb]; exact BV1.alloc hzv _
              have hXvb : vb.heap[v1.heap.size]? = some (.cells #[.string key, .int .i64 4, .slice ta vs.length tc] 35 (0, 0)) := by rw [← hvb]; exact heap_alloc_new _ _
              have k0 : vb.cell? ⟨v1.heap.size, 0, none⟩ = some (.string key) := by rw [cell_of_block hXvb]; rfl
              have k1 : vb.cell? ⟨v1.heap.size, 1, none⟩ = some (.int .i64 4) := by rw [cell_of_block hXvb]; rfl
              have k2 : vb.cell? ⟨v1.heap.size, 2, none⟩ = some (.slice ta vs.length tc) := by rw [cell_of_block hXvb]; rfl
              have kf : ∀ ii, vb.frozen? ⟨v1.heap.size, ii, none⟩ = false := frozen_of_block hXvb
              obtain ⟨vc, hvc⟩ : ∃ vc, vb.setCell ⟨v1.heap.size, 1, none⟩ (.int .i64 (-1)) = vc := ⟨_, rfl⟩
              have Bc : Below w4.heap.size w4 vc := by rw [← hvc]; exact below_set Bb hzv
              have hXvc : vc.heap[v1.heap.size]? = some (.cells #[.string key, .int .i64 (-1), .slice ta vs.length tc] 35 (0, 0)) := by rw [← hvc]; exact box_put hXvb
              have m0 : vc.cell? ⟨v1.heap.size, 0, none⟩ = some (.string key) := by rw [cell_of_block hXvc]; rfl
              have m1 : vc.cell? ⟨v1.heap.size, 1, none⟩ = some (.int .i64 (-1)) := by rw [cell_of_block hXvc]; rfl
              have m2 : vc.cell? ⟨v1.heap.size, 2, none⟩ = some (.slice ta vs.length tc) := by rw [cell_of_block hXvc]; rfl
              obtain ⟨rc0, rc1, rc2⟩ := HC.out _ Bc
              obtain ⟨rb0, rb1, rb2⟩ := HC.out _ Bb
              have mf : ∀ ii, vc.frozen? ⟨v1.heap.size, ii, none⟩ = false := frozen_of_block hXvc
              obtain ⟨vd, hvd⟩ : ∃ vd, vc.setCell ⟨v1.heap.size, 1, none⟩ (.int .i64 3) = vd := ⟨_, rfl⟩
              have Bd : Below w4.heap.size w4 vd := by rw [← hvd]; exact below_set Bc hzv
              have hXvd : vd.heap[v1.heap.size]? = some (.cells #[.string key, .int .i64 3, .slice ta vs.length tc] 35 (0, 0)) := by rw [← hvd]; exact box_put hXvc
              have n0 : vd.cell? ⟨v1.heap.size, 0, none⟩ = some (.string key) := by rw [cell_of_block hXvd]; rfl
              have n1 : vd.cell? ⟨v1.heap.size, 1, none⟩ = some (.int .i64 3) := by rw [cell_of_block hXvd]; rfl
              have n2 : vd.cell? ⟨v1.heap.size, 2, none⟩ = some (.slice ta vs.length tc) := by rw [cell_of_block hXvd]; rfl
              obtain ⟨rd0, rd1, rd2⟩ := HC.out _ Bd
              have hzl : w4.heap.size ≤ vd.heap.size := Bd.size
              have bA : Below w4.heap.size w4 (vd.alloc (.cells #[.string key, .int .i64 3, .slice ta vs.length tc] 35)) := Bd.alloc hzl _
              have C2 := hmk (HBX.out (vd.alloc (.cells #[.string key, .int .i64 3, .slice ta vs.length tc] 35)) vd.heap.size 3 hzl (by rw [alloc_size]; omega) bA (heap_alloc_new _ _) HF2.out (by unfold In64; omega))
              rw [HF1.out] at C2
              have BA := hmk bA
              clear bA hXvb hXvc hXvd
              go_wp2_with fail
              refine C2.out.mono ?_
              rintro e v2 ⟨rfl, c2⟩
              have BV2 := BA.out.trans (c2.mono BA.out.size)
              obtain ⟨s0, s1, s2⟩ := HC.out _ BV2
              clear c2 C2 BA
              go_wp2_with fail
              go_roundw
              case rel => exact ⟨i + 1, by omega, by go_num, by rw [HAN2.out], BV2⟩
              case measure => simp [RowKit.intOf]; omega
            | false =>
              have HAN2 : Hid (allT l M (i + 1) = false) := HAN.out
              go_wp2_with fail
              refine C1.out.mono ?_
              rintro e v1 ⟨rfl, c1⟩
              have BV1 := Bi.trans (c1.mono Bi.size)
              have hzv := BV1.size
              obtain ⟨r0, r1, r2⟩ := HC.out _ BV1
              clear c1 C1 HSL
              obtain ⟨vb, hvb⟩ : ∃ vb, v1.alloc (.cells #[.string key, .int .i64 4, .slice ta vs.length tc] 35) = vb := ⟨_, rfl⟩
              have Bb : Below w4.heap.size w4 vb := by rw [← hvb]; exact BV1.alloc hzv _
              have hXvb : vb.heap[v1.heap.size]? = some (.cells #[.string key, .int .i64 4, .slice ta vs.length tc] 35 (0, 0)) := by rw [← hvb]; exact heap_alloc_new _ _
              have k0 : vb.cell? ⟨v1.heap.size, 0, none⟩ = some (.string key) := by rw [cell_of_block hXvb]; rfl
              have k1 : vb.cell? ⟨v1.heap.size, 1, none⟩ = some (.int .i64 4) := by rw [cell_of_block hXvb]; rfl
              have k2 : vb.cell? ⟨v1.heap.size, 2, none⟩ = some (.slice ta vs.length tc) := by rw [cell_of_block hXvb]; rfl
              have kf : ∀ ii, vb.frozen? ⟨v1.heap.size, ii, none⟩ = false := frozen_of_block hXvb
              obtain ⟨vc, hvc⟩ : ∃ vc, vb.setCell ⟨v1.heap.size, 1, none⟩ (.int .i64 (-1)) = vc := ⟨_, rfl⟩
              have Bc : Below w4.heap.size w4 vc := by rw [← hvc]; exact below_set Bb hzv
              have hXvc : vc.heap[v1.heap.size]? = some (.cells #[.string key, .int .i64 (-1), .slice ta vs.length tc] 35 (0, 0)) := by rw [← hvc]; exact box_put hXvb
              have m0 : vc.cell? ⟨v1.heap.size, 0, none⟩ = some (.string key) := by rw [cell_of_block hXvc]; rfl
              have m1 : vc.cell? ⟨v1.heap.size, 1, none⟩ = some (.int .i64 (-1)) := by rw [cell_of_block hXvc]; rfl
              have m2 : vc.cell? ⟨v1.heap.size, 2, none⟩ = some (.slice ta vs.length tc) := by rw [cell_of_block hXvc]; rfl
              obtain ⟨rc0, rc1, rc2⟩ := HC.out _ Bc
              obtain ⟨rb0, rb1, rb2⟩ := HC.out _ Bb
              have mf : ∀ ii, vc.frozen? ⟨v1.heap.size, ii, none⟩ = false := frozen_of_block hXvc
              obtain ⟨vd, hvd⟩ : ∃ vd, vc.setCell ⟨v1.heap.size, 1, none⟩ (.int .i64 3) = vd := ⟨_, rfl⟩
              have Bd : Below w4.heap.size w4 vd := by rw [← hvd]; exact below_set Bc hzv
              have hXvd : vd.heap[v1.heap.size]? = some (.cells #[.string key, .int .i64 3, .slice ta vs.length tc] 35 (0, 0)) := by rw [← hvd]; exact box_put hXvc
              have n0 : vd.cell? ⟨v1.heap.size, 0, none⟩ = some (.string key) := by rw [cell_of_block hXvd]; rfl
              have n1 : vd.cell? ⟨v1.heap.size, 1, none⟩ = some (.int .i64 3) := by rw [cell_of_block hXvd]; rfl
              have n2 : vd.cell? ⟨v1.heap.size, 2, none⟩ = some (.slice ta vs.length tc) := by rw [cell_of_block hXvd]; rfl
              obtain ⟨rd0, rd1, rd2⟩ := HC.out _ Bd
              have hzl : w4.heap.size ≤ vd.heap.size := Bd.size
              have bA : Below w4.heap.size w4 (vd.alloc (.cells #[.string key, .int .i64 3, .slice ta vs.length tc] 35)) := Bd.alloc hzl _
              have C2 := hmk (HBX.out (vd.alloc (.cells #[.string key, .int .i64 3, .slice ta vs.length tc] 35)) vd.heap.size 3 hzl (by rw [alloc_size]; omega) bA (heap_alloc_new _ _) HF2.out (by unfold In64; omega))
              rw [HF1.out] at C2
              have BA := hmk bA
              clear bA hXvb hXvc hXvd
              go_wp2_with fail
              refine C2.out.mono ?_
              rintro e v2 ⟨rfl, c2⟩
              have BV2 := BA.out.trans (c2.mono BA.out.size)
              obtain ⟨s0, s1, s2⟩ := HC.out _ BV2
              clear c2 C2 BA
              go_wp2_with fail
              go_roundw
              case rel => exact ⟨i + 1, by omega, by go_num, by rw [HAN2.out], BV2⟩
              case measure => simp [RowKit.intOf]; omega
        · obtain rfl : i = l.length := by omega
          have y1 : ¬ (l.length : Int) < l.length := by omega
          have C1 := hmk (HALL.out _ Bi)
          generalize allT l M l.length = A at *
          have ya : (A == A) = true := by simp
          go_wp2_with fail
          refine C1.out.mono ?_
          rintro e v1 ⟨rfl, c1⟩
          have BV1 := Bi.trans (c1.mono Bi.size)
          have C2 := hmk (HNIL.out _ BV1)
          clear c1 C1
          go_wp2_with fail
          refine C2.out.mono ?_
          rintro e v2 ⟨rfl, c2⟩
          have BV2 := hmk (HB4.out _ (BV1.trans (c2.mono BV1.size)))
          clear c2 C2
          go_wp2_with fail
          go_ret
          exact ⟨rfl, BV2.out⟩
end Go.Proofs.YtolekldjbbjmjaaGreatDoor
