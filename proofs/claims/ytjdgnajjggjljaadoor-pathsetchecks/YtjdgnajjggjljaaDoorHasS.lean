import Derived.Test.YtjdgnajjggjljaaDoorChkS
/- pathset.Has: the program's and the document's. -/
set_option linter.unusedSimpArgs false
set_option linter.unusedVariables false
namespace Go.Proofs.YtjdgnajjggjljaaDoor
open Go.RowKit Go.Lib
def BsPost (r : Bool) (w : World) (e : Ending) (w' : World) : Prop := ∃ i : Int, e = .returned (.tuple #[.int .i64 i, .bool r]) ∧ Below w.heap.size w w'
/-- is the path among these -/
def memB (l : List (List El)) (p : List El) : Bool := l.any (fun q => decide (lexL oeE q p = 0))
theorem memB_yes {l : List (List El)} {p : List El} {j : Nat} (h : j < l.length) (e : lexL oeE l[j] p = 0) : memB l p = true := by
  rw [memB, List.any_eq_true]
  exact ⟨l[j], List.getElem_mem h, by simpa using e⟩
theorem memB_no {l : List (List El)} {p : List El} (h : ∀ i, (hi : i < l.length) → lexL oeE l[i] p ≠ 0) : memB l p = false := by
  rw [Bool.eq_false_iff]
  intro hm
  rw [memB, List.any_eq_true] at hm
  obtain ⟨q, hq, e⟩ := hm
  obtain ⟨i, hi, rfl⟩ := List.getElem_of_mem hq
  exact h i hi (by simpa using e)
set_option maxHeartbeats 8000000 in
set_option maxRecDepth 100000 in
theorem rin_any (l : List (List El)) (p : List El) (S S' : Nat → Prop) (al : Option Addr) (cl bl ol : Nat) (ap : Option Addr) (cp bp op : Nat) (w : World) (hal : Headed al l.length cl bl ol) (hl : liesQ w S l bl ol) (hap : Headed ap p.length cp bp op) (hp : liesP w S' p bp op) (hS : ∀ b, S b → b < w.heap.size) (hS' : ∀ b, S' b → b < w.heap.size) (hwt : l.length + wtQ l ≤ 2147483647) (hwp : wtP p ≤ 2147483647) (hg : ∀ q ∈ l, pathB q = true) (hpp : pathB p = true) :
    Calls Tryd.prog 42 #[.slice al l.length cl, .slice ap p.length cp] w (BPost (memB l p) w) := by
  have HL := hmk hl
  have HP := hmk hp
  have HG := hmk hg
  have HPP := hmk hpp
  clear hl hp hg hpp
  have hlen : l.length ≤ 9223372036854775807 := by omega
  have HM1 : Hid (∀ j, (h : j < l.length) → lexL oeE l[j] p = 0 → memB l p = true) := fun j h e => memB_yes h e
  have HM2 : Hid ((∀ i, (hi : i < l.length) → lexL oeE l[i] p ≠ 0) → memB l p = false) := memB_no
  generalize memB l p = RR at *
  go_enter Tryd.func42, Tryd.ntmps42
  go_wp2_with fail
  go_loopw [5] (fun e wr => ∃ j : Nat, j ≤ l.length ∧ e = .int .i64 (j : Int) ∧ Below w.heap.size w wr ∧ Hid (∀ i, (hi : i < l.length) → i < j → lexL oeE l[i] p ≠ 0)) (fun e _ => l.length - (RowKit.intOf e).toNat)
  case atStart => exact ⟨0, by omega, rfl, Below.refl _ _, fun i hi h => by omega⟩
  case round =>
    obtain ⟨j, hj, rfl, bj, HN⟩ := hrel
    have hzr := bj.size
    by_cases hjl : j < l.length
    case neg =>
      obtain rfl : j = l.length := by omega
      have y1 : ¬ (l.length : Int) < l.length := by omega
      have HF := hmk (HM2.out (fun i hi => HN.out i hi hi))
      go_wp2_with fail
      go_ret
      exact ⟨by rw [HF.out]; rfl, bj⟩
    have y1 : (j : Int) < l.length := by omega
    obtain ⟨hSb, v, hv, aq, cq, bq, oq, rfl, hhq, hlq⟩ := HL.out j hjl
    obtain rfl : al = some ⟨bl, ol, none⟩ := hal.at_.resolve_left (by omega)
    have hk0 : ∀ x, S x → wr.heap[x]? = w.heap[x]? := fun x hx => bj.block x (hS x hx)
    have r0 : wr.cell? ⟨bl, ol + j, none⟩ = some (.slice aq (l[j]).length cq) := (World.cell?_of_block (w := w) (a := ⟨bl, ol + j, none⟩) (hk0 _ hSb)).trans hv
    have hwx : wtP l[j] ≤ 2147483647 := by have := wtQ_mem (List.getElem_mem hjl); omega
    have c0 := rcmpP_any l[j] p S S' aq cq bq oq ap cp bp op wr hhq (liesP_keep hk0 (fun _ h => h) hlq) hap (liesP_keep (fun x hx => bj.block x (hS' x hx)) (fun _ h => h) HP.out) (fun x hx => Nat.lt_of_lt_of_le (hS x hx) hzr) (fun x hx => Nat.lt_of_lt_of_le (hS' x hx) hzr) hwx hwp
    rw [cmpP_oe (HG.out _ (List.getElem_mem hjl)) HPP.out] at c0
    have c := hmk c0
    have HX1 := hmk (HM1.out j hjl)
    have HX2 : Hid (lexL oeE l[j] p ≠ 0 → ∀ i, (hi : i < l.length) → i < j + 1 → lexL oeE l[i] p ≠ 0) := fun h i hi hij => by
      by_cases e : i = j
      · subst e; exact h
      · exact HN.out i hi (by omega)
    generalize lexL oeE l[j] p = Z at *
    clear c0 hlq hv hk0 HN HM1 HM2 hwx hhq
    generalize l[j] = pj at *
    go_wp2_with fail
    refine c.out.mono ?_
    rintro e w1 ⟨rfl, b1⟩
    have B1 := bj.trans (b1.mono hzr)
    by_cases hZ : Z = 0
    · have y2 : (Z == 0) = true := by rw [hZ]; rfl
      have HF := hmk (HX1.out hZ)
      clear hZ HX1 HX2
      go_wp2_with fail
      go_ret
      exact ⟨by rw [HF.out]; rfl, B1⟩
    · have y2 : (Z == 0) = false := beq_eq_false_iff_ne.2 hZ
      have HF := hmk (HX2.out hZ)
      clear hZ HX1 HX2
      go_wp2_with fail
      go_roundw
      case rel => exact ⟨j + 1, by omega, by go_num, B1, HF⟩
      case measure => simp [RowKit.intOf]; omega
set_option maxHeartbeats 8000000 in
set_option maxRecDepth 100000 in
theorem bsearch_any (l : List (List El)) (p : List El) (S S' : Nat → Prop) (al : Option Addr) (cl bl ol : Nat) (ap : Option Addr) (cp bp op : Nat) (w : World) (hal : Headed al l.length cl bl ol) (hl : liesQ w S l bl ol) (hap : Headed ap p.length cp bp op) (hp : liesP w S' p bp op) (hS : ∀ b, S b → b < w.heap.size) (hS' : ∀ b, S' b → b < w.heap.size) (hn : l.length ≤ 2147483647) (hr : l.Pairwise (fun a b => lexL oeE a b < 0)) :
    Calls Tryd.prog 41 #[.slice al l.length cl, .slice ap p.length cp, .func (.func 29) #[] #[]] w (BsPost (memB l p) w) := by
  have HL := hmk hl
  have HP := hmk hp
  have HR : Hid (∀ i j, (hi : i < l.length) → (hj : j < l.length) → i < j → lexL oeE l[i] l[j] < 0) := fun i j hi hj hij => List.pairwise_iff_getElem.1 hr i j hi hj hij
  clear hl hp hr
  have hlen : l.length ≤ 9223372036854775807 := by omega
  have HM1 : Hid (∀ j, (h : j < l.length) → lexL oeE l[j] p = 0 → memB l p = true) := fun j h e => memB_yes h e
  have HM2 : Hid ((∀ i, (hi : i < l.length) → lexL oeE l[i] p ≠ 0) → memB l p = false) := memB_no
  have CC : Hid (∀ (j : Nat) (hj : j < l.length), ∃ aq cq, (∀ W, Below w.heap.size w W → W.cell? ⟨bl, ol + j, none⟩ = some (.slice aq (l[j]).length cq)) ∧ ∀ W, Below w.heap.size w W → Calls Tryd.prog 29 #[.slice aq (l[j]).length cq, .slice ap p.length cp] W (JPost (lexL oeE l[j] p) W)) := fun j hj => by
    obtain ⟨hSb, v, hv, aq, cq, bq, oq, rfl, hhq, hlq⟩ := HL.out j hj
    exact ⟨aq, cq, fun W hb => (World.cell?_of_block (w := w) (a := ⟨bl, ol + j, none⟩) (hb.block _ (hS _ hSb))).trans hv, fun W hb => opaths_any l[j] p S S' aq cq bq oq ap cp bp op W hhq (liesP_keep (fun x hx => hb.block x (hS x hx)) (fun _ h => h) hlq) hap (liesP_keep (fun x hx => hb.block x (hS' x hx)) (fun _ h => h) HP.out) (fun x hx => Nat.lt_of_lt_of_le (hS x hx) hb.size) (fun x hx => Nat.lt_of_lt_of_le (hS' x hx) hb.size)⟩
  generalize memB l p = RR at *
  go_enter Tryd.func41, Tryd.ntmps41
  go_wp2_with fail
  go_loopw [9, 10] (fun e9 e10 wr => ∃ i j : Nat, i ≤ j ∧ j ≤ l.length ∧ e9 = .int .i64 (i : Int) ∧ e10 = .int .i64 (j : Int) ∧ Below w.heap.size w wr ∧ Hid (∀ k, (hk : k < l.length) → k < i → lexL oeE l[k] p < 0) ∧ Hid (∀ k, (hk : k < l.length) → j ≤ k → 0 ≤ lexL oeE l[k] p)) (fun e9 e10 _ => (RowKit.intOf e10).toNat - (RowKit.intOf e9).toNat)
  case atStart => exact ⟨0, l.length, by omega, by omega, rfl, rfl, Below.refl _ _, fun k hk h => by omega, fun k hk h => by omega⟩
  case round =>
    obtain ⟨i, j, hij0, hjl, rfl, rfl, bj, HLO, HHI⟩ := hrel
    have hzr := bj.size
    by_cases hij : i < j
    · have y1 : (i : Int) < j := by omega
      obtain ⟨h, hh, hh1, hh2⟩ : ∃ h : Nat, ((i : Int) + (j : Int)) / 2 = (h : Int) ∧ i ≤ h ∧ h < j := ⟨(i + j) / 2, by omega, by omega, by omega⟩
      have hhl : h < l.length := by omega
      have y2 : (h : Int) < l.length := by omega
      obtain ⟨aq, cq, hcell, hcall⟩ := CC.out h hhl
      obtain rfl : al = some ⟨bl, ol, none⟩ := hal.at_.resolve_left (by omega)
      have r0 := hcell wr bj
      have c := hmk (hcall wr bj)
      have HX1 : Hid (lexL oeE l[h] p < 0 → ∀ k, (hk : k < l.length) → k < h + 1 → lexL oeE l[k] p < 0) := fun e k hk hkh => by
        by_cases ek : k = h
        · subst ek; exact e
        · exact wk_P.tri _ _ _ (HR.out k h hk hhl (by omega)) e
      have HX2 : Hid (0 ≤ lexL oeE l[h] p → ∀ k, (hk : k < l.length) → h ≤ k → 0 ≤ lexL oeE l[k] p) := fun e k hk hkh => by
        by_cases ek : k = h
        · subst ek; exact e
        · by_cases e2 : lexL oeE l[k] p < 0
          · have := wk_P.tri _ _ _ (HR.out h k hhl hk (by omega)) e2
            omega
          · omega
      generalize lexL oeE l[h] p = Z at *
      clear hcell hcall HM1 HM2
      generalize l[h] = ph at *
      by_cases hZ : Z < 0
      · have HF := hmk (HX1.out hZ)
        clear HX1 HX2
        go_wp2_with fail
        refine c.out.mono ?_
        rintro e w3 ⟨rfl, b3⟩
        go_wp2_with fail
        go_roundw
        case rel => exact ⟨h + 1, j, by omega, by omega, by go_num, rfl, bj.trans (b3.mono hzr), HF, HHI⟩
        case measure => simp [RowKit.intOf]; omega
      · have HF := hmk (HX2.out (by omega))
        clear HX1 HX2
        go_wp2_with fail
        refine c.out.mono ?_
        rintro e w3 ⟨rfl, b3⟩
        go_wp2_with fail
        go_roundw
        case rel => exact ⟨i, h, by omega, by omega, rfl, rfl, bj.trans (b3.mono hzr), HLO, HF⟩
        case measure => simp [RowKit.intOf]; omega
    · obtain rfl : i = j := by omega
      have y1 : ¬ (i : Int) < i := by omega
      by_cases hpos : i < l.length
      · have y2 : (i : Int) < l.length := by omega
        obtain ⟨aq, cq, hcell, hcall⟩ := CC.out i hpos
        obtain rfl : al = some ⟨bl, ol, none⟩ := hal.at_.resolve_left (by omega)
        have r0 := hcell wr bj
        have c := hmk (hcall wr bj)
        have HF : Hid (RR = (lexL oeE l[i] p == 0)) := by
          show _ = _
          by_cases e : lexL oeE l[i] p = 0
          · rw [HM1.out i hpos e, e]; rfl
          · rw [beq_eq_false_iff_ne.2 e]
            refine HM2.out fun k hk e2 => ?_
            rcases Nat.lt_trichotomy k i with h | h | h
            · have := HLO.out k hk h; omega
            · subst h; exact e e2
            · have h1 := HR.out i k hpos hk h
              have h2 := HHI.out i hpos (Nat.le_refl _)
              rw [wk_P.congR e2] at h1
              omega
        generalize lexL oeE l[i] p = Z at *
        clear hcell hcall HM1 HM2 HLO HHI HR
        generalize l[i] = ph at *
        go_wp2_with fail
        refine c.out.mono ?_
        rintro e w3 ⟨rfl, b3⟩
        go_wp2_with fail
        go_ret2
        exact ⟨i, by rw [HF.out]; rfl, bj.trans (b3.mono hzr)⟩
      · have y2 : ¬ (i : Int) < l.length := by omega
        have HF : Hid (RR = false) := HM2.out fun k hk e2 => by have := HLO.out k hk (by omega); omega
        clear HM1 HM2 HLO HHI HR
        go_wp2_with fail
        go_ret2
        exact ⟨i, by rw [HF.out]; rfl, bj⟩
/-- Has, as a function -/
def hasB (l : List (List El)) (p : List El) : Bool := decide (errS l = 0) && pathB p && memB l p
set_option maxHeartbeats 8000000 in
set_option maxRecDepth 100000 in
theorem has_any (l : List (List El)) (p : List El) (S S' : Nat → Prop) (al : Option Addr) (cl bl ol : Nat) (ap : Option Addr) (cp bp op : Nat) (w : World) (tb : Tb w) (hal : Headed al l.length cl bl ol) (hl : liesQ w S l bl ol) (hap : Headed ap p.length cp bp op) (hp : liesP w S' p bp op) (hS : ∀ b, S b → b < w.heap.size) (hS' : ∀ b, S' b → b < w.heap.size) (hwt : l.length + wtQ l ≤ 2147483647) (hwp : wtP p ≤ 2147483647) :
    Calls Tryd.prog 21 #[.slice al l.length cl, .slice ap p.length cp] w (BPost (hasB l p) w) := by
  have HL := hmk hl
  have HP := hmk hp
  have HT := hmk tb
  clear hl hp tb
  have c1 := hmk (schk_any l S al cl bl ol w HT.out hal HL.out hS hwt)
  have C2 : Hid (∀ W, Below w.heap.size w W → Calls Tryd.prog 28 #[.slice ap p.length cp] W (NPost (errP p) W)) := fun W hb => pcheck_any p S' ap cp bp op W (HT.out.below hb HT.out.z) hap (liesP_keep (fun x hx => hb.block x (hS' x hx)) (fun _ h => h) HP.out) (fun x hx => Nat.lt_of_lt_of_le (hS' x hx) hb.size) hwp
  have C3 : Hid (errS l = 0 → ∀ W, Below w.heap.size w W → Calls Tryd.prog 41 #[.slice al l.length cl, .slice ap p.length cp, .func (.func 29) #[] #[]] W (BsPost (memB l p) W)) := fun h0 W hb => bsearch_any l p S S' al cl bl ol ap cp bp op W hal (liesQ_keep (fun x hx => hb.block x (hS x hx)) (fun _ h => h) HL.out) hap (liesP_keep (fun x hx => hb.block x (hS' x hx)) (fun _ h => h) HP.out) (fun x hx => Nat.lt_of_lt_of_le (hS x hx) hb.size) (fun x hx => Nat.lt_of_lt_of_le (hS' x hx) hb.size) (by omega) (setC_zero h0).2.1
  by_cases h0 : errS l = 0
  case neg =>
    have y1 : (((errS l : Nat) : Int) != 0) = true := by rw [bne_iff_ne]; omega
    have HF : Hid (hasB l p = false) := by show _ = _; rw [hasB]; simp [h0]
    generalize errS l = Es at *
    generalize hasB l p = RR at *
    clear h0 C3
    go_enter Tryd.func21, Tryd.ntmps21
    go_wp2_with fail
    refine c1.out.mono ?_
    rintro e w1 ⟨rfl, b1⟩
    go_wp2_with fail
    go_ret
    exact ⟨by rw [HF.out]; rfl, b1⟩
  have y1 : (((errS l : Nat) : Int) != 0) = false := by rw [h0]; rfl
  have C4 := hmk (C3.out h0)
  cases hpb : pathB p with
  | false =>
    have ya : (((errP p : Nat) : Int) != 0) = true := by rw [errP_no hpb]; rfl
    have HF : Hid (hasB l p = false) := by show _ = _; rw [hasB, hpb]; simp
    generalize errS l = Es at *
    generalize errP p = Ea at *
    generalize hasB l p = RR at *
    clear h0 C3 C4 hpb
    go_enter Tryd.func21, Tryd.ntmps21
    go_wp2_with fail
    refine c1.out.mono ?_
    rintro e w1 ⟨rfl, b1⟩
    have c2 := hmk (C2.out w1 b1)
    go_wp2_with fail
    refine c2.out.mono ?_
    rintro e w2 ⟨rfl, b2⟩
    go_wp2_with fail
    go_ret
    exact ⟨by rw [HF.out]; rfl, b1.trans (b2.mono b1.size)⟩
  | true =>
    have ya : (((errP p : Nat) : Int) != 0) = false := by rw [errP_yes hpb]; rfl
    have HF : Hid (hasB l p = memB l p) := by show _ = _; rw [hasB, hpb]; simp [h0]
    generalize errS l = Es at *
    generalize errP p = Ea at *
    generalize hasB l p = RR at *
    generalize memB l p = MM at *
    clear h0 C3 hpb
    go_enter Tryd.func21, Tryd.ntmps21
    go_wp2_with fail
    refine c1.out.mono ?_
    rintro e w1 ⟨rfl, b1⟩
    have c2 := hmk (C2.out w1 b1)
    go_wp2_with fail
    refine c2.out.mono ?_
    rintro e w2 ⟨rfl, b2⟩
    have B2 := b1.trans (b2.mono b1.size)
    have c3 := hmk (C4.out w2 B2)
    clear b1 b2
    go_wp2_with fail
    refine c3.out.mono ?_
    rintro e w3 ⟨i, rfl, b3⟩
    go_wp2_with fail
    go_ret
    exact ⟨by rw [HF.out]; rfl, B2.trans (b3.mono B2.size)⟩
set_option maxHeartbeats 8000000 in
set_option maxRecDepth 100000 in
theorem rhas_any (l : List (List El)) (p : List El) (S S' : Nat → Prop) (al : Option Addr) (cl bl ol : Nat) (ap : Option Addr) (cp bp op : Nat) (w : World) (hal : Headed al l.length cl bl ol) (hl : liesQ w S l bl ol) (hap : Headed ap p.length cp bp op) (hp : liesP w S' p bp op) (hS : ∀ b, S b → b < w.heap.size) (hS' : ∀ b, S' b → b < w.heap.size) (hwt : l.length + wtQ l ≤ 2147483647) (hwp : wtP p ≤ 2147483647) :
    Calls Tryd.prog 23 #[.slice al l.length cl, .slice ap p.length cp] w (BPost (hasB l p) w) := by
  have HL := hmk hl
  have HP := hmk hp
  clear hl hp
  have c1 := hmk (rschk_any l S al cl bl ol w hal HL.out hS hwt)
  have C2 : Hid (∀ W, Below w.heap.size w W → Calls Tryd.prog 30 #[.slice ap p.length cp] W (NPost (errP p) W)) := fun W hb => rpcheck_any p S' ap cp bp op W hap (liesP_keep (fun x hx => hb.block x (hS' x hx)) (fun _ h => h) HP.out) (fun x hx => Nat.lt_of_lt_of_le (hS' x hx) hb.size) hwp
  have C3 : Hid (errS l = 0 → pathB p = true → ∀ W, Below w.heap.size w W → Calls Tryd.prog 42 #[.slice al l.length cl, .slice ap p.length cp] W (BPost (memB l p) W)) := fun h0 h1 W hb => rin_any l p S S' al cl bl ol ap cp bp op W hal (liesQ_keep (fun x hx => hb.block x (hS x hx)) (fun _ h => h) HL.out) hap (liesP_keep (fun x hx => hb.block x (hS' x hx)) (fun _ h => h) HP.out) (fun x hx => Nat.lt_of_lt_of_le (hS x hx) hb.size) (fun x hx => Nat.lt_of_lt_of_le (hS' x hx) hb.size) hwt hwp (setC_zero h0).1 h1
  by_cases h0 : errS l = 0
  case neg =>
    have y1 : (((errS l : Nat) : Int) == 0) = false := by rw [beq_eq_false_iff_ne]; omega
    have HF : Hid (hasB l p = false) := by show _ = _; rw [hasB]; simp [h0]
    generalize errS l = Es at *
    generalize errP p = Ea at *
    generalize hasB l p = RR at *
    clear h0 C3
    go_enter Tryd.func23, Tryd.ntmps23
    go_wp2_with fail
    refine c1.out.mono ?_
    rintro e w1 ⟨rfl, b1⟩
    have c2 := hmk (C2.out w1 b1)
    go_wp2_with fail
    refine c2.out.mono ?_
    rintro e w2 ⟨rfl, b2⟩
    go_wp2_with fail
    go_ret
    exact ⟨by rw [HF.out]; rfl, b1.trans (b2.mono b1.size)⟩
  have y1 : (((errS l : Nat) : Int) == 0) = true := by rw [h0]; rfl
  have C4 := hmk (C3.out h0)
  cases hpb : pathB p with
  | false =>
    have ya : (((errP p : Nat) : Int) == 0) = false := by rw [errP_no hpb]; rfl
    have HF : Hid (hasB l p = false) := by show _ = _; rw [hasB, hpb]; simp
    generalize errS l = Es at *
    generalize errP p = Ea at *
    generalize hasB l p = RR at *
    clear h0 C3 C4 hpb
    go_enter Tryd.func23, Tryd.ntmps23
    go_wp2_with fail
    refine c1.out.mono ?_
    rintro e w1 ⟨rfl, b1⟩
    have c2 := hmk (C2.out w1 b1)
    go_wp2_with fail
    refine c2.out.mono ?_
    rintro e w2 ⟨rfl, b2⟩
    go_wp2_with fail
    go_ret
    exact ⟨by rw [HF.out]; rfl, b1.trans (b2.mono b1.size)⟩
  | true =>
    have ya : (((errP p : Nat) : Int) == 0) = true := by rw [errP_yes hpb]; rfl
    have HF : Hid (hasB l p = memB l p) := by show _ = _; rw [hasB, hpb]; simp [h0]
    have C5 := hmk (C4.out hpb)
    generalize errS l = Es at *
    generalize errP p = Ea at *
    generalize hasB l p = RR at *
    generalize memB l p = MM at *
    clear h0 C3 C4 hpb
    go_enter Tryd.func23, Tryd.ntmps23
    go_wp2_with fail
    refine c1.out.mono ?_
    rintro e w1 ⟨rfl, b1⟩
    have c2 := hmk (C2.out w1 b1)
    go_wp2_with fail
    refine c2.out.mono ?_
    rintro e w2 ⟨rfl, b2⟩
    have B2 := b1.trans (b2.mono b1.size)
    have c3 := hmk (C5.out w2 B2)
    clear b1 b2
    go_wp2_with fail
    refine c3.out.mono ?_
    rintro e w3 ⟨rfl, b3⟩
    go_wp2_with fail
    go_ret
    exact ⟨by rw [HF.out]; rfl, B2.trans (b3.mono B2.size)⟩
end Go.Proofs.YtjdgnajjggjljaaDoor
