/- joined: HasS OfS -/
import Derived.Test.YthlhkhcbkgbhfaaGreatDoorG25
/- pathset.Has: the program's and the document's. -/
set_option linter.unusedSimpArgs false
set_option linter.unusedVariables false
namespace Go.Proofs.YthlhkhcbkgbhfaaGreatDoor
open Go.RowKit Go.Lib
def BsPost (r : Bool) (w : World) (e : Ending) (w' : World) : Prop := ∃ i : Int, e = .returned (.tuple #[.int .i64 i, .bool r]) ∧ Below w.heap.size w w'
/-- is the path among these -/
def memB (l : List (List El)) (p : List El) : Bool := l.any (fun q => decide (lexL oeE q p = 0))
theorem memB_yes {l : List (List El)} {p : List El} {j : Nat} (h : j < l.length) (e : lexL oeE l[j] p = 0) : memB l p = true := by
  rw [memB, List.any_eq_true]
  exact ⟨l[j], List.getElem_mem h, by simpa using e⟩
theorem memB_no {l : List (List El)} {p : List El} (h : ∀ i, (hi : i < l.length) → lexL oeE l[i] p ≠ 0) : memB l p = false := by
  rw [Bool.eq_false_iff]
  intro hm
  rw [memB, List.any_eq_true] at hm
  obtain ⟨q, hq, e⟩ := hm
  obtain ⟨i, hi, rfl⟩ := List.getElem_of_mem hq
  exact h i hi (by simpa using e)
set_option maxHeartbeats 8000000 in
set_option maxRecDepth 100000 in
theorem bsearch_any (l : List (List El)) (p : List El) (S S' : Nat → Prop) (al : Option Addr) (cl bl ol : Nat) (ap : Option Addr) (cp bp op : Nat) (w : World) (hal : Headed al l.length cl bl ol) (hl : liesQ w S l bl ol) (hap : Headed ap p.length cp bp op) (hp : liesP w S' p bp op) (hS : ∀ b, S b → b < w.heap.size) (hS' : ∀ b, S' b → b < w.heap.size) (hn : l.length ≤ 2147483647) (hr : l.Pairwise (fun a b => lexL oeE a b < 0)) :
    Calls Tryz.prog 37 #[.slice al l.length cl, .slice ap p.length cp, .func (.func 36) #[] #[]] w (BsPost (memB l p) w) := by
  have HL := hmk hl
  have HP := hmk hp
  have HR : Hid (∀ i j, (hi : i < l.length) → (hj : j < l.length) → i < j → lexL oeE l[i] l[j] < 0) := fun i j hi hj hij => List.pairwise_iff_getElem.1 hr i j hi hj hij
  clear hl hp hr
  have hlen : l.length ≤ 9223372036854775807 := by omega
  have HM1 : Hid (∀ j, (h : j < l.length) → lexL oeE l[j] p = 0 → memB l p = true) := fun j h e => memB_yes h e
  have HM2 : Hid ((∀ i, (hi : i < l.length) → lexL oeE l[i] p ≠ 0) → memB l p = false) := memB_no
  have CC : Hid (∀ (j : Nat) (hj : j < l.length), ∃ aq cq, (∀ W, Below w.heap.size w W → W.cell? ⟨bl, ol + j, none⟩ = some (.slice aq (l[j]).length cq)) ∧ ∀ W, Below w.heap.size w W → Calls Tryz.prog 36 #[.slice aq (l[j]).length cq, .slice ap p.length cp] W (JPost (lexL oeE l[j] p) W)) := fun j hj => by
    obtain ⟨hSb, v, hv, aq, cq, bq, oq, rfl, hhq, hlq⟩ := HL.out j hj
    exact ⟨aq, cq, fun W hb => (World.cell?_of_block (w := w) (a := ⟨bl, ol + j, none⟩) (hb.block _ (hS _ hSb))).trans hv, fun W hb => opaths_any l[j] p S S' aq cq bq oq ap cp bp op W hhq (liesP_keep (fun x hx => hb.block x (hS x hx)) (fun _ h => h) hlq) hap (liesP_keep (fun x hx => hb.block x (hS' x hx)) (fun _ h => h) HP.out) (fun x hx => Nat.lt_of_lt_of_le (hS x hx) hb.size) (fun x hx => Nat.lt_of_lt_of_le (hS' x hx) hb.size)⟩
  generalize memB l p = RR at *
  go_enter Tryz.func37, Tryz.ntmps37
  go_wp2_with fail
  go_loopw [9, 10] (fun e9 e10 wr => ∃ i j : Nat, i ≤ j ∧ j ≤ l.length ∧ e9 = .int .i64 (i : Int) ∧ e10 = .int .i64 (j : Int) ∧ Below w.heap.size w wr ∧ Hid (∀ k, (hk : k < l.length) → k < i → lexL oeE l[k] p < 0) ∧ Hid (∀ k, (hk : k < l.length) → j ≤ k → 0 ≤ lexL oeE l[k] p)) (fun e9 e10 _ => (RowKit.intOf e10).toNat - (RowKit.intOf e9).toNat)
  case atStart => exact ⟨0, l.length, by omega, by omega, rfl, rfl, Below.refl _ _, fun k hk h => by omega, fun k hk h => by omega⟩
  case round =>
    obtain ⟨i, j, hij0, hjl, rfl, rfl, bj, HLO, HHI⟩ := hrel
    have hzr := bj.size
    by_cases hij : i < j
    · have y1 : (i : Int) < j := by omega
      obtain ⟨h, hh, hh1, hh2⟩ : ∃ h : Nat, ((i : Int) + (j : Int)) / 2 = (h : Int) ∧ i ≤ h ∧ h < j := ⟨(i + j) / 2, by omega, by omega, by omega⟩
      have hhl : h < l.length := by omega
      have y2 : (h : Int) < l.length := by omega
      obtain ⟨aq, cq, hcell, hcall⟩ := CC.out h hhl
      obtain rfl : al = some ⟨bl, ol, none⟩ := hal.at_.resolve_left (by omega)
      have r0 := hcell wr bj
      have c := hmk (hcall wr bj)
      have HX1 : Hid (lexL oeE l[h] p < 0 → ∀ k, (hk : k < l.length) → k < h + 1 → lexL oeE l[k] p < 0) := fun e k hk hkh => by
        by_cases ek : k = h
        · subst ek; exact e
        · exact wk_P.tri _ _ _ (HR.out k h hk hhl (by omega)) e
      have HX2 : Hid (0 ≤ lexL oeE l[h] p → ∀ k, (hk : k < l.length) → h ≤ k → 0 ≤ lexL oeE l[k] p) := fun e k hk hkh => by
        by_cases ek : k = h
        · subst ek; exact e
        · by_cases e2 : lexL oeE l[k] p < 0
          · have := wk_P.tri _ _ _ (HR.out h k hhl hk (by omega)) e2
            omega
          · omega
      generalize lexL oeE l[h] p = Z at *
      clear hcell hcall HM1 HM2
      generalize l[h] = ph at *
      by_cases hZ : Z < 0
      · have HF := hmk (HX1.out hZ)
        clear HX1 HX2
        go_wp2_with fail
        refine c.out.mono ?_
        rintro e w3 ⟨rfl, b3⟩
        go_wp2_with fail
        go_roundw
        case rel => exact ⟨h + 1, j, by omega, by omega, by go_num, rfl, bj.trans (b3.mono hzr), HF, HHI⟩
        case measure => simp [RowKit.intOf]; omega
      · have HF := hmk (HX2.out (by omega))
        clear HX1 HX2
        go_wp2_with fail
        refine c.out.mono ?_
        rintro e w3 ⟨rfl, b3⟩
        go_wp2_with fail
        go_roundw
        case rel => exact ⟨i, h, by omega, by omega, rfl, rfl, bj.trans (b3.mono hzr), HLO, HF⟩
        case measure => simp [RowKit.intOf]; omega
    · obtain rfl : i = j := by omega
      have y1 : ¬ (i : Int) < i := by omega
      by_cases hpos : i < l.length
      · have y2 : (i : Int) < l.length := by omega
        obtain ⟨aq, cq, hcell, hcall⟩ := CC.out i hpos
        obtain rfl : al = some ⟨bl, ol, none⟩ := hal.at_.resolve_left (by omega)
        have r0 := hcell wr bj
        have c := hmk (hcall wr bj)
        have HF : Hid (RR = (lexL oeE l[i] p == 0)) := by
          show _ = _
          by_cases e : lexL oeE l[i] p = 0
          · rw [HM1.out i hpos e, e]; rfl
          · rw [beq_eq_false_iff_ne.2 e]
            refine HM2.out fun k hk e2 => ?_
            rcases Nat.lt_trichotomy k i with h | h | h
            · have := HLO.out k hk h; omega
            · subst h; exact e e2
            · have h1 := HR.out i k hpos hk h
              have h2 := HHI.out i hpos (Nat.le_refl _)
              rw [wk_P.congR e2] at h1
              omega
        generalize lexL oeE l[i] p = Z at *
        clear hcell hcall HM1 HM2 HLO HHI HR
        generalize l[i] = ph at *
        go_wp2_with fail
        refine c.out.mono ?_
        rintro e w3 ⟨rfl, b3⟩
        go_wp2_with fail
        go_ret2
        exact ⟨i, by rw [HF.out]; rfl, bj.trans (b3.mono hzr)⟩
      · have y2 : ¬ (i : Int) < l.length := by omega
        have HF : Hid (RR = false) := HM2.out fun k hk e2 => by have := HLO.out k hk (by omega); omega
        clear HM1 HM2 HLO HHI HR
        go_wp2_with fail
        go_ret2
        exact ⟨i, by rw [HF.out]; rfl, bj⟩
/-- Has, as a function -/
def hasB (l : List (List El)) (p : List El) : Bool := decide (errS l = 0) && pathB p && memB l p
set_option maxHeartbeats 8000000 in
set_option maxRecDepth 100000 in
theorem has_any (l : List (List El)) (p : List El) (S S' : Nat → Prop) (al : Option Addr) (cl bl ol : Nat) (ap : Option Addr) (cp bp op : Nat) (w : World) (tb : Tb w) (hal : Headed al l.length cl bl ol) (hl : liesQ w S l bl ol) (hap : Headed ap p.length cp bp op) (hp : liesP w S' p bp op) (hS : ∀ b, S b → b < w.heap.size) (hS' : ∀ b, S' b → b < w.heap.size) (hwt : l.length + wtQ l ≤ 2147483647) (hwp : wtP p ≤ 2147483647) :
    Calls Tryz.prog 15 #[.slice al l.length cl, .slice ap p.length cp] w (BPost (hasB l p) w) := by
  have HL := hmk hl
  have HP := hmk hp
  have HT := hmk tb
  clear hl hp tb
  have c1 := hmk (schk_any l S al cl bl ol w HT.out hal HL.out hS hwt)
  have C2 : Hid (∀ W, Below w.heap.size w W → Calls Tryz.prog 21 #[.slice ap p.length cp] W (NPost (errP p) W)) := fun W hb => pcheck_any p S' ap cp bp op W (HT.out.below hb HT.out.z) hap (liesP_keep (fun x hx => hb.block x (hS' x hx)) (fun _ h => h) HP.out) (fun x hx => Nat.lt_of_lt_of_le (hS' x hx) hb.size) hwp
  have C3 : Hid (errS l = 0 → ∀ W, Below w.heap.size w W → Calls Tryz.prog 37 #[.slice al l.length cl, .slice ap p.length cp, .func (.func 36) #[] #[]] W (BsPost (memB l p) W)) := fun h0 W hb => bsearch_any l p S S' al cl bl ol ap cp bp op W hal (liesQ_keep (fun x hx => hb.block x (hS x hx)) (fun _ h => h) HL.out) hap (liesP_keep (fun x hx => hb.block x (hS' x hx)) (fun _ h => h) HP.out) (fun x hx => Nat.lt_of_lt_of_le (hS x hx) hb.size) (fun x hx => Nat.lt_of_lt_of_le (hS' x hx) hb.size) (by omega) (setC_zero h0).2.1
  by_cases h0 : errS l = 0
  case neg =>
    have y1 : (((errS l : Nat) : Int) != 0) = true := by rw [bne_iff_ne]; omega
    have HF : Hid (hasB l p = false) := by show _ = _; rw [hasB]; simp [h0]
    generalize errS l = Es at *
    generalize hasB l p = RR at *
    clear h0 C3
    go_enter Tryz.func15, Tryz.ntmps15
    go_wp2_with fail
    refine c1.out.mono ?_
    rintro e w1 ⟨rfl, b1⟩
    go_wp2_with fail
    go_ret
    exact ⟨by rw [HF.out]; rfl, b1⟩
  have y1 : (((errS l : Nat) : Int) != 0) = false := by rw [h0]; rfl
  have C4 := hmk (C3.out h0)
  cases hpb : pathB p with
  | false =>
    have ya : (((errP p : Nat) : Int) != 0) = true := by rw [errP_no hpb]; rfl
    have HF : Hid (hasB l p = false) := by show _ = _; rw [hasB, hpb]; simp
    generalize errS l = Es at *
    generalize errP p = Ea at *
    generalize hasB l p = RR at *
    clear h0 C3 C4 hpb
    go_enter Tryz.func15, Tryz.ntmps15
    go_wp2_with fail
    refine c1.out.mono ?_
    rintro e w1 ⟨rfl, b1⟩
    have c2 := hmk (C2.out w1 b1)
    go_wp2_with fail
    refine c2.out.mono ?_
    rintro e w2 ⟨rfl, b2⟩
    go_wp2_with fail
    go_ret
    exact ⟨by rw [HF.out]; rfl, b1.trans (b2.mono b1.size)⟩
  | true =>
    have ya : (((errP p : Nat) : Int) != 0) = false := by rw [errP_yes hpb]; rfl
    have HF : Hid (hasB l p = memB l p) := by show _ = _; rw [hasB, hpb]; simp [h0]
    generalize errS l = Es at *
    generalize errP p = Ea at *
    generalize hasB l p = RR at *
    generalize memB l p = MM at *
    clear h0 C3 hpb
    go_enter Tryz.func15, Tryz.ntmps15
    go_wp2_with fail
    refine c1.out.mono ?_
    rintro e w1 ⟨rfl, b1⟩
    have c2 := hmk (C2.out w1 b1)
    go_wp2_with fail
    refine c2.out.mono ?_
    rintro e w2 ⟨rfl, b2⟩
    have B2 := b1.trans (b2.mono b1.size)
    have c3 := hmk (C4.out w2 B2)
    clear b1 b2
    go_wp2_with fail
    refine c3.out.mono ?_
    rintro e w3 ⟨i, rfl, b3⟩
    go_wp2_with fail
    go_ret
    exact ⟨by rw [HF.out]; rfl, B2.trans (b3.mono B2.size)⟩
end Go.Proofs.YthlhkhcbkgbhfaaGreatDoor
/- Of: the program's and the document's. -/
namespace Go.Proofs.YthlhkhcbkgbhfaaGreatDoor
open Go.RowKit Go.Lib
set_option maxHeartbeats 4000000 in
theorem of_any (l : List (List El)) (S : Nat → Prop) (al : Option Addr) (cl bl ol : Nat) (w : World) (tb : Tb w) (hal : Headed al l.length cl bl ol) (hl : liesQ w S l bl ol) (hS : ∀ b, S b → b < w.heap.size) (hwt : l.length + wtQ l ≤ 2147483647) :
    Calls Tryz.prog 19 #[.slice al l.length cl] w (SoPost l w) := by
  have c := hmk (sort_any l S al cl bl ol w tb hal hl hS hwt)
  clear hl tb
  go_enter Tryz.func19, Tryz.ntmps19
  go_wp2_with fail
  refine c.out.mono ?_
  rintro e w1 ⟨b1, h1⟩
  rcases h1 with ⟨hall, R, sa, sc, sb, so, hR, rfl, hhs, hls⟩ | ⟨hno, rfl⟩
  · have H1 := hmk (And.intro hall (And.intro hR (And.intro hhs hls)))
    clear hall hR hls
    go_wp2_with fail
    go_ret2
    exact ⟨b1, .inl ⟨H1.out.1, R, sa, sc, sb, so, H1.out.2.1, rfl, H1.out.2.2.1, H1.out.2.2.2⟩⟩
  · have H1 := hmk hno
    clear hno
    go_wp2_with fail
    go_ret2
    exact ⟨b1, .inr ⟨H1.out, rfl⟩⟩
end Go.Proofs.YthlhkhcbkgbhfaaGreatDoor
