import Derived.Test.YtolekldjbbjmjaaGreatDoorDocD
/- SelectorReads: the document's reader: a term. -/
set_option linter.unusedSimpArgs false
set_option linter.unusedVariables false
namespace Go.Proofs.YtolekldjbbjmjaaGreatDoor
open Go.RowKit Go.Lib
theorem DP.far {g : Nat} {s : ByteArray} {w W W' : World} {k : Nat} {bad : Int} {row : Option Nat} (h : DP g s w W k bad) (gr : W.grownBy W' row) (hr : ∀ r, row = some r → w.heap.size ≤ r) (hg : g < w.heap.size) : DP g s w W' k bad :=
  ⟨h.le, (gr.block g h.db.lt (fun e => by have := hr g e.symm; omega)).trans h.db, gr.os.trans h.gr.os, gr.tape.trans h.gr.tape, gr.output.trans h.gr.output, Nat.le_trans h.gr.size gr.size, fun i hi hne => (gr.block i (Nat.lt_of_lt_of_le hi h.gr.size) (fun e => by have := hr i e.symm; omega)).trans (h.gr.block i hi hne)⟩
theorem DP.box3 {g : Nat} {s : ByteArray} {w W : World} {k r : Nat} {bad : Int} (h : DP g s w W k bad) (hr : w.heap.size ≤ r) (hg : g < w.heap.size) (v0 v1 v2 : Value) : DP g s w (((W.setCell ⟨r, 0, none⟩ v0).setCell ⟨r, 1, none⟩ v1).setCell ⟨r, 2, none⟩ v2) k bad :=
  h.far (st3_grown W r v0 v1 v2) (fun y hy => by cases hy; exact hr) hg
theorem skp_skp (s : ByteArray) (k : Nat) (hk : k ≤ s.size) : skp s.data.toList (skp s.data.toList k) = skp s.data.toList k := by
  have : ∀ n k, s.size - k ≤ n → k ≤ s.size → skp s.data.toList (skp s.data.toList k) = skp s.data.toList k := by
    intro n
    induction n with
    | zero =>
      intro k h1 h2
      obtain rfl : k = s.size := by omega
      rw [skp_end, skp_end]
    | succ n ih =>
      intro k h1 h2
      by_cases hl : k < s.size
      · by_cases hb : s[k] = 32
        · rw [skp_yes hl hb]
          exact ih (k + 1) (by omega) (by omega)
        · rw [skp_no hl hb, skp_no hl hb]
      · obtain rfl : k = s.size := by omega
        rw [skp_end, skp_end]
  exact this _ k (Nat.le_refl _) hk
theorem tk_ex (l : List UInt8) (k : Nat) : (tkB l k [61, 61] = true → tkB l k [61] = true) ∧ (tkB l k [61] = true → tkB l k [33, 61] = false) := by
  unfold tkB hasPrefix
  cases l.drop k with
  | nil => simp [List.isPrefixOf]
  | cons c t =>
    constructor
    · intro h
      cases t with
      | nil => simp [List.isPrefixOf] at h
      | cons d t => simp only [List.isPrefixOf, Bool.and_eq_true, beq_iff_eq] at h ⊢; exact ⟨h.1, trivial⟩
    · intro h
      simp only [List.isPrefixOf, Bool.and_eq_true, beq_iff_eq, and_true] at h
      subst h
      rfl
theorem block_ltN {W : World} {b : Nat} {o : Obj} (h : W.heap[b]? = some o) : b < W.heap.size := by
  rcases Nat.lt_or_ge b W.heap.size with h' | h'
  · exact h'
  · rw [Array.getElem?_eq_none h'] at h; cases h
abbrev st3 (W : World) (r : Nat) (v0 v1 v2 : Value) : World := ((W.setCell ⟨r, 0, none⟩ v0).setCell ⟨r, 1, none⟩ v1).setCell ⟨r, 2, none⟩ v2
theorem fin_list {w wx wl : World} {vs : List ByteArray} {b o : Nat} (hx : w.heap.size < wx.heap.size) (h : liesS wl (New wx wl) vs b o) (v0 v1 v2 : Value) : liesS (st3 wl w.heap.size v0 v1 v2) (New w (st3 wl w.heap.size v0 v1 v2)) vs b o := by
  have gr3 := st3_grown wl w.heap.size v0 v1 v2
  exact (lies_far h gr3 (fun y hy => ⟨hy.2, by have := hy.1; omega⟩)).keep (fun _ _ => rfl) (fun y hy => ⟨by have := hy.1; omega, Nat.lt_of_lt_of_le hy.2 gr3.size⟩)
theorem one_new {wb : World} {y : ByteArray} (hy : y.size ≤ 64) : liesS (wb.alloc (.cells #[.string y] 9)) (New wb (wb.alloc (.cells #[.string y] 9))) [y] wb.heap.size 0 := fun j hj => by
  obtain rfl : j = 0 := by simp at hj; exact hj
  refine ⟨⟨Nat.le_refl _, by rw [alloc_size]; omega⟩, by show y.size ≤ _; omega, ?_⟩
  rw [cell_of_block (heap_alloc_new wb _)]
  rfl
theorem head_one (b : Nat) : Headed (some ⟨b, 0, none⟩) 1 1 b 0 := ⟨Nat.le_refl _, by decide, .inr rfl, fun h => by cases h⟩
/-- a term was read, or a fault stands -/
def DtPost (R : Option Trm × Nat) (g : Nat) (s : ByteArray) (w : World) (e : Ending) (w' : World) : Prop :=
  (∃ (key : ByteArray) (op : Int) (vs : List ByteArray) (a : Option Addr) (c b o : Nat), R.1 = some (key, op, vs) ∧ e = .returned (.agg #[.string key, .int .i64 op, .slice a vs.length c]) ∧ key.size ≤ 64 ∧ Headed a vs.length c b o ∧ liesS w' (New w w') vs b o ∧ 1 ≤ op ∧ op ≤ 4 ∧ DP g s w w' R.2 (-1)) ∨ (R.1 = none ∧ ∃ (key : ByteArray) (op : Int) (a : Option Addr) (n c : Nat), e = .returned (.agg #[.string key, .int .i64 op, .slice a n c]) ∧ ∃ k2, DP g s w w' k2 (R.2 : Int))
set_option maxHeartbeats 8000000 in
set_option maxRecDepth 100000 in
theorem dterm_any (g : Nat) (s : ByteArray) (k0 : Nat) (w : World) (h : DB g s k0 (-1) w) (hk0 : k0 ≤ s.size) (hs : s.size ≤ 1048576) :
    Calls Tryz.prog 38 #[.pointer (some ⟨g, 0, none⟩)] w (DtPost (termF s.data.toList (skp s.data.toList k0)) g s w) := by
  have hlt := h.lt
  have hll : s.data.toList.length = s.size := by simp
  have bA : Below w.heap.size w (w.alloc z35) := (Below.refl _ _).alloc (Nat.le_refl _) _
  have nb := heap_alloc_new w z35
  have hbsz : w.heap.size < (w.alloc z35).heap.size := by rw [alloc_size]; omega
  have RA : DP g s w (w.alloc z35) k0 (-1) := ⟨hk0, h.keep bA, grown_below bA⟩
  have KA : Hid (∀ W k' bad, DP g s (w.alloc z35) W k' bad → DP g s w W k' bad ∧ W.heap[w.heap.size]? = some z35) := fun W k' bad r =>
    ⟨RA.trans r, (r.gr.block _ hbsz (fun e => by have := Option.some.inj e; omega)).trans nb⟩
  have CB : Hid (∀ W k, DP g s w W k (-1) → Calls Tryz.prog 37 #[.pointer (some ⟨g, 0, none⟩)] W (fun e w' => e = .returned (.tuple #[]) ∧ DP g s W w' (skp s.data.toList k) (-1))) := fun W k r => blanks_any g s k W r.db r.le (by omega)
  have CS : Hid (∀ (p : ByteArray) (pl : List UInt8), p.data.toList = pl → 0 < p.size → p.size ≤ 100 → ∀ W k, DP g s w W k (-1) → Calls Tryz.prog 39 #[.pointer (some ⟨g, 0, none⟩), .string p] W (fun e w' => e = .returned (.bool (tkB s.data.toList k pl)) ∧ DP g s W w' k (-1))) := fun p pl hp h0 h1 W k r => by
    subst hp
    exact sees_any g s p k W r.db r.le (by omega) h0 h1
  have CNOT := hmk (CS.out ⟨#[33]⟩ [33] rfl (by decide) (by decide))
  have CNE := hmk (CS.out ⟨#[33, 61]⟩ [33, 61] rfl (by decide) (by decide))
  have CEE := hmk (CS.out ⟨#[61, 61]⟩ [61, 61] rfl (by decide) (by decide))
  have CE := hmk (CS.out ⟨#[61]⟩ [61] rfl (by decide) (by decide))
  have CP : Hid (∀ W k, DP g s w W k (-1) → Calls Tryz.prog 59 #[.pointer (some ⟨g, 0, none⟩)] W (fun e w' => e = .returned (.string ⟨(plnT s.data.toList k).toArray⟩) ∧ DP g s W w' k (-1))) := fun W k r => pword_any g s k W r.db r.le (by omega)
  have CW : Hid (∀ W k, DP g s w W k (-1) → Calls Tryz.prog 58 #[.pointer (some ⟨g, 0, none⟩), .int .i64 1] W (WdPost (wrdF s.data.toList 1 (skp s.data.toList k)) g s (skp s.data.toList k) W)) := fun W k r => dword_any g s k 1 W r.db r.le (by omega) (by omega)
  have CV : Hid (∀ W k, DP g s w W k (-1) → Calls Tryz.prog 58 #[.pointer (some ⟨g, 0, none⟩), .int .i64 0] W (WdPost (wrdF s.data.toList 0 (skp s.data.toList k)) g s (skp s.data.toList k) W)) := fun W k r => dword_any g s k 0 W r.db r.le (by omega) (by omega)
  have CL : Hid (∀ W k, DP g s w W k (-1) → Calls Tryz.prog 60 #[.pointer (some ⟨g, 0, none⟩)] W (LsPost (manyF s.data.toList (skp s.data.toList k)) g s W)) := fun W k r => dlist_any g s k W r.db r.le hs
  have hss := skp_skp s k0 hk0
  obtain ⟨k, hk⟩ : ∃ k, skp s.data.toList k0 = k := ⟨_, rfl⟩
  rw [hk] at hss
  have HSS := hmk hss
  have CBk : Hid (∀ W, DP g s w W k0 (-1) → Calls Tryz.prog 37 #[.pointer (some ⟨g, 0, none⟩)] W (fun e w' => e = .returned (.tuple #[]) ∧ DP g s W w' k (-1))) := fun W r => by rw [← hk]; exact CB.out W k0 r
  rw [hk]
  obtain ⟨RES, hRES⟩ : ∃ RES, RES = termF s.data.toList k := ⟨_, rfl⟩
  rw [← hRES]
  have HR : Hid (RES = termF s.data.toList k) := hRES
  have HRA := DP.refl RA.db hk0
  have RA2 := RA
  clear h hRES bA nb RA hk hss CB CS
  go_enter Tryz.func38, Tryz.ntmps38
  go_wp2_with fail
  refine (CBk.out _ RA2).mono ?_
  rintro e w1 ⟨rfl, q1'⟩
  have q1 := HRA.trans q1'
  have R1 := (KA.out _ _ _ q1).1
  clear q1' CBk RA2 HRA
  go_wp2_with fail
  refine (CNOT.out _ _ R1).mono ?_
  rintro e w2 ⟨rfl, q2'⟩
  have q2 := q1.trans q2'
  have R2 := (KA.out _ _ _ q2).1
  have c1 := R2.db.c1
  have f1 := R2.db.fz 1
  have hkl := R2.le
  clear q2' q1 R1
  cases hT : tkB s.data.toList k [33] with
  | true =>
    have hle := tkB_le hT (by decide)
    simp only [List.length_cons, List.length_nil] at hle
    have hn : tkN s.data.toList k [33] = skp s.data.toList (k + 1) := by unfold tkN; rw [if_pos hT]; rfl
    have HTT := hmk hT
    have q3 := q2.put1 (k + 1) ((k : Int) + 1) (by omega) (by omega)
    have R3 := (KA.out _ _ _ q3).1
    clear hT
    go_wp2_with fail
    refine (CW.out _ _ R3).mono ?_
    rintro e w3 (⟨x, k2, hx, rfl, hx64, q4'⟩ | ⟨hx, rfl, k2, q4'⟩)
    · have q4 := q3.trans q4'
      obtain ⟨R4, N4⟩ := KA.out _ _ _ q4
      have HX : Hid (RES = (some (x, 2, []), k2)) := by show _ = _; rw [HR.out, termF_not (by rw [hn]; exact hx) HTT.out]
      clear hx q4' q4 q3 q2 R2 R3
      have z0 : w3.cell? ⟨w.heap.size, 0, none⟩ = some (.string ⟨#[]⟩) := cell_of_block N4 0
      have z1 : w3.cell? ⟨w.heap.size, 1, none⟩ = some (.int .i64 0) := cell_of_block N4 1
      have z2 : w3.cell? ⟨w.heap.size, 2, none⟩ = some (.slice none 0 0) := cell_of_block N4 2
      have kf : ∀ ii, w3.frozen? ⟨w.heap.size, ii, none⟩ = false := frozen_of_block N4
      have RF := hmk (R4.box3 (Nat.le_refl _) hlt (.string x) (.int .i64 2) (.slice none 0 0))
      clear N4
      go_wp2_with fail
      (try simp only [Exit.inBlock, Exit.then])
      refine bodyPost_ret (v := .agg #[.string x, .int .i64 2, .slice none 0 0]) ?_ rfl (.inl ⟨x, 2, [], none, 0, 0, 0, by rw [HX.out], rfl, hx64, head_nilS, fun j hj => by simp at hj, by omega, by omega, by rw [HX.out]; exact RF.out⟩)
      rw [results_cell1 rfl]
      go_simp
    · have q4 := q3.trans q4'
      obtain ⟨R4, N4⟩ := KA.out _ _ _ q4
      have HX : Hid (RES = (none, skp s.data.toList (k + 1))) := by show _ = _; rw [HR.out, termF_none (by rw [hn]; exact hx), hn]
      clear hx q4' q4 q3 q2 R2 R3
      have z0 : w3.cell? ⟨w.heap.size, 0, none⟩ = some (.string ⟨#[]⟩) := cell_of_block N4 0
      have z1 : w3.cell? ⟨w.heap.size, 1, none⟩ = some (.int .i64 0) := cell_of_block N4 1
      have z2 : w3.cell? ⟨w.heap.size, 2, none⟩ = some (.slice none 0 0) := cell_of_block N4 2
      have kf : ∀ ii, w3.frozen? ⟨w.heap.size, ii, none⟩ = false := frozen_of_block N4
      have RF := hmk (R4.box3 (Nat.le_refl _) hlt (.string ⟨#[]⟩) (.int .i64 2) (.slice none 0 0))
      clear N4
      go_wp2_with fail
      (try simp only [Exit.inBlock, Exit.then])
      refine bodyPost_ret (v := .agg #[.string ⟨#[]⟩, .int .i64 2, .slice none 0 0]) ?_ rfl (.inr ⟨by rw [HX.out], _, _, _, _, _, rfl, _, by rw [HX.out]; exact RF.out⟩)
      rw [results_cell1 rfl]
      go_simp
  | false =>
    have hn : tkN s.data.toList k [33] = k := by unfold tkN; rw [if_neg (by rw [hT]; decide)]
    have HTT := hmk hT
    have CWk := CW.out _ _ R2
    rw [HSS.out] at CWk
    have CWk := hmk CWk
    clear hT
    go_wp2_with fail
    refine CWk.out.mono ?_
    rintro e w3 (⟨x, k2, hx, rfl, hx64, q4'⟩ | ⟨hx, rfl, k2, q4'⟩)
    case inr =>
      have q4 := q2.trans q4'
      obtain ⟨R4, N4⟩ := KA.out _ _ _ q4
      have HX : Hid (RES = (none, k)) := by show _ = _; rw [HR.out, termF_none (by rw [hn]; exact hx), hn]
      have c2 := R4.db.c2
      have yk : (k : Int) ≥ 0 := by omega
      clear hx q4' q4 q2 R2 CWk
      have z0 : w3.cell? ⟨w.heap.size, 0, none⟩ = some (.string ⟨#[]⟩) := cell_of_block N4 0
      have z1 : w3.cell? ⟨w.heap.size, 1, none⟩ = some (.int .i64 0) := cell_of_block N4 1
      have z2 : w3.cell? ⟨w.heap.size, 2, none⟩ = some (.slice none 0 0) := cell_of_block N4 2
      have kf : ∀ ii, w3.frozen? ⟨w.heap.size, ii, none⟩ = false := frozen_of_block N4
      have RF := hmk (R4.box3 (Nat.le_refl _) hlt (.string ⟨#[]⟩) (.int .i64 0) (.slice none 0 0))
      clear N4
      go_wp2_with fail
      (try simp only [Exit.inBlock, Exit.then])
      refine bodyPost_ret (v := .agg #[.string ⟨#[]⟩, .int .i64 0, .slice none 0 0]) ?_ rfl (.inr ⟨by rw [HX.out], _, _, _, _, _, rfl, _, by rw [HX.out]; exact RF.out⟩)
      rw [results_cell1 rfl]
      go_simp
    case inl =>
      have q4 := q2.trans q4'
      have R4 := (KA.out _ _ _ q4).1
      have c2 := R4.db.c2
      have hk2 := R4.le
      have HXw := hmk hx
      have hkk : k ≤ k2 := wrd_ge hx
      have HCO : Hid (∀ r, (condF s.data.toList k2).1 = some r → RES = (some (x, r.1, r.2), (condF s.data.toList k2).2)) := fun r hr => by
        obtain ⟨op, vs⟩ := r
        rw [HR.out, termF_some (by rw [hn]; exact hx) HTT.out hr]
      have HCN : Hid ((condF s.data.toList k2).1 = none → RES = (none, (condF s.data.toList k2).2)) := fun hr => by rw [HR.out, termF_bad (by rw [hn]; exact hx) HTT.out hr]
      obtain ⟨he1, he2⟩ := tk_ex s.data.toList k2
      have HOP : Hid (opS s.data.toList k2 = if tkB s.data.toList k2 [61, 61] = true then ⟨#[61, 61]⟩ else if tkB s.data.toList k2 [61] = true then ⟨#[61]⟩ else if tkB s.data.toList k2 [33, 61] = true then ⟨#[33, 61]⟩ else ⟨(plnT s.data.toList k2).toArray⟩) := rfl
      clear hx q4' q2 R2 CWk HR
      go_wp2_with fail
      refine (CNE.out _ _ R4).mono ?_
      rintro e w4 ⟨rfl, q5'⟩
      have q5 := q4.trans q5'
      have R5 := (KA.out _ _ _ q5).1
      clear q5' q4 R4 c2
      obtain ⟨t2, ht2⟩ : ∃ t, tkB s.data.toList k2 [33, 61] = t := ⟨_, rfl⟩
      rw [ht2] at he2 ⊢
      cases hE3 : tkB s.data.toList k2 [61] with
      | true =>
        obtain rfl : t2 = false := he2 hE3
        cases hE1 : tkB s.data.toList k2 [61, 61] with
        | true =>
          have hO : opS s.data.toList k2 = ⟨#[61, 61]⟩ := by rw [HOP.out, if_pos hE1]
          have hle := tkB_le hE1 (by decide)
          simp only [List.length_cons, List.length_nil] at hle
          have HCF : Hid (condF s.data.toList k2 = withO 3 (oneF s.data.toList (skp s.data.toList (k2 + 2)))) := by
            show _ = _
            unfold condF
            rw [hO, if_neg (by decide), if_neg (by decide), if_pos rfl]
          clear hO HOP he1 he2
          have e1 := R5.db.c1
          go_wp2_with fail
          refine (CP.out _ _ R5).mono ?_
          rintro e w5 ⟨rfl, q6'⟩
          have q6 := q5.trans q6'
          have R6 := (KA.out _ _ _ q6).1
          clear q6' q5 R5 e1
          generalize (⟨(plnT s.data.toList k2).toArray⟩ : ByteArray) = PW at *
          have CEEk := CEE.out _ _ R6
          rw [hE1] at CEEk
          have CEEk := hmk CEEk
          go_wp2_with fail
          refine CEEk.out.mono ?_
          rintro e w6 ⟨rfl, q7'⟩
          have q7 := q6.trans q7'
          have R7 := (KA.out _ _ _ q7).1
          clear q7' q6 R6 CEEk
          have e1 := R7.db.c1
          have f1 := R7.db.fz 1
          have qa := q7.put1 (k2 + 2) ((k2 : Int) + 2) (by omega) (by omega)
          have Ra := (KA.out _ _ _ qa).1
          go_wp2_with fail
          refine (CV.out _ _ Ra).mono ?_
          rintro e wb (⟨y, k3, hy, rfl, hy64, qb'⟩ | ⟨hy, rfl, k3, qb'⟩)
          · have qb := qa.trans qb'
            obtain ⟨Rb, Nb⟩ := KA.out _ _ _ qb
            have HX : Hid (RES = (some (x, 3, [y]), k3)) := by
              show _ = _
              have ho : oneF s.data.toList (skp s.data.toList (k2 + 2)) = (some [y], k3) := by unfold oneF; rw [hy]
              have hc : condF s.data.toList k2 = (some (3, [y]), k3) := by rw [HCF.out, ho]; rfl
              rw [HCO.out (3, [y]) (by rw [hc]), hc]
            clear hy qb' qb qa Ra e1 f1
            have hbz := block_ltN Nb
            have bn : Below wb.heap.size wb (wb.alloc (.cells #[.string y] 9)) := (Below.refl _ _).alloc (Nat.le_refl _) _
            have Nn := (bn.block _ hbz).trans Nb
            have z0 : (wb.alloc (.cells #[.string y] 9)).cell? ⟨w.heap.size, 0, none⟩ = some (.string ⟨#[]⟩) := cell_of_block Nn 0
            have z1 : (wb.alloc (.cells #[.string y] 9)).cell? ⟨w.heap.size, 1, none⟩ = some (.int .i64 0) := cell_of_block Nn 1
            have z2 : (wb.alloc (.cells #[.string y] 9)).cell? ⟨w.heap.size, 2, none⟩ = some (.slice none 0 0) := cell_of_block Nn 2
            have kf : ∀ ii, (wb.alloc (.cells #[.string y] 9)).frozen? ⟨w.heap.size, ii, none⟩ = false := frozen_of_block Nn
            have RF := hmk ((Rb.below bn).box3 (Nat.le_refl _) hlt (.string x) (.int .i64 3) (.slice (some ⟨wb.heap.size, 0, none⟩) 1 1))
            have HLF := hmk (fin_list hbz (one_new (wb := wb) hy64) (.string x) (.int .i64 3) (.slice (some ⟨wb.heap.size, 0, none⟩) 1 1))
            clear Nn bn Nb Rb hbz
            go_wp2_with fail
            (try simp only [Exit.inBlock, Exit.then])
            refine bodyPost_ret (v := .agg #[.string x, .int .i64 3, .slice (some ⟨wb.heap.size, 0, none⟩) 1 1]) ?_ rfl (.inl ⟨x, 3, [y], _, 1, wb.heap.size, 0, by rw [HX.out], rfl, hx64, head_one _, HLF.out, by omega, by omega, by rw [HX.out]; exact RF.out⟩)
            rw [results_cell1 rfl]
            go_simp
          · have qb := qa.trans qb'
            obtain ⟨Rb, Nb⟩ := KA.out _ _ _ qb
            have HX : Hid (RES = (none, skp s.data.toList (k2 + 2))) := by
              show _ = _
              have ho : oneF s.data.toList (skp s.data.toList (k2 + 2)) = (none, skp s.data.toList (k2 + 2)) := by unfold oneF; rw [hy]
              have hc : condF s.data.toList k2 = (none, skp s.data.toList (k2 + 2)) := by rw [HCF.out, ho]; rfl
              rw [HCN.out (by rw [hc]), hc]
            clear hy qb' qb qa Ra e1 f1
            have hbz := block_ltN Nb
            have bn : Below wb.heap.size wb (wb.alloc (.cells #[.string ⟨#[]⟩] 9)) := (Below.refl _ _).alloc (Nat.le_refl _) _
            have Nn := (bn.block _ hbz).trans Nb
            have z0 : (wb.alloc (.cells #[.string ⟨#[]⟩] 9)).cell? ⟨w.heap.size, 0, none⟩ = some (.string ⟨#[]⟩) := cell_of_block Nn 0
            have z1 : (wb.alloc (.cells #[.string ⟨#[]⟩] 9)).cell? ⟨w.heap.size, 1, none⟩ = some (.int .i64 0) := cell_of_block Nn 1
            have z2 : (wb.alloc (.cells #[.string ⟨#[]⟩] 9)).cell? ⟨w.heap.size, 2, none⟩ = some (.slice none 0 0) := cell_of_block Nn 2
            have kf : ∀ ii, (wb.alloc (.cells #[.string ⟨#[]⟩] 9)).frozen? ⟨w.heap.size, ii, none⟩ = false := frozen_of_block Nn
            have RF := hmk ((Rb.below bn).box3 (Nat.le_refl _) hlt (.string x) (.int .i64 3) (.slice (some ⟨wb.heap.size, 0, none⟩) 1 1))
            clear Nn bn Nb Rb hbz
            go_wp2_with fail
            (try simp only [Exit.inBlock, Exit.then])
            refine bodyPost_ret (v := .agg #[.string x, .int .i64 3, .slice (some ⟨wb.heap.size, 0, none⟩) 1 1]) ?_ rfl (.inr ⟨by rw [HX.out], _, _, _, _, _, rfl, _, by rw [HX.out]; exact RF.out⟩)
            rw [results_cell1 rfl]
            go_simp
        | false =>
          have hO : opS s.data.toList k2 = ⟨#[61]⟩ := by rw [HOP.out, if_neg (by rw [hE1]; decide), if_pos hE3]
          have hle := tkB_le hE3 (by decide)
          simp only [List.length_cons, List.length_nil] at hle
          have HCF : Hid (condF s.data.toList k2 = withO 3 (oneF s.data.toList (skp s.data.toList (k2 + 1)))) := by
            show _ = _
            unfold condF
            rw [hO, if_neg (by decide), if_pos rfl]
          clear hO HOP he1 he2
          have e1 := R5.db.c1
          go_wp2_with fail
          refine (CP.out _ _ R5).mono ?_
          rintro e w5 ⟨rfl, q6'⟩
          have q6 := q5.trans q6'
          have R6 := (KA.out _ _ _ q6).1
          clear q6' q5 R5 e1
          generalize (⟨(plnT s.data.toList k2).toArray⟩ : ByteArray) = PW at *
          have CEEk := CEE.out _ _ R6
          rw [hE1] at CEEk
          have CEEk := hmk CEEk
          go_wp2_with fail
          refine CEEk.out.mono ?_
          rintro e w6 ⟨rfl, q7'⟩
          have q7 := q6.trans q7'
          have R7 := (KA.out _ _ _ q7).1
          clear q7' q6 R6 CEEk
          have CNEk := CNE.out _ _ R7
          rw [ht2] at CNEk
          have CNEk := hmk CNEk
          go_wp2_with fail
          refine CNEk.out.mono ?_
          rintro e w7 ⟨rfl, q8'⟩
          have q8 := q7.trans q8'
          have R8 := (KA.out _ _ _ q8).1
          clear q8' q7 R7 CNEk
          have CEk := CE.out _ _ R8
          rw [hE3] at CEk
          have CEk := hmk CEk
          go_wp2_with fail
          refine CEk.out.mono ?_
          rintro e w8 ⟨rfl, q9'⟩
          have q9 := q8.trans q9'
          have R9 := (KA.out _ _ _ q9).1
          clear q9' q8 R8 CEk
          have e1 := R9.db.c1
          have f1 := R9.db.fz 1
          have qa := q9.put1 (k2 + 1) ((k2 : Int) + 1) (by omega) (by omega)
          have Ra := (KA.out _ _ _ qa).1
          go_wp2_with fail
          refine (CV.out _ _ Ra).mono ?_
          rintro e wb (⟨y, k3, hy, rfl, hy64, qb'⟩ | ⟨hy, rfl, k3, qb'⟩)
          · have qb := qa.trans qb'
            obtain ⟨Rb, Nb⟩ := KA.out _ _ _ qb
            have HX : Hid (RES = (some (x, 3, [y]), k3)) := by
              show _ = _
              have ho : oneF s.data.toList (skp s.data.toList (k2 + 1)) = (some [y], k3) := by unfold oneF; rw [hy]
              have hc : condF s.data.toList k2 = (some (3, [y]), k3) := by rw [HCF.out, ho]; rfl
              rw [HCO.out (3, [y]) (by rw [hc]), hc]
            clear hy qb' qb qa Ra e1 f1
            have hbz := block_ltN Nb
            have bn : Below wb.heap.size wb (wb.alloc (.cells #[.string y] 9)) := (Below.refl _ _).alloc (Nat.le_refl _) _
            have Nn := (bn.block _ hbz).trans Nb
            have z0 : (wb.alloc (.cells #[.string y] 9)).cell? ⟨w.heap.size, 0, none⟩ = some (.string ⟨#[]⟩) := cell_of_block Nn 0
            have z1 : (wb.alloc (.cells #[.string y] 9)).cell? ⟨w.heap.size, 1, none⟩ = some (.int .i64 0) := cell_of_block Nn 1
            have z2 : (wb.alloc (.cells #[.string y] 9)).cell? ⟨w.heap.size, 2, none⟩ = some (.slice none 0 0) := cell_of_block Nn 2
            have kf : ∀ ii, (wb.alloc (.cells #[.string y] 9)).frozen? ⟨w.heap.size, ii, none⟩ = false := frozen_of_block Nn
            have RF := hmk ((Rb.below bn).box3 (Nat.le_refl _) hlt (.string x) (.int .i64 3) (.slice (some ⟨wb.heap.size, 0, none⟩) 1 1))
            have HLF := hmk (fin_list hbz (one_new (wb := wb) hy64) (.string x) (.int .i64 3) (.slice (some ⟨wb.heap.size, 0, none⟩) 1 1))
            clear Nn bn Nb Rb hbz
            go_wp2_with fail
            (try simp only [Exit.inBlock, Exit.then])
            refine bodyPost_ret (v := .agg #[.string x, .int .i64 3, .slice (some ⟨wb.heap.size, 0, none⟩) 1 1]) ?_ rfl (.inl ⟨x, 3, [y], _, 1, wb.heap.size, 0, by rw [HX.out], rfl, hx64, head_one _, HLF.out, by omega, by omega, by rw [HX.out]; exact RF.out⟩)
            rw [results_cell1 rfl]
            go_simp
          · have qb := qa.trans qb'
            obtain ⟨Rb, Nb⟩ := KA.out _ _ _ qb
            have HX : Hid (RES = (none, skp s.data.toList (k2 + 1))) := by
              show _ = _
              have ho : oneF s.data.toList (skp s.data.toList (k2 + 1)) = (none, skp s.data.toList (k2 + 1)) := by unfold oneF; rw [hy]
              have hc : condF s.data.toList k2 = (none, skp s.data.toList (k2 + 1)) := by rw [HCF.out, ho]; rfl
              rw [HCN.out (by rw [hc]), hc]
            clear hy qb' qb qa Ra e1 f1
            have hbz := block_ltN Nb
            have bn : Below wb.heap.size wb (wb.alloc (.cells #[.string ⟨#[]⟩] 9)) := (Below.refl _ _).alloc (Nat.le_refl _) _
            have Nn := (bn.block _ hbz).trans Nb
            have z0 : (wb.alloc (.cells #[.string ⟨#[]⟩] 9)).cell? ⟨w.heap.size, 0, none⟩ = some (.string ⟨#[]⟩) := cell_of_block Nn 0
            have z1 : (wb.alloc (.cells #[.string ⟨#[]⟩] 9)).cell? ⟨w.heap.size, 1, none⟩ = some (.int .i64 0) := cell_of_block Nn 1
            have z2 : (wb.alloc (.cells #[.string ⟨#[]⟩] 9)).cell? ⟨w.heap.size, 2, none⟩ = some (.slice none 0 0) := cell_of_block Nn 2
            have kf : ∀ ii, (wb.alloc (.cells #[.string ⟨#[]⟩] 9)).frozen? ⟨w.heap.size, ii, none⟩ = false := frozen_of_block Nn
            have RF := hmk ((Rb.below bn).box3 (Nat.le_refl _) hlt (.string x) (.int .i64 3) (.slice (some ⟨wb.heap.size, 0, none⟩) 1 1))
            clear Nn bn Nb Rb hbz
            go_wp2_with fail
            (try simp only [Exit.inBlock, Exit.then])
            refine bodyPost_ret (v := .agg #[.string x, .int .i64 3, .slice (some ⟨wb.heap.size, 0, none⟩) 1 1]) ?_ rfl (.inr ⟨by rw [HX.out], _, _, _, _, _, rfl, _, by rw [HX.out]; exact RF.out⟩)
            rw [results_cell1 rfl]
            go_simp
      | false =>
        have hE1 : tkB s.data.toList k2 [61, 61] = false := by
          cases c : tkB s.data.toList k2 [61, 61] with
          | false => rfl
          | true => rw [he1 c] at hE3; cases hE3
        cases t2 with
        | true =>
          have hO : opS s.data.toList k2 = ⟨#[33, 61]⟩ := by rw [HOP.out, if_neg (by rw [hE1]; decide), if_neg (by rw [hE3]; decide), if_pos ht2]
          have hle := tkB_le ht2 (by decide)
          simp only [List.length_cons, List.length_nil] at hle
          have HCF : Hid (condF s.data.toList k2 = withO 4 (oneF s.data.toList (skp s.data.toList (k2 + 2)))) := by
            show _ = _
            unfold condF
            rw [hO, if_pos rfl]
          clear hO HOP he1 he2
          have e1 := R5.db.c1
          go_wp2_with fail
          refine (CP.out _ _ R5).mono ?_
          rintro e w5 ⟨rfl, q6'⟩
          have q6 := q5.trans q6'
          have R6 := (KA.out _ _ _ q6).1
          clear q6' q5 R5 e1
          generalize (⟨(plnT s.data.toList k2).toArray⟩ : ByteArray) = PW at *
          have CEEk := CEE.out _ _ R6
          rw [hE1] at CEEk
          have CEEk := hmk CEEk
          go_wp2_with fail
          refine CEEk.out.mono ?_
          rintro e w6 ⟨rfl, q7'⟩
          have q7 := q6.trans q7'
          have R7 := (KA.out _ _ _ q7).1
          clear q7' q6 R6 CEEk
          have CNEk := CNE.out _ _ R7
          rw [ht2] at CNEk
          have CNEk := hmk CNEk
          go_wp2_with fail
          refine CNEk.out.mono ?_
          rintro e w7 ⟨rfl, q8'⟩
          have q8 := q7.trans q8'
          have R8 := (KA.out _ _ _ q8).1
          clear q8' q7 R7 CNEk
          have e1 := R8.db.c1
          have f1 := R8.db.fz 1
          have qa := q8.put1 (k2 + 2) ((k2 : Int) + 2) (by omega) (by omega)
          have Ra := (KA.out _ _ _ qa).1
          go_wp2_with fail
          refine (CV.out _ _ Ra).mono ?_
          rintro e wb (⟨y, k3, hy, rfl, hy64, qb'⟩ | ⟨hy, rfl, k3, qb'⟩)
          · have qb := qa.trans qb'
            obtain ⟨Rb, Nb⟩ := KA.out _ _ _ qb
            have HX : Hid (RES = (some (x, 4, [y]), k3)) := by
              show _ = _
              have ho : oneF s.data.toList (skp s.data.toList (k2 + 2)) = (some [y], k3) := by unfold oneF; rw [hy]
              have hc : condF s.data.toList k2 = (some (4, [y]), k3) := by rw [HCF.out, ho]; rfl
              rw [HCO.out (4, [y]) (by rw [hc]), hc]
            clear hy qb' qb qa Ra e1 f1
            have hbz := block_ltN Nb
            have bn : Below wb.heap.size wb (wb.alloc (.cells #[.string y] 9)) := (Below.refl _ _).alloc (Nat.le_refl _) _
            have Nn := (bn.block _ hbz).trans Nb
            have z0 : (wb.alloc (.cells #[.string y] 9)).cell? ⟨w.heap.size, 0, none⟩ = some (.string ⟨#[]⟩) := cell_of_block Nn 0
            have z1 : (wb.alloc (.cells #[.string y] 9)).cell? ⟨w.heap.size, 1, none⟩ = some (.int .i64 0) := cell_of_block Nn 1
            have z2 : (wb.alloc (.cells #[.string y] 9)).cell? ⟨w.heap.size, 2, none⟩ = some (.slice none 0 0) := cell_of_block Nn 2
            have kf : ∀ ii, (wb.alloc (.cells #[.string y] 9)).frozen? ⟨w.heap.size, ii, none⟩ = false := frozen_of_block Nn
            have RF := hmk ((Rb.below bn).box3 (Nat.le_refl _) hlt (.string x) (.int .i64 4) (.slice (some ⟨wb.heap.size, 0, none⟩) 1 1))
            have HLF := hmk (fin_list hbz (one_new (wb := wb) hy64) (.string x) (.int .i64 4) (.slice (some ⟨wb.heap.size, 0, none⟩) 1 1))
            clear Nn bn Nb Rb hbz
            go_wp2_with fail
            (try simp only [Exit.inBlock, Exit.then])
            refine bodyPost_ret (v := .agg #[.string x, .int .i64 4, .slice (some ⟨wb.heap.size, 0, none⟩) 1 1]) ?_ rfl (.inl ⟨x, 4, [y], _, 1, wb.heap.size, 0, by rw [HX.out], rfl, hx64, head_one _, HLF.out, by omega, by omega, by rw [HX.out]; exact RF.out⟩)
            rw [results_cell1 rfl]
            go_simp
          · have qb := qa.trans qb'
            obtain ⟨Rb, Nb⟩ := KA.out _ _ _ qb
            have HX : Hid (RES = (none, skp s.data.toList (k2 + 2))) := by
              show _ = _
              have ho : oneF s.data.toList (skp s.data.toList (k2 + 2)) = (none, skp s.data.toList (k2 + 2)) := by unfold oneF; rw [hy]
              have hc : condF s.data.toList k2 = (none, skp s.data.toList (k2 + 2)) := by rw [HCF.out, ho]; rfl
              rw [HCN.out (by rw [hc]), hc]
            clear hy qb' qb qa Ra e1 f1
            have hbz := block_ltN Nb
            have bn : Below wb.heap.size wb (wb.alloc (.cells #[.string ⟨#[]⟩] 9)) := (Below.refl _ _).alloc (Nat.le_refl _) _
            have Nn := (bn.block _ hbz).trans Nb
            have z0 : (wb.alloc (.cells #[.string ⟨#[]⟩] 9)).cell? ⟨w.heap.size, 0, none⟩ = some (.string ⟨#[]⟩) := cell_of_block Nn 0
            have z1 : (wb.alloc (.cells #[.string ⟨#[]⟩] 9)).cell? ⟨w.heap.size, 1, none⟩ = some (.int .i64 0) := cell_of_block Nn 1
            have z2 : (wb.alloc (.cells #[.string ⟨#[]⟩] 9)).cell? ⟨w.heap.size, 2, none⟩ = some (.slice none 0 0) := cell_of_block Nn 2
            have kf : ∀ ii, (wb.alloc (.cells #[.string ⟨#[]⟩] 9)).frozen? ⟨w.heap.size, ii, none⟩ = false := frozen_of_block Nn
            have RF := hmk ((Rb.below bn).box3 (Nat.le_refl _) hlt (.string x) (.int .i64 4) (.slice (some ⟨wb.heap.size, 0, none⟩) 1 1))
            clear Nn bn Nb Rb hbz
            go_wp2_with fail
            (try simp only [Exit.inBlock, Exit.then])
            refine bodyPost_ret (v := .agg #[.string x, .int .i64 4, .slice (some ⟨wb.heap.size, 0, none⟩) 1 1]) ?_ rfl (.inr ⟨by rw [HX.out], _, _, _, _, _, rfl, _, by rw [HX.out]; exact RF.out⟩)
            rw [results_cell1 rfl]
            go_simp
        | false =>
          have hO : opS s.data.toList k2 = ⟨(plnT s.data.toList k2).toArray⟩ := by rw [HOP.out, if_neg (by rw [hE1]; decide), if_neg (by rw [hE3]; decide), if_neg (by rw [ht2]; decide)]
          have HOW := hmk hO
          clear hO HOP he1 he2
          have e1 := R5.db.c1
          go_wp2_with fail
          refine (CP.out _ _ R5).mono ?_
          rintro e w5 ⟨rfl, q6'⟩
          have q6 := q5.trans q6'
          have R6 := (KA.out _ _ _ q6).1
          clear q6' q5 R5 e1
          obtain ⟨PW, hPW⟩ : ∃ PW, PW = (⟨(plnT s.data.toList k2).toArray⟩ : ByteArray) := ⟨_, rfl⟩
          have HPW : Hid (opS s.data.toList k2 = PW) := by show _ = _; rw [hPW]; exact HOW.out
          rw [← hPW]
          clear hPW HOW
          have CEEk := CEE.out _ _ R6
          rw [hE1] at CEEk
          have CEEk := hmk CEEk
          go_wp2_with fail
          refine CEEk.out.mono ?_
          rintro e w6 ⟨rfl, q7'⟩
          have q7 := q6.trans q7'
          have R7 := (KA.out _ _ _ q7).1
          clear q7' q6 R6 CEEk
          have CNEk := CNE.out _ _ R7
          rw [ht2] at CNEk
          have CNEk := hmk CNEk
          go_wp2_with fail
          refine CNEk.out.mono ?_
          rintro e w7 ⟨rfl, q8'⟩
          have q8 := q7.trans q8'
          have R8 := (KA.out _ _ _ q8).1
          clear q8' q7 R7 CNEk
          have CEk := CE.out _ _ R8
          rw [hE3] at CEk
          have CEk := hmk CEk
          go_wp2_with fail
          refine CEk.out.mono ?_
          rintro e w8 ⟨rfl, q9'⟩
          have q9 := q8.trans q9'
          have R9 := (KA.out _ _ _ q9).1
          clear q9' q8 R8 CEk
          have e1 := R9.db.c1
          have f1 := R9.db.fz 1
          by_cases hin : PW = ⟨#[105, 110]⟩
          · subst hin
            have hle := tkB_le (op_tk (p := [105, 110]) HPW.out) (by decide)
            simp only [List.length_cons, List.length_nil] at hle
            have HCF : Hid (condF s.data.toList k2 = withO 3 (manyF s.data.toList (skp s.data.toList (k2 + 2)))) := by
              show _ = _
              unfold condF
              rw [HPW.out, if_neg (by decide), if_neg (by decide), if_neg (by decide), if_neg (by decide), if_pos rfl]
            have qa := q9.put1 (k2 + 2) ((k2 : Int) + 2) (by omega) (by omega)
            have Ra := (KA.out _ _ _ qa).1
            have haz := qa.gr.size
            rw [alloc_size] at haz
            go_wp2_with fail
            refine (CL.out _ _ Ra).mono ?_
            rintro e wb (⟨vs, a, c, b, o, hy, rfl, hh, hl, qb'⟩ | ⟨hy, rfl, k3, qb'⟩)
            · have qb := qa.trans qb'
              obtain ⟨Rb, Nb⟩ := KA.out _ _ _ qb
              have HX : Hid (RES = (some (x, 3, vs), (manyF s.data.toList (skp s.data.toList (k2 + 2))).2)) := by
                show _ = _
                have hc : (condF s.data.toList k2).1 = some (3, vs) := by rw [HCF.out]; unfold withO; rw [hy]
                rw [HCO.out (3, vs) hc, HCF.out, withO_two]
              generalize (manyF s.data.toList (skp s.data.toList (k2 + 2))).2 = k3 at *
              have z0 : wb.cell? ⟨w.heap.size, 0, none⟩ = some (.string ⟨#[]⟩) := cell_of_block Nb 0
              have z1 : wb.cell? ⟨w.heap.size, 1, none⟩ = some (.int .i64 0) := cell_of_block Nb 1
              have z2 : wb.cell? ⟨w.heap.size, 2, none⟩ = some (.slice none 0 0) := cell_of_block Nb 2
              have kf : ∀ ii, wb.frozen? ⟨w.heap.size, ii, none⟩ = false := frozen_of_block Nb
              have RF := hmk (Rb.box3 (Nat.le_refl _) hlt (.string x) (.int .i64 3) (.slice a vs.length c))
              have HLF := hmk (fin_list (w := w) (by omega) hl (.string x) (.int .i64 3) (.slice a vs.length c))
              clear hy qb' qb qa Ra e1 f1 Nb Rb hl
              go_wp2_with fail
              (try simp only [Exit.inBlock, Exit.then])
              refine bodyPost_ret (v := .agg #[.string x, .int .i64 3, .slice a vs.length c]) ?_ rfl (.inl ⟨x, 3, vs, a, c, b, o, by rw [HX.out], rfl, hx64, hh, HLF.out, by omega, by omega, by rw [HX.out]; exact RF.out⟩)
              rw [results_cell1 rfl]
              go_simp
            · have qb := qa.trans qb'
              obtain ⟨Rb, Nb⟩ := KA.out _ _ _ qb
              have HX : Hid (RES = (none, (manyF s.data.toList (skp s.data.toList (k2 + 2))).2)) := by
                show _ = _
                have hc : (condF s.data.toList k2).1 = none := by rw [HCF.out]; unfold withO; rw [hy]
                rw [HCN.out hc, HCF.out, withO_two]
              generalize (manyF s.data.toList (skp s.data.toList (k2 + 2))).2 = k3x at *
              have z0 : wb.cell? ⟨w.heap.size, 0, none⟩ = some (.string ⟨#[]⟩) := cell_of_block Nb 0
              have z1 : wb.cell? ⟨w.heap.size, 1, none⟩ = some (.int .i64 0) := cell_of_block Nb 1
              have z2 : wb.cell? ⟨w.heap.size, 2, none⟩ = some (.slice none 0 0) := cell_of_block Nb 2
              have kf : ∀ ii, wb.frozen? ⟨w.heap.size, ii, none⟩ = false := frozen_of_block Nb
              have RF := hmk (Rb.box3 (Nat.le_refl _) hlt (.string x) (.int .i64 3) (.slice none 0 0))
              clear hy qb' qb qa Ra e1 f1 Nb Rb
              go_wp2_with fail
              (try simp only [Exit.inBlock, Exit.then])
              refine bodyPost_ret (v := .agg #[.string x, .int .i64 3, .slice none 0 0]) ?_ rfl (.inr ⟨by rw [HX.out], _, _, _, _, _, rfl, _, by rw [HX.out]; exact RF.out⟩)
              rw [results_cell1 rfl]
              go_simp
          · have ein : (PW.toList == [105, 110]) = false := by
              rw [beq_eq_false_iff_ne]
              intro c
              exact hin (bytes_ext9 (c.trans (by rw [ByteArray.toList_eq])))
            by_cases hno : PW = ⟨#[110, 111, 116, 105, 110]⟩
            · subst hno
              have hle := tkB_le (op_tk (p := [110, 111, 116, 105, 110]) HPW.out) (by decide)
              simp only [List.length_cons, List.length_nil] at hle
              have HCF : Hid (condF s.data.toList k2 = withO 4 (manyF s.data.toList (skp s.data.toList (k2 + 5)))) := by
                show _ = _
                unfold condF
                rw [HPW.out, if_neg (by decide), if_neg (by decide), if_neg (by decide), if_pos rfl]
              have qa := q9.put1 (k2 + 5) ((k2 : Int) + 5) (by omega) (by omega)
              have Ra := (KA.out _ _ _ qa).1
              have haz := qa.gr.size
              rw [alloc_size] at haz
              go_wp2_with fail
              refine (CL.out _ _ Ra).mono ?_
              rintro e wb (⟨vs, a, c, b, o, hy, rfl, hh, hl, qb'⟩ | ⟨hy, rfl, k3, qb'⟩)
              · have qb := qa.trans qb'
                obtain ⟨Rb, Nb⟩ := KA.out _ _ _ qb
                have HX : Hid (RES = (some (x, 4, vs), (manyF s.data.toList (skp s.data.toList (k2 + 5))).2)) := by
                  show _ = _
                  have hc : (condF s.data.toList k2).1 = some (4, vs) := by rw [HCF.out]; unfold withO; rw [hy]
                  rw [HCO.out (4, vs) hc, HCF.out, withO_two]
                generalize (manyF s.data.toList (skp s.data.toList (k2 + 5))).2 = k3 at *
                have z0 : wb.cell? ⟨w.heap.size, 0, none⟩ = some (.string ⟨#[]⟩) := cell_of_block Nb 0
                have z1 : wb.cell? ⟨w.heap.size, 1, none⟩ = some (.int .i64 0) := cell_of_block Nb 1
                have z2 : wb.cell? ⟨w.heap.size, 2, none⟩ = some (.slice none 0 0) := cell_of_block Nb 2
                have kf : ∀ ii, wb.frozen? ⟨w.heap.size, ii, none⟩ = false := frozen_of_block Nb
                have RF := hmk (Rb.box3 (Nat.le_refl _) hlt (.string x) (.int .i64 4) (.slice a vs.length c))
                have HLF := hmk (fin_list (w := w) (by omega) hl (.string x) (.int .i64 4) (.slice a vs.length c))
                clear hy qb' qb qa Ra e1 f1 Nb Rb hl
                go_wp2_with fail
                (try simp only [Exit.inBlock, Exit.then])
                refine bodyPost_ret (v := .agg #[.string x, .int .i64 4, .slice a vs.length c]) ?_ rfl (.inl ⟨x, 4, vs, a, c, b, o, by rw [HX.out], rfl, hx64, hh, HLF.out, by omega, by omega, by rw [HX.out]; exact RF.out⟩)
                rw [results_cell1 rfl]
                go_simp
              · have qb := qa.trans qb'
                obtain ⟨Rb, Nb⟩ := KA.out _ _ _ qb
                have HX : Hid (RES = (none, (manyF s.data.toList (skp s.data.toList (k2 + 5))).2)) := by
                  show _ = _
                  have hc : (condF s.data.toList k2).1 = none := by rw [HCF.out]; unfold withO; rw [hy]
                  rw [HCN.out hc, HCF.out, withO_two]
                generalize (manyF s.data.toList (skp s.data.toList (k2 + 5))).2 = k3x at *
                have z0 : wb.cell? ⟨w.heap.size, 0, none⟩ = some (.string ⟨#[]⟩) := cell_of_block Nb 0
                have z1 : wb.cell? ⟨w.heap.size, 1, none⟩ = some (.int .i64 0) := cell_of_block Nb 1
                have z2 : wb.cell? ⟨w.heap.size, 2, none⟩ = some (.slice none 0 0) := cell_of_block Nb 2
                have kf : ∀ ii, wb.frozen? ⟨w.heap.size, ii, none⟩ = false := frozen_of_block Nb
                have RF := hmk (Rb.box3 (Nat.le_refl _) hlt (.string x) (.int .i64 4) (.slice none 0 0))
                clear hy qb' qb qa Ra e1 f1 Nb Rb
                go_wp2_with fail
                (try simp only [Exit.inBlock, Exit.then])
                refine bodyPost_ret (v := .agg #[.string x, .int .i64 4, .slice none 0 0]) ?_ rfl (.inr ⟨by rw [HX.out], _, _, _, _, _, rfl, _, by rw [HX.out]; exact RF.out⟩)
                rw [results_cell1 rfl]
                go_simp
            · have eno : (PW.toList == [110, 111, 116, 105, 110]) = false := by
                rw [beq_eq_false_iff_ne]
                intro c
                exact hno (bytes_ext9 (c.trans (by rw [ByteArray.toList_eq])))
              have HX : Hid (RES = (some (x, 1, []), k2)) := by
                show _ = _
                have hop : ∀ p : List UInt8, p ≠ [] → tkB s.data.toList k2 p = false → PW ≠ ⟨p.toArray⟩ := fun p hp ht c => by
                  have := op_tk (p := p) (HPW.out.trans c)
                  rw [this] at ht
                  cases ht
                have hc : condF s.data.toList k2 = (some (1, []), k2) := by
                  unfold condF
                  rw [HPW.out, if_neg (hop [33, 61] (by simp) ht2), if_neg (hop [61] (by simp) hE3), if_neg (hop [61, 61] (by simp) hE1), if_neg hno, if_neg hin]
                rw [HCO.out (1, []) (by rw [hc]), hc]
              obtain ⟨Rb, Nb⟩ := KA.out _ _ _ q9
              have z0 : w8.cell? ⟨w.heap.size, 0, none⟩ = some (.string ⟨#[]⟩) := cell_of_block Nb 0
              have z1 : w8.cell? ⟨w.heap.size, 1, none⟩ = some (.int .i64 0) := cell_of_block Nb 1
              have z2 : w8.cell? ⟨w.heap.size, 2, none⟩ = some (.slice none 0 0) := cell_of_block Nb 2
              have kf : ∀ ii, w8.frozen? ⟨w.heap.size, ii, none⟩ = false := frozen_of_block Nb
              have RF := hmk (Rb.box3 (Nat.le_refl _) hlt (.string x) (.int .i64 1) (.slice none 0 0))
              clear Nb Rb q9 R9
              go_wp2_with fail
              (try simp only [Exit.inBlock, Exit.then])
              refine bodyPost_ret (v := .agg #[.string x, .int .i64 1, .slice none 0 0]) ?_ rfl (.inl ⟨x, 1, [], none, 0, 0, 0, by rw [HX.out], rfl, hx64, head_nilS, fun j hj => by simp at hj, by omega, by omega, by rw [HX.out]; exact RF.out⟩)
              rw [results_cell1 rfl]
              go_simp
end Go.Proofs.YtolekldjbbjmjaaGreatDoor
