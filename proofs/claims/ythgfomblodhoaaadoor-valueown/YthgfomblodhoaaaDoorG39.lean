/- joined: SrwX AwkA -/
import Derived.Test.YthgfomblodhoaaaDoorG28
import Derived.Test.YthgfomblodhoaaaDoorG27
/- freeholdlaw05.sameRow. -/
set_option linter.unusedSimpArgs false
set_option linter.unusedVariables false
namespace Go.Proofs.YthgfomblodhoaaaDoor
open Go.RowKit Go.Lib
def rowB (l l' : List V) : Bool := decide (l.length = l'.length) && eqL l l'
theorem rowB_refl (l : List V) : rowB l l = true := by rw [rowB, eqL_refl]; simp
set_option maxHeartbeats 4000000 in
set_option maxRecDepth 100000 in
theorem samerow_any (l l' : List V) (R R' : Bool) (S S' : Nat → Prop) (al al' : Option Addr) (cl bl ol cl' bl' ol' : Nat) (w : World) (hal : Headed al l.length cl bl ol) (hal' : Headed al' l'.length cl' bl' ol') (hl : liesL R w S l bl ol) (hl' : liesL R' w S' l' bl' ol') (hS : ∀ x, S x → x < w.heap.size) (hS' : ∀ x, S' x → x < w.heap.size) :
    Calls Tryd.prog 22 #[.slice al l.length cl, .slice al' l'.length cl'] w (BPost (rowB l l') w) := by
  have HL : Hid (liesL R w S l bl ol) := hl
  have HL' : Hid (liesL R' w S' l' bl' ol') := hl'
  clear hl hl'
  have hll : l.length ≤ 9223372036854775807 := Nat.le_trans hal.le hal.max
  have hll' : l'.length ≤ 9223372036854775807 := Nat.le_trans hal'.le hal'.max
  by_cases h5 : l.length = l'.length
  rotate_left
  · have HF : Hid (rowB l l' = false) := by show _ = _; rw [rowB, decide_eq_false h5]; rfl
    have y5 : ((l.length : Int) != (l'.length : Int)) = true := by rw [bne_iff_ne]; omega
    have y5' : ¬ (l.length : Int) = l'.length := by omega
    go_enter Tryd.func22, Tryd.ntmps22
    go_wp2_with fail
    go_ret
    exact ⟨by rw [HF.out]; rfl, Below.refl _ _⟩
  have HE : Hid (rowB l l' = eqL l l') := by show _ = _; rw [rowB, decide_eq_true h5]; rfl
  generalize rowB l l' = RR at *
  have y5 : ((l.length : Int) != (l'.length : Int)) = false := by rw [bne_eq_false_iff_eq]; omega
  have H5 : Hid (l.length = l'.length) := h5
  have y5' : (l.length : Int) = l'.length := by omega
  clear h5
  go_enter Tryd.func22, Tryd.ntmps22
  go_wp2_with fail
  go_loopw [5] (fun e wr => ∃ j : Nat, j ≤ l.length ∧ e = .int .i64 (j : Int) ∧ Below w.heap.size w wr ∧ Hid (eqL l l' = eqL (l.drop j) (l'.drop j))) (fun e _ => l.length - (RowKit.intOf e).toNat)
  case atStart => exact ⟨0, by omega, rfl, Below.refl _ _, rfl⟩
  case round =>
    obtain ⟨j, hj, rfl, bj, HJ⟩ := hrel
    by_cases hjl : j < l.length
    · have y1 : (j : Int) < l.length := by omega
      have hjl' : j < l'.length := by have := H5.out; omega
      have y2 : (j : Int) < l'.length := by omega
      obtain ⟨hSb, csj, hrow, hlj⟩ := liesL_get HL.out j hjl
      obtain ⟨hSb', dsj, hrow', hlj'⟩ := liesL_get HL'.out j hjl'
      obtain rfl : al = some ⟨bl, ol, none⟩ := hal.at_.resolve_left (by omega)
      obtain rfl : al' = some ⟨bl', ol', none⟩ := hal'.at_.resolve_left (by omega)
      have hk0 : ∀ x, S x → wr.heap[x]? = w.heap[x]? := fun x hx => bj.block x (hS x hx)
      have hk1 : ∀ x, S' x → wr.heap[x]? = w.heap[x]? := fun x hx => bj.block x (hS' x hx)
      obtain ⟨ek, eb, ei, es, eal, enl, ecl, eam, enm, ecm, rfl⟩ := V.ten hlj
      obtain ⟨ek', eb', ei', es', eal', enl', ecl', eam', enm', ecm', rfl⟩ := V.ten hlj'
      have rw0 := row6 (hrow.keep (hk0 _ hSb))
      have rw1 := row6 (hrow'.keep (hk1 _ hSb'))
      have hbl : bl < wr.heap.size := World.block_lt_of_cell? wr _ rw0.1
      have hbl' : bl' < wr.heap.size := World.block_lt_of_cell? wr _ rw1.1
      have hzr := bj.size
      have p0 : ∀ x : Sub wr.heap.size wr, _ := sub_cell rw0.1 hbl
      have p1 : ∀ x : Sub wr.heap.size wr, _ := sub_cell rw0.2.1 hbl
      have p2 : ∀ x : Sub wr.heap.size wr, _ := sub_cell rw0.2.2.1 hbl
      have p3 : ∀ x : Sub wr.heap.size wr, _ := sub_cell rw0.2.2.2.1 hbl
      have p4 : ∀ x : Sub wr.heap.size wr, _ := sub_cell rw0.2.2.2.2.1 hbl
      have p5 : ∀ x : Sub wr.heap.size wr, _ := sub_cell rw0.2.2.2.2.2 hbl
      have q0 : ∀ x : Sub wr.heap.size wr, _ := sub_cell rw1.1 hbl'
      have q1 : ∀ x : Sub wr.heap.size wr, _ := sub_cell rw1.2.1 hbl'
      have q2 : ∀ x : Sub wr.heap.size wr, _ := sub_cell rw1.2.2.1 hbl'
      have q3 : ∀ x : Sub wr.heap.size wr, _ := sub_cell rw1.2.2.2.1 hbl'
      have q4 : ∀ x : Sub wr.heap.size wr, _ := sub_cell rw1.2.2.2.2.1 hbl'
      have q5 : ∀ x : Sub wr.heap.size wr, _ := sub_cell rw1.2.2.2.2.2 hbl'
      have CI : Hid (∀ x : Sub wr.heap.size wr, Calls Tryd.prog 13 #[.agg #[.int .i64 ek, .bool eb, .int .i64 ei, .string es, .slice eal enl ecl, .slice eam enm ecm], .agg #[.int .i64 ek', .bool eb', .int .i64 ei', .string es', .slice eal' enl' ecl', .slice eam' enm' ecm']] x.w fun e w'' => e = .returned (.bool (V.eqB l[j] l'[j])) ∧ ∃ y : Sub wr.heap.size wr, w'' = y.w) :=
        sub_call fun w' hb => by
          refine (same_any l[j] R R' l'[j] S S' _ _ w' (V.lies_keep (fun h => h) (fun x hx => (hb.block x (by have := hS x hx; omega)).trans (hk0 x hx)) (fun _ h => h) _ hlj) (V.lies_keep (fun h => h) (fun x hx => (hb.block x (by have := hS' x hx; omega)).trans (hk1 x hx)) (fun _ h => h) _ hlj') (fun x hx => by have := hS x hx; have := hb.size; omega) (fun x hx => by have := hS' x hx; have := hb.size; omega)).mono ?_
          rintro e w'' ⟨he, h2⟩
          exact ⟨he, hb.trans (h2.mono hb.size)⟩
      have HD : Hid (eqL l l' = (V.eqB l[j] l'[j] && eqL (l.drop (j + 1)) (l'.drop (j + 1)))) := by show _ = _; rw [HJ.out, eqL_drop H5.out hjl]
      generalize V.eqB l[j] l'[j] = Z at *
      clear hlj hlj' hrow hrow' rw0 rw1 HJ hk0 hk1
      go_wp2_with fail
      refine wp_region_sub wr.heap.size (by kernel_rfl) (by kernel_rfl) ?_
      repeat (go_big_quiet_step (exact CI.out _))
      refine wpQuiet_nil ?_
      rintro _ ⟨⟨wq, bq⟩, rfl⟩
      cases Z
      · have HF : Hid (RR = false) := by show _ = _; rw [HE.out, HD.out]; rfl
        go_wp2_with fail
        go_ret
        exact ⟨by rw [HF.out]; rfl, bj.trans (bq.mono hzr)⟩
      · have HF : Hid (eqL l l' = eqL (l.drop (j + 1)) (l'.drop (j + 1))) := by show _ = _; rw [HD.out]; rfl
        go_wp2_with fail
        go_roundw
        case rel => exact ⟨j + 1, by omega, by go_num, bj.trans (bq.mono hzr), HF⟩
        case measure => simp [RowKit.intOf]; omega
    · obtain rfl : j = l.length := by omega
      have y1 : ¬ (l.length : Int) < l.length := by omega
      have HF : Hid (RR = true) := by
        show _ = _
        rw [HE.out, HJ.out, List.drop_length, H5.out, List.drop_length]
        simp [eqL]
      clear HJ HE
      go_wp2_with fail
      go_ret
      exact ⟨by rw [HF.out]; rfl, bj⟩
end Go.Proofs.YthgfomblodhoaaaDoor
/- the law's awake. -/
namespace Go.Proofs.YthgfomblodhoaaaDoor
open Go.RowKit Go.Lib
def wkB : Mem := (⟨#[98]⟩, V.mk 2 false 1 ⟨#[]⟩ [] [])
def wkA : Mem := (⟨#[97]⟩, V.mk 4 false 0 ⟨#[]⟩ [] [])
def wkV : V := V.mk 5 false 0 ⟨#[]⟩ [] [wkA, wkB]
theorem wk_okB : okV wkB.2 = true := by decide +kernel
theorem wk_okA : okV wkA.2 = true := by decide +kernel
theorem wk_ok : okV wkV = true := by decide +kernel
theorem wk_map : mapE [wkA, wkB] = 0 := by decide +kernel
theorem wk_n : sizN wkV = 3 := by decide +kernel
theorem wk_d : sizD wkV = 1 := by decide +kernel
theorem wk_c : cmpV wkB.2 wkV = -1 := by decide +kernel
theorem wk_e : chkE wkV 0 = 21 := by decide +kernel
theorem wk_get : getV wkV ⟨#[98]⟩ = (wkB.2, true) := by
  have hp : posF [wkA, wkB] ⟨#[98]⟩ = 1 := by decide +kernel
  have hk : keyIs ⟨#[98]⟩ ([wkA, wkB] : List Mem)[1]? = true := by decide +kernel
  rw [getV, if_pos wk_ok]
  show atKey [wkA, wkB] ⟨#[98]⟩ = _
  rw [atKey, hp, if_pos hk]
  rfl
theorem wk_lt : ltB wkA.1 wkB.1 = true := by decide +kernel
theorem wk_two {l' : List Mem} (h : l'.Perm [wkB, wkA]) (hs : Wkl l') : l' = [wkA, wkB] := by
  have hlen := h.length_eq
  match l', hlen with
  | [x, y], _ =>
    rw [Wkl, List.pairwise_cons] at hs
    have h1 := hs.1 y (by simp)
    have hx : x ∈ [wkB, wkA] := h.mem_iff.1 (by simp)
    have hy : wkA ∈ [x, y] := h.mem_iff.2 (by simp)
    have hz : wkB ∈ [x, y] := h.mem_iff.2 (by simp)
    simp only [List.mem_cons, List.not_mem_nil, or_false] at hx hy hz
    have hne : ¬ wkA = wkB := fun e => by have := wk_lt; rw [e, ltB_irr] at this; cases this
    rcases hx with rfl | rfl
    · rcases hy with e | rfl
      · exact absurd e hne
      · rw [wk_lt] at h1; cases h1
    · rcases hz with e | rfl
      · exact absurd e.symm hne
      · rfl
theorem num_any (z : Int) (W : World) : Calls Tryd.prog 12 #[.int .i64 z] W (JPost z W) := by
  go_enter Tryd.func12, Tryd.ntmps12
  go_wp2_with fail
  go_ret
  exact ⟨rfl, Below.refl _ _⟩
theorem rowAt_left {w : World} {b o : Nat} {xs ys : List Value} (h : rowAt w b o (xs ++ ys)) : rowAt w b o xs := fun j u hu => h j u (by rw [List.getElem?_append_left (List.getElem?_eq_some_iff.1 hu).1]; exact hu)
theorem rowAt_right {w : World} {b o : Nat} {xs ys : List Value} (h : rowAt w b o (xs ++ ys)) : rowAt w b (o + xs.length) ys := fun j u hu => by
  have := h (xs.length + j) u (by rw [List.getElem?_append_right (by omega), Nat.add_sub_cancel_left]; exact hu)
  rwa [← Nat.add_assoc] at this
theorem leafB (W : World) (S : Nat → Prop) : wkB.2.lies false W S [.int .i64 2, .bool false, .int .i64 1, .string ⟨#[]⟩, .slice none 0 0, .slice none 0 0] := lies_S (by constructor <;> omega) (by constructor <;> omega) (by decide) headed_nil headed_nil (by rw [liesL]; trivial) (by rw [liesM]; trivial)
theorem leafA (W : World) (S : Nat → Prop) : wkA.2.lies false W S [.int .i64 4, .bool false, .int .i64 0, .string ⟨#[]⟩, .slice none 0 0, .slice none 0 0] := lies_S (by constructor <;> omega) (by constructor <;> omega) (by decide) headed_nil headed_nil (by rw [liesL]; trivial) (by rw [liesM]; trivial)
theorem wk_lies (w : World) : liesM false (w.alloc (.cells #[.string ⟨#[98]⟩, .int .i64 2, .bool false, .int .i64 1, .string ⟨#[]⟩, .slice none 0 0, .slice none 0 0, .string ⟨#[97]⟩, .int .i64 4, .bool false, .int .i64 0, .string ⟨#[]⟩, .slice none 0 0, .slice none 0 0] 38)) (fun x => x = w.heap.size) [wkB, wkA] w.heap.size 0 := by
  have h : rowAt (w.alloc (.cells #[.string ⟨#[98]⟩, .int .i64 2, .bool false, .int .i64 1, .string ⟨#[]⟩, .slice none 0 0, .slice none 0 0, .string ⟨#[97]⟩, .int .i64 4, .bool false, .int .i64 0, .string ⟨#[]⟩, .slice none 0 0, .slice none 0 0] 38)) w.heap.size 0 ([.string ⟨#[98]⟩, .int .i64 2, .bool false, .int .i64 1, .string ⟨#[]⟩, .slice none 0 0, .slice none 0 0] ++ [.string ⟨#[97]⟩, .int .i64 4, .bool false, .int .i64 0, .string ⟨#[]⟩, .slice none 0 0, .slice none 0 0]) := box_row w [.string ⟨#[98]⟩, .int .i64 2, .bool false, .int .i64 1, .string ⟨#[]⟩, .slice none 0 0, .slice none 0 0, .string ⟨#[97]⟩, .int .i64 4, .bool false, .int .i64 0, .string ⟨#[]⟩, .slice none 0 0, .slice none 0 0] 38
  rw [wkB, wkA, liesM, liesM, liesM]
  exact ⟨rfl, ⟨by decide, [.int .i64 2, .bool false, .int .i64 1, .string ⟨#[]⟩, .slice none 0 0, .slice none 0 0], rowAt_left h, leafB _ _⟩, rfl, ⟨by decide, [.int .i64 4, .bool false, .int .i64 0, .string ⟨#[]⟩, .slice none 0 0, .slice none 0 0], rowAt_right h, leafA _ _⟩, trivial⟩
theorem wk_bld : bldOk [wkB, wkA] = true := by simp [bldOk, wk_okB, wk_okA]
theorem wk_mapV : mapV [wkA, wkB] = wkV := by rw [mapV, if_pos wk_map]; rfl
theorem wk_wt : wkV.wt = 5 := by decide +kernel
set_option maxHeartbeats 1600000 in
set_option maxRecDepth 100000 in
theorem awake_any (w : World) (tb : Tb w) : Calls Tryd.prog 8 #[] w (BPost true w) := by
  have hz0 := alloc_size w (.cells #[.string ⟨#[98]⟩, .int .i64 2, .bool false, .int .i64 1, .string ⟨#[]⟩, .slice none 0 0, .slice none 0 0, .string ⟨#[97]⟩, .int .i64 4, .bool false, .int .i64 0, .string ⟨#[]⟩, .slice none 0 0, .slice none 0 0] 38)
  have B0 : Below w.heap.size w (w.alloc (.cells #[.string ⟨#[98]⟩, .int .i64 2, .bool false, .int .i64 1, .string ⟨#[]⟩, .slice none 0 0, .slice none 0 0, .string ⟨#[97]⟩, .int .i64 4, .bool false, .int .i64 0, .string ⟨#[]⟩, .slice none 0 0, .slice none 0 0] 38)) := (Below.refl _ _).alloc (Nat.le_refl _) _
  have HB : Hid (∀ W, Below w.heap.size w W → Tb W) := fun W hb => tb.below hb tb.z
  have HC : Hid (Calls Tryd.prog 10 #[.slice (some ⟨w.heap.size, 0, none⟩) 2 2] (w.alloc (.cells #[.string ⟨#[98]⟩, .int .i64 2, .bool false, .int .i64 1, .string ⟨#[]⟩, .slice none 0 0, .slice none 0 0, .string ⟨#[97]⟩, .int .i64 4, .bool false, .int .i64 0, .string ⟨#[]⟩, .slice none 0 0, .slice none 0 0] 38)) (BldPost [wkB, wkA] (w.alloc (.cells #[.string ⟨#[98]⟩, .int .i64 2, .bool false, .int .i64 1, .string ⟨#[]⟩, .slice none 0 0, .slice none 0 0, .string ⟨#[97]⟩, .int .i64 4, .bool false, .int .i64 0, .string ⟨#[]⟩, .slice none 0 0, .slice none 0 0] 38)))) :=
    build_any [wkB, wkA] false (fun x => x = w.heap.size) (some ⟨w.heap.size, 0, none⟩) 2 w.heap.size 0 (w.alloc (.cells #[.string ⟨#[98]⟩, .int .i64 2, .bool false, .int .i64 1, .string ⟨#[]⟩, .slice none 0 0, .slice none 0 0, .string ⟨#[97]⟩, .int .i64 4, .bool false, .int .i64 0, .string ⟨#[]⟩, .slice none 0 0, .slice none 0 0] 38)) (HB.out _ B0) rfl (wk_lies w) (fun b h => by rw [h, hz0]; omega) (by decide +kernel)
  clear tb
  go_enter Tryd.func8, Tryd.ntmps8
  go_wp2_with fail
  generalize (w.alloc (.cells #[.string ⟨#[98]⟩, .int .i64 2, .bool false, .int .i64 1, .string ⟨#[]⟩, .slice none 0 0, .slice none 0 0, .string ⟨#[97]⟩, .int .i64 4, .bool false, .int .i64 0, .string ⟨#[]⟩, .slice none 0 0, .slice none 0 0] 38)) = w0 at *
  refine HC.out.mono ?_
  rintro e w1 h
  rcases h with ⟨h, _⟩ | ⟨_, l', hp, hs, csv, rfl, hlv, b1⟩
  · rw [wk_bld] at h; cases h
  obtain rfl := wk_two hp hs
  rw [wk_mapV] at hlv
  have HV0 : Hid (wkV.lies false w1 (New w0 w1) csv) := hlv
  rw [wkV, V.lies] at hlv
  obtain ⟨al, cl, bl, ol, am, cm, bm, om, rfl, _, _, _, _, ham, _, hm, _⟩ := hlv
  obtain rfl : am = some ⟨bm, om, none⟩ := ham.at_.resolve_left (by simp)
  have hme : mapE [wkA, wkB] = 0 := wk_map
  rw [hme]
  have hr0 := liesM_get hm 0 (by simp)
  have hr1 := liesM_get hm 1 (by simp)
  obtain ⟨hN0, _, cs0, hrow0, hl0⟩ := hr0
  obtain ⟨_, _, cs1, hrow1, hl1⟩ := hr1
  have hl1' : wkB.2.lies false w1 (New w0 w1) cs1 := hl1
  rw [wkB, V.lies] at hl1'
  obtain ⟨al1, cl1, bl1, ol1, am1, cm1, bm1, om1, rfl, _⟩ := hl1'
  have hz1 := b1.size
  have c1 : Below w.heap.size w w1 := B0.trans (b1.mono (by omega))
  have bx : Below w1.heap.size w1 (w1.alloc (.cells #[.int .i64 5, .bool false, .int .i64 0, .string ⟨#[]⟩, .slice al 0 cl, .slice (some ⟨bm, om, none⟩) 2 cm] 25)) := (Below.refl _ _).alloc (Nat.le_refl _) _
  have hzx := alloc_size w1 (.cells #[.int .i64 5, .bool false, .int .i64 0, .string ⟨#[]⟩, .slice al 0 cl, .slice (some ⟨bm, om, none⟩) 2 cm] 25)
  have hbx := box_row w1 [.int .i64 5, .bool false, .int .i64 0, .string ⟨#[]⟩, .slice al 0 cl, .slice (some ⟨bm, om, none⟩) 2 cm] 25
  have hbn : bm < w1.heap.size := hN0.2
  have k0 : w1.cell? ⟨bm, om, none⟩ = some (.string ⟨#[97]⟩) := by have := hrow0 0 (.string ⟨#[97]⟩) rfl; simpa using this
  have k1 : w1.cell? ⟨bm, om + 7 + 3, none⟩ = some (.int .i64 1) := by have := hrow1 3 (.int .i64 1) rfl; simpa using this
  have KX : Hid (∀ W, Below (w1.alloc (.cells #[.int .i64 5, .bool false, .int .i64 0, .string ⟨#[]⟩, .slice al 0 cl, .slice (some ⟨bm, om, none⟩) 2 cm] 25)).heap.size (w1.alloc (.cells #[.int .i64 5, .bool false, .int .i64 0, .string ⟨#[]⟩, .slice al 0 cl, .slice (some ⟨bm, om, none⟩) 2 cm] 25)) W → Below w.heap.size w W ∧ rowAt W w1.heap.size 0 [.int .i64 5, .bool false, .int .i64 0, .string ⟨#[]⟩, .slice al 0 cl, .slice (some ⟨bm, om, none⟩) 2 cm] ∧ W.cell? ⟨bm, om, none⟩ = some (.string ⟨#[97]⟩) ∧ W.cell? ⟨bm, om + 7 + 3, none⟩ = some (.int .i64 1) ∧ wkV.lies false W (New w0 w1) [.int .i64 5, .bool false, .int .i64 0, .string ⟨#[]⟩, .slice al 0 cl, .slice (some ⟨bm, om, none⟩) 2 cm] ∧ w1.heap.size ≤ W.heap.size) := fun W hb => by
    have b2 : Below w1.heap.size w1 W := bx.trans (hb.mono bx.size)
    exact ⟨c1.trans (b2.mono c1.size), hbx.keep (hb.block _ (by omega)), (World.cell?_of_block (a := ⟨bm, om, none⟩) (b2.block bm hbn)).trans k0, (World.cell?_of_block (a := ⟨bm, om + 7 + 3, none⟩) (b2.block bm hbn)).trans k1, V.lies_keep (fun h => h) (fun x hx => b2.block x hx.2) (fun _ h => h) _ HV0.out, b2.size⟩
  clear hbx k0 k1 hrow0 hrow1 hl0 hl1 hm ham hp hs hN0 HC b1 c1 bx B0 hme
  go_wp2_with fail
  generalize (w1.alloc (.cells #[.int .i64 5, .bool false, .int .i64 0, .string ⟨#[]⟩, .slice al 0 cl, .slice (some ⟨bm, om, none⟩) 2 cm] 25)) = w2 at *
  refine (num_any 0 w2).mono ?_
  rintro e w3 ⟨rfl, c3⟩
  obtain ⟨B3, hb3, k0, k1, hv3, hs3⟩ := KX.out w3 c3
  have HV3 : Hid (wkV.lies false w3 (New w0 w1) [.int .i64 5, .bool false, .int .i64 0, .string ⟨#[]⟩, .slice al 0 cl, .slice (some ⟨bm, om, none⟩) 2 cm]) := hv3
  have hget := get_any wkV ⟨#[98]⟩ false (New w0 w1) _ w3 (HB.out w3 B3) hv3 (fun b h => by have := h.2; omega) (by rw [wk_wt]; omega)
  rw [wk_get] at hget
  have HG : Hid (Calls Tryd.prog 14 #[.agg #[.int .i64 5, .bool false, .int .i64 0, .string ⟨#[]⟩, .slice al 0 cl, .slice (some ⟨bm, om, none⟩) 2 cm], .string ⟨#[98]⟩] w3 (GtPost (wkB.2, true) w3)) := hget
  obtain ⟨d0, d1, d2, d3, d4, d5⟩ := row6z hb3
  clear hget hb3 hv3 B3
  go_wp2_with fail
  refine HG.out.mono ?_
  rintro e w4 ⟨csx, rfl, hlx, b4⟩
  have HX : Hid (wkB.2.lies false w4 (New w3 w4) csx) := hlx
  have hlx' : wkB.2.lies false w4 (New w3 w4) csx := hlx
  rw [wkB, V.lies] at hlx'
  obtain ⟨xal, xcl, xbl, xol, xam, xcm, xbm, xom, rfl, _⟩ := hlx'
  have c4 := c3.trans (b4.mono c3.size)
  have by_ : Below w4.heap.size w4 (w4.alloc (.cells #[.int .i64 2, .bool false, .int .i64 1, .string ⟨#[]⟩, .slice xal 0 xcl, .slice xam 0 xcm] 25)) := (Below.refl _ _).alloc (Nat.le_refl _) _
  have hzy := alloc_size w4 (.cells #[.int .i64 2, .bool false, .int .i64 1, .string ⟨#[]⟩, .slice xal 0 xcl, .slice xam 0 xcm] 25)
  have hby := box_row w4 [.int .i64 2, .bool false, .int .i64 1, .string ⟨#[]⟩, .slice xal 0 xcl, .slice xam 0 xcm] 25
  have c5 : Below w2.heap.size w2 (w4.alloc (.cells #[.int .i64 2, .bool false, .int .i64 1, .string ⟨#[]⟩, .slice xal 0 xcl, .slice xam 0 xcm] 25)) := c4.trans (by_.mono c4.size)
  have KY : Hid (∀ W, Below (w4.alloc (.cells #[.int .i64 2, .bool false, .int .i64 1, .string ⟨#[]⟩, .slice xal 0 xcl, .slice xam 0 xcm] 25)).heap.size (w4.alloc (.cells #[.int .i64 2, .bool false, .int .i64 1, .string ⟨#[]⟩, .slice xal 0 xcl, .slice xam 0 xcm] 25)) W → Below w.heap.size w W ∧ rowAt W w1.heap.size 0 [.int .i64 5, .bool false, .int .i64 0, .string ⟨#[]⟩, .slice al 0 cl, .slice (some ⟨bm, om, none⟩) 2 cm] ∧ rowAt W w4.heap.size 0 [.int .i64 2, .bool false, .int .i64 1, .string ⟨#[]⟩, .slice xal 0 xcl, .slice xam 0 xcm] ∧ wkV.lies false W (New w0 w1) [.int .i64 5, .bool false, .int .i64 0, .string ⟨#[]⟩, .slice al 0 cl, .slice (some ⟨bm, om, none⟩) 2 cm] ∧ wkB.2.lies false W (New w3 w4) [.int .i64 2, .bool false, .int .i64 1, .string ⟨#[]⟩, .slice xal 0 xcl, .slice xam 0 xcm] ∧ w1.heap.size ≤ W.heap.size ∧ w4.heap.size ≤ W.heap.size) := fun W hb => by
    have b5 : Below w4.heap.size w4 W := by_.trans (hb.mono by_.size)
    obtain ⟨h1, h2, _, _, h5, h6⟩ := KX.out W (c5.trans (hb.mono c5.size))
    exact ⟨h1, h2, hby.keep (hb.block _ (by omega)), h5, V.lies_keep (fun h => h) (fun x hx => b5.block x hx.2) (fun _ h => h) _ HX.out, h6, b5.size⟩
  have CN : Hid (∀ W, Below (w4.alloc (.cells #[.int .i64 2, .bool false, .int .i64 1, .string ⟨#[]⟩, .slice xal 0 xcl, .slice xam 0 xcm] 25)).heap.size (w4.alloc (.cells #[.int .i64 2, .bool false, .int .i64 1, .string ⟨#[]⟩, .slice xal 0 xcl, .slice xam 0 xcm] 25)) W → Calls Tryd.prog 26 #[.agg #[.int .i64 5, .bool false, .int .i64 0, .string ⟨#[]⟩, .slice al 0 cl, .slice (some ⟨bm, om, none⟩) 2 cm]] W (IPost 3 W) ∧ Calls Tryd.prog 27 #[.agg #[.int .i64 5, .bool false, .int .i64 0, .string ⟨#[]⟩, .slice al 0 cl, .slice (some ⟨bm, om, none⟩) 2 cm]] W (IPost 1 W) ∧ Calls Tryd.prog 28 #[.agg #[.int .i64 2, .bool false, .int .i64 1, .string ⟨#[]⟩, .slice xal 0 xcl, .slice xam 0 xcm], .agg #[.int .i64 5, .bool false, .int .i64 0, .string ⟨#[]⟩, .slice al 0 cl, .slice (some ⟨bm, om, none⟩) 2 cm]] W (JPost (-1) W) ∧ Calls Tryd.prog 29 #[.agg #[.int .i64 5, .bool false, .int .i64 0, .string ⟨#[]⟩, .slice al 0 cl, .slice (some ⟨bm, om, none⟩) 2 cm], .int .i64 0] W (NPost 21 W)) := fun W hb => by
    obtain ⟨h1, _, _, h4, h5, h6, h7⟩ := KY.out W hb
    have t := HB.out W h1
    have s1 : ∀ b, New w0 w1 b → b < W.heap.size := fun b h => by have := h.2; omega
    have s2 : ∀ b, New w3 w4 b → b < W.heap.size := fun b h => by have := h.2; omega
    have wt1 : wkV.wt ≤ 1099511627776 := by rw [wk_wt]; omega
    have n := nodes_any false wkV _ _ W t h4 s1 wt1
    have d := depth_any false wkV _ _ W t h4 s1 wt1
    have c := compare_any wkB.2 wkV false false _ _ _ _ W t h5 h4 s2 s1 (by decide +kernel) wt1
    have k := check_any false wkV 0 _ _ W t h4 s1 wt1
    rw [wk_n] at n
    rw [wk_d] at d
    rw [wk_c] at c
    rw [wk_e] at k
    exact ⟨n, d, c, k⟩
  obtain ⟨_, hA, hX, _⟩ := KY.out _ (Below.refl _ _)
  obtain ⟨f0, f1, f2, f3, f4, f5⟩ := row6z hX
  obtain ⟨e0, e1, e2, e3, e4, e5⟩ := row6z hA
  clear d0 d1 d2 d3 d4 d5 k0 k1 KX c5 by_ hby hlx c4 b4 HG hA hX HX HV3 HV0
  go_wp2_with fail
  generalize (w4.alloc (.cells #[.int .i64 2, .bool false, .int .i64 1, .string ⟨#[]⟩, .slice xal 0 xcl, .slice xam 0 xcm] 25)) = w5 at *
  clear e0 e1 e2 e3 e4 e5 f0 f1 f2 f3 f4 f5
  refine (CN.out w5 (Below.refl _ _)).1.mono ?_
  rintro e w6 ⟨rfl, c6⟩
  obtain ⟨_, hA, _⟩ := KY.out _ c6
  obtain ⟨e0, e1, e2, e3, e4, e5⟩ := row6z hA
  clear hA
  go_wp2_with fail
  refine (CN.out w6 c6).2.1.mono ?_
  rintro e w7 ⟨rfl, b7⟩
  have c7 := c6.trans (b7.mono c6.size)
  clear e0 e1 e2 e3 e4 e5 b7 c6
  obtain ⟨_, hA, hX, _⟩ := KY.out _ c7
  obtain ⟨e0, e1, e2, e3, e4, e5⟩ := row6z hA
  obtain ⟨f0, f1, f2, f3, f4, f5⟩ := row6z hX
  clear hA hX
  go_wp2_with fail
  refine (CN.out w7 c7).2.2.1.mono ?_
  rintro e w8 ⟨rfl, b8⟩
  have c8 := c7.trans (b8.mono c7.size)
  clear e0 e1 e2 e3 e4 e5 f0 f1 f2 f3 f4 f5 b8 c7
  obtain ⟨_, hA, _⟩ := KY.out _ c8
  obtain ⟨e0, e1, e2, e3, e4, e5⟩ := row6z hA
  clear hA
  go_wp2_with fail
  refine (CN.out w8 c8).2.2.2.mono ?_
  rintro e w9 ⟨rfl, b9⟩
  have c9 := c8.trans (b9.mono c8.size)
  clear e0 e1 e2 e3 e4 e5 b9 c8
  go_wp2_with fail
  refine (num_any 21 w9).mono ?_
  rintro e w10 ⟨rfl, b10⟩
  have c10 := c9.trans (b10.mono c9.size)
  have BZ := (KY.out _ c10).1
  clear b10 c9
  go_wp2_with fail
  go_ret
  exact ⟨rfl, BZ⟩
end Go.Proofs.YthgfomblodhoaaaDoor
