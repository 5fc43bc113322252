import Derived.Test.YthlhkhcbkgbhfaaGreatDoorG40
/- The law's awake: true. -/
set_option linter.unusedSimpArgs false
set_option linter.unusedVariables false
namespace Go.Proofs.YthlhkhcbkgbhfaaGreatDoor
open Go Go.RowKit Go.Lib Go.Shelf
def FlPost (nm : ByteArray) (w : World) (e : Ending) (w' : World) : Prop := ∃ b, e = .returned (.slice (some ⟨b, 0, none⟩) 1 1) ∧ w'.heap[b]? = some (.cells #[.int .i64 1, .string nm, .slice none 0 0, .int .i64 0, .bool false, .int .i64 0, .string ⟨#[]⟩, .slice none 0 0, .slice none 0 0] 66 (0, 0)) ∧ w.heap.size ≤ b ∧ Below w.heap.size w w'
theorem fieldP_any (nm : ByteArray) (w : World) : Calls Tryz.prog 27 #[.string nm] w (FlPost nm w) :=
  (field_any nm w).mono fun e w' h => by
    obtain ⟨rfl, rfl⟩ := h
    exact ⟨w.heap.size, rfl, heap_alloc_new w _, Nat.le_refl _, (Below.refl _ w).alloc (Nat.le_refl _) _⟩
def na : ByteArray := ⟨#[97]⟩
def nb : ByteArray := ⟨#[98]⟩
def fa : List El := [fldE na]
def fb : List El := [fldE nb]
theorem na_le : na.size ≤ maxLen := by decide +kernel
theorem nb_le : nb.size ≤ maxLen := by decide +kernel
theorem fa_p : pathB fa = true := by decide +kernel
theorem fb_p : pathB fb = true := by decide +kernel
theorem fab : lexL oeE fa fb < 0 := by decide +kernel
theorem w_ab : 3 + wtQ [fb, fa, fb] ≤ 1000 := by decide +kernel
theorem w_2 : 2 + wtQ [fa, fb] ≤ 1000 := by decide +kernel
theorem w_3 : 2 + wtQ [fb, fa] ≤ 1000 := by decide +kernel
theorem w_1 : 1 + wtQ [fa] ≤ 1000 := by decide +kernel
theorem rs_ab {R : List (List El)} (h : Rs [fb, fa, fb] R) : R = [fa, fb] := h.uniq ⟨by simp only [List.pairwise_cons, List.mem_singleton, forall_eq, List.not_mem_nil, false_imp_iff, implies_true, List.Pairwise.nil, and_true]; exact fab, fun p => by simp only [List.mem_cons, List.not_mem_nil, or_false]; grind⟩
theorem er_m : errJ [fa, fb] [fa] = 0 := by decide +kernel
theorem er_c : errS [fb, fa] = 100 := by decide +kernel
theorem mi_b : joL tN [fa, fb] [fa] = [fb] := by
  have m1 : memB [fa] fa = true := by decide +kernel
  have m2 : memB [fa] fb = false := by decide +kernel
  rw [← ch_minus, chL, if_pos er_m]
  simp [List.filter, m1, m2]
theorem ab_p : ∀ p ∈ [fb, fa, fb], pathB p = true := by simp only [List.mem_cons, List.not_mem_nil, or_false, forall_eq_or_imp, forall_eq]; exact ⟨fb_p, fa_p, fb_p⟩
/-- paths of one field each, laid into a row -/
theorem bld_lies {W : World} {c : Nat} {arr : Array Value} (hc : W.heap[c]? = some (.cells arr 32 (0, 0))) (l : List (Nat × ByteArray)) (hl : ∀ (j : Nat) (hj : j < l.length), arr[j]? = some (.slice (some ⟨(l[j]).1, 0, none⟩) 1 1) ∧ W.heap[(l[j]).1]? = some (.cells #[.int .i64 1, .string (l[j]).2, .slice none 0 0, .int .i64 0, .bool false, .int .i64 0, .string ⟨#[]⟩, .slice none 0 0, .slice none 0 0] 66 (0, 0)) ∧ (l[j]).2.size ≤ maxLen) : liesQ W (Old W) (l.map (fun x => [fldE x.2])) c 0 := fun j hj => by
  have hj' : j < l.length := by simpa using hj
  obtain ⟨h1, h2, h3⟩ := hl j hj'
  refine ⟨(Array.getElem?_eq_some_iff.1 hc).1, .slice (some ⟨(l[j]).1, 0, none⟩) 1 1, ?_, some ⟨(l[j]).1, 0, none⟩, 1, (l[j]).1, 0, ?_, ?_, ?_⟩
  · rw [Nat.zero_add, cell_of_block hc]; exact h1
  · rw [List.getElem_map]; rfl
  · rw [List.getElem_map]; exact ⟨Nat.le_refl _, by simp [maxLen], .inr rfl, fun h => by cases h⟩
  · rw [List.getElem_map]; exact fld_path (l[j]).2 h3 h2 (Array.getElem?_eq_some_iff.1 h2).1
theorem hd_new (n c : Nat) (hn : n ≤ 100) : Headed (some ⟨c, 0, none⟩) n n c 0 := ⟨Nat.le_refl _, by simp only [maxLen]; omega, .inr rfl, fun h => by cases h⟩
set_option maxHeartbeats 8000000 in
set_option maxRecDepth 100000 in
theorem awake_any (w : World) (t : Tb w) : Calls Tryz.prog 6 #[] w (BPost true w) := by
  have HT := hmk t
  clear t
  go_enter Tryz.func6, Tryz.ntmps6
  go_wp2_with fail
  refine (fieldP_any nb w).mono ?_
  rintro e w1 ⟨b1, rfl, hb1, lb1, d1⟩
  have z1 := d1.size
  go_wp2_with fail
  refine (fieldP_any na w1).mono ?_
  rintro e w2 ⟨b2, rfl, hb2, lb2, d2⟩
  have z2 := d2.size
  have hb1_2 := (d2.block b1 (Array.getElem?_eq_some_iff.1 hb1).1).trans hb1
  go_wp2_with fail
  refine (fieldP_any nb w2).mono ?_
  rintro e w3 ⟨b3, rfl, hb3, lb3, d3⟩
  have z3 := d3.size
  have hb1_3 := (d3.block b1 (Array.getElem?_eq_some_iff.1 hb1_2).1).trans hb1_2
  have hb2_3 := (d3.block b2 (Array.getElem?_eq_some_iff.1 hb2).1).trans hb2
  have d4 : Below w3.heap.size w3 (w3.alloc (.cells #[.slice (some ⟨b1, 0, none⟩) 1 1, .slice (some ⟨b2, 0, none⟩) 1 1, .slice (some ⟨b3, 0, none⟩) 1 1] 32)) := (Below.refl _ w3).alloc (Nat.le_refl _) _
  have n4 := heap_alloc_new w3 (.cells #[.slice (some ⟨b1, 0, none⟩) 1 1, .slice (some ⟨b2, 0, none⟩) 1 1, .slice (some ⟨b3, 0, none⟩) 1 1] 32)
  have z4 := alloc_size w3 (.cells #[.slice (some ⟨b1, 0, none⟩) 1 1, .slice (some ⟨b2, 0, none⟩) 1 1, .slice (some ⟨b3, 0, none⟩) 1 1] 32)
  have g1 := (d4.block b1 (Array.getElem?_eq_some_iff.1 hb1_3).1).trans hb1_3
  have g2 := (d4.block b2 (Array.getElem?_eq_some_iff.1 hb2_3).1).trans hb2_3
  have g3 := (d4.block b3 (Array.getElem?_eq_some_iff.1 hb3).1).trans hb3
  have L4 : Hid (liesQ (w3.alloc (.cells #[.slice (some ⟨b1, 0, none⟩) 1 1, .slice (some ⟨b2, 0, none⟩) 1 1, .slice (some ⟨b3, 0, none⟩) 1 1] 32)) (Old (w3.alloc (.cells #[.slice (some ⟨b1, 0, none⟩) 1 1, .slice (some ⟨b2, 0, none⟩) 1 1, .slice (some ⟨b3, 0, none⟩) 1 1] 32))) [fb, fa, fb] w3.heap.size 0) := bld_lies n4 [(b1, nb), (b2, na), (b3, nb)] (fun j hj => by
    match j, hj with
    | 0, _ => exact ⟨rfl, g1, nb_le⟩
    | 1, _ => exact ⟨rfl, g2, na_le⟩
    | 2, _ => exact ⟨rfl, g3, nb_le⟩)
  have B4 : Below w.heap.size w (w3.alloc (.cells #[.slice (some ⟨b1, 0, none⟩) 1 1, .slice (some ⟨b2, 0, none⟩) 1 1, .slice (some ⟨b3, 0, none⟩) 1 1] 32)) := d1.trans ((d2.trans ((d3.trans (d4.mono (by omega))).mono (by omega))).mono (by omega))
  have c5 := hmk (of_any [fb, fa, fb] (Old (w3.alloc (.cells #[.slice (some ⟨b1, 0, none⟩) 1 1, .slice (some ⟨b2, 0, none⟩) 1 1, .slice (some ⟨b3, 0, none⟩) 1 1] 32))) (some ⟨w3.heap.size, 0, none⟩) 3 w3.heap.size 0 (w3.alloc (.cells #[.slice (some ⟨b1, 0, none⟩) 1 1, .slice (some ⟨b2, 0, none⟩) 1 1, .slice (some ⟨b3, 0, none⟩) 1 1] 32)) (HT.out.below B4 HT.out.z) (hd_new 3 _ (by omega)) L4.out (old_lt _) (by have := w_ab; simp only [List.length_cons, List.length_nil]; omega))
  clear d1 d2 d3 d4 hb1 hb1_2 hb1_3 hb2 hb2_3 hb3 g1 g2 g3 n4 L4
  go_wp2_with fail
  generalize (w3.alloc (.cells #[.slice (some ⟨b1, 0, none⟩) 1 1, .slice (some ⟨b2, 0, none⟩) 1 1, .slice (some ⟨b3, 0, none⟩) 1 1] 32)) = w4 at *
  refine c5.out.mono ?_
  rintro e w5 ⟨d5, h5⟩
  rcases h5 with ⟨_, R, sa, sc, sb, so, hR, rfl, hhs, hls⟩ | ⟨hno, _⟩
  rotate_left
  · exact absurd ab_p hno
  obtain rfl := rs_ab hR
  have L5 : Hid (liesQ w5 (Old w5) [fa, fb] sb so) := liesQ_keep (fun _ _ => rfl) (fun x hx => hx.2) hls
  have z5 := d5.size
  have B5 := B4.trans (d5.mono B4.size)
  clear c5 hls hR B4 d5
  go_wp2_with fail
  refine (fieldP_any na w5).mono ?_
  rintro e w6 ⟨b4, rfl, hb4, lb4, d6⟩
  have z6 := d6.size
  have d7 : Below w6.heap.size w6 (w6.alloc (.cells #[.slice (some ⟨b4, 0, none⟩) 1 1] 32)) := (Below.refl _ w6).alloc (Nat.le_refl _) _
  have n7 := heap_alloc_new w6 (.cells #[.slice (some ⟨b4, 0, none⟩) 1 1] 32)
  have z7 := alloc_size w6 (.cells #[.slice (some ⟨b4, 0, none⟩) 1 1] 32)
  have g4 := (d7.block b4 (Array.getElem?_eq_some_iff.1 hb4).1).trans hb4
  have d57 : Below w5.heap.size w5 (w6.alloc (.cells #[.slice (some ⟨b4, 0, none⟩) 1 1] 32)) := d6.trans (d7.mono (by omega))
  have B7 : Below w.heap.size w (w6.alloc (.cells #[.slice (some ⟨b4, 0, none⟩) 1 1] 32)) := B5.trans (d57.mono B5.size)
  have M7 : Hid (liesQ (w6.alloc (.cells #[.slice (some ⟨b4, 0, none⟩) 1 1] 32)) (Old (w6.alloc (.cells #[.slice (some ⟨b4, 0, none⟩) 1 1] 32))) [fa] w6.heap.size 0) := bld_lies n7 [(b4, na)] (fun j hj => by
    match j, hj with
    | 0, _ => exact ⟨rfl, g4, na_le⟩)
  have L7 := hmk (liesQ_old d57 L5.out)
  have c8 := hmk (minus_any [fa, fb] [fa] (Old (w6.alloc (.cells #[.slice (some ⟨b4, 0, none⟩) 1 1] 32))) sa sc sb so (some ⟨w6.heap.size, 0, none⟩) 1 w6.heap.size 0 (w6.alloc (.cells #[.slice (some ⟨b4, 0, none⟩) 1 1] 32)) (HT.out.below B7 HT.out.z) hhs L7.out (hd_new 1 _ (by omega)) M7.out (old_lt _) (bq_of (by have := w_2; simp only [List.length_cons, List.length_nil]; omega)) (bq_of (by have := w_1; simp only [List.length_cons, List.length_nil]; omega)))
  rw [mi_b, er_m] at c8
  clear d6 d7 d57 n7 g4 hb4 M7 L5 B5
  go_wp2_with fail
  generalize (w6.alloc (.cells #[.slice (some ⟨b4, 0, none⟩) 1 1] 32)) = w7 at *
  refine c8.out.mono ?_
  rintro e w8 ⟨ma, mc, mb, mo, rfl, hhm, hlm, d8⟩
  have z8 := d8.size
  have L8 := hmk (liesQ_old d8 L7.out)
  have M8 := hmk (liesQ_tw d8 hlm)
  have B8 := B7.trans (d8.mono B7.size)
  clear c8 hlm L7 B7 d8
  go_wp2_with fail
  refine (new_any w8).mono ?_
  rintro e w9 ⟨rfl, hw9⟩
  have d9 : Below w8.heap.size w8 w9 := by rw [hw9]; exact (Below.refl _ w8).alloc (Nat.le_refl _) _
  have hT9 : w9.heap[w8.heap.size]? = some (.cells #[.int .i64 0, .string ⟨#[]⟩, .slice none 0 0, .int .i64 0, .bool false, .int .i64 0, .string ⟨#[]⟩, .slice none 0 0, .slice none 0 0, .bool false, .slice none 0 0, .int .i64 0] 78 (0, 0)) := by rw [hw9]; exact heap_alloc_new w8 _
  have z9 : w9.heap.size = w8.heap.size + 1 := by rw [hw9]; exact alloc_size _ _
  clear hw9
  obtain ⟨T, hTe⟩ : ∃ T, w8.heap.size = T := ⟨_, rfl⟩
  rw [hTe] at hT9 z9 ⊢
  go_wp2_with fail
  refine (fieldP_any na w9).mono ?_
  rintro e w10 ⟨b5, rfl, hb5, lb5, d10⟩
  have z10 := d10.size
  have hT10 := (d10.block T (by omega)).trans hT9
  have B10 : Below w.heap.size w w10 := B8.trans ((d9.trans (d10.mono (by omega))).mono B8.size)
  have c11 := hmk (add_any na (by decide +kernel) fa_p T b5 w10 (HT.out.below B10 HT.out.z) hT10 hb5)
  clear hT9 hT10 hb5
  go_wp2_with fail
  refine c11.out.mono ?_
  rintro e w11 ⟨g, nd, rfl, hKd, hg, hnd, G11⟩
  have K11 := hmk hKd
  have d8_11 : Below w8.heap.size w8 w11 := (d9.trans (d10.mono (by omega))).grown G11 (by omega) (fun r e => by cases e; omega)
  have z11 := d8_11.size
  have B11 : Below w.heap.size w w11 := B8.trans (d8_11.mono B8.size)
  clear c11 hKd G11 d9 d10 B10
  go_wp2_with fail
  refine (fieldP_any na w11).mono ?_
  rintro e w12 ⟨b6, rfl, hb6, lb6, d12⟩
  have z12 := d12.size
  go_wp2_with fail
  refine (fieldP_any nb w12).mono ?_
  rintro e w13 ⟨b7, rfl, hb7, lb7, d13⟩
  have z13 := d13.size
  have hb6_13 := (d13.block b6 (Array.getElem?_eq_some_iff.1 hb6).1).trans hb6
  have d14 : Below w13.heap.size w13 (w13.alloc (.cells #[.slice (some ⟨b6, 0, none⟩) 1 1, .slice (some ⟨b7, 0, none⟩) 1 1] 32)) := (Below.refl _ w13).alloc (Nat.le_refl _) _
  have n14 := heap_alloc_new w13 (.cells #[.slice (some ⟨b6, 0, none⟩) 1 1, .slice (some ⟨b7, 0, none⟩) 1 1] 32)
  have z14 := alloc_size w13 (.cells #[.slice (some ⟨b6, 0, none⟩) 1 1, .slice (some ⟨b7, 0, none⟩) 1 1] 32)
  have g6 := (d14.block b6 (Array.getElem?_eq_some_iff.1 hb6_13).1).trans hb6_13
  have g7 := (d14.block b7 (Array.getElem?_eq_some_iff.1 hb7).1).trans hb7
  have d11_14 : Below w11.heap.size w11 (w13.alloc (.cells #[.slice (some ⟨b6, 0, none⟩) 1 1, .slice (some ⟨b7, 0, none⟩) 1 1] 32)) := d12.trans ((d13.trans (d14.mono (by omega))).mono (by omega))
  have d8_14 : Below w8.heap.size w8 (w13.alloc (.cells #[.slice (some ⟨b6, 0, none⟩) 1 1, .slice (some ⟨b7, 0, none⟩) 1 1] 32)) := d8_11.trans (d11_14.mono (by omega))
  have A14 : Hid (liesQ (w13.alloc (.cells #[.slice (some ⟨b6, 0, none⟩) 1 1, .slice (some ⟨b7, 0, none⟩) 1 1] 32)) (Old (w13.alloc (.cells #[.slice (some ⟨b6, 0, none⟩) 1 1, .slice (some ⟨b7, 0, none⟩) 1 1] 32))) [fa, fb] w13.heap.size 0) := bld_lies n14 [(b6, na), (b7, nb)] (fun j hj => by
    match j, hj with
    | 0, _ => exact ⟨rfl, g6, na_le⟩
    | 1, _ => exact ⟨rfl, g7, nb_le⟩)
  have c15 := hmk (sspath_any [fa, fb] (Old (w13.alloc (.cells #[.slice (some ⟨b6, 0, none⟩) 1 1, .slice (some ⟨b7, 0, none⟩) 1 1] 32))) (Old (w13.alloc (.cells #[.slice (some ⟨b6, 0, none⟩) 1 1, .slice (some ⟨b7, 0, none⟩) 1 1] 32))) sa sc sb so (some ⟨w13.heap.size, 0, none⟩) 2 w13.heap.size 0 (w13.alloc (.cells #[.slice (some ⟨b6, 0, none⟩) 1 1, .slice (some ⟨b7, 0, none⟩) 1 1] 32)) hhs (liesQ_old d8_14 L8.out) (hd_new 2 _ (by omega)) A14.out (old_lt _) (old_lt _))
  clear hb6 hb6_13 hb7 n14 g6 g7 A14 d12 d13 d14
  go_wp2_with fail
  generalize (w13.alloc (.cells #[.slice (some ⟨b6, 0, none⟩) 1 1, .slice (some ⟨b7, 0, none⟩) 1 1] 32)) = w14 at *
  refine c15.out.mono ?_
  rintro e w15 ⟨rfl, d15⟩
  have z15 := d15.size
  have d11_15 : Below w11.heap.size w11 w15 := d11_14.trans (d15.mono (by omega))
  clear c15 d15 d11_14 d8_14 hhs L8
  go_wp2_with fail
  refine (fieldP_any nb w15).mono ?_
  rintro e w16 ⟨b8, rfl, hb8, lb8, d16⟩
  have z16 := d16.size
  have d17 : Below w16.heap.size w16 (w16.alloc (.cells #[.slice (some ⟨b8, 0, none⟩) 1 1] 32)) := (Below.refl _ w16).alloc (Nat.le_refl _) _
  have n17 := heap_alloc_new w16 (.cells #[.slice (some ⟨b8, 0, none⟩) 1 1] 32)
  have z17 := alloc_size w16 (.cells #[.slice (some ⟨b8, 0, none⟩) 1 1] 32)
  have g8 := (d17.block b8 (Array.getElem?_eq_some_iff.1 hb8).1).trans hb8
  have d11_17 : Below w11.heap.size w11 (w16.alloc (.cells #[.slice (some ⟨b8, 0, none⟩) 1 1] 32)) := d11_15.trans ((d16.trans (d17.mono (by omega))).mono (by omega))
  have d8_17 : Below w8.heap.size w8 (w16.alloc (.cells #[.slice (some ⟨b8, 0, none⟩) 1 1] 32)) := d8_11.trans (d11_17.mono (by omega))
  have A17 : Hid (liesQ (w16.alloc (.cells #[.slice (some ⟨b8, 0, none⟩) 1 1] 32)) (Old (w16.alloc (.cells #[.slice (some ⟨b8, 0, none⟩) 1 1] 32))) [fb] w16.heap.size 0) := bld_lies n17 [(b8, nb)] (fun j hj => by
    match j, hj with
    | 0, _ => exact ⟨rfl, g8, nb_le⟩)
  have c18 := hmk (sspath_any [fb] (Old (w16.alloc (.cells #[.slice (some ⟨b8, 0, none⟩) 1 1] 32))) (Old (w16.alloc (.cells #[.slice (some ⟨b8, 0, none⟩) 1 1] 32))) ma mc mb mo (some ⟨w16.heap.size, 0, none⟩) 1 w16.heap.size 0 (w16.alloc (.cells #[.slice (some ⟨b8, 0, none⟩) 1 1] 32)) hhm (liesQ_old d8_17 M8.out) (hd_new 1 _ (by omega)) A17.out (old_lt _) (old_lt _))
  clear hb8 n17 g8 A17 d16 d17 d11_15
  go_wp2_with fail
  generalize (w16.alloc (.cells #[.slice (some ⟨b8, 0, none⟩) 1 1] 32)) = w17 at *
  refine c18.out.mono ?_
  rintro e w18 ⟨rfl, d18⟩
  have z18 := d18.size
  have d11_18 : Below w11.heap.size w11 w18 := d11_17.trans (d18.mono (by omega))
  have B18 : Below w.heap.size w w18 := B11.trans (d11_18.mono B11.size)
  have c19 := hmk (any_any w18 (HT.out.below B18 HT.out.z) (K11.out.below d11_18))
  clear c18 d18 d11_17 d8_17 hhm M8 K11
  go_wp2_with fail
  refine c19.out.mono ?_
  rintro e w19 ⟨rfl, d19⟩
  have z19 := d19.size
  have B19 : Below w.heap.size w w19 := B18.trans (d19.mono B18.size)
  clear c19 d19 B18
  go_wp2_with fail
  refine (fieldP_any nb w19).mono ?_
  rintro e w20 ⟨b9, rfl, hb9, lb9, d20⟩
  have z20 := d20.size
  go_wp2_with fail
  refine (fieldP_any na w20).mono ?_
  rintro e w21 ⟨b10, rfl, hb10, lb10, d21⟩
  have z21 := d21.size
  have hb9_21 := (d21.block b9 (Array.getElem?_eq_some_iff.1 hb9).1).trans hb9
  have d22 : Below w21.heap.size w21 (w21.alloc (.cells #[.slice (some ⟨b9, 0, none⟩) 1 1, .slice (some ⟨b10, 0, none⟩) 1 1] 32)) := (Below.refl _ w21).alloc (Nat.le_refl _) _
  have n22 := heap_alloc_new w21 (.cells #[.slice (some ⟨b9, 0, none⟩) 1 1, .slice (some ⟨b10, 0, none⟩) 1 1] 32)
  have z22 := alloc_size w21 (.cells #[.slice (some ⟨b9, 0, none⟩) 1 1, .slice (some ⟨b10, 0, none⟩) 1 1] 32)
  have g9 := (d22.block b9 (Array.getElem?_eq_some_iff.1 hb9_21).1).trans hb9_21
  have g10 := (d22.block b10 (Array.getElem?_eq_some_iff.1 hb10).1).trans hb10
  have B22 : Below w.heap.size w (w21.alloc (.cells #[.slice (some ⟨b9, 0, none⟩) 1 1, .slice (some ⟨b10, 0, none⟩) 1 1] 32)) := B19.trans ((d20.trans ((d21.trans (d22.mono (by omega))).mono (by omega))).mono B19.size)
  have A22 : Hid (liesQ (w21.alloc (.cells #[.slice (some ⟨b9, 0, none⟩) 1 1, .slice (some ⟨b10, 0, none⟩) 1 1] 32)) (Old (w21.alloc (.cells #[.slice (some ⟨b9, 0, none⟩) 1 1, .slice (some ⟨b10, 0, none⟩) 1 1] 32))) [fb, fa] w21.heap.size 0) := bld_lies n22 [(b9, nb), (b10, na)] (fun j hj => by
    match j, hj with
    | 0, _ => exact ⟨rfl, g9, nb_le⟩
    | 1, _ => exact ⟨rfl, g10, na_le⟩)
  have c23 := hmk (schk_any [fb, fa] (Old (w21.alloc (.cells #[.slice (some ⟨b9, 0, none⟩) 1 1, .slice (some ⟨b10, 0, none⟩) 1 1] 32))) (some ⟨w21.heap.size, 0, none⟩) 2 w21.heap.size 0 (w21.alloc (.cells #[.slice (some ⟨b9, 0, none⟩) 1 1, .slice (some ⟨b10, 0, none⟩) 1 1] 32)) (HT.out.below B22 HT.out.z) (hd_new 2 _ (by omega)) A22.out (old_lt _) (by have := w_3; simp only [List.length_cons, List.length_nil]; omega))
  rw [er_c] at c23
  clear hb9 hb9_21 hb10 n22 g9 g10 A22 d20 d21 d22
  go_wp2_with fail
  generalize (w21.alloc (.cells #[.slice (some ⟨b9, 0, none⟩) 1 1, .slice (some ⟨b10, 0, none⟩) 1 1] 32)) = w22 at *
  refine c23.out.mono ?_
  rintro e w23 ⟨rfl, d23⟩
  go_wp2_with fail
  go_ret
  exact ⟨rfl, B22.trans (d23.mono B22.size)⟩
end Go.Proofs.YthlhkhcbkgbhfaaGreatDoor
