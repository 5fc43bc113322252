import Derived.Test.YthgfomblodhoaaaDoorApaR
import Derived.Deep.DeepCutAuto
/- (*rows).apart: is each memory of its own? -/
set_option linter.unusedSimpArgs false
set_option linter.unusedVariables false
namespace Go.Proofs.YthgfomblodhoaaaDoor
open Go Go.RowKit Go.Lib Go.Shelf
def ApaPost (ls ms : List Value) (W : World) (e : Ending) (W' : World) : Prop := e = .returned (.bool true) ∧ W'.os = W.os ∧ W'.tape = W.tape ∧ W'.output = W.output ∧ W.heap.size ≤ W'.heap.size ∧ ∀ y, y < W.heap.size → y ∉ blks ls ms → W'.heap[y]? = W.heap[y]?
theorem apa_post {ls ms : List Value} {P : Nat → Prop} {W w w' : World} {kl il km im : Nat} (F : Fi ls ms P W kl il km im w) (b : Below w.heap.size w w') : ApaPost ls ms W (.returned (.bool true)) w' :=
  ⟨rfl, b.os.trans F.os, b.tape.trans F.tape, b.output.trans F.output, Nat.le_trans F.size b.size, fun y hy hn => (b.block y (by have := F.size; omega)).trans (F.fr y hy hn)⟩
set_option maxHeartbeats 8000000 in
set_option maxRecDepth 100000 in
theorem apart_any (M B : Nat) (sl sm : Value) (ls ms : List Value) (W : World) (R : RowsAt M B sl sm ls ms W) (hlm : ls.length = ms.length) (hn : ls.length ≤ 4294967296) (hB : B ≤ W.heap.size) (D : Dst ls ms) (hl : ∀ s ∈ ls, FL W (fun b => b < B ∧ b ≠ M) s) (hm : ∀ s ∈ ms, FM W (fun b => b < B ∧ b ≠ M) s) :
    Calls Tryd.prog 21 #[.pointer (some ⟨M, 0, none⟩)] W (ApaPost ls ms W) := by
  have C27 := hmk (full_any M B sl sm ls ms W R hlm (by omega) hl hm)
  have HD := hmk D
  have HP : Hid (∀ b, (fun b => b < B ∧ b ≠ M) b → b < W.heap.size) := fun b h => by have := h.1; omega
  obtain ⟨A, C, rfl, hA1, hA2, _⟩ := owns_cells R.l
  obtain ⟨A', C', rfl, hA1', hA2', _⟩ := owns_cells R.m
  have HR := hmk R
  have hn9 : ls.length ≤ 9223372036854775807 := by omega
  have hmn : ms.length ≤ 4294967296 := by omega
  clear R hl hm D
  go_enter Tryd.func21, Tryd.ntmps21
  go_wp2_with fail
  refine C27.out.mono ?_
  rintro e w1 ⟨rfl, F1⟩
  have HF1 := hmk F1
  have R1 := rows_fi HR.out F1
  have c0 : w1.cell? ⟨M, 0, none⟩ = some (.slice A ls.length C) := by rw [cell_of_block R1.b]; rfl
  clear R1 F1 C27
  go_upto_if 21 with fail
  clear c0
  go_cut [3] (fun e3 wx => ∃ far : Nat, 1 ≤ far ∧ far ≤ 70 ∧ e3 = .int .i64 (far : Int) ∧ wx = w1)
  case first =>
    by_cases hf : 500 < ls.length
    · have y : (500 : Int) < ls.length := by omega
      go_wp2_with fail
      go_meet
      case rel => exact ⟨3, by omega, by omega, rfl, rfl⟩
    · have y : ¬ (500 : Int) < ls.length := by omega
      go_wp2_with fail
      go_meet
      case rel => exact ⟨70, by omega, by omega, rfl, rfl⟩
  case rest =>
    obtain ⟨far, hf1, hf2, rfl, hw1⟩ := hcut
    rw [← hw1] at HF1
    clear hw1
    rename World => wz
    have HA0 := hmk (AI.start far HF1.out)
    clear HF1
    go_wp2_with fail
    go_loopw [4, 5, 6] (fun e4 e5 e6 wr => ∃ (k : Nat) (ll mm : List Value), k ≤ ls.length ∧ e6 = .int .i64 (k : Int) ∧ Hid (AI ls ms (fun b => b < B ∧ b ≠ M) W far k e4 e5 ll mm wr)) (fun _ _ e _ => ls.length - (RowKit.intOf e).toNat)
    case atStart => exact ⟨0, [], [], by omega, rfl, HA0⟩
    case round =>
      clear HA0
      obtain ⟨k, ll, mm, hk, rfl, HA⟩ := hrel
      have Rr := rows_fi HR.out HA.out.f
      have c0 : wr.cell? ⟨M, 0, none⟩ = some (.slice A ls.length C) := by rw [cell_of_block Rr.b]; rfl
      by_cases hkl : k < ls.length
      · have y1 : (k : Int) < ls.length := by omega
        have hkm : k < ms.length := by omega
        obtain ⟨⟨a, n, c, _, es, hnc, hcm, hnm, _⟩, _⟩ := HA.out.f.fl ls[k] (List.getElem_mem hkl)
        obtain ⟨⟨a', n', c', _, es', hnc', hcm', hnm', _⟩, _⟩ := HA.out.f.fm ms[k] (List.getElem_mem hkm)
        obtain ⟨A2, C2, eA, _, _, hAg⟩ := owns_cells Rr.l
        obtain ⟨rfl, rfl⟩ : A = A2 ∧ C = C2 := by simpa using eA
        obtain ⟨g1, rfl, hgc⟩ := hAg (by omega)
        have ck : wr.cell? ⟨g1, k, none⟩ = some (.slice a n c) := by rw [hgc k hkl, es]
        have HES := hmk es
        have HES' := hmk es'
        have hW : W.heap.size ≤ wr.heap.size := HA.out.f.size
        have K0 : Hid (Cm ls ms (fun b => b < B ∧ b ≠ M) W k (.slice a n c) (.slice a' n' c') wr wr) := ⟨HA.out.f, fun _ _ _ _ => rfl, Nat.le_refl _⟩
        have hFL := HA.out.f.fl ls[k] (List.getElem_mem hkl)
        rw [es] at hFL
        obtain ⟨xs, hrw, hxl⟩ := fl_rw hFL
        have HRW := hmk hrw
        have HXL := hmk hxl
        clear hgc eA hAg es es' hFL hrw hxl Rr
        go_wp2_with (at_builtin; go_loud (refine wpl_rwL _ rfl (.tmp 37) (.tmp 41) rfl (.slice a n c) n c xs rfl (HRW.out.alloc _) wr.heap.size [.int .i64 (5000000 + (k : Int)), .bool false, .int .i64 0, .string ⟨#[]⟩, .slice none 0 0, .slice none 0 0] rfl one6 rfl (heap_alloc_new wr _) (by omega) ?_))
        intro g cap w5 o5 d5
        have K5 := hmk ((K0.out.alloc HP.out hW _).putL0 HD.out HP.out hW hkl HES.out (HRW.out.alloc _) o5 d5)
        have H7 := hmk (HL.first (off := 0) (N := wr.heap.size) (mark := .int .i64 (5000000 + (k : Int))) HXL.out rfl rfl (by decide) (by rw [alloc_size]; omega) o5 d5)
        clear K0 HRW HXL o5 d5 c0 ck
        have R5 := rows_fi HR.out K5.out.f
        have c1 : w5.cell? ⟨M, 1, none⟩ = some (.slice A' ms.length C') := by rw [cell_of_block R5.b]; rfl
        obtain ⟨A3, C3, eA3, _, _, hAg3⟩ := owns_cells R5.m
        obtain ⟨rfl, rfl⟩ : A' = A3 ∧ C' = C3 := by simpa using eA3
        obtain ⟨g3, rfl, hgc3⟩ := hAg3 (by omega)
        have ck3 : w5.cell? ⟨g3, k, none⟩ = some (.slice a' n' c') := by rw [hgc3 k hkm, HES'.out]
        have hFM := K5.out.f.fm ms[k] (List.getElem_mem hkm)
        rw [HES'.out] at hFM
        obtain ⟨ys, hrw, hyl⟩ := fm_rw hFM
        have HRW := hmk hrw
        have HYL := hmk hyl
        have y1m : (k : Int) < ms.length := by omega
        clear hgc3 eA3 hAg3 hFM hrw hyl R5
        go_wp2_with (at_builtin; go_loud (refine wpl_rwM _ rfl (.tmp 49) (.tmp 54) rfl (.slice a' n' c') n' c' ys rfl (HRW.out.alloc _) w5.heap.size [.string ⟨#[109, 97, 114, 107]⟩, .int .i64 (-5000000 - (k : Int)), .bool false, .int .i64 0, .string ⟨#[]⟩, .slice none 0 0, .slice none 0 0] rfl one7 rfl (heap_alloc_new w5 _) (by omega) ?_))
        intro h cap' w6 o6 d6
        have K6 := hmk ((K5.out.alloc HP.out hW _).putM0 HD.out HP.out hW hkm HES'.out (HRW.out.alloc _) o6 d6)
        have H7b := hmk ((H7.out.alloc _).keepD (HRW.out.alloc _) (by decide) d6)
        have H8 := hmk (HL.first (off := 1) (N := wr.heap.size) (mark := .int .i64 (-5000000 - (k : Int))) HYL.out rfl rfl (by decide) (by rw [alloc_size]; have := K5.out.size; omega) o6 d6)
        clear K5 H7 HRW HYL o6 d6 c1 ck3
        obtain ⟨ws, hws⟩ : ∃ ws, ws = wr := ⟨wr, rfl⟩
        subst hws
        go_wp2_with fail
        go_loopw [7, 8, 9] (fun e7 e8 e9 wq => ∃ (i g cap h cap' : Nat) (xs ys : List Value), 1 ≤ i ∧ i ≤ far ∧ e9 = .int .i64 (i : Int) ∧ e7 = .slice (some ⟨g, 0, none⟩) (n + i) cap ∧ e8 = .slice (some ⟨h, 0, none⟩) (n' + i) cap' ∧ Hid (Cm ls ms (fun b => b < B ∧ b ≠ M) W k (.slice a n c) (.slice a' n' c') ws wq) ∧ Hid (HL 25 6 0 (.slice a n c) ws.heap.size n i (.int .i64 (5000000 + (k : Int))) g cap xs wq) ∧ Hid (HL 38 7 1 (.slice a' n' c') ws.heap.size n' i (.int .i64 (-5000000 - (k : Int))) h cap' ys wq)) (fun _ _ e _ => far - (RowKit.intOf e).toNat)
        case atStart => exact ⟨1, g, cap, h, cap', _, _, by omega, by omega, rfl, rfl, rfl, K6, H7b, H8⟩
        case round =>
          clear K6 H7b H8
          obtain ⟨i, g, cap, h, cap', xs, ys, hi1, hi2, rfl, rfl, rfl, K, H, H'⟩ := hrel
          by_cases hif : i < far
          · have y2 : (i : Int) < far := by omega
            go_wp2_with (at_builtin; go_loud (refine wpl_rwL _ rfl (.tmp 61) (.tmp 65) rfl (.slice (some ⟨g, 0, none⟩) (n + i) cap) (n + i) cap xs rfl ((H.out.rw_ (by omega)).alloc _) wr.heap.size [.int .i64 (5000000 + (k : Int)), .bool false, .int .i64 0, .string ⟨#[]⟩, .slice none 0 0, .slice none 0 0] rfl one6 rfl (heap_alloc_new wr _) (by omega) ?_))
            intro g2 cap2 w5 o5 d5
            have K5 := hmk ((K.out.alloc HP.out hW _).putL HD.out HP.out hW hkl HES.out (by rw [H.out.mk_.len]; omega) (H.out.alloc _).own (H.out.alloc (.cells ([.int .i64 (5000000 + (k : Int)), .bool false, .int .i64 0, .string ⟨#[]⟩, .slice none 0 0, .slice none 0 0]).toArray 25)).at_ o5 d5)
            have H5 := hmk ((H.out.alloc _).next (by omega) rfl rfl (by decide) (by rw [alloc_size]; have := K.out.size; omega) o5 d5)
            have H5' := hmk ((H'.out.alloc _).keepD ((H.out.rw_ (by omega)).alloc _) (by decide) d5)
            clear K H H' o5 d5
            go_wp2_with (at_builtin; go_loud (refine wpl_rwM _ rfl (.tmp 67) (.tmp 72) rfl (.slice (some ⟨h, 0, none⟩) (n' + i) cap') (n' + i) cap' ys rfl ((H5'.out.rw_ (by omega)).alloc _) w5.heap.size [.string ⟨#[109, 97, 114, 107]⟩, .int .i64 (-5000000 - (k : Int)), .bool false, .int .i64 0, .string ⟨#[]⟩, .slice none 0 0, .slice none 0 0] rfl one7 rfl (heap_alloc_new w5 _) (by omega) ?_))
            intro h2 cap2' w6 o6 d6
            have K6 := hmk ((K5.out.alloc HP.out hW _).putM HD.out HP.out hW hkm HES'.out (by rw [H5'.out.mk_.len]; omega) (H5'.out.alloc _).own (H5'.out.alloc (.cells ([.string ⟨#[109, 97, 114, 107]⟩, .int .i64 (-5000000 - (k : Int)), .bool false, .int .i64 0, .string ⟨#[]⟩, .slice none 0 0, .slice none 0 0]).toArray 38)).at_ o6 d6)
            have H6' := hmk ((H5'.out.alloc _).next (by omega) rfl rfl (by decide) (by rw [alloc_size]; have := K5.out.size; omega) o6 d6)
            have H6 := hmk ((H5.out.alloc _).keepD ((H5'.out.rw_ (by omega)).alloc _) (by decide) d6)
            clear K5 H5 H5' o6 d6
            go_wp2_with fail
            go_roundw
            case rel => exact ⟨i + 1, g2, cap2, h2, cap2', _, _, by omega, by omega, by go_num, rfl, rfl, K6, H6, H6'⟩
            case measure => simp [RowKit.intOf]; omega
          · obtain rfl : i = far := by omega
            have y2 : ¬ (i : Int) < i := by omega
            have hsl : ∀ y, sblk (.slice a n c) = some y → y < W.heap.size := fun y e => HP.out y (blks_all K.out.f.fl K.out.f.fm y (mem_blkL hkl (by rw [HES.out]; exact e)))
            have hsm : ∀ y, sblk (.slice a' n' c') = some y → y < W.heap.size := fun y e => HP.out y (blks_all K.out.f.fl K.out.f.fm y (mem_blkM hkm (by rw [HES'.out]; exact e)))
            have Q4 := hmk (K.out.row hsl hsm HA.out.o4)
            have Q5 := hmk (K.out.row hsl hsm HA.out.o5)
            have hKs := K.out.size
            clear hsl hsm
            go_wp2_with (at_builtin; go_loud (refine wpl_slL _ rfl (.tmp 74) (.tmp 76) rfl W.heap.size u4 k ll rfl (Q4.out.kept (World.grownBy_alloc _ _ none) (by cases u4.ownBlock <;> simp)) wr.heap.size (some ⟨g, 0, none⟩) (n + i) cap rfl (heap_alloc_new wr _) (by omega) (by rw [alloc_size]; omega) ?_))
            intro g7 c7 w7 o7 r7 d7
            have Q7 := hmk (rows_next Q4.out Q5.out r7)
            have hr7 := r7.size
            rw [alloc_size] at hr7
            have HO7 := hmk o7
            have HR7 := hmk r7
            clear o7 r7 d7
            go_wp2_with (at_builtin; go_loud (refine wpl_slM _ rfl (.tmp 78) (.tmp 80) rfl W.heap.size u5 k mm rfl (Q7.out.kept (World.grownBy_alloc _ _ none) (by cases u5.ownBlock <;> simp)) w7.heap.size (some ⟨h, 0, none⟩) (n' + i) cap' rfl (heap_alloc_new w7 _) (by omega) (by rw [alloc_size]; omega) ?_))
            intro g8 c8 w8 o8 r8 d8
            have HN := hmk (AI.next HA.out HD.out HP.out hkl hkm HES.out HES'.out K.out H.out H'.out HO7.out HR7.out o8 r8)
            clear K H H' HA Q4 Q5 Q7 HO7 HR7 o8 r8 d8
            go_wp2_with fail
            go_roundw
            case rel => exact ⟨k + 1, _, _, by omega, by go_num, HN⟩
            case measure => simp [RowKit.intOf]; omega
      · obtain rfl : k = ls.length := by omega
        have y1 : ¬ (ls.length : Int) < ls.length := by omega
        obtain ⟨A4, C4, rfl, hA4, hA4m, hA4g⟩ := owns_cells HA.out.o4
        obtain ⟨A5, C5, rfl, hA5, hA5m, hA5g⟩ := owns_cells HA.out.o5
        have HG4 := hmk hA4g
        have HG5 := hmk hA5g
        clear Rr hA4g hA5g
        go_wp2_with fail
        clear c0
        obtain ⟨w2, hw2⟩ : ∃ w2, w2 = wr := ⟨wr, rfl⟩
        subst hw2
        have HR2 := hmk (rows_fi HR.out HA.out.f)
        go_loopw [10] (fun e wr => ∃ k : Nat, k ≤ ls.length ∧ e = .int .i64 (k : Int) ∧ Hid (Below w2.heap.size w2 wr)) (fun e _ => ls.length - (RowKit.intOf e).toNat)
        case atStart => exact ⟨0, by omega, rfl, Below.refl _ _⟩
        case round =>
          obtain ⟨k, hk, rfl, bk⟩ := hrel
          have c0 : wr.cell? ⟨M, 0, none⟩ = some (.slice A ls.length C) := by rw [cell_of_block (HR2.out.below bk.out).b]; rfl
          by_cases hkl : k < ls.length
          · have y1 : (k : Int) < ls.length := by omega
            have hkm : k < ms.length := by omega
            have y1m : (k : Int) < ms.length := by omega
            obtain ⟨⟨a, n, c, _, es, hnc, hcm, hnm, _⟩, _⟩ := HA.out.f.fl ls[k] (List.getElem_mem hkl)
            obtain ⟨⟨a', n', c', _, es', hnc', hcm', hnm', _⟩, _⟩ := HA.out.f.fm ms[k] (List.getElem_mem hkm)
            have HES := hmk es
            have HES' := hmk es'
            have CK : Hid (∃ g1, A = some ⟨g1, 0, none⟩ ∧ w2.cell? ⟨g1, k, none⟩ = some (.slice a n c)) := by
              obtain ⟨A2, C2, eA, _, _, hAg⟩ := owns_cells HR2.out.l
              obtain ⟨rfl, rfl⟩ : A = A2 ∧ C = C2 := by simpa using eA
              obtain ⟨g1, rfl, hgc⟩ := hAg (by omega)
              exact ⟨g1, rfl, by rw [hgc k hkl, es]⟩
            have CK' : Hid (∃ g1, A' = some ⟨g1, 0, none⟩ ∧ w2.cell? ⟨g1, k, none⟩ = some (.slice a' n' c')) := by
              obtain ⟨A2, C2, eA, _, _, hAg⟩ := owns_cells HR2.out.m
              obtain ⟨rfl, rfl⟩ : A' = A2 ∧ C' = C2 := by simpa using eA
              obtain ⟨g1, rfl, hgc⟩ := hAg (by omega)
              exact ⟨g1, rfl, by rw [hgc k hkm, es']⟩
            obtain ⟨g1, rfl, ck1⟩ := CK.out
            obtain ⟨g3, rfl, ck3⟩ := CK'.out
            have HC1 : Hid (∀ w', Below w2.heap.size w2 w' → w'.cell? ⟨g1, k, none⟩ = some (.slice a n c)) := fun w' hb => (hb.cell (p := ⟨g1, k, none⟩) (World.block_lt_of_cell? w2 _ ck1)).trans ck1
            have HC3 : Hid (∀ w', Below w2.heap.size w2 w' → w'.cell? ⟨g3, k, none⟩ = some (.slice a' n' c')) := fun w' hb => (hb.cell (p := ⟨g3, k, none⟩) (World.block_lt_of_cell? w2 _ ck3)).trans ck3
            clear es es' CK CK' ck1 ck3
            go_wp2_with fail
            clear c0
            obtain ⟨wk, hwk⟩ : ∃ wk, wk = wr := ⟨wr, rfl⟩
            subst hwk
            go_loopw [11] (fun e wr => ∃ i : Nat, i ≤ n ∧ e = .int .i64 (i : Int) ∧ Hid (Below w2.heap.size w2 wr)) (fun e _ => n - (RowKit.intOf e).toNat)
            case atStart => exact ⟨0, by omega, rfl, bk⟩
            case round =>
              clear bk
              obtain ⟨i, hi, rfl, bk⟩ := hrel
              have c0 : wr.cell? ⟨M, 0, none⟩ = some (.slice (some ⟨g1, 0, none⟩) ls.length C) := by rw [cell_of_block (HR2.out.below bk.out).b]; rfl
              have ck := HC1.out wr bk.out
              by_cases hin : i < n
              · have y2 : (i : Int) < n := by omega
                have hFL := HA.out.f.fl ls[k] (List.getElem_mem hkl)
                rw [HES.out] at hFL
                obtain ⟨b, eb, rfl, _⟩ := hFL.1.room (show 0 < c by omega)
                have m1 := HA.out.f.l HD.out k i b hkl _ n c HES.out (by rw [HES.out]; exact eb) hin (.inl hkl)
                clear hFL eb
                have m1r : wr.cell? ⟨b, i * 6, none⟩ = some (.int .i64 (1000 + (k : Int))) := (bk.out.cell (p := ⟨b, i * 6, none⟩) (World.block_lt_of_cell? w2 _ m1)).trans m1
                clear m1
                go_wp2_with fail
                go_roundw
                case rel => exact ⟨i + 1, by omega, by go_num, bk⟩
                case measure => simp [RowKit.intOf]; omega
              · obtain rfl : i = n := by omega
                have y2 : ¬ (i : Int) < i := by omega
                go_wp2_with fail
                clear c0 ck
                obtain ⟨wk5, hwk5⟩ : ∃ wk5, wk5 = wr := ⟨wr, rfl⟩
                subst hwk5
                go_loopw [12] (fun e wr => ∃ i : Nat, i ≤ n' ∧ e = .int .i64 (i : Int) ∧ Hid (Below w2.heap.size w2 wr)) (fun e _ => n' - (RowKit.intOf e).toNat)
                case atStart => exact ⟨0, by omega, rfl, bk⟩
                case round =>
                  clear bk
                  obtain ⟨j, hj, rfl, bk⟩ := hrel
                  have c1 : wr.cell? ⟨M, 1, none⟩ = some (.slice (some ⟨g3, 0, none⟩) ms.length C') := by rw [cell_of_block (HR2.out.below bk.out).b]; rfl
                  have ck := HC3.out wr bk.out
                  by_cases hjn : j < n'
                  · have y3 : (j : Int) < n' := by omega
                    have hFM := HA.out.f.fm ms[k] (List.getElem_mem hkm)
                    rw [HES'.out] at hFM
                    obtain ⟨b', eb, rfl, _⟩ := hFM.1.room (show 0 < c' by omega)
                    have m1 := HA.out.f.m HD.out k j b' hkm _ n' c' HES'.out (by rw [HES'.out]; exact eb) hjn (.inl hkl)
                    clear hFM eb
                    have m1r : wr.cell? ⟨b', j * 7 + 1, none⟩ = some (.int .i64 (-1000 - (k : Int))) := (bk.out.cell (p := ⟨b', j * 7 + 1, none⟩) (World.block_lt_of_cell? w2 _ m1)).trans m1
                    clear m1
                    go_wp2_with fail
                    go_roundw
                    case rel => exact ⟨j + 1, by omega, by go_num, bk⟩
                    case measure => simp [RowKit.intOf]; omega
                  · obtain rfl : j = n' := by omega
                    have y3 : ¬ (j : Int) < j := by omega
                    go_wp2_with fail
                    clear c1 ck
                    obtain ⟨wk6, hwk6⟩ : ∃ wk6, wk6 = wr := ⟨wr, rfl⟩
                    subst hwk6
                    have hl4 := HA.out.l4
                    have hl5 := HA.out.l5
                    obtain ⟨a0, n0, c0, gl, capl, curl, e1, e2, q1, q2, q3, q4, q5⟩ := HA.out.g4 k hkl (by omega)
                    rw [HES.out] at e1
                    simp only [Value.slice.injEq] at e1
                    obtain ⟨rfl, rfl, rfl⟩ := e1
                    obtain ⟨a0', n0', c0', gm, capm, curm, e1', e2', q1', q2', q3', q4', q5'⟩ := HA.out.g5 k hkm (by omega)
                    rw [HES'.out] at e1'
                    simp only [Value.slice.injEq] at e1'
                    obtain ⟨rfl, rfl, rfl⟩ := e1'
                    obtain ⟨g4, eA4, h4⟩ := HG4.out (by omega)
                    obtain ⟨g5, eA5, h5⟩ := HG5.out (by omega)
                    have z4 : w2.cell? ⟨g4, k, none⟩ = some (.slice (some ⟨gl, 0, none⟩) (i + far) capl) := by rw [h4 k (by omega), e2]
                    have z5 : w2.cell? ⟨g5, k, none⟩ = some (.slice (some ⟨gm, 0, none⟩) (j + far) capm) := by rw [h5 k (by omega), e2']
                    have HZ4 : Hid (∀ w', Below w2.heap.size w2 w' → w'.cell? ⟨g4, k, none⟩ = some (.slice (some ⟨gl, 0, none⟩) (i + far) capl)) := fun w' hb => (hb.cell (p := ⟨g4, k, none⟩) (World.block_lt_of_cell? w2 _ z4)).trans z4
                    have HZ5 : Hid (∀ w', Below w2.heap.size w2 w' → w'.cell? ⟨g5, k, none⟩ = some (.slice (some ⟨gm, 0, none⟩) (j + far) capm)) := fun w' hb => (hb.cell (p := ⟨g5, k, none⟩) (World.block_lt_of_cell? w2 _ z5)).trans z5
                    have HQ4 : Hid (∀ w', Below w2.heap.size w2 w' → ∀ q, q < far → w'.cell? ⟨gl, (i + q) * 6, none⟩ = some (.int .i64 (5000000 + (k : Int)))) := fun w' hb q hq => by
                      have e : w2.cell? ⟨gl, (i + q) * 6, none⟩ = some (.int .i64 (5000000 + (k : Int))) := by rw [cell_of_block q4]; exact q5 q hq
                      exact (hb.cell (p := ⟨gl, (i + q) * 6, none⟩) (World.block_lt_of_cell? w2 _ e)).trans e
                    have HQ5 : Hid (∀ w', Below w2.heap.size w2 w' → ∀ q, q < far → w'.cell? ⟨gm, (j + q) * 7 + 1, none⟩ = some (.int .i64 (-5000000 - (k : Int)))) := fun w' hb q hq => by
                      have e : w2.cell? ⟨gm, (j + q) * 7 + 1, none⟩ = some (.int .i64 (-5000000 - (k : Int))) := by rw [cell_of_block q4']; exact q5' q hq
                      exact (hb.cell (p := ⟨gm, (j + q) * 7 + 1, none⟩) (World.block_lt_of_cell? w2 _ e)).trans e
                    subst eA4 eA5
                    clear e2 q3 q4 q5 e2' q3' q4' q5' h4 h5 z4 z5
                    go_loopw [13] (fun e wr => ∃ q : Nat, q ≤ far ∧ e = .int .i64 (q : Int) ∧ Hid (Below w2.heap.size w2 wr)) (fun e _ => far - (RowKit.intOf e).toNat)
                    case atStart => exact ⟨0, by omega, rfl, bk⟩
                    case round =>
                      clear bk
                      obtain ⟨q, hq, rfl, bk⟩ := hrel
                      by_cases hqf : q < far
                      · have y4 : (q : Int) < far := by omega
                        have x0 : wr.cell? ⟨M, 0, none⟩ = some (.slice (some ⟨g1, 0, none⟩) ls.length C) := by rw [cell_of_block (HR2.out.below bk.out).b]; rfl
                        have x1 : wr.cell? ⟨M, 1, none⟩ = some (.slice (some ⟨g3, 0, none⟩) ms.length C') := by rw [cell_of_block (HR2.out.below bk.out).b]; rfl
                        have x2 := HC1.out wr bk.out
                        have x3 := HC3.out wr bk.out
                        have x4 := HZ4.out wr bk.out
                        have x5 := HZ5.out wr bk.out
                        have x6 := HQ4.out wr bk.out q hqf
                        have x7 := HQ5.out wr bk.out q hqf
                        have s0 : ∀ x : Sub wr.heap.size wr, _ := sub_cell x0 (World.block_lt_of_cell? wr _ x0)
                        have s1 : ∀ x : Sub wr.heap.size wr, _ := sub_cell x1 (World.block_lt_of_cell? wr _ x1)
                        have s2 : ∀ x : Sub wr.heap.size wr, _ := sub_cell x2 (World.block_lt_of_cell? wr _ x2)
                        have s3 : ∀ x : Sub wr.heap.size wr, _ := sub_cell x3 (World.block_lt_of_cell? wr _ x3)
                        have s4 : ∀ x : Sub wr.heap.size wr, _ := sub_cell x4 (World.block_lt_of_cell? wr _ x4)
                        have s5 : ∀ x : Sub wr.heap.size wr, _ := sub_cell x5 (World.block_lt_of_cell? wr _ x5)
                        have s6 : ∀ x : Sub wr.heap.size wr, _ := sub_cell x6 (World.block_lt_of_cell? wr _ x6)
                        have s7 : ∀ x : Sub wr.heap.size wr, _ := sub_cell x7 (World.block_lt_of_cell? wr _ x7)
                        have hfi : i + far ≤ 9223372036854775807 := by omega
                        have hfj : j + far ≤ 9223372036854775807 := by omega
                        have z6 : (i : Int) + q < i + far := by omega
                        have z7 : (j : Int) + q < j + far := by omega
                        clear x0 x1 x2 x3 x4 x5 x6 x7
                        go_wp2_with fail
                        refine wp_region_sub wr.heap.size (by kernel_rfl) (by kernel_rfl) ?_
                        repeat (go_big_quiet_step (fail))
                        refine wpQuiet_nil ?_
                        rintro _ ⟨⟨wz, bz⟩, rfl⟩
                        have bk2 := hmk (bk.out.trans (bz.mono bk.out.size))
                        clear s0 s1 s2 s3 s4 s5 s6 s7
                        go_wp2_with fail
                        go_roundw
                        case rel => exact ⟨q + 1, by omega, by go_num, bk2⟩
                        case measure => simp [RowKit.intOf]; omega
                      · obtain rfl : q = far := by omega
                        have y4 : ¬ (q : Int) < q := by omega
                        go_wp2_with fail
                        go_roundw
                        case rel => exact ⟨k + 1, by omega, by go_num, bk⟩
                        case measure => simp [RowKit.intOf]; omega
          · obtain rfl : k = ls.length := by omega
            have y1 : ¬ (ls.length : Int) < ls.length := by omega
            go_wp2_with fail
            go_ret
            exact apa_post HA.out.f bk.out
end Go.Proofs.YthgfomblodhoaaaDoor
