import Derived.Test.YtaecmgkckefgoaaDoorKndA
import Derived.Test.YtaecmgkckefgoaaDoorSamA
/- sameType, of a type and its twin. -/
set_option linter.unusedSimpArgs false
set_option linter.unusedVariables false
namespace Go.Proofs.YtaecmgkckefgoaaDoor
open Go.RowKit Go.Lib
set_option maxHeartbeats 4000000 in
set_option maxRecDepth 100000 in
theorem sametype_any (t : Ty) (S S' : Nat → Prop) (cs ds : List Value) (w : World) (hl : t.lies w S cs) (hl' : t.lies w S' ds) (hS : ∀ b, S b → b < w.heap.size) (hS' : ∀ b, S' b → b < w.heap.size) :
    Calls Tryd.prog 11 #[.agg cs.toArray, .agg ds.toArray] w (BPost true w) := by
  obtain ⟨nm, k, a, F, el, rl, K, E⟩ := t
  obtain ⟨af, cf, bf, qf, ak, ck, bk, qk, ae, ce, be, qe, rfl, hk, hr, hnm, hel, haf, hak, hae, hF, hK, hE⟩ := hl
  obtain ⟨af', cf', bf', qf', ak', ck', bk', qk', ae', ce', be', qe', rfl, _, _, _, _, haf', hak', hae', hF', hK', hE'⟩ := hl'
  dsimp only at hk hr hnm hel haf hak hae hF hK hE haf' hak' hae' hF' hK' hE' ⊢
  have HF := hmk hF
  have HK := hmk hK
  have HE := hmk hE
  have HF' := hmk hF'
  have HK' := hmk hK'
  have HE' := hmk hE'
  clear hF hK hE hF' hK' hE'
  have hlf : F.length ≤ 9223372036854775807 := Nat.le_trans haf.le haf.max
  have hlk : K.length ≤ 9223372036854775807 := Nat.le_trans hak.le hak.max
  have hle : E.length ≤ 9223372036854775807 := Nat.le_trans hae.le hae.max
  have hb0 := box_row w [.string nm, .int .i64 k, .bool a, .slice af F.length cf, .string el, .int .i64 rl, .slice ak K.length ck, .slice ae E.length ce] 26
  have hb1 : rowAt ((w.alloc (.cells #[.string nm, .int .i64 k, .bool a, .slice af F.length cf, .string el, .int .i64 rl, .slice ak K.length ck, .slice ae E.length ce] 26)).alloc (.cells #[.string nm, .int .i64 k, .bool a, .slice af' F.length cf', .string el, .int .i64 rl, .slice ak' K.length ck', .slice ae' E.length ce'] 26)) w.heap.size 0 [.string nm, .int .i64 k, .bool a, .slice af F.length cf, .string el, .int .i64 rl, .slice ak K.length ck, .slice ae E.length ce] := hb0.keep (Below.heap_alloc _ _ _ (by rw [alloc_size]; omega))
  have hb2 : rowAt ((w.alloc (.cells #[.string nm, .int .i64 k, .bool a, .slice af F.length cf, .string el, .int .i64 rl, .slice ak K.length ck, .slice ae E.length ce] 26)).alloc (.cells #[.string nm, .int .i64 k, .bool a, .slice af' F.length cf', .string el, .int .i64 rl, .slice ak' K.length ck', .slice ae' E.length ce'] 26)) (w.heap.size + 1) 0 [.string nm, .int .i64 k, .bool a, .slice af' F.length cf', .string el, .int .i64 rl, .slice ak' K.length ck', .slice ae' E.length ce'] := by
    have := box_row (w.alloc (.cells #[.string nm, .int .i64 k, .bool a, .slice af F.length cf, .string el, .int .i64 rl, .slice ak K.length ck, .slice ae E.length ce] 26)) [.string nm, .int .i64 k, .bool a, .slice af' F.length cf', .string el, .int .i64 rl, .slice ak' K.length ck', .slice ae' E.length ce'] 26
    rwa [alloc_size] at this
  have B0 := two_below w (.cells #[.string nm, .int .i64 k, .bool a, .slice af F.length cf, .string el, .int .i64 rl, .slice ak K.length ck, .slice ae E.length ce] 26) (.cells #[.string nm, .int .i64 k, .bool a, .slice af' F.length cf', .string el, .int .i64 rl, .slice ak' K.length ck', .slice ae' E.length ce'] 26)
  have hz0 : ((w.alloc (.cells #[.string nm, .int .i64 k, .bool a, .slice af F.length cf, .string el, .int .i64 rl, .slice ak K.length ck, .slice ae E.length ce] 26)).alloc (.cells #[.string nm, .int .i64 k, .bool a, .slice af' F.length cf', .string el, .int .i64 rl, .slice ak' K.length ck', .slice ae' E.length ce'] 26)).heap.size = w.heap.size + 1 + 1 := by rw [alloc_size, alloc_size]
  clear hb0
  go_enter Tryd.func11, Tryd.ntmps11
  go_wp2_with fail
  generalize ((w.alloc (.cells #[.string nm, .int .i64 k, .bool a, .slice af F.length cf, .string el, .int .i64 rl, .slice ak K.length ck, .slice ae E.length ce] 26)).alloc (.cells #[.string nm, .int .i64 k, .bool a, .slice af' F.length cf', .string el, .int .i64 rl, .slice ak' K.length ck', .slice ae' E.length ce'] 26)) = w0 at *
  go_loopw [5] (fun e wr => ∃ j : Nat, j ≤ F.length ∧ e = .int .i64 (j : Int) ∧ Below w0.heap.size w0 wr) (fun e _ => F.length - (RowKit.intOf e).toNat)
  case atStart => exact ⟨0, by omega, rfl, Below.refl _ _⟩
  case round =>
    obtain ⟨j, hj, rfl, bj⟩ := hrel
    obtain ⟨d0, d1, d2, d3, d4, d5, d6, d7⟩ := row8z (hb1.keep (bj.block _ (by omega)))
    obtain ⟨f0, f1, f2, f3, f4, f5, f6, f7⟩ := row8z (hb2.keep (bj.block _ (by omega)))
    have hzr := bj.size
    by_cases hjl : j < F.length
    · have y1 : (j : Int) < F.length := by omega
      obtain ⟨hSb, _, _, hrow⟩ := HF.out j hjl
      obtain ⟨hSb', _, _, hrow'⟩ := HF'.out j hjl
      obtain rfl : af = some ⟨bf, qf, none⟩ := haf.at_.resolve_left (by omega)
      obtain rfl : af' = some ⟨bf', qf', none⟩ := haf'.at_.resolve_left (by omega)
      obtain ⟨p0, p1⟩ := row2 (hrow.keep ((bj.block bf (by have := hS _ hSb; omega)).trans (B0.block bf (hS _ hSb))))
      obtain ⟨q0, q1⟩ := row2 (hrow'.keep ((bj.block bf' (by have := hS' _ hSb'; omega)).trans (B0.block bf' (hS' _ hSb'))))
      generalize F[j] = fj at *
      obtain ⟨fa, fb⟩ := fj
      dsimp only at p0 p1 q0 q1
      clear hrow hrow'
      go_wp2_with fail
      go_region
      go_wp2_with fail
      go_roundw
      case rel => exact ⟨j + 1, by omega, by go_num, bj.drew⟩
      case measure => simp [RowKit.intOf]; omega
    · obtain rfl : j = F.length := by omega
      have y1 : ¬ (F.length : Int) < F.length := by omega
      go_wp2_with fail
      go_loopw [6] (fun e wr => ∃ j : Nat, j ≤ K.length ∧ e = .int .i64 (j : Int) ∧ Below w0.heap.size w0 wr) (fun e _ => K.length - (RowKit.intOf e).toNat)
      case atStart => exact ⟨0, by omega, rfl, bj⟩
      case round =>
        clear bj hzr d0 d1 d2 d3 d4 d5 d6 d7 f0 f1 f2 f3 f4 f5 f6 f7
        obtain ⟨j, hj, rfl, bj⟩ := hrel
        obtain ⟨d0, d1, d2, d3, d4, d5, d6, d7⟩ := row8z (hb1.keep (bj.block _ (by omega)))
        obtain ⟨f0, f1, f2, f3, f4, f5, f6, f7⟩ := row8z (hb2.keep (bj.block _ (by omega)))
        have hzr := bj.size
        by_cases hjl : j < K.length
        · have y2 : (j : Int) < K.length := by omega
          obtain ⟨hSb, _, hrow⟩ := HK.out j hjl
          obtain ⟨hSb', _, hrow'⟩ := HK'.out j hjl
          obtain rfl : ak = some ⟨bk, qk, none⟩ := hak.at_.resolve_left (by omega)
          obtain rfl : ak' = some ⟨bk', qk', none⟩ := hak'.at_.resolve_left (by omega)
          have p0 : wr.cell? ⟨bk, qk + j, none⟩ = some (.string K[j]) := by have := (hrow.keep ((bj.block bk (by have := hS _ hSb; omega)).trans (B0.block bk (hS _ hSb)))) 0 _ rfl; simpa using this
          have q0 : wr.cell? ⟨bk', qk' + j, none⟩ = some (.string K[j]) := by have := (hrow'.keep ((bj.block bk' (by have := hS' _ hSb'; omega)).trans (B0.block bk' (hS' _ hSb')))) 0 _ rfl; simpa using this
          generalize K[j] = kj at *
          clear hrow hrow'
          go_wp2_with fail
          go_region
          go_wp2_with fail
          go_roundw
          case rel => exact ⟨j + 1, by omega, by go_num, bj.drew⟩
          case measure => simp [RowKit.intOf]; omega
        · obtain rfl : j = K.length := by omega
          have y2 : ¬ (K.length : Int) < K.length := by omega
          go_wp2_with fail
          go_loopw [7] (fun e wr => ∃ j : Nat, j ≤ E.length ∧ e = .int .i64 (j : Int) ∧ Below w0.heap.size w0 wr) (fun e _ => E.length - (RowKit.intOf e).toNat)
          case atStart => exact ⟨0, by omega, rfl, bj⟩
          case round =>
            clear bj hzr d0 d1 d2 d3 d4 d5 d6 d7 f0 f1 f2 f3 f4 f5 f6 f7
            obtain ⟨j, hj, rfl, bj⟩ := hrel
            obtain ⟨d0, d1, d2, d3, d4, d5, d6, d7⟩ := row8z (hb1.keep (bj.block _ (by omega)))
            obtain ⟨f0, f1, f2, f3, f4, f5, f6, f7⟩ := row8z (hb2.keep (bj.block _ (by omega)))
            have hzr := bj.size
            by_cases hjl : j < E.length
            · have y3 : (j : Int) < E.length := by omega
              obtain ⟨hSb, csj, hrow, hlj⟩ := liesL_get HE.out j hjl
              obtain ⟨hSb', dsj, hrow', hlj'⟩ := liesL_get HE'.out j hjl
              obtain rfl : ae = some ⟨be, qe, none⟩ := hae.at_.resolve_left (by omega)
              obtain rfl : ae' = some ⟨be', qe', none⟩ := hae'.at_.resolve_left (by omega)
              have hk0 : ∀ x, S x → wr.heap[x]? = w.heap[x]? := fun x hx => (bj.block x (by have := hS x hx; omega)).trans (B0.block x (hS x hx))
              have hk1 : ∀ x, S' x → wr.heap[x]? = w.heap[x]? := fun x hx => (bj.block x (by have := hS' x hx; omega)).trans (B0.block x (hS' x hx))
              obtain ⟨ek, eb, ei, es, eal, enl, ecl, eam, enm, ecm, rfl⟩ := V.ten hlj
              obtain ⟨ek', eb', ei', es', eal', enl', ecl', eam', enm', ecm', rfl⟩ := V.ten hlj'
              have rw0 := row6 (hrow.keep (hk0 _ hSb))
              have rw1 := row6 (hrow'.keep (hk1 _ hSb'))
              have hbl : be < wr.heap.size := World.block_lt_of_cell? wr _ rw0.1
              have hbl' : be' < wr.heap.size := World.block_lt_of_cell? wr _ rw1.1
              have p0 : ∀ x : Sub wr.heap.size wr, _ := sub_cell rw0.1 hbl
              have p1 : ∀ x : Sub wr.heap.size wr, _ := sub_cell rw0.2.1 hbl
              have p2 : ∀ x : Sub wr.heap.size wr, _ := sub_cell rw0.2.2.1 hbl
              have p3 : ∀ x : Sub wr.heap.size wr, _ := sub_cell rw0.2.2.2.1 hbl
              have p4 : ∀ x : Sub wr.heap.size wr, _ := sub_cell rw0.2.2.2.2.1 hbl
              have p5 : ∀ x : Sub wr.heap.size wr, _ := sub_cell rw0.2.2.2.2.2 hbl
              have q0 : ∀ x : Sub wr.heap.size wr, _ := sub_cell rw1.1 hbl'
              have q1 : ∀ x : Sub wr.heap.size wr, _ := sub_cell rw1.2.1 hbl'
              have q2 : ∀ x : Sub wr.heap.size wr, _ := sub_cell rw1.2.2.1 hbl'
              have q3 : ∀ x : Sub wr.heap.size wr, _ := sub_cell rw1.2.2.2.1 hbl'
              have q4 : ∀ x : Sub wr.heap.size wr, _ := sub_cell rw1.2.2.2.2.1 hbl'
              have q5 : ∀ x : Sub wr.heap.size wr, _ := sub_cell rw1.2.2.2.2.2 hbl'
              have u7 : ∀ x : Sub wr.heap.size wr, _ := sub_cell d7 (by omega)
              have v7 : ∀ x : Sub wr.heap.size wr, _ := sub_cell f7 (by omega)
              have CI : Hid (∀ x : Sub wr.heap.size wr, Calls Tryd.prog 23 #[.agg #[.int .i64 ek, .bool eb, .int .i64 ei, .string es, .slice eal enl ecl, .slice eam enm ecm], .agg #[.int .i64 ek', .bool eb', .int .i64 ei', .string es', .slice eal' enl' ecl', .slice eam' enm' ecm']] x.w fun e w'' => e = .returned (.bool true) ∧ ∃ y : Sub wr.heap.size wr, w'' = y.w) :=
                sub_call fun w' hb => by
                  refine (same_any E[j] false false E[j] S S' _ _ w' (V.lies_keep (fun h => h) (fun x hx => (hb.block x (by have := hS x hx; omega)).trans (hk0 x hx)) (fun _ h => h) _ hlj) (V.lies_keep (fun h => h) (fun x hx => (hb.block x (by have := hS' x hx; omega)).trans (hk1 x hx)) (fun _ h => h) _ hlj') (fun x hx => by have := hS x hx; have := hb.size; omega) (fun x hx => by have := hS' x hx; have := hb.size; omega)).mono ?_
                  rintro e w'' ⟨he, h2⟩
                  rw [V.eqB_refl] at he
                  exact ⟨he, hb.trans (h2.mono hb.size)⟩
              clear hlj hlj' hrow hrow' rw0 rw1 hk0 hk1
              go_wp2_with fail
              refine wp_region_sub wr.heap.size (by kernel_rfl) (by kernel_rfl) ?_
              repeat (go_big_quiet_step (exact CI.out _))
              refine wpQuiet_nil ?_
              rintro _ ⟨⟨wq, bq⟩, rfl⟩
              go_wp2_with fail
              go_roundw
              case rel => exact ⟨j + 1, by omega, by go_num, bj.trans (bq.mono hzr)⟩
              case measure => simp [RowKit.intOf]; omega
            · obtain rfl : j = E.length := by omega
              have y3 : ¬ (E.length : Int) < E.length := by omega
              go_wp2_with fail
              go_ret
              exact ⟨rfl, B0.trans (bj.mono (by omega))⟩
end Go.Proofs.YtaecmgkckefgoaaDoor
