import Derived.Test.YtjgbjhahmgegiaaGreatDoorG39
/- stepsSame of the same steps, of however many. -/
set_option linter.unusedSimpArgs false
set_option linter.unusedVariables false
set_option maxRecDepth 100000
namespace Go.Proofs.YtjgbjhahmgegiaaGreatDoor
open Go.RowKit Go.Lib
set_option maxHeartbeats 16000000 in
theorem steps_sameW (xs : List Stp) (S S' : Nat → Prop) (al al' : Option Addr) (cl cl' bl bl' ol ol' : Nat) (w : World) (hd : Headed al xs.length cl bl ol) (hd' : Headed al' xs.length cl' bl' ol') (hl : liesT w S xs bl ol) (hl' : liesT w S' xs bl' ol') (hS : ∀ x, S x → x < w.heap.size) (hS' : ∀ x, S' x → x < w.heap.size) (hn : xs.length ≤ 2147483648) :
    Calls Tryz.prog 10 #[.slice al xs.length cl, .slice al' xs.length cl'] w (BPost true w) := by
  have HL := hmk hl
  have HL' := hmk hl'
  have y0 : ((xs.length : Int) != (xs.length : Int)) = false := by simp
  clear hl hl'
  go_enter Tryz.func10, Tryz.ntmps10
  go_wp2_with fail
  go_loopw [5] (fun e wr => ∃ j : Nat, j ≤ xs.length ∧ e = .int .i64 (j : Int) ∧ Below w.heap.size w wr) (fun e _ => xs.length - (RowKit.intOf e).toNat)
  case atStart => exact ⟨0, by omega, rfl, Below.refl _ _⟩
  case round =>
    obtain ⟨j, hj, rfl, bj⟩ := hrel
    have hzr := bj.size
    by_cases hjl : j < xs.length
    · have y1 : (j : Int) < xs.length := by omega
      obtain ⟨hSb, csj, hrow, hlj⟩ := liesT_keep (fun x hx => bj.block x (hS x hx)) (fun _ h => h) HL.out j hjl
      obtain ⟨hSb', csj', hrow', hlj'⟩ := liesT_keep (fun x hx => bj.block x (hS' x hx)) (fun _ h => h) HL'.out j hjl
      obtain rfl : al = some ⟨bl, ol, none⟩ := hd.at_.resolve_left (by omega)
      obtain rfl : al' = some ⟨bl', ol', none⟩ := hd'.at_.resolve_left (by omega)
      obtain ⟨ek, eb, ei, es, eal, enl, ecl, eam, enm, ecm, rfl⟩ := V.ten hlj
      obtain ⟨ek', eb', ei', es', eal', enl', ecl', eam', enm', ecm', rfl⟩ := V.ten hlj'
      obtain ⟨st, hst⟩ : ∃ st, xs[j] = st := ⟨_, rfl⟩
      rw [hst] at hrow hrow' hlj hlj'
      obtain ⟨op, pa, fr, v⟩ := st
      dsimp only at hrow hrow' hlj hlj'
      obtain ⟨r0, r1, r2, r3, r4, r5, r6, r7, r8⟩ := row9 hrow
      obtain ⟨s0, s1, s2, s3, s4, s5, s6, s7, s8⟩ := row9 hrow'
      have hbl : bl < wr.heap.size := World.block_lt_of_cell? wr _ r0
      have hbl' : bl' < wr.heap.size := World.block_lt_of_cell? wr _ s0
      have p0 : ∀ x : Sub wr.heap.size wr, _ := sub_cell r0 hbl
      have q0 : ∀ x : Sub wr.heap.size wr, _ := sub_cell s0 hbl'
      have p1 : ∀ x : Sub wr.heap.size wr, _ := sub_cell r1 hbl
      have q1 : ∀ x : Sub wr.heap.size wr, _ := sub_cell s1 hbl'
      have p2 : ∀ x : Sub wr.heap.size wr, _ := sub_cell r2 hbl
      have q2 : ∀ x : Sub wr.heap.size wr, _ := sub_cell s2 hbl'
      have p3 : ∀ x : Sub wr.heap.size wr, _ := sub_cell r3 hbl
      have q3 : ∀ x : Sub wr.heap.size wr, _ := sub_cell s3 hbl'
      have p4 : ∀ x : Sub wr.heap.size wr, _ := sub_cell r4 hbl
      have q4 : ∀ x : Sub wr.heap.size wr, _ := sub_cell s4 hbl'
      have p5 : ∀ x : Sub wr.heap.size wr, _ := sub_cell r5 hbl
      have q5 : ∀ x : Sub wr.heap.size wr, _ := sub_cell s5 hbl'
      have p6 : ∀ x : Sub wr.heap.size wr, _ := sub_cell r6 hbl
      have q6 : ∀ x : Sub wr.heap.size wr, _ := sub_cell s6 hbl'
      have p7 : ∀ x : Sub wr.heap.size wr, _ := sub_cell r7 hbl
      have q7 : ∀ x : Sub wr.heap.size wr, _ := sub_cell s7 hbl'
      have p8 : ∀ x : Sub wr.heap.size wr, _ := sub_cell r8 hbl
      have q8 : ∀ x : Sub wr.heap.size wr, _ := sub_cell s8 hbl'
      have CI : Hid (∀ x : Sub wr.heap.size wr, Calls Tryz.prog 11 #[.agg #[.int .i64 ek, .bool eb, .int .i64 ei, .string es, .slice eal enl ecl, .slice eam enm ecm], .agg #[.int .i64 ek', .bool eb', .int .i64 ei', .string es', .slice eal' enl' ecl', .slice eam' enm' ecm'], .int .i64 0] x.w fun e w'' => e = .returned (.bool true) ∧ ∃ y : Sub wr.heap.size wr, w'' = y.w) :=
        sub_call fun w' hb => (samv_any v 0 S S' _ _ w' (by omega) (by omega) (V.lies_keep (fun h => h) (fun x hx => hb.block x (by have := hS x hx; omega)) (fun _ h => h) _ hlj) (V.lies_keep (fun h => h) (fun x hx => hb.block x (by have := hS' x hx; omega)) (fun _ h => h) _ hlj') (fun x hx => by have := hS x hx; have := hb.size; omega) (fun x hx => by have := hS' x hx; have := hb.size; omega)).mono fun e w'' h => ⟨h.1, hb.trans (h.2.mono hb.size)⟩
      have ne : ∀ s : ByteArray, (s.toList != s.toList) = false := fun s => by simp
      have n1 := ne op
      have n2 := ne pa
      have n3 := ne fr
      clear hlj hlj' hrow hrow' r0 r1 r2 r3 r4 r5 r6 r7 r8 s0 s1 s2 s3 s4 s5 s6 s7 s8 hst ne
      go_wp2_with fail
      refine wp_region_sub wr.heap.size (by kernel_rfl) (by kernel_rfl) ?_
      repeat (go_big_quiet_step (exact CI.out _))
      refine wpQuiet_nil ?_
      rintro _ ⟨⟨wq, bq⟩, rfl⟩
      go_wp2_with fail
      go_roundw
      case rel => exact ⟨j + 1, by omega, by go_num, bj.trans (bq.mono hzr)⟩
      case measure => simp [RowKit.intOf]; omega
    · obtain rfl : j = xs.length := by omega
      have y1 : ¬ (xs.length : Int) < xs.length := by omega
      go_wp2_with fail
      go_ret
      exact ⟨rfl, bj⟩
end Go.Proofs.YtjgbjhahmgegiaaGreatDoor
