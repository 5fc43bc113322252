/- joined: PjG PjF -/
import Derived.Test.YtjgbjhahmgegiaaGreatDoorPjE
/- rows of steps in memory; stepsSame of the same steps. -/
set_option linter.unusedSimpArgs false
set_option linter.unusedVariables false
set_option maxRecDepth 100000
namespace Go.Proofs.YtjgbjhahmgegiaaGreatDoor
open Go.RowKit Go.Lib
/-- a step: its Op, its Path, its From, its Value -/
abbrev Stp := ByteArray × ByteArray × ByteArray × V
/-- steps in memory -/
def liesT (w : World) (S : Nat → Prop) (l : List Stp) (b o : Nat) : Prop := ∀ (j : Nat) (h : j < l.length), S b ∧ ∃ cs, rowAt w b (o + j * 9) (.string (l[j]).1 :: .string (l[j]).2.1 :: .string (l[j]).2.2.1 :: cs) ∧ (l[j]).2.2.2.lies false w S cs
theorem liesT_keep {w w' : World} {S S' : Nat → Prop} {l : List Stp} {b o : Nat} (hw : ∀ b, S b → w'.heap[b]? = w.heap[b]?) (hS : ∀ b, S b → S' b) (h : liesT w S l b o) : liesT w' S' l b o := fun j hj => by
  obtain ⟨h1, cs, h2, h3⟩ := h j hj
  exact ⟨hS b h1, cs, h2.keep (hw b h1), V.lies_keep (fun h => h) hw hS _ h3⟩
theorem row9 {w : World} {b o : Nat} {c0 c1 c2 c3 c4 c5 c6 c7 c8 : Value} (h : rowAt w b o [c0, c1, c2, c3, c4, c5, c6, c7, c8]) :
    w.cell? ⟨b, o, none⟩ = some c0 ∧ w.cell? ⟨b, o + 1, none⟩ = some c1 ∧ w.cell? ⟨b, o + 2, none⟩ = some c2 ∧ w.cell? ⟨b, o + 3, none⟩ = some c3 ∧ w.cell? ⟨b, o + 4, none⟩ = some c4 ∧ w.cell? ⟨b, o + 5, none⟩ = some c5 ∧ w.cell? ⟨b, o + 6, none⟩ = some c6 ∧ w.cell? ⟨b, o + 7, none⟩ = some c7 ∧ w.cell? ⟨b, o + 8, none⟩ = some c8 :=
  ⟨h 0 _ rfl, h 1 _ rfl, h 2 _ rfl, h 3 _ rfl, h 4 _ rfl, h 5 _ rfl, h 6 _ rfl, h 7 _ rfl, h 8 _ rfl⟩
set_option maxHeartbeats 16000000 in
theorem steps_same (xs : List Stp) (S S' : Nat → Prop) (al al' : Option Addr) (cl cl' bl bl' ol ol' : Nat) (w : World) (hd : Headed al xs.length cl bl ol) (hd' : Headed al' xs.length cl' bl' ol') (hl : liesT w S xs bl ol) (hl' : liesT w S' xs bl' ol') (hS : ∀ x, S x → x < w.heap.size) (hS' : ∀ x, S' x → x < w.heap.size) (hn : xs.length ≤ 100000000) :
    Calls Tryz.prog 10 #[.slice al xs.length cl, .slice al' xs.length cl'] w (BPost true w) := by
  have HL := hmk hl
  have HL' := hmk hl'
  have y0 : ((xs.length : Int) != (xs.length : Int)) = false := by simp
  clear hl hl'
  go_enter Tryz.func10, Tryz.ntmps10
  go_wp2_with fail
  go_loopw [5] (fun e wr => ∃ j : Nat, j ≤ xs.length ∧ e = .int .i64 (j : Int) ∧ Below w.heap.size w wr) (fun e _ => xs.length - (RowKit.intOf e).toNat)
  case atStart => exact ⟨0, by omega, rfl, Below.refl _ _⟩
  case round =>
    obtain ⟨j, hj, rfl, bj⟩ := hrel
    have hzr := bj.size
    by_cases hjl : j < xs.length
    · have y1 : (j : Int) < xs.length := by omega
      obtain ⟨hSb, csj, hrow, hlj⟩ := liesT_keep (fun x hx => bj.block x (hS x hx)) (fun _ h => h) HL.out j hjl
      obtain ⟨hSb', csj', hrow', hlj'⟩ := liesT_keep (fun x hx => bj.block x (hS' x hx)) (fun _ h => h) HL'.out j hjl
      obtain rfl : al = some ⟨bl, ol, none⟩ := hd.at_.resolve_left (by omega)
      obtain rfl : al' = some ⟨bl', ol', none⟩ := hd'.at_.resolve_left (by omega)
      obtain ⟨ek, eb, ei, es, eal, enl, ecl, eam, enm, ecm, rfl⟩ := V.ten hlj
      obtain ⟨ek', eb', ei', es', eal', enl', ecl', eam', enm', ecm', rfl⟩ := V.ten hlj'
      obtain ⟨st, hst⟩ : ∃ st, xs[j] = st := ⟨_, rfl⟩
      rw [hst] at hrow hrow' hlj hlj'
      obtain ⟨op, pa, fr, v⟩ := st
      dsimp only at hrow hrow' hlj hlj'
      obtain ⟨r0, r1, r2, r3, r4, r5, r6, r7, r8⟩ := row9 hrow
      obtain ⟨s0, s1, s2, s3, s4, s5, s6, s7, s8⟩ := row9 hrow'
      have hbl : bl < wr.heap.size := World.block_lt_of_cell? wr _ r0
      have hbl' : bl' < wr.heap.size := World.block_lt_of_cell? wr _ s0
      have p0 : ∀ x : Sub wr.heap.size wr, _ := sub_cell r0 hbl
      have q0 : ∀ x : Sub wr.heap.size wr, _ := sub_cell s0 hbl'
      have p1 : ∀ x : Sub wr.heap.size wr, _ := sub_cell r1 hbl
      have q1 : ∀ x : Sub wr.heap.size wr, _ := sub_cell s1 hbl'
      have p2 : ∀ x : Sub wr.heap.size wr, _ := sub_cell r2 hbl
      have q2 : ∀ x : Sub wr.heap.size wr, _ := sub_cell s2 hbl'
      have p3 : ∀ x : Sub wr.heap.size wr, _ := sub_cell r3 hbl
      have q3 : ∀ x : Sub wr.heap.size wr, _ := sub_cell s3 hbl'
      have p4 : ∀ x : Sub wr.heap.size wr, _ := sub_cell r4 hbl
      have q4 : ∀ x : Sub wr.heap.size wr, _ := sub_cell s4 hbl'
      have p5 : ∀ x : Sub wr.heap.size wr, _ := sub_cell r5 hbl
      have q5 : ∀ x : Sub wr.heap.size wr, _ := sub_cell s5 hbl'
      have p6 : ∀ x : Sub wr.heap.size wr, _ := sub_cell r6 hbl
      have q6 : ∀ x : Sub wr.heap.size wr, _ := sub_cell s6 hbl'
      have p7 : ∀ x : Sub wr.heap.size wr, _ := sub_cell r7 hbl
      have q7 : ∀ x : Sub wr.heap.size wr, _ := sub_cell s7 hbl'
      have p8 : ∀ x : Sub wr.heap.size wr, _ := sub_cell r8 hbl
      have q8 : ∀ x : Sub wr.heap.size wr, _ := sub_cell s8 hbl'
      have CI : Hid (∀ x : Sub wr.heap.size wr, Calls Tryz.prog 11 #[.agg #[.int .i64 ek, .bool eb, .int .i64 ei, .string es, .slice eal enl ecl, .slice eam enm ecm], .agg #[.int .i64 ek', .bool eb', .int .i64 ei', .string es', .slice eal' enl' ecl', .slice eam' enm' ecm'], .int .i64 0] x.w fun e w'' => e = .returned (.bool true) ∧ ∃ y : Sub wr.heap.size wr, w'' = y.w) :=
        sub_call fun w' hb => (samv_any v 0 S S' _ _ w' (by omega) (by omega) (V.lies_keep (fun h => h) (fun x hx => hb.block x (by have := hS x hx; omega)) (fun _ h => h) _ hlj) (V.lies_keep (fun h => h) (fun x hx => hb.block x (by have := hS' x hx; omega)) (fun _ h => h) _ hlj') (fun x hx => by have := hS x hx; have := hb.size; omega) (fun x hx => by have := hS' x hx; have := hb.size; omega)).mono fun e w'' h => ⟨h.1, hb.trans (h.2.mono hb.size)⟩
      have ne : ∀ s : ByteArray, (s.toList != s.toList) = false := fun s => by simp
      have n1 := ne op
      have n2 := ne pa
      have n3 := ne fr
      clear hlj hlj' hrow hrow' r0 r1 r2 r3 r4 r5 r6 r7 r8 s0 s1 s2 s3 s4 s5 s6 s7 s8 hst ne
      go_wp2_with fail
      refine wp_region_sub wr.heap.size (by kernel_rfl) (by kernel_rfl) ?_
      repeat (go_big_quiet_step (exact CI.out _))
      refine wpQuiet_nil ?_
      rintro _ ⟨⟨wq, bq⟩, rfl⟩
      go_wp2_with fail
      go_roundw
      case rel => exact ⟨j + 1, by omega, by go_num, bj.trans (bq.mono hzr)⟩
      case measure => simp [RowKit.intOf]; omega
    · obtain rfl : j = xs.length := by omega
      have y1 : ¬ (xs.length : Int) < xs.length := by omega
      go_wp2_with fail
      go_ret
      exact ⟨rfl, bj⟩
end Go.Proofs.YtjgbjhahmgegiaaGreatDoor
/- freeholdref00's bound: a value, a list of values. -/
set_option maxRecDepth 100000
namespace Go.Proofs.YtjgbjhahmgegiaaGreatDoor
open Go.RowKit Go.Lib
/-- whether a value is beyond the bound; if not, how heavy it is -/
def BeyN (x : Nat) (w : World) (e : Ending) (w' : World) : Prop := ∃ r, e = .returned (.bool r) ∧ (r = false → x ≤ 2147483647) ∧ Below w.heap.size w w'
set_option maxHeartbeats 4000000 in
theorem beyondN_any (v : V) (S : Nat → Prop) (cs : List Value) (w : World) (hl : v.lies false w S cs) (hS : ∀ b, S b → b < w.heap.size) : Calls Tryz.prog 6 #[.agg cs.toArray] w (BeyN v.wt w) := by
  obtain ⟨k, b, i, s, al, nl, cl, am, nm, cm, rfl⟩ := V.ten hl
  have ga : w.grownBy ((w.alloc (.cells #[.int .i64 k, .bool b, .int .i64 i, .string s, .slice al nl cl, .slice am nm cm] 25)).alloc (.cells #[.int .i64 0] 42)) none := grown_alloc (World.grownBy_alloc _ _ _) _
  have hn := alloc2_new w (.cells #[.int .i64 k, .bool b, .int .i64 i, .string s, .slice al nl cl, .slice am nm cm] 25) (.cells #[.int .i64 0] 42)
  have hC : Cnt (w.heap.size + 1) 0 ((w.alloc (.cells #[.int .i64 k, .bool b, .int .i64 i, .string s, .slice al nl cl, .slice am nm cm] 25)).alloc (.cells #[.int .i64 0] 42)) := ⟨by rw [cell_of_block hn]; rfl, frozen_of_block hn 0⟩
  have c := cval_any v (w.heap.size + 1) 0 65520 S _ _ (V.lies_keep (fun h => h) (fun x hx => ga.block x (hS x hx) (by simp)) (fun _ h => h) _ hl) (fun x hx => ⟨by have := hS x hx; omega, Nat.lt_of_lt_of_le (hS x hx) ga.size⟩) hC (by omega) (by omega)
  have e5 : ((65520 : Nat) : Int) = 65520 := rfl
  rw [e5] at c
  go_enter Tryz.func6, Tryz.ntmps6
  go_wp2_with fail
  refine c.mono ?_
  rintro e w1 ⟨r, rfl, g1, h1⟩
  go_wp2_with fail
  go_ret
  exact ⟨r, rfl, fun h => by have := (h1 h).1; omega, (below_of_grown ga).grown g1 ga.size (fun q e => by cases e; omega)⟩
end Go.Proofs.YtjgbjhahmgegiaaGreatDoor
