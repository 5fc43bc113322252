/- joined: SrwX OneA -/
import Derived.Test.YtjfldbmopjojdaaDoorG17
set_option linter.unusedSimpArgs false
set_option linter.unusedVariables false
namespace Go.Proofs.YtjfldbmopjojdaaDoor
open Go.RowKit Go.Lib
def rowB (l l' : List V) : Bool := decide (l.length = l'.length) && eqL l l'
theorem rowB_refl (l : List V) : rowB l l = true := by rw [rowB, eqL_refl]; simp
set_option maxHeartbeats 8000000 in
set_option maxRecDepth 100000 in
theorem samerow_any (l l' : List V) (R R' : Bool) (S S' : Nat → Prop) (al al' : Option Addr) (cl bl ol cl' bl' ol' : Nat) (w : World) (hal : Headed al l.length cl bl ol) (hal' : Headed al' l'.length cl' bl' ol') (hl : liesL R w S l bl ol) (hl' : liesL R' w S' l' bl' ol') (hS : ∀ x, S x → x < w.heap.size) (hS' : ∀ x, S' x → x < w.heap.size) :
 Calls Tryd.prog 28 #[.slice al l.length cl, .slice al' l'.length cl'] w (BPost (rowB l l') w) := by
 have HL : Hid (liesL R w S l bl ol) := hl
 have HL' : Hid (liesL R' w S' l' bl' ol') := hl'
 clear hl hl'
 have hll : l.length ≤ 9223372036854775807 := Nat.le_trans hal.le hal.max
 have hll' : l'.length ≤ 9223372036854775807 := Nat.le_trans hal'.le hal'.max
 by_cases h5 : l.length = l'.length
 rotate_left
 ·have HF : Hid (rowB l l' = false) := by show _ = _; rw [rowB, decide_eq_false h5]; rfl
  have y5 : ((l.length : Int) != (l'.length : Int)) = true := by rw [bne_iff_ne]; omega
  have y5' : ¬ (l.length : Int) = l'.length := by omega
  go_enter Tryd.func28, Tryd.ntmps28
  go_wp2_with fail
  go_ret
  exact ⟨by rw [HF.out]; rfl, Below.refl _ _⟩
 have HE : Hid (rowB l l' = eqL l l') := by show _ = _; rw [rowB, decide_eq_true h5]; rfl
 generalize rowB l l' = RR at *
 have y5 : ((l.length : Int) != (l'.length : Int)) = false := by rw [bne_eq_false_iff_eq]; omega
 have H5 : Hid (l.length = l'.length) := h5
 have y5' : (l.length : Int) = l'.length := by omega
 clear h5
 go_enter Tryd.func28, Tryd.ntmps28
 go_wp2_with fail
 go_loopw [5] (fun e wr => ∃ j : Nat, j ≤ l.length ∧ e = .int .i64 (j : Int) ∧ Below w.heap.size w wr ∧ Hid (eqL l l' = eqL (l.drop j) (l'.drop j))) (fun e _ => l.length - (RowKit.intOf e).toNat)
 case atStart => exact ⟨0, by omega, rfl, Below.refl _ _, rfl⟩
 case round =>
  obtain ⟨j, hj, rfl, bj, HJ⟩ := hrel
  by_cases hjl : j < l.length
  ·have y1 : (j : Int) < l.length := by omega
   have hjl' : j < l'.length := by have := H5.out; omega
   have y2 : (j : Int) < l'.length := by omega
   obtain ⟨hSb, csj, hrow, hlj⟩ := liesL_get HL.out j hjl
   obtain ⟨hSb', dsj, hrow', hlj'⟩ := liesL_get HL'.out j hjl'
   obtain rfl : al = some ⟨bl, ol, none⟩ := hal.at_.resolve_left (by omega)
   obtain rfl : al' = some ⟨bl', ol', none⟩ := hal'.at_.resolve_left (by omega)
   have hk0 : ∀ x, S x → wr.heap[x]? = w.heap[x]? := fun x hx => bj.block x (hS x hx)
   have hk1 : ∀ x, S' x → wr.heap[x]? = w.heap[x]? := fun x hx => bj.block x (hS' x hx)
   obtain ⟨ek, eb, ei, es, eal, enl, ecl, eam, enm, ecm, rfl⟩ := V.ten hlj
   obtain ⟨ek', eb', ei', es', eal', enl', ecl', eam', enm', ecm', rfl⟩ := V.ten hlj'
   have rw0 := row6 (hrow.keep (hk0 _ hSb))
   have rw1 := row6 (hrow'.keep (hk1 _ hSb'))
   have hbl : bl < wr.heap.size := World.block_lt_of_cell? wr _ rw0.1
   have hbl' : bl' < wr.heap.size := World.block_lt_of_cell? wr _ rw1.1
   have hzr := bj.size
   have p0 : ∀ x : Sub wr.heap.size wr, _ := sub_cell rw0.1 hbl
   have p1 : ∀ x : Sub wr.heap.size wr, _ := sub_cell rw0.2.1 hbl
   have p2 : ∀ x : Sub wr.heap.size wr, _ := sub_cell rw0.2.2.1 hbl
   have p3 : ∀ x : Sub wr.heap.size wr, _ := sub_cell rw0.2.2.2.1 hbl
   have p4 : ∀ x : Sub wr.heap.size wr, _ := sub_cell rw0.2.2.2.2.1 hbl
   have p5 : ∀ x : Sub wr.heap.size wr, _ := sub_cell rw0.2.2.2.2.2 hbl
   have q0 : ∀ x : Sub wr.heap.size wr, _ := sub_cell rw1.1 hbl'
   have q1 : ∀ x : Sub wr.heap.size wr, _ := sub_cell rw1.2.1 hbl'
   have q2 : ∀ x : Sub wr.heap.size wr, _ := sub_cell rw1.2.2.1 hbl'
   have q3 : ∀ x : Sub wr.heap.size wr, _ := sub_cell rw1.2.2.2.1 hbl'
   have q4 : ∀ x : Sub wr.heap.size wr, _ := sub_cell rw1.2.2.2.2.1 hbl'
   have q5 : ∀ x : Sub wr.heap.size wr, _ := sub_cell rw1.2.2.2.2.2 hbl'
   have CI : Hid (∀ x : Sub wr.heap.size wr, Calls Tryd.prog 13 #[.agg #[.int .i64 ek, .bool eb, .int .i64 ei, .string es, .slice eal enl ecl, .slice eam enm ecm], .agg #[.int .i64 ek', .bool eb', .int .i64 ei', .string es', .slice eal' enl' ecl', .slice eam' enm' ecm']] x.w fun e w'' => e = .returned (.bool (V.eqB l[j] l'[j])) ∧ ∃ y : Sub wr.heap.size wr, w'' = y.w) :=
    sub_call fun w' hb => by
     refine (same_any l[j] R R' l'[j] S S' _ _ w' (V.lies_keep (fun h => h) (fun x hx => (hb.block x (by have := hS x hx; omega)).trans (hk0 x hx)) (fun _ h => h) _ hlj) (V.lies_keep (fun h => h) (fun x hx => (hb.block x (by have := hS' x hx; omega)).trans (hk1 x hx)) (fun _ h => h) _ hlj') (fun x hx => by have := hS x hx; have := hb.size; omega) (fun x hx => by have := hS' x hx; have := hb.size; omega)).mono ?_
     rintro e w'' ⟨he, h2⟩
     exact ⟨he, hb.trans (h2.mono hb.size)⟩
   have HD : Hid (eqL l l' = (V.eqB l[j] l'[j] && eqL (l.drop (j + 1)) (l'.drop (j + 1)))) := by show _ = _; rw [HJ.out, eqL_drop H5.out hjl]
   generalize V.eqB l[j] l'[j] = Z at *
   clear hlj hlj' hrow hrow' rw0 rw1 HJ hk0 hk1
   go_wp2_with fail
   refine wp_region_sub wr.heap.size (by kernel_rfl) (by kernel_rfl) ?_
   repeat (go_big_quiet_step (exact CI.out _))
   refine wpQuiet_nil ?_
   rintro _ ⟨⟨wq, bq⟩, rfl⟩
   cases Z
   ·have HF : Hid (RR = false) := by show _ = _; rw [HE.out, HD.out]; rfl
    go_wp2_with fail
    go_ret
    exact ⟨by rw [HF.out]; rfl, bj.trans (bq.mono hzr)⟩
   ·have HF : Hid (eqL l l' = eqL (l.drop (j + 1)) (l'.drop (j + 1))) := by show _ = _; rw [HD.out]; rfl
    go_wp2_with fail
    go_roundw
    case rel => exact ⟨j + 1, by omega, by go_num, bj.trans (bq.mono hzr), HF⟩
    case measure => simp [RowKit.intOf]; omega
  ·obtain rfl : j = l.length := by omega
   have y1 : ¬ (l.length : Int) < l.length := by omega
   have HF : Hid (RR = true) := by
    show _ = _
    rw [HE.out, HJ.out, List.drop_length, H5.out, List.drop_length]
    simp [eqL]
   clear HJ HE
   go_wp2_with fail
   go_ret
   exact ⟨by rw [HF.out]; rfl, bj⟩
def oneV (key : ByteArray) (x : V) : V := .mk 5 false 0 ⟨#[]⟩ [] [(key, x)]
set_option maxHeartbeats 8000000 in
set_option maxRecDepth 100000 in
theorem one_any (key : ByteArray) (x : V) (S : Nat → Prop) (cs : List Value) (w : World) (hk : key.size ≤ maxLen) (hx : x.lies false w S cs) (hS : ∀ b, S b → b < w.heap.size) : Calls Tryd.prog 39 #[.string key, .agg cs.toArray] w (RpPost (oneV key x) S w) := by
 obtain ⟨ek, eb, ei, es, eal, enl, ecl, eam, enm, ecm, rfl⟩ := V.ten hx
 have hb : Below w.heap.size w (((w.alloc (.cells #[.int .i64 ek, .bool eb, .int .i64 ei, .string es, .slice eal enl ecl, .slice eam enm ecm] 25)).alloc (.cells #[.int .i64 5, .bool false, .int .i64 0, .string ⟨#[]⟩, .slice none 0 0, .slice (some ⟨w.heap.size + 1 + 1, 0, none⟩) 1 1] 25)).alloc (.cells #[.string key, .int .i64 ek, .bool eb, .int .i64 ei, .string es, .slice eal enl ecl, .slice eam enm ecm] 57)) := three_below w _ _ _
 obtain ⟨h1, h2, h3⟩ := three_allocs w (.cells #[.int .i64 ek, .bool eb, .int .i64 ei, .string es, .slice eal enl ecl, .slice eam enm ecm] 25) (.cells #[.int .i64 5, .bool false, .int .i64 0, .string ⟨#[]⟩, .slice none 0 0, .slice (some ⟨w.heap.size + 1 + 1, 0, none⟩) 1 1] 25) (.cells #[.string key, .int .i64 ek, .bool eb, .int .i64 ei, .string es, .slice eal enl ecl, .slice eam enm ecm] 57)
 have hz : (((w.alloc (.cells #[.int .i64 ek, .bool eb, .int .i64 ei, .string es, .slice eal enl ecl, .slice eam enm ecm] 25)).alloc (.cells #[.int .i64 5, .bool false, .int .i64 0, .string ⟨#[]⟩, .slice none 0 0, .slice (some ⟨w.heap.size + 1 + 1, 0, none⟩) 1 1] 25)).alloc (.cells #[.string key, .int .i64 ek, .bool eb, .int .i64 ei, .string es, .slice eal enl ecl, .slice eam enm ecm] 57)).heap.size = w.heap.size + 3 := by rw [alloc_size, alloc_size, alloc_size]
 go_enter Tryd.func39, Tryd.ntmps39
 go_wp2_with fail
 (try simp only [Exit.inBlock, Exit.then])
 refine bodyPost_ret (v := .agg #[.int .i64 5, .bool false, .int .i64 0, .string ⟨#[]⟩, .slice none 0 0, .slice (some ⟨w.heap.size + 1 + 1, 0, none⟩) 1 1]) ?_ rfl ?_
 rotate_left
 ·refine ⟨[.int .i64 5, .bool false, .int .i64 0, .string ⟨#[]⟩, .slice none 0 0, .slice (some ⟨w.heap.size + 1 + 1, 0, none⟩) 1 1], rfl, ?_, hb⟩
  rw [oneV, V.lies]
  refine ⟨none, 0, 0, 0, some ⟨w.heap.size + 1 + 1, 0, none⟩, 1, w.heap.size + 1 + 1, 0, rfl, ⟨by decide, by decide⟩, ⟨by decide, by decide⟩, by decide, headed_nil, ⟨Nat.le_refl _, by decide, .inr rfl, fun e => by cases e⟩, by rw [liesL]; trivial, ?_, fun e => by cases e⟩
  rw [liesM, liesM]
  refine ⟨.inr ⟨by omega, by omega⟩, ⟨hk, [.int .i64 ek, .bool eb, .int .i64 ei, .string es, .slice eal enl ecl, .slice eam enm ecm], ?_, V.lies_keep (fun h => h) (fun y hy => hb.block y (hS y hy)) (fun y hy => .inl hy) _ hx⟩, trivial⟩
  intro q u hu
  rw [cell_of_block h3]
  simpa using hu
 ·rw [results_cell1 rfl]
  go_simp
theorem num_any (k : Int) (w : World) : Calls Tryd.prog 22 #[.int .i64 k] w fun e w' => e = .returned (.int .i64 k) ∧ Below w.heap.size w w' := by
 go_enter Tryd.func22, Tryd.ntmps22
 go_wp2_with fail
 go_ret
 exact ⟨rfl, Below.refl _ _⟩
end Go.Proofs.YtjfldbmopjojdaaDoor
