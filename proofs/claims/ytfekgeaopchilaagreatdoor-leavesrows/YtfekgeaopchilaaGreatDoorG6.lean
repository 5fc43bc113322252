/- joined: SmpB PlsR RowS -/
import Derived.Test.YtfekgeaopchilaaGreatDoorSamP
/- elemSame, pathSame, of a path and its twin. -/
set_option linter.unusedSimpArgs false
set_option linter.unusedVariables false
namespace Go.Proofs.YtfekgeaopchilaaGreatDoor
open Go.RowKit Go.Lib
set_option maxHeartbeats 4000000 in
set_option maxRecDepth 100000 in
theorem esame_any (e : El) (S S' : Nat → Prop) (cs ds : List Value) (w : World) (hl : e.lies w S cs) (hl' : e.lies w S' ds) (hS : ∀ x, S x → x < w.heap.size) (hS' : ∀ x, S' x → x < w.heap.size) :
    Calls Tryz.prog 40 #[.agg cs.toArray, .agg ds.toArray] w (BPost true w) := by
  obtain ⟨k, nm, m, v⟩ := e
  obtain ⟨am, cm, bm, om, is, rfl, hk, hnm, ham, hm, hv⟩ := hl
  obtain ⟨am', cm', bm', om', is', rfl, _, _, ham', hm', hv'⟩ := hl'
  dsimp only at hk hnm ham hm hv ham' hm' hv' ⊢
  have HM := hmk hm
  have HV := hmk hv
  have HM' := hmk hm'
  have HV' := hmk hv'
  obtain ⟨vk, vb, vi, vs, val, vnl, vcl, vam, vnm, vcm, rfl⟩ := V.ten hv
  obtain ⟨vk', vb', vi', vs', val', vnl', vcl', vam', vnm', vcm', rfl⟩ := V.ten hv'
  clear hm hv hm' hv'
  have hml : m.length ≤ 9223372036854775807 := Nat.le_trans ham.le ham.max
  have hb0 := box_row w [.int .i64 k, .string nm, .slice am m.length cm, .int .i64 vk, .bool vb, .int .i64 vi, .string vs, .slice val vnl vcl, .slice vam vnm vcm] 60
  have hb1 : rowAt ((w.alloc (.cells #[.int .i64 k, .string nm, .slice am m.length cm, .int .i64 vk, .bool vb, .int .i64 vi, .string vs, .slice val vnl vcl, .slice vam vnm vcm] 60)).alloc (.cells #[.int .i64 k, .string nm, .slice am' m.length cm', .int .i64 vk', .bool vb', .int .i64 vi', .string vs', .slice val' vnl' vcl', .slice vam' vnm' vcm'] 60)) w.heap.size 0 [.int .i64 k, .string nm, .slice am m.length cm, .int .i64 vk, .bool vb, .int .i64 vi, .string vs, .slice val vnl vcl, .slice vam vnm vcm] := hb0.keep (Below.heap_alloc _ _ _ (by rw [alloc_size]; omega))
  have hb2 : rowAt ((w.alloc (.cells #[.int .i64 k, .string nm, .slice am m.length cm, .int .i64 vk, .bool vb, .int .i64 vi, .string vs, .slice val vnl vcl, .slice vam vnm vcm] 60)).alloc (.cells #[.int .i64 k, .string nm, .slice am' m.length cm', .int .i64 vk', .bool vb', .int .i64 vi', .string vs', .slice val' vnl' vcl', .slice vam' vnm' vcm'] 60)) (w.heap.size + 1) 0 [.int .i64 k, .string nm, .slice am' m.length cm', .int .i64 vk', .bool vb', .int .i64 vi', .string vs', .slice val' vnl' vcl', .slice vam' vnm' vcm'] := by
    have := box_row (w.alloc (.cells #[.int .i64 k, .string nm, .slice am m.length cm, .int .i64 vk, .bool vb, .int .i64 vi, .string vs, .slice val vnl vcl, .slice vam vnm vcm] 60)) [.int .i64 k, .string nm, .slice am' m.length cm', .int .i64 vk', .bool vb', .int .i64 vi', .string vs', .slice val' vnl' vcl', .slice vam' vnm' vcm'] 60
    rwa [alloc_size] at this
  have B0 := two_below w (.cells #[.int .i64 k, .string nm, .slice am m.length cm, .int .i64 vk, .bool vb, .int .i64 vi, .string vs, .slice val vnl vcl, .slice vam vnm vcm] 60) (.cells #[.int .i64 k, .string nm, .slice am' m.length cm', .int .i64 vk', .bool vb', .int .i64 vi', .string vs', .slice val' vnl' vcl', .slice vam' vnm' vcm'] 60)
  have hz0 : ((w.alloc (.cells #[.int .i64 k, .string nm, .slice am m.length cm, .int .i64 vk, .bool vb, .int .i64 vi, .string vs, .slice val vnl vcl, .slice vam vnm vcm] 60)).alloc (.cells #[.int .i64 k, .string nm, .slice am' m.length cm', .int .i64 vk', .bool vb', .int .i64 vi', .string vs', .slice val' vnl' vcl', .slice vam' vnm' vcm'] 60)).heap.size = w.heap.size + 1 + 1 := by rw [alloc_size, alloc_size]
  clear hb0
  obtain ⟨d0, d1, d2, d3, d4, d5, d6, d7, d8⟩ := row9z hb1
  obtain ⟨f0, f1, f2, f3, f4, f5, f6, f7, f8⟩ := row9z hb2
  have c1 := hmk (vsame_any v 0 S S' _ _ ((w.alloc (.cells #[.int .i64 k, .string nm, .slice am m.length cm, .int .i64 vk, .bool vb, .int .i64 vi, .string vs, .slice val vnl vcl, .slice vam vnm vcm] 60)).alloc (.cells #[.int .i64 k, .string nm, .slice am' m.length cm', .int .i64 vk', .bool vb', .int .i64 vi', .string vs', .slice val' vnl' vcl', .slice vam' vnm' vcm'] 60)) (by omega) (by omega) (V.lies_keep (fun h => h) (fun x hx => B0.block x (hS x hx)) (fun _ h => h) _ HV.out) (V.lies_keep (fun h => h) (fun x hx => B0.block x (hS' x hx)) (fun _ h => h) _ HV'.out) (fun x hx => Nat.lt_of_lt_of_le (hS x hx) B0.size) (fun x hx => Nat.lt_of_lt_of_le (hS' x hx) B0.size))
  go_enter Tryz.func40, Tryz.ntmps40
  go_wp2_with fail
  refine c1.out.mono ?_
  rintro e w1 ⟨rfl, b1⟩
  clear d0 d1 d2 d3 d4 d5 d6 d7 d8 f0 f1 f2 f3 f4 f5 f6 f7 f8 c1
  generalize ((w.alloc (.cells #[.int .i64 k, .string nm, .slice am m.length cm, .int .i64 vk, .bool vb, .int .i64 vi, .string vs, .slice val vnl vcl, .slice vam vnm vcm] 60)).alloc (.cells #[.int .i64 k, .string nm, .slice am' m.length cm', .int .i64 vk', .bool vb', .int .i64 vi', .string vs', .slice val' vnl' vcl', .slice vam' vnm' vcm'] 60)) = w0 at *
  go_wp2_with fail
  go_loopw [5] (fun e wr => ∃ j : Nat, j ≤ m.length ∧ e = .int .i64 (j : Int) ∧ Below w0.heap.size w0 wr) (fun e _ => m.length - (RowKit.intOf e).toNat)
  case atStart => exact ⟨0, by omega, rfl, b1⟩
  case round =>
    clear b1
    obtain ⟨j, hj, rfl, bj⟩ := hrel
    obtain ⟨d0, d1, d2, d3, d4, d5, d6, d7, d8⟩ := row9z (hb1.keep (bj.block _ (by omega)))
    obtain ⟨f0, f1, f2, f3, f4, f5, f6, f7, f8⟩ := row9z (hb2.keep (bj.block _ (by omega)))
    have hzr := bj.size
    by_cases hjl : j < m.length
    · have y2 : (j : Int) < m.length := by omega
      obtain ⟨hSb, hks, csj, hrow, hlj⟩ := liesM_get HM.out j hjl
      obtain ⟨hSb', hks', dsj, hrow', hlj'⟩ := liesM_get HM'.out j hjl
      obtain rfl : am = some ⟨bm, om, none⟩ := ham.at_.resolve_left (by omega)
      obtain rfl : am' = some ⟨bm', om', none⟩ := ham'.at_.resolve_left (by omega)
      have hk0 : ∀ x, S x → wr.heap[x]? = w.heap[x]? := fun x hx => (bj.block x (by have := hS x hx; omega)).trans (B0.block x (hS x hx))
      have hk1 : ∀ x, S' x → wr.heap[x]? = w.heap[x]? := fun x hx => (bj.block x (by have := hS' x hx; omega)).trans (B0.block x (hS' x hx))
      obtain ⟨ek, eb, ei, es, eal, enl, ecl, eam, enm, ecm, rfl⟩ := V.ten hlj
      obtain ⟨ek', eb', ei', es', eal', enl', ecl', eam', enm', ecm', rfl⟩ := V.ten hlj'
      have rw0 := row7 (hrow.keep (hk0 _ hSb))
      have rw1 := row7 (hrow'.keep (hk1 _ hSb'))
      have hbl : bm < wr.heap.size := World.block_lt_of_cell? wr _ rw0.1
      have hbl' : bm' < wr.heap.size := World.block_lt_of_cell? wr _ rw1.1
      have p0 : ∀ x : Sub wr.heap.size wr, _ := sub_cell rw0.1 hbl
      have p1 : ∀ x : Sub wr.heap.size wr, _ := sub_cell rw0.2.1 hbl
      have p2 : ∀ x : Sub wr.heap.size wr, _ := sub_cell rw0.2.2.1 hbl
      have p3 : ∀ x : Sub wr.heap.size wr, _ := sub_cell rw0.2.2.2.1 hbl
      have p4 : ∀ x : Sub wr.heap.size wr, _ := sub_cell rw0.2.2.2.2.1 hbl
      have p5 : ∀ x : Sub wr.heap.size wr, _ := sub_cell rw0.2.2.2.2.2.1 hbl
      have p6 : ∀ x : Sub wr.heap.size wr, _ := sub_cell rw0.2.2.2.2.2.2 hbl
      have q0 : ∀ x : Sub wr.heap.size wr, _ := sub_cell rw1.1 hbl'
      have q1 : ∀ x : Sub wr.heap.size wr, _ := sub_cell rw1.2.1 hbl'
      have q2 : ∀ x : Sub wr.heap.size wr, _ := sub_cell rw1.2.2.1 hbl'
      have q3 : ∀ x : Sub wr.heap.size wr, _ := sub_cell rw1.2.2.2.1 hbl'
      have q4 : ∀ x : Sub wr.heap.size wr, _ := sub_cell rw1.2.2.2.2.1 hbl'
      have q5 : ∀ x : Sub wr.heap.size wr, _ := sub_cell rw1.2.2.2.2.2.1 hbl'
      have q6 : ∀ x : Sub wr.heap.size wr, _ := sub_cell rw1.2.2.2.2.2.2 hbl'
      have u4 : ∀ x : Sub wr.heap.size wr, _ := sub_cell d2 (by omega)
      have v4 : ∀ x : Sub wr.heap.size wr, _ := sub_cell f2 (by omega)
      have CI : Hid (∀ x : Sub wr.heap.size wr, Calls Tryz.prog 13 #[.agg #[.int .i64 ek, .bool eb, .int .i64 ei, .string es, .slice eal enl ecl, .slice eam enm ecm], .agg #[.int .i64 ek', .bool eb', .int .i64 ei', .string es', .slice eal' enl' ecl', .slice eam' enm' ecm'], .int .i64 0] x.w fun e w'' => e = .returned (.bool true) ∧ ∃ y : Sub wr.heap.size wr, w'' = y.w) :=
        sub_call fun w' hb => by
          refine (vsame_any (m[j]).2 0 S S' _ _ w' (by omega) (by omega) (V.lies_keep (fun h => h) (fun x hx => (hb.block x (by have := hS x hx; omega)).trans (hk0 x hx)) (fun _ h => h) _ hlj) (V.lies_keep (fun h => h) (fun x hx => (hb.block x (by have := hS' x hx; omega)).trans (hk1 x hx)) (fun _ h => h) _ hlj') (fun x hx => by have := hS x hx; have := hb.size; omega) (fun x hx => by have := hS' x hx; have := hb.size; omega)).mono ?_
          rintro e w'' ⟨he, h2⟩
          exact ⟨he, hb.trans (h2.mono hb.size)⟩
      clear hlj hlj' hrow hrow' rw0 rw1 hk0 hk1
      generalize m[j] = mj at *
      go_wp2_with fail
      refine wp_region_sub wr.heap.size (by kernel_rfl) (by kernel_rfl) ?_
      repeat (go_big_quiet_step (exact CI.out _))
      refine wpQuiet_nil ?_
      rintro wq ⟨⟨wq', bq⟩, hq⟩
      have hq' : wq = wq' := hq
      subst hq'
      clear hq
      go_wp2_with fail
      go_roundw
      case rel => exact ⟨j + 1, by omega, by go_num, bj.trans (bq.mono hzr)⟩
      case measure => simp [RowKit.intOf]; omega
    · obtain rfl : j = m.length := by omega
      have y2 : ¬ (m.length : Int) < m.length := by omega
      have HB := hmk (B0.trans (bj.mono (by omega)))
      go_wp2_with fail
      go_ret
      exact ⟨rfl, HB.out⟩
set_option maxHeartbeats 4000000 in
set_option maxRecDepth 100000 in
theorem psame_any (p : List El) (S S' : Nat → Prop) (ap : Option Addr) (cp bp op : Nat) (ap' : Option Addr) (cp' bp' op' : Nat) (w : World) (hap : Headed ap p.length cp bp op) (hp : liesP w S p bp op) (hap' : Headed ap' p.length cp' bp' op') (hp' : liesP w S' p bp' op') (hS : ∀ x, S x → x < w.heap.size) (hS' : ∀ x, S' x → x < w.heap.size) :
    Calls Tryz.prog 23 #[.slice ap p.length cp, .slice ap' p.length cp'] w (BPost true w) := by
  have HP := hmk hp
  have HP' := hmk hp'
  clear hp hp'
  have hlp : p.length ≤ 9223372036854775807 := Nat.le_trans hap.le hap.max
  go_enter Tryz.func23, Tryz.ntmps23
  go_wp2_with fail
  go_loopw [5] (fun e wr => ∃ j : Nat, j ≤ p.length ∧ e = .int .i64 (j : Int) ∧ Below w.heap.size w wr) (fun e _ => p.length - (RowKit.intOf e).toNat)
  case atStart => exact ⟨0, by omega, rfl, Below.refl _ _⟩
  case round =>
    obtain ⟨j, hj, rfl, bj⟩ := hrel
    have hzr := bj.size
    by_cases hjl : j < p.length
    · have y2 : (j : Int) < p.length := by omega
      obtain ⟨hSb, csj, hrow, hlj⟩ := HP.out j hjl
      obtain ⟨hSb', dsj, hrow', hlj'⟩ := HP'.out j hjl
      obtain rfl : ap = some ⟨bp, op, none⟩ := hap.at_.resolve_left (by omega)
      obtain rfl : ap' = some ⟨bp', op', none⟩ := hap'.at_.resolve_left (by omega)
      have hk0 : ∀ x, S x → wr.heap[x]? = w.heap[x]? := fun x hx => bj.block x (hS x hx)
      have hk1 : ∀ x, S' x → wr.heap[x]? = w.heap[x]? := fun x hx => bj.block x (hS' x hx)
      obtain ⟨k, s, am, nm, cm, vk, vb, vi, vs, val, vnl, vcl, vam, vnm, vcm, rfl⟩ := El.nine hlj
      obtain ⟨k', s', am', nm', cm', vk', vb', vi', vs', val', vnl', vcl', vam', vnm', vcm', rfl⟩ := El.nine hlj'
      have rw0 := row9 (hrow.keep (hk0 _ hSb))
      have rw1 := row9 (hrow'.keep (hk1 _ hSb'))
      have hbl : bp < wr.heap.size := World.block_lt_of_cell? wr _ rw0.1
      have hbl' : bp' < wr.heap.size := World.block_lt_of_cell? wr _ rw1.1
      have p0 : ∀ x : Sub wr.heap.size wr, _ := sub_cell rw0.1 hbl
      have p1 : ∀ x : Sub wr.heap.size wr, _ := sub_cell rw0.2.1 hbl
      have p2 : ∀ x : Sub wr.heap.size wr, _ := sub_cell rw0.2.2.1 hbl
      have p3 : ∀ x : Sub wr.heap.size wr, _ := sub_cell rw0.2.2.2.1 hbl
      have p4 : ∀ x : Sub wr.heap.size wr, _ := sub_cell rw0.2.2.2.2.1 hbl
      have p5 : ∀ x : Sub wr.heap.size wr, _ := sub_cell rw0.2.2.2.2.2.1 hbl
      have p6 : ∀ x : Sub wr.heap.size wr, _ := sub_cell rw0.2.2.2.2.2.2.1 hbl
      have p7 : ∀ x : Sub wr.heap.size wr, _ := sub_cell rw0.2.2.2.2.2.2.2.1 hbl
      have p8 : ∀ x : Sub wr.heap.size wr, _ := sub_cell rw0.2.2.2.2.2.2.2.2 hbl
      have q0 : ∀ x : Sub wr.heap.size wr, _ := sub_cell rw1.1 hbl'
      have q1 : ∀ x : Sub wr.heap.size wr, _ := sub_cell rw1.2.1 hbl'
      have q2 : ∀ x : Sub wr.heap.size wr, _ := sub_cell rw1.2.2.1 hbl'
      have q3 : ∀ x : Sub wr.heap.size wr, _ := sub_cell rw1.2.2.2.1 hbl'
      have q4 : ∀ x : Sub wr.heap.size wr, _ := sub_cell rw1.2.2.2.2.1 hbl'
      have q5 : ∀ x : Sub wr.heap.size wr, _ := sub_cell rw1.2.2.2.2.2.1 hbl'
      have q6 : ∀ x : Sub wr.heap.size wr, _ := sub_cell rw1.2.2.2.2.2.2.1 hbl'
      have q7 : ∀ x : Sub wr.heap.size wr, _ := sub_cell rw1.2.2.2.2.2.2.2.1 hbl'
      have q8 : ∀ x : Sub wr.heap.size wr, _ := sub_cell rw1.2.2.2.2.2.2.2.2 hbl'
      have CI : Hid (∀ x : Sub wr.heap.size wr, Calls Tryz.prog 40 #[.agg #[.int .i64 k, .string s, .slice am nm cm, .int .i64 vk, .bool vb, .int .i64 vi, .string vs, .slice val vnl vcl, .slice vam vnm vcm], .agg #[.int .i64 k', .string s', .slice am' nm' cm', .int .i64 vk', .bool vb', .int .i64 vi', .string vs', .slice val' vnl' vcl', .slice vam' vnm' vcm']] x.w fun e w'' => e = .returned (.bool true) ∧ ∃ y : Sub wr.heap.size wr, w'' = y.w) :=
        sub_call fun w' hb => by
          refine (esame_any p[j] S S' _ _ w' (El.lies_keep (fun x hx => (hb.block x (by have := hS x hx; omega)).trans (hk0 x hx)) (fun _ h => h) hlj) (El.lies_keep (fun x hx => (hb.block x (by have := hS' x hx; omega)).trans (hk1 x hx)) (fun _ h => h) hlj') (fun x hx => by have := hS x hx; have := hb.size; omega) (fun x hx => by have := hS' x hx; have := hb.size; omega)).mono ?_
          rintro e w'' ⟨he, h2⟩
          exact ⟨he, hb.trans (h2.mono hb.size)⟩
      clear hlj hlj' hrow hrow' rw0 rw1 hk0 hk1
      go_wp2_with fail
      refine wp_region_sub wr.heap.size (by kernel_rfl) (by kernel_rfl) ?_
      repeat (go_big_quiet_step (exact CI.out _))
      refine wpQuiet_nil ?_
      rintro wq ⟨⟨wq', bq⟩, hq⟩
      have hq' : wq = wq' := hq
      subst hq'
      clear hq
      go_wp2_with fail
      go_roundw
      case rel => exact ⟨j + 1, by omega, by go_num, bj.trans (bq.mono hzr)⟩
      case measure => simp [RowKit.intOf]; omega
    · obtain rfl : j = p.length := by omega
      have y2 : ¬ (p.length : Int) < p.length := by omega
      have HB := hmk bj
      go_wp2_with fail
      go_ret
      exact ⟨rfl, HB.out⟩
end Go.Proofs.YtfekgeaopchilaaGreatDoor
/- Lists of paths: how they lie, how they are counted, that a list and its twin are the same. -/
namespace Go.Proofs.YtfekgeaopchilaaGreatDoor
open Go.RowKit Go.Lib
/-- a path's one cell -/
def Pl.lies (w : World) (S : Nat → Prop) (p : List El) (v : Value) : Prop := ∃ ap cp bp op, v = .slice ap p.length cp ∧ Headed ap p.length cp bp op ∧ liesP w S p bp op
def liesQ (w : World) (S : Nat → Prop) (l : List (List El)) (b o : Nat) : Prop := ∀ (j : Nat) (h : j < l.length), S b ∧ ∃ v, w.cell? ⟨b, o + j, none⟩ = some v ∧ Pl.lies w S l[j] v
theorem Pl.keep {w w' : World} {S S' : Nat → Prop} (hw : ∀ b, S b → w'.heap[b]? = w.heap[b]?) (hS : ∀ b, S b → S' b) {p : List El} {v : Value} (h : Pl.lies w S p v) : Pl.lies w' S' p v := by
  obtain ⟨ap, cp, bp, op, e, h1, h2⟩ := h
  exact ⟨ap, cp, bp, op, e, h1, liesP_keep hw hS h2⟩
theorem liesQ_keep {w w' : World} {S S' : Nat → Prop} (hw : ∀ b, S b → w'.heap[b]? = w.heap[b]?) (hS : ∀ b, S b → S' b) {l : List (List El)} {b o : Nat} (h : liesQ w S l b o) : liesQ w' S' l b o := fun j hj => by
  obtain ⟨h1, v, h2, h3⟩ := h j hj
  exact ⟨hS _ h1, v, (World.cell?_of_block (w := w) (a := ⟨b, o + j, none⟩) (hw _ h1)).trans h2, Pl.keep hw hS h3⟩
def wtQ : List (List El) → Nat
  | [] => 0
  | p :: t => wtP p + wtQ t
theorem wtQ_app : ∀ a b : List (List El), wtQ (a ++ b) = wtQ a + wtQ b
  | [], b => by simp [wtQ]
  | x :: t, b => by have := wtQ_app t b; simp only [wtQ, List.cons_append]; omega
theorem take_succ_wtQ {l : List (List El)} {j : Nat} (h : j < l.length) : wtQ (l.take (j + 1)) = wtQ (l.take j) + wtP l[j] := by
  rw [List.take_succ_eq_append_getElem h, wtQ_app]; simp [wtQ]
theorem wtQ_mem : ∀ {l : List (List El)} {p : List El}, p ∈ l → wtP p ≤ wtQ l
  | [], e, h => by cases h
  | y :: t, e, h => by
    rcases List.mem_cons.1 h with rfl | h
    · simp only [wtQ]; omega
    · have := wtQ_mem h; simp only [wtQ]; omega
def CqPost (B : Nat) (l : List (List El)) (w : World) (e : Ending) (w' : World) : Prop := ∃ r, e = .returned (.bool r) ∧ w.grownBy w' (some B) ∧ (r = false → l.length + wtQ l ≤ 2147483647)
set_option maxHeartbeats 4000000 in
set_option maxRecDepth 100000 in
theorem cpathsQ_any (l : List (List El)) (B n : Nat) (S : Nat → Prop) (al : Option Addr) (cl bl ol : Nat) (w : World) (hal : Headed al l.length cl bl ol) (hl : liesQ w S l bl ol) (hS : ∀ b, S b → b ≠ B ∧ b < w.heap.size) (hc : Cnt B n w) (hn : n ≤ 2147483647) :
    Calls Tryz.prog 25 #[.pointer (some ⟨B, 0, none⟩), .slice al l.length cl] w (CqPost B l w) := by
  have HL := hmk hl
  have hll : l.length ≤ maxLen := Nat.le_trans hal.le hal.max
  have hll' : l.length ≤ 9223372036854775807 := hll
  have HKP : Hid (∀ wr : World, w.grownBy wr (some B) → ∀ b, S b → wr.heap[b]? = w.heap[b]?) := fun wr g b hb => g.block b (hS b hb).2 (fun e => (hS b hb).1 (Option.some.inj e))
  have c1 := hmk (many_any B n l.length w hc hn hll)
  clear hl hll
  go_enter Tryz.func25, Tryz.ntmps25
  go_wp2_with fail
  refine c1.out.mono ?_
  rintro e w1 ⟨r, rfl, g1, h1⟩
  cases r
  case true =>
    go_wp2_with fail
    go_ret
    exact ⟨true, rfl, g1, fun h => by cases h⟩
  obtain ⟨hn1, hc1⟩ := h1 rfl
  go_wp2_with fail
  go_loopw [5] (fun e wr => ∃ j : Nat, j ≤ l.length ∧ e = .int .i64 (j : Int) ∧ w.grownBy wr (some B) ∧ n + l.length + wtQ (l.take j) ≤ 2147483647 ∧ Cnt B (n + l.length + wtQ (l.take j)) wr) (fun e _ => l.length - (RowKit.intOf e).toNat)
  case atStart => exact ⟨0, by omega, rfl, g1, by simpa [wtQ] using hn1, by simpa [wtQ] using hc1⟩
  case round =>
    clear hn1 hc1 g1
    obtain ⟨j, hj, rfl, gj, hnj, hcj⟩ := hrel
    by_cases hjl : j < l.length
    · have y1 : (j : Int) < l.length := by omega
      obtain ⟨hSb, v, hv, ap, cp, bp, op, rfl, hap, hlp⟩ := HL.out j hjl
      obtain rfl : al = some ⟨bl, ol, none⟩ := hal.at_.resolve_left (by omega)
      have HG : Hid (∀ wr : World, w.grownBy wr (some B) → wr.cell? ⟨bl, ol + j, none⟩ = some (.slice ap (l[j]).length cp)) := fun wr g => (World.cell?_of_block (w := w) (a := ⟨bl, ol + j, none⟩) (HKP.out wr g _ hSb)).trans hv
      have HP := hmk hlp
      have HW : Hid (n + l.length + wtQ (l.take (j + 1)) = n + l.length + wtQ (l.take j) + wtP l[j]) := by show _ = _; rw [take_succ_wtQ hjl]; omega
      have dG := HG.out wr gj
      have hlp' : (l[j]).length ≤ 9223372036854775807 := Nat.le_trans hap.le hap.max
      clear hv hlp
      generalize l[j] = p at *
      go_wp2_with fail
      go_loopw [6] (fun e wr => ∃ i : Nat, i ≤ p.length ∧ e = .int .i64 (i : Int) ∧ w.grownBy wr (some B) ∧ n + l.length + wtQ (l.take j) + wtP (p.take i) ≤ 2147483647 ∧ Cnt B (n + l.length + wtQ (l.take j) + wtP (p.take i)) wr) (fun e _ => p.length - (RowKit.intOf e).toNat)
      case atStart => exact ⟨0, by omega, rfl, gj, by simpa [wtP] using hnj, by simpa [wtP] using hcj⟩
      case round =>
        clear hcj gj hnj dG
        obtain ⟨i, hi, rfl, gj, hni, hci⟩ := hrel
        have dG := HG.out wr gj
        by_cases hil : i < p.length
        · have y2 : (i : Int) < p.length := by omega
          obtain ⟨hSp, csj, hrow, hlj⟩ := HP.out i hil
          obtain rfl : ap = some ⟨bp, op, none⟩ := hap.at_.resolve_left (by omega)
          have hlr := El.lies_keep (HKP.out wr gj) (fun _ h => h) hlj
          have CE := hmk (celem_any p[i] B _ S csj wr hlr (fun b hb => ⟨(hS b hb).1, Nat.lt_of_lt_of_le (hS b hb).2 gj.size⟩) hci hni)
          have HW2 : Hid (n + l.length + wtQ (l.take j) + wtP (p.take (i + 1)) = n + l.length + wtQ (l.take j) + wtP (p.take i) + (p[i]).wt) := by show _ = _; rw [take_succ_wtP hil]; omega
          obtain ⟨k, s, am, nm, cm, vk, vb, vi, vs, val, vnl, vcl, vam, vnm, vcm, rfl⟩ := El.nine hlj
          obtain ⟨q0, q1, q2, q3, q4, q5, q6, q7, q8⟩ := row9 (hrow.keep (HKP.out wr gj bp hSp))
          clear hlj hlr hrow
          go_wp2_with fail
          refine CE.out.mono ?_
          rintro e w2 ⟨r, rfl, g2, h2⟩
          cases r
          · obtain ⟨hn2, hc2⟩ := h2 rfl
            go_wp2_with fail
            go_roundw
            case rel => first | exact ⟨i + 1, by omega, by go_num, grown_trans gj g2, by rw [HW2.out]; exact hn2, by rw [HW2.out]; exact hc2⟩ | exact ⟨_, _, _, _, _, _, _, _, _, _, _, _, _, _, _, _, _, _, _, _, _, _, ⟨i + 1, by omega, by go_num, grown_trans gj g2, by rw [HW2.out]; exact hn2, by rw [HW2.out]; exact hc2⟩, rfl⟩
            case measure => simp [RowKit.intOf]; omega
          · go_wp2_with fail
            go_ret
            exact ⟨true, rfl, grown_trans gj g2, fun h => by cases h⟩
        · obtain rfl : i = p.length := by omega
          have y2 : ¬ (p.length : Int) < p.length := by omega
          rw [List.take_length] at hni hci
          go_wp2_with fail
          go_roundw
          case rel => exact ⟨j + 1, by omega, by go_num, gj, by rw [HW.out]; exact hni, by rw [HW.out]; exact hci⟩
          case measure => simp [RowKit.intOf]; omega
    · obtain rfl : j = l.length := by omega
      have y1 : ¬ (l.length : Int) < l.length := by omega
      rw [List.take_length] at hnj hcj
      go_wp2_with fail
      go_ret
      exact ⟨false, rfl, gj, fun _ => by omega⟩
end Go.Proofs.YtfekgeaopchilaaGreatDoor
/- What the row of PathSorts needs: a list of paths opened and given back. -/
namespace Go.Proofs.YtfekgeaopchilaaGreatDoor
open Go.Shelf Go.Lib Go.ChangeShapes Go.RowKit
variable {H : Type} {enc : TypeId × Value → H}
theorem cellsP23 : Tryz.prog.cellsOf 25 = 1 := by kernel_rfl
theorem open_paths {w : World} {spare : Nat → Bool} {held : Bool} {n : Nat} {cs : List Value} {x} (h : DataW.trod enc Tryz.prog w 0 spare held n 23 cs = some x) : ∃ (l : List (List El)) (ao : Option Addr) (cap b o : Nat), cs = [.slice ao l.length cap] ∧ Headed ao l.length cap b o ∧ liesQ w (Old w) l b o := by
  cases n with
  | zero => simp [DataW.trod] at h
  | succ n =>
  rcases DataW.trod_slice Tryz.underlying23 h with ⟨rfl, _⟩ | ⟨a, len, cap, elems, rest, n', hn, rfl, _, _, hlc, hcm, hlen, hel, _⟩
  · exact ⟨[], none, 0, 0, 0, rfl, ⟨Nat.le_refl _, by simp [maxLen], .inl rfl, fun _ => rfl⟩, fun j hj => by simp at hj⟩
  obtain rfl : n = n' := by omega
  rw [cellsP23] at hel
  obtain ⟨l, b, o, hll, hao, hq⟩ := elems_at (w := w) (a := a) (len := len) (k := 1) (Q := fun (p : List El) cs => ∃ v, cs = [v] ∧ Pl.lies w (Old w) p v) (by omega) (fun i hi => by
    have he := hel i hi
    rw [List.getElem?_eq_getElem (by omega)] at he
    obtain ⟨cs, h1, h2⟩ := Option.bind_eq_some_iff.1 he
    obtain ⟨p, ap, cp, bp, op, rfl, h3, h4⟩ := open_path h2
    exact ⟨_, p, h1, _, rfl, ap, cp, bp, op, rfl, h3, h4⟩)
  subst hll
  refine ⟨l, some a, cap, b, o, rfl, ⟨hlc, hcm, ?_, fun h => by cases h⟩, fun j hj => ?_⟩
  · rcases hao with h | rfl
    · exact .inl h
    · exact .inr rfl
  · obtain ⟨h1, cs, h2, v, rfl, h3⟩ := hq j hj
    refine ⟨h1, v, ?_, h3⟩
    have := h2 0 _ rfl
    simpa using this
theorem open28 {W : World} {spare : Nat → Bool} {held : Bool} {v : Value} {d : DataW H} {p : List MemPlace} (hsl : ∃ a n c, v = .slice a n c) (h : DataW.Trod enc Tryz.prog W 0 spare held 23 v d p) : ∃ (l : List (List El)) (ao : Option Addr) (cap b o : Nat), v = .slice ao l.length cap ∧ Headed ao l.length cap b o ∧ liesQ W (Old W) l b o := by
  obtain ⟨n, hn⟩ := h
  obtain ⟨l, ao, cap, b, o, e, h1, h2⟩ := open_paths hn
  obtain ⟨a0, n0, c0, rfl⟩ := hsl
  refine ⟨l, ao, cap, b, o, ?_, h1, h2⟩
  simpa [Value.cells] using e
theorem back28 {W W' : World} {v : Value} {d : DataW H} {p : List MemPlace} (h : DataW.Trod enc Tryz.prog W 0 (fun _ => true) true 23 v d p) (hlt : ∀ x ∈ p, x.block < W.heap.size) (hb : Below W.heap.size W W') :
    DataW.Trod enc Tryz.prog W' 0 (fun b => decide (b < W.heap.size)) true 23 v d p :=
  WideElems.Trod_stays (P := Tryz.prog) laidOut' (by kernel_rfl) (of_decide_eq_true (by kernel_rfl)) h (fun x hx => below_same hb (hlt x hx)) (fun x hx => by simpa using hlt x hx)
end Go.Proofs.YtfekgeaopchilaaGreatDoor
