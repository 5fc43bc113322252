/- joined: SmpB PlsR TwvP TwpA AneR CpyR -/
import Derived.Test.YtihcggepeadklaaGreatDoorSamP
import Derived.Laws.MakeOwn
/- elemSame, pathSame, of a path and its twin. -/
set_option linter.unusedSimpArgs false
set_option linter.unusedVariables false
namespace Go.Proofs.YtihcggepeadklaaGreatDoor
open Go.RowKit Go.Lib
set_option maxHeartbeats 4000000 in
set_option maxRecDepth 100000 in
theorem esame_any (e : El) (S S' : Nat → Prop) (cs ds : List Value) (w : World) (hl : e.lies w S cs) (hl' : e.lies w S' ds) (hS : ∀ x, S x → x < w.heap.size) (hS' : ∀ x, S' x → x < w.heap.size) :
    Calls Tryz.prog 24 #[.agg cs.toArray, .agg ds.toArray] w (BPost true w) := by
  obtain ⟨k, nm, m, v⟩ := e
  obtain ⟨am, cm, bm, om, is, rfl, hk, hnm, ham, hm, hv⟩ := hl
  obtain ⟨am', cm', bm', om', is', rfl, _, _, ham', hm', hv'⟩ := hl'
  dsimp only at hk hnm ham hm hv ham' hm' hv' ⊢
  have HM := hmk hm
  have HV := hmk hv
  have HM' := hmk hm'
  have HV' := hmk hv'
  obtain ⟨vk, vb, vi, vs, val, vnl, vcl, vam, vnm, vcm, rfl⟩ := V.ten hv
  obtain ⟨vk', vb', vi', vs', val', vnl', vcl', vam', vnm', vcm', rfl⟩ := V.ten hv'
  clear hm hv hm' hv'
  have hml : m.length ≤ 9223372036854775807 := Nat.le_trans ham.le ham.max
  have hb0 := box_row w [.int .i64 k, .string nm, .slice am m.length cm, .int .i64 vk, .bool vb, .int .i64 vi, .string vs, .slice val vnl vcl, .slice vam vnm vcm] 48
  have hb1 : rowAt ((w.alloc (.cells #[.int .i64 k, .string nm, .slice am m.length cm, .int .i64 vk, .bool vb, .int .i64 vi, .string vs, .slice val vnl vcl, .slice vam vnm vcm] 48)).alloc (.cells #[.int .i64 k, .string nm, .slice am' m.length cm', .int .i64 vk', .bool vb', .int .i64 vi', .string vs', .slice val' vnl' vcl', .slice vam' vnm' vcm'] 48)) w.heap.size 0 [.int .i64 k, .string nm, .slice am m.length cm, .int .i64 vk, .bool vb, .int .i64 vi, .string vs, .slice val vnl vcl, .slice vam vnm vcm] := hb0.keep (Below.heap_alloc _ _ _ (by rw [alloc_size]; omega))
  have hb2 : rowAt ((w.alloc (.cells #[.int .i64 k, .string nm, .slice am m.length cm, .int .i64 vk, .bool vb, .int .i64 vi, .string vs, .slice val vnl vcl, .slice vam vnm vcm] 48)).alloc (.cells #[.int .i64 k, .string nm, .slice am' m.length cm', .int .i64 vk', .bool vb', .int .i64 vi', .string vs', .slice val' vnl' vcl', .slice vam' vnm' vcm'] 48)) (w.heap.size + 1) 0 [.int .i64 k, .string nm, .slice am' m.length cm', .int .i64 vk', .bool vb', .int .i64 vi', .string vs', .slice val' vnl' vcl', .slice vam' vnm' vcm'] := by
    have := box_row (w.alloc (.cells #[.int .i64 k, .string nm, .slice am m.length cm, .int .i64 vk, .bool vb, .int .i64 vi, .string vs, .slice val vnl vcl, .slice vam vnm vcm] 48)) [.int .i64 k, .string nm, .slice am' m.length cm', .int .i64 vk', .bool vb', .int .i64 vi', .string vs', .slice val' vnl' vcl', .slice vam' vnm' vcm'] 48
    rwa [alloc_size] at this
  have B0 := two_below w (.cells #[.int .i64 k, .string nm, .slice am m.length cm, .int .i64 vk, .bool vb, .int .i64 vi, .string vs, .slice val vnl vcl, .slice vam vnm vcm] 48) (.cells #[.int .i64 k, .string nm, .slice am' m.length cm', .int .i64 vk', .bool vb', .int .i64 vi', .string vs', .slice val' vnl' vcl', .slice vam' vnm' vcm'] 48)
  have hz0 : ((w.alloc (.cells #[.int .i64 k, .string nm, .slice am m.length cm, .int .i64 vk, .bool vb, .int .i64 vi, .string vs, .slice val vnl vcl, .slice vam vnm vcm] 48)).alloc (.cells #[.int .i64 k, .string nm, .slice am' m.length cm', .int .i64 vk', .bool vb', .int .i64 vi', .string vs', .slice val' vnl' vcl', .slice vam' vnm' vcm'] 48)).heap.size = w.heap.size + 1 + 1 := by rw [alloc_size, alloc_size]
  clear hb0
  obtain ⟨d0, d1, d2, d3, d4, d5, d6, d7, d8⟩ := row9z hb1
  obtain ⟨f0, f1, f2, f3, f4, f5, f6, f7, f8⟩ := row9z hb2
  have c1 := hmk (vsame_any v 0 S S' _ _ ((w.alloc (.cells #[.int .i64 k, .string nm, .slice am m.length cm, .int .i64 vk, .bool vb, .int .i64 vi, .string vs, .slice val vnl vcl, .slice vam vnm vcm] 48)).alloc (.cells #[.int .i64 k, .string nm, .slice am' m.length cm', .int .i64 vk', .bool vb', .int .i64 vi', .string vs', .slice val' vnl' vcl', .slice vam' vnm' vcm'] 48)) (by omega) (by omega) (V.lies_keep (fun h => h) (fun x hx => B0.block x (hS x hx)) (fun _ h => h) _ HV.out) (V.lies_keep (fun h => h) (fun x hx => B0.block x (hS' x hx)) (fun _ h => h) _ HV'.out) (fun x hx => Nat.lt_of_lt_of_le (hS x hx) B0.size) (fun x hx => Nat.lt_of_lt_of_le (hS' x hx) B0.size))
  go_enter Tryz.func24, Tryz.ntmps24
  go_wp2_with fail
  refine c1.out.mono ?_
  rintro e w1 ⟨rfl, b1⟩
  clear d0 d1 d2 d3 d4 d5 d6 d7 d8 f0 f1 f2 f3 f4 f5 f6 f7 f8 c1
  generalize ((w.alloc (.cells #[.int .i64 k, .string nm, .slice am m.length cm, .int .i64 vk, .bool vb, .int .i64 vi, .string vs, .slice val vnl vcl, .slice vam vnm vcm] 48)).alloc (.cells #[.int .i64 k, .string nm, .slice am' m.length cm', .int .i64 vk', .bool vb', .int .i64 vi', .string vs', .slice val' vnl' vcl', .slice vam' vnm' vcm'] 48)) = w0 at *
  go_wp2_with fail
  go_loopw [5] (fun e wr => ∃ j : Nat, j ≤ m.length ∧ e = .int .i64 (j : Int) ∧ Below w0.heap.size w0 wr) (fun e _ => m.length - (RowKit.intOf e).toNat)
  case atStart => exact ⟨0, by omega, rfl, b1⟩
  case round =>
    clear b1
    obtain ⟨j, hj, rfl, bj⟩ := hrel
    obtain ⟨d0, d1, d2, d3, d4, d5, d6, d7, d8⟩ := row9z (hb1.keep (bj.block _ (by omega)))
    obtain ⟨f0, f1, f2, f3, f4, f5, f6, f7, f8⟩ := row9z (hb2.keep (bj.block _ (by omega)))
    have hzr := bj.size
    by_cases hjl : j < m.length
    · have y2 : (j : Int) < m.length := by omega
      obtain ⟨hSb, hks, csj, hrow, hlj⟩ := liesM_get HM.out j hjl
      obtain ⟨hSb', hks', dsj, hrow', hlj'⟩ := liesM_get HM'.out j hjl
      obtain rfl : am = some ⟨bm, om, none⟩ := ham.at_.resolve_left (by omega)
      obtain rfl : am' = some ⟨bm', om', none⟩ := ham'.at_.resolve_left (by omega)
      have hk0 : ∀ x, S x → wr.heap[x]? = w.heap[x]? := fun x hx => (bj.block x (by have := hS x hx; omega)).trans (B0.block x (hS x hx))
      have hk1 : ∀ x, S' x → wr.heap[x]? = w.heap[x]? := fun x hx => (bj.block x (by have := hS' x hx; omega)).trans (B0.block x (hS' x hx))
      obtain ⟨ek, eb, ei, es, eal, enl, ecl, eam, enm, ecm, rfl⟩ := V.ten hlj
      obtain ⟨ek', eb', ei', es', eal', enl', ecl', eam', enm', ecm', rfl⟩ := V.ten hlj'
      have rw0 := row7 (hrow.keep (hk0 _ hSb))
      have rw1 := row7 (hrow'.keep (hk1 _ hSb'))
      have hbl : bm < wr.heap.size := World.block_lt_of_cell? wr _ rw0.1
      have hbl' : bm' < wr.heap.size := World.block_lt_of_cell? wr _ rw1.1
      have p0 : ∀ x : Sub wr.heap.size wr, _ := sub_cell rw0.1 hbl
      have p1 : ∀ x : Sub wr.heap.size wr, _ := sub_cell rw0.2.1 hbl
      have p2 : ∀ x : Sub wr.heap.size wr, _ := sub_cell rw0.2.2.1 hbl
      have p3 : ∀ x : Sub wr.heap.size wr, _ := sub_cell rw0.2.2.2.1 hbl
      have p4 : ∀ x : Sub wr.heap.size wr, _ := sub_cell rw0.2.2.2.2.1 hbl
      have p5 : ∀ x : Sub wr.heap.size wr, _ := sub_cell rw0.2.2.2.2.2.1 hbl
      have p6 : ∀ x : Sub wr.heap.size wr, _ := sub_cell rw0.2.2.2.2.2.2 hbl
      have q0 : ∀ x : Sub wr.heap.size wr, _ := sub_cell rw1.1 hbl'
      have q1 : ∀ x : Sub wr.heap.size wr, _ := sub_cell rw1.2.1 hbl'
      have q2 : ∀ x : Sub wr.heap.size wr, _ := sub_cell rw1.2.2.1 hbl'
      have q3 : ∀ x : Sub wr.heap.size wr, _ := sub_cell rw1.2.2.2.1 hbl'
      have q4 : ∀ x : Sub wr.heap.size wr, _ := sub_cell rw1.2.2.2.2.1 hbl'
      have q5 : ∀ x : Sub wr.heap.size wr, _ := sub_cell rw1.2.2.2.2.2.1 hbl'
      have q6 : ∀ x : Sub wr.heap.size wr, _ := sub_cell rw1.2.2.2.2.2.2 hbl'
      have u4 : ∀ x : Sub wr.heap.size wr, _ := sub_cell d2 (by omega)
      have v4 : ∀ x : Sub wr.heap.size wr, _ := sub_cell f2 (by omega)
      have CI : Hid (∀ x : Sub wr.heap.size wr, Calls Tryz.prog 46 #[.agg #[.int .i64 ek, .bool eb, .int .i64 ei, .string es, .slice eal enl ecl, .slice eam enm ecm], .agg #[.int .i64 ek', .bool eb', .int .i64 ei', .string es', .slice eal' enl' ecl', .slice eam' enm' ecm'], .int .i64 0] x.w fun e w'' => e = .returned (.bool true) ∧ ∃ y : Sub wr.heap.size wr, w'' = y.w) :=
        sub_call fun w' hb => by
          refine (vsame_any (m[j]).2 0 S S' _ _ w' (by omega) (by omega) (V.lies_keep (fun h => h) (fun x hx => (hb.block x (by have := hS x hx; omega)).trans (hk0 x hx)) (fun _ h => h) _ hlj) (V.lies_keep (fun h => h) (fun x hx => (hb.block x (by have := hS' x hx; omega)).trans (hk1 x hx)) (fun _ h => h) _ hlj') (fun x hx => by have := hS x hx; have := hb.size; omega) (fun x hx => by have := hS' x hx; have := hb.size; omega)).mono ?_
          rintro e w'' ⟨he, h2⟩
          exact ⟨he, hb.trans (h2.mono hb.size)⟩
      clear hlj hlj' hrow hrow' rw0 rw1 hk0 hk1
      generalize m[j] = mj at *
      go_wp2_with fail
      refine wp_region_sub wr.heap.size (by kernel_rfl) (by kernel_rfl) ?_
      repeat (go_big_quiet_step (exact CI.out _))
      refine wpQuiet_nil ?_
      rintro wq ⟨⟨wq', bq⟩, hq⟩
      have hq' : wq = wq' := hq
      subst hq'
      clear hq
      go_wp2_with fail
      go_roundw
      case rel => exact ⟨j + 1, by omega, by go_num, bj.trans (bq.mono hzr)⟩
      case measure => simp [RowKit.intOf]; omega
    · obtain rfl : j = m.length := by omega
      have y2 : ¬ (m.length : Int) < m.length := by omega
      have HB := hmk (B0.trans (bj.mono (by omega)))
      go_wp2_with fail
      go_ret
      exact ⟨rfl, HB.out⟩
set_option maxHeartbeats 4000000 in
set_option maxRecDepth 100000 in
theorem psame_any (p : List El) (S S' : Nat → Prop) (ap : Option Addr) (cp bp op : Nat) (ap' : Option Addr) (cp' bp' op' : Nat) (w : World) (hap : Headed ap p.length cp bp op) (hp : liesP w S p bp op) (hap' : Headed ap' p.length cp' bp' op') (hp' : liesP w S' p bp' op') (hS : ∀ x, S x → x < w.heap.size) (hS' : ∀ x, S' x → x < w.heap.size) :
    Calls Tryz.prog 12 #[.slice ap p.length cp, .slice ap' p.length cp'] w (BPost true w) := by
  have HP := hmk hp
  have HP' := hmk hp'
  clear hp hp'
  have hlp : p.length ≤ 9223372036854775807 := Nat.le_trans hap.le hap.max
  go_enter Tryz.func12, Tryz.ntmps12
  go_wp2_with fail
  go_loopw [5] (fun e wr => ∃ j : Nat, j ≤ p.length ∧ e = .int .i64 (j : Int) ∧ Below w.heap.size w wr) (fun e _ => p.length - (RowKit.intOf e).toNat)
  case atStart => exact ⟨0, by omega, rfl, Below.refl _ _⟩
  case round =>
    obtain ⟨j, hj, rfl, bj⟩ := hrel
    have hzr := bj.size
    by_cases hjl : j < p.length
    · have y2 : (j : Int) < p.length := by omega
      obtain ⟨hSb, csj, hrow, hlj⟩ := HP.out j hjl
      obtain ⟨hSb', dsj, hrow', hlj'⟩ := HP'.out j hjl
      obtain rfl : ap = some ⟨bp, op, none⟩ := hap.at_.resolve_left (by omega)
      obtain rfl : ap' = some ⟨bp', op', none⟩ := hap'.at_.resolve_left (by omega)
      have hk0 : ∀ x, S x → wr.heap[x]? = w.heap[x]? := fun x hx => bj.block x (hS x hx)
      have hk1 : ∀ x, S' x → wr.heap[x]? = w.heap[x]? := fun x hx => bj.block x (hS' x hx)
      obtain ⟨k, s, am, nm, cm, vk, vb, vi, vs, val, vnl, vcl, vam, vnm, vcm, rfl⟩ := El.nine hlj
      obtain ⟨k', s', am', nm', cm', vk', vb', vi', vs', val', vnl', vcl', vam', vnm', vcm', rfl⟩ := El.nine hlj'
      have rw0 := row9 (hrow.keep (hk0 _ hSb))
      have rw1 := row9 (hrow'.keep (hk1 _ hSb'))
      have hbl : bp < wr.heap.size := World.block_lt_of_cell? wr _ rw0.1
      have hbl' : bp' < wr.heap.size := World.block_lt_of_cell? wr _ rw1.1
      have p0 : ∀ x : Sub wr.heap.size wr, _ := sub_cell rw0.1 hbl
      have p1 : ∀ x : Sub wr.heap.size wr, _ := sub_cell rw0.2.1 hbl
      have p2 : ∀ x : Sub wr.heap.size wr, _ := sub_cell rw0.2.2.1 hbl
      have p3 : ∀ x : Sub wr.heap.size wr, _ := sub_cell rw0.2.2.2.1 hbl
      have p4 : ∀ x : Sub wr.heap.size wr, _ := sub_cell rw0.2.2.2.2.1 hbl
      have p5 : ∀ x : Sub wr.heap.size wr, _ := sub_cell rw0.2.2.2.2.2.1 hbl
      have p6 : ∀ x : Sub wr.heap.size wr, _ := sub_cell rw0.2.2.2.2.2.2.1 hbl
      have p7 : ∀ x : Sub wr.heap.size wr, _ := sub_cell rw0.2.2.2.2.2.2.2.1 hbl
      have p8 : ∀ x : Sub wr.heap.size wr, _ := sub_cell rw0.2.2.2.2.2.2.2.2 hbl
      have q0 : ∀ x : Sub wr.heap.size wr, _ := sub_cell rw1.1 hbl'
      have q1 : ∀ x : Sub wr.heap.size wr, _ := sub_cell rw1.2.1 hbl'
      have q2 : ∀ x : Sub wr.heap.size wr, _ := sub_cell rw1.2.2.1 hbl'
      have q3 : ∀ x : Sub wr.heap.size wr, _ := sub_cell rw1.2.2.2.1 hbl'
      have q4 : ∀ x : Sub wr.heap.size wr, _ := sub_cell rw1.2.2.2.2.1 hbl'
      have q5 : ∀ x : Sub wr.heap.size wr, _ := sub_cell rw1.2.2.2.2.2.1 hbl'
      have q6 : ∀ x : Sub wr.heap.size wr, _ := sub_cell rw1.2.2.2.2.2.2.1 hbl'
      have q7 : ∀ x : Sub wr.heap.size wr, _ := sub_cell rw1.2.2.2.2.2.2.2.1 hbl'
      have q8 : ∀ x : Sub wr.heap.size wr, _ := sub_cell rw1.2.2.2.2.2.2.2.2 hbl'
      have CI : Hid (∀ x : Sub wr.heap.size wr, Calls Tryz.prog 24 #[.agg #[.int .i64 k, .string s, .slice am nm cm, .int .i64 vk, .bool vb, .int .i64 vi, .string vs, .slice val vnl vcl, .slice vam vnm vcm], .agg #[.int .i64 k', .string s', .slice am' nm' cm', .int .i64 vk', .bool vb', .int .i64 vi', .string vs', .slice val' vnl' vcl', .slice vam' vnm' vcm']] x.w fun e w'' => e = .returned (.bool true) ∧ ∃ y : Sub wr.heap.size wr, w'' = y.w) :=
        sub_call fun w' hb => by
          refine (esame_any p[j] S S' _ _ w' (El.lies_keep (fun x hx => (hb.block x (by have := hS x hx; omega)).trans (hk0 x hx)) (fun _ h => h) hlj) (El.lies_keep (fun x hx => (hb.block x (by have := hS' x hx; omega)).trans (hk1 x hx)) (fun _ h => h) hlj') (fun x hx => by have := hS x hx; have := hb.size; omega) (fun x hx => by have := hS' x hx; have := hb.size; omega)).mono ?_
          rintro e w'' ⟨he, h2⟩
          exact ⟨he, hb.trans (h2.mono hb.size)⟩
      clear hlj hlj' hrow hrow' rw0 rw1 hk0 hk1
      go_wp2_with fail
      refine wp_region_sub wr.heap.size (by kernel_rfl) (by kernel_rfl) ?_
      repeat (go_big_quiet_step (exact CI.out _))
      refine wpQuiet_nil ?_
      rintro wq ⟨⟨wq', bq⟩, hq⟩
      have hq' : wq = wq' := hq
      subst hq'
      clear hq
      go_wp2_with fail
      go_roundw
      case rel => exact ⟨j + 1, by omega, by go_num, bj.trans (bq.mono hzr)⟩
      case measure => simp [RowKit.intOf]; omega
    · obtain rfl : j = p.length := by omega
      have y2 : ¬ (p.length : Int) < p.length := by omega
      have HB := hmk bj
      go_wp2_with fail
      go_ret
      exact ⟨rfl, HB.out⟩
end Go.Proofs.YtihcggepeadklaaGreatDoor
/- Lists of paths: how they lie, how they are counted, that a list and its twin are the same. -/
namespace Go.Proofs.YtihcggepeadklaaGreatDoor
open Go.RowKit Go.Lib
/-- a path's one cell -/
def Pl.lies (w : World) (S : Nat → Prop) (p : List El) (v : Value) : Prop := ∃ ap cp bp op, v = .slice ap p.length cp ∧ Headed ap p.length cp bp op ∧ liesP w S p bp op
theorem Pl.keep {w w' : World} {S S' : Nat → Prop} (hw : ∀ b, S b → w'.heap[b]? = w.heap[b]?) (hS : ∀ b, S b → S' b) {p : List El} {v : Value} (h : Pl.lies w S p v) : Pl.lies w' S' p v := by
  obtain ⟨ap, cp, bp, op, e, h1, h2⟩ := h
  exact ⟨ap, cp, bp, op, e, h1, liesP_keep hw hS h2⟩
end Go.Proofs.YtihcggepeadklaaGreatDoor
/- twinValue: the same value in memory of its own, down to the fourth level. -/
namespace Go.Proofs.YtihcggepeadklaaGreatDoor
open Go.RowKit
theorem headed_nil : Headed none ([] : List V).length 0 0 0 := ⟨Nat.le_refl _, by simp [maxLen], .inl rfl, fun _ => rfl⟩
theorem own_listM0 {w : World} {N : Nat} {S T : Nat → Prop} {v : Value} {l : List Mem} (h : OwnM false w N S v (l.map some)) (hT : ∀ b, S b → T b) (hv : ∀ g, v.ownBlock = some g → T g) : ∃ a c b o, v = .slice a l.length c ∧ Headed a l.length c b o ∧ liesM false w T l b o := by
  have h' := h
  obtain ⟨⟨xs, h1, h2⟩, h3⟩ := h'
  rcases h1.2 with ⟨rfl, e⟩ | ⟨g, cap, cur, rfl, _⟩
  · have e0 : l.length = 0 := by simpa using e
    have : l = [] := List.length_eq_zero_iff.1 e0
    subst this
    exact ⟨none, 0, 0, 0, rfl, headed_nil, by rw [liesM]; trivial⟩
  · have hle := h.le
    simp only [List.length_map] at hle ⊢
    refine ⟨_, cap, g, 0, rfl, ⟨hle.1, hle.2, .inr rfl, fun h => by cases h⟩, liesM_mk fun j hj => ?_⟩
    obtain ⟨cs, k1, k2⟩ := h.at (by simp) j (by simpa using hj)
    rw [List.getElem_map] at k2
    obtain ⟨cs', rfl, hks, k3⟩ := k2
    exact ⟨hv g rfl, hks, cs', k1, V.lies_keep (fun h => h) (fun _ _ => rfl) hT _ k3⟩
end Go.Proofs.YtihcggepeadklaaGreatDoor
/- twin: the same path in memory of its own. -/
namespace Go.Proofs.YtihcggepeadklaaGreatDoor
open Go.RowKit
def EP (x : El) (w : World) (S : Nat → Prop) (cs : List Value) : Prop := x.lies w S cs
theorem keepP : KeepE EP := fun x w w' S S' cs hw hS h => El.lies_keep hw hS h
abbrev OwnP := OwnR EP 48 9
theorem info35 : (Tryz.prog.info? 48).map (fun i => (i.zero, i.size, i.bytes)) = some (some (.agg #[.int .i64 0, .string ⟨#[]⟩, .slice none 0 0, .int .i64 0, .bool false, .int .i64 0, .string ⟨#[]⟩, .slice none 0 0, .slice none 0 0]), 9, 136) := by kernel_rfl
theorem one9 {k i j : Int} {b : Bool} {s r : ByteArray} {p q o : Option Addr} {n c n' c' n2 c2 : Nat} : ∀ u ∈ [Value.int .i64 k, .string r, .slice o n2 c2, .int .i64 i, .bool b, .int .i64 j, .string s, .slice p n c, .slice q n' c'], u.oneCell' = true := by
  intro u hu
  simp at hu
  rcases hu with rfl | rfl | rfl | rfl | rfl | rfl | rfl | rfl | rfl <;> rfl
/-- the block of the element that is made -/
structure TpF (w : World) (loc : Array Value) (wr : World) : Prop where
  below : Below w.heap.size w wr
  b2 : wr.heap[w.heap.size]? = some (.cells loc 48 (0, 0))
theorem TpF.lt {w : World} {loc : Array Value} {wr : World} (h : TpF w loc wr) : w.heap.size + 1 ≤ wr.heap.size := (Array.getElem?_eq_some_iff.1 h.b2).1
theorem TpF.grown {w : World} {loc : Array Value} {wr wr' : World} (h : TpF w loc wr) {row : Option Nat} (g : wr.grownBy wr' row) (hr : ∀ r, row = some r → w.heap.size + 1 ≤ r) : TpF w loc wr' := by
  have hs := h.lt
  exact ⟨h.below.grown g (by omega) (fun r e => by have := hr r e; omega), (g.block _ (by omega) (fun e => by have := hr _ e.symm; omega)).trans h.b2⟩
theorem TpF.set {w : World} {loc loc' : Array Value} {wr : World} (h : TpF w loc wr) (i : Nat) (u : Value) (e : loc.setIfInBounds i u = loc') : TpF w loc' (wr.setCell ⟨w.heap.size, i, none⟩ u) := by
  have g := grown_set1 wr w.heap.size i u
  refine ⟨h.below.grown g h.below.size (fun r e => by cases e; omega), ?_⟩
  rw [set_block h.b2, e]
theorem own_listP {w : World} {N : Nat} {S T : Nat → Prop} {v : Value} {l : List El} (h : OwnP w N S v l) (hT : ∀ b, S b → T b) (hv : ∀ g, v.ownBlock = some g → T g) : ∃ a c b o, v = .slice a l.length c ∧ Headed a l.length c b o ∧ liesP w T l b o := by
  have h' := h
  obtain ⟨⟨xs, h1, h2⟩, h3⟩ := h'
  rcases h1.2 with ⟨rfl, e⟩ | ⟨g, cap, cur, rfl, _⟩
  · have : l = [] := List.length_eq_zero_iff.1 e
    subst this
    exact ⟨none, 0, 0, 0, rfl, ⟨Nat.le_refl _, by simp [maxLen], .inl rfl, fun _ => rfl⟩, fun j hj => by simp at hj⟩
  · have hle := h.le
    refine ⟨_, cap, g, 0, rfl, ⟨hle.1, hle.2, .inr rfl, fun h => by cases h⟩, fun j hj => ⟨hv g rfl, ?_⟩⟩
    obtain ⟨cs, k1, k2⟩ := h.at rfl j hj
    exact ⟨cs, k1, El.lies_keep (fun _ _ => rfl) hT k2⟩
end Go.Proofs.YtihcggepeadklaaGreatDoor
/- anewElem: an element in memory of its own, its scalars without their lists. -/
namespace Go.Proofs.YtihcggepeadklaaGreatDoor
open Go.RowKit Go.Lib
/-- the element as it came, and the one that is answered -/
structure AnF (w : World) (ent : Array Value) (wr : World) : Prop where
  below : Below w.heap.size w wr
  b1 : wr.heap[w.heap.size]? = some (.cells ent 48 (0, 0))
  b2 : wr.heap[w.heap.size + 1]? = some (.cells #[.int .i64 0, .string ⟨#[]⟩, .slice none 0 0, .int .i64 0, .bool false, .int .i64 0, .string ⟨#[]⟩, .slice none 0 0, .slice none 0 0] 48 (0, 0))
theorem AnF.lt {w : World} {ent : Array Value} {wr : World} (h : AnF w ent wr) : w.heap.size + 2 ≤ wr.heap.size := (Array.getElem?_eq_some_iff.1 h.b2).1
theorem AnF.grown {w : World} {ent : Array Value} {wr wr' : World} (h : AnF w ent wr) {row : Option Nat} (g : wr.grownBy wr' row) (hr : ∀ r, row = some r → w.heap.size + 2 ≤ r) : AnF w ent wr' := by
  have hs := h.lt
  exact ⟨h.below.grown g (by omega) (fun r e => by have := hr r e; omega), (g.block _ (by omega) (fun e => by have := hr _ e.symm; omega)).trans h.b1, (g.block _ (by omega) (fun e => by have := hr _ e.symm; omega)).trans h.b2⟩
end Go.Proofs.YtihcggepeadklaaGreatDoor
/- checked.Copy: a path once more, in new memory. -/
namespace Go.Proofs.YtihcggepeadklaaGreatDoor
open Go.RowKit Go.Lib
def New (w w' : World) (x : Nat) : Prop := w.heap.size ≤ x ∧ x < w'.heap.size
/-- the rows that stand so far in the block g -/
def RowsE (l : List El) (j g : Nat) (w : World) : Prop := ∀ (i : Nat) (h : i < l.length), i < j → ∃ cs, rowAt w g (i * 9) cs ∧ cs.length = 9 ∧ (l[i]).lies w (fun x => g < x ∧ x < w.heap.size) cs
def Blk (g ty n : Nat) (w : World) : Prop := ∃ arr, w.heap[g]? = some (.cells arr ty (0, 0)) ∧ arr.size = n
theorem Blk.cell {g ty n : Nat} {w : World} (h : Blk g ty n w) (i : Nat) (hi : i < n) : ∃ v, w.cell? ⟨g, i, none⟩ = some v := by
  obtain ⟨arr, h1, h2⟩ := h
  exact ⟨arr[i], by rw [cell_of_block h1]; simp [h2, hi]⟩
theorem Blk.frozen {g ty n : Nat} {w : World} (h : Blk g ty n w) (i : Nat) : w.frozen? ⟨g, i, none⟩ = false := by
  obtain ⟨arr, h1, h2⟩ := h
  exact frozen_of_block h1 i
theorem Blk.keep {g ty n : Nat} {w w' : World} (h : Blk g ty n w) (e : w'.heap[g]? = w.heap[g]?) : Blk g ty n w' := by
  obtain ⟨arr, h1, h2⟩ := h
  exact ⟨arr, e.trans h1, h2⟩
theorem RowsE.below {l : List El} {j g : Nat} {w w' : World} (h : RowsE l j g w) (hg : g < w.heap.size) (hb : Below w.heap.size w w') : RowsE l j g w' := fun i hi hij => by
  obtain ⟨cs, r, hl, lies⟩ := h i hi hij
  exact ⟨cs, r.keep (hb.block g hg), hl, El.lies_keep (fun x hx => hb.block x hx.2) (fun x hx => ⟨hx.1, Nat.lt_of_lt_of_le hx.2 hb.size⟩) lies⟩
end Go.Proofs.YtihcggepeadklaaGreatDoor
