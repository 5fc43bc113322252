import Derived.Test.YthlhkhcbkgbhfaaGreatDoorTwqS
/- same, samePath, samePaths of the statements of layer 10, of what is the same. -/
set_option linter.unusedSimpArgs false
set_option linter.unusedVariables false
namespace Go.Proofs.YthlhkhcbkgbhfaaGreatDoor
open Go.RowKit Go.Lib
set_option maxHeartbeats 4000000 in
set_option maxRecDepth 100000 in
theorem samev_any (k : Int) (b : Bool) (i : Int) (s : ByteArray) (nl nm : Nat) (al : Option Addr) (cl : Nat) (am : Option Addr) (cm : Nat) (al2 : Option Addr) (cl2 : Nat) (am2 : Option Addr) (cm2 : Nat) (w : World) :
    Calls Tryz.prog 47 #[.agg #[.int .i64 k, .bool b, .int .i64 i, .string s, .slice al nl cl, .slice am nm cm], .agg #[.int .i64 k, .bool b, .int .i64 i, .string s, .slice al2 nl cl2, .slice am2 nm cm2]] w (BPost true w) := by
  have hb0 := box_row w [.int .i64 k, .bool b, .int .i64 i, .string s, .slice al nl cl, .slice am nm cm] 64
  have hb1 : rowAt ((w.alloc (.cells #[.int .i64 k, .bool b, .int .i64 i, .string s, .slice al nl cl, .slice am nm cm] 64)).alloc (.cells #[.int .i64 k, .bool b, .int .i64 i, .string s, .slice al2 nl cl2, .slice am2 nm cm2] 64)) w.heap.size 0 [.int .i64 k, .bool b, .int .i64 i, .string s, .slice al nl cl, .slice am nm cm] := hb0.keep (Below.heap_alloc _ _ _ (by rw [alloc_size]; omega))
  have hb2 : rowAt ((w.alloc (.cells #[.int .i64 k, .bool b, .int .i64 i, .string s, .slice al nl cl, .slice am nm cm] 64)).alloc (.cells #[.int .i64 k, .bool b, .int .i64 i, .string s, .slice al2 nl cl2, .slice am2 nm cm2] 64)) (w.heap.size + 1) 0 [.int .i64 k, .bool b, .int .i64 i, .string s, .slice al2 nl cl2, .slice am2 nm cm2] := by
    have := box_row (w.alloc (.cells #[.int .i64 k, .bool b, .int .i64 i, .string s, .slice al nl cl, .slice am nm cm] 64)) [.int .i64 k, .bool b, .int .i64 i, .string s, .slice al2 nl cl2, .slice am2 nm cm2] 64
    rwa [alloc_size] at this
  have B0 := two_below w (.cells #[.int .i64 k, .bool b, .int .i64 i, .string s, .slice al nl cl, .slice am nm cm] 64) (.cells #[.int .i64 k, .bool b, .int .i64 i, .string s, .slice al2 nl cl2, .slice am2 nm cm2] 64)
  obtain ⟨d0, d1, d2, d3, d4, d5⟩ := row6z hb1
  obtain ⟨g0, g1, g2, g3, g4, g5⟩ := row6z hb2
  have HB := hmk B0
  clear hb0 hb1 hb2 B0
  go_enter Tryz.func47, Tryz.ntmps47
  go_wp2_with fail
  go_ret
  exact ⟨rfl, HB.out⟩
theorem V.ten2 {R R' : Bool} {v : V} {w w' : World} {S S' : Nat → Prop} {cs ds : List Value} (h : v.lies R w S cs) (h' : v.lies R' w' S' ds) : ∃ (k : Int) (b : Bool) (i : Int) (s : ByteArray) (nl nm : Nat) (al : Option Addr) (cl : Nat) (am : Option Addr) (cm : Nat) (al2 : Option Addr) (cl2 : Nat) (am2 : Option Addr) (cm2 : Nat), cs = [.int .i64 k, .bool b, .int .i64 i, .string s, .slice al nl cl, .slice am nm cm] ∧ ds = [.int .i64 k, .bool b, .int .i64 i, .string s, .slice al2 nl cl2, .slice am2 nm cm2] := by
  obtain ⟨k, b, i, s, l, m⟩ := v
  rw [V.lies] at h h'
  obtain ⟨al, cl, bl, ol, am, cm, bm, om, rfl, _⟩ := h
  obtain ⟨al2, cl2, bl2, ol2, am2, cm2, bm2, om2, rfl, _⟩ := h'
  exact ⟨k, b, i, s, l.length, m.length, al, cl, am, cm, al2, cl2, am2, cm2, rfl, rfl⟩
set_option maxHeartbeats 8000000 in
set_option maxRecDepth 100000 in
theorem spath_any (p : List El) (S S' : Nat → Prop) (ap : Option Addr) (cp bp op : Nat) (ap' : Option Addr) (cp' bp' op' : Nat) (w : World) (hap : Headed ap p.length cp bp op) (hp : liesP w S p bp op) (hap' : Headed ap' p.length cp' bp' op') (hp' : liesP w S' p bp' op') (hS : ∀ x, S x → x < w.heap.size) (hS' : ∀ x, S' x → x < w.heap.size) :
    Calls Tryz.prog 25 #[.slice ap p.length cp, .slice ap' p.length cp'] w (BPost true w) := by
  have HP := hmk hp
  have HP' := hmk hp'
  clear hp hp'
  have hlp : p.length ≤ 9223372036854775807 := Nat.le_trans hap.le hap.max
  go_enter Tryz.func25, Tryz.ntmps25
  go_wp2_with fail
  go_loopw [5] (fun e wr => ∃ j : Nat, j ≤ p.length ∧ e = .int .i64 (j : Int) ∧ Below w.heap.size w wr) (fun e _ => p.length - (RowKit.intOf e).toNat)
  case atStart => exact ⟨0, by omega, rfl, Below.refl _ _⟩
  case round =>
    obtain ⟨j, hj, rfl, bj⟩ := hrel
    have hzr := bj.size
    by_cases hjl : j < p.length
    case neg =>
      obtain rfl : j = p.length := by omega
      have y2 : ¬ (p.length : Int) < p.length := by omega
      go_wp2_with fail
      go_ret
      exact ⟨rfl, bj⟩
    have y2 : (j : Int) < p.length := by omega
    obtain ⟨hSb, csj, hrow, hlj⟩ := HP.out j hjl
    obtain ⟨hSb', dsj, hrow', hlj'⟩ := HP'.out j hjl
    obtain rfl : ap = some ⟨bp, op, none⟩ := hap.at_.resolve_left (by omega)
    obtain rfl : ap' = some ⟨bp', op', none⟩ := hap'.at_.resolve_left (by omega)
    rcases hej : p[j] with ⟨k, nm, m, v⟩
    rw [hej] at hlj hlj'
    clear hej
    obtain ⟨am, cm, bm, om, is, rfl, hk, hnm, ham, hm, hv⟩ := hlj
    obtain ⟨am', cm', bm', om', is', rfl, _, _, ham', hm', hv'⟩ := hlj'
    dsimp only at hk hnm ham hm hv ham' hm' hv'
    obtain ⟨xk, xb, xi, xs, xnl, xnm, xal, xcl, xam, xcm, yal, ycl, yam, ycm, rfl, rfl⟩ := V.ten2 hv hv'
    have HM := hmk hm
    have HM' := hmk hm'
    clear hm hm' hv hv'
    have hml : m.length ≤ 9223372036854775807 := Nat.le_trans ham.le ham.max
    have R0 : Hid (∀ W, Below w.heap.size w W → rowAt W bp (op + j * 9) [.int .i64 k, .string nm, .slice am m.length cm, .int .i64 xk, .bool xb, .int .i64 xi, .string xs, .slice xal xnl xcl, .slice xam xnm xcm]) := fun W hb => hrow.keep (hb.block _ (hS _ hSb))
    have R1 : Hid (∀ W, Below w.heap.size w W → rowAt W bp' (op' + j * 9) [.int .i64 k, .string nm, .slice am' m.length cm', .int .i64 xk, .bool xb, .int .i64 xi, .string xs, .slice yal xnl ycl, .slice yam xnm ycm]) := fun W hb => hrow'.keep (hb.block _ (hS' _ hSb'))
    have hbS := hS _ hSb
    have hbS' := hS' _ hSb'
    have rw0 := row9 (R0.out wr bj)
    have rw1 := row9 (R1.out wr bj)
    have p0 : ∀ x : Sub wr.heap.size wr, _ := sub_cell rw0.1 (show bp < wr.heap.size by omega)
    have p1 : ∀ x : Sub wr.heap.size wr, _ := sub_cell rw0.2.1 (show bp < wr.heap.size by omega)
    have p2 : ∀ x : Sub wr.heap.size wr, _ := sub_cell rw0.2.2.1 (show bp < wr.heap.size by omega)
    have p3 : ∀ x : Sub wr.heap.size wr, _ := sub_cell rw0.2.2.2.1 (show bp < wr.heap.size by omega)
    have p4 : ∀ x : Sub wr.heap.size wr, _ := sub_cell rw0.2.2.2.2.1 (show bp < wr.heap.size by omega)
    have p5 : ∀ x : Sub wr.heap.size wr, _ := sub_cell rw0.2.2.2.2.2.1 (show bp < wr.heap.size by omega)
    have p6 : ∀ x : Sub wr.heap.size wr, _ := sub_cell rw0.2.2.2.2.2.2.1 (show bp < wr.heap.size by omega)
    have p7 : ∀ x : Sub wr.heap.size wr, _ := sub_cell rw0.2.2.2.2.2.2.2.1 (show bp < wr.heap.size by omega)
    have p8 : ∀ x : Sub wr.heap.size wr, _ := sub_cell rw0.2.2.2.2.2.2.2.2 (show bp < wr.heap.size by omega)
    have q0 : ∀ x : Sub wr.heap.size wr, _ := sub_cell rw1.1 (show bp' < wr.heap.size by omega)
    have q1 : ∀ x : Sub wr.heap.size wr, _ := sub_cell rw1.2.1 (show bp' < wr.heap.size by omega)
    have q2 : ∀ x : Sub wr.heap.size wr, _ := sub_cell rw1.2.2.1 (show bp' < wr.heap.size by omega)
    have q3 : ∀ x : Sub wr.heap.size wr, _ := sub_cell rw1.2.2.2.1 (show bp' < wr.heap.size by omega)
    have q4 : ∀ x : Sub wr.heap.size wr, _ := sub_cell rw1.2.2.2.2.1 (show bp' < wr.heap.size by omega)
    have q5 : ∀ x : Sub wr.heap.size wr, _ := sub_cell rw1.2.2.2.2.2.1 (show bp' < wr.heap.size by omega)
    have q6 : ∀ x : Sub wr.heap.size wr, _ := sub_cell rw1.2.2.2.2.2.2.1 (show bp' < wr.heap.size by omega)
    have q7 : ∀ x : Sub wr.heap.size wr, _ := sub_cell rw1.2.2.2.2.2.2.2.1 (show bp' < wr.heap.size by omega)
    have q8 : ∀ x : Sub wr.heap.size wr, _ := sub_cell rw1.2.2.2.2.2.2.2.2 (show bp' < wr.heap.size by omega)
    have CI : Hid (∀ x : Sub wr.heap.size wr, Calls Tryz.prog 47 #[.agg #[.int .i64 xk, .bool xb, .int .i64 xi, .string xs, .slice xal xnl xcl, .slice xam xnm xcm], .agg #[.int .i64 xk, .bool xb, .int .i64 xi, .string xs, .slice yal xnl ycl, .slice yam xnm ycm]] x.w fun e w'' => e = .returned (.bool true) ∧ ∃ y : Sub wr.heap.size wr, w'' = y.w) :=
      sub_call fun w' hb => (samev_any xk xb xi xs xnl xnm xal xcl xam xcm yal ycl yam ycm w').mono fun e w'' h => ⟨h.1, hb.trans (h.2.mono hb.size)⟩
    clear hrow hrow' rw0 rw1
    go_wp2_with fail
    refine wp_region_sub wr.heap.size (by kernel_rfl) (by kernel_rfl) ?_
    repeat (go_big_quiet_step (exact CI.out _))
    refine wpQuiet_nil ?_
    rintro wq ⟨⟨wq', bq⟩, hq⟩
    have hq' : wq = wq' := hq
    subst hq'
    clear hq
    have BQ := bj.trans (bq.mono hzr)
    clear p0 p1 p2 p3 p4 p5 p6 p7 p8 q0 q1 q2 q3 q4 q5 q6 q7 q8 CI bq bj hzr
    go_wp2_with fail
    go_loopw [6] (fun e wr => ∃ i : Nat, i ≤ m.length ∧ e = .int .i64 (i : Int) ∧ Below w.heap.size w wr) (fun e _ => m.length - (RowKit.intOf e).toNat)
    case atStart => exact ⟨0, by omega, rfl, BQ⟩
    case round =>
      clear BQ
      obtain ⟨i, hi, rfl, bj⟩ := hrel
      have hzr := bj.size
      have rw0 := row9 (R0.out wr bj)
      have rw1 := row9 (R1.out wr bj)
      have t2 := rw0.2.2.1
      by_cases hil : i < m.length
      case neg =>
        obtain rfl : i = m.length := by omega
        have y4 : ¬ (m.length : Int) < m.length := by omega
        clear rw0 rw1
        go_wp2_with fail
        go_roundw
        case rel => exact ⟨j + 1, by omega, by go_num, bj⟩
        case measure => simp [RowKit.intOf]; omega
      have y4 : (i : Int) < m.length := by omega
      obtain ⟨hSm, hks, csi, hrw, hli⟩ := liesM_get HM.out i hil
      obtain ⟨hSm', hks', dsi, hrw', hli'⟩ := liesM_get HM'.out i hil
      obtain rfl : am = some ⟨bm, om, none⟩ := ham.at_.resolve_left (by omega)
      obtain rfl : am' = some ⟨bm', om', none⟩ := ham'.at_.resolve_left (by omega)
      obtain ⟨ek, eb, ei, es, enl, enm, eal, ecl, eam, ecm, fal, fcl, fam, fcm, rfl, rfl⟩ := V.ten2 hli hli'
      have mm0 := row7 (hrw.keep (bj.block _ (hS _ hSm)))
      have mm1 := row7 (hrw'.keep (bj.block _ (hS' _ hSm')))
      have hbm := hS _ hSm
      have hbm' := hS' _ hSm'
      have p0 : ∀ x : Sub wr.heap.size wr, _ := sub_cell mm0.1 (show bm < wr.heap.size by omega)
      have p1 : ∀ x : Sub wr.heap.size wr, _ := sub_cell mm0.2.1 (show bm < wr.heap.size by omega)
      have p2 : ∀ x : Sub wr.heap.size wr, _ := sub_cell mm0.2.2.1 (show bm < wr.heap.size by omega)
      have p3 : ∀ x : Sub wr.heap.size wr, _ := sub_cell mm0.2.2.2.1 (show bm < wr.heap.size by omega)
      have p4 : ∀ x : Sub wr.heap.size wr, _ := sub_cell mm0.2.2.2.2.1 (show bm < wr.heap.size by omega)
      have p5 : ∀ x : Sub wr.heap.size wr, _ := sub_cell mm0.2.2.2.2.2.1 (show bm < wr.heap.size by omega)
      have p6 : ∀ x : Sub wr.heap.size wr, _ := sub_cell mm0.2.2.2.2.2.2 (show bm < wr.heap.size by omega)
      have q0 : ∀ x : Sub wr.heap.size wr, _ := sub_cell mm1.1 (show bm' < wr.heap.size by omega)
      have q1 : ∀ x : Sub wr.heap.size wr, _ := sub_cell mm1.2.1 (show bm' < wr.heap.size by omega)
      have q2 : ∀ x : Sub wr.heap.size wr, _ := sub_cell mm1.2.2.1 (show bm' < wr.heap.size by omega)
      have q3 : ∀ x : Sub wr.heap.size wr, _ := sub_cell mm1.2.2.2.1 (show bm' < wr.heap.size by omega)
      have q4 : ∀ x : Sub wr.heap.size wr, _ := sub_cell mm1.2.2.2.2.1 (show bm' < wr.heap.size by omega)
      have q5 : ∀ x : Sub wr.heap.size wr, _ := sub_cell mm1.2.2.2.2.2.1 (show bm' < wr.heap.size by omega)
      have q6 : ∀ x : Sub wr.heap.size wr, _ := sub_cell mm1.2.2.2.2.2.2 (show bm' < wr.heap.size by omega)
      have u2 : ∀ x : Sub wr.heap.size wr, _ := sub_cell rw0.2.2.1 (show bp < wr.heap.size by omega)
      have v2 : ∀ x : Sub wr.heap.size wr, _ := sub_cell rw1.2.2.1 (show bp' < wr.heap.size by omega)
      have CI : Hid (∀ x : Sub wr.heap.size wr, Calls Tryz.prog 47 #[.agg #[.int .i64 ek, .bool eb, .int .i64 ei, .string es, .slice eal enl ecl, .slice eam enm ecm], .agg #[.int .i64 ek, .bool eb, .int .i64 ei, .string es, .slice fal enl fcl, .slice fam enm fcm]] x.w fun e w'' => e = .returned (.bool true) ∧ ∃ y : Sub wr.heap.size wr, w'' = y.w) :=
        sub_call fun w' hb => (samev_any ek eb ei es enl enm eal ecl eam ecm fal fcl fam fcm w').mono fun e w'' h => ⟨h.1, hb.trans (h.2.mono hb.size)⟩
      generalize m[i] = mi at *
      clear hli hli' hrw hrw' mm0 mm1 rw0 rw1 HM HM'
      go_wp2_with fail
      refine wp_region_sub wr.heap.size (by kernel_rfl) (by kernel_rfl) ?_
      repeat (go_big_quiet_step (exact CI.out _))
      refine wpQuiet_nil ?_
      rintro wq ⟨⟨wq', bq⟩, hq⟩
      have hq' : wq = wq' := hq
      subst hq'
      clear hq
      go_wp2_with fail
      go_roundw
      case rel => exact ⟨i + 1, by omega, by go_num, bj.trans (bq.mono hzr)⟩
      case measure => simp [RowKit.intOf]; omega
set_option maxHeartbeats 4000000 in
set_option maxRecDepth 100000 in
theorem sspath_any (l : List (List El)) (S S' : Nat → Prop) (ap : Option Addr) (cp bp op : Nat) (ap' : Option Addr) (cp' bp' op' : Nat) (w : World) (hap : Headed ap l.length cp bp op) (hp : liesQ w S l bp op) (hap' : Headed ap' l.length cp' bp' op') (hp' : liesQ w S' l bp' op') (hS : ∀ x, S x → x < w.heap.size) (hS' : ∀ x, S' x → x < w.heap.size) :
    Calls Tryz.prog 16 #[.slice ap l.length cp, .slice ap' l.length cp'] w (BPost true w) := by
  have HP := hmk hp
  have HP' := hmk hp'
  clear hp hp'
  have hlp : l.length ≤ 9223372036854775807 := Nat.le_trans hap.le hap.max
  go_enter Tryz.func16, Tryz.ntmps16
  go_wp2_with fail
  go_loopw [5] (fun e wr => ∃ j : Nat, j ≤ l.length ∧ e = .int .i64 (j : Int) ∧ Below w.heap.size w wr) (fun e _ => l.length - (RowKit.intOf e).toNat)
  case atStart => exact ⟨0, by omega, rfl, Below.refl _ _⟩
  case round =>
    obtain ⟨j, hj, rfl, bj⟩ := hrel
    have hzr := bj.size
    by_cases hjl : j < l.length
    · have y2 : (j : Int) < l.length := by omega
      obtain ⟨hSb, v, hv, aq, cq, bq, oq, rfl, hhq, hlq⟩ := HP.out j hjl
      obtain ⟨hSb', v', hv', aq', cq', bq', oq', rfl, hhq', hlq'⟩ := HP'.out j hjl
      obtain rfl : ap = some ⟨bp, op, none⟩ := hap.at_.resolve_left (by omega)
      obtain rfl : ap' = some ⟨bp', op', none⟩ := hap'.at_.resolve_left (by omega)
      have hk0 : ∀ x, S x → wr.heap[x]? = w.heap[x]? := fun x hx => bj.block x (hS x hx)
      have hk1 : ∀ x, S' x → wr.heap[x]? = w.heap[x]? := fun x hx => bj.block x (hS' x hx)
      have r0 : wr.cell? ⟨bp, op + j, none⟩ = some (.slice aq (l[j]).length cq) := (World.cell?_of_block (w := w) (a := ⟨bp, op + j, none⟩) (hk0 _ hSb)).trans hv
      have r1 : wr.cell? ⟨bp', op' + j, none⟩ = some (.slice aq' (l[j]).length cq') := (World.cell?_of_block (w := w) (a := ⟨bp', op' + j, none⟩) (hk1 _ hSb')).trans hv'
      have hbl : bp < wr.heap.size := World.block_lt_of_cell? wr _ r0
      have hbl' : bp' < wr.heap.size := World.block_lt_of_cell? wr _ r1
      have p0 : ∀ x : Sub wr.heap.size wr, _ := sub_cell r0 hbl
      have q0 : ∀ x : Sub wr.heap.size wr, _ := sub_cell r1 hbl'
      have CI : Hid (∀ x : Sub wr.heap.size wr, Calls Tryz.prog 25 #[.slice aq (l[j]).length cq, .slice aq' (l[j]).length cq'] x.w fun e w'' => e = .returned (.bool true) ∧ ∃ y : Sub wr.heap.size wr, w'' = y.w) :=
        sub_call fun w' hb => by
          refine (spath_any l[j] S S' aq cq bq oq aq' cq' bq' oq' w' hhq (liesP_keep (fun x hx => (hb.block x (by have := hS x hx; omega)).trans (hk0 x hx)) (fun _ h => h) hlq) hhq' (liesP_keep (fun x hx => (hb.block x (by have := hS' x hx; omega)).trans (hk1 x hx)) (fun _ h => h) hlq') (fun x hx => by have := hS x hx; have := hb.size; omega) (fun x hx => by have := hS' x hx; have := hb.size; omega)).mono ?_
          rintro e w'' ⟨he, h2⟩
          exact ⟨he, hb.trans (h2.mono hb.size)⟩
      clear hlq hlq' hv hv' r0 r1 hk0 hk1 hhq hhq'
      generalize (l[j]).length = nj at *
      go_wp2_with fail
      refine wp_region_sub wr.heap.size (by kernel_rfl) (by kernel_rfl) ?_
      repeat (go_big_quiet_step (exact CI.out _))
      refine wpQuiet_nil ?_
      rintro wq ⟨⟨wq', bq⟩, hq⟩
      have hq' : wq = wq' := hq
      subst hq'
      clear hq
      go_wp2_with fail
      go_roundw
      case rel => exact ⟨j + 1, by omega, by go_num, bj.trans (bq.mono hzr)⟩
      case measure => simp [RowKit.intOf]; omega
    · obtain rfl : j = l.length := by omega
      have y2 : ¬ (l.length : Int) < l.length := by omega
      have HB := hmk bj
      go_wp2_with fail
      go_ret
      exact ⟨rfl, HB.out⟩
end Go.Proofs.YthlhkhcbkgbhfaaGreatDoor
