import Derived.Test.YtpmhdcmmlkjjmaaGreatDoorG44
/- bytes.Cut; valuesSame. -/
set_option linter.unusedSimpArgs false
set_option linter.unusedVariables false
set_option maxRecDepth 100000
namespace Go.Proofs.YtpmhdcmmlkjjmaaGreatDoor
open Go.RowKit Go.Lib
theorem byt_part {w : World} {a : Option Addr} {n c b o i : Nat} {l m : List UInt8} (hd : Headed a n c b (o + i * 1)) (hn : n = m.length) (hm : ∀ (j : Nat) (h : j < m.length), ∃ h' : i + j < l.length, m[j] = l[i + j]) (hc : ∀ (j : Nat) (h : j < l.length), b < w.heap.size ∧ w.cell? ⟨b, o + j, none⟩ = some (.int .u8 ((l[j]).toNat : Int))) : Byt w (.slice a n c) m := by
  subst hn
  refine ⟨a, c, b, o + i * 1, rfl, hd, fun j hj => ?_⟩
  obtain ⟨h', e⟩ := hm j hj
  have := hc (i + j) h'
  rw [e]
  refine ⟨this.1, ?_⟩
  rw [Nat.mul_one, Nat.add_assoc]
  exact this.2
/-- what Cut does -/
def CuP (l : List UInt8) (w0 w : World) (e : Ending) (w' : World) : Prop := ∃ x y f, e = .returned (.tuple #[x, y, .bool f]) ∧ Byt w0 x (lineJ l) ∧ Byt w0 y (restJ l) ∧ Below w.heap.size w w'
set_option maxHeartbeats 4000000 in
theorem cut_bytes (l : List UInt8) (v : Value) (g : Nat) (w0 w : World) (hb : Byt w0 v l) (hk : Below w0.heap.size w0 w) (h0 : l ≠ []) (hl : l.length ≤ 140737488355328) (hg : w.cell? ⟨g, 0, none⟩ = some (.int .u8 10)) : Calls Tryz.prog 32 #[v, .slice (some ⟨g, 0, none⟩) 1 1] w (CuP l w0 w) := by
  obtain ⟨ao, cap, b, o, rfl, hd, hc0⟩ := hb
  have hc : ∀ (j : Nat) (h : j < l.length), b < w.heap.size ∧ w.cell? ⟨b, o + j, none⟩ = some (.int .u8 ((l[j]).toNat : Int)) := fun j hj => ⟨Nat.lt_of_lt_of_le (hc0 j hj).1 hk.size, (hk.cell (p := ⟨b, o + j, none⟩) (hc0 j hj).1).trans (hc0 j hj).2⟩
  have hpos : 0 < l.length := List.length_pos_iff.2 h0
  obtain rfl : ao = some ⟨b, o, none⟩ := hd.at_.resolve_left (by omega)
  have CI := hmk (index_bytes l b o cap g w hl hc hg)
  have HC := hmk hc0
  clear hc hc0 hk
  rcases ix_cases l with ⟨i, h1, h2, h3, h4⟩ | ⟨h1, h2, h3⟩
  · rw [h1] at CI
    have y1 : (0 : Int) ≤ (i : Int) := by omega
    obtain ⟨hs1, hd1⟩ := slB_hi (some ⟨b, o, none⟩) l.length cap b o i hd (by omega)
    obtain ⟨a3, c3, hs3, hd3⟩ := slB_lo (some ⟨b, o, none⟩) l.length cap b o (i + 1) hd (by omega)
    have e3 : (((i + 1 : Nat) : Int)) = (i : Int) + 1 := by omega
    rw [e3] at hs3
    have HX : Hid (Byt w0 (.slice (some ⟨b, o, none⟩) i cap) (lineJ l)) := byt_part (i := 0) (o := o) (b := b) (l := l) (by simpa using hd1) (by rw [h3, List.length_take]; omega) (fun j hj => ⟨by rw [h3, List.length_take] at hj; omega, by simp only [h3, List.getElem_take, Nat.zero_add]⟩) HC.out
    have HY : Hid (Byt w0 (.slice a3 (l.length - (i + 1)) c3) (restJ l)) := byt_part (i := i + 1) (o := o) (b := b) (l := l) hd3 (by rw [h4, List.length_drop]) (fun j hj => ⟨by rw [h4, List.length_drop] at hj; omega, by simp only [h4, List.getElem_drop]⟩) HC.out
    clear h1 h3 h4 HC hd1 hd3
    go_enter Tryz.func32, Tryz.ntmps32
    go_wp2_with fail
    refine CI.out.mono ?_
    rintro e w1 ⟨rfl, hw⟩
    subst hw
    go_wp2_with fail
    refine wp_region_sub w1.heap.size (by kernel_rfl) (by kernel_rfl) ?_
    repeat (go_big_quiet_step (fail))
    refine wpQuiet_nil ?_
    rintro wq ⟨⟨wq', bq⟩, hq⟩
    have hq' : wq = wq' := hq
    subst hq'
    clear hq
    go_wp2_with fail
    go_ret3
    exact ⟨_, _, _, rfl, HX.out, HY.out, bq⟩
  · rw [h1] at CI
    have HX : Hid (Byt w0 (.slice (some ⟨b, o, none⟩) l.length cap) (lineJ l)) := by rw [h2]; exact hmk ⟨_, cap, b, o, rfl, hd, HC.out⟩
    have HY : Hid (restJ l = []) := h3
    clear h1 h2 h3 HC
    go_enter Tryz.func32, Tryz.ntmps32
    go_wp2_with fail
    refine CI.out.mono ?_
    rintro e w1 ⟨rfl, hw⟩
    subst hw
    go_wp2_with fail
    go_ret3
    exact ⟨_, _, _, rfl, HX.out, by rw [HY.out]; exact byt_nil _, Below.refl _ _⟩
set_option maxHeartbeats 4000000 in
theorem values_same (xs : List V) (S S' : Nat → Prop) (al al' : Option Addr) (cl cl' bl bl' ol ol' : Nat) (w : World) (hd : Headed al xs.length cl bl ol) (hd' : Headed al' xs.length cl' bl' ol') (hl : liesL false w S xs bl ol) (hl' : liesL false w S' xs bl' ol') (hS : ∀ x, S x → x < w.heap.size) (hS' : ∀ x, S' x → x < w.heap.size) (hn : xs.length ≤ 100000000) :
    Calls Tryz.prog 22 #[.slice al xs.length cl, .slice al' xs.length cl'] w (BPost true w) := by
  have HL := hmk hl
  have HL' := hmk hl'
  clear hl hl'
  go_enter Tryz.func22, Tryz.ntmps22
  go_wp2_with fail
  go_loopw [5] (fun e wr => ∃ j : Nat, j ≤ xs.length ∧ e = .int .i64 (j : Int) ∧ Below w.heap.size w wr) (fun e _ => xs.length - (RowKit.intOf e).toNat)
  case atStart => exact ⟨0, by omega, rfl, Below.refl _ _⟩
  case round =>
    obtain ⟨j, hj, rfl, bj⟩ := hrel
    have hzr := bj.size
    by_cases hjl : j < xs.length
    · have y1 : (j : Int) < xs.length := by omega
      obtain ⟨hSb, csj, hrow, hlj⟩ := liesL_get HL.out j hjl
      obtain ⟨hSb', dsj, hrow', hlj'⟩ := liesL_get HL'.out j hjl
      obtain rfl : al = some ⟨bl, ol, none⟩ := hd.at_.resolve_left (by omega)
      obtain rfl : al' = some ⟨bl', ol', none⟩ := hd'.at_.resolve_left (by omega)
      have hk0 : ∀ x, S x → wr.heap[x]? = w.heap[x]? := fun x hx => bj.block x (hS x hx)
      have hk1 : ∀ x, S' x → wr.heap[x]? = w.heap[x]? := fun x hx => bj.block x (hS' x hx)
      obtain ⟨ek, eb, ei, es, eal, enl, ecl, eam, enm, ecm, rfl⟩ := V.ten hlj
      obtain ⟨ek', eb', ei', es', eal', enl', ecl', eam', enm', ecm', rfl⟩ := V.ten hlj'
      have rw0 := row6 (hrow.keep (hk0 _ hSb))
      have rw1 := row6 (hrow'.keep (hk1 _ hSb'))
      have hbl : bl < wr.heap.size := World.block_lt_of_cell? wr _ rw0.1
      have hbl' : bl' < wr.heap.size := World.block_lt_of_cell? wr _ rw1.1
      have p0 : ∀ x : Sub wr.heap.size wr, _ := sub_cell rw0.1 hbl
      have p1 : ∀ x : Sub wr.heap.size wr, _ := sub_cell rw0.2.1 hbl
      have p2 : ∀ x : Sub wr.heap.size wr, _ := sub_cell rw0.2.2.1 hbl
      have p3 : ∀ x : Sub wr.heap.size wr, _ := sub_cell rw0.2.2.2.1 hbl
      have p4 : ∀ x : Sub wr.heap.size wr, _ := sub_cell rw0.2.2.2.2.1 hbl
      have p5 : ∀ x : Sub wr.heap.size wr, _ := sub_cell rw0.2.2.2.2.2 hbl
      have q0 : ∀ x : Sub wr.heap.size wr, _ := sub_cell rw1.1 hbl'
      have q1 : ∀ x : Sub wr.heap.size wr, _ := sub_cell rw1.2.1 hbl'
      have q2 : ∀ x : Sub wr.heap.size wr, _ := sub_cell rw1.2.2.1 hbl'
      have q3 : ∀ x : Sub wr.heap.size wr, _ := sub_cell rw1.2.2.2.1 hbl'
      have q4 : ∀ x : Sub wr.heap.size wr, _ := sub_cell rw1.2.2.2.2.1 hbl'
      have q5 : ∀ x : Sub wr.heap.size wr, _ := sub_cell rw1.2.2.2.2.2 hbl'
      have CI : Hid (∀ x : Sub wr.heap.size wr, Calls Tryz.prog 13 #[.agg #[.int .i64 ek, .bool eb, .int .i64 ei, .string es, .slice eal enl ecl, .slice eam enm ecm], .agg #[.int .i64 ek', .bool eb', .int .i64 ei', .string es', .slice eal' enl' ecl', .slice eam' enm' ecm'], .int .i64 0] x.w fun e w'' => e = .returned (.bool true) ∧ ∃ y : Sub wr.heap.size wr, w'' = y.w) :=
        sub_call fun w' hb => (samv_any xs[j] 0 S S' _ _ w' (by omega) (by omega) (V.lies_keep (fun h => h) (fun x hx => (hb.block x (by have := hS x hx; omega)).trans (hk0 x hx)) (fun _ h => h) _ hlj) (V.lies_keep (fun h => h) (fun x hx => (hb.block x (by have := hS' x hx; omega)).trans (hk1 x hx)) (fun _ h => h) _ hlj') (fun x hx => by have := hS x hx; have := hb.size; omega) (fun x hx => by have := hS' x hx; have := hb.size; omega)).mono fun e w'' h => ⟨h.1, hb.trans (h.2.mono hb.size)⟩
      clear hlj hlj' hrow hrow' rw0 rw1 hk0 hk1
      go_wp2_with fail
      refine wp_region_sub wr.heap.size (by kernel_rfl) (by kernel_rfl) ?_
      repeat (go_big_quiet_step (exact CI.out _))
      refine wpQuiet_nil ?_
      rintro _ ⟨⟨wq, bq⟩, rfl⟩
      go_wp2_with fail
      go_roundw
      case rel => exact ⟨j + 1, by omega, by go_num, bj.trans (bq.mono hzr)⟩
      case measure => simp [RowKit.intOf]; omega
    · obtain rfl : j = xs.length := by omega
      have y1 : ¬ (xs.length : Int) < xs.length := by omega
      go_wp2_with fail
      go_ret
      exact ⟨rfl, bj⟩
end Go.Proofs.YtpmhdcmmlkjjmaaGreatDoor
