/- joined: JlA JlB JlC JlD JlE -/
import Derived.Shelf.Bytes.SlIndexAt
import Derived.Test.YtpmhdcmmlkjjmaaGreatDoorH33
import Derived.Lib.SlBytesConst
/- bytes.Cut at a line's end. -/
set_option linter.unusedSimpArgs false
set_option linter.unusedVariables false
set_option maxRecDepth 100000
namespace Go.Proofs
open Go.Shelf Go.RowKit
def Tryz.lays187_ren : Go.Shelf.Ren := ⟨fun | 187 => 65 | 255 => 91 | n => n, fun | 3 => 3 | 5 => 5 | 37 => 28 | n => n, fun | n => n⟩
theorem Tryz.lays187 : Go.Proofs.Lays.n187 Tryz.prog Tryz.lays187_ren := {
  mixed := by kernel_rfl
  f187 := Tryz.func65.trans (congrArg some (by kernel_rfl))
  f255 := Tryz.func91.trans (congrArg some (by kernel_rfl))
  t3 := Tryz.underlying3
  a3 := Tryz.isAgg3
  z3 := Tryz.sizeOf3
  v3 := Tryz.zeroValue3
  t5 := Tryz.underlying5
  a5 := Tryz.isAgg5
  z5 := Tryz.sizeOf5
  v5 := Tryz.zeroValue5
  t37 := Tryz.underlying28
  a37 := Tryz.isAgg28
  z37 := Tryz.sizeOf28
  v37 := Tryz.zeroValue28 }
namespace YtpmhdcmmlkjjmaaGreatDoor
open Go.Lib
def lineJ (l : List UInt8) : List UInt8 := l.takeWhile fun c => c != 10
def restJ (l : List UInt8) : List UInt8 := (l.dropWhile fun c => c != 10).tail
theorem ix_cases : ∀ l : List UInt8, (∃ i : Nat, indexByte l 10 = (i : Int) ∧ i < l.length ∧ lineJ l = l.take i ∧ restJ l = l.drop (i + 1)) ∨ (indexByte l 10 = -1 ∧ lineJ l = l ∧ restJ l = [])
  | [] => .inr ⟨rfl, rfl, rfl⟩
  | b :: l => by
    rw [indexByte]
    by_cases h : b = 10
    · subst h
      left
      refine ⟨0, by simp, by simp, by simp [lineJ], by simp [restJ]⟩
    · have hb : (b == 10) = false := by simp [h]
      have hn : (b != 10) = true := by simp [h]
      have e1 : lineJ (b :: l) = b :: lineJ l := by simp [lineJ, List.takeWhile_cons, hn]
      have e2 : restJ (b :: l) = restJ l := by simp [restJ, List.dropWhile_cons, hn]
      rw [e1, e2]
      rcases ix_cases l with ⟨i, h1, h2, h3, h4⟩ | ⟨h1, h2, h3⟩
      · left
        refine ⟨i + 1, ?_, by simp; omega, by rw [h3]; rfl, by rw [h4]; rfl⟩
        rw [h1]
        simp only [hb]
        simp
        try omega
      · right
        refine ⟨?_, by rw [h2], h3⟩
        rw [h1]
        simp [hb]
theorem rest_len {l : List UInt8} (h : l ≠ []) : (restJ l).length < l.length := by
  rcases ix_cases l with ⟨i, _, h2, _, h4⟩ | ⟨_, _, h3⟩
  · rw [h4, List.length_drop]; omega
  · rw [h3]; exact List.length_pos_iff.2 h
theorem line_len (l : List UInt8) : (lineJ l).length ≤ l.length := (List.takeWhile_prefix _).length_le
theorem bytesOf_map (l : List UInt8) : Lib.bytesOf (l.map fun c => (c.toNat : Int)) = l := by
  unfold Lib.bytesOf
  rw [List.map_map]
  conv => rhs; rw [← List.map_id l]
  refine List.map_congr_left fun c _ => ?_
  simp
theorem ixb_bytes (l : List UInt8) (b o cap : Nat) (w : World) (hc : ∀ (j : Nat) (h : j < l.length), b < w.heap.size ∧ w.cell? ⟨b, o + j, none⟩ = some (.int .u8 ((l[j]).toNat : Int))) :
    Calls Tryz.prog 65 #[.slice (some ⟨b, o, none⟩) l.length cap, .int .u8 10] w fun e w' => e = .returned (.int .i64 (indexByte l 10)) ∧ w' = w := by
  have h := Any.bytes_IndexByte_at Tryz.lays187 ⟨b, o, none⟩ l.length cap (l.map fun c => (c.toNat : Int)) 10 w (by simp) (fun i hi => by
    rw [Go.WideShapes.add_plain, (hc i hi).2]
    simp [List.getD, hi])
  rw [bytesOf_map] at h
  exact h
set_option maxHeartbeats 4000000 in
theorem index_bytes (l : List UInt8) (b o cap g : Nat) (w : World) (hl : l.length ≤ 140737488355328) (hc : ∀ (j : Nat) (h : j < l.length), b < w.heap.size ∧ w.cell? ⟨b, o + j, none⟩ = some (.int .u8 ((l[j]).toNat : Int))) (hg : w.cell? ⟨g, 0, none⟩ = some (.int .u8 10)) :
    Calls Tryz.prog 46 #[.slice (some ⟨b, o, none⟩) l.length cap, .slice (some ⟨g, 0, none⟩) 1 1] w fun e w' => e = .returned (.int .i64 (indexByte l 10)) ∧ w' = w := by
  have C := hmk (ixb_bytes l b o cap w hc)
  clear hc
  go_enter Tryz.func46, Tryz.ntmps46
  go_wp2_with fail
  refine C.out.mono ?_
  rintro e w1 ⟨rfl, hw⟩
  subst hw
  go_wp2_with fail
  go_ret
  exact ⟨rfl, rfl⟩
set_option maxHeartbeats 1000000 in
theorem slB_hi (a : Option Addr) (n c b o t : Nat) (h : Headed a n c b o) (htn : t ≤ n) : (∀ W, (Instr.slice 28 (.slice a n c) none (some (.int .i64 (t : Int))) none).run Tryz.prog W = .ok (.slice a t c) W) ∧ Headed a t c b o := by
  have hle := h.le
  have hmx := h.max
  have h1 : (0 : Int) ≤ t := by omega
  have h3 : (t : Int) ≤ c := by omega
  refine ⟨fun W => ?_, ⟨by omega, hmx, h.at_.elim (fun e => .inl (by omega)) .inr, h.nil⟩⟩
  go_simp
set_option maxHeartbeats 1000000 in
theorem slB_lo (a : Option Addr) (n c b o i : Nat) (h : Headed a n c b o) (hin : i ≤ n) : ∃ a' c', (∀ W, (Instr.slice 28 (.slice a n c) (some (.int .i64 (i : Int))) none none).run Tryz.prog W = .ok (.slice a' (n - i) c') W) ∧ Headed a' (n - i) c' b (o + i * 1) := by
  have hle := h.le
  have hmx := h.max
  have h1 : (0 : Int) ≤ i := by omega
  have h2 : (i : Int) ≤ n := by omega
  have h3 : (i : Int) ≤ c := by omega
  by_cases hc : c = i
  · refine ⟨a, 0, fun W => ?_, ⟨by omega, Nat.zero_le _, .inl (by omega), fun _ => rfl⟩⟩
    go_simp
    all_goals (intro h; omega)
  · refine ⟨a.map (fun x : Addr => x.add (i * 1)), c - i, fun W => ?_, hd_add h hin (Nat.le_refl _) hc⟩
    go_simp
    all_goals (try (first | rfl | omega))
set_option maxHeartbeats 1000000 in
theorem slB_in (a : Option Addr) (n c b o i t : Nat) (h : Headed a n c b o) (hit : i ≤ t) (htn : t ≤ n) : ∃ a' c', (∀ W, (Instr.slice 28 (.slice a n c) (some (.int .i64 (i : Int))) (some (.int .i64 (t : Int))) none).run Tryz.prog W = .ok (.slice a' (t - i) c') W) ∧ Headed a' (t - i) c' b (o + i * 1) := by
  have hle := h.le
  have hmx := h.max
  have h1 : (0 : Int) ≤ i := by omega
  have h2 : (i : Int) ≤ t := by omega
  have h3 : (t : Int) ≤ c := by omega
  by_cases hc : c = i
  · refine ⟨a, 0, fun W => ?_, ⟨by omega, Nat.zero_le _, .inl (by omega), fun _ => rfl⟩⟩
    go_simp
    all_goals (intro h; omega)
  · refine ⟨a.map (fun x : Addr => x.add (i * 1)), c - i, fun W => ?_, hd_add h hit htn hc⟩
    go_simp
    all_goals (try (first | rfl | omega))
end YtpmhdcmmlkjjmaaGreatDoor
end Go.Proofs
/- bytes.Cut; valuesSame. -/
set_option maxRecDepth 100000
namespace Go.Proofs.YtpmhdcmmlkjjmaaGreatDoor
open Go.RowKit Go.Lib
theorem byt_part {w : World} {a : Option Addr} {n c b o i : Nat} {l m : List UInt8} (hd : Headed a n c b (o + i * 1)) (hn : n = m.length) (hm : ∀ (j : Nat) (h : j < m.length), ∃ h' : i + j < l.length, m[j] = l[i + j]) (hc : ∀ (j : Nat) (h : j < l.length), b < w.heap.size ∧ w.cell? ⟨b, o + j, none⟩ = some (.int .u8 ((l[j]).toNat : Int))) : Byt w (.slice a n c) m := by
  subst hn
  refine ⟨a, c, b, o + i * 1, rfl, hd, fun j hj => ?_⟩
  obtain ⟨h', e⟩ := hm j hj
  have := hc (i + j) h'
  rw [e]
  refine ⟨this.1, ?_⟩
  rw [Nat.mul_one, Nat.add_assoc]
  exact this.2
/-- what Cut does -/
def CuP (l : List UInt8) (w0 w : World) (e : Ending) (w' : World) : Prop := ∃ x y f, e = .returned (.tuple #[x, y, .bool f]) ∧ Byt w0 x (lineJ l) ∧ Byt w0 y (restJ l) ∧ Below w.heap.size w w'
set_option maxHeartbeats 4000000 in
theorem cut_bytes (l : List UInt8) (v : Value) (g : Nat) (w0 w : World) (hb : Byt w0 v l) (hk : Below w0.heap.size w0 w) (h0 : l ≠ []) (hl : l.length ≤ 140737488355328) (hg : w.cell? ⟨g, 0, none⟩ = some (.int .u8 10)) : Calls Tryz.prog 32 #[v, .slice (some ⟨g, 0, none⟩) 1 1] w (CuP l w0 w) := by
  obtain ⟨ao, cap, b, o, rfl, hd, hc0⟩ := hb
  have hc : ∀ (j : Nat) (h : j < l.length), b < w.heap.size ∧ w.cell? ⟨b, o + j, none⟩ = some (.int .u8 ((l[j]).toNat : Int)) := fun j hj => ⟨Nat.lt_of_lt_of_le (hc0 j hj).1 hk.size, (hk.cell (p := ⟨b, o + j, none⟩) (hc0 j hj).1).trans (hc0 j hj).2⟩
  have hpos : 0 < l.length := List.length_pos_iff.2 h0
  obtain rfl : ao = some ⟨b, o, none⟩ := hd.at_.resolve_left (by omega)
  have CI := hmk (index_bytes l b o cap g w hl hc hg)
  have HC := hmk hc0
  clear hc hc0 hk
  rcases ix_cases l with ⟨i, h1, h2, h3, h4⟩ | ⟨h1, h2, h3⟩
  · rw [h1] at CI
    have y1 : (0 : Int) ≤ (i : Int) := by omega
    obtain ⟨hs1, hd1⟩ := slB_hi (some ⟨b, o, none⟩) l.length cap b o i hd (by omega)
    obtain ⟨a3, c3, hs3, hd3⟩ := slB_lo (some ⟨b, o, none⟩) l.length cap b o (i + 1) hd (by omega)
    have e3 : (((i + 1 : Nat) : Int)) = (i : Int) + 1 := by omega
    rw [e3] at hs3
    have HX : Hid (Byt w0 (.slice (some ⟨b, o, none⟩) i cap) (lineJ l)) := byt_part (i := 0) (o := o) (b := b) (l := l) (by simpa using hd1) (by rw [h3, List.length_take]; omega) (fun j hj => ⟨by rw [h3, List.length_take] at hj; omega, by simp only [h3, List.getElem_take, Nat.zero_add]⟩) HC.out
    have HY : Hid (Byt w0 (.slice a3 (l.length - (i + 1)) c3) (restJ l)) := byt_part (i := i + 1) (o := o) (b := b) (l := l) hd3 (by rw [h4, List.length_drop]) (fun j hj => ⟨by rw [h4, List.length_drop] at hj; omega, by simp only [h4, List.getElem_drop]⟩) HC.out
    clear h1 h3 h4 HC hd1 hd3
    go_enter Tryz.func32, Tryz.ntmps32
    go_wp2_with fail
    refine CI.out.mono ?_
    rintro e w1 ⟨rfl, hw⟩
    subst hw
    go_wp2_with fail
    refine wp_region_sub w1.heap.size (by kernel_rfl) (by kernel_rfl) ?_
    repeat (go_big_quiet_step (fail))
    refine wpQuiet_nil ?_
    rintro wq ⟨⟨wq', bq⟩, hq⟩
    have hq' : wq = wq' := hq
    subst hq'
    clear hq
    go_wp2_with fail
    go_ret3
    exact ⟨_, _, _, rfl, HX.out, HY.out, bq⟩
  · rw [h1] at CI
    have HX : Hid (Byt w0 (.slice (some ⟨b, o, none⟩) l.length cap) (lineJ l)) := by rw [h2]; exact hmk ⟨_, cap, b, o, rfl, hd, HC.out⟩
    have HY : Hid (restJ l = []) := h3
    clear h1 h2 h3 HC
    go_enter Tryz.func32, Tryz.ntmps32
    go_wp2_with fail
    refine CI.out.mono ?_
    rintro e w1 ⟨rfl, hw⟩
    subst hw
    go_wp2_with fail
    go_ret3
    exact ⟨_, _, _, rfl, HX.out, by rw [HY.out]; exact byt_nil _, Below.refl _ _⟩
set_option maxHeartbeats 4000000 in
theorem values_same (xs : List V) (S S' : Nat → Prop) (al al' : Option Addr) (cl cl' bl bl' ol ol' : Nat) (w : World) (hd : Headed al xs.length cl bl ol) (hd' : Headed al' xs.length cl' bl' ol') (hl : liesL false w S xs bl ol) (hl' : liesL false w S' xs bl' ol') (hS : ∀ x, S x → x < w.heap.size) (hS' : ∀ x, S' x → x < w.heap.size) (hn : xs.length ≤ 100000000) :
    Calls Tryz.prog 22 #[.slice al xs.length cl, .slice al' xs.length cl'] w (BPost true w) := by
  have HL := hmk hl
  have HL' := hmk hl'
  clear hl hl'
  go_enter Tryz.func22, Tryz.ntmps22
  go_wp2_with fail
  go_loopw [5] (fun e wr => ∃ j : Nat, j ≤ xs.length ∧ e = .int .i64 (j : Int) ∧ Below w.heap.size w wr) (fun e _ => xs.length - (RowKit.intOf e).toNat)
  case atStart => exact ⟨0, by omega, rfl, Below.refl _ _⟩
  case round =>
    obtain ⟨j, hj, rfl, bj⟩ := hrel
    have hzr := bj.size
    by_cases hjl : j < xs.length
    · have y1 : (j : Int) < xs.length := by omega
      obtain ⟨hSb, csj, hrow, hlj⟩ := liesL_get HL.out j hjl
      obtain ⟨hSb', dsj, hrow', hlj'⟩ := liesL_get HL'.out j hjl
      obtain rfl : al = some ⟨bl, ol, none⟩ := hd.at_.resolve_left (by omega)
      obtain rfl : al' = some ⟨bl', ol', none⟩ := hd'.at_.resolve_left (by omega)
      have hk0 : ∀ x, S x → wr.heap[x]? = w.heap[x]? := fun x hx => bj.block x (hS x hx)
      have hk1 : ∀ x, S' x → wr.heap[x]? = w.heap[x]? := fun x hx => bj.block x (hS' x hx)
      obtain ⟨ek, eb, ei, es, eal, enl, ecl, eam, enm, ecm, rfl⟩ := V.ten hlj
      obtain ⟨ek', eb', ei', es', eal', enl', ecl', eam', enm', ecm', rfl⟩ := V.ten hlj'
      have rw0 := row6 (hrow.keep (hk0 _ hSb))
      have rw1 := row6 (hrow'.keep (hk1 _ hSb'))
      have hbl : bl < wr.heap.size := World.block_lt_of_cell? wr _ rw0.1
      have hbl' : bl' < wr.heap.size := World.block_lt_of_cell? wr _ rw1.1
      have p0 : ∀ x : Sub wr.heap.size wr, _ := sub_cell rw0.1 hbl
      have p1 : ∀ x : Sub wr.heap.size wr, _ := sub_cell rw0.2.1 hbl
      have p2 : ∀ x : Sub wr.heap.size wr, _ := sub_cell rw0.2.2.1 hbl
      have p3 : ∀ x : Sub wr.heap.size wr, _ := sub_cell rw0.2.2.2.1 hbl
      have p4 : ∀ x : Sub wr.heap.size wr, _ := sub_cell rw0.2.2.2.2.1 hbl
      have p5 : ∀ x : Sub wr.heap.size wr, _ := sub_cell rw0.2.2.2.2.2 hbl
      have q0 : ∀ x : Sub wr.heap.size wr, _ := sub_cell rw1.1 hbl'
      have q1 : ∀ x : Sub wr.heap.size wr, _ := sub_cell rw1.2.1 hbl'
      have q2 : ∀ x : Sub wr.heap.size wr, _ := sub_cell rw1.2.2.1 hbl'
      have q3 : ∀ x : Sub wr.heap.size wr, _ := sub_cell rw1.2.2.2.1 hbl'
      have q4 : ∀ x : Sub wr.heap.size wr, _ := sub_cell rw1.2.2.2.2.1 hbl'
      have q5 : ∀ x : Sub wr.heap.size wr, _ := sub_cell rw1.2.2.2.2.2 hbl'
      have CI : Hid (∀ x : Sub wr.heap.size wr, Calls Tryz.prog 13 #[.agg #[.int .i64 ek, .bool eb, .int .i64 ei, .string es, .slice eal enl ecl, .slice eam enm ecm], .agg #[.int .i64 ek', .bool eb', .int .i64 ei', .string es', .slice eal' enl' ecl', .slice eam' enm' ecm'], .int .i64 0] x.w fun e w'' => e = .returned (.bool true) ∧ ∃ y : Sub wr.heap.size wr, w'' = y.w) :=
        sub_call fun w' hb => (samv_any xs[j] 0 S S' _ _ w' (by omega) (by omega) (V.lies_keep (fun h => h) (fun x hx => (hb.block x (by have := hS x hx; omega)).trans (hk0 x hx)) (fun _ h => h) _ hlj) (V.lies_keep (fun h => h) (fun x hx => (hb.block x (by have := hS' x hx; omega)).trans (hk1 x hx)) (fun _ h => h) _ hlj') (fun x hx => by have := hS x hx; have := hb.size; omega) (fun x hx => by have := hS' x hx; have := hb.size; omega)).mono fun e w'' h => ⟨h.1, hb.trans (h.2.mono hb.size)⟩
      clear hlj hlj' hrow hrow' rw0 rw1 hk0 hk1
      go_wp2_with fail
      refine wp_region_sub wr.heap.size (by kernel_rfl) (by kernel_rfl) ?_
      repeat (go_big_quiet_step (exact CI.out _))
      refine wpQuiet_nil ?_
      rintro _ ⟨⟨wq, bq⟩, rfl⟩
      go_wp2_with fail
      go_roundw
      case rel => exact ⟨j + 1, by omega, by go_num, bj.trans (bq.mono hzr)⟩
      case measure => simp [RowKit.intOf]; omega
    · obtain rfl : j = xs.length := by omega
      have y1 : ¬ (xs.length : Int) < xs.length := by omega
      go_wp2_with fail
      go_ret
      exact ⟨rfl, bj⟩
end Go.Proofs.YtpmhdcmmlkjjmaaGreatDoor
/- Split. -/
set_option maxRecDepth 100000
namespace Go.Proofs.YtpmhdcmmlkjjmaaGreatDoor
open Go.RowKit Go.Lib
theorem line_parts : ∀ m : List UInt8, lineJ m = m.take (lineJ m).length ∧ restJ m = m.drop ((lineJ m).length + 1) ∧ (∀ j (h : j < (lineJ m).length) (h' : j < m.length), m[j] ≠ 10) ∧ (∀ h : (lineJ m).length < m.length, m[(lineJ m).length] = 10)
  | [] => ⟨rfl, rfl, fun j h => by simp [lineJ] at h, fun h => by simp [lineJ] at h⟩
  | b :: l => by
    by_cases h : b = 10
    · subst h
      have e1 : lineJ (10 :: l) = [] := by simp [lineJ]
      have e2 : restJ (10 :: l) = l := by simp [restJ]
      rw [e2]
      simp only [e1]
      exact ⟨rfl, rfl, fun j h => by simp at h, fun _ => rfl⟩
    · have hn : (b != 10) = true := by simp [h]
      have e1 : lineJ (b :: l) = b :: lineJ l := by simp [lineJ, List.takeWhile_cons, hn]
      have e2 : restJ (b :: l) = restJ l := by simp [restJ, List.dropWhile_cons, hn]
      obtain ⟨h1, h2, h3, h4⟩ := line_parts l
      rw [e2]
      simp only [e1]
      refine ⟨?_, ?_, ?_, ?_⟩
      · rw [List.length_cons, List.take_succ_cons, ← h1]
      · rw [List.length_cons, List.drop_succ_cons, ← h2]
      · intro j hj hj'
        cases j with
        | zero => exact h
        | succ j =>
          simp only [List.length_cons] at hj hj'
          rw [List.getElem_cons_succ]
          exact h3 j (by omega) (by omega)
      · intro hj
        simp only [List.length_cons] at hj ⊢
        rw [List.getElem_cons_succ]
        exact h4 (by omega)
def splJ : Nat → List UInt8 → List V → List V × Int × Int
  | 0, _, acc => (acc, -1, 0)
  | f + 1, l, acc => if l = [] then (acc, -1, 0) else if (parJ (lineJ l) 32).2.2 = 0 then splJ f (restJ l) (acc ++ [(parJ (lineJ l) 32).1]) else ([], (acc.length : Int), (parJ (lineJ l) 32).2.2)
def spJ (l : List UInt8) : List V × Int × Int := if 1048576 < l.length then ([], 0, 30) else splJ (l.length + 1) l []
theorem splJ_end {f : Nat} {acc : List V} : splJ (f + 1) [] acc = (acc, -1, 0) := by rw [splJ, if_pos rfl]
theorem splJ_bad {f : Nat} {l : List UInt8} {acc : List V} (h0 : l ≠ []) (h : ¬ (parJ (lineJ l) 32).2.2 = 0) : splJ (f + 1) l acc = ([], (acc.length : Int), (parJ (lineJ l) 32).2.2) := by rw [splJ, if_neg h0, if_neg h]
theorem splJ_on {f : Nat} {l : List UInt8} {acc : List V} (h0 : l ≠ []) (h : (parJ (lineJ l) 32).2.2 = 0) : splJ (f + 1) l acc = splJ f (restJ l) (acc ++ [(parJ (lineJ l) 32).1]) := by rw [splJ, if_neg h0, if_pos h]
theorem splJ_len : ∀ (f : Nat) (l : List UInt8) (acc : List V), l.length < f → (splJ f l acc).1.length ≤ acc.length + l.length
  | 0, l, acc, h => by omega
  | f + 1, l, acc, h => by
    by_cases h0 : l = []
    · subst h0; rw [splJ_end]; simp
    · by_cases h1 : (parJ (lineJ l) 32).2.2 = 0
      · rw [splJ_on h0 h1]
        have hr := rest_len h0
        have := splJ_len f (restJ l) (acc ++ [(parJ (lineJ l) 32).1]) (by omega)
        rw [List.length_append] at this
        simp only [List.length_cons, List.length_nil] at this
        omega
      · rw [splJ_bad h0 h1]; simp
def SpP (R : List V × Int × Int) (w : World) (e : Ending) (w' : World) : Prop := ∃ a c b o, e = .returned (.tuple #[.slice a R.1.length c, .int .i64 R.2.1, .int .i64 R.2.2]) ∧ Headed a R.1.length c b o ∧ liesL false w' (New w w') R.1 b o ∧ Below w.heap.size w w'
theorem lies_none (w : World) (S : Nat → Prop) : liesL false w S [] 0 0 := by rw [liesL]; trivial
set_option maxHeartbeats 16000000 in
theorem split_any (l : List UInt8) (v : Value) (w : World) (hb : Byt w v l) (t : Td w) (hl : l.length ≤ 140737488355328) : Calls Tryz.prog 20 #[v] w (SpP (spJ l) w) := by
  by_cases hlong : 1048576 < l.length
  · have HE : Hid (spJ l = ([], 0, 30)) := by show _ = _; rw [spJ, if_pos hlong]
    obtain ⟨ao, cap, b, o, rfl, _⟩ := hb
    have y1 : (1048576 : Int) < l.length := by omega
    go_enter Tryz.func20, Tryz.ntmps20
    go_wp2_with fail
    go_ret3
    rw [HE.out]
    exact ⟨none, 0, 0, 0, rfl, headed_nil, lies_none _ _, Below.refl _ _⟩
  have HE : Hid (spJ l = splJ (l.length + 1) l []) := by show _ = _; rw [spJ, if_neg hlong]
  have y1 : ¬ (1048576 : Int) < l.length := by omega
  have CC : Hid (∀ (m : List UInt8) (x : Value) (g : Nat) (W : World), Byt w x m → Below w.heap.size w W → m ≠ [] → m.length ≤ l.length → W.cell? ⟨g, 0, none⟩ = some (.int .u8 10) → Calls Tryz.prog 32 #[x, .slice (some ⟨g, 0, none⟩) 1 1] W (CuP m w W)) := fun m x g W hx hW h0 hm hg => cut_bytes m x g w W hx hW h0 (by omega) hg
  have CP : Hid (∀ (m : List UInt8) (x : Value) (W : World), Byt w x m → Below w.heap.size w W → m.length ≤ l.length → Calls Tryz.prog 15 #[x, .int .i64 32] W (PrP (parJ m 32) W)) := fun m x W hx hW hm => parse_any m x 32 W (hx.keep hW).bys (t.below hW (by have := t.z; omega) hW.size) ⟨by omega, by omega⟩ (by omega)
  obtain ⟨i1, hi1, hy0, hy1, hy2⟩ := info_parts info25
  have hJ : Hid (Tryz.prog.info? 25 = some i1 ∧ i1.zero = some (.agg #[.int .i64 0, .bool false, .int .i64 0, .string ⟨#[]⟩, .slice none 0 0, .slice none 0 0]) ∧ i1.size = 6 ∧ i1.bytes = 88) := ⟨hi1, hy0, hy1, hy2⟩
  obtain ⟨va, vc, hv⟩ : ∃ a c, v = .slice a l.length c := by
    obtain ⟨ao, cap, b, o, rfl, _⟩ := hb
    exact ⟨_, _, rfl⟩
  subst hv
  have HBW := hmk hb
  clear hb t hi1 hy0 hy1 hy2
  go_enter Tryz.func20, Tryz.ntmps20
  go_wp2_with fail
  go_loopg [0, 5] (l.length + 1) (fun F e0 e5 wr => ∃ (m : List UInt8) (acc : List V) (S : Nat → Prop), Byt w e0 m ∧ m.length < F ∧ m.length ≤ l.length ∧ acc.length + m.length ≤ l.length ∧ Below w.heap.size w wr ∧ OwnL false wr w.heap.size S e5 (acc.map some) ∧ Hid (spJ l = splJ F m acc))
  case atStart => exact ⟨l, [], _, HBW.out, by omega, Nat.le_refl _, by simp, Below.refl _ _, OwnR.nil _ _, HE⟩
  case round =>
    clear HE
    obtain ⟨m, acc, S, hb, hF, hm, hac, bj, oj, HF⟩ := hrel
    obtain ⟨f, rfl⟩ : ∃ f, gk = f + 1 := ⟨gk - 1, by omega⟩
    have HB := hmk hb
    by_cases h0 : m = []
    · subst h0
      obtain ⟨ma, mc, rfl⟩ : ∃ a c, u0 = .slice a 0 c := by
        obtain ⟨ao, cap, b, o, rfl, _⟩ := hb
        exact ⟨_, _, rfl⟩
      clear hb HB
      rw [splJ_end] at HF
      obtain ⟨sa, sc, sb, so, hu, hd, hls⟩ := own_listL0 (T := New w wr) oj (fun b hb => ⟨(oj.off b hb).1, (oj.off b hb).2.1⟩) (fun g hg => oj.lt hg)
      have HU := hmk hu
      have HD := hmk hd
      have HL := hmk hls
      clear hu hd hls oj CC CP
      go_wp2_with fail
      go_ret3
      rw [HF.out]
      exact ⟨sa, sc, sb, so, by rw [HU.out]; rfl, HD.out, HL.out, bj⟩
    · obtain ⟨ma, mc, rfl⟩ : ∃ a c, u0 = .slice a m.length c := by
        obtain ⟨ao, cap, b, o, rfl, _⟩ := hb
        exact ⟨_, _, rfl⟩
      clear hb
      have hpos : 0 < m.length := List.length_pos_iff.2 h0
      have y2 : (0 : Int) < (m.length : Int) := by omega
      have hrl := rest_len h0
      have hll := line_len m
      have zj := bj.size
      have zA := alloc_size wr (.cells #[.int .u8 10] 5)
      have bA : Below wr.heap.size wr (wr.alloc (.cells #[.int .u8 10] 5)) := (Below.refl _ _).alloc (Nat.le_refl _) _
      have BA := bj.trans (bA.mono zj)
      have CU := hmk (CC.out m _ wr.heap.size _ HB.out BA h0 hm (cell_of_block (heap_alloc_new wr (.cells #[.int .u8 10] 5)) 0))
      have HGO : Hid ((parJ (lineJ m) 32).2.2 = 0 → spJ l = splJ f (restJ m) (acc ++ [(parJ (lineJ m) 32).1])) := fun h => by rw [HF.out, splJ_on h0 h]
      have HBD : Hid (¬ (parJ (lineJ m) 32).2.2 = 0 → spJ l = ([], (acc.length : Int), (parJ (lineJ m) 32).2.2)) := fun h => by rw [HF.out, splJ_bad h0 h]
      have oA := oj.below (keepL false) bA
      have hlt : ∀ r, u5.ownBlock = some r → w.heap.size ≤ r := fun r e => (oj.lt e).1
      have hltx : ∀ r, u5.ownBlock = some r → r < wr.heap.size := fun r e => (oj.lt e).2
      clear HF HB CC oj
      go_wp2_with fail
      refine CU.out.mono ?_
      rintro e w1 ⟨x, y, fd, rfl, hx, hy, b1⟩
      have HX := hmk hx
      have HY := hmk hy
      obtain ⟨xa, xc, rfl⟩ : ∃ a c, x = .slice a (lineJ m).length c := by
        obtain ⟨ao, cap, b, o, rfl, _⟩ := hx
        exact ⟨_, _, rfl⟩
      obtain ⟨ya, yc, rfl⟩ : ∃ a c, y = .slice a (restJ m).length c := by
        obtain ⟨ao, cap, b, o, rfl, _⟩ := hy
        exact ⟨_, _, rfl⟩
      have z1 := b1.size
      have B1 := BA.trans (b1.mono (by omega))
      have o1 := oA.below (keepL false) b1
      have CPH := hmk (CP.out (lineJ m) _ w1 HX.out B1 (by omega))
      clear CU hx hy BA bA oA b1 HX
      generalize parJ (lineJ m) 32 = R at *
      obtain ⟨X, at_, er⟩ := R
      dsimp only at *
      go_wp2_with fail
      refine CPH.out.mono ?_
      rintro e w2 ⟨cs, rfl, hl1, b2⟩
      dsimp only at hl1
      have HL1 := hmk hl1
      obtain ⟨vk, vb, vi, vs, al, nl, cl, am, nm, cm, rfl⟩ := V.ten hl1
      have z2 := b2.size
      have B2 := B1.trans (b2.mono (by omega))
      have o2 := o1.below (keepL false) b2
      have zC := alloc_size w2 (.cells #[.int .i64 vk, .bool vb, .int .i64 vi, .string vs, .slice al nl cl, .slice am nm cm] 25)
      have bC : Below w2.heap.size w2 (w2.alloc (.cells #[.int .i64 vk, .bool vb, .int .i64 vi, .string vs, .slice al nl cl, .slice am nm cm] 25)) := (Below.refl _ _).alloc (Nat.le_refl _) _
      have BC := B2.trans (bC.mono (by omega))
      have HBC := hmk BC
      clear CPH hl1 o1 B1 CP
      by_cases he : er = 0
      · subst he
        have HN := hmk (HGO.out rfl)
        have oC := o2.below (keepL false) bC
        have zD := alloc_size (w2.alloc (.cells #[.int .i64 vk, .bool vb, .int .i64 vi, .string vs, .slice al nl cl, .slice am nm cm] 25)) (.cells #[.int .i64 vk, .bool vb, .int .i64 vi, .string vs, .slice al nl cl, .slice am nm cm] 25)
        have bD : Below (w2.alloc (.cells #[.int .i64 vk, .bool vb, .int .i64 vi, .string vs, .slice al nl cl, .slice am nm cm] 25)).heap.size (w2.alloc (.cells #[.int .i64 vk, .bool vb, .int .i64 vi, .string vs, .slice al nl cl, .slice am nm cm] 25)) ((w2.alloc (.cells #[.int .i64 vk, .bool vb, .int .i64 vi, .string vs, .slice al nl cl, .slice am nm cm] 25)).alloc (.cells #[.int .i64 vk, .bool vb, .int .i64 vi, .string vs, .slice al nl cl, .slice am nm cm] 25)) := (Below.refl _ _).alloc (Nat.le_refl _) _
        have oD := oC.below (keepL false) bD
        have BD := BC.trans (bD.mono (by omega))
        have N8 := heap_alloc_new w2 (.cells #[.int .i64 vk, .bool vb, .int .i64 vi, .string vs, .slice al nl cl, .slice am nm cm] 25)
        have N9 := heap_alloc_new (w2.alloc (.cells #[.int .i64 vk, .bool vb, .int .i64 vi, .string vs, .slice al nl cl, .slice am nm cm] 25)) (.cells #[.int .i64 vk, .bool vb, .int .i64 vi, .string vs, .slice al nl cl, .slice am nm cm] 25)
        rw [zC] at N9
        have HEL : Hid (EL false (some X) ((w2.alloc (.cells #[.int .i64 vk, .bool vb, .int .i64 vi, .string vs, .slice al nl cl, .slice am nm cm] 25)).alloc (.cells #[.int .i64 vk, .bool vb, .int .i64 vi, .string vs, .slice al nl cl, .slice am nm cm] 25)) (New w1 w2) [.int .i64 vk, .bool vb, .int .i64 vi, .string vs, .slice al nl cl, .slice am nm cm]) :=
          V.lies_keep (fun h => h) (fun b hb => (bD.block b (by have := hb.2; omega)).trans (bC.block b hb.2)) (fun _ h => h) _ HL1.out
        have hSx : ∀ b, New w1 w2 b → w.heap.size ≤ b ∧ b < ((w2.alloc (.cells #[.int .i64 vk, .bool vb, .int .i64 vi, .string vs, .slice al nl cl, .slice am nm cm] 25)).alloc (.cells #[.int .i64 vk, .bool vb, .int .i64 vi, .string vs, .slice al nl cl, .slice am nm cm] 25)).heap.size ∧ some b ≠ u5.ownBlock := fun b hb => ⟨by have := hb.1; omega, by have := hb.2; omega, fun e => by have := hltx b e.symm; have := hb.1; omega⟩
        have hb2 : w.heap.size ≤ ((w2.alloc (.cells #[.int .i64 vk, .bool vb, .int .i64 vi, .string vs, .slice al nl cl, .slice am nm cm] 25)).alloc (.cells #[.int .i64 vk, .bool vb, .int .i64 vi, .string vs, .slice al nl cl, .slice am nm cm] 25)).heap.size := by omega
        have HBD2 := hmk BD
        have a0 := cell_of_block N8 0
        have a1 := cell_of_block N8 1
        have a2 := cell_of_block N8 2
        have a3 := cell_of_block N8 3
        have a4 := cell_of_block N8 4
        have a5 := cell_of_block N8 5
        simp only [List.getElem?_toArray, List.getElem?_cons_zero, List.getElem?_cons_succ] at a0 a1 a2 a3 a4 a5
        have HN9 := hmk N9
        clear HBD HGO HL1 oC o2 bC BC bD BD N8 N9
        go_wp2_with (at_builtin; go_loud (refine wpl_push (keepL false) _ rfl (.tmp 36) (.tmp 38) 22 rfl w.heap.size i1 _ 88 Tryz.underlying22 hJ.out.1 hJ.out.2.1 hJ.out.2.2.1 hJ.out.2.2.2 rfl (by decide) (by decide) u5 (some X) rfl oD (w2.heap.size + 1) 1 (0, 0) rfl HN9.out rfl one6 HEL.out hSx (by rw [List.length_map]; omega) hb2 ?_))
        intro g' cap w5 o5 g5 e5
        have B5 : Below w.heap.size w w5 := HBD2.out.grown g5 HBD2.out.size hlt
        have HA5 : Hid (acc.map some ++ [some X] = (acc ++ [X]).map some) := by show _ = _; rw [List.map_append]; rfl
        rw [HA5.out] at o5
        clear oD g5 e5 hb2 hSx HEL HN9 a0 a1 a2 a3 a4 a5 HBD2 HBC hlt hltx
        go_wp2_with fail
        go_roundg f
        case measure => omega
        case rel => exact ⟨restJ m, acc ++ [X], _, HY.out, by omega, by omega, by rw [List.length_append]; simp only [List.length_cons, List.length_nil]; omega, B5, o5, HN⟩
      · have HN := hmk (HBD.out he)
        have y0 : (er != 0) = true := by rw [bne_iff_ne]; exact he
        obtain ⟨sa, sc, sb, so, hu, hd, hls⟩ := own_listL0 (T := fun _ => True) o2 (fun b hb => trivial) (fun g hg => trivial)
        subst hu
        clear hd hls o2 HBD HGO HL1 bC BC hlt hltx
        go_wp2_with fail
        go_ret3
        rw [HN.out]
        exact ⟨none, 0, 0, 0, rfl, headed_nil, lies_none _ _, HBC.out⟩
end Go.Proofs.YtpmhdcmmlkjjmaaGreatDoor
/- the document's Split. -/
set_option maxRecDepth 100000
namespace Go.Proofs.YtpmhdcmmlkjjmaaGreatDoor
open Go.RowKit Go.Lib
set_option maxHeartbeats 16000000 in
theorem dsplit_any (l : List UInt8) (v : Value) (w : World) (hb : Byt w v l) (hl : l.length ≤ 140737488355328) : Calls Tryz.prog 24 #[v] w (SpP (spJ l) w) := by
  by_cases hlong : 1048576 < l.length
  · have HE : Hid (spJ l = ([], 0, 30)) := by show _ = _; rw [spJ, if_pos hlong]
    obtain ⟨ao, cap, b, o, rfl, _⟩ := hb
    have y1 : (1048576 : Int) < l.length := by omega
    go_enter Tryz.func24, Tryz.ntmps24
    go_wp2_with fail
    go_ret3
    rw [HE.out]
    exact ⟨none, 0, 0, 0, rfl, headed_nil, lies_none _ _, Below.refl _ _⟩
  have HE : Hid (spJ l = splJ (l.length + 1) l []) := by show _ = _; rw [spJ, if_neg hlong]
  have y1 : ¬ (1048576 : Int) < l.length := by omega
  obtain ⟨i1, hi1, hy0, hy1, hy2⟩ := info_parts info25
  have hJ : Hid (Tryz.prog.info? 25 = some i1 ∧ i1.zero = some (.agg #[.int .i64 0, .bool false, .int .i64 0, .string ⟨#[]⟩, .slice none 0 0, .slice none 0 0]) ∧ i1.size = 6 ∧ i1.bytes = 88) := ⟨hi1, hy0, hy1, hy2⟩
  obtain ⟨ao, vcap, vb0, vo0, rfl, hd, hc⟩ := hb
  have HC := hmk hc
  clear hc hi1 hy0 hy1 hy2
  go_enter Tryz.func24, Tryz.ntmps24
  go_wp2_with fail
  go_loopg [5, 6, 7] (l.length + 1) (fun F e5 e6 e7 wr => ∃ (i : Nat) (acc : List V) (S : Nat → Prop), e6 = .int .i64 (i : Int) ∧ e7 = .int .i64 (acc.length : Int) ∧ i ≤ l.length + 1 ∧ (l.drop i).length < F ∧ acc.length ≤ i ∧ Below w.heap.size w wr ∧ OwnL false wr w.heap.size S e5 (acc.map some) ∧ Hid (spJ l = splJ F (l.drop i) acc))
  case atStart => exact ⟨0, [], _, rfl, rfl, by omega, by simp, by simp, Below.refl _ _, OwnR.nil _ _, HE⟩
  case round =>
    clear HE
    obtain ⟨i, acc, S, rfl, rfl, hi, hF, hac, bj, oj, HF⟩ := hrel
    obtain ⟨f, rfl⟩ : ∃ f, gk = f + 1 := ⟨gk - 1, by omega⟩
    rw [List.length_drop] at hF
    by_cases hil : i < l.length
    · have y2 : (i : Int) < (l.length : Int) := by omega
      have h0 : l.drop i ≠ [] := fun e => by have := congrArg List.length e; rw [List.length_drop] at this; simp at this; omega
      obtain ⟨hp1, hp2, hp3, hp4⟩ := line_parts (l.drop i)
      have hll := line_len (l.drop i)
      rw [List.length_drop] at hll
      have HGO : Hid ((parJ (lineJ (l.drop i)) 32).2.2 = 0 → spJ l = splJ f (restJ (l.drop i)) (acc ++ [(parJ (lineJ (l.drop i)) 32).1])) := fun h => by rw [HF.out, splJ_on h0 h]
      have HBD : Hid (¬ (parJ (lineJ (l.drop i)) 32).2.2 = 0 → spJ l = ([], (acc.length : Int), (parJ (lineJ (l.drop i)) 32).2.2)) := fun h => by rw [HF.out, splJ_bad h0 h]
      obtain ⟨T, hT⟩ : ∃ T, T = i + (lineJ (l.drop i)).length := ⟨_, rfl⟩
      have er1 : restJ (l.drop i) = l.drop (T + 1) := by rw [hp2, List.drop_drop, hT]; congr 1
      rw [er1] at HGO
      have HN10 : Hid (∀ t, i ≤ t → t < T → (h : t < l.length) → l[t] ≠ 10) := fun t h1 h2 h => by
        have := hp3 (t - i) (by omega) (by rw [List.length_drop]; omega)
        rw [List.getElem_drop] at this
        have e : i + (t - i) = t := by omega
        simp only [e] at this
        exact this
      have HT10 : Hid (∀ h : T < l.length, l[T] = 10) := fun h => by
        have := hp4 (by rw [List.length_drop]; omega)
        rw [List.getElem_drop] at this
        simp only [← hT] at this
        exact this
      obtain rfl : ao = some ⟨vb0, vo0, none⟩ := hd.at_.resolve_left (by omega)
      obtain ⟨a3, c3, hs3, hd3⟩ := slB_in (some ⟨vb0, vo0, none⟩) l.length vcap vb0 vo0 i T hd (by omega) (by omega)
      have HX : Hid (Byt w (.slice a3 (T - i) c3) (lineJ (l.drop i))) := byt_part (i := i) (o := vo0) (b := vb0) (l := l) hd3 (by omega) (fun j hj => ⟨by omega, by
        have e := hp1
        have h2 : (lineJ (l.drop i))[j] = ((l.drop i).take (lineJ (l.drop i)).length)[j]'(by rw [← e]; exact hj) := by congr 1
        rw [h2, List.getElem_take, List.getElem_drop]⟩) HC.out
      have CP : Hid (∀ (W : World), Below w.heap.size w W → Calls Tryz.prog 25 #[.slice a3 (T - i) c3, .int .i64 32] W (PrP (parJ (lineJ (l.drop i)) 32) W)) := fun W hW => dparse_any _ _ 32 W (HX.out.keep hW).bys ⟨by omega, by omega⟩ (by omega)
      have hlt : ∀ r, u5.ownBlock = some r → w.heap.size ≤ r := fun r e => (oj.lt e).1
      have hltx : ∀ r, u5.ownBlock = some r → r < wr.heap.size := fun r e => (oj.lt e).2
      have hiT : i ≤ T := by omega
      have hTl : T ≤ l.length := by omega
      have zj := bj.size
      clear HF hp1 hp2 hp3 hp4 hd3 HX er1 h0 hT hll
      obtain ⟨wo, hwo⟩ : ∃ wo : World, wo = wr := ⟨_, rfl⟩
      subst hwo
      have oo := oj
      clear oj
      go_wp2_with fail
      go_loopw [8] (fun e8 wi => ∃ t : Nat, e8 = .int .i64 (t : Int) ∧ i ≤ t ∧ t ≤ T ∧ Below wo.heap.size wo wi) (fun e8 _ => T - (RowKit.intOf e8).toNat)
      case atStart => exact ⟨i, rfl, Nat.le_refl _, hiT, Below.refl _ _⟩
      case round =>
      obtain ⟨t, rfl, hit, htT, bi⟩ := hrel
      have hzi := bi.size
      have B0' := bj.trans (bi.mono zj)
      by_cases htl : t < l.length
      · have y3 : (t : Int) < l.length := by omega
        obtain ⟨hg, h1⟩ := HC.out t htl
        have c1 : wr.cell? ⟨vb0, vo0 + t, none⟩ = some (.int .u8 ((l[t]).toNat : Int)) := (B0'.cell (p := ⟨vb0, vo0 + t, none⟩) hg).trans h1
        have p1 : ∀ x : Sub wr.heap.size wr, _ := sub_cell c1 (by omega)
        clear h1
        by_cases htt : t < T
        · have y4 : (((l[t]).toNat : Int) != 10) = true := by
            rw [bne_iff_ne]
            intro q
            exact HN10.out t hit htt htl (UInt8.toNat_inj.1 (by show (l[t]).toNat = 10; omega))
          generalize ((l[t]).toNat : Int) = z at *
          go_wp2_with fail
          go_roundw
          case rel => exact ⟨t + 1, by go_num, by omega, by omega, bi⟩
          case measure => simp [RowKit.intOf]; omega
        obtain rfl : t = T := by omega
        have y4 : (((l[t]).toNat : Int) != 10) = false := by rw [HT10.out htl]; rfl
        generalize ((l[t]).toNat : Int) = z at *
        clear HN10 HT10
        have bq := bi
        have B0 := B0'
        clear bi B0'
        have CPH := hmk (CP.out _ B0)
        have oQ := oo.below (keepL false) bq
        clear CP oo bq
        generalize parJ (lineJ (l.drop i)) 32 = R at *
        obtain ⟨X, at_, er⟩ := R
        dsimp only at *
        go_wp2_with fail
        refine CPH.out.mono ?_
        rintro e w2 ⟨cs, rfl, hl1, b2⟩
        dsimp only at hl1
        have HL1 := hmk hl1
        obtain ⟨vk, vb, vi, vs, al, nl, cl, am, nm, cm, rfl⟩ := V.ten hl1
        have z2 := b2.size
        have B2 := B0.trans (b2.mono (by omega))
        have o2 := oQ.below (keepL false) b2
        have zC := alloc_size w2 (.cells #[.int .i64 vk, .bool vb, .int .i64 vi, .string vs, .slice al nl cl, .slice am nm cm] 25)
        have bC : Below w2.heap.size w2 (w2.alloc (.cells #[.int .i64 vk, .bool vb, .int .i64 vi, .string vs, .slice al nl cl, .slice am nm cm] 25)) := (Below.refl _ _).alloc (Nat.le_refl _) _
        have BC := B2.trans (bC.mono (by omega))
        have HBC := hmk BC
        clear CPH hl1 oQ
        by_cases he : er = 0
        · subst he
          have HN := hmk (HGO.out rfl)
          have oC := o2.below (keepL false) bC
          have zD := alloc_size (w2.alloc (.cells #[.int .i64 vk, .bool vb, .int .i64 vi, .string vs, .slice al nl cl, .slice am nm cm] 25)) (.cells #[.int .i64 vk, .bool vb, .int .i64 vi, .string vs, .slice al nl cl, .slice am nm cm] 25)
          have bD : Below (w2.alloc (.cells #[.int .i64 vk, .bool vb, .int .i64 vi, .string vs, .slice al nl cl, .slice am nm cm] 25)).heap.size (w2.alloc (.cells #[.int .i64 vk, .bool vb, .int .i64 vi, .string vs, .slice al nl cl, .slice am nm cm] 25)) ((w2.alloc (.cells #[.int .i64 vk, .bool vb, .int .i64 vi, .string vs, .slice al nl cl, .slice am nm cm] 25)).alloc (.cells #[.int .i64 vk, .bool vb, .int .i64 vi, .string vs, .slice al nl cl, .slice am nm cm] 25)) := (Below.refl _ _).alloc (Nat.le_refl _) _
          have oD := oC.below (keepL false) bD
          have BD := BC.trans (bD.mono (by omega))
          have N8 := heap_alloc_new w2 (.cells #[.int .i64 vk, .bool vb, .int .i64 vi, .string vs, .slice al nl cl, .slice am nm cm] 25)
          have N9 := heap_alloc_new (w2.alloc (.cells #[.int .i64 vk, .bool vb, .int .i64 vi, .string vs, .slice al nl cl, .slice am nm cm] 25)) (.cells #[.int .i64 vk, .bool vb, .int .i64 vi, .string vs, .slice al nl cl, .slice am nm cm] 25)
          rw [zC] at N9
          have HEL : Hid (EL false (some X) ((w2.alloc (.cells #[.int .i64 vk, .bool vb, .int .i64 vi, .string vs, .slice al nl cl, .slice am nm cm] 25)).alloc (.cells #[.int .i64 vk, .bool vb, .int .i64 vi, .string vs, .slice al nl cl, .slice am nm cm] 25)) (New wr w2) [.int .i64 vk, .bool vb, .int .i64 vi, .string vs, .slice al nl cl, .slice am nm cm]) :=
            V.lies_keep (fun h => h) (fun b hb => (bD.block b (by have := hb.2; omega)).trans (bC.block b hb.2)) (fun _ h => h) _ HL1.out
          have hSx : ∀ b, New wr w2 b → w.heap.size ≤ b ∧ b < ((w2.alloc (.cells #[.int .i64 vk, .bool vb, .int .i64 vi, .string vs, .slice al nl cl, .slice am nm cm] 25)).alloc (.cells #[.int .i64 vk, .bool vb, .int .i64 vi, .string vs, .slice al nl cl, .slice am nm cm] 25)).heap.size ∧ some b ≠ u5.ownBlock := fun b hb => ⟨by have := hb.1; omega, by have := hb.2; omega, fun e => by have := hltx b e.symm; have := hb.1; omega⟩
          have hb2 : w.heap.size ≤ ((w2.alloc (.cells #[.int .i64 vk, .bool vb, .int .i64 vi, .string vs, .slice al nl cl, .slice am nm cm] 25)).alloc (.cells #[.int .i64 vk, .bool vb, .int .i64 vi, .string vs, .slice al nl cl, .slice am nm cm] 25)).heap.size := by omega
          have HBD2 := hmk BD
          have a0 := cell_of_block N8 0
          have a1 := cell_of_block N8 1
          have a2 := cell_of_block N8 2
          have a3 := cell_of_block N8 3
          have a4 := cell_of_block N8 4
          have a5 := cell_of_block N8 5
          simp only [List.getElem?_toArray, List.getElem?_cons_zero, List.getElem?_cons_succ] at a0 a1 a2 a3 a4 a5
          have HN9 := hmk N9
          clear HBD HGO HL1 oC o2 bC BC bD BD N8 N9
          go_wp2_with (at_builtin; go_loud (refine wpl_push (keepL false) _ rfl (.tmp 46) (.tmp 48) 22 rfl w.heap.size i1 _ 88 Tryz.underlying22 hJ.out.1 hJ.out.2.1 hJ.out.2.2.1 hJ.out.2.2.2 rfl (by decide) (by decide) u5 (some X) rfl oD (w2.heap.size + 1) 1 (0, 0) rfl HN9.out rfl one6 HEL.out hSx (by rw [List.length_map]; omega) hb2 ?_))
          intro g' cap w5 o5 g5 e5
          have B5 : Below w.heap.size w w5 := HBD2.out.grown g5 HBD2.out.size hlt
          have HA5 : Hid (acc.map some ++ [some X] = (acc ++ [X]).map some) := by show _ = _; rw [List.map_append]; rfl
          rw [HA5.out] at o5
          clear oD g5 e5 hb2 hSx HEL HN9 a0 a1 a2 a3 a4 a5 HBD2 HBC hlt hltx
          go_wp2_with fail
          go_roundg f
          case measure => omega
          case rel => exact ⟨t + 1, acc ++ [X], _, by go_num, by rw [List.length_append]; go_num, by omega, by rw [List.length_drop]; omega, by rw [List.length_append]; simp only [List.length_cons, List.length_nil]; omega, B5, o5, HN⟩
        · have HN := hmk (HBD.out he)
          have y0 : (er != 0) = true := by rw [bne_iff_ne]; exact he
          clear o2 HBD HGO HL1 bC BC hlt hltx
          go_wp2_with fail
          go_ret3
          rw [HN.out]
          exact ⟨none, 0, 0, 0, rfl, headed_nil, lies_none _ _, HBC.out⟩
      · obtain rfl : t = T := by omega
        have y3 : ¬ (t : Int) < l.length := by omega
        clear HN10 HT10
        have bq := bi
        have B0 := B0'
        clear bi B0'
        have CPH := hmk (CP.out _ B0)
        have oQ := oo.below (keepL false) bq
        clear CP oo bq
        generalize parJ (lineJ (l.drop i)) 32 = R at *
        obtain ⟨X, at_, er⟩ := R
        dsimp only at *
        go_wp2_with fail
        refine CPH.out.mono ?_
        rintro e w2 ⟨cs, rfl, hl1, b2⟩
        dsimp only at hl1
        have HL1 := hmk hl1
        obtain ⟨vk, vb, vi, vs, al, nl, cl, am, nm, cm, rfl⟩ := V.ten hl1
        have z2 := b2.size
        have B2 := B0.trans (b2.mono (by omega))
        have o2 := oQ.below (keepL false) b2
        have zC := alloc_size w2 (.cells #[.int .i64 vk, .bool vb, .int .i64 vi, .string vs, .slice al nl cl, .slice am nm cm] 25)
        have bC : Below w2.heap.size w2 (w2.alloc (.cells #[.int .i64 vk, .bool vb, .int .i64 vi, .string vs, .slice al nl cl, .slice am nm cm] 25)) := (Below.refl _ _).alloc (Nat.le_refl _) _
        have BC := B2.trans (bC.mono (by omega))
        have HBC := hmk BC
        clear CPH hl1 oQ
        by_cases he : er = 0
        · subst he
          have HN := hmk (HGO.out rfl)
          have oC := o2.below (keepL false) bC
          have zD := alloc_size (w2.alloc (.cells #[.int .i64 vk, .bool vb, .int .i64 vi, .string vs, .slice al nl cl, .slice am nm cm] 25)) (.cells #[.int .i64 vk, .bool vb, .int .i64 vi, .string vs, .slice al nl cl, .slice am nm cm] 25)
          have bD : Below (w2.alloc (.cells #[.int .i64 vk, .bool vb, .int .i64 vi, .string vs, .slice al nl cl, .slice am nm cm] 25)).heap.size (w2.alloc (.cells #[.int .i64 vk, .bool vb, .int .i64 vi, .string vs, .slice al nl cl, .slice am nm cm] 25)) ((w2.alloc (.cells #[.int .i64 vk, .bool vb, .int .i64 vi, .string vs, .slice al nl cl, .slice am nm cm] 25)).alloc (.cells #[.int .i64 vk, .bool vb, .int .i64 vi, .string vs, .slice al nl cl, .slice am nm cm] 25)) := (Below.refl _ _).alloc (Nat.le_refl _) _
          have oD := oC.below (keepL false) bD
          have BD := BC.trans (bD.mono (by omega))
          have N8 := heap_alloc_new w2 (.cells #[.int .i64 vk, .bool vb, .int .i64 vi, .string vs, .slice al nl cl, .slice am nm cm] 25)
          have N9 := heap_alloc_new (w2.alloc (.cells #[.int .i64 vk, .bool vb, .int .i64 vi, .string vs, .slice al nl cl, .slice am nm cm] 25)) (.cells #[.int .i64 vk, .bool vb, .int .i64 vi, .string vs, .slice al nl cl, .slice am nm cm] 25)
          rw [zC] at N9
          have HEL : Hid (EL false (some X) ((w2.alloc (.cells #[.int .i64 vk, .bool vb, .int .i64 vi, .string vs, .slice al nl cl, .slice am nm cm] 25)).alloc (.cells #[.int .i64 vk, .bool vb, .int .i64 vi, .string vs, .slice al nl cl, .slice am nm cm] 25)) (New wr w2) [.int .i64 vk, .bool vb, .int .i64 vi, .string vs, .slice al nl cl, .slice am nm cm]) :=
            V.lies_keep (fun h => h) (fun b hb => (bD.block b (by have := hb.2; omega)).trans (bC.block b hb.2)) (fun _ h => h) _ HL1.out
          have hSx : ∀ b, New wr w2 b → w.heap.size ≤ b ∧ b < ((w2.alloc (.cells #[.int .i64 vk, .bool vb, .int .i64 vi, .string vs, .slice al nl cl, .slice am nm cm] 25)).alloc (.cells #[.int .i64 vk, .bool vb, .int .i64 vi, .string vs, .slice al nl cl, .slice am nm cm] 25)).heap.size ∧ some b ≠ u5.ownBlock := fun b hb => ⟨by have := hb.1; omega, by have := hb.2; omega, fun e => by have := hltx b e.symm; have := hb.1; omega⟩
          have hb2 : w.heap.size ≤ ((w2.alloc (.cells #[.int .i64 vk, .bool vb, .int .i64 vi, .string vs, .slice al nl cl, .slice am nm cm] 25)).alloc (.cells #[.int .i64 vk, .bool vb, .int .i64 vi, .string vs, .slice al nl cl, .slice am nm cm] 25)).heap.size := by omega
          have HBD2 := hmk BD
          have a0 := cell_of_block N8 0
          have a1 := cell_of_block N8 1
          have a2 := cell_of_block N8 2
          have a3 := cell_of_block N8 3
          have a4 := cell_of_block N8 4
          have a5 := cell_of_block N8 5
          simp only [List.getElem?_toArray, List.getElem?_cons_zero, List.getElem?_cons_succ] at a0 a1 a2 a3 a4 a5
          have HN9 := hmk N9
          clear HBD HGO HL1 oC o2 bC BC bD BD N8 N9
          go_wp2_with (at_builtin; go_loud (refine wpl_push (keepL false) _ rfl (.tmp 46) (.tmp 48) 22 rfl w.heap.size i1 _ 88 Tryz.underlying22 hJ.out.1 hJ.out.2.1 hJ.out.2.2.1 hJ.out.2.2.2 rfl (by decide) (by decide) u5 (some X) rfl oD (w2.heap.size + 1) 1 (0, 0) rfl HN9.out rfl one6 HEL.out hSx (by rw [List.length_map]; omega) hb2 ?_))
          intro g' cap w5 o5 g5 e5
          have B5 : Below w.heap.size w w5 := HBD2.out.grown g5 HBD2.out.size hlt
          have HA5 : Hid (acc.map some ++ [some X] = (acc ++ [X]).map some) := by show _ = _; rw [List.map_append]; rfl
          rw [HA5.out] at o5
          clear oD g5 e5 hb2 hSx HEL HN9 a0 a1 a2 a3 a4 a5 HBD2 HBC hlt hltx
          go_wp2_with fail
          go_roundg f
          case measure => omega
          case rel => exact ⟨t + 1, acc ++ [X], _, by go_num, by rw [List.length_append]; go_num, by omega, by rw [List.length_drop]; omega, by rw [List.length_append]; simp only [List.length_cons, List.length_nil]; omega, B5, o5, HN⟩
        · have HN := hmk (HBD.out he)
          have y0 : (er != 0) = true := by rw [bne_iff_ne]; exact he
          clear o2 HBD HGO HL1 bC BC hlt hltx
          go_wp2_with fail
          go_ret3
          rw [HN.out]
          exact ⟨none, 0, 0, 0, rfl, headed_nil, lies_none _ _, HBC.out⟩
    · have y2 : ¬ (i : Int) < (l.length : Int) := by omega
      have e0 : l.drop i = [] := List.drop_eq_nil_of_le (by omega)
      rw [e0, splJ_end] at HF
      obtain ⟨sa, sc, sb, so, hu, hds, hls⟩ := own_listL0 (T := New w wr) oj (fun b hb => ⟨(oj.off b hb).1, (oj.off b hb).2.1⟩) (fun g hg => oj.lt hg)
      have HU := hmk hu
      have HD := hmk hds
      have HL := hmk hls
      clear hu hds hls oj e0
      go_wp2_with fail
      go_ret3
      rw [HF.out]
      exact ⟨sa, sc, sb, so, by rw [HU.out]; rfl, HD.out, HL.out, bj⟩
end Go.Proofs.YtpmhdcmmlkjjmaaGreatDoor
/- JsonLines: the law's walk. -/
set_option maxRecDepth 100000
namespace Go.Proofs.YtpmhdcmmlkjjmaaGreatDoor
open Go.RowKit Go.Lib
theorem can_len (l : List UInt8) : (canJ l).1.length ≤ l.length := by
  unfold canJ
  split
  · rename_i h; exact (par_good h).2.2.2.2.2.2
  · simp
theorem sp_len (l : List UInt8) : (spJ l).1.length ≤ 1048576 := by
  unfold spJ
  split
  · simp
  · have := splJ_len (l.length + 1) l [] (by omega)
    simp only [List.length_nil] at this
    omega
set_option maxHeartbeats 16000000 in
theorem lineslaw_walk (l : List UInt8) (v : Value) (w : World) (hb : Byt w v l) (t : Td w) (td : Tdl w) (hl : l.length ≤ 140737488355328) : Calls Tryz.prog 7 #[v] w (BPost true w) := by
  have CT := hmk (twin_bytes l v w hb hl)
  have HT : Hid (∀ W, Below w.heap.size w W → Td W ∧ Tdl W ∧ Byt W v l) := fun W h => ⟨t.below h (by have := t.z; omega) h.size, td.below h (by have := td.z; omega) h.size, hb.keep h⟩
  obtain ⟨va, vc, rfl⟩ : ∃ a c, v = .slice a l.length c := by
    obtain ⟨ao, cap, b, o, rfl, _⟩ := hb
    exact ⟨_, _, rfl⟩
  have hcl := can_len l
  have hsl := sp_len l
  have HCC : Hid (∀ W, Below w.heap.size w W → Calls Tryz.prog 17 #[.slice va l.length vc] W (CaP (canJ l) W)) := fun W h => canon_any l _ W (HT.out W h).2.2 (HT.out W h).1 (HT.out W h).2.1 hl
  have HCD : Hid (∀ W x, Byt W x l → Calls Tryz.prog 23 #[x] W (CaP (canJ l) W)) := fun W x h => dcanon_any l x W h hl
  have HCS : Hid (∀ W, Below w.heap.size w W → Calls Tryz.prog 20 #[.slice va l.length vc] W (SpP (spJ l) W)) := fun W h => split_any l _ W (HT.out W h).2.2 (HT.out W h).1 hl
  have HCE : Hid (∀ W x, Byt W x l → Calls Tryz.prog 24 #[x] W (SpP (spJ l) W)) := fun W x h => dsplit_any l x W h hl
  clear hb t td
  generalize canJ l = CJ at *
  obtain ⟨cb, cat, ce⟩ := CJ
  generalize spJ l = SJ at *
  obtain ⟨sx, sat, se⟩ := SJ
  dsimp only at *
  go_enter Tryz.func7, Tryz.ntmps7
  go_wp2_with fail
  refine CT.out.mono ?_
  rintro e w0 ⟨tv, rfl, htv, b0⟩
  obtain ⟨ta, tc, rfl⟩ : ∃ a c, tv = .slice a l.length c := by
    obtain ⟨ao, cap, b, o, rfl, _⟩ := htv
    exact ⟨_, _, rfl⟩
  have HTV := hmk htv
  have C1 := hmk (HCC.out w0 b0)
  have z0 := b0.size
  clear htv CT HCC
  go_wp2_with fail
  refine C1.out.mono ?_
  rintro e w1 ⟨bv, rfl, hbv, b1⟩
  have HBV := hmk hbv
  obtain ⟨ba, bc, rfl⟩ : ∃ a c, bv = .slice a cb.length c := by
    obtain ⟨ao, cap, b, o, rfl, _⟩ := hbv
    exact ⟨_, _, rfl⟩
  have z1 := b1.size
  have C2 := hmk (HCD.out w1 _ (HTV.out.keep b1))
  clear hbv C1 HCD
  go_wp2_with fail
  refine C2.out.mono ?_
  rintro e w2 ⟨dv, rfl, hdv, b2⟩
  have HDV := hmk hdv
  obtain ⟨da, dc, rfl⟩ : ∃ a c, dv = .slice a cb.length c := by
    obtain ⟨ao, cap, b, o, rfl, _⟩ := hdv
    exact ⟨_, _, rfl⟩
  have z2 := b2.size
  have C3 := hmk (bytes_same cb _ _ w2 (HBV.out.keep b2) HDV.out (by omega))
  clear hdv C2 HBV HDV
  go_wp2_with fail
  refine C3.out.mono ?_
  rintro e w3 ⟨rfl, b3⟩
  have z3 := b3.size
  have B1 := b0.trans (b1.mono z0)
  have B2 := B1.trans (b2.mono (by omega))
  have B3 := B2.trans (b3.mono (by omega))
  have T3 := b1.trans ((b2.mono z1).trans (b3.mono (by omega)))
  have C4 := hmk (HCS.out w3 B3)
  clear C3 HCS B1 B2 b0 b1 b2 b3
  go_wp2_with fail
  refine C4.out.mono ?_
  rintro e w4 ⟨a4, c4, k4, o4, rfl, hd4, hl4, b4⟩
  dsimp only at hd4 hl4
  have z4 := b4.size
  have B4 := B3.trans (b4.mono (by omega))
  have T4 := T3.trans (b4.mono (by omega))
  have C5 := hmk (HCE.out w4 _ (HTV.out.keep T4))
  have HD4 := hmk hd4
  have HL4 := hmk hl4
  clear C4 HCE hd4 hl4
  go_wp2_with fail
  refine C5.out.mono ?_
  rintro e w5 ⟨a5, c5, k5, o5, rfl, hd5, hl5, b5⟩
  dsimp only at hd5 hl5
  have z5 := b5.size
  have B5 := B4.trans (b5.mono (by omega))
  have T5 := T4.trans (b5.mono (by omega))
  have C6 := hmk (values_same sx (New w3 w4) (New w4 w5) _ _ _ _ k4 k5 o4 o5 w5 HD4.out hd5 (liesL_keep (fun h => h) (fun x hx => b5.block x hx.2) (fun _ h => h) _ HL4.out) hl5 (fun x hx => by have := hx.2; omega) (fun x hx => hx.2) (by omega))
  clear C5 hd5 hl5 HD4 HL4
  go_wp2_with fail
  refine C6.out.mono ?_
  rintro e w6 ⟨rfl, b6⟩
  have z6 := b6.size
  have B6 := B5.trans (b6.mono (by omega))
  have C7 := hmk (bytes_same l _ _ w6 (HT.out _ B6).2.2 (HTV.out.keep (T5.trans (b6.mono (by omega)))) (by omega))
  clear C6
  go_wp2_with fail
  refine C7.out.mono ?_
  rintro e w7 ⟨rfl, b7⟩
  have B7 := B6.trans (b7.mono (by omega))
  clear C7
  go_wp2_with fail
  go_ret
  exact ⟨rfl, B7⟩
end Go.Proofs.YtpmhdcmmlkjjmaaGreatDoor
