import Derived.Test.YtjfldbmopjojdaaDoorTogB
import Derived.Test.YtjfldbmopjojdaaDoorG30
set_option linter.unusedSimpArgs false
set_option linter.unusedVariables false
namespace Go.Proofs.YtjfldbmopjojdaaDoor
open Go Go.RowKit Go.Lib Go.Shelf
theorem cons_of {l : List Pr} {y : Pr} {t : List Pr} (h : l = y :: t) : ∃ x r, l = x :: r ∧ x = y ∧ r = t := ⟨y, t, h, rfl, rfl⟩
attribute [local go_sem] Oper.semAt_some
set_option maxHeartbeats 8000000 in
set_option maxRecDepth 100000 in
theorem tog_pan (qa qb : List (Mem × List Value)) (xs : List Pr) (hxs : xs = tgR qa qb) (n n0 vx A1 A2 ba oa bb ob ca cb : Nat) (aa ab : Option Addr) (w : World)
 (h1 : w.cell? ⟨A1, 0, none⟩ = some (.slice aa qa.length ca)) (h2 : w.cell? ⟨A2, 0, none⟩ = some (.slice ab qb.length cb)) (hA1 : A1 < n0) (hA2 : A2 < n0) (hv1 : A1 ≠ vx) (hv2 : A2 ≠ vx) (hn0 : n0 ≤ w.heap.size)
 (ha : 0 < qa.length → aa = some ⟨ba, oa, none⟩ ∧ ba < n0 ∧ ba ≠ vx) (hb : 0 < qb.length → ab = some ⟨bb, ob, none⟩ ∧ bb < n0 ∧ bb ≠ vx) (ra : RowsOf w ba oa 7 (qa.map (fun z => z.2))) (rb : RowsOf w bb ob 7 (qb.map (fun z => z.2))) (hla : qa.length ≤ 3000000) (hlb : qb.length ≤ 3000000)
 (ka : ∀ z ∈ qa, ∃ ek eb ei es eal enl ecl eam enm ecm, z.2 = .string z.1.1 :: [.int .i64 ek, .bool eb, .int .i64 ei, .string es, .slice eal enl ecl, .slice eam enm ecm]) (kb : ∀ z ∈ qb, ∃ ek eb ei es eal enl ecl eam enm ecm, z.2 = .string z.1.1 :: [.int .i64 ek, .bool eb, .int .i64 ei, .string es, .slice eal enl ecl, .slice eam enm ecm]) :
 SeqPan n Tryd.prog 64 #[.pointer (some ⟨A1, 0, none⟩), .pointer (some ⟨A2, 0, none⟩)] (fun x : Pr => x.enc) (Kx n0 vx) xs w := by
 intro l J Jp W hW hJ hY h0
 refine callsIn_of_wp Tryd.func64 rfl trivial ?_ rfl
 simp only [Tryd.ntmps64, List.size_toArray, List.length_cons, List.length_nil, Nat.reduceAdd, Nat.reduceSub, Array.replicate_succ, Array.replicate_zero, List.push_toArray, List.append_toArray, List.nil_append, List.cons_append]
 gi_wp2
 gi_loopw [4, 5] (fun e4 e5 wr => ∃ (i k : Nat) (pre rest : List Pr), i ≤ qa.length ∧ k ≤ qb.length ∧ e4 = .int .i64 (i : Int) ∧ e5 = .int .i64 (k : Int) ∧ Hid (xs = pre ++ rest) ∧ Hid (rest = tgR (qa.drop i) (qb.drop k)) ∧ Hid (Kx n0 vx w wr) ∧ J pre wr) (fun e4 e5 _ => (qa.length - (RowKit.intOf e4).toNat) + (qb.length - (RowKit.intOf e5).toNat))
 case atStart => exact ⟨0, 0, [], xs, by omega, by omega, rfl, rfl, rfl, (by show xs = tgR (qa.drop 0) (qb.drop 0); rw [List.drop_zero, List.drop_zero]; exact hxs), kx_of (hW.mono hn0), h0⟩
 case round =>
  obtain ⟨i, k, pre, rest, hi, hk, rfl, rfl, HX, HR, HB, hj⟩ := hrel
  have hx := HX.out
  have hr := HR.out
  have bw := HB.out
  clear HX HR HB
  have c1 := (bw.cell (p := ⟨A1, 0, none⟩) hA1 hv1).trans h1
  have c2 := (bw.cell (p := ⟨A2, 0, none⟩) hA2 hv2).trans h2
  by_cases hi2 : i < qa.length
  rotate_left
  ·obtain rfl : i = qa.length := by omega
   have y1 : ¬ (qa.length : Int) < qa.length := by omega
   by_cases hk2 : k < qb.length
   rotate_left
   ·obtain rfl : k = qb.length := by omega
    have y2 : ¬ (qb.length : Int) < qb.length := by omega
    have hr0 : rest = [] := by rw [List.drop_length, List.drop_length, tgR] at hr; exact hr
    have hjx : J xs wr := by rw [hx, hr0, List.append_nil]; exact hj
    gi_wp2
    go_end0
    first | exact .inl ⟨⟨_, rfl⟩, by rw [← hxs]; exact hjx⟩ | exact .inl ⟨⟨_, rfl⟩, hjx⟩
   ·have y2 : (k : Int) < qb.length := by omega
    have y3 : ¬ (k : Int) = qb.length := by omega
    have y3b : ((k : Int) == (qb.length : Int)) = false := beq_eq_false_iff_ne.2 y3
    have y1b : decide ((qa.length : Int) < (qa.length : Int)) = false := decide_eq_false y1
    have y4b : ((qa.length : Int) == (qa.length : Int)) = true := beq_self_eq_true _
    obtain ⟨rfl, hbb, hbbv⟩ := hb (by omega)
    obtain ⟨zk, zb, zi, zs, zal, znl, zcl, zam, znm, zcm, ezb⟩ := kb qb[k] (List.getElem_mem hk2)
    have rowb := rb.row k (by simpa using hk2)
    rw [List.getElem_map, ezb] at rowb
    have hdr : qb.drop k = qb[k] :: qb.drop (k + 1) := List.drop_eq_getElem_cons hk2
    rw [List.drop_length, hdr, tgR] at hr
    obtain ⟨x, rest, rfl, hxv, hrs⟩ := cons_of hr
    have hrs : rest = tgR (qa.drop (qa.length + 0)) (qb.drop (k + 1)) := by rw [Nat.add_zero, List.drop_length]; exact hrs
    rw [pB, ezb] at hxv
    simp only [List.tail_cons] at hxv
    rcases hzm : (qb[k]).1 with ⟨zkey, zv⟩
    rw [hzm] at hxv rowb
    simp only at hxv rowb
    clear hr ezb hzm hdr
    have Bw1 : Kx n0 vx w (wr.alloc (.cells #[.int .i64 0, .bool false, .int .i64 0, .string ⟨#[]⟩, .slice none 0 0, .slice none 0 0, .int .i64 0, .bool false, .int .i64 0, .string ⟨#[]⟩, .slice none 0 0, .slice none 0 0, .bool false, .bool false] 73)) := bw.trans (kx_of (((Below.refl _ wr).alloc (Nat.le_refl _) _).mono (Nat.le_trans hn0 bw.size)))
    have Rw1 : Below wr.heap.size wr (wr.alloc (.cells #[.int .i64 0, .bool false, .int .i64 0, .string ⟨#[]⟩, .slice none 0 0, .slice none 0 0, .int .i64 0, .bool false, .int .i64 0, .string ⟨#[]⟩, .slice none 0 0, .slice none 0 0, .bool false, .bool false] 73)) := (Below.refl _ wr).alloc (Nat.le_refl _) _
    have hxw1 := heap_alloc_new wr (.cells #[.int .i64 0, .bool false, .int .i64 0, .string ⟨#[]⟩, .slice none 0 0, .slice none 0 0, .int .i64 0, .bool false, .int .i64 0, .string ⟨#[]⟩, .slice none 0 0, .slice none 0 0, .bool false, .bool false] 73)
    have hzw1 : (wr.alloc (.cells #[.int .i64 0, .bool false, .int .i64 0, .string ⟨#[]⟩, .slice none 0 0, .slice none 0 0, .int .i64 0, .bool false, .int .i64 0, .string ⟨#[]⟩, .slice none 0 0, .slice none 0 0, .bool false, .bool false] 73)).heap.size = wr.heap.size + 1 := alloc_size _ _
    have hnr : n0 ≤ wr.heap.size := Nat.le_trans hn0 bw.size
    have p1 := (Bw1.cell (p := ⟨A1, 0, none⟩) hA1 hv1).trans h1
    have p2 := (Bw1.cell (p := ⟨A2, 0, none⟩) hA2 hv2).trans h2
    obtain ⟨rb_, rb0, rb1, rb2, rb3, rb4, rb5⟩ := row7 (rowb.keep (Bw1.block bb hbb hbbv))
    have s1 : ∀ z : Sub (wr.alloc (.cells #[.int .i64 0, .bool false, .int .i64 0, .string ⟨#[]⟩, .slice none 0 0, .slice none 0 0, .int .i64 0, .bool false, .int .i64 0, .string ⟨#[]⟩, .slice none 0 0, .slice none 0 0, .bool false, .bool false] 73)).heap.size (wr.alloc (.cells #[.int .i64 0, .bool false, .int .i64 0, .string ⟨#[]⟩, .slice none 0 0, .slice none 0 0, .int .i64 0, .bool false, .int .i64 0, .string ⟨#[]⟩, .slice none 0 0, .slice none 0 0, .bool false, .bool false] 73)), _ := sub_cell p1 (by show A1 < _; omega)
    have s2 : ∀ z : Sub (wr.alloc (.cells #[.int .i64 0, .bool false, .int .i64 0, .string ⟨#[]⟩, .slice none 0 0, .slice none 0 0, .int .i64 0, .bool false, .int .i64 0, .string ⟨#[]⟩, .slice none 0 0, .slice none 0 0, .bool false, .bool false] 73)).heap.size (wr.alloc (.cells #[.int .i64 0, .bool false, .int .i64 0, .string ⟨#[]⟩, .slice none 0 0, .slice none 0 0, .int .i64 0, .bool false, .int .i64 0, .string ⟨#[]⟩, .slice none 0 0, .slice none 0 0, .bool false, .bool false] 73)), _ := sub_cell p2 (by show A2 < _; omega)
    have sb_ : ∀ z : Sub (wr.alloc (.cells #[.int .i64 0, .bool false, .int .i64 0, .string ⟨#[]⟩, .slice none 0 0, .slice none 0 0, .int .i64 0, .bool false, .int .i64 0, .string ⟨#[]⟩, .slice none 0 0, .slice none 0 0, .bool false, .bool false] 73)).heap.size (wr.alloc (.cells #[.int .i64 0, .bool false, .int .i64 0, .string ⟨#[]⟩, .slice none 0 0, .slice none 0 0, .int .i64 0, .bool false, .int .i64 0, .string ⟨#[]⟩, .slice none 0 0, .slice none 0 0, .bool false, .bool false] 73)), _ := sub_cell rb_ (by show bb < _; omega)
    have sb0 : ∀ z : Sub (wr.alloc (.cells #[.int .i64 0, .bool false, .int .i64 0, .string ⟨#[]⟩, .slice none 0 0, .slice none 0 0, .int .i64 0, .bool false, .int .i64 0, .string ⟨#[]⟩, .slice none 0 0, .slice none 0 0, .bool false, .bool false] 73)).heap.size (wr.alloc (.cells #[.int .i64 0, .bool false, .int .i64 0, .string ⟨#[]⟩, .slice none 0 0, .slice none 0 0, .int .i64 0, .bool false, .int .i64 0, .string ⟨#[]⟩, .slice none 0 0, .slice none 0 0, .bool false, .bool false] 73)), _ := sub_cell rb0 (by show bb < _; omega)
    have sb1 : ∀ z : Sub (wr.alloc (.cells #[.int .i64 0, .bool false, .int .i64 0, .string ⟨#[]⟩, .slice none 0 0, .slice none 0 0, .int .i64 0, .bool false, .int .i64 0, .string ⟨#[]⟩, .slice none 0 0, .slice none 0 0, .bool false, .bool false] 73)).heap.size (wr.alloc (.cells #[.int .i64 0, .bool false, .int .i64 0, .string ⟨#[]⟩, .slice none 0 0, .slice none 0 0, .int .i64 0, .bool false, .int .i64 0, .string ⟨#[]⟩, .slice none 0 0, .slice none 0 0, .bool false, .bool false] 73)), _ := sub_cell rb1 (by show bb < _; omega)
    have sb2 : ∀ z : Sub (wr.alloc (.cells #[.int .i64 0, .bool false, .int .i64 0, .string ⟨#[]⟩, .slice none 0 0, .slice none 0 0, .int .i64 0, .bool false, .int .i64 0, .string ⟨#[]⟩, .slice none 0 0, .slice none 0 0, .bool false, .bool false] 73)).heap.size (wr.alloc (.cells #[.int .i64 0, .bool false, .int .i64 0, .string ⟨#[]⟩, .slice none 0 0, .slice none 0 0, .int .i64 0, .bool false, .int .i64 0, .string ⟨#[]⟩, .slice none 0 0, .slice none 0 0, .bool false, .bool false] 73)), _ := sub_cell rb2 (by show bb < _; omega)
    have sb3 : ∀ z : Sub (wr.alloc (.cells #[.int .i64 0, .bool false, .int .i64 0, .string ⟨#[]⟩, .slice none 0 0, .slice none 0 0, .int .i64 0, .bool false, .int .i64 0, .string ⟨#[]⟩, .slice none 0 0, .slice none 0 0, .bool false, .bool false] 73)).heap.size (wr.alloc (.cells #[.int .i64 0, .bool false, .int .i64 0, .string ⟨#[]⟩, .slice none 0 0, .slice none 0 0, .int .i64 0, .bool false, .int .i64 0, .string ⟨#[]⟩, .slice none 0 0, .slice none 0 0, .bool false, .bool false] 73)), _ := sub_cell rb3 (by show bb < _; omega)
    have sb4 : ∀ z : Sub (wr.alloc (.cells #[.int .i64 0, .bool false, .int .i64 0, .string ⟨#[]⟩, .slice none 0 0, .slice none 0 0, .int .i64 0, .bool false, .int .i64 0, .string ⟨#[]⟩, .slice none 0 0, .slice none 0 0, .bool false, .bool false] 73)).heap.size (wr.alloc (.cells #[.int .i64 0, .bool false, .int .i64 0, .string ⟨#[]⟩, .slice none 0 0, .slice none 0 0, .int .i64 0, .bool false, .int .i64 0, .string ⟨#[]⟩, .slice none 0 0, .slice none 0 0, .bool false, .bool false] 73)), _ := sub_cell rb4 (by show bb < _; omega)
    have sb5 : ∀ z : Sub (wr.alloc (.cells #[.int .i64 0, .bool false, .int .i64 0, .string ⟨#[]⟩, .slice none 0 0, .slice none 0 0, .int .i64 0, .bool false, .int .i64 0, .string ⟨#[]⟩, .slice none 0 0, .slice none 0 0, .bool false, .bool false] 73)).heap.size (wr.alloc (.cells #[.int .i64 0, .bool false, .int .i64 0, .string ⟨#[]⟩, .slice none 0 0, .slice none 0 0, .int .i64 0, .bool false, .int .i64 0, .string ⟨#[]⟩, .slice none 0 0, .slice none 0 0, .bool false, .bool false] 73)), _ := sub_cell rb5 (by show bb < _; omega)
    gi_wp2
    clear c1 c2
    generalize (wr.alloc (.cells #[.int .i64 0, .bool false, .int .i64 0, .string ⟨#[]⟩, .slice none 0 0, .slice none 0 0, .int .i64 0, .bool false, .int .i64 0, .string ⟨#[]⟩, .slice none 0 0, .slice none 0 0, .bool false, .bool false] 73)) = w1 at *
    refine wpIn_wide.2 ?_
    refine wp_region_sub w1.heap.size (by kernel_rfl) (by kernel_rfl) ?_
    repeat (go_big_quiet_step (fail))
    refine wpQuiet_nil ?_
    rintro w2 ⟨⟨w2', bw2⟩, hj_⟩
    have hj_' : w2 = w2' := hj_
    subst hj_'
    clear hj_
    have hzw2 := bw2.size
    have Bw2 := Bw1.trans (kx_of (bw2.mono (by omega)))
    have Rw2 := Rw1.trans (bw2.mono (by omega))
    have hxw2 := (bw2.block wr.heap.size (by omega)).trans hxw1
    clear bw2
    clear p1 p2 s1 s2 rb_ sb_ rb0 sb0 rb1 sb1 rb2 sb2 rb3 sb3 rb4 sb4 rb5 sb5
    gi_wp2
    have p1 := (Bw2.cell (p := ⟨A1, 0, none⟩) hA1 hv1).trans h1
    have p2 := (Bw2.cell (p := ⟨A2, 0, none⟩) hA2 hv2).trans h2
    obtain ⟨rb_, rb0, rb1, rb2, rb3, rb4, rb5⟩ := row7 (rowb.keep (Bw2.block bb hbb hbbv))
    have s1 : ∀ z : Sub w2.heap.size w2, _ := sub_cell p1 (by show A1 < _; omega)
    have s2 : ∀ z : Sub w2.heap.size w2, _ := sub_cell p2 (by show A2 < _; omega)
    have sb_ : ∀ z : Sub w2.heap.size w2, _ := sub_cell rb_ (by show bb < _; omega)
    have sb0 : ∀ z : Sub w2.heap.size w2, _ := sub_cell rb0 (by show bb < _; omega)
    have sb1 : ∀ z : Sub w2.heap.size w2, _ := sub_cell rb1 (by show bb < _; omega)
    have sb2 : ∀ z : Sub w2.heap.size w2, _ := sub_cell rb2 (by show bb < _; omega)
    have sb3 : ∀ z : Sub w2.heap.size w2, _ := sub_cell rb3 (by show bb < _; omega)
    have sb4 : ∀ z : Sub w2.heap.size w2, _ := sub_cell rb4 (by show bb < _; omega)
    have sb5 : ∀ z : Sub w2.heap.size w2, _ := sub_cell rb5 (by show bb < _; omega)
    refine wpIn_wide.2 ?_
    refine wp_region_sub w2.heap.size (by kernel_rfl) (by kernel_rfl) ?_
    repeat (go_big_quiet_step (fail))
    refine wpQuiet_nil ?_
    rintro w4w2 ⟨⟨w4w2', bw4w2⟩, hj_⟩
    have hj_' : w4w2 = w4w2' := hj_
    subst hj_'
    clear hj_
    have hzw4w2 := bw4w2.size
    have Bw4w2 := Bw2.trans (kx_of (bw4w2.mono (by omega)))
    have Rw4w2 := Rw2.trans (bw4w2.mono (by omega))
    have hxw4w2 := (bw4w2.block wr.heap.size (by omega)).trans hxw2
    clear bw4w2
    clear p1 p2 s1 s2 rb_ sb_ rb0 sb0 rb1 sb1 rb2 sb2 rb3 sb3 rb4 sb4 rb5 sb5
    gi_wp2
    have k1 := (Bw4w2.cell (p := ⟨A2, 0, none⟩) hA2 hv2).trans h2
    have k2 := rowb.keep (Bw4w2.block bb hbb hbbv)
    have x0 : w4w2.cell? ⟨wr.heap.size, 0, none⟩ = some (.int .i64 0) := by rw [cell_of_block hxw4w2]; rfl
    have x1 : w4w2.cell? ⟨wr.heap.size, 1, none⟩ = some (.bool false) := by rw [cell_of_block hxw4w2]; rfl
    have x2 : w4w2.cell? ⟨wr.heap.size, 2, none⟩ = some (.int .i64 0) := by rw [cell_of_block hxw4w2]; rfl
    have x3 : w4w2.cell? ⟨wr.heap.size, 3, none⟩ = some (.string ⟨#[]⟩) := by rw [cell_of_block hxw4w2]; rfl
    have x4 : w4w2.cell? ⟨wr.heap.size, 4, none⟩ = some (.slice none 0 0) := by rw [cell_of_block hxw4w2]; rfl
    have x5 : w4w2.cell? ⟨wr.heap.size, 5, none⟩ = some (.slice none 0 0) := by rw [cell_of_block hxw4w2]; rfl
    have x6 : w4w2.cell? ⟨wr.heap.size, 6, none⟩ = some (.int .i64 0) := by rw [cell_of_block hxw4w2]; rfl
    have x7 : w4w2.cell? ⟨wr.heap.size, 7, none⟩ = some (.bool false) := by rw [cell_of_block hxw4w2]; rfl
    have x8 : w4w2.cell? ⟨wr.heap.size, 8, none⟩ = some (.int .i64 0) := by rw [cell_of_block hxw4w2]; rfl
    have x9 : w4w2.cell? ⟨wr.heap.size, 9, none⟩ = some (.string ⟨#[]⟩) := by rw [cell_of_block hxw4w2]; rfl
    have x10 : w4w2.cell? ⟨wr.heap.size, 10, none⟩ = some (.slice none 0 0) := by rw [cell_of_block hxw4w2]; rfl
    have x11 : w4w2.cell? ⟨wr.heap.size, 11, none⟩ = some (.slice none 0 0) := by rw [cell_of_block hxw4w2]; rfl
    have x12 : w4w2.cell? ⟨wr.heap.size, 12, none⟩ = some (.bool false) := by rw [cell_of_block hxw4w2]; rfl
    have x13 : w4w2.cell? ⟨wr.heap.size, 13, none⟩ = some (.bool false) := by rw [cell_of_block hxw4w2]; rfl
    have fx := frozen_of_block hxw4w2
    refine wpIn_wide.2 ?_
    refine wp_region_held_drew (S := (fun W => W.cell? ⟨A2, 0, none⟩ = some (.slice (some ⟨bb, ob, none⟩) qb.length cb) ∧ rowAt W bb (ob + k * 7) (.string zkey :: [.int .i64 zk, .bool zb, .int .i64 zi, .string zs, .slice zal znl zcl, .slice zam znm zcm]))) (by kernel_rfl) ⟨k1, k2⟩ (fun hHeld => ?_)
    (refine tkA 0 ?_ ?_ ?_; rotate_left 1; (intro W0 hSw; (have o9 := hSw.1); go_simp; (try with_reducible rfl)); (try simp only [Act.put, zA, zB, zC]))
    (refine tjA 1 ?_; (try simp only [Act.put, zA, zB, zC]))
    (refine tjA 2 ?_; (try simp only [Act.put, zA, zB, zC]))
    (refine tjA 3 ?_; (try simp only [Act.put, zA, zB, zC]))
    (refine tkA 4 ?_ ?_ ?_; rotate_left 1; (intro W0 hSw; (obtain ⟨o_, o0, o1, o2, o3, o4, o5⟩ := row7 hSw.2); go_simp; (try with_reducible rfl)); (try simp only [Act.put, zA, zB, zC]))
    (refine tkA 5 ?_ ?_ ?_; rotate_left 1; (intro W0 hSw; (have o9 := hSw.1); go_simp; (try with_reducible rfl)); (try simp only [Act.put, zA, zB, zC]))
    (refine tjA 6 ?_; (try simp only [Act.put, zA, zB, zC]))
    (refine tjA 7 ?_; (try simp only [Act.put, zA, zB, zC]))
    (refine tjA 8 ?_; (try simp only [Act.put, zA, zB, zC]))
    (refine tkA 9 ?_ ?_ ?_; rotate_left 1; (intro W0 hSw; (obtain ⟨o_, o0, o1, o2, o3, o4, o5⟩ := row7 hSw.2); go_simp; (try with_reducible rfl)); (try simp only [Act.put, zA, zB, zC]))
    (refine tjA 10 ?_; (try simp only [Act.put, zA, zB, zC]))
    (refine tjA 11 ?_; (try simp only [Act.put, zA, zB, zC]))
    refine ryA [12] ?_
    refine rA1 fun K hK => ?_
    have oM : ∀ z, z ≠ wr.heap.size → ((((((w4w2.setCell ⟨wr.heap.size, 6, none⟩ (.int .i64 zk)).setCell ⟨wr.heap.size, 7, none⟩ (.bool zb)).setCell ⟨wr.heap.size, 8, none⟩ (.int .i64 zi)).setCell ⟨wr.heap.size, 9, none⟩ (.string zs)).setCell ⟨wr.heap.size, 10, none⟩ (.slice zal znl zcl)).setCell ⟨wr.heap.size, 11, none⟩ (.slice zam znm zcm)).drew.heap[z]? = w4w2.heap[z]? := fun z hz => (drew_at _ z).trans (by
     rw [set_other hz, set_other hz, set_other hz, set_other hz, set_other hz, set_other hz])
    have oE : ∀ z, z ≠ wr.heap.size → (((((((w4w2.setCell ⟨wr.heap.size, 6, none⟩ (.int .i64 zk)).setCell ⟨wr.heap.size, 7, none⟩ (.bool zb)).setCell ⟨wr.heap.size, 8, none⟩ (.int .i64 zi)).setCell ⟨wr.heap.size, 9, none⟩ (.string zs)).setCell ⟨wr.heap.size, 10, none⟩ (.slice zal znl zcl)).setCell ⟨wr.heap.size, 11, none⟩ (.slice zam znm zcm)).setCell ⟨wr.heap.size, 13, none⟩ (.bool true)).drew.heap[z]? = w4w2.heap[z]? := fun z hz => (drew_at _ z).trans (by
     rw [set_other hz, set_other hz, set_other hz, set_other hz, set_other hz, set_other hz, set_other hz])
    have gE := fillBo0 w4w2 wr.heap.size (.int .i64 zk) (.bool zb) (.int .i64 zi) (.string zs) (.slice zal znl zcl) (.slice zam znm zcm) (.bool true)
    have hxw5w2 := (drew_at _ _).trans (fillB0 hxw4w2 (.int .i64 zk) (.bool zb) (.int .i64 zi) (.string zs) (.slice zal znl zcl) (.slice zam znm zcm) (.bool true))
    go_simp
    refine hK.out _ _ ⟨(World.cell?_of_block (w := w4w2) (a := ⟨A2, 0, none⟩) (oM A2 (by omega))).trans k1, k2.keep (oM bb (by omega))⟩ (fun hHeld => ?_)
    clear hK K
    (try simp only [Act.put, zA, zB, zC])
    (refine tjA 13 ?_; (try simp only [Act.put, zA, zB, zC]))
    refine ryA [14] ?_
    refine rA1 fun K hK => ?_
    go_simp
    refine hK.out _ _ ⟨(World.cell?_of_block (w := w4w2) (a := ⟨A2, 0, none⟩) (oE A2 (by omega))).trans k1, k2.keep (oE bb (by omega))⟩ (fun hHeld => ?_)
    clear hK K
    (try simp only [Act.put, zA, zB, zC])
    refine wpAnyH_done (by kernel_rfl) ?_ _
    (try dsimp only [Act.put, List.getElem_toArray, List.getElem_cons_succ, List.getElem_cons_zero, List.setIfInBounds_toArray, List.set_cons_zero, List.set_cons_succ])
    have hzw5w2 : w4w2.heap.size ≤ (((((((w4w2.setCell ⟨wr.heap.size, 6, none⟩ (.int .i64 zk)).setCell ⟨wr.heap.size, 7, none⟩ (.bool zb)).setCell ⟨wr.heap.size, 8, none⟩ (.int .i64 zi)).setCell ⟨wr.heap.size, 9, none⟩ (.string zs)).setCell ⟨wr.heap.size, 10, none⟩ (.slice zal znl zcl)).setCell ⟨wr.heap.size, 11, none⟩ (.slice zam znm zcm)).setCell ⟨wr.heap.size, 13, none⟩ (.bool true)).drew.heap.size := by rw [drew_sz, gE.2]; exact Nat.le_refl _
    have Bw5w2 : Kx n0 vx w (((((((w4w2.setCell ⟨wr.heap.size, 6, none⟩ (.int .i64 zk)).setCell ⟨wr.heap.size, 7, none⟩ (.bool zb)).setCell ⟨wr.heap.size, 8, none⟩ (.int .i64 zi)).setCell ⟨wr.heap.size, 9, none⟩ (.string zs)).setCell ⟨wr.heap.size, 10, none⟩ (.slice zal znl zcl)).setCell ⟨wr.heap.size, 11, none⟩ (.slice zam znm zcm)).setCell ⟨wr.heap.size, 13, none⟩ (.bool true)).drew := Bw4w2.trans (kx_of ((Below.refl n0 _).grown gE.1 (by omega) (fun q e => by cases e; omega)).drew)
    have Rw5w2 : Below wr.heap.size wr (((((((w4w2.setCell ⟨wr.heap.size, 6, none⟩ (.int .i64 zk)).setCell ⟨wr.heap.size, 7, none⟩ (.bool zb)).setCell ⟨wr.heap.size, 8, none⟩ (.int .i64 zi)).setCell ⟨wr.heap.size, 9, none⟩ (.string zs)).setCell ⟨wr.heap.size, 10, none⟩ (.slice zal znl zcl)).setCell ⟨wr.heap.size, 11, none⟩ (.slice zam znm zcm)).setCell ⟨wr.heap.size, 13, none⟩ (.bool true)).drew := (Rw4w2.grown gE.1 (by omega) (fun q e => by cases e; omega)).drew
    clear hHeld oM oE gE k1 k2 fx x0 x1 x2 x3 x4 x5 x6 x7 x8 x9 x10 x11 x12 x13
    generalize (((((((w4w2.setCell ⟨wr.heap.size, 6, none⟩ (.int .i64 zk)).setCell ⟨wr.heap.size, 7, none⟩ (.bool zb)).setCell ⟨wr.heap.size, 8, none⟩ (.int .i64 zi)).setCell ⟨wr.heap.size, 9, none⟩ (.string zs)).setCell ⟨wr.heap.size, 10, none⟩ (.slice zal znl zcl)).setCell ⟨wr.heap.size, 11, none⟩ (.slice zam znm zcm)).setCell ⟨wr.heap.size, 13, none⟩ (.bool true)).drew = w5w2 at *
    have x0 : w5w2.cell? ⟨wr.heap.size, 0, none⟩ = some (.int .i64 0) := by rw [cell_of_block hxw5w2]; rfl
    have x1 : w5w2.cell? ⟨wr.heap.size, 1, none⟩ = some (.bool false) := by rw [cell_of_block hxw5w2]; rfl
    have x2 : w5w2.cell? ⟨wr.heap.size, 2, none⟩ = some (.int .i64 0) := by rw [cell_of_block hxw5w2]; rfl
    have x3 : w5w2.cell? ⟨wr.heap.size, 3, none⟩ = some (.string ⟨#[]⟩) := by rw [cell_of_block hxw5w2]; rfl
    have x4 : w5w2.cell? ⟨wr.heap.size, 4, none⟩ = some (.slice none 0 0) := by rw [cell_of_block hxw5w2]; rfl
    have x5 : w5w2.cell? ⟨wr.heap.size, 5, none⟩ = some (.slice none 0 0) := by rw [cell_of_block hxw5w2]; rfl
    have x6 : w5w2.cell? ⟨wr.heap.size, 6, none⟩ = some (.int .i64 zk) := by rw [cell_of_block hxw5w2]; rfl
    have x7 : w5w2.cell? ⟨wr.heap.size, 7, none⟩ = some (.bool zb) := by rw [cell_of_block hxw5w2]; rfl
    have x8 : w5w2.cell? ⟨wr.heap.size, 8, none⟩ = some (.int .i64 zi) := by rw [cell_of_block hxw5w2]; rfl
    have x9 : w5w2.cell? ⟨wr.heap.size, 9, none⟩ = some (.string zs) := by rw [cell_of_block hxw5w2]; rfl
    have x10 : w5w2.cell? ⟨wr.heap.size, 10, none⟩ = some (.slice zal znl zcl) := by rw [cell_of_block hxw5w2]; rfl
    have x11 : w5w2.cell? ⟨wr.heap.size, 11, none⟩ = some (.slice zam znm zcm) := by rw [cell_of_block hxw5w2]; rfl
    have x12 : w5w2.cell? ⟨wr.heap.size, 12, none⟩ = some (.bool false) := by rw [cell_of_block hxw5w2]; rfl
    have x13 : w5w2.cell? ⟨wr.heap.size, 13, none⟩ = some (.bool true) := by rw [cell_of_block hxw5w2]; rfl
    have hjk : J pre w5w2 := hJ _ _ _ none hj ⟨Rw5w2.os, Rw5w2.tape, Rw5w2.output, Rw5w2.size, fun q hq _ => Rw5w2.block q hq⟩ (fun r e => by cases e)
    obtain ⟨fn, tmps, assign, body, hy, hR⟩ := hY pre x rest w5w2 hx hjk
    have hen : x.enc = #[.string zkey, .agg #[.int .i64 0, .bool false, .int .i64 0, .string ⟨#[]⟩, .slice none 0 0, .slice none 0 0, .int .i64 zk, .bool zb, .int .i64 zi, .string zs, .slice zal znl zcl, .slice zam znm zcm, .bool false, .bool true]] := by rw [hxv]; rfl
    rw [hen] at hy
    clear hen hjk
    gi_wp2
    refine ⟨fun h => (by cases h), hR.mono ?_⟩
    rintro e W3 (⟨rfl, hJ3, hk3⟩ | ⟨ch, rfl, hJp3⟩)
    ·gi_wp2
     go_roundw
     case rel => exact ⟨qa.length + 0, k + 1, pre ++ [x], rest, by omega, by omega, rfl, by go_num, hmk (by rw [hx]; simp), hrs, Bw5w2.trans hk3, hJ3⟩
     case measure => simp [RowKit.intOf]; omega
    ·gi_wp2
     first | exact ⟨rfl, .inr ⟨ch, pre ++ [x], rest, rfl, by rw [hx]; simp, hJp3⟩⟩ | exact .inr ⟨ch, pre ++ [x], rest, rfl, by rw [hx]; simp, hJp3⟩ | exact .inr ⟨pre ++ [x], ⟨rest, by rw [← hxs, hx]; simp⟩, hJp3⟩ | exact PANHERE
  ·have y1 : (i : Int) < qa.length := by omega
   have y4 : ¬ (i : Int) = qa.length := by omega
   have y4b : ((i : Int) == (qa.length : Int)) = false := beq_eq_false_iff_ne.2 y4
   by_cases hk2 : k < qb.length
   rotate_left
   ·obtain rfl : k = qb.length := by omega
    have y2 : ¬ (qb.length : Int) < qb.length := by omega
    have y2b : decide ((qb.length : Int) < (qb.length : Int)) = false := decide_eq_false y2
    have y3b : ((qb.length : Int) == (qb.length : Int)) = true := beq_self_eq_true _
    obtain ⟨rfl, hba, hbav⟩ := ha (by omega)
    obtain ⟨yk, yb, yi, ys, yal, ynl, ycl, yam, ynm, ycm, eya⟩ := ka qa[i] (List.getElem_mem hi2)
    have rowa := ra.row i (by simpa using hi2)
    rw [List.getElem_map, eya] at rowa
    have hdr : qa.drop i = qa[i] :: qa.drop (i + 1) := List.drop_eq_getElem_cons hi2
    rw [List.drop_length, hdr, tgR] at hr
    obtain ⟨x, rest, rfl, hxv, hrs⟩ := cons_of hr
    have hrs : rest = tgR (qa.drop (i + 1)) (qb.drop (qb.length + 0)) := by show rest = tgR (qa.drop (i + 1)) (qb.drop qb.length); rw [List.drop_length]; exact hrs
    rw [pA, eya] at hxv
    simp only [List.tail_cons] at hxv
    rcases hym : (qa[i]).1 with ⟨ykey, yv⟩
    rw [hym] at hxv rowa
    simp only at hxv rowa
    clear hr eya hym hdr
    have Bw1 : Kx n0 vx w (wr.alloc (.cells #[.int .i64 0, .bool false, .int .i64 0, .string ⟨#[]⟩, .slice none 0 0, .slice none 0 0, .int .i64 0, .bool false, .int .i64 0, .string ⟨#[]⟩, .slice none 0 0, .slice none 0 0, .bool false, .bool false] 73)) := bw.trans (kx_of (((Below.refl _ wr).alloc (Nat.le_refl _) _).mono (Nat.le_trans hn0 bw.size)))
    have Rw1 : Below wr.heap.size wr (wr.alloc (.cells #[.int .i64 0, .bool false, .int .i64 0, .string ⟨#[]⟩, .slice none 0 0, .slice none 0 0, .int .i64 0, .bool false, .int .i64 0, .string ⟨#[]⟩, .slice none 0 0, .slice none 0 0, .bool false, .bool false] 73)) := (Below.refl _ wr).alloc (Nat.le_refl _) _
    have hxw1 := heap_alloc_new wr (.cells #[.int .i64 0, .bool false, .int .i64 0, .string ⟨#[]⟩, .slice none 0 0, .slice none 0 0, .int .i64 0, .bool false, .int .i64 0, .string ⟨#[]⟩, .slice none 0 0, .slice none 0 0, .bool false, .bool false] 73)
    have hzw1 : (wr.alloc (.cells #[.int .i64 0, .bool false, .int .i64 0, .string ⟨#[]⟩, .slice none 0 0, .slice none 0 0, .int .i64 0, .bool false, .int .i64 0, .string ⟨#[]⟩, .slice none 0 0, .slice none 0 0, .bool false, .bool false] 73)).heap.size = wr.heap.size + 1 := alloc_size _ _
    have hnr : n0 ≤ wr.heap.size := Nat.le_trans hn0 bw.size
    have p1 := (Bw1.cell (p := ⟨A1, 0, none⟩) hA1 hv1).trans h1
    have p2 := (Bw1.cell (p := ⟨A2, 0, none⟩) hA2 hv2).trans h2
    obtain ⟨ra_, ra0, ra1, ra2, ra3, ra4, ra5⟩ := row7 (rowa.keep (Bw1.block ba hba hbav))
    have s1 : ∀ z : Sub (wr.alloc (.cells #[.int .i64 0, .bool false, .int .i64 0, .string ⟨#[]⟩, .slice none 0 0, .slice none 0 0, .int .i64 0, .bool false, .int .i64 0, .string ⟨#[]⟩, .slice none 0 0, .slice none 0 0, .bool false, .bool false] 73)).heap.size (wr.alloc (.cells #[.int .i64 0, .bool false, .int .i64 0, .string ⟨#[]⟩, .slice none 0 0, .slice none 0 0, .int .i64 0, .bool false, .int .i64 0, .string ⟨#[]⟩, .slice none 0 0, .slice none 0 0, .bool false, .bool false] 73)), _ := sub_cell p1 (by show A1 < _; omega)
    have s2 : ∀ z : Sub (wr.alloc (.cells #[.int .i64 0, .bool false, .int .i64 0, .string ⟨#[]⟩, .slice none 0 0, .slice none 0 0, .int .i64 0, .bool false, .int .i64 0, .string ⟨#[]⟩, .slice none 0 0, .slice none 0 0, .bool false, .bool false] 73)).heap.size (wr.alloc (.cells #[.int .i64 0, .bool false, .int .i64 0, .string ⟨#[]⟩, .slice none 0 0, .slice none 0 0, .int .i64 0, .bool false, .int .i64 0, .string ⟨#[]⟩, .slice none 0 0, .slice none 0 0, .bool false, .bool false] 73)), _ := sub_cell p2 (by show A2 < _; omega)
    have sa_ : ∀ z : Sub (wr.alloc (.cells #[.int .i64 0, .bool false, .int .i64 0, .string ⟨#[]⟩, .slice none 0 0, .slice none 0 0, .int .i64 0, .bool false, .int .i64 0, .string ⟨#[]⟩, .slice none 0 0, .slice none 0 0, .bool false, .bool false] 73)).heap.size (wr.alloc (.cells #[.int .i64 0, .bool false, .int .i64 0, .string ⟨#[]⟩, .slice none 0 0, .slice none 0 0, .int .i64 0, .bool false, .int .i64 0, .string ⟨#[]⟩, .slice none 0 0, .slice none 0 0, .bool false, .bool false] 73)), _ := sub_cell ra_ (by show ba < _; omega)
    have sa0 : ∀ z : Sub (wr.alloc (.cells #[.int .i64 0, .bool false, .int .i64 0, .string ⟨#[]⟩, .slice none 0 0, .slice none 0 0, .int .i64 0, .bool false, .int .i64 0, .string ⟨#[]⟩, .slice none 0 0, .slice none 0 0, .bool false, .bool false] 73)).heap.size (wr.alloc (.cells #[.int .i64 0, .bool false, .int .i64 0, .string ⟨#[]⟩, .slice none 0 0, .slice none 0 0, .int .i64 0, .bool false, .int .i64 0, .string ⟨#[]⟩, .slice none 0 0, .slice none 0 0, .bool false, .bool false] 73)), _ := sub_cell ra0 (by show ba < _; omega)
    have sa1 : ∀ z : Sub (wr.alloc (.cells #[.int .i64 0, .bool false, .int .i64 0, .string ⟨#[]⟩, .slice none 0 0, .slice none 0 0, .int .i64 0, .bool false, .int .i64 0, .string ⟨#[]⟩, .slice none 0 0, .slice none 0 0, .bool false, .bool false] 73)).heap.size (wr.alloc (.cells #[.int .i64 0, .bool false, .int .i64 0, .string ⟨#[]⟩, .slice none 0 0, .slice none 0 0, .int .i64 0, .bool false, .int .i64 0, .string ⟨#[]⟩, .slice none 0 0, .slice none 0 0, .bool false, .bool false] 73)), _ := sub_cell ra1 (by show ba < _; omega)
    have sa2 : ∀ z : Sub (wr.alloc (.cells #[.int .i64 0, .bool false, .int .i64 0, .string ⟨#[]⟩, .slice none 0 0, .slice none 0 0, .int .i64 0, .bool false, .int .i64 0, .string ⟨#[]⟩, .slice none 0 0, .slice none 0 0, .bool false, .bool false] 73)).heap.size (wr.alloc (.cells #[.int .i64 0, .bool false, .int .i64 0, .string ⟨#[]⟩, .slice none 0 0, .slice none 0 0, .int .i64 0, .bool false, .int .i64 0, .string ⟨#[]⟩, .slice none 0 0, .slice none 0 0, .bool false, .bool false] 73)), _ := sub_cell ra2 (by show ba < _; omega)
    have sa3 : ∀ z : Sub (wr.alloc (.cells #[.int .i64 0, .bool false, .int .i64 0, .string ⟨#[]⟩, .slice none 0 0, .slice none 0 0, .int .i64 0, .bool false, .int .i64 0, .string ⟨#[]⟩, .slice none 0 0, .slice none 0 0, .bool false, .bool false] 73)).heap.size (wr.alloc (.cells #[.int .i64 0, .bool false, .int .i64 0, .string ⟨#[]⟩, .slice none 0 0, .slice none 0 0, .int .i64 0, .bool false, .int .i64 0, .string ⟨#[]⟩, .slice none 0 0, .slice none 0 0, .bool false, .bool false] 73)), _ := sub_cell ra3 (by show ba < _; omega)
    have sa4 : ∀ z : Sub (wr.alloc (.cells #[.int .i64 0, .bool false, .int .i64 0, .string ⟨#[]⟩, .slice none 0 0, .slice none 0 0, .int .i64 0, .bool false, .int .i64 0, .string ⟨#[]⟩, .slice none 0 0, .slice none 0 0, .bool false, .bool false] 73)).heap.size (wr.alloc (.cells #[.int .i64 0, .bool false, .int .i64 0, .string ⟨#[]⟩, .slice none 0 0, .slice none 0 0, .int .i64 0, .bool false, .int .i64 0, .string ⟨#[]⟩, .slice none 0 0, .slice none 0 0, .bool false, .bool false] 73)), _ := sub_cell ra4 (by show ba < _; omega)
    have sa5 : ∀ z : Sub (wr.alloc (.cells #[.int .i64 0, .bool false, .int .i64 0, .string ⟨#[]⟩, .slice none 0 0, .slice none 0 0, .int .i64 0, .bool false, .int .i64 0, .string ⟨#[]⟩, .slice none 0 0, .slice none 0 0, .bool false, .bool false] 73)).heap.size (wr.alloc (.cells #[.int .i64 0, .bool false, .int .i64 0, .string ⟨#[]⟩, .slice none 0 0, .slice none 0 0, .int .i64 0, .bool false, .int .i64 0, .string ⟨#[]⟩, .slice none 0 0, .slice none 0 0, .bool false, .bool false] 73)), _ := sub_cell ra5 (by show ba < _; omega)
    gi_wp2
    clear c1 c2
    generalize (wr.alloc (.cells #[.int .i64 0, .bool false, .int .i64 0, .string ⟨#[]⟩, .slice none 0 0, .slice none 0 0, .int .i64 0, .bool false, .int .i64 0, .string ⟨#[]⟩, .slice none 0 0, .slice none 0 0, .bool false, .bool false] 73)) = w1 at *
    refine wpIn_wide.2 ?_
    refine wp_region_sub w1.heap.size (by kernel_rfl) (by kernel_rfl) ?_
    repeat (go_big_quiet_step (fail))
    refine wpQuiet_nil ?_
    rintro w2 ⟨⟨w2', bw2⟩, hj_⟩
    have hj_' : w2 = w2' := hj_
    subst hj_'
    clear hj_
    have hzw2 := bw2.size
    have Bw2 := Bw1.trans (kx_of (bw2.mono (by omega)))
    have Rw2 := Rw1.trans (bw2.mono (by omega))
    have hxw2 := (bw2.block wr.heap.size (by omega)).trans hxw1
    clear bw2
    clear p1 p2 s1 s2 ra_ sa_ ra0 sa0 ra1 sa1 ra2 sa2 ra3 sa3 ra4 sa4 ra5 sa5
    gi_wp2
    have k1 := (Bw2.cell (p := ⟨A1, 0, none⟩) hA1 hv1).trans h1
    have k2 := rowa.keep (Bw2.block ba hba hbav)
    have x0 : w2.cell? ⟨wr.heap.size, 0, none⟩ = some (.int .i64 0) := by rw [cell_of_block hxw2]; rfl
    have x1 : w2.cell? ⟨wr.heap.size, 1, none⟩ = some (.bool false) := by rw [cell_of_block hxw2]; rfl
    have x2 : w2.cell? ⟨wr.heap.size, 2, none⟩ = some (.int .i64 0) := by rw [cell_of_block hxw2]; rfl
    have x3 : w2.cell? ⟨wr.heap.size, 3, none⟩ = some (.string ⟨#[]⟩) := by rw [cell_of_block hxw2]; rfl
    have x4 : w2.cell? ⟨wr.heap.size, 4, none⟩ = some (.slice none 0 0) := by rw [cell_of_block hxw2]; rfl
    have x5 : w2.cell? ⟨wr.heap.size, 5, none⟩ = some (.slice none 0 0) := by rw [cell_of_block hxw2]; rfl
    have x6 : w2.cell? ⟨wr.heap.size, 6, none⟩ = some (.int .i64 0) := by rw [cell_of_block hxw2]; rfl
    have x7 : w2.cell? ⟨wr.heap.size, 7, none⟩ = some (.bool false) := by rw [cell_of_block hxw2]; rfl
    have x8 : w2.cell? ⟨wr.heap.size, 8, none⟩ = some (.int .i64 0) := by rw [cell_of_block hxw2]; rfl
    have x9 : w2.cell? ⟨wr.heap.size, 9, none⟩ = some (.string ⟨#[]⟩) := by rw [cell_of_block hxw2]; rfl
    have x10 : w2.cell? ⟨wr.heap.size, 10, none⟩ = some (.slice none 0 0) := by rw [cell_of_block hxw2]; rfl
    have x11 : w2.cell? ⟨wr.heap.size, 11, none⟩ = some (.slice none 0 0) := by rw [cell_of_block hxw2]; rfl
    have x12 : w2.cell? ⟨wr.heap.size, 12, none⟩ = some (.bool false) := by rw [cell_of_block hxw2]; rfl
    have x13 : w2.cell? ⟨wr.heap.size, 13, none⟩ = some (.bool false) := by rw [cell_of_block hxw2]; rfl
    have fx := frozen_of_block hxw2
    refine wpIn_wide.2 ?_
    refine wp_region_held_drew (S := (fun W => W.cell? ⟨A1, 0, none⟩ = some (.slice (some ⟨ba, oa, none⟩) qa.length ca) ∧ rowAt W ba (oa + i * 7) (.string ykey :: [.int .i64 yk, .bool yb, .int .i64 yi, .string ys, .slice yal ynl ycl, .slice yam ynm ycm]))) (by kernel_rfl) ⟨k1, k2⟩ (fun hHeld => ?_)
    (refine tkA 0 ?_ ?_ ?_; rotate_left 1; (intro W0 hSw; (have o9 := hSw.1); go_simp; (try with_reducible rfl)); (try simp only [Act.put, zA, zB, zC]))
    (refine tjA 1 ?_; (try simp only [Act.put, zA, zB, zC]))
    (refine tjA 2 ?_; (try simp only [Act.put, zA, zB, zC]))
    (refine tjA 3 ?_; (try simp only [Act.put, zA, zB, zC]))
    (refine tkA 4 ?_ ?_ ?_; rotate_left 1; (intro W0 hSw; (obtain ⟨o_, o0, o1, o2, o3, o4, o5⟩ := row7 hSw.2); go_simp; (try with_reducible rfl)); (try simp only [Act.put, zA, zB, zC]))
    (refine tkA 5 ?_ ?_ ?_; rotate_left 1; (intro W0 hSw; (have o9 := hSw.1); go_simp; (try with_reducible rfl)); (try simp only [Act.put, zA, zB, zC]))
    (refine tjA 6 ?_; (try simp only [Act.put, zA, zB, zC]))
    (refine tjA 7 ?_; (try simp only [Act.put, zA, zB, zC]))
    (refine tjA 8 ?_; (try simp only [Act.put, zA, zB, zC]))
    (refine tkA 9 ?_ ?_ ?_; rotate_left 1; (intro W0 hSw; (obtain ⟨o_, o0, o1, o2, o3, o4, o5⟩ := row7 hSw.2); go_simp; (try with_reducible rfl)); (try simp only [Act.put, zA, zB, zC]))
    (refine tjA 10 ?_; (try simp only [Act.put, zA, zB, zC]))
    (refine tjA 11 ?_; (try simp only [Act.put, zA, zB, zC]))
    refine ryA [12] ?_
    refine rA1 fun K hK => ?_
    have oM : ∀ z, z ≠ wr.heap.size → ((((((w2.setCell ⟨wr.heap.size, 0, none⟩ (.int .i64 yk)).setCell ⟨wr.heap.size, 1, none⟩ (.bool yb)).setCell ⟨wr.heap.size, 2, none⟩ (.int .i64 yi)).setCell ⟨wr.heap.size, 3, none⟩ (.string ys)).setCell ⟨wr.heap.size, 4, none⟩ (.slice yal ynl ycl)).setCell ⟨wr.heap.size, 5, none⟩ (.slice yam ynm ycm)).drew.heap[z]? = w2.heap[z]? := fun z hz => (drew_at _ z).trans (by
     rw [set_other hz, set_other hz, set_other hz, set_other hz, set_other hz, set_other hz])
    have oE : ∀ z, z ≠ wr.heap.size → (((((((w2.setCell ⟨wr.heap.size, 0, none⟩ (.int .i64 yk)).setCell ⟨wr.heap.size, 1, none⟩ (.bool yb)).setCell ⟨wr.heap.size, 2, none⟩ (.int .i64 yi)).setCell ⟨wr.heap.size, 3, none⟩ (.string ys)).setCell ⟨wr.heap.size, 4, none⟩ (.slice yal ynl ycl)).setCell ⟨wr.heap.size, 5, none⟩ (.slice yam ynm ycm)).setCell ⟨wr.heap.size, 12, none⟩ (.bool true)).drew.heap[z]? = w2.heap[z]? := fun z hz => (drew_at _ z).trans (by
     rw [set_other hz, set_other hz, set_other hz, set_other hz, set_other hz, set_other hz, set_other hz])
    have gE := fillAo0 w2 wr.heap.size (.int .i64 yk) (.bool yb) (.int .i64 yi) (.string ys) (.slice yal ynl ycl) (.slice yam ynm ycm) (.bool true)
    have hxw3 := (drew_at _ _).trans (fillA0 hxw2 (.int .i64 yk) (.bool yb) (.int .i64 yi) (.string ys) (.slice yal ynl ycl) (.slice yam ynm ycm) (.bool true))
    go_simp
    refine hK.out _ _ ⟨(World.cell?_of_block (w := w2) (a := ⟨A1, 0, none⟩) (oM A1 (by omega))).trans k1, k2.keep (oM ba (by omega))⟩ (fun hHeld => ?_)
    clear hK K
    (try simp only [Act.put, zA, zB, zC])
    (refine tjA 13 ?_; (try simp only [Act.put, zA, zB, zC]))
    refine ryA [14] ?_
    refine rA1 fun K hK => ?_
    go_simp
    refine hK.out _ _ ⟨(World.cell?_of_block (w := w2) (a := ⟨A1, 0, none⟩) (oE A1 (by omega))).trans k1, k2.keep (oE ba (by omega))⟩ (fun hHeld => ?_)
    clear hK K
    (try simp only [Act.put, zA, zB, zC])
    refine wpAnyH_done (by kernel_rfl) ?_ _
    (try dsimp only [Act.put, List.getElem_toArray, List.getElem_cons_succ, List.getElem_cons_zero, List.setIfInBounds_toArray, List.set_cons_zero, List.set_cons_succ])
    have hzw3 : w2.heap.size ≤ (((((((w2.setCell ⟨wr.heap.size, 0, none⟩ (.int .i64 yk)).setCell ⟨wr.heap.size, 1, none⟩ (.bool yb)).setCell ⟨wr.heap.size, 2, none⟩ (.int .i64 yi)).setCell ⟨wr.heap.size, 3, none⟩ (.string ys)).setCell ⟨wr.heap.size, 4, none⟩ (.slice yal ynl ycl)).setCell ⟨wr.heap.size, 5, none⟩ (.slice yam ynm ycm)).setCell ⟨wr.heap.size, 12, none⟩ (.bool true)).drew.heap.size := by rw [drew_sz, gE.2]; exact Nat.le_refl _
    have Bw3 : Kx n0 vx w (((((((w2.setCell ⟨wr.heap.size, 0, none⟩ (.int .i64 yk)).setCell ⟨wr.heap.size, 1, none⟩ (.bool yb)).setCell ⟨wr.heap.size, 2, none⟩ (.int .i64 yi)).setCell ⟨wr.heap.size, 3, none⟩ (.string ys)).setCell ⟨wr.heap.size, 4, none⟩ (.slice yal ynl ycl)).setCell ⟨wr.heap.size, 5, none⟩ (.slice yam ynm ycm)).setCell ⟨wr.heap.size, 12, none⟩ (.bool true)).drew := Bw2.trans (kx_of ((Below.refl n0 _).grown gE.1 (by omega) (fun q e => by cases e; omega)).drew)
    have Rw3 : Below wr.heap.size wr (((((((w2.setCell ⟨wr.heap.size, 0, none⟩ (.int .i64 yk)).setCell ⟨wr.heap.size, 1, none⟩ (.bool yb)).setCell ⟨wr.heap.size, 2, none⟩ (.int .i64 yi)).setCell ⟨wr.heap.size, 3, none⟩ (.string ys)).setCell ⟨wr.heap.size, 4, none⟩ (.slice yal ynl ycl)).setCell ⟨wr.heap.size, 5, none⟩ (.slice yam ynm ycm)).setCell ⟨wr.heap.size, 12, none⟩ (.bool true)).drew := (Rw2.grown gE.1 (by omega) (fun q e => by cases e; omega)).drew
    clear hHeld oM oE gE k1 k2 fx x0 x1 x2 x3 x4 x5 x6 x7 x8 x9 x10 x11 x12 x13
    generalize (((((((w2.setCell ⟨wr.heap.size, 0, none⟩ (.int .i64 yk)).setCell ⟨wr.heap.size, 1, none⟩ (.bool yb)).setCell ⟨wr.heap.size, 2, none⟩ (.int .i64 yi)).setCell ⟨wr.heap.size, 3, none⟩ (.string ys)).setCell ⟨wr.heap.size, 4, none⟩ (.slice yal ynl ycl)).setCell ⟨wr.heap.size, 5, none⟩ (.slice yam ynm ycm)).setCell ⟨wr.heap.size, 12, none⟩ (.bool true)).drew = w3 at *
    have p1 := (Bw3.cell (p := ⟨A1, 0, none⟩) hA1 hv1).trans h1
    have p2 := (Bw3.cell (p := ⟨A2, 0, none⟩) hA2 hv2).trans h2
    obtain ⟨ra_, ra0, ra1, ra2, ra3, ra4, ra5⟩ := row7 (rowa.keep (Bw3.block ba hba hbav))
    have s1 : ∀ z : Sub w3.heap.size w3, _ := sub_cell p1 (by show A1 < _; omega)
    have s2 : ∀ z : Sub w3.heap.size w3, _ := sub_cell p2 (by show A2 < _; omega)
    have sa_ : ∀ z : Sub w3.heap.size w3, _ := sub_cell ra_ (by show ba < _; omega)
    have sa0 : ∀ z : Sub w3.heap.size w3, _ := sub_cell ra0 (by show ba < _; omega)
    have sa1 : ∀ z : Sub w3.heap.size w3, _ := sub_cell ra1 (by show ba < _; omega)
    have sa2 : ∀ z : Sub w3.heap.size w3, _ := sub_cell ra2 (by show ba < _; omega)
    have sa3 : ∀ z : Sub w3.heap.size w3, _ := sub_cell ra3 (by show ba < _; omega)
    have sa4 : ∀ z : Sub w3.heap.size w3, _ := sub_cell ra4 (by show ba < _; omega)
    have sa5 : ∀ z : Sub w3.heap.size w3, _ := sub_cell ra5 (by show ba < _; omega)
    gi_wp2
    refine wpIn_wide.2 ?_
    refine wp_region_sub w3.heap.size (by kernel_rfl) (by kernel_rfl) ?_
    repeat (go_big_quiet_step (fail))
    refine wpQuiet_nil ?_
    rintro w4w3 ⟨⟨w4w3', bw4w3⟩, hj_⟩
    have hj_' : w4w3 = w4w3' := hj_
    subst hj_'
    clear hj_
    have hzw4w3 := bw4w3.size
    have Bw4w3 := Bw3.trans (kx_of (bw4w3.mono (by omega)))
    have Rw4w3 := Rw3.trans (bw4w3.mono (by omega))
    have hxw4w3 := (bw4w3.block wr.heap.size (by omega)).trans hxw3
    clear bw4w3
    clear p1 p2 s1 s2 ra_ sa_ ra0 sa0 ra1 sa1 ra2 sa2 ra3 sa3 ra4 sa4 ra5 sa5
    have x0 : w4w3.cell? ⟨wr.heap.size, 0, none⟩ = some (.int .i64 yk) := by rw [cell_of_block hxw4w3]; rfl
    have x1 : w4w3.cell? ⟨wr.heap.size, 1, none⟩ = some (.bool yb) := by rw [cell_of_block hxw4w3]; rfl
    have x2 : w4w3.cell? ⟨wr.heap.size, 2, none⟩ = some (.int .i64 yi) := by rw [cell_of_block hxw4w3]; rfl
    have x3 : w4w3.cell? ⟨wr.heap.size, 3, none⟩ = some (.string ys) := by rw [cell_of_block hxw4w3]; rfl
    have x4 : w4w3.cell? ⟨wr.heap.size, 4, none⟩ = some (.slice yal ynl ycl) := by rw [cell_of_block hxw4w3]; rfl
    have x5 : w4w3.cell? ⟨wr.heap.size, 5, none⟩ = some (.slice yam ynm ycm) := by rw [cell_of_block hxw4w3]; rfl
    have x6 : w4w3.cell? ⟨wr.heap.size, 6, none⟩ = some (.int .i64 0) := by rw [cell_of_block hxw4w3]; rfl
    have x7 : w4w3.cell? ⟨wr.heap.size, 7, none⟩ = some (.bool false) := by rw [cell_of_block hxw4w3]; rfl
    have x8 : w4w3.cell? ⟨wr.heap.size, 8, none⟩ = some (.int .i64 0) := by rw [cell_of_block hxw4w3]; rfl
    have x9 : w4w3.cell? ⟨wr.heap.size, 9, none⟩ = some (.string ⟨#[]⟩) := by rw [cell_of_block hxw4w3]; rfl
    have x10 : w4w3.cell? ⟨wr.heap.size, 10, none⟩ = some (.slice none 0 0) := by rw [cell_of_block hxw4w3]; rfl
    have x11 : w4w3.cell? ⟨wr.heap.size, 11, none⟩ = some (.slice none 0 0) := by rw [cell_of_block hxw4w3]; rfl
    have x12 : w4w3.cell? ⟨wr.heap.size, 12, none⟩ = some (.bool true) := by rw [cell_of_block hxw4w3]; rfl
    have x13 : w4w3.cell? ⟨wr.heap.size, 13, none⟩ = some (.bool false) := by rw [cell_of_block hxw4w3]; rfl
    have hjk : J pre w4w3 := hJ _ _ _ none hj ⟨Rw4w3.os, Rw4w3.tape, Rw4w3.output, Rw4w3.size, fun q hq _ => Rw4w3.block q hq⟩ (fun r e => by cases e)
    obtain ⟨fn, tmps, assign, body, hy, hR⟩ := hY pre x rest w4w3 hx hjk
    have hen : x.enc = #[.string ykey, .agg #[.int .i64 yk, .bool yb, .int .i64 yi, .string ys, .slice yal ynl ycl, .slice yam ynm ycm, .int .i64 0, .bool false, .int .i64 0, .string ⟨#[]⟩, .slice none 0 0, .slice none 0 0, .bool true, .bool false]] := by rw [hxv]; rfl
    rw [hen] at hy
    clear hen hjk
    gi_wp2
    refine ⟨fun h => (by cases h), hR.mono ?_⟩
    rintro e W3 (⟨rfl, hJ3, hk3⟩ | ⟨ch, rfl, hJp3⟩)
    ·gi_wp2
     go_roundw
     case rel => exact ⟨i + 1, qb.length + 0, pre ++ [x], rest, by omega, by omega, by go_num, rfl, hmk (by rw [hx]; simp), hrs, Bw4w3.trans hk3, hJ3⟩
     case measure => simp [RowKit.intOf]; omega
    ·gi_wp2
     first | exact ⟨rfl, .inr ⟨ch, pre ++ [x], rest, rfl, by rw [hx]; simp, hJp3⟩⟩ | exact .inr ⟨ch, pre ++ [x], rest, rfl, by rw [hx]; simp, hJp3⟩ | exact .inr ⟨pre ++ [x], ⟨rest, by rw [← hxs, hx]; simp⟩, hJp3⟩ | exact PANHERE
   ·have y2 : (k : Int) < qb.length := by omega
    have y3 : ¬ (k : Int) = qb.length := by omega
    have y3b : ((k : Int) == (qb.length : Int)) = false := beq_eq_false_iff_ne.2 y3
    by_cases q1 : ltB (qa[i]).1.1 (qb[k]).1.1 = true
    rotate_left
    ·by_cases q2 : ltB (qb[k]).1.1 (qa[i]).1.1 = true
     rotate_left
     ·have q3 : (qa[i]).1.1.toList = (qb[k]).1.1.toList := by
       by_cases h : (qa[i]).1.1.toList = (qb[k]).1.1.toList
       ·exact h
       ·exact absurd (ltB_tri _ _ (by simpa using q1) h) q2
      obtain ⟨rfl, hba, hbav⟩ := ha (by omega)
      obtain ⟨yk, yb, yi, ys, yal, ynl, ycl, yam, ynm, ycm, eya⟩ := ka qa[i] (List.getElem_mem hi2)
      have rowa := ra.row i (by simpa using hi2)
      rw [List.getElem_map, eya] at rowa
      obtain ⟨rfl, hbb, hbbv⟩ := hb (by omega)
      obtain ⟨zk, zb, zi, zs, zal, znl, zcl, zam, znm, zcm, ezb⟩ := kb qb[k] (List.getElem_mem hk2)
      have rowb := rb.row k (by simpa using hk2)
      rw [List.getElem_map, ezb] at rowb
      have hda : qa.drop i = qa[i] :: qa.drop (i + 1) := List.drop_eq_getElem_cons hi2
      have hdb : qb.drop k = qb[k] :: qb.drop (k + 1) := List.drop_eq_getElem_cons hk2
      rw [hda, hdb, tgR] at hr
      rw [if_neg q1, if_neg q2] at hr
      obtain ⟨x, rest, rfl, hxv, hrs⟩ := cons_of hr
      have hrs : rest = tgR (qa.drop (i + 1)) (qb.drop (k + 1)) := by exact hrs
      rw [pAB, eya, ezb] at hxv
      simp only [List.tail_cons] at hxv
      rcases hym : (qa[i]).1 with ⟨ykey, yv⟩
      rcases hzm : (qb[k]).1 with ⟨zkey, zv⟩
      simp only [hym, hzm] at hxv rowa rowb q1 q2 q3
      have kL : Op.bytesLess ykey.toList zkey.toList = false := by simpa [ltB] using q1
      have kG : Op.bytesLess zkey.toList ykey.toList = false := by simpa [ltB] using q2
      have kE : (ykey.toList == zkey.toList) = true := beq_iff_eq.2 q3
      have kF : (zkey.toList == ykey.toList) = true := beq_iff_eq.2 q3.symm
      clear hr eya ezb hym hzm hda hdb q1 q2 q3
      have Bw1 : Kx n0 vx w (wr.alloc (.cells #[.int .i64 0, .bool false, .int .i64 0, .string ⟨#[]⟩, .slice none 0 0, .slice none 0 0, .int .i64 0, .bool false, .int .i64 0, .string ⟨#[]⟩, .slice none 0 0, .slice none 0 0, .bool false, .bool false] 73)) := bw.trans (kx_of (((Below.refl _ wr).alloc (Nat.le_refl _) _).mono (Nat.le_trans hn0 bw.size)))
      have Rw1 : Below wr.heap.size wr (wr.alloc (.cells #[.int .i64 0, .bool false, .int .i64 0, .string ⟨#[]⟩, .slice none 0 0, .slice none 0 0, .int .i64 0, .bool false, .int .i64 0, .string ⟨#[]⟩, .slice none 0 0, .slice none 0 0, .bool false, .bool false] 73)) := (Below.refl _ wr).alloc (Nat.le_refl _) _
      have hxw1 := heap_alloc_new wr (.cells #[.int .i64 0, .bool false, .int .i64 0, .string ⟨#[]⟩, .slice none 0 0, .slice none 0 0, .int .i64 0, .bool false, .int .i64 0, .string ⟨#[]⟩, .slice none 0 0, .slice none 0 0, .bool false, .bool false] 73)
      have hzw1 : (wr.alloc (.cells #[.int .i64 0, .bool false, .int .i64 0, .string ⟨#[]⟩, .slice none 0 0, .slice none 0 0, .int .i64 0, .bool false, .int .i64 0, .string ⟨#[]⟩, .slice none 0 0, .slice none 0 0, .bool false, .bool false] 73)).heap.size = wr.heap.size + 1 := alloc_size _ _
      have hnr : n0 ≤ wr.heap.size := Nat.le_trans hn0 bw.size
      have p1 := (Bw1.cell (p := ⟨A1, 0, none⟩) hA1 hv1).trans h1
      have p2 := (Bw1.cell (p := ⟨A2, 0, none⟩) hA2 hv2).trans h2
      obtain ⟨ra_, ra0, ra1, ra2, ra3, ra4, ra5⟩ := row7 (rowa.keep (Bw1.block ba hba hbav))
      obtain ⟨rb_, rb0, rb1, rb2, rb3, rb4, rb5⟩ := row7 (rowb.keep (Bw1.block bb hbb hbbv))
      have s1 : ∀ z : Sub (wr.alloc (.cells #[.int .i64 0, .bool false, .int .i64 0, .string ⟨#[]⟩, .slice none 0 0, .slice none 0 0, .int .i64 0, .bool false, .int .i64 0, .string ⟨#[]⟩, .slice none 0 0, .slice none 0 0, .bool false, .bool false] 73)).heap.size (wr.alloc (.cells #[.int .i64 0, .bool false, .int .i64 0, .string ⟨#[]⟩, .slice none 0 0, .slice none 0 0, .int .i64 0, .bool false, .int .i64 0, .string ⟨#[]⟩, .slice none 0 0, .slice none 0 0, .bool false, .bool false] 73)), _ := sub_cell p1 (by show A1 < _; omega)
      have s2 : ∀ z : Sub (wr.alloc (.cells #[.int .i64 0, .bool false, .int .i64 0, .string ⟨#[]⟩, .slice none 0 0, .slice none 0 0, .int .i64 0, .bool false, .int .i64 0, .string ⟨#[]⟩, .slice none 0 0, .slice none 0 0, .bool false, .bool false] 73)).heap.size (wr.alloc (.cells #[.int .i64 0, .bool false, .int .i64 0, .string ⟨#[]⟩, .slice none 0 0, .slice none 0 0, .int .i64 0, .bool false, .int .i64 0, .string ⟨#[]⟩, .slice none 0 0, .slice none 0 0, .bool false, .bool false] 73)), _ := sub_cell p2 (by show A2 < _; omega)
      have sa_ : ∀ z : Sub (wr.alloc (.cells #[.int .i64 0, .bool false, .int .i64 0, .string ⟨#[]⟩, .slice none 0 0, .slice none 0 0, .int .i64 0, .bool false, .int .i64 0, .string ⟨#[]⟩, .slice none 0 0, .slice none 0 0, .bool false, .bool false] 73)).heap.size (wr.alloc (.cells #[.int .i64 0, .bool false, .int .i64 0, .string ⟨#[]⟩, .slice none 0 0, .slice none 0 0, .int .i64 0, .bool false, .int .i64 0, .string ⟨#[]⟩, .slice none 0 0, .slice none 0 0, .bool false, .bool false] 73)), _ := sub_cell ra_ (by show ba < _; omega)
      have sa0 : ∀ z : Sub (wr.alloc (.cells #[.int .i64 0, .bool false, .int .i64 0, .string ⟨#[]⟩, .slice none 0 0, .slice none 0 0, .int .i64 0, .bool false, .int .i64 0, .string ⟨#[]⟩, .slice none 0 0, .slice none 0 0, .bool false, .bool false] 73)).heap.size (wr.alloc (.cells #[.int .i64 0, .bool false, .int .i64 0, .string ⟨#[]⟩, .slice none 0 0, .slice none 0 0, .int .i64 0, .bool false, .int .i64 0, .string ⟨#[]⟩, .slice none 0 0, .slice none 0 0, .bool false, .bool false] 73)), _ := sub_cell ra0 (by show ba < _; omega)
      have sa1 : ∀ z : Sub (wr.alloc (.cells #[.int .i64 0, .bool false, .int .i64 0, .string ⟨#[]⟩, .slice none 0 0, .slice none 0 0, .int .i64 0, .bool false, .int .i64 0, .string ⟨#[]⟩, .slice none 0 0, .slice none 0 0, .bool false, .bool false] 73)).heap.size (wr.alloc (.cells #[.int .i64 0, .bool false, .int .i64 0, .string ⟨#[]⟩, .slice none 0 0, .slice none 0 0, .int .i64 0, .bool false, .int .i64 0, .string ⟨#[]⟩, .slice none 0 0, .slice none 0 0, .bool false, .bool false] 73)), _ := sub_cell ra1 (by show ba < _; omega)
      have sa2 : ∀ z : Sub (wr.alloc (.cells #[.int .i64 0, .bool false, .int .i64 0, .string ⟨#[]⟩, .slice none 0 0, .slice none 0 0, .int .i64 0, .bool false, .int .i64 0, .string ⟨#[]⟩, .slice none 0 0, .slice none 0 0, .bool false, .bool false] 73)).heap.size (wr.alloc (.cells #[.int .i64 0, .bool false, .int .i64 0, .string ⟨#[]⟩, .slice none 0 0, .slice none 0 0, .int .i64 0, .bool false, .int .i64 0, .string ⟨#[]⟩, .slice none 0 0, .slice none 0 0, .bool false, .bool false] 73)), _ := sub_cell ra2 (by show ba < _; omega)
      have sa3 : ∀ z : Sub (wr.alloc (.cells #[.int .i64 0, .bool false, .int .i64 0, .string ⟨#[]⟩, .slice none 0 0, .slice none 0 0, .int .i64 0, .bool false, .int .i64 0, .string ⟨#[]⟩, .slice none 0 0, .slice none 0 0, .bool false, .bool false] 73)).heap.size (wr.alloc (.cells #[.int .i64 0, .bool false, .int .i64 0, .string ⟨#[]⟩, .slice none 0 0, .slice none 0 0, .int .i64 0, .bool false, .int .i64 0, .string ⟨#[]⟩, .slice none 0 0, .slice none 0 0, .bool false, .bool false] 73)), _ := sub_cell ra3 (by show ba < _; omega)
      have sa4 : ∀ z : Sub (wr.alloc (.cells #[.int .i64 0, .bool false, .int .i64 0, .string ⟨#[]⟩, .slice none 0 0, .slice none 0 0, .int .i64 0, .bool false, .int .i64 0, .string ⟨#[]⟩, .slice none 0 0, .slice none 0 0, .bool false, .bool false] 73)).heap.size (wr.alloc (.cells #[.int .i64 0, .bool false, .int .i64 0, .string ⟨#[]⟩, .slice none 0 0, .slice none 0 0, .int .i64 0, .bool false, .int .i64 0, .string ⟨#[]⟩, .slice none 0 0, .slice none 0 0, .bool false, .bool false] 73)), _ := sub_cell ra4 (by show ba < _; omega)
      have sa5 : ∀ z : Sub (wr.alloc (.cells #[.int .i64 0, .bool false, .int .i64 0, .string ⟨#[]⟩, .slice none 0 0, .slice none 0 0, .int .i64 0, .bool false, .int .i64 0, .string ⟨#[]⟩, .slice none 0 0, .slice none 0 0, .bool false, .bool false] 73)).heap.size (wr.alloc (.cells #[.int .i64 0, .bool false, .int .i64 0, .string ⟨#[]⟩, .slice none 0 0, .slice none 0 0, .int .i64 0, .bool false, .int .i64 0, .string ⟨#[]⟩, .slice none 0 0, .slice none 0 0, .bool false, .bool false] 73)), _ := sub_cell ra5 (by show ba < _; omega)
      have sb_ : ∀ z : Sub (wr.alloc (.cells #[.int .i64 0, .bool false, .int .i64 0, .string ⟨#[]⟩, .slice none 0 0, .slice none 0 0, .int .i64 0, .bool false, .int .i64 0, .string ⟨#[]⟩, .slice none 0 0, .slice none 0 0, .bool false, .bool false] 73)).heap.size (wr.alloc (.cells #[.int .i64 0, .bool false, .int .i64 0, .string ⟨#[]⟩, .slice none 0 0, .slice none 0 0, .int .i64 0, .bool false, .int .i64 0, .string ⟨#[]⟩, .slice none 0 0, .slice none 0 0, .bool false, .bool false] 73)), _ := sub_cell rb_ (by show bb < _; omega)
      have sb0 : ∀ z : Sub (wr.alloc (.cells #[.int .i64 0, .bool false, .int .i64 0, .string ⟨#[]⟩, .slice none 0 0, .slice none 0 0, .int .i64 0, .bool false, .int .i64 0, .string ⟨#[]⟩, .slice none 0 0, .slice none 0 0, .bool false, .bool false] 73)).heap.size (wr.alloc (.cells #[.int .i64 0, .bool false, .int .i64 0, .string ⟨#[]⟩, .slice none 0 0, .slice none 0 0, .int .i64 0, .bool false, .int .i64 0, .string ⟨#[]⟩, .slice none 0 0, .slice none 0 0, .bool false, .bool false] 73)), _ := sub_cell rb0 (by show bb < _; omega)
      have sb1 : ∀ z : Sub (wr.alloc (.cells #[.int .i64 0, .bool false, .int .i64 0, .string ⟨#[]⟩, .slice none 0 0, .slice none 0 0, .int .i64 0, .bool false, .int .i64 0, .string ⟨#[]⟩, .slice none 0 0, .slice none 0 0, .bool false, .bool false] 73)).heap.size (wr.alloc (.cells #[.int .i64 0, .bool false, .int .i64 0, .string ⟨#[]⟩, .slice none 0 0, .slice none 0 0, .int .i64 0, .bool false, .int .i64 0, .string ⟨#[]⟩, .slice none 0 0, .slice none 0 0, .bool false, .bool false] 73)), _ := sub_cell rb1 (by show bb < _; omega)
      have sb2 : ∀ z : Sub (wr.alloc (.cells #[.int .i64 0, .bool false, .int .i64 0, .string ⟨#[]⟩, .slice none 0 0, .slice none 0 0, .int .i64 0, .bool false, .int .i64 0, .string ⟨#[]⟩, .slice none 0 0, .slice none 0 0, .bool false, .bool false] 73)).heap.size (wr.alloc (.cells #[.int .i64 0, .bool false, .int .i64 0, .string ⟨#[]⟩, .slice none 0 0, .slice none 0 0, .int .i64 0, .bool false, .int .i64 0, .string ⟨#[]⟩, .slice none 0 0, .slice none 0 0, .bool false, .bool false] 73)), _ := sub_cell rb2 (by show bb < _; omega)
      have sb3 : ∀ z : Sub (wr.alloc (.cells #[.int .i64 0, .bool false, .int .i64 0, .string ⟨#[]⟩, .slice none 0 0, .slice none 0 0, .int .i64 0, .bool false, .int .i64 0, .string ⟨#[]⟩, .slice none 0 0, .slice none 0 0, .bool false, .bool false] 73)).heap.size (wr.alloc (.cells #[.int .i64 0, .bool false, .int .i64 0, .string ⟨#[]⟩, .slice none 0 0, .slice none 0 0, .int .i64 0, .bool false, .int .i64 0, .string ⟨#[]⟩, .slice none 0 0, .slice none 0 0, .bool false, .bool false] 73)), _ := sub_cell rb3 (by show bb < _; omega)
      have sb4 : ∀ z : Sub (wr.alloc (.cells #[.int .i64 0, .bool false, .int .i64 0, .string ⟨#[]⟩, .slice none 0 0, .slice none 0 0, .int .i64 0, .bool false, .int .i64 0, .string ⟨#[]⟩, .slice none 0 0, .slice none 0 0, .bool false, .bool false] 73)).heap.size (wr.alloc (.cells #[.int .i64 0, .bool false, .int .i64 0, .string ⟨#[]⟩, .slice none 0 0, .slice none 0 0, .int .i64 0, .bool false, .int .i64 0, .string ⟨#[]⟩, .slice none 0 0, .slice none 0 0, .bool false, .bool false] 73)), _ := sub_cell rb4 (by show bb < _; omega)
      have sb5 : ∀ z : Sub (wr.alloc (.cells #[.int .i64 0, .bool false, .int .i64 0, .string ⟨#[]⟩, .slice none 0 0, .slice none 0 0, .int .i64 0, .bool false, .int .i64 0, .string ⟨#[]⟩, .slice none 0 0, .slice none 0 0, .bool false, .bool false] 73)).heap.size (wr.alloc (.cells #[.int .i64 0, .bool false, .int .i64 0, .string ⟨#[]⟩, .slice none 0 0, .slice none 0 0, .int .i64 0, .bool false, .int .i64 0, .string ⟨#[]⟩, .slice none 0 0, .slice none 0 0, .bool false, .bool false] 73)), _ := sub_cell rb5 (by show bb < _; omega)
      gi_wp2
      clear c1 c2
      generalize (wr.alloc (.cells #[.int .i64 0, .bool false, .int .i64 0, .string ⟨#[]⟩, .slice none 0 0, .slice none 0 0, .int .i64 0, .bool false, .int .i64 0, .string ⟨#[]⟩, .slice none 0 0, .slice none 0 0, .bool false, .bool false] 73)) = w1 at *
      refine wpIn_wide.2 ?_
      refine wp_region_sub w1.heap.size (by kernel_rfl) (by kernel_rfl) ?_
      repeat (go_big_quiet_step (fail))
      refine wpQuiet_nil ?_
      rintro w2 ⟨⟨w2', bw2⟩, hj_⟩
      have hj_' : w2 = w2' := hj_
      subst hj_'
      clear hj_
      have hzw2 := bw2.size
      have Bw2 := Bw1.trans (kx_of (bw2.mono (by omega)))
      have Rw2 := Rw1.trans (bw2.mono (by omega))
      have hxw2 := (bw2.block wr.heap.size (by omega)).trans hxw1
      clear bw2
      clear p1 p2 s1 s2 ra_ sa_ rb_ sb_ ra0 sa0 rb0 sb0 ra1 sa1 rb1 sb1 ra2 sa2 rb2 sb2 ra3 sa3 rb3 sb3 ra4 sa4 rb4 sb4 ra5 sa5 rb5 sb5
      gi_wp2
      have k1 := (Bw2.cell (p := ⟨A1, 0, none⟩) hA1 hv1).trans h1
      have k2 := rowa.keep (Bw2.block ba hba hbav)
      have x0 : w2.cell? ⟨wr.heap.size, 0, none⟩ = some (.int .i64 0) := by rw [cell_of_block hxw2]; rfl
      have x1 : w2.cell? ⟨wr.heap.size, 1, none⟩ = some (.bool false) := by rw [cell_of_block hxw2]; rfl
      have x2 : w2.cell? ⟨wr.heap.size, 2, none⟩ = some (.int .i64 0) := by rw [cell_of_block hxw2]; rfl
      have x3 : w2.cell? ⟨wr.heap.size, 3, none⟩ = some (.string ⟨#[]⟩) := by rw [cell_of_block hxw2]; rfl
      have x4 : w2.cell? ⟨wr.heap.size, 4, none⟩ = some (.slice none 0 0) := by rw [cell_of_block hxw2]; rfl
      have x5 : w2.cell? ⟨wr.heap.size, 5, none⟩ = some (.slice none 0 0) := by rw [cell_of_block hxw2]; rfl
      have x6 : w2.cell? ⟨wr.heap.size, 6, none⟩ = some (.int .i64 0) := by rw [cell_of_block hxw2]; rfl
      have x7 : w2.cell? ⟨wr.heap.size, 7, none⟩ = some (.bool false) := by rw [cell_of_block hxw2]; rfl
      have x8 : w2.cell? ⟨wr.heap.size, 8, none⟩ = some (.int .i64 0) := by rw [cell_of_block hxw2]; rfl
      have x9 : w2.cell? ⟨wr.heap.size, 9, none⟩ = some (.string ⟨#[]⟩) := by rw [cell_of_block hxw2]; rfl
      have x10 : w2.cell? ⟨wr.heap.size, 10, none⟩ = some (.slice none 0 0) := by rw [cell_of_block hxw2]; rfl
      have x11 : w2.cell? ⟨wr.heap.size, 11, none⟩ = some (.slice none 0 0) := by rw [cell_of_block hxw2]; rfl
      have x12 : w2.cell? ⟨wr.heap.size, 12, none⟩ = some (.bool false) := by rw [cell_of_block hxw2]; rfl
      have x13 : w2.cell? ⟨wr.heap.size, 13, none⟩ = some (.bool false) := by rw [cell_of_block hxw2]; rfl
      have fx := frozen_of_block hxw2
      refine wpIn_wide.2 ?_
      refine wp_region_held_drew (S := (fun W => W.cell? ⟨A1, 0, none⟩ = some (.slice (some ⟨ba, oa, none⟩) qa.length ca) ∧ rowAt W ba (oa + i * 7) (.string ykey :: [.int .i64 yk, .bool yb, .int .i64 yi, .string ys, .slice yal ynl ycl, .slice yam ynm ycm]))) (by kernel_rfl) ⟨k1, k2⟩ (fun hHeld => ?_)
      (refine tkA 0 ?_ ?_ ?_; rotate_left 1; (intro W0 hSw; (have o9 := hSw.1); go_simp; (try with_reducible rfl)); (try simp only [Act.put, zA, zB, zC]))
      (refine tjA 1 ?_; (try simp only [Act.put, zA, zB, zC]))
      (refine tjA 2 ?_; (try simp only [Act.put, zA, zB, zC]))
      (refine tjA 3 ?_; (try simp only [Act.put, zA, zB, zC]))
      (refine tkA 4 ?_ ?_ ?_; rotate_left 1; (intro W0 hSw; (obtain ⟨o_, o0, o1, o2, o3, o4, o5⟩ := row7 hSw.2); go_simp; (try with_reducible rfl)); (try simp only [Act.put, zA, zB, zC]))
      (refine tkA 5 ?_ ?_ ?_; rotate_left 1; (intro W0 hSw; (have o9 := hSw.1); go_simp; (try with_reducible rfl)); (try simp only [Act.put, zA, zB, zC]))
      (refine tjA 6 ?_; (try simp only [Act.put, zA, zB, zC]))
      (refine tjA 7 ?_; (try simp only [Act.put, zA, zB, zC]))
      (refine tjA 8 ?_; (try simp only [Act.put, zA, zB, zC]))
      (refine tkA 9 ?_ ?_ ?_; rotate_left 1; (intro W0 hSw; (obtain ⟨o_, o0, o1, o2, o3, o4, o5⟩ := row7 hSw.2); go_simp; (try with_reducible rfl)); (try simp only [Act.put, zA, zB, zC]))
      (refine tjA 10 ?_; (try simp only [Act.put, zA, zB, zC]))
      (refine tjA 11 ?_; (try simp only [Act.put, zA, zB, zC]))
      refine ryA [12] ?_
      refine rA1 fun K hK => ?_
      have oM : ∀ z, z ≠ wr.heap.size → ((((((w2.setCell ⟨wr.heap.size, 0, none⟩ (.int .i64 yk)).setCell ⟨wr.heap.size, 1, none⟩ (.bool yb)).setCell ⟨wr.heap.size, 2, none⟩ (.int .i64 yi)).setCell ⟨wr.heap.size, 3, none⟩ (.string ys)).setCell ⟨wr.heap.size, 4, none⟩ (.slice yal ynl ycl)).setCell ⟨wr.heap.size, 5, none⟩ (.slice yam ynm ycm)).drew.heap[z]? = w2.heap[z]? := fun z hz => (drew_at _ z).trans (by
       rw [set_other hz, set_other hz, set_other hz, set_other hz, set_other hz, set_other hz])
      have oE : ∀ z, z ≠ wr.heap.size → (((((((w2.setCell ⟨wr.heap.size, 0, none⟩ (.int .i64 yk)).setCell ⟨wr.heap.size, 1, none⟩ (.bool yb)).setCell ⟨wr.heap.size, 2, none⟩ (.int .i64 yi)).setCell ⟨wr.heap.size, 3, none⟩ (.string ys)).setCell ⟨wr.heap.size, 4, none⟩ (.slice yal ynl ycl)).setCell ⟨wr.heap.size, 5, none⟩ (.slice yam ynm ycm)).setCell ⟨wr.heap.size, 12, none⟩ (.bool true)).drew.heap[z]? = w2.heap[z]? := fun z hz => (drew_at _ z).trans (by
       rw [set_other hz, set_other hz, set_other hz, set_other hz, set_other hz, set_other hz, set_other hz])
      have gE := fillAo0 w2 wr.heap.size (.int .i64 yk) (.bool yb) (.int .i64 yi) (.string ys) (.slice yal ynl ycl) (.slice yam ynm ycm) (.bool true)
      have hxw3 := (drew_at _ _).trans (fillA0 hxw2 (.int .i64 yk) (.bool yb) (.int .i64 yi) (.string ys) (.slice yal ynl ycl) (.slice yam ynm ycm) (.bool true))
      go_simp
      refine hK.out _ _ ⟨(World.cell?_of_block (w := w2) (a := ⟨A1, 0, none⟩) (oM A1 (by omega))).trans k1, k2.keep (oM ba (by omega))⟩ (fun hHeld => ?_)
      clear hK K
      (try simp only [Act.put, zA, zB, zC])
      (refine tjA 13 ?_; (try simp only [Act.put, zA, zB, zC]))
      refine ryA [14] ?_
      refine rA1 fun K hK => ?_
      go_simp
      refine hK.out _ _ ⟨(World.cell?_of_block (w := w2) (a := ⟨A1, 0, none⟩) (oE A1 (by omega))).trans k1, k2.keep (oE ba (by omega))⟩ (fun hHeld => ?_)
      clear hK K
      (try simp only [Act.put, zA, zB, zC])
      refine wpAnyH_done (by kernel_rfl) ?_ _
      (try dsimp only [Act.put, List.getElem_toArray, List.getElem_cons_succ, List.getElem_cons_zero, List.setIfInBounds_toArray, List.set_cons_zero, List.set_cons_succ])
      have hzw3 : w2.heap.size ≤ (((((((w2.setCell ⟨wr.heap.size, 0, none⟩ (.int .i64 yk)).setCell ⟨wr.heap.size, 1, none⟩ (.bool yb)).setCell ⟨wr.heap.size, 2, none⟩ (.int .i64 yi)).setCell ⟨wr.heap.size, 3, none⟩ (.string ys)).setCell ⟨wr.heap.size, 4, none⟩ (.slice yal ynl ycl)).setCell ⟨wr.heap.size, 5, none⟩ (.slice yam ynm ycm)).setCell ⟨wr.heap.size, 12, none⟩ (.bool true)).drew.heap.size := by rw [drew_sz, gE.2]; exact Nat.le_refl _
      have Bw3 : Kx n0 vx w (((((((w2.setCell ⟨wr.heap.size, 0, none⟩ (.int .i64 yk)).setCell ⟨wr.heap.size, 1, none⟩ (.bool yb)).setCell ⟨wr.heap.size, 2, none⟩ (.int .i64 yi)).setCell ⟨wr.heap.size, 3, none⟩ (.string ys)).setCell ⟨wr.heap.size, 4, none⟩ (.slice yal ynl ycl)).setCell ⟨wr.heap.size, 5, none⟩ (.slice yam ynm ycm)).setCell ⟨wr.heap.size, 12, none⟩ (.bool true)).drew := Bw2.trans (kx_of ((Below.refl n0 _).grown gE.1 (by omega) (fun q e => by cases e; omega)).drew)
      have Rw3 : Below wr.heap.size wr (((((((w2.setCell ⟨wr.heap.size, 0, none⟩ (.int .i64 yk)).setCell ⟨wr.heap.size, 1, none⟩ (.bool yb)).setCell ⟨wr.heap.size, 2, none⟩ (.int .i64 yi)).setCell ⟨wr.heap.size, 3, none⟩ (.string ys)).setCell ⟨wr.heap.size, 4, none⟩ (.slice yal ynl ycl)).setCell ⟨wr.heap.size, 5, none⟩ (.slice yam ynm ycm)).setCell ⟨wr.heap.size, 12, none⟩ (.bool true)).drew := (Rw2.grown gE.1 (by omega) (fun q e => by cases e; omega)).drew
      clear hHeld oM oE gE k1 k2 fx x0 x1 x2 x3 x4 x5 x6 x7 x8 x9 x10 x11 x12 x13
      generalize (((((((w2.setCell ⟨wr.heap.size, 0, none⟩ (.int .i64 yk)).setCell ⟨wr.heap.size, 1, none⟩ (.bool yb)).setCell ⟨wr.heap.size, 2, none⟩ (.int .i64 yi)).setCell ⟨wr.heap.size, 3, none⟩ (.string ys)).setCell ⟨wr.heap.size, 4, none⟩ (.slice yal ynl ycl)).setCell ⟨wr.heap.size, 5, none⟩ (.slice yam ynm ycm)).setCell ⟨wr.heap.size, 12, none⟩ (.bool true)).drew = w3 at *
      have p1 := (Bw3.cell (p := ⟨A1, 0, none⟩) hA1 hv1).trans h1
      have p2 := (Bw3.cell (p := ⟨A2, 0, none⟩) hA2 hv2).trans h2
      obtain ⟨ra_, ra0, ra1, ra2, ra3, ra4, ra5⟩ := row7 (rowa.keep (Bw3.block ba hba hbav))
      obtain ⟨rb_, rb0, rb1, rb2, rb3, rb4, rb5⟩ := row7 (rowb.keep (Bw3.block bb hbb hbbv))
      have s1 : ∀ z : Sub w3.heap.size w3, _ := sub_cell p1 (by show A1 < _; omega)
      have s2 : ∀ z : Sub w3.heap.size w3, _ := sub_cell p2 (by show A2 < _; omega)
      have sa_ : ∀ z : Sub w3.heap.size w3, _ := sub_cell ra_ (by show ba < _; omega)
      have sa0 : ∀ z : Sub w3.heap.size w3, _ := sub_cell ra0 (by show ba < _; omega)
      have sa1 : ∀ z : Sub w3.heap.size w3, _ := sub_cell ra1 (by show ba < _; omega)
      have sa2 : ∀ z : Sub w3.heap.size w3, _ := sub_cell ra2 (by show ba < _; omega)
      have sa3 : ∀ z : Sub w3.heap.size w3, _ := sub_cell ra3 (by show ba < _; omega)
      have sa4 : ∀ z : Sub w3.heap.size w3, _ := sub_cell ra4 (by show ba < _; omega)
      have sa5 : ∀ z : Sub w3.heap.size w3, _ := sub_cell ra5 (by show ba < _; omega)
      have sb_ : ∀ z : Sub w3.heap.size w3, _ := sub_cell rb_ (by show bb < _; omega)
      have sb0 : ∀ z : Sub w3.heap.size w3, _ := sub_cell rb0 (by show bb < _; omega)
      have sb1 : ∀ z : Sub w3.heap.size w3, _ := sub_cell rb1 (by show bb < _; omega)
      have sb2 : ∀ z : Sub w3.heap.size w3, _ := sub_cell rb2 (by show bb < _; omega)
      have sb3 : ∀ z : Sub w3.heap.size w3, _ := sub_cell rb3 (by show bb < _; omega)
      have sb4 : ∀ z : Sub w3.heap.size w3, _ := sub_cell rb4 (by show bb < _; omega)
      have sb5 : ∀ z : Sub w3.heap.size w3, _ := sub_cell rb5 (by show bb < _; omega)
      gi_wp2
      refine wpIn_wide.2 ?_
      refine wp_region_sub w3.heap.size (by kernel_rfl) (by kernel_rfl) ?_
      repeat (go_big_quiet_step (fail))
      refine wpQuiet_nil ?_
      rintro w4w3 ⟨⟨w4w3', bw4w3⟩, hj_⟩
      have hj_' : w4w3 = w4w3' := hj_
      subst hj_'
      clear hj_
      have hzw4w3 := bw4w3.size
      have Bw4w3 := Bw3.trans (kx_of (bw4w3.mono (by omega)))
      have Rw4w3 := Rw3.trans (bw4w3.mono (by omega))
      have hxw4w3 := (bw4w3.block wr.heap.size (by omega)).trans hxw3
      clear bw4w3
      clear p1 p2 s1 s2 ra_ sa_ rb_ sb_ ra0 sa0 rb0 sb0 ra1 sa1 rb1 sb1 ra2 sa2 rb2 sb2 ra3 sa3 rb3 sb3 ra4 sa4 rb4 sb4 ra5 sa5 rb5 sb5
      gi_wp2
      have k1 := (Bw4w3.cell (p := ⟨A2, 0, none⟩) hA2 hv2).trans h2
      have k2 := rowb.keep (Bw4w3.block bb hbb hbbv)
      have x0 : w4w3.cell? ⟨wr.heap.size, 0, none⟩ = some (.int .i64 yk) := by rw [cell_of_block hxw4w3]; rfl
      have x1 : w4w3.cell? ⟨wr.heap.size, 1, none⟩ = some (.bool yb) := by rw [cell_of_block hxw4w3]; rfl
      have x2 : w4w3.cell? ⟨wr.heap.size, 2, none⟩ = some (.int .i64 yi) := by rw [cell_of_block hxw4w3]; rfl
      have x3 : w4w3.cell? ⟨wr.heap.size, 3, none⟩ = some (.string ys) := by rw [cell_of_block hxw4w3]; rfl
      have x4 : w4w3.cell? ⟨wr.heap.size, 4, none⟩ = some (.slice yal ynl ycl) := by rw [cell_of_block hxw4w3]; rfl
      have x5 : w4w3.cell? ⟨wr.heap.size, 5, none⟩ = some (.slice yam ynm ycm) := by rw [cell_of_block hxw4w3]; rfl
      have x6 : w4w3.cell? ⟨wr.heap.size, 6, none⟩ = some (.int .i64 0) := by rw [cell_of_block hxw4w3]; rfl
      have x7 : w4w3.cell? ⟨wr.heap.size, 7, none⟩ = some (.bool false) := by rw [cell_of_block hxw4w3]; rfl
      have x8 : w4w3.cell? ⟨wr.heap.size, 8, none⟩ = some (.int .i64 0) := by rw [cell_of_block hxw4w3]; rfl
      have x9 : w4w3.cell? ⟨wr.heap.size, 9, none⟩ = some (.string ⟨#[]⟩) := by rw [cell_of_block hxw4w3]; rfl
      have x10 : w4w3.cell? ⟨wr.heap.size, 10, none⟩ = some (.slice none 0 0) := by rw [cell_of_block hxw4w3]; rfl
      have x11 : w4w3.cell? ⟨wr.heap.size, 11, none⟩ = some (.slice none 0 0) := by rw [cell_of_block hxw4w3]; rfl
      have x12 : w4w3.cell? ⟨wr.heap.size, 12, none⟩ = some (.bool true) := by rw [cell_of_block hxw4w3]; rfl
      have x13 : w4w3.cell? ⟨wr.heap.size, 13, none⟩ = some (.bool false) := by rw [cell_of_block hxw4w3]; rfl
      have fx := frozen_of_block hxw4w3
      refine wpIn_wide.2 ?_
      refine wp_region_held_drew (S := (fun W => W.cell? ⟨A2, 0, none⟩ = some (.slice (some ⟨bb, ob, none⟩) qb.length cb) ∧ rowAt W bb (ob + k * 7) (.string zkey :: [.int .i64 zk, .bool zb, .int .i64 zi, .string zs, .slice zal znl zcl, .slice zam znm zcm]))) (by kernel_rfl) ⟨k1, k2⟩ (fun hHeld => ?_)
      (refine tkA 0 ?_ ?_ ?_; rotate_left 1; (intro W0 hSw; (have o9 := hSw.1); go_simp; (try with_reducible rfl)); (try simp only [Act.put, zA, zB, zC]))
      (refine tjA 1 ?_; (try simp only [Act.put, zA, zB, zC]))
      (refine tjA 2 ?_; (try simp only [Act.put, zA, zB, zC]))
      (refine tjA 3 ?_; (try simp only [Act.put, zA, zB, zC]))
      (refine tkA 4 ?_ ?_ ?_; rotate_left 1; (intro W0 hSw; (obtain ⟨o_, o0, o1, o2, o3, o4, o5⟩ := row7 hSw.2); go_simp; (try with_reducible rfl)); (try simp only [Act.put, zA, zB, zC]))
      (refine tkA 5 ?_ ?_ ?_; rotate_left 1; (intro W0 hSw; (have o9 := hSw.1); go_simp; (try with_reducible rfl)); (try simp only [Act.put, zA, zB, zC]))
      (refine tjA 6 ?_; (try simp only [Act.put, zA, zB, zC]))
      (refine tjA 7 ?_; (try simp only [Act.put, zA, zB, zC]))
      (refine tjA 8 ?_; (try simp only [Act.put, zA, zB, zC]))
      (refine tkA 9 ?_ ?_ ?_; rotate_left 1; (intro W0 hSw; (obtain ⟨o_, o0, o1, o2, o3, o4, o5⟩ := row7 hSw.2); go_simp; (try with_reducible rfl)); (try simp only [Act.put, zA, zB, zC]))
      (refine tjA 10 ?_; (try simp only [Act.put, zA, zB, zC]))
      (refine tjA 11 ?_; (try simp only [Act.put, zA, zB, zC]))
      refine ryA [12] ?_
      refine rA1 fun K hK => ?_
      have oM : ∀ z, z ≠ wr.heap.size → ((((((w4w3.setCell ⟨wr.heap.size, 6, none⟩ (.int .i64 zk)).setCell ⟨wr.heap.size, 7, none⟩ (.bool zb)).setCell ⟨wr.heap.size, 8, none⟩ (.int .i64 zi)).setCell ⟨wr.heap.size, 9, none⟩ (.string zs)).setCell ⟨wr.heap.size, 10, none⟩ (.slice zal znl zcl)).setCell ⟨wr.heap.size, 11, none⟩ (.slice zam znm zcm)).drew.heap[z]? = w4w3.heap[z]? := fun z hz => (drew_at _ z).trans (by
       rw [set_other hz, set_other hz, set_other hz, set_other hz, set_other hz, set_other hz])
      have oE : ∀ z, z ≠ wr.heap.size → (((((((w4w3.setCell ⟨wr.heap.size, 6, none⟩ (.int .i64 zk)).setCell ⟨wr.heap.size, 7, none⟩ (.bool zb)).setCell ⟨wr.heap.size, 8, none⟩ (.int .i64 zi)).setCell ⟨wr.heap.size, 9, none⟩ (.string zs)).setCell ⟨wr.heap.size, 10, none⟩ (.slice zal znl zcl)).setCell ⟨wr.heap.size, 11, none⟩ (.slice zam znm zcm)).setCell ⟨wr.heap.size, 13, none⟩ (.bool true)).drew.heap[z]? = w4w3.heap[z]? := fun z hz => (drew_at _ z).trans (by
       rw [set_other hz, set_other hz, set_other hz, set_other hz, set_other hz, set_other hz, set_other hz])
      have gE := fillBo0 w4w3 wr.heap.size (.int .i64 zk) (.bool zb) (.int .i64 zi) (.string zs) (.slice zal znl zcl) (.slice zam znm zcm) (.bool true)
      have hxw5w3 := (drew_at _ _).trans (fillB0 hxw4w3 (.int .i64 zk) (.bool zb) (.int .i64 zi) (.string zs) (.slice zal znl zcl) (.slice zam znm zcm) (.bool true))
      go_simp
      refine hK.out _ _ ⟨(World.cell?_of_block (w := w4w3) (a := ⟨A2, 0, none⟩) (oM A2 (by omega))).trans k1, k2.keep (oM bb (by omega))⟩ (fun hHeld => ?_)
      clear hK K
      (try simp only [Act.put, zA, zB, zC])
      (refine tjA 13 ?_; (try simp only [Act.put, zA, zB, zC]))
      refine ryA [14] ?_
      refine rA1 fun K hK => ?_
      go_simp
      refine hK.out _ _ ⟨(World.cell?_of_block (w := w4w3) (a := ⟨A2, 0, none⟩) (oE A2 (by omega))).trans k1, k2.keep (oE bb (by omega))⟩ (fun hHeld => ?_)
      clear hK K
      (try simp only [Act.put, zA, zB, zC])
      refine wpAnyH_done (by kernel_rfl) ?_ _
      (try dsimp only [Act.put, List.getElem_toArray, List.getElem_cons_succ, List.getElem_cons_zero, List.setIfInBounds_toArray, List.set_cons_zero, List.set_cons_succ])
      have hzw5w3 : w4w3.heap.size ≤ (((((((w4w3.setCell ⟨wr.heap.size, 6, none⟩ (.int .i64 zk)).setCell ⟨wr.heap.size, 7, none⟩ (.bool zb)).setCell ⟨wr.heap.size, 8, none⟩ (.int .i64 zi)).setCell ⟨wr.heap.size, 9, none⟩ (.string zs)).setCell ⟨wr.heap.size, 10, none⟩ (.slice zal znl zcl)).setCell ⟨wr.heap.size, 11, none⟩ (.slice zam znm zcm)).setCell ⟨wr.heap.size, 13, none⟩ (.bool true)).drew.heap.size := by rw [drew_sz, gE.2]; exact Nat.le_refl _
      have Bw5w3 : Kx n0 vx w (((((((w4w3.setCell ⟨wr.heap.size, 6, none⟩ (.int .i64 zk)).setCell ⟨wr.heap.size, 7, none⟩ (.bool zb)).setCell ⟨wr.heap.size, 8, none⟩ (.int .i64 zi)).setCell ⟨wr.heap.size, 9, none⟩ (.string zs)).setCell ⟨wr.heap.size, 10, none⟩ (.slice zal znl zcl)).setCell ⟨wr.heap.size, 11, none⟩ (.slice zam znm zcm)).setCell ⟨wr.heap.size, 13, none⟩ (.bool true)).drew := Bw4w3.trans (kx_of ((Below.refl n0 _).grown gE.1 (by omega) (fun q e => by cases e; omega)).drew)
      have Rw5w3 : Below wr.heap.size wr (((((((w4w3.setCell ⟨wr.heap.size, 6, none⟩ (.int .i64 zk)).setCell ⟨wr.heap.size, 7, none⟩ (.bool zb)).setCell ⟨wr.heap.size, 8, none⟩ (.int .i64 zi)).setCell ⟨wr.heap.size, 9, none⟩ (.string zs)).setCell ⟨wr.heap.size, 10, none⟩ (.slice zal znl zcl)).setCell ⟨wr.heap.size, 11, none⟩ (.slice zam znm zcm)).setCell ⟨wr.heap.size, 13, none⟩ (.bool true)).drew := (Rw4w3.grown gE.1 (by omega) (fun q e => by cases e; omega)).drew
      clear hHeld oM oE gE k1 k2 fx x0 x1 x2 x3 x4 x5 x6 x7 x8 x9 x10 x11 x12 x13
      generalize (((((((w4w3.setCell ⟨wr.heap.size, 6, none⟩ (.int .i64 zk)).setCell ⟨wr.heap.size, 7, none⟩ (.bool zb)).setCell ⟨wr.heap.size, 8, none⟩ (.int .i64 zi)).setCell ⟨wr.heap.size, 9, none⟩ (.string zs)).setCell ⟨wr.heap.size, 10, none⟩ (.slice zal znl zcl)).setCell ⟨wr.heap.size, 11, none⟩ (.slice zam znm zcm)).setCell ⟨wr.heap.size, 13, none⟩ (.bool true)).drew = w5w3 at *
      have x0 : w5w3.cell? ⟨wr.heap.size, 0, none⟩ = some (.int .i64 yk) := by rw [cell_of_block hxw5w3]; rfl
      have x1 : w5w3.cell? ⟨wr.heap.size, 1, none⟩ = some (.bool yb) := by rw [cell_of_block hxw5w3]; rfl
      have x2 : w5w3.cell? ⟨wr.heap.size, 2, none⟩ = some (.int .i64 yi) := by rw [cell_of_block hxw5w3]; rfl
      have x3 : w5w3.cell? ⟨wr.heap.size, 3, none⟩ = some (.string ys) := by rw [cell_of_block hxw5w3]; rfl
      have x4 : w5w3.cell? ⟨wr.heap.size, 4, none⟩ = some (.slice yal ynl ycl) := by rw [cell_of_block hxw5w3]; rfl
      have x5 : w5w3.cell? ⟨wr.heap.size, 5, none⟩ = some (.slice yam ynm ycm) := by rw [cell_of_block hxw5w3]; rfl
      have x6 : w5w3.cell? ⟨wr.heap.size, 6, none⟩ = some (.int .i64 zk) := by rw [cell_of_block hxw5w3]; rfl
      have x7 : w5w3.cell? ⟨wr.heap.size, 7, none⟩ = some (.bool zb) := by rw [cell_of_block hxw5w3]; rfl
      have x8 : w5w3.cell? ⟨wr.heap.size, 8, none⟩ = some (.int .i64 zi) := by rw [cell_of_block hxw5w3]; rfl
      have x9 : w5w3.cell? ⟨wr.heap.size, 9, none⟩ = some (.string zs) := by rw [cell_of_block hxw5w3]; rfl
      have x10 : w5w3.cell? ⟨wr.heap.size, 10, none⟩ = some (.slice zal znl zcl) := by rw [cell_of_block hxw5w3]; rfl
      have x11 : w5w3.cell? ⟨wr.heap.size, 11, none⟩ = some (.slice zam znm zcm) := by rw [cell_of_block hxw5w3]; rfl
      have x12 : w5w3.cell? ⟨wr.heap.size, 12, none⟩ = some (.bool true) := by rw [cell_of_block hxw5w3]; rfl
      have x13 : w5w3.cell? ⟨wr.heap.size, 13, none⟩ = some (.bool true) := by rw [cell_of_block hxw5w3]; rfl
      have hjk : J pre w5w3 := hJ _ _ _ none hj ⟨Rw5w3.os, Rw5w3.tape, Rw5w3.output, Rw5w3.size, fun q hq _ => Rw5w3.block q hq⟩ (fun r e => by cases e)
      obtain ⟨fn, tmps, assign, body, hy, hR⟩ := hY pre x rest w5w3 hx hjk
      have hen : x.enc = #[.string zkey, .agg #[.int .i64 yk, .bool yb, .int .i64 yi, .string ys, .slice yal ynl ycl, .slice yam ynm ycm, .int .i64 zk, .bool zb, .int .i64 zi, .string zs, .slice zal znl zcl, .slice zam znm zcm, .bool true, .bool true]] := by rw [hxv]; rfl
      rw [hen] at hy
      clear hen hjk
      gi_wp2
      refine ⟨fun h => (by cases h), hR.mono ?_⟩
      rintro e W3 (⟨rfl, hJ3, hk3⟩ | ⟨ch, rfl, hJp3⟩)
      ·gi_wp2
       go_roundw
       case rel => exact ⟨i + 1, k + 1, pre ++ [x], rest, by omega, by omega, by go_num, by go_num, hmk (by rw [hx]; simp), hrs, Bw5w3.trans hk3, hJ3⟩
       case measure => simp [RowKit.intOf]; omega
      ·gi_wp2
       first | exact ⟨rfl, .inr ⟨ch, pre ++ [x], rest, rfl, by rw [hx]; simp, hJp3⟩⟩ | exact .inr ⟨ch, pre ++ [x], rest, rfl, by rw [hx]; simp, hJp3⟩ | exact .inr ⟨pre ++ [x], ⟨rest, by rw [← hxs, hx]; simp⟩, hJp3⟩ | exact PANHERE
     ·have q3 : ¬ (qa[i]).1.1.toList = (qb[k]).1.1.toList := fun h => lt_ne q2 h.symm
      obtain ⟨rfl, hba, hbav⟩ := ha (by omega)
      obtain ⟨yk, yb, yi, ys, yal, ynl, ycl, yam, ynm, ycm, eya⟩ := ka qa[i] (List.getElem_mem hi2)
      have rowa := ra.row i (by simpa using hi2)
      rw [List.getElem_map, eya] at rowa
      obtain ⟨rfl, hbb, hbbv⟩ := hb (by omega)
      obtain ⟨zk, zb, zi, zs, zal, znl, zcl, zam, znm, zcm, ezb⟩ := kb qb[k] (List.getElem_mem hk2)
      have rowb := rb.row k (by simpa using hk2)
      rw [List.getElem_map, ezb] at rowb
      have hda : qa.drop i = qa[i] :: qa.drop (i + 1) := List.drop_eq_getElem_cons hi2
      have hdb : qb.drop k = qb[k] :: qb.drop (k + 1) := List.drop_eq_getElem_cons hk2
      rw [hda, hdb, tgR] at hr
      rw [if_neg q1, if_pos q2] at hr
      obtain ⟨x, rest, rfl, hxv, hrs⟩ := cons_of hr
      have hrs : rest = tgR (qa.drop (i + 0)) (qb.drop (k + 1)) := by show rest = tgR (qa.drop i) (qb.drop (k + 1)); rw [hda]; exact hrs
      rw [pB, ezb] at hxv
      simp only [List.tail_cons] at hxv
      rcases hym : (qa[i]).1 with ⟨ykey, yv⟩
      rcases hzm : (qb[k]).1 with ⟨zkey, zv⟩
      simp only [hym, hzm] at hxv rowa rowb q1 q2 q3
      have kL : Op.bytesLess ykey.toList zkey.toList = false := by simpa [ltB] using q1
      have kG : Op.bytesLess zkey.toList ykey.toList = true := q2
      have kE : (ykey.toList == zkey.toList) = false := beq_eq_false_iff_ne.2 q3
      have kF : (zkey.toList == ykey.toList) = false := beq_eq_false_iff_ne.2 (fun h => q3 h.symm)
      clear hr eya ezb hym hzm hda hdb q1 q2 q3
      have Bw1 : Kx n0 vx w (wr.alloc (.cells #[.int .i64 0, .bool false, .int .i64 0, .string ⟨#[]⟩, .slice none 0 0, .slice none 0 0, .int .i64 0, .bool false, .int .i64 0, .string ⟨#[]⟩, .slice none 0 0, .slice none 0 0, .bool false, .bool false] 73)) := bw.trans (kx_of (((Below.refl _ wr).alloc (Nat.le_refl _) _).mono (Nat.le_trans hn0 bw.size)))
      have Rw1 : Below wr.heap.size wr (wr.alloc (.cells #[.int .i64 0, .bool false, .int .i64 0, .string ⟨#[]⟩, .slice none 0 0, .slice none 0 0, .int .i64 0, .bool false, .int .i64 0, .string ⟨#[]⟩, .slice none 0 0, .slice none 0 0, .bool false, .bool false] 73)) := (Below.refl _ wr).alloc (Nat.le_refl _) _
      have hxw1 := heap_alloc_new wr (.cells #[.int .i64 0, .bool false, .int .i64 0, .string ⟨#[]⟩, .slice none 0 0, .slice none 0 0, .int .i64 0, .bool false, .int .i64 0, .string ⟨#[]⟩, .slice none 0 0, .slice none 0 0, .bool false, .bool false] 73)
      have hzw1 : (wr.alloc (.cells #[.int .i64 0, .bool false, .int .i64 0, .string ⟨#[]⟩, .slice none 0 0, .slice none 0 0, .int .i64 0, .bool false, .int .i64 0, .string ⟨#[]⟩, .slice none 0 0, .slice none 0 0, .bool false, .bool false] 73)).heap.size = wr.heap.size + 1 := alloc_size _ _
      have hnr : n0 ≤ wr.heap.size := Nat.le_trans hn0 bw.size
      have p1 := (Bw1.cell (p := ⟨A1, 0, none⟩) hA1 hv1).trans h1
      have p2 := (Bw1.cell (p := ⟨A2, 0, none⟩) hA2 hv2).trans h2
      obtain ⟨ra_, ra0, ra1, ra2, ra3, ra4, ra5⟩ := row7 (rowa.keep (Bw1.block ba hba hbav))
      obtain ⟨rb_, rb0, rb1, rb2, rb3, rb4, rb5⟩ := row7 (rowb.keep (Bw1.block bb hbb hbbv))
      have s1 : ∀ z : Sub (wr.alloc (.cells #[.int .i64 0, .bool false, .int .i64 0, .string ⟨#[]⟩, .slice none 0 0, .slice none 0 0, .int .i64 0, .bool false, .int .i64 0, .string ⟨#[]⟩, .slice none 0 0, .slice none 0 0, .bool false, .bool false] 73)).heap.size (wr.alloc (.cells #[.int .i64 0, .bool false, .int .i64 0, .string ⟨#[]⟩, .slice none 0 0, .slice none 0 0, .int .i64 0, .bool false, .int .i64 0, .string ⟨#[]⟩, .slice none 0 0, .slice none 0 0, .bool false, .bool false] 73)), _ := sub_cell p1 (by show A1 < _; omega)
      have s2 : ∀ z : Sub (wr.alloc (.cells #[.int .i64 0, .bool false, .int .i64 0, .string ⟨#[]⟩, .slice none 0 0, .slice none 0 0, .int .i64 0, .bool false, .int .i64 0, .string ⟨#[]⟩, .slice none 0 0, .slice none 0 0, .bool false, .bool false] 73)).heap.size (wr.alloc (.cells #[.int .i64 0, .bool false, .int .i64 0, .string ⟨#[]⟩, .slice none 0 0, .slice none 0 0, .int .i64 0, .bool false, .int .i64 0, .string ⟨#[]⟩, .slice none 0 0, .slice none 0 0, .bool false, .bool false] 73)), _ := sub_cell p2 (by show A2 < _; omega)
      have sa_ : ∀ z : Sub (wr.alloc (.cells #[.int .i64 0, .bool false, .int .i64 0, .string ⟨#[]⟩, .slice none 0 0, .slice none 0 0, .int .i64 0, .bool false, .int .i64 0, .string ⟨#[]⟩, .slice none 0 0, .slice none 0 0, .bool false, .bool false] 73)).heap.size (wr.alloc (.cells #[.int .i64 0, .bool false, .int .i64 0, .string ⟨#[]⟩, .slice none 0 0, .slice none 0 0, .int .i64 0, .bool false, .int .i64 0, .string ⟨#[]⟩, .slice none 0 0, .slice none 0 0, .bool false, .bool false] 73)), _ := sub_cell ra_ (by show ba < _; omega)
      have sa0 : ∀ z : Sub (wr.alloc (.cells #[.int .i64 0, .bool false, .int .i64 0, .string ⟨#[]⟩, .slice none 0 0, .slice none 0 0, .int .i64 0, .bool false, .int .i64 0, .string ⟨#[]⟩, .slice none 0 0, .slice none 0 0, .bool false, .bool false] 73)).heap.size (wr.alloc (.cells #[.int .i64 0, .bool false, .int .i64 0, .string ⟨#[]⟩, .slice none 0 0, .slice none 0 0, .int .i64 0, .bool false, .int .i64 0, .string ⟨#[]⟩, .slice none 0 0, .slice none 0 0, .bool false, .bool false] 73)), _ := sub_cell ra0 (by show ba < _; omega)
      have sa1 : ∀ z : Sub (wr.alloc (.cells #[.int .i64 0, .bool false, .int .i64 0, .string ⟨#[]⟩, .slice none 0 0, .slice none 0 0, .int .i64 0, .bool false, .int .i64 0, .string ⟨#[]⟩, .slice none 0 0, .slice none 0 0, .bool false, .bool false] 73)).heap.size (wr.alloc (.cells #[.int .i64 0, .bool false, .int .i64 0, .string ⟨#[]⟩, .slice none 0 0, .slice none 0 0, .int .i64 0, .bool false, .int .i64 0, .string ⟨#[]⟩, .slice none 0 0, .slice none 0 0, .bool false, .bool false] 73)), _ := sub_cell ra1 (by show ba < _; omega)
      have sa2 : ∀ z : Sub (wr.alloc (.cells #[.int .i64 0, .bool false, .int .i64 0, .string ⟨#[]⟩, .slice none 0 0, .slice none 0 0, .int .i64 0, .bool false, .int .i64 0, .string ⟨#[]⟩, .slice none 0 0, .slice none 0 0, .bool false, .bool false] 73)).heap.size (wr.alloc (.cells #[.int .i64 0, .bool false, .int .i64 0, .string ⟨#[]⟩, .slice none 0 0, .slice none 0 0, .int .i64 0, .bool false, .int .i64 0, .string ⟨#[]⟩, .slice none 0 0, .slice none 0 0, .bool false, .bool false] 73)), _ := sub_cell ra2 (by show ba < _; omega)
      have sa3 : ∀ z : Sub (wr.alloc (.cells #[.int .i64 0, .bool false, .int .i64 0, .string ⟨#[]⟩, .slice none 0 0, .slice none 0 0, .int .i64 0, .bool false, .int .i64 0, .string ⟨#[]⟩, .slice none 0 0, .slice none 0 0, .bool false, .bool false] 73)).heap.size (wr.alloc (.cells #[.int .i64 0, .bool false, .int .i64 0, .string ⟨#[]⟩, .slice none 0 0, .slice none 0 0, .int .i64 0, .bool false, .int .i64 0, .string ⟨#[]⟩, .slice none 0 0, .slice none 0 0, .bool false, .bool false] 73)), _ := sub_cell ra3 (by show ba < _; omega)
      have sa4 : ∀ z : Sub (wr.alloc (.cells #[.int .i64 0, .bool false, .int .i64 0, .string ⟨#[]⟩, .slice none 0 0, .slice none 0 0, .int .i64 0, .bool false, .int .i64 0, .string ⟨#[]⟩, .slice none 0 0, .slice none 0 0, .bool false, .bool false] 73)).heap.size (wr.alloc (.cells #[.int .i64 0, .bool false, .int .i64 0, .string ⟨#[]⟩, .slice none 0 0, .slice none 0 0, .int .i64 0, .bool false, .int .i64 0, .string ⟨#[]⟩, .slice none 0 0, .slice none 0 0, .bool false, .bool false] 73)), _ := sub_cell ra4 (by show ba < _; omega)
      have sa5 : ∀ z : Sub (wr.alloc (.cells #[.int .i64 0, .bool false, .int .i64 0, .string ⟨#[]⟩, .slice none 0 0, .slice none 0 0, .int .i64 0, .bool false, .int .i64 0, .string ⟨#[]⟩, .slice none 0 0, .slice none 0 0, .bool false, .bool false] 73)).heap.size (wr.alloc (.cells #[.int .i64 0, .bool false, .int .i64 0, .string ⟨#[]⟩, .slice none 0 0, .slice none 0 0, .int .i64 0, .bool false, .int .i64 0, .string ⟨#[]⟩, .slice none 0 0, .slice none 0 0, .bool false, .bool false] 73)), _ := sub_cell ra5 (by show ba < _; omega)
      have sb_ : ∀ z : Sub (wr.alloc (.cells #[.int .i64 0, .bool false, .int .i64 0, .string ⟨#[]⟩, .slice none 0 0, .slice none 0 0, .int .i64 0, .bool false, .int .i64 0, .string ⟨#[]⟩, .slice none 0 0, .slice none 0 0, .bool false, .bool false] 73)).heap.size (wr.alloc (.cells #[.int .i64 0, .bool false, .int .i64 0, .string ⟨#[]⟩, .slice none 0 0, .slice none 0 0, .int .i64 0, .bool false, .int .i64 0, .string ⟨#[]⟩, .slice none 0 0, .slice none 0 0, .bool false, .bool false] 73)), _ := sub_cell rb_ (by show bb < _; omega)
      have sb0 : ∀ z : Sub (wr.alloc (.cells #[.int .i64 0, .bool false, .int .i64 0, .string ⟨#[]⟩, .slice none 0 0, .slice none 0 0, .int .i64 0, .bool false, .int .i64 0, .string ⟨#[]⟩, .slice none 0 0, .slice none 0 0, .bool false, .bool false] 73)).heap.size (wr.alloc (.cells #[.int .i64 0, .bool false, .int .i64 0, .string ⟨#[]⟩, .slice none 0 0, .slice none 0 0, .int .i64 0, .bool false, .int .i64 0, .string ⟨#[]⟩, .slice none 0 0, .slice none 0 0, .bool false, .bool false] 73)), _ := sub_cell rb0 (by show bb < _; omega)
      have sb1 : ∀ z : Sub (wr.alloc (.cells #[.int .i64 0, .bool false, .int .i64 0, .string ⟨#[]⟩, .slice none 0 0, .slice none 0 0, .int .i64 0, .bool false, .int .i64 0, .string ⟨#[]⟩, .slice none 0 0, .slice none 0 0, .bool false, .bool false] 73)).heap.size (wr.alloc (.cells #[.int .i64 0, .bool false, .int .i64 0, .string ⟨#[]⟩, .slice none 0 0, .slice none 0 0, .int .i64 0, .bool false, .int .i64 0, .string ⟨#[]⟩, .slice none 0 0, .slice none 0 0, .bool false, .bool false] 73)), _ := sub_cell rb1 (by show bb < _; omega)
      have sb2 : ∀ z : Sub (wr.alloc (.cells #[.int .i64 0, .bool false, .int .i64 0, .string ⟨#[]⟩, .slice none 0 0, .slice none 0 0, .int .i64 0, .bool false, .int .i64 0, .string ⟨#[]⟩, .slice none 0 0, .slice none 0 0, .bool false, .bool false] 73)).heap.size (wr.alloc (.cells #[.int .i64 0, .bool false, .int .i64 0, .string ⟨#[]⟩, .slice none 0 0, .slice none 0 0, .int .i64 0, .bool false, .int .i64 0, .string ⟨#[]⟩, .slice none 0 0, .slice none 0 0, .bool false, .bool false] 73)), _ := sub_cell rb2 (by show bb < _; omega)
      have sb3 : ∀ z : Sub (wr.alloc (.cells #[.int .i64 0, .bool false, .int .i64 0, .string ⟨#[]⟩, .slice none 0 0, .slice none 0 0, .int .i64 0, .bool false, .int .i64 0, .string ⟨#[]⟩, .slice none 0 0, .slice none 0 0, .bool false, .bool false] 73)).heap.size (wr.alloc (.cells #[.int .i64 0, .bool false, .int .i64 0, .string ⟨#[]⟩, .slice none 0 0, .slice none 0 0, .int .i64 0, .bool false, .int .i64 0, .string ⟨#[]⟩, .slice none 0 0, .slice none 0 0, .bool false, .bool false] 73)), _ := sub_cell rb3 (by show bb < _; omega)
      have sb4 : ∀ z : Sub (wr.alloc (.cells #[.int .i64 0, .bool false, .int .i64 0, .string ⟨#[]⟩, .slice none 0 0, .slice none 0 0, .int .i64 0, .bool false, .int .i64 0, .string ⟨#[]⟩, .slice none 0 0, .slice none 0 0, .bool false, .bool false] 73)).heap.size (wr.alloc (.cells #[.int .i64 0, .bool false, .int .i64 0, .string ⟨#[]⟩, .slice none 0 0, .slice none 0 0, .int .i64 0, .bool false, .int .i64 0, .string ⟨#[]⟩, .slice none 0 0, .slice none 0 0, .bool false, .bool false] 73)), _ := sub_cell rb4 (by show bb < _; omega)
      have sb5 : ∀ z : Sub (wr.alloc (.cells #[.int .i64 0, .bool false, .int .i64 0, .string ⟨#[]⟩, .slice none 0 0, .slice none 0 0, .int .i64 0, .bool false, .int .i64 0, .string ⟨#[]⟩, .slice none 0 0, .slice none 0 0, .bool false, .bool false] 73)).heap.size (wr.alloc (.cells #[.int .i64 0, .bool false, .int .i64 0, .string ⟨#[]⟩, .slice none 0 0, .slice none 0 0, .int .i64 0, .bool false, .int .i64 0, .string ⟨#[]⟩, .slice none 0 0, .slice none 0 0, .bool false, .bool false] 73)), _ := sub_cell rb5 (by show bb < _; omega)
      gi_wp2
      clear c1 c2
      generalize (wr.alloc (.cells #[.int .i64 0, .bool false, .int .i64 0, .string ⟨#[]⟩, .slice none 0 0, .slice none 0 0, .int .i64 0, .bool false, .int .i64 0, .string ⟨#[]⟩, .slice none 0 0, .slice none 0 0, .bool false, .bool false] 73)) = w1 at *
      refine wpIn_wide.2 ?_
      refine wp_region_sub w1.heap.size (by kernel_rfl) (by kernel_rfl) ?_
      repeat (go_big_quiet_step (fail))
      refine wpQuiet_nil ?_
      rintro w2 ⟨⟨w2', bw2⟩, hj_⟩
      have hj_' : w2 = w2' := hj_
      subst hj_'
      clear hj_
      have hzw2 := bw2.size
      have Bw2 := Bw1.trans (kx_of (bw2.mono (by omega)))
      have Rw2 := Rw1.trans (bw2.mono (by omega))
      have hxw2 := (bw2.block wr.heap.size (by omega)).trans hxw1
      clear bw2
      clear p1 p2 s1 s2 ra_ sa_ rb_ sb_ ra0 sa0 rb0 sb0 ra1 sa1 rb1 sb1 ra2 sa2 rb2 sb2 ra3 sa3 rb3 sb3 ra4 sa4 rb4 sb4 ra5 sa5 rb5 sb5
      gi_wp2
      have p1 := (Bw2.cell (p := ⟨A1, 0, none⟩) hA1 hv1).trans h1
      have p2 := (Bw2.cell (p := ⟨A2, 0, none⟩) hA2 hv2).trans h2
      obtain ⟨ra_, ra0, ra1, ra2, ra3, ra4, ra5⟩ := row7 (rowa.keep (Bw2.block ba hba hbav))
      obtain ⟨rb_, rb0, rb1, rb2, rb3, rb4, rb5⟩ := row7 (rowb.keep (Bw2.block bb hbb hbbv))
      have s1 : ∀ z : Sub w2.heap.size w2, _ := sub_cell p1 (by show A1 < _; omega)
      have s2 : ∀ z : Sub w2.heap.size w2, _ := sub_cell p2 (by show A2 < _; omega)
      have sa_ : ∀ z : Sub w2.heap.size w2, _ := sub_cell ra_ (by show ba < _; omega)
      have sa0 : ∀ z : Sub w2.heap.size w2, _ := sub_cell ra0 (by show ba < _; omega)
      have sa1 : ∀ z : Sub w2.heap.size w2, _ := sub_cell ra1 (by show ba < _; omega)
      have sa2 : ∀ z : Sub w2.heap.size w2, _ := sub_cell ra2 (by show ba < _; omega)
      have sa3 : ∀ z : Sub w2.heap.size w2, _ := sub_cell ra3 (by show ba < _; omega)
      have sa4 : ∀ z : Sub w2.heap.size w2, _ := sub_cell ra4 (by show ba < _; omega)
      have sa5 : ∀ z : Sub w2.heap.size w2, _ := sub_cell ra5 (by show ba < _; omega)
      have sb_ : ∀ z : Sub w2.heap.size w2, _ := sub_cell rb_ (by show bb < _; omega)
      have sb0 : ∀ z : Sub w2.heap.size w2, _ := sub_cell rb0 (by show bb < _; omega)
      have sb1 : ∀ z : Sub w2.heap.size w2, _ := sub_cell rb1 (by show bb < _; omega)
      have sb2 : ∀ z : Sub w2.heap.size w2, _ := sub_cell rb2 (by show bb < _; omega)
      have sb3 : ∀ z : Sub w2.heap.size w2, _ := sub_cell rb3 (by show bb < _; omega)
      have sb4 : ∀ z : Sub w2.heap.size w2, _ := sub_cell rb4 (by show bb < _; omega)
      have sb5 : ∀ z : Sub w2.heap.size w2, _ := sub_cell rb5 (by show bb < _; omega)
      refine wpIn_wide.2 ?_
      refine wp_region_sub w2.heap.size (by kernel_rfl) (by kernel_rfl) ?_
      repeat (go_big_quiet_step (fail))
      refine wpQuiet_nil ?_
      rintro w4w2 ⟨⟨w4w2', bw4w2⟩, hj_⟩
      have hj_' : w4w2 = w4w2' := hj_
      subst hj_'
      clear hj_
      have hzw4w2 := bw4w2.size
      have Bw4w2 := Bw2.trans (kx_of (bw4w2.mono (by omega)))
      have Rw4w2 := Rw2.trans (bw4w2.mono (by omega))
      have hxw4w2 := (bw4w2.block wr.heap.size (by omega)).trans hxw2
      clear bw4w2
      clear p1 p2 s1 s2 ra_ sa_ rb_ sb_ ra0 sa0 rb0 sb0 ra1 sa1 rb1 sb1 ra2 sa2 rb2 sb2 ra3 sa3 rb3 sb3 ra4 sa4 rb4 sb4 ra5 sa5 rb5 sb5
      gi_wp2
      have k1 := (Bw4w2.cell (p := ⟨A2, 0, none⟩) hA2 hv2).trans h2
      have k2 := rowb.keep (Bw4w2.block bb hbb hbbv)
      have x0 : w4w2.cell? ⟨wr.heap.size, 0, none⟩ = some (.int .i64 0) := by rw [cell_of_block hxw4w2]; rfl
      have x1 : w4w2.cell? ⟨wr.heap.size, 1, none⟩ = some (.bool false) := by rw [cell_of_block hxw4w2]; rfl
      have x2 : w4w2.cell? ⟨wr.heap.size, 2, none⟩ = some (.int .i64 0) := by rw [cell_of_block hxw4w2]; rfl
      have x3 : w4w2.cell? ⟨wr.heap.size, 3, none⟩ = some (.string ⟨#[]⟩) := by rw [cell_of_block hxw4w2]; rfl
      have x4 : w4w2.cell? ⟨wr.heap.size, 4, none⟩ = some (.slice none 0 0) := by rw [cell_of_block hxw4w2]; rfl
      have x5 : w4w2.cell? ⟨wr.heap.size, 5, none⟩ = some (.slice none 0 0) := by rw [cell_of_block hxw4w2]; rfl
      have x6 : w4w2.cell? ⟨wr.heap.size, 6, none⟩ = some (.int .i64 0) := by rw [cell_of_block hxw4w2]; rfl
      have x7 : w4w2.cell? ⟨wr.heap.size, 7, none⟩ = some (.bool false) := by rw [cell_of_block hxw4w2]; rfl
      have x8 : w4w2.cell? ⟨wr.heap.size, 8, none⟩ = some (.int .i64 0) := by rw [cell_of_block hxw4w2]; rfl
      have x9 : w4w2.cell? ⟨wr.heap.size, 9, none⟩ = some (.string ⟨#[]⟩) := by rw [cell_of_block hxw4w2]; rfl
      have x10 : w4w2.cell? ⟨wr.heap.size, 10, none⟩ = some (.slice none 0 0) := by rw [cell_of_block hxw4w2]; rfl
      have x11 : w4w2.cell? ⟨wr.heap.size, 11, none⟩ = some (.slice none 0 0) := by rw [cell_of_block hxw4w2]; rfl
      have x12 : w4w2.cell? ⟨wr.heap.size, 12, none⟩ = some (.bool false) := by rw [cell_of_block hxw4w2]; rfl
      have x13 : w4w2.cell? ⟨wr.heap.size, 13, none⟩ = some (.bool false) := by rw [cell_of_block hxw4w2]; rfl
      have fx := frozen_of_block hxw4w2
      refine wpIn_wide.2 ?_
      refine wp_region_held_drew (S := (fun W => W.cell? ⟨A2, 0, none⟩ = some (.slice (some ⟨bb, ob, none⟩) qb.length cb) ∧ rowAt W bb (ob + k * 7) (.string zkey :: [.int .i64 zk, .bool zb, .int .i64 zi, .string zs, .slice zal znl zcl, .slice zam znm zcm]))) (by kernel_rfl) ⟨k1, k2⟩ (fun hHeld => ?_)
      (refine tkA 0 ?_ ?_ ?_; rotate_left 1; (intro W0 hSw; (have o9 := hSw.1); go_simp; (try with_reducible rfl)); (try simp only [Act.put, zA, zB, zC]))
      (refine tjA 1 ?_; (try simp only [Act.put, zA, zB, zC]))
      (refine tjA 2 ?_; (try simp only [Act.put, zA, zB, zC]))
      (refine tjA 3 ?_; (try simp only [Act.put, zA, zB, zC]))
      (refine tkA 4 ?_ ?_ ?_; rotate_left 1; (intro W0 hSw; (obtain ⟨o_, o0, o1, o2, o3, o4, o5⟩ := row7 hSw.2); go_simp; (try with_reducible rfl)); (try simp only [Act.put, zA, zB, zC]))
      (refine tkA 5 ?_ ?_ ?_; rotate_left 1; (intro W0 hSw; (have o9 := hSw.1); go_simp; (try with_reducible rfl)); (try simp only [Act.put, zA, zB, zC]))
      (refine tjA 6 ?_; (try simp only [Act.put, zA, zB, zC]))
      (refine tjA 7 ?_; (try simp only [Act.put, zA, zB, zC]))
      (refine tjA 8 ?_; (try simp only [Act.put, zA, zB, zC]))
      (refine tkA 9 ?_ ?_ ?_; rotate_left 1; (intro W0 hSw; (obtain ⟨o_, o0, o1, o2, o3, o4, o5⟩ := row7 hSw.2); go_simp; (try with_reducible rfl)); (try simp only [Act.put, zA, zB, zC]))
      (refine tjA 10 ?_; (try simp only [Act.put, zA, zB, zC]))
      (refine tjA 11 ?_; (try simp only [Act.put, zA, zB, zC]))
      refine ryA [12] ?_
      refine rA1 fun K hK => ?_
      have oM : ∀ z, z ≠ wr.heap.size → ((((((w4w2.setCell ⟨wr.heap.size, 6, none⟩ (.int .i64 zk)).setCell ⟨wr.heap.size, 7, none⟩ (.bool zb)).setCell ⟨wr.heap.size, 8, none⟩ (.int .i64 zi)).setCell ⟨wr.heap.size, 9, none⟩ (.string zs)).setCell ⟨wr.heap.size, 10, none⟩ (.slice zal znl zcl)).setCell ⟨wr.heap.size, 11, none⟩ (.slice zam znm zcm)).drew.heap[z]? = w4w2.heap[z]? := fun z hz => (drew_at _ z).trans (by
       rw [set_other hz, set_other hz, set_other hz, set_other hz, set_other hz, set_other hz])
      have oE : ∀ z, z ≠ wr.heap.size → (((((((w4w2.setCell ⟨wr.heap.size, 6, none⟩ (.int .i64 zk)).setCell ⟨wr.heap.size, 7, none⟩ (.bool zb)).setCell ⟨wr.heap.size, 8, none⟩ (.int .i64 zi)).setCell ⟨wr.heap.size, 9, none⟩ (.string zs)).setCell ⟨wr.heap.size, 10, none⟩ (.slice zal znl zcl)).setCell ⟨wr.heap.size, 11, none⟩ (.slice zam znm zcm)).setCell ⟨wr.heap.size, 13, none⟩ (.bool true)).drew.heap[z]? = w4w2.heap[z]? := fun z hz => (drew_at _ z).trans (by
       rw [set_other hz, set_other hz, set_other hz, set_other hz, set_other hz, set_other hz, set_other hz])
      have gE := fillBo0 w4w2 wr.heap.size (.int .i64 zk) (.bool zb) (.int .i64 zi) (.string zs) (.slice zal znl zcl) (.slice zam znm zcm) (.bool true)
      have hxw5w2 := (drew_at _ _).trans (fillB0 hxw4w2 (.int .i64 zk) (.bool zb) (.int .i64 zi) (.string zs) (.slice zal znl zcl) (.slice zam znm zcm) (.bool true))
      go_simp
      refine hK.out _ _ ⟨(World.cell?_of_block (w := w4w2) (a := ⟨A2, 0, none⟩) (oM A2 (by omega))).trans k1, k2.keep (oM bb (by omega))⟩ (fun hHeld => ?_)
      clear hK K
      (try simp only [Act.put, zA, zB, zC])
      (refine tjA 13 ?_; (try simp only [Act.put, zA, zB, zC]))
      refine ryA [14] ?_
      refine rA1 fun K hK => ?_
      go_simp
      refine hK.out _ _ ⟨(World.cell?_of_block (w := w4w2) (a := ⟨A2, 0, none⟩) (oE A2 (by omega))).trans k1, k2.keep (oE bb (by omega))⟩ (fun hHeld => ?_)
      clear hK K
      (try simp only [Act.put, zA, zB, zC])
      refine wpAnyH_done (by kernel_rfl) ?_ _
      (try dsimp only [Act.put, List.getElem_toArray, List.getElem_cons_succ, List.getElem_cons_zero, List.setIfInBounds_toArray, List.set_cons_zero, List.set_cons_succ])
      have hzw5w2 : w4w2.heap.size ≤ (((((((w4w2.setCell ⟨wr.heap.size, 6, none⟩ (.int .i64 zk)).setCell ⟨wr.heap.size, 7, none⟩ (.bool zb)).setCell ⟨wr.heap.size, 8, none⟩ (.int .i64 zi)).setCell ⟨wr.heap.size, 9, none⟩ (.string zs)).setCell ⟨wr.heap.size, 10, none⟩ (.slice zal znl zcl)).setCell ⟨wr.heap.size, 11, none⟩ (.slice zam znm zcm)).setCell ⟨wr.heap.size, 13, none⟩ (.bool true)).drew.heap.size := by rw [drew_sz, gE.2]; exact Nat.le_refl _
      have Bw5w2 : Kx n0 vx w (((((((w4w2.setCell ⟨wr.heap.size, 6, none⟩ (.int .i64 zk)).setCell ⟨wr.heap.size, 7, none⟩ (.bool zb)).setCell ⟨wr.heap.size, 8, none⟩ (.int .i64 zi)).setCell ⟨wr.heap.size, 9, none⟩ (.string zs)).setCell ⟨wr.heap.size, 10, none⟩ (.slice zal znl zcl)).setCell ⟨wr.heap.size, 11, none⟩ (.slice zam znm zcm)).setCell ⟨wr.heap.size, 13, none⟩ (.bool true)).drew := Bw4w2.trans (kx_of ((Below.refl n0 _).grown gE.1 (by omega) (fun q e => by cases e; omega)).drew)
      have Rw5w2 : Below wr.heap.size wr (((((((w4w2.setCell ⟨wr.heap.size, 6, none⟩ (.int .i64 zk)).setCell ⟨wr.heap.size, 7, none⟩ (.bool zb)).setCell ⟨wr.heap.size, 8, none⟩ (.int .i64 zi)).setCell ⟨wr.heap.size, 9, none⟩ (.string zs)).setCell ⟨wr.heap.size, 10, none⟩ (.slice zal znl zcl)).setCell ⟨wr.heap.size, 11, none⟩ (.slice zam znm zcm)).setCell ⟨wr.heap.size, 13, none⟩ (.bool true)).drew := (Rw4w2.grown gE.1 (by omega) (fun q e => by cases e; omega)).drew
      clear hHeld oM oE gE k1 k2 fx x0 x1 x2 x3 x4 x5 x6 x7 x8 x9 x10 x11 x12 x13
      generalize (((((((w4w2.setCell ⟨wr.heap.size, 6, none⟩ (.int .i64 zk)).setCell ⟨wr.heap.size, 7, none⟩ (.bool zb)).setCell ⟨wr.heap.size, 8, none⟩ (.int .i64 zi)).setCell ⟨wr.heap.size, 9, none⟩ (.string zs)).setCell ⟨wr.heap.size, 10, none⟩ (.slice zal znl zcl)).setCell ⟨wr.heap.size, 11, none⟩ (.slice zam znm zcm)).setCell ⟨wr.heap.size, 13, none⟩ (.bool true)).drew = w5w2 at *
      have x0 : w5w2.cell? ⟨wr.heap.size, 0, none⟩ = some (.int .i64 0) := by rw [cell_of_block hxw5w2]; rfl
      have x1 : w5w2.cell? ⟨wr.heap.size, 1, none⟩ = some (.bool false) := by rw [cell_of_block hxw5w2]; rfl
      have x2 : w5w2.cell? ⟨wr.heap.size, 2, none⟩ = some (.int .i64 0) := by rw [cell_of_block hxw5w2]; rfl
      have x3 : w5w2.cell? ⟨wr.heap.size, 3, none⟩ = some (.string ⟨#[]⟩) := by rw [cell_of_block hxw5w2]; rfl
      have x4 : w5w2.cell? ⟨wr.heap.size, 4, none⟩ = some (.slice none 0 0) := by rw [cell_of_block hxw5w2]; rfl
      have x5 : w5w2.cell? ⟨wr.heap.size, 5, none⟩ = some (.slice none 0 0) := by rw [cell_of_block hxw5w2]; rfl
      have x6 : w5w2.cell? ⟨wr.heap.size, 6, none⟩ = some (.int .i64 zk) := by rw [cell_of_block hxw5w2]; rfl
      have x7 : w5w2.cell? ⟨wr.heap.size, 7, none⟩ = some (.bool zb) := by rw [cell_of_block hxw5w2]; rfl
      have x8 : w5w2.cell? ⟨wr.heap.size, 8, none⟩ = some (.int .i64 zi) := by rw [cell_of_block hxw5w2]; rfl
      have x9 : w5w2.cell? ⟨wr.heap.size, 9, none⟩ = some (.string zs) := by rw [cell_of_block hxw5w2]; rfl
      have x10 : w5w2.cell? ⟨wr.heap.size, 10, none⟩ = some (.slice zal znl zcl) := by rw [cell_of_block hxw5w2]; rfl
      have x11 : w5w2.cell? ⟨wr.heap.size, 11, none⟩ = some (.slice zam znm zcm) := by rw [cell_of_block hxw5w2]; rfl
      have x12 : w5w2.cell? ⟨wr.heap.size, 12, none⟩ = some (.bool false) := by rw [cell_of_block hxw5w2]; rfl
      have x13 : w5w2.cell? ⟨wr.heap.size, 13, none⟩ = some (.bool true) := by rw [cell_of_block hxw5w2]; rfl
      have hjk : J pre w5w2 := hJ _ _ _ none hj ⟨Rw5w2.os, Rw5w2.tape, Rw5w2.output, Rw5w2.size, fun q hq _ => Rw5w2.block q hq⟩ (fun r e => by cases e)
      obtain ⟨fn, tmps, assign, body, hy, hR⟩ := hY pre x rest w5w2 hx hjk
      have hen : x.enc = #[.string zkey, .agg #[.int .i64 0, .bool false, .int .i64 0, .string ⟨#[]⟩, .slice none 0 0, .slice none 0 0, .int .i64 zk, .bool zb, .int .i64 zi, .string zs, .slice zal znl zcl, .slice zam znm zcm, .bool false, .bool true]] := by rw [hxv]; rfl
      rw [hen] at hy
      clear hen hjk
      gi_wp2
      refine ⟨fun h => (by cases h), hR.mono ?_⟩
      rintro e W3 (⟨rfl, hJ3, hk3⟩ | ⟨ch, rfl, hJp3⟩)
      ·gi_wp2
       go_roundw
       case rel => exact ⟨i + 0, k + 1, pre ++ [x], rest, by omega, by omega, rfl, by go_num, hmk (by rw [hx]; simp), hrs, Bw5w2.trans hk3, hJ3⟩
       case measure => simp [RowKit.intOf]; omega
      ·gi_wp2
       first | exact ⟨rfl, .inr ⟨ch, pre ++ [x], rest, rfl, by rw [hx]; simp, hJp3⟩⟩ | exact .inr ⟨ch, pre ++ [x], rest, rfl, by rw [hx]; simp, hJp3⟩ | exact .inr ⟨pre ++ [x], ⟨rest, by rw [← hxs, hx]; simp⟩, hJp3⟩ | exact PANHERE
    ·have q3 : ¬ (qa[i]).1.1.toList = (qb[k]).1.1.toList := lt_ne q1
     have q2 : ¬ ltB (qb[k]).1.1 (qa[i]).1.1 = true := by rw [lt_asym q1]; simp
     obtain ⟨rfl, hba, hbav⟩ := ha (by omega)
     obtain ⟨yk, yb, yi, ys, yal, ynl, ycl, yam, ynm, ycm, eya⟩ := ka qa[i] (List.getElem_mem hi2)
     have rowa := ra.row i (by simpa using hi2)
     rw [List.getElem_map, eya] at rowa
     obtain ⟨rfl, hbb, hbbv⟩ := hb (by omega)
     obtain ⟨zk, zb, zi, zs, zal, znl, zcl, zam, znm, zcm, ezb⟩ := kb qb[k] (List.getElem_mem hk2)
     have rowb := rb.row k (by simpa using hk2)
     rw [List.getElem_map, ezb] at rowb
     have hda : qa.drop i = qa[i] :: qa.drop (i + 1) := List.drop_eq_getElem_cons hi2
     have hdb : qb.drop k = qb[k] :: qb.drop (k + 1) := List.drop_eq_getElem_cons hk2
     rw [hda, hdb, tgR] at hr
     rw [if_pos q1] at hr
     obtain ⟨x, rest, rfl, hxv, hrs⟩ := cons_of hr
     have hrs : rest = tgR (qa.drop (i + 1)) (qb.drop (k + 0)) := by show rest = tgR (qa.drop (i + 1)) (qb.drop k); rw [hdb]; exact hrs
     rw [pA, eya] at hxv
     simp only [List.tail_cons] at hxv
     rcases hym : (qa[i]).1 with ⟨ykey, yv⟩
     rcases hzm : (qb[k]).1 with ⟨zkey, zv⟩
     simp only [hym, hzm] at hxv rowa rowb q1 q2 q3
     have kL : Op.bytesLess ykey.toList zkey.toList = true := q1
     have kG : Op.bytesLess zkey.toList ykey.toList = false := by simpa [ltB] using q2
     have kE : (ykey.toList == zkey.toList) = false := beq_eq_false_iff_ne.2 q3
     have kF : (zkey.toList == ykey.toList) = false := beq_eq_false_iff_ne.2 (fun h => q3 h.symm)
     clear hr eya ezb hym hzm hda hdb q1 q2 q3
     have Bw1 : Kx n0 vx w (wr.alloc (.cells #[.int .i64 0, .bool false, .int .i64 0, .string ⟨#[]⟩, .slice none 0 0, .slice none 0 0, .int .i64 0, .bool false, .int .i64 0, .string ⟨#[]⟩, .slice none 0 0, .slice none 0 0, .bool false, .bool false] 73)) := bw.trans (kx_of (((Below.refl _ wr).alloc (Nat.le_refl _) _).mono (Nat.le_trans hn0 bw.size)))
     have Rw1 : Below wr.heap.size wr (wr.alloc (.cells #[.int .i64 0, .bool false, .int .i64 0, .string ⟨#[]⟩, .slice none 0 0, .slice none 0 0, .int .i64 0, .bool false, .int .i64 0, .string ⟨#[]⟩, .slice none 0 0, .slice none 0 0, .bool false, .bool false] 73)) := (Below.refl _ wr).alloc (Nat.le_refl _) _
     have hxw1 := heap_alloc_new wr (.cells #[.int .i64 0, .bool false, .int .i64 0, .string ⟨#[]⟩, .slice none 0 0, .slice none 0 0, .int .i64 0, .bool false, .int .i64 0, .string ⟨#[]⟩, .slice none 0 0, .slice none 0 0, .bool false, .bool false] 73)
     have hzw1 : (wr.alloc (.cells #[.int .i64 0, .bool false, .int .i64 0, .string ⟨#[]⟩, .slice none 0 0, .slice none 0 0, .int .i64 0, .bool false, .int .i64 0, .string ⟨#[]⟩, .slice none 0 0, .slice none 0 0, .bool false, .bool false] 73)).heap.size = wr.heap.size + 1 := alloc_size _ _
     have hnr : n0 ≤ wr.heap.size := Nat.le_trans hn0 bw.size
     have p1 := (Bw1.cell (p := ⟨A1, 0, none⟩) hA1 hv1).trans h1
     have p2 := (Bw1.cell (p := ⟨A2, 0, none⟩) hA2 hv2).trans h2
     obtain ⟨ra_, ra0, ra1, ra2, ra3, ra4, ra5⟩ := row7 (rowa.keep (Bw1.block ba hba hbav))
     obtain ⟨rb_, rb0, rb1, rb2, rb3, rb4, rb5⟩ := row7 (rowb.keep (Bw1.block bb hbb hbbv))
     have s1 : ∀ z : Sub (wr.alloc (.cells #[.int .i64 0, .bool false, .int .i64 0, .string ⟨#[]⟩, .slice none 0 0, .slice none 0 0, .int .i64 0, .bool false, .int .i64 0, .string ⟨#[]⟩, .slice none 0 0, .slice none 0 0, .bool false, .bool false] 73)).heap.size (wr.alloc (.cells #[.int .i64 0, .bool false, .int .i64 0, .string ⟨#[]⟩, .slice none 0 0, .slice none 0 0, .int .i64 0, .bool false, .int .i64 0, .string ⟨#[]⟩, .slice none 0 0, .slice none 0 0, .bool false, .bool false] 73)), _ := sub_cell p1 (by show A1 < _; omega)
     have s2 : ∀ z : Sub (wr.alloc (.cells #[.int .i64 0, .bool false, .int .i64 0, .string ⟨#[]⟩, .slice none 0 0, .slice none 0 0, .int .i64 0, .bool false, .int .i64 0, .string ⟨#[]⟩, .slice none 0 0, .slice none 0 0, .bool false, .bool false] 73)).heap.size (wr.alloc (.cells #[.int .i64 0, .bool false, .int .i64 0, .string ⟨#[]⟩, .slice none 0 0, .slice none 0 0, .int .i64 0, .bool false, .int .i64 0, .string ⟨#[]⟩, .slice none 0 0, .slice none 0 0, .bool false, .bool false] 73)), _ := sub_cell p2 (by show A2 < _; omega)
     have sa_ : ∀ z : Sub (wr.alloc (.cells #[.int .i64 0, .bool false, .int .i64 0, .string ⟨#[]⟩, .slice none 0 0, .slice none 0 0, .int .i64 0, .bool false, .int .i64 0, .string ⟨#[]⟩, .slice none 0 0, .slice none 0 0, .bool false, .bool false] 73)).heap.size (wr.alloc (.cells #[.int .i64 0, .bool false, .int .i64 0, .string ⟨#[]⟩, .slice none 0 0, .slice none 0 0, .int .i64 0, .bool false, .int .i64 0, .string ⟨#[]⟩, .slice none 0 0, .slice none 0 0, .bool false, .bool false] 73)), _ := sub_cell ra_ (by show ba < _; omega)
     have sa0 : ∀ z : Sub (wr.alloc (.cells #[.int .i64 0, .bool false, .int .i64 0, .string ⟨#[]⟩, .slice none 0 0, .slice none 0 0, .int .i64 0, .bool false, .int .i64 0, .string ⟨#[]⟩, .slice none 0 0, .slice none 0 0, .bool false, .bool false] 73)).heap.size (wr.alloc (.cells #[.int .i64 0, .bool false, .int .i64 0, .string ⟨#[]⟩, .slice none 0 0, .slice none 0 0, .int .i64 0, .bool false, .int .i64 0, .string ⟨#[]⟩, .slice none 0 0, .slice none 0 0, .bool false, .bool false] 73)), _ := sub_cell ra0 (by show ba < _; omega)
     have sa1 : ∀ z : Sub (wr.alloc (.cells #[.int .i64 0, .bool false, .int .i64 0, .string ⟨#[]⟩, .slice none 0 0, .slice none 0 0, .int .i64 0, .bool false, .int .i64 0, .string ⟨#[]⟩, .slice none 0 0, .slice none 0 0, .bool false, .bool false] 73)).heap.size (wr.alloc (.cells #[.int .i64 0, .bool false, .int .i64 0, .string ⟨#[]⟩, .slice none 0 0, .slice none 0 0, .int .i64 0, .bool false, .int .i64 0, .string ⟨#[]⟩, .slice none 0 0, .slice none 0 0, .bool false, .bool false] 73)), _ := sub_cell ra1 (by show ba < _; omega)
     have sa2 : ∀ z : Sub (wr.alloc (.cells #[.int .i64 0, .bool false, .int .i64 0, .string ⟨#[]⟩, .slice none 0 0, .slice none 0 0, .int .i64 0, .bool false, .int .i64 0, .string ⟨#[]⟩, .slice none 0 0, .slice none 0 0, .bool false, .bool false] 73)).heap.size (wr.alloc (.cells #[.int .i64 0, .bool false, .int .i64 0, .string ⟨#[]⟩, .slice none 0 0, .slice none 0 0, .int .i64 0, .bool false, .int .i64 0, .string ⟨#[]⟩, .slice none 0 0, .slice none 0 0, .bool false, .bool false] 73)), _ := sub_cell ra2 (by show ba < _; omega)
     have sa3 : ∀ z : Sub (wr.alloc (.cells #[.int .i64 0, .bool false, .int .i64 0, .string ⟨#[]⟩, .slice none 0 0, .slice none 0 0, .int .i64 0, .bool false, .int .i64 0, .string ⟨#[]⟩, .slice none 0 0, .slice none 0 0, .bool false, .bool false] 73)).heap.size (wr.alloc (.cells #[.int .i64 0, .bool false, .int .i64 0, .string ⟨#[]⟩, .slice none 0 0, .slice none 0 0, .int .i64 0, .bool false, .int .i64 0, .string ⟨#[]⟩, .slice none 0 0, .slice none 0 0, .bool false, .bool false] 73)), _ := sub_cell ra3 (by show ba < _; omega)
     have sa4 : ∀ z : Sub (wr.alloc (.cells #[.int .i64 0, .bool false, .int .i64 0, .string ⟨#[]⟩, .slice none 0 0, .slice none 0 0, .int .i64 0, .bool false, .int .i64 0, .string ⟨#[]⟩, .slice none 0 0, .slice none 0 0, .bool false, .bool false] 73)).heap.size (wr.alloc (.cells #[.int .i64 0, .bool false, .int .i64 0, .string ⟨#[]⟩, .slice none 0 0, .slice none 0 0, .int .i64 0, .bool false, .int .i64 0, .string ⟨#[]⟩, .slice none 0 0, .slice none 0 0, .bool false, .bool false] 73)), _ := sub_cell ra4 (by show ba < _; omega)
     have sa5 : ∀ z : Sub (wr.alloc (.cells #[.int .i64 0, .bool false, .int .i64 0, .string ⟨#[]⟩, .slice none 0 0, .slice none 0 0, .int .i64 0, .bool false, .int .i64 0, .string ⟨#[]⟩, .slice none 0 0, .slice none 0 0, .bool false, .bool false] 73)).heap.size (wr.alloc (.cells #[.int .i64 0, .bool false, .int .i64 0, .string ⟨#[]⟩, .slice none 0 0, .slice none 0 0, .int .i64 0, .bool false, .int .i64 0, .string ⟨#[]⟩, .slice none 0 0, .slice none 0 0, .bool false, .bool false] 73)), _ := sub_cell ra5 (by show ba < _; omega)
     have sb_ : ∀ z : Sub (wr.alloc (.cells #[.int .i64 0, .bool false, .int .i64 0, .string ⟨#[]⟩, .slice none 0 0, .slice none 0 0, .int .i64 0, .bool false, .int .i64 0, .string ⟨#[]⟩, .slice none 0 0, .slice none 0 0, .bool false, .bool false] 73)).heap.size (wr.alloc (.cells #[.int .i64 0, .bool false, .int .i64 0, .string ⟨#[]⟩, .slice none 0 0, .slice none 0 0, .int .i64 0, .bool false, .int .i64 0, .string ⟨#[]⟩, .slice none 0 0, .slice none 0 0, .bool false, .bool false] 73)), _ := sub_cell rb_ (by show bb < _; omega)
     have sb0 : ∀ z : Sub (wr.alloc (.cells #[.int .i64 0, .bool false, .int .i64 0, .string ⟨#[]⟩, .slice none 0 0, .slice none 0 0, .int .i64 0, .bool false, .int .i64 0, .string ⟨#[]⟩, .slice none 0 0, .slice none 0 0, .bool false, .bool false] 73)).heap.size (wr.alloc (.cells #[.int .i64 0, .bool false, .int .i64 0, .string ⟨#[]⟩, .slice none 0 0, .slice none 0 0, .int .i64 0, .bool false, .int .i64 0, .string ⟨#[]⟩, .slice none 0 0, .slice none 0 0, .bool false, .bool false] 73)), _ := sub_cell rb0 (by show bb < _; omega)
     have sb1 : ∀ z : Sub (wr.alloc (.cells #[.int .i64 0, .bool false, .int .i64 0, .string ⟨#[]⟩, .slice none 0 0, .slice none 0 0, .int .i64 0, .bool false, .int .i64 0, .string ⟨#[]⟩, .slice none 0 0, .slice none 0 0, .bool false, .bool false] 73)).heap.size (wr.alloc (.cells #[.int .i64 0, .bool false, .int .i64 0, .string ⟨#[]⟩, .slice none 0 0, .slice none 0 0, .int .i64 0, .bool false, .int .i64 0, .string ⟨#[]⟩, .slice none 0 0, .slice none 0 0, .bool false, .bool false] 73)), _ := sub_cell rb1 (by show bb < _; omega)
     have sb2 : ∀ z : Sub (wr.alloc (.cells #[.int .i64 0, .bool false, .int .i64 0, .string ⟨#[]⟩, .slice none 0 0, .slice none 0 0, .int .i64 0, .bool false, .int .i64 0, .string ⟨#[]⟩, .slice none 0 0, .slice none 0 0, .bool false, .bool false] 73)).heap.size (wr.alloc (.cells #[.int .i64 0, .bool false, .int .i64 0, .string ⟨#[]⟩, .slice none 0 0, .slice none 0 0, .int .i64 0, .bool false, .int .i64 0, .string ⟨#[]⟩, .slice none 0 0, .slice none 0 0, .bool false, .bool false] 73)), _ := sub_cell rb2 (by show bb < _; omega)
     have sb3 : ∀ z : Sub (wr.alloc (.cells #[.int .i64 0, .bool false, .int .i64 0, .string ⟨#[]⟩, .slice none 0 0, .slice none 0 0, .int .i64 0, .bool false, .int .i64 0, .string ⟨#[]⟩, .slice none 0 0, .slice none 0 0, .bool false, .bool false] 73)).heap.size (wr.alloc (.cells #[.int .i64 0, .bool false, .int .i64 0, .string ⟨#[]⟩, .slice none 0 0, .slice none 0 0, .int .i64 0, .bool false, .int .i64 0, .string ⟨#[]⟩, .slice none 0 0, .slice none 0 0, .bool false, .bool false] 73)), _ := sub_cell rb3 (by show bb < _; omega)
     have sb4 : ∀ z : Sub (wr.alloc (.cells #[.int .i64 0, .bool false, .int .i64 0, .string ⟨#[]⟩, .slice none 0 0, .slice none 0 0, .int .i64 0, .bool false, .int .i64 0, .string ⟨#[]⟩, .slice none 0 0, .slice none 0 0, .bool false, .bool false] 73)).heap.size (wr.alloc (.cells #[.int .i64 0, .bool false, .int .i64 0, .string ⟨#[]⟩, .slice none 0 0, .slice none 0 0, .int .i64 0, .bool false, .int .i64 0, .string ⟨#[]⟩, .slice none 0 0, .slice none 0 0, .bool false, .bool false] 73)), _ := sub_cell rb4 (by show bb < _; omega)
     have sb5 : ∀ z : Sub (wr.alloc (.cells #[.int .i64 0, .bool false, .int .i64 0, .string ⟨#[]⟩, .slice none 0 0, .slice none 0 0, .int .i64 0, .bool false, .int .i64 0, .string ⟨#[]⟩, .slice none 0 0, .slice none 0 0, .bool false, .bool false] 73)).heap.size (wr.alloc (.cells #[.int .i64 0, .bool false, .int .i64 0, .string ⟨#[]⟩, .slice none 0 0, .slice none 0 0, .int .i64 0, .bool false, .int .i64 0, .string ⟨#[]⟩, .slice none 0 0, .slice none 0 0, .bool false, .bool false] 73)), _ := sub_cell rb5 (by show bb < _; omega)
     gi_wp2
     clear c1 c2
     generalize (wr.alloc (.cells #[.int .i64 0, .bool false, .int .i64 0, .string ⟨#[]⟩, .slice none 0 0, .slice none 0 0, .int .i64 0, .bool false, .int .i64 0, .string ⟨#[]⟩, .slice none 0 0, .slice none 0 0, .bool false, .bool false] 73)) = w1 at *
     refine wpIn_wide.2 ?_
     refine wp_region_sub w1.heap.size (by kernel_rfl) (by kernel_rfl) ?_
     repeat (go_big_quiet_step (fail))
     refine wpQuiet_nil ?_
     rintro w2 ⟨⟨w2', bw2⟩, hj_⟩
     have hj_' : w2 = w2' := hj_
     subst hj_'
     clear hj_
     have hzw2 := bw2.size
     have Bw2 := Bw1.trans (kx_of (bw2.mono (by omega)))
     have Rw2 := Rw1.trans (bw2.mono (by omega))
     have hxw2 := (bw2.block wr.heap.size (by omega)).trans hxw1
     clear bw2
     clear p1 p2 s1 s2 ra_ sa_ rb_ sb_ ra0 sa0 rb0 sb0 ra1 sa1 rb1 sb1 ra2 sa2 rb2 sb2 ra3 sa3 rb3 sb3 ra4 sa4 rb4 sb4 ra5 sa5 rb5 sb5
     gi_wp2
     have k1 := (Bw2.cell (p := ⟨A1, 0, none⟩) hA1 hv1).trans h1
     have k2 := rowa.keep (Bw2.block ba hba hbav)
     have x0 : w2.cell? ⟨wr.heap.size, 0, none⟩ = some (.int .i64 0) := by rw [cell_of_block hxw2]; rfl
     have x1 : w2.cell? ⟨wr.heap.size, 1, none⟩ = some (.bool false) := by rw [cell_of_block hxw2]; rfl
     have x2 : w2.cell? ⟨wr.heap.size, 2, none⟩ = some (.int .i64 0) := by rw [cell_of_block hxw2]; rfl
     have x3 : w2.cell? ⟨wr.heap.size, 3, none⟩ = some (.string ⟨#[]⟩) := by rw [cell_of_block hxw2]; rfl
     have x4 : w2.cell? ⟨wr.heap.size, 4, none⟩ = some (.slice none 0 0) := by rw [cell_of_block hxw2]; rfl
     have x5 : w2.cell? ⟨wr.heap.size, 5, none⟩ = some (.slice none 0 0) := by rw [cell_of_block hxw2]; rfl
     have x6 : w2.cell? ⟨wr.heap.size, 6, none⟩ = some (.int .i64 0) := by rw [cell_of_block hxw2]; rfl
     have x7 : w2.cell? ⟨wr.heap.size, 7, none⟩ = some (.bool false) := by rw [cell_of_block hxw2]; rfl
     have x8 : w2.cell? ⟨wr.heap.size, 8, none⟩ = some (.int .i64 0) := by rw [cell_of_block hxw2]; rfl
     have x9 : w2.cell? ⟨wr.heap.size, 9, none⟩ = some (.string ⟨#[]⟩) := by rw [cell_of_block hxw2]; rfl
     have x10 : w2.cell? ⟨wr.heap.size, 10, none⟩ = some (.slice none 0 0) := by rw [cell_of_block hxw2]; rfl
     have x11 : w2.cell? ⟨wr.heap.size, 11, none⟩ = some (.slice none 0 0) := by rw [cell_of_block hxw2]; rfl
     have x12 : w2.cell? ⟨wr.heap.size, 12, none⟩ = some (.bool false) := by rw [cell_of_block hxw2]; rfl
     have x13 : w2.cell? ⟨wr.heap.size, 13, none⟩ = some (.bool false) := by rw [cell_of_block hxw2]; rfl
     have fx := frozen_of_block hxw2
     refine wpIn_wide.2 ?_
     refine wp_region_held_drew (S := (fun W => W.cell? ⟨A1, 0, none⟩ = some (.slice (some ⟨ba, oa, none⟩) qa.length ca) ∧ rowAt W ba (oa + i * 7) (.string ykey :: [.int .i64 yk, .bool yb, .int .i64 yi, .string ys, .slice yal ynl ycl, .slice yam ynm ycm]))) (by kernel_rfl) ⟨k1, k2⟩ (fun hHeld => ?_)
     (refine tkA 0 ?_ ?_ ?_; rotate_left 1; (intro W0 hSw; (have o9 := hSw.1); go_simp; (try with_reducible rfl)); (try simp only [Act.put, zA, zB, zC]))
     (refine tjA 1 ?_; (try simp only [Act.put, zA, zB, zC]))
     (refine tjA 2 ?_; (try simp only [Act.put, zA, zB, zC]))
     (refine tjA 3 ?_; (try simp only [Act.put, zA, zB, zC]))
     (refine tkA 4 ?_ ?_ ?_; rotate_left 1; (intro W0 hSw; (obtain ⟨o_, o0, o1, o2, o3, o4, o5⟩ := row7 hSw.2); go_simp; (try with_reducible rfl)); (try simp only [Act.put, zA, zB, zC]))
     (refine tkA 5 ?_ ?_ ?_; rotate_left 1; (intro W0 hSw; (have o9 := hSw.1); go_simp; (try with_reducible rfl)); (try simp only [Act.put, zA, zB, zC]))
     (refine tjA 6 ?_; (try simp only [Act.put, zA, zB, zC]))
     (refine tjA 7 ?_; (try simp only [Act.put, zA, zB, zC]))
     (refine tjA 8 ?_; (try simp only [Act.put, zA, zB, zC]))
     (refine tkA 9 ?_ ?_ ?_; rotate_left 1; (intro W0 hSw; (obtain ⟨o_, o0, o1, o2, o3, o4, o5⟩ := row7 hSw.2); go_simp; (try with_reducible rfl)); (try simp only [Act.put, zA, zB, zC]))
     (refine tjA 10 ?_; (try simp only [Act.put, zA, zB, zC]))
     (refine tjA 11 ?_; (try simp only [Act.put, zA, zB, zC]))
     refine ryA [12] ?_
     refine rA1 fun K hK => ?_
     have oM : ∀ z, z ≠ wr.heap.size → ((((((w2.setCell ⟨wr.heap.size, 0, none⟩ (.int .i64 yk)).setCell ⟨wr.heap.size, 1, none⟩ (.bool yb)).setCell ⟨wr.heap.size, 2, none⟩ (.int .i64 yi)).setCell ⟨wr.heap.size, 3, none⟩ (.string ys)).setCell ⟨wr.heap.size, 4, none⟩ (.slice yal ynl ycl)).setCell ⟨wr.heap.size, 5, none⟩ (.slice yam ynm ycm)).drew.heap[z]? = w2.heap[z]? := fun z hz => (drew_at _ z).trans (by
      rw [set_other hz, set_other hz, set_other hz, set_other hz, set_other hz, set_other hz])
     have oE : ∀ z, z ≠ wr.heap.size → (((((((w2.setCell ⟨wr.heap.size, 0, none⟩ (.int .i64 yk)).setCell ⟨wr.heap.size, 1, none⟩ (.bool yb)).setCell ⟨wr.heap.size, 2, none⟩ (.int .i64 yi)).setCell ⟨wr.heap.size, 3, none⟩ (.string ys)).setCell ⟨wr.heap.size, 4, none⟩ (.slice yal ynl ycl)).setCell ⟨wr.heap.size, 5, none⟩ (.slice yam ynm ycm)).setCell ⟨wr.heap.size, 12, none⟩ (.bool true)).drew.heap[z]? = w2.heap[z]? := fun z hz => (drew_at _ z).trans (by
      rw [set_other hz, set_other hz, set_other hz, set_other hz, set_other hz, set_other hz, set_other hz])
     have gE := fillAo0 w2 wr.heap.size (.int .i64 yk) (.bool yb) (.int .i64 yi) (.string ys) (.slice yal ynl ycl) (.slice yam ynm ycm) (.bool true)
     have hxw3 := (drew_at _ _).trans (fillA0 hxw2 (.int .i64 yk) (.bool yb) (.int .i64 yi) (.string ys) (.slice yal ynl ycl) (.slice yam ynm ycm) (.bool true))
     go_simp
     refine hK.out _ _ ⟨(World.cell?_of_block (w := w2) (a := ⟨A1, 0, none⟩) (oM A1 (by omega))).trans k1, k2.keep (oM ba (by omega))⟩ (fun hHeld => ?_)
     clear hK K
     (try simp only [Act.put, zA, zB, zC])
     (refine tjA 13 ?_; (try simp only [Act.put, zA, zB, zC]))
     refine ryA [14] ?_
     refine rA1 fun K hK => ?_
     go_simp
     refine hK.out _ _ ⟨(World.cell?_of_block (w := w2) (a := ⟨A1, 0, none⟩) (oE A1 (by omega))).trans k1, k2.keep (oE ba (by omega))⟩ (fun hHeld => ?_)
     clear hK K
     (try simp only [Act.put, zA, zB, zC])
     refine wpAnyH_done (by kernel_rfl) ?_ _
     (try dsimp only [Act.put, List.getElem_toArray, List.getElem_cons_succ, List.getElem_cons_zero, List.setIfInBounds_toArray, List.set_cons_zero, List.set_cons_succ])
     have hzw3 : w2.heap.size ≤ (((((((w2.setCell ⟨wr.heap.size, 0, none⟩ (.int .i64 yk)).setCell ⟨wr.heap.size, 1, none⟩ (.bool yb)).setCell ⟨wr.heap.size, 2, none⟩ (.int .i64 yi)).setCell ⟨wr.heap.size, 3, none⟩ (.string ys)).setCell ⟨wr.heap.size, 4, none⟩ (.slice yal ynl ycl)).setCell ⟨wr.heap.size, 5, none⟩ (.slice yam ynm ycm)).setCell ⟨wr.heap.size, 12, none⟩ (.bool true)).drew.heap.size := by rw [drew_sz, gE.2]; exact Nat.le_refl _
     have Bw3 : Kx n0 vx w (((((((w2.setCell ⟨wr.heap.size, 0, none⟩ (.int .i64 yk)).setCell ⟨wr.heap.size, 1, none⟩ (.bool yb)).setCell ⟨wr.heap.size, 2, none⟩ (.int .i64 yi)).setCell ⟨wr.heap.size, 3, none⟩ (.string ys)).setCell ⟨wr.heap.size, 4, none⟩ (.slice yal ynl ycl)).setCell ⟨wr.heap.size, 5, none⟩ (.slice yam ynm ycm)).setCell ⟨wr.heap.size, 12, none⟩ (.bool true)).drew := Bw2.trans (kx_of ((Below.refl n0 _).grown gE.1 (by omega) (fun q e => by cases e; omega)).drew)
     have Rw3 : Below wr.heap.size wr (((((((w2.setCell ⟨wr.heap.size, 0, none⟩ (.int .i64 yk)).setCell ⟨wr.heap.size, 1, none⟩ (.bool yb)).setCell ⟨wr.heap.size, 2, none⟩ (.int .i64 yi)).setCell ⟨wr.heap.size, 3, none⟩ (.string ys)).setCell ⟨wr.heap.size, 4, none⟩ (.slice yal ynl ycl)).setCell ⟨wr.heap.size, 5, none⟩ (.slice yam ynm ycm)).setCell ⟨wr.heap.size, 12, none⟩ (.bool true)).drew := (Rw2.grown gE.1 (by omega) (fun q e => by cases e; omega)).drew
     clear hHeld oM oE gE k1 k2 fx x0 x1 x2 x3 x4 x5 x6 x7 x8 x9 x10 x11 x12 x13
     generalize (((((((w2.setCell ⟨wr.heap.size, 0, none⟩ (.int .i64 yk)).setCell ⟨wr.heap.size, 1, none⟩ (.bool yb)).setCell ⟨wr.heap.size, 2, none⟩ (.int .i64 yi)).setCell ⟨wr.heap.size, 3, none⟩ (.string ys)).setCell ⟨wr.heap.size, 4, none⟩ (.slice yal ynl ycl)).setCell ⟨wr.heap.size, 5, none⟩ (.slice yam ynm ycm)).setCell ⟨wr.heap.size, 12, none⟩ (.bool true)).drew = w3 at *
     have p1 := (Bw3.cell (p := ⟨A1, 0, none⟩) hA1 hv1).trans h1
     have p2 := (Bw3.cell (p := ⟨A2, 0, none⟩) hA2 hv2).trans h2
     obtain ⟨ra_, ra0, ra1, ra2, ra3, ra4, ra5⟩ := row7 (rowa.keep (Bw3.block ba hba hbav))
     obtain ⟨rb_, rb0, rb1, rb2, rb3, rb4, rb5⟩ := row7 (rowb.keep (Bw3.block bb hbb hbbv))
     have s1 : ∀ z : Sub w3.heap.size w3, _ := sub_cell p1 (by show A1 < _; omega)
     have s2 : ∀ z : Sub w3.heap.size w3, _ := sub_cell p2 (by show A2 < _; omega)
     have sa_ : ∀ z : Sub w3.heap.size w3, _ := sub_cell ra_ (by show ba < _; omega)
     have sa0 : ∀ z : Sub w3.heap.size w3, _ := sub_cell ra0 (by show ba < _; omega)
     have sa1 : ∀ z : Sub w3.heap.size w3, _ := sub_cell ra1 (by show ba < _; omega)
     have sa2 : ∀ z : Sub w3.heap.size w3, _ := sub_cell ra2 (by show ba < _; omega)
     have sa3 : ∀ z : Sub w3.heap.size w3, _ := sub_cell ra3 (by show ba < _; omega)
     have sa4 : ∀ z : Sub w3.heap.size w3, _ := sub_cell ra4 (by show ba < _; omega)
     have sa5 : ∀ z : Sub w3.heap.size w3, _ := sub_cell ra5 (by show ba < _; omega)
     have sb_ : ∀ z : Sub w3.heap.size w3, _ := sub_cell rb_ (by show bb < _; omega)
     have sb0 : ∀ z : Sub w3.heap.size w3, _ := sub_cell rb0 (by show bb < _; omega)
     have sb1 : ∀ z : Sub w3.heap.size w3, _ := sub_cell rb1 (by show bb < _; omega)
     have sb2 : ∀ z : Sub w3.heap.size w3, _ := sub_cell rb2 (by show bb < _; omega)
     have sb3 : ∀ z : Sub w3.heap.size w3, _ := sub_cell rb3 (by show bb < _; omega)
     have sb4 : ∀ z : Sub w3.heap.size w3, _ := sub_cell rb4 (by show bb < _; omega)
     have sb5 : ∀ z : Sub w3.heap.size w3, _ := sub_cell rb5 (by show bb < _; omega)
     gi_wp2
     refine wpIn_wide.2 ?_
     refine wp_region_sub w3.heap.size (by kernel_rfl) (by kernel_rfl) ?_
     repeat (go_big_quiet_step (fail))
     refine wpQuiet_nil ?_
     rintro w4w3 ⟨⟨w4w3', bw4w3⟩, hj_⟩
     have hj_' : w4w3 = w4w3' := hj_
     subst hj_'
     clear hj_
     have hzw4w3 := bw4w3.size
     have Bw4w3 := Bw3.trans (kx_of (bw4w3.mono (by omega)))
     have Rw4w3 := Rw3.trans (bw4w3.mono (by omega))
     have hxw4w3 := (bw4w3.block wr.heap.size (by omega)).trans hxw3
     clear bw4w3
     clear p1 p2 s1 s2 ra_ sa_ rb_ sb_ ra0 sa0 rb0 sb0 ra1 sa1 rb1 sb1 ra2 sa2 rb2 sb2 ra3 sa3 rb3 sb3 ra4 sa4 rb4 sb4 ra5 sa5 rb5 sb5
     have x0 : w4w3.cell? ⟨wr.heap.size, 0, none⟩ = some (.int .i64 yk) := by rw [cell_of_block hxw4w3]; rfl
     have x1 : w4w3.cell? ⟨wr.heap.size, 1, none⟩ = some (.bool yb) := by rw [cell_of_block hxw4w3]; rfl
     have x2 : w4w3.cell? ⟨wr.heap.size, 2, none⟩ = some (.int .i64 yi) := by rw [cell_of_block hxw4w3]; rfl
     have x3 : w4w3.cell? ⟨wr.heap.size, 3, none⟩ = some (.string ys) := by rw [cell_of_block hxw4w3]; rfl
     have x4 : w4w3.cell? ⟨wr.heap.size, 4, none⟩ = some (.slice yal ynl ycl) := by rw [cell_of_block hxw4w3]; rfl
     have x5 : w4w3.cell? ⟨wr.heap.size, 5, none⟩ = some (.slice yam ynm ycm) := by rw [cell_of_block hxw4w3]; rfl
     have x6 : w4w3.cell? ⟨wr.heap.size, 6, none⟩ = some (.int .i64 0) := by rw [cell_of_block hxw4w3]; rfl
     have x7 : w4w3.cell? ⟨wr.heap.size, 7, none⟩ = some (.bool false) := by rw [cell_of_block hxw4w3]; rfl
     have x8 : w4w3.cell? ⟨wr.heap.size, 8, none⟩ = some (.int .i64 0) := by rw [cell_of_block hxw4w3]; rfl
     have x9 : w4w3.cell? ⟨wr.heap.size, 9, none⟩ = some (.string ⟨#[]⟩) := by rw [cell_of_block hxw4w3]; rfl
     have x10 : w4w3.cell? ⟨wr.heap.size, 10, none⟩ = some (.slice none 0 0) := by rw [cell_of_block hxw4w3]; rfl
     have x11 : w4w3.cell? ⟨wr.heap.size, 11, none⟩ = some (.slice none 0 0) := by rw [cell_of_block hxw4w3]; rfl
     have x12 : w4w3.cell? ⟨wr.heap.size, 12, none⟩ = some (.bool true) := by rw [cell_of_block hxw4w3]; rfl
     have x13 : w4w3.cell? ⟨wr.heap.size, 13, none⟩ = some (.bool false) := by rw [cell_of_block hxw4w3]; rfl
     have hjk : J pre w4w3 := hJ _ _ _ none hj ⟨Rw4w3.os, Rw4w3.tape, Rw4w3.output, Rw4w3.size, fun q hq _ => Rw4w3.block q hq⟩ (fun r e => by cases e)
     obtain ⟨fn, tmps, assign, body, hy, hR⟩ := hY pre x rest w4w3 hx hjk
     have hen : x.enc = #[.string ykey, .agg #[.int .i64 yk, .bool yb, .int .i64 yi, .string ys, .slice yal ynl ycl, .slice yam ynm ycm, .int .i64 0, .bool false, .int .i64 0, .string ⟨#[]⟩, .slice none 0 0, .slice none 0 0, .bool true, .bool false]] := by rw [hxv]; rfl
     rw [hen] at hy
     clear hen hjk
     gi_wp2
     refine ⟨fun h => (by cases h), hR.mono ?_⟩
     rintro e W3 (⟨rfl, hJ3, hk3⟩ | ⟨ch, rfl, hJp3⟩)
     ·gi_wp2
      go_roundw
      case rel => exact ⟨i + 1, k + 0, pre ++ [x], rest, by omega, by omega, by go_num, rfl, hmk (by rw [hx]; simp), hrs, Bw4w3.trans hk3, hJ3⟩
      case measure => simp [RowKit.intOf]; omega
     ·gi_wp2
      first | exact ⟨rfl, .inr ⟨ch, pre ++ [x], rest, rfl, by rw [hx]; simp, hJp3⟩⟩ | exact .inr ⟨ch, pre ++ [x], rest, rfl, by rw [hx]; simp, hJp3⟩ | exact .inr ⟨pre ++ [x], ⟨rest, by rw [← hxs, hx]; simp⟩, hJp3⟩ | exact PANHERE
end Go.Proofs.YtjfldbmopjojdaaDoor
