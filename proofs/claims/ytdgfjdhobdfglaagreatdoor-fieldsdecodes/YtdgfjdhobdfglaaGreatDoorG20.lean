/- joined: CpyR ScaA PtxP -/
import Derived.Test.YtdgfjdhobdfglaaGreatDoorAneR
import Derived.Laws.MakeOwn
set_option linter.unusedSimpArgs false
set_option linter.unusedVariables false
set_option maxRecDepth 100000
namespace Go.Proofs.YtdgfjdhobdfglaaGreatDoor
open Go.RowKit Go.Lib
theorem set9_row {w : World} {g o : Nat} {arr : Array Value} {ty : TypeId} (h : w.heap[g]? = some (.cells arr ty (0, 0))) (ho : o + 9 <= arr.size) (c0 c1 c2 c3 c4 c5 c6 c7 c8 : Value) :
 ∃ arr', (((((((((w.setCell ⟨g, o, none⟩ c0).setCell ⟨g, o + 1, none⟩ c1).setCell ⟨g, o + 2, none⟩ c2).setCell ⟨g, o + 3, none⟩ c3).setCell ⟨g, o + 4, none⟩ c4).setCell ⟨g, o + 5, none⟩ c5).setCell ⟨g, o + 6, none⟩ c6).setCell ⟨g, o + 7, none⟩ c7).setCell ⟨g, o + 8, none⟩ c8).heap[g]? = some (.cells arr' ty (0, 0)) /\ arr'.size = arr.size /\ (∀ p, p < o -> arr'[p]? = arr[p]?) /\ rowAt (((((((((w.setCell ⟨g, o, none⟩ c0).setCell ⟨g, o + 1, none⟩ c1).setCell ⟨g, o + 2, none⟩ c2).setCell ⟨g, o + 3, none⟩ c3).setCell ⟨g, o + 4, none⟩ c4).setCell ⟨g, o + 5, none⟩ c5).setCell ⟨g, o + 6, none⟩ c6).setCell ⟨g, o + 7, none⟩ c7).setCell ⟨g, o + 8, none⟩ c8) g o [c0, c1, c2, c3, c4, c5, c6, c7, c8] /\ (∀ x, x ≠ g -> (((((((((w.setCell ⟨g, o, none⟩ c0).setCell ⟨g, o + 1, none⟩ c1).setCell ⟨g, o + 2, none⟩ c2).setCell ⟨g, o + 3, none⟩ c3).setCell ⟨g, o + 4, none⟩ c4).setCell ⟨g, o + 5, none⟩ c5).setCell ⟨g, o + 6, none⟩ c6).setCell ⟨g, o + 7, none⟩ c7).setCell ⟨g, o + 8, none⟩ c8).heap[x]? = w.heap[x]?) /\ (((((((((w.setCell ⟨g, o, none⟩ c0).setCell ⟨g, o + 1, none⟩ c1).setCell ⟨g, o + 2, none⟩ c2).setCell ⟨g, o + 3, none⟩ c3).setCell ⟨g, o + 4, none⟩ c4).setCell ⟨g, o + 5, none⟩ c5).setCell ⟨g, o + 6, none⟩ c6).setCell ⟨g, o + 7, none⟩ c7).setCell ⟨g, o + 8, none⟩ c8).heap.size = w.heap.size := by
 have h0 : (w.setCell ⟨g, o, none⟩ c0).heap[g]? = some (.cells (arr.setIfInBounds (o) c0) ty (0, 0)) := by rw [set_block h]
 have h1 : ((w.setCell ⟨g, o, none⟩ c0).setCell ⟨g, o + 1, none⟩ c1).heap[g]? = some (.cells ((arr.setIfInBounds (o) c0).setIfInBounds (o + 1) c1) ty (0, 0)) := by rw [set_block h0]
 have h2 : (((w.setCell ⟨g, o, none⟩ c0).setCell ⟨g, o + 1, none⟩ c1).setCell ⟨g, o + 2, none⟩ c2).heap[g]? = some (.cells (((arr.setIfInBounds (o) c0).setIfInBounds (o + 1) c1).setIfInBounds (o + 2) c2) ty (0, 0)) := by rw [set_block h1]
 have h3 : ((((w.setCell ⟨g, o, none⟩ c0).setCell ⟨g, o + 1, none⟩ c1).setCell ⟨g, o + 2, none⟩ c2).setCell ⟨g, o + 3, none⟩ c3).heap[g]? = some (.cells ((((arr.setIfInBounds (o) c0).setIfInBounds (o + 1) c1).setIfInBounds (o + 2) c2).setIfInBounds (o + 3) c3) ty (0, 0)) := by rw [set_block h2]
 have h4 : (((((w.setCell ⟨g, o, none⟩ c0).setCell ⟨g, o + 1, none⟩ c1).setCell ⟨g, o + 2, none⟩ c2).setCell ⟨g, o + 3, none⟩ c3).setCell ⟨g, o + 4, none⟩ c4).heap[g]? = some (.cells (((((arr.setIfInBounds (o) c0).setIfInBounds (o + 1) c1).setIfInBounds (o + 2) c2).setIfInBounds (o + 3) c3).setIfInBounds (o + 4) c4) ty (0, 0)) := by rw [set_block h3]
 have h5 : ((((((w.setCell ⟨g, o, none⟩ c0).setCell ⟨g, o + 1, none⟩ c1).setCell ⟨g, o + 2, none⟩ c2).setCell ⟨g, o + 3, none⟩ c3).setCell ⟨g, o + 4, none⟩ c4).setCell ⟨g, o + 5, none⟩ c5).heap[g]? = some (.cells ((((((arr.setIfInBounds (o) c0).setIfInBounds (o + 1) c1).setIfInBounds (o + 2) c2).setIfInBounds (o + 3) c3).setIfInBounds (o + 4) c4).setIfInBounds (o + 5) c5) ty (0, 0)) := by rw [set_block h4]
 have h6 : (((((((w.setCell ⟨g, o, none⟩ c0).setCell ⟨g, o + 1, none⟩ c1).setCell ⟨g, o + 2, none⟩ c2).setCell ⟨g, o + 3, none⟩ c3).setCell ⟨g, o + 4, none⟩ c4).setCell ⟨g, o + 5, none⟩ c5).setCell ⟨g, o + 6, none⟩ c6).heap[g]? = some (.cells (((((((arr.setIfInBounds (o) c0).setIfInBounds (o + 1) c1).setIfInBounds (o + 2) c2).setIfInBounds (o + 3) c3).setIfInBounds (o + 4) c4).setIfInBounds (o + 5) c5).setIfInBounds (o + 6) c6) ty (0, 0)) := by rw [set_block h5]
 have h7 : ((((((((w.setCell ⟨g, o, none⟩ c0).setCell ⟨g, o + 1, none⟩ c1).setCell ⟨g, o + 2, none⟩ c2).setCell ⟨g, o + 3, none⟩ c3).setCell ⟨g, o + 4, none⟩ c4).setCell ⟨g, o + 5, none⟩ c5).setCell ⟨g, o + 6, none⟩ c6).setCell ⟨g, o + 7, none⟩ c7).heap[g]? = some (.cells ((((((((arr.setIfInBounds (o) c0).setIfInBounds (o + 1) c1).setIfInBounds (o + 2) c2).setIfInBounds (o + 3) c3).setIfInBounds (o + 4) c4).setIfInBounds (o + 5) c5).setIfInBounds (o + 6) c6).setIfInBounds (o + 7) c7) ty (0, 0)) := by rw [set_block h6]
 have h8 : (((((((((w.setCell ⟨g, o, none⟩ c0).setCell ⟨g, o + 1, none⟩ c1).setCell ⟨g, o + 2, none⟩ c2).setCell ⟨g, o + 3, none⟩ c3).setCell ⟨g, o + 4, none⟩ c4).setCell ⟨g, o + 5, none⟩ c5).setCell ⟨g, o + 6, none⟩ c6).setCell ⟨g, o + 7, none⟩ c7).setCell ⟨g, o + 8, none⟩ c8).heap[g]? = some (.cells (((((((((arr.setIfInBounds (o) c0).setIfInBounds (o + 1) c1).setIfInBounds (o + 2) c2).setIfInBounds (o + 3) c3).setIfInBounds (o + 4) c4).setIfInBounds (o + 5) c5).setIfInBounds (o + 6) c6).setIfInBounds (o + 7) c7).setIfInBounds (o + 8) c8) ty (0, 0)) := by rw [set_block h7]
 refine ⟨_, h8, by simp, fun p hp => ?_, ?_, fun x hx => ?_, by simp [size_set1]⟩
 ·simp only [Array.getElem?_setIfInBounds]
  repeat (rw [if_neg (by omega)])
 ·intro q u hu
  rw [cell_of_block h8]
  have hq : q < 9 := by
   rcases Nat.lt_or_ge q 9 with h | h
   ·exact h
   ·rw [List.getElem?_eq_none (by simpa using h)] at hu; cases hu
  rcases (show q = 0 \/ q = 1 \/ q = 2 \/ q = 3 \/ q = 4 \/ q = 5 \/ q = 6 \/ q = 7 \/ q = 8 by omega) with rfl | rfl | rfl | rfl | rfl | rfl | rfl | rfl | rfl
  all_goals
   simp only [List.getElem?_cons_zero, List.getElem?_cons_succ, Option.some.injEq] at hu
   subst hu
   simp (config := { maxSteps := 200000 }) only [Array.getElem?_setIfInBounds, Array.size_setIfInBounds]
   repeat (first | rw [if_pos trivial] | rw [if_neg (by omega)] | rw [if_pos (by omega)])
 ·rw [set_other hx]; rw [set_other hx]; rw [set_other hx]; rw [set_other hx]; rw [set_other hx]; rw [set_other hx]; rw [set_other hx]; rw [set_other hx]; rw [set_other hx]
theorem Below.set9 {B M : Nat} {a w : World} (h : Below B a w) (hM : B <= M) (i0 i1 i2 i3 i4 i5 i6 i7 i8 : Nat) (u0 u1 u2 u3 u4 u5 u6 u7 u8 : Value) :
 Below B a (((((((((w.setCell ⟨M, i0, none⟩ u0).setCell ⟨M, i1, none⟩ u1).setCell ⟨M, i2, none⟩ u2).setCell ⟨M, i3, none⟩ u3).setCell ⟨M, i4, none⟩ u4).setCell ⟨M, i5, none⟩ u5).setCell ⟨M, i6, none⟩ u6).setCell ⟨M, i7, none⟩ u7).setCell ⟨M, i8, none⟩ u8) := by
 repeat (refine Below.setCell ?_ (by assumption) _)
 exact h
def New (w w' : World) (x : Nat) : Prop := w.heap.size <= x /\ x < w'.heap.size
def CyPost (l : List El) (w : World) (e : Ending) (w' : World) : Prop := ∃ g : Nat, e = .returned (.slice (some ⟨g, 0, none⟩) l.length l.length) /\ liesP w' (New w w') l g 0 /\ Below w.heap.size w w'
def RowsE (l : List El) (j g : Nat) (w : World) : Prop := ∀ (i : Nat) (h : i < l.length), i < j -> ∃ cs, rowAt w g (i * 9) cs /\ cs.length = 9 /\ (l[i]).lies w (fun x => g < x /\ x < w.heap.size) cs
def Blk (g ty n : Nat) (w : World) : Prop := ∃ arr, w.heap[g]? = some (.cells arr ty (0, 0)) /\ arr.size = n
theorem Blk.cell {g ty n : Nat} {w : World} (h : Blk g ty n w) (i : Nat) (hi : i < n) : ∃ v, w.cell? ⟨g, i, none⟩ = some v := by
 obtain ⟨arr, h1, h2⟩ := h
 exact ⟨arr[i], by rw [cell_of_block h1]; simp [h2, hi]⟩
theorem Blk.frozen {g ty n : Nat} {w : World} (h : Blk g ty n w) (i : Nat) : w.frozen? ⟨g, i, none⟩ = false := by
 obtain ⟨arr, h1, h2⟩ := h
 exact frozen_of_block h1 i
theorem Blk.keep {g ty n : Nat} {w w' : World} (h : Blk g ty n w) (e : w'.heap[g]? = w.heap[g]?) : Blk g ty n w' := by
 obtain ⟨arr, h1, h2⟩ := h
 exact ⟨arr, e.trans h1, h2⟩
theorem RowsE.below {l : List El} {j g : Nat} {w w' : World} (h : RowsE l j g w) (hg : g < w.heap.size) (hb : Below w.heap.size w w') : RowsE l j g w' := fun i hi hij => by
 obtain ⟨cs, r, hl, lies⟩ := h i hi hij
 exact ⟨cs, r.keep (hb.block g hg), hl, El.lies_keep (fun x hx => hb.block x hx.2) (fun x hx => ⟨hx.1, Nat.lt_of_lt_of_le hx.2 hb.size⟩) lies⟩
theorem RowsE.store {l : List El} {j g n : Nat} {w w3 : World} (h : RowsE l j g w3) (hB : Blk g 52 n w3) (hj : j < l.length) (hn : j * 9 + 9 <= n) {c0 c1 c2 c3 c4 c5 c6 c7 c8 : Value} (hv : (l[j]).lies w3 (fun x => g < x /\ x < w3.heap.size) [c0, c1, c2, c3, c4, c5, c6, c7, c8]) (hw : Below w.heap.size w w3) (hg : w.heap.size <= g) :
 RowsE l (j + 1) g (((((((((w3.setCell ⟨g, j * 9, none⟩ c0).setCell ⟨g, j * 9 + 1, none⟩ c1).setCell ⟨g, j * 9 + 2, none⟩ c2).setCell ⟨g, j * 9 + 3, none⟩ c3).setCell ⟨g, j * 9 + 4, none⟩ c4).setCell ⟨g, j * 9 + 5, none⟩ c5).setCell ⟨g, j * 9 + 6, none⟩ c6).setCell ⟨g, j * 9 + 7, none⟩ c7).setCell ⟨g, j * 9 + 8, none⟩ c8) /\ Blk g 52 n (((((((((w3.setCell ⟨g, j * 9, none⟩ c0).setCell ⟨g, j * 9 + 1, none⟩ c1).setCell ⟨g, j * 9 + 2, none⟩ c2).setCell ⟨g, j * 9 + 3, none⟩ c3).setCell ⟨g, j * 9 + 4, none⟩ c4).setCell ⟨g, j * 9 + 5, none⟩ c5).setCell ⟨g, j * 9 + 6, none⟩ c6).setCell ⟨g, j * 9 + 7, none⟩ c7).setCell ⟨g, j * 9 + 8, none⟩ c8) /\ Below w.heap.size w (((((((((w3.setCell ⟨g, j * 9, none⟩ c0).setCell ⟨g, j * 9 + 1, none⟩ c1).setCell ⟨g, j * 9 + 2, none⟩ c2).setCell ⟨g, j * 9 + 3, none⟩ c3).setCell ⟨g, j * 9 + 4, none⟩ c4).setCell ⟨g, j * 9 + 5, none⟩ c5).setCell ⟨g, j * 9 + 6, none⟩ c6).setCell ⟨g, j * 9 + 7, none⟩ c7).setCell ⟨g, j * 9 + 8, none⟩ c8) := by
 obtain ⟨arr, h1, h2⟩ := hB
 obtain ⟨arr', e1, e2, e3, e4, e5, e6⟩ := set9_row h1 (o := j * 9) (by omega) c0 c1 c2 c3 c4 c5 c6 c7 c8
 have hBl := Below.set9 hw hg (j * 9) (j * 9 + 1) (j * 9 + 2) (j * 9 + 3) (j * 9 + 4) (j * 9 + 5) (j * 9 + 6) (j * 9 + 7) (j * 9 + 8) c0 c1 c2 c3 c4 c5 c6 c7 c8
 generalize (((((((((w3.setCell ⟨g, j * 9, none⟩ c0).setCell ⟨g, j * 9 + 1, none⟩ c1).setCell ⟨g, j * 9 + 2, none⟩ c2).setCell ⟨g, j * 9 + 3, none⟩ c3).setCell ⟨g, j * 9 + 4, none⟩ c4).setCell ⟨g, j * 9 + 5, none⟩ c5).setCell ⟨g, j * 9 + 6, none⟩ c6).setCell ⟨g, j * 9 + 7, none⟩ c7).setCell ⟨g, j * 9 + 8, none⟩ c8) = W at *
 refine ⟨fun i hi hij => ?_, ⟨arr', e1, by omega⟩, hBl⟩
 by_cases hij' : i < j
 ·obtain ⟨cs, r, hl, lies⟩ := h i hi hij'
  refine ⟨cs, fun q u hu => ?_, hl, El.lies_keep (fun x hx => e5 x (by have := hx.1; omega)) (fun x hx => ⟨hx.1, by rw [e6]; exact hx.2⟩) lies⟩
  have := r q u hu
  have hq : q < 9 := by
   rcases Nat.lt_or_ge q 9 with h | h
   ·exact h
   ·rw [List.getElem?_eq_none (by omega)] at hu; cases hu
  rw [cell_of_block h1] at this
  rw [cell_of_block e1, e3 _ (by omega)]
  exact this
 ·obtain rfl : i = j := by omega
  exact ⟨_, e4, rfl, El.lies_keep (fun x hx => e5 x (by have := hx.1; omega)) (fun x hx => ⟨hx.1, by rw [e6]; exact hx.2⟩) hv⟩
set_option maxHeartbeats 8000000 in
theorem copy_any (l : List El) (S : Nat -> Prop) (al : Option Addr) (cl bl ol : Nat) (w : World) (hal : Headed al l.length cl bl ol) (hl : liesP w S l bl ol) (hS : ∀ b, S b -> b < w.heap.size) (hwt : wtP l <= 2147483647) :
 Calls Tryz.prog 22 #[.slice al l.length cl] w (CyPost (l.map anE) w) := by
 have HL := hmk hl
 have HS := hmk hS
 clear hl
 have hlen := wtP_len l
 obtain ⟨i0, hi0, hz0, hz1, hz2⟩ := info_parts info35
 have hmkq : ∀ W, (Instr.makeSlice 46 (.int .i64 (l.length : Int)) (.int .i64 (l.length : Int))).run Tryz.prog W = .ok (.slice (some ⟨W.heap.size, 0, none⟩) l.length l.length) (W.alloc (.cells (madeCells #[.int .i64 0, .string ⟨#[]⟩, .slice none 0 0, .int .i64 0, .bool false, .int .i64 0, .string ⟨#[]⟩, .slice none 0 0, .slice none 0 0] (l.length * 9)) 52)) := fun W => by
  have h := run_make (P := Tryz.prog) W 46 52 i0 _ Tryz.underlying46 hi0 hz0 .i64 .i64 (l.length : Int) (l.length : Int) (by omega) (by omega) (by rw [hz2]; omega) (by omega)
  rw [hz1] at h
  simpa [Value.cells] using h
 have hzm := alloc_size w (.cells (madeCells #[.int .i64 0, .string ⟨#[]⟩, .slice none 0 0, .int .i64 0, .bool false, .int .i64 0, .string ⟨#[]⟩, .slice none 0 0, .slice none 0 0] (l.length * 9)) 52)
 have B0 : Below w.heap.size w (w.alloc (.cells (madeCells #[.int .i64 0, .string ⟨#[]⟩, .slice none 0 0, .int .i64 0, .bool false, .int .i64 0, .string ⟨#[]⟩, .slice none 0 0, .slice none 0 0] (l.length * 9)) 52)) := (Below.refl _ _).alloc (Nat.le_refl _) _
 have K0 : Blk w.heap.size 52 (l.length * 9) (w.alloc (.cells (madeCells #[.int .i64 0, .string ⟨#[]⟩, .slice none 0 0, .int .i64 0, .bool false, .int .i64 0, .string ⟨#[]⟩, .slice none 0 0, .slice none 0 0] (l.length * 9)) 52)) := ⟨_, heap_alloc_new w _, size_madeCells _ _⟩
 clear hi0 hz0 hz1 hz2
 go_enter Tryz.func22, Tryz.ntmps22
 go_wp2_with fail
 clear hmkq
 generalize (w.alloc (.cells (madeCells #[.int .i64 0, .string ⟨#[]⟩, .slice none 0 0, .int .i64 0, .bool false, .int .i64 0, .string ⟨#[]⟩, .slice none 0 0, .slice none 0 0] (l.length * 9)) 52)) = w0 at *
 go_loopw [11] (fun e wr => ∃ j : Nat, j <= l.length /\ e = .int .i64 (j : Int) /\ w0.heap.size <= wr.heap.size /\ Hid (RowsE (l.map anE) j w.heap.size wr) /\ Hid (Blk w.heap.size 52 (l.length * 9) wr) /\ Below w.heap.size w wr) (fun e _ => l.length - (RowKit.intOf e).toNat)
 case atStart => exact ⟨0, by omega, rfl, by omega, (fun i hi hij => by omega), K0, B0⟩
 case round =>
  clear K0 B0
  obtain ⟨j, hj, rfl, hzr, HR, HK, bj⟩ := hrel
  by_cases hjl : j < l.length
  ·have y1 : (j : Int) < l.length := by omega
   obtain ⟨hSb, csj, hrow, hlj⟩ := HL.out j hjl
   obtain rfl : al = some ⟨bl, ol, none⟩ := hal.at_.resolve_left (by omega)
   have hkw : ∀ x, S x -> wr.heap[x]? = w.heap[x]? := fun x hx => bj.block x (hS x hx)
   have hlj0 := hlj
   have hwx : (l[j]'hjl).wt <= 2147483647 := by have := wtP_mem (List.getElem_mem hjl); omega
   obtain ⟨ek, en, ema, eml, emc, vk, vb, vi, vs, val, vnl, vcl, vam, vnm, vcm, rfl⟩ := El.nine hlj
   obtain ⟨q0, q1, q2, q3, q4, q5, q6, q7, q8⟩ := row9 (hrow.keep (hkw _ hSb))
   have hza := alloc_size wr (.cells #[.int .i64 ek, .string en, .slice ema eml emc, .int .i64 vk, .bool vb, .int .i64 vi, .string vs, .slice val vnl vcl, .slice vam vnm vcm] 52)
   have ba : Below wr.heap.size wr (wr.alloc (.cells #[.int .i64 ek, .string en, .slice ema eml emc, .int .i64 vk, .bool vb, .int .i64 vi, .string vs, .slice val vnl vcl, .slice vam vnm vcm] 52)) := (Below.refl _ _).alloc (Nat.le_refl _) _
   have hc := hmk (anelem_any (l[j]'hjl) S _ (wr.alloc (.cells #[.int .i64 ek, .string en, .slice ema eml emc, .int .i64 vk, .bool vb, .int .i64 vi, .string vs, .slice val vnl vcl, .slice vam vnm vcm] 52)) (El.lies_keep (fun x hx => (ba.block x (by have := hS x hx; omega)).trans (hkw x hx)) (fun _ h => h) hlj0) (fun x hx => by have := hS x hx; omega) hwx)
   have HR1 : Hid (RowsE (l.map anE) j w.heap.size (wr.alloc (.cells #[.int .i64 ek, .string en, .slice ema eml emc, .int .i64 vk, .bool vb, .int .i64 vi, .string vs, .slice val vnl vcl, .slice vam vnm vcm] 52))) := HR.out.below (by omega) ba
   have HK1 : Hid (Blk w.heap.size 52 (l.length * 9) (wr.alloc (.cells #[.int .i64 ek, .string en, .slice ema eml emc, .int .i64 vk, .bool vb, .int .i64 vi, .string vs, .slice val vnl vcl, .slice vam vnm vcm] 52))) := HK.out.keep (ba.block _ (by omega))
   have B1 : Below w.heap.size w (wr.alloc (.cells #[.int .i64 ek, .string en, .slice ema eml emc, .int .i64 vk, .bool vb, .int .i64 vi, .string vs, .slice val vnl vcl, .slice vam vnm vcm] 52)) := bj.trans (ba.mono (by omega))
   clear hlj hlj0 hrow hkw HR HK
   go_wp2_with fail
   generalize (wr.alloc (.cells #[.int .i64 ek, .string en, .slice ema eml emc, .int .i64 vk, .bool vb, .int .i64 vi, .string vs, .slice val vnl vcl, .slice vam vnm vcm] 52)) = wa at *
   refine hc.out.mono ?_
   rintro e w3 ⟨csu, rfl, hlu, b3⟩
   obtain ⟨fk, fn, fma, fml, fmc, uk, ub, ui, us, ual, unl, ucl, uam, unm, ucm, rfl⟩ := El.nine hlu
   have hz3 := b3.size
   have HK3 : Blk w.heap.size 52 (l.length * 9) w3 := HK1.out.keep (b3.block _ (by omega))
   have HR3 := HR1.out.below (by omega) b3
   have B3 := B1.trans (b3.mono (by omega))
   have hjm : j < (l.map anE).length := by simpa using hjl
   have hlu3 : ((l.map anE)[j]'hjm).lies w3 (fun x => w.heap.size < x /\ x < w3.heap.size) [.int .i64 fk, .string fn, .slice fma fml fmc, .int .i64 uk, .bool ub, .int .i64 ui, .string us, .slice ual unl ucl, .slice uam unm ucm] := by
    rw [List.getElem_map]
    exact El.lies_keep (fun _ _ => rfl) (fun x hx => ⟨by have := hx.1; omega, hx.2⟩) hlu
   have HS : Hid _ := HR3.store HK3 hjm (by omega) hlu3 B3 (Nat.le_refl _)
   obtain ⟨v0, k0⟩ := HK3.cell (j * 9) (by omega)
   obtain ⟨v1, k1⟩ := HK3.cell (j * 9 + 1) (by omega)
   obtain ⟨v2, k2⟩ := HK3.cell (j * 9 + 2) (by omega)
   obtain ⟨v3, k3⟩ := HK3.cell (j * 9 + 3) (by omega)
   obtain ⟨v4, k4⟩ := HK3.cell (j * 9 + 4) (by omega)
   obtain ⟨v5, k5⟩ := HK3.cell (j * 9 + 5) (by omega)
   obtain ⟨v6, k6⟩ := HK3.cell (j * 9 + 6) (by omega)
   obtain ⟨v7, k7⟩ := HK3.cell (j * 9 + 7) (by omega)
   obtain ⟨v8, k8⟩ := HK3.cell (j * 9 + 8) (by omega)
   have kf := HK3.frozen
   clear hlu hlu3 HR3 HK3 HR1 HK1 B3 B1 b3 q0 q1 q2 q3 q4 q5 q6 q7 q8 hc ba
   go_wp2_with fail
   go_roundw
   case rel => exact ⟨j + 1, by omega, by go_num, by simp [size_set1]; omega, HS.out.1, HS.out.2.1, HS.out.2.2⟩
   case measure => simp [RowKit.intOf]; omega
  ·obtain rfl : j = l.length := by omega
   have y1 : ¬ (l.length : Int) < l.length := by omega
   have HF : Hid (liesP wr (New w wr) (l.map anE) w.heap.size 0) := fun i hi => by
    obtain ⟨cs, r, _, lies⟩ := HR.out i hi (by simpa using hi)
    exact ⟨⟨Nat.le_refl _, by omega⟩, cs, by rw [Nat.zero_add]; exact r, El.lies_keep (fun _ _ => rfl) (fun x hx => ⟨by have := hx.1; omega, hx.2⟩) lies⟩
   have hml : (l.map anE).length = l.length := by simp
   clear HR HK
   go_wp2_with fail
   go_ret
   exact ⟨w.heap.size, by rw [hml]; rfl, HF.out, bj⟩
end Go.Proofs.YtdgfjdhobdfglaaGreatDoor
set_option maxRecDepth 100000
set_option maxHeartbeats 64000000
namespace Go.Proofs.YtdgfjdhobdfglaaGreatDoor
open Go.RowKit Go.Lib
def bolT (b : Bool) : List UInt8 := if b = true then [116, 114, 117, 101] else [102, 97, 108, 115, 101]
def scT (k : Int) (b : Bool) (i : Int) (s : ByteArray) : List UInt8 := if k = 1 then bolT b else if k = 2 then itoa i else Q.qt s.data.toList
theorem qt_lenO (s : ByteArray) : (Q.qt s.data.toList).length <= 2 + 6 * s.size := by
 have h := Q.sz_le s.data.toList
 have hl : s.data.toList.length = s.size := by simp
 rw [Q.qt_length]; omega
theorem scT_len {k : Int} {b : Bool} {i : Int} {s : ByteArray} (hi : In64 i) : (scT k b i s).length <= 30 + 6 * s.size := by
 rw [scT]
 split
 ·rw [bolT]; split <;> simp <;> omega
 split
 ·have := itoa_length_le i hi.1 hi.2; omega
 ·have := qt_lenO s; omega
theorem own_leB {B B' : Nat} {v : Value} {l : List UInt8} {w : World} (h : OwnB B v l w) (hb : B' <= B) : OwnB B' v l w := by
 rcases h with ⟨h0, h⟩
 refine ⟨h0, ?_⟩
 rcases h with h | ⟨g, cap, cur, hv, hg, h⟩
 ·exact .inl h
 ·exact .inr ⟨g, cap, cur, hv, Nat.le_trans hb hg, h⟩
theorem fbool_any (b : Bool) (w : World) : Calls Tryz.prog 128 #[.bool b] w fun e w' => e = .returned (.string ⟨(bolT b).toArray⟩) /\ w' = w := by
 have C : Calls Tryz.prog 148 #[.bool b] w fun e w' => e = .returned (.string ⟨(bolT b).toArray⟩) /\ w' = w := by
  cases b
  ·go_enter Tryz.func148, Tryz.ntmps148
   go_wp2
   go_ret
   exact ⟨rfl, rfl⟩
  ·go_enter Tryz.func148, Tryz.ntmps148
   go_wp2
   go_ret
   exact ⟨rfl, rfl⟩
 have HC := hmkN C
 generalize (⟨(bolT b).toArray⟩ : ByteArray) = T at *
 clear C
 go_enter Tryz.func128, Tryz.ntmps128
 go_wp2_with fail
 refine HC.out.mono ?_
 rintro e w' ⟨rfl, rfl⟩
 go_wp2_with fail
 go_ret
 exact ⟨rfl, rfl⟩
theorem sctext_any (k : Int) (b : Bool) (i : Int) (s : ByteArray) (al : Option Addr) (nl cl : Nat) (am : Option Addr) (nm cm : Nat) (w : World) (t : Td w) (hk : k = 1 \/ k = 2 \/ k = 3) (hi : In64 i) (hs : s.size <= 2147483648) (hV : validD s.data.toList = true) :
 Calls Tryz.prog 102 #[.agg #[.int .i64 k, .bool b, .int .i64 i, .string s, .slice al nl cl, .slice am nm cm]] w (SPost (scT k b i s) w) := by
 have nb := heap_alloc_new w (.cells #[.int .i64 k, .bool b, .int .i64 i, .string s, .slice al nl cl, .slice am nm cm] 25)
 have hza := alloc_size w (.cells #[.int .i64 k, .bool b, .int .i64 i, .string s, .slice al nl cl, .slice am nm cm] 25)
 have bA : Below w.heap.size w (w.alloc (.cells #[.int .i64 k, .bool b, .int .i64 i, .string s, .slice al nl cl, .slice am nm cm] 25)) := (Below.refl _ w).alloc (Nat.le_refl _) _
 have n0 : (w.alloc (.cells #[.int .i64 k, .bool b, .int .i64 i, .string s, .slice al nl cl, .slice am nm cm] 25)).cell? ⟨w.heap.size, 0, none⟩ = some (.int .i64 k) := by rw [cell_of_block nb]; rfl
 have n1 : (w.alloc (.cells #[.int .i64 k, .bool b, .int .i64 i, .string s, .slice al nl cl, .slice am nm cm] 25)).cell? ⟨w.heap.size, 1, none⟩ = some (.bool b) := by rw [cell_of_block nb]; rfl
 have n2 : (w.alloc (.cells #[.int .i64 k, .bool b, .int .i64 i, .string s, .slice al nl cl, .slice am nm cm] 25)).cell? ⟨w.heap.size, 2, none⟩ = some (.int .i64 i) := by rw [cell_of_block nb]; rfl
 have n3 : (w.alloc (.cells #[.int .i64 k, .bool b, .int .i64 i, .string s, .slice al nl cl, .slice am nm cm] 25)).cell? ⟨w.heap.size, 3, none⟩ = some (.string s) := by rw [cell_of_block nb]; rfl
 have tA : Td (w.alloc (.cells #[.int .i64 k, .bool b, .int .i64 i, .string s, .slice al nl cl, .slice am nm cm] 25)) := t.below bA t.z bA.size
 clear nb
 by_cases k1 : k = 1
 ·have HC := hmkN (fbool_any b (w.alloc (.cells #[.int .i64 k, .bool b, .int .i64 i, .string s, .slice al nl cl, .slice am nm cm] 25)))
  have HT : Hid (scT k b i s = bolT b) := hmkN (by rw [scT, if_pos k1])
  rw [HT.out]
  subst k1
  generalize bolT b = T at *
  clear hk tA t HT
  go_enter Tryz.func102, Tryz.ntmps102
  go_wp2_with fail
  refine HC.out.mono ?_
  rintro e w' ⟨rfl, rfl⟩
  go_wp2_with fail
  go_ret
  exact ⟨rfl, bA⟩
 by_cases k2 : k = 2
 focus
  have HC := hmkN (itoa_any i hi (w.alloc (.cells #[.int .i64 k, .bool b, .int .i64 i, .string s, .slice al nl cl, .slice am nm cm] 25)) tA.p)
  have HT : Hid (scT k b i s = itoa i) := hmkN (by rw [scT, if_neg k1, if_pos k2])
  rw [HT.out]
  subst k2
  generalize itoa i = T at *
  clear hk tA t HT k1
 rotate_left 1
 focus
  have k3 : k = 3 := by omega
  have HC := hmkN (quoted_any s (w.alloc (.cells #[.int .i64 k, .bool b, .int .i64 i, .string s, .slice al nl cl, .slice am nm cm] 25)) hs tA.u tA.l tA.z hV)
  subst k3
  have HT : Hid (scT 3 b i s = Q.qt s.data.toList) := hmkN (by rw [scT, if_neg (by omega), if_neg (by omega)])
  rw [HT.out]
  generalize Q.qt s.data.toList = T at *
  clear hk tA t HT k1 k2
 rotate_left 1
 all_goals
  go_enter Tryz.func102, Tryz.ntmps102
  go_wp2_with fail
  refine HC.out.mono ?_
  rintro e w' ⟨rfl, hb⟩
  go_wp2_with fail
  go_ret
  exact ⟨rfl, bA.trans (hb.mono (by omega))⟩
def TxPost (l : List UInt8) (w : World) (e : Ending) (w' : World) : Prop := ∃ v', e = .returned v' /\ OwnB w.heap.size v' l w' /\ Below w.heap.size w w'
theorem rtext_any (k : Int) (b : Bool) (i : Int) (s : ByteArray) (al : Option Addr) (nl cl : Nat) (am : Option Addr) (nm cm : Nat) (w : World) (hk : k = 1 \/ k = 2 \/ k = 3) (hi : In64 i) (hs : s.size <= 2147483648) (hV : validD s.data.toList = true) :
 Calls Tryz.prog 59 #[.agg #[.int .i64 k, .bool b, .int .i64 i, .string s, .slice al nl cl, .slice am nm cm]] w (TxPost (scT k b i s) w) := by
 have nb := heap_alloc_new w (.cells #[.int .i64 k, .bool b, .int .i64 i, .string s, .slice al nl cl, .slice am nm cm] 25)
 have hza := alloc_size w (.cells #[.int .i64 k, .bool b, .int .i64 i, .string s, .slice al nl cl, .slice am nm cm] 25)
 have bA : Below w.heap.size w (w.alloc (.cells #[.int .i64 k, .bool b, .int .i64 i, .string s, .slice al nl cl, .slice am nm cm] 25)) := (Below.refl _ w).alloc (Nat.le_refl _) _
 have n0 : (w.alloc (.cells #[.int .i64 k, .bool b, .int .i64 i, .string s, .slice al nl cl, .slice am nm cm] 25)).cell? ⟨w.heap.size, 0, none⟩ = some (.int .i64 k) := by rw [cell_of_block nb]; rfl
 have n1 : (w.alloc (.cells #[.int .i64 k, .bool b, .int .i64 i, .string s, .slice al nl cl, .slice am nm cm] 25)).cell? ⟨w.heap.size, 1, none⟩ = some (.bool b) := by rw [cell_of_block nb]; rfl
 have n2 : (w.alloc (.cells #[.int .i64 k, .bool b, .int .i64 i, .string s, .slice al nl cl, .slice am nm cm] 25)).cell? ⟨w.heap.size, 2, none⟩ = some (.int .i64 i) := by rw [cell_of_block nb]; rfl
 have n3 : (w.alloc (.cells #[.int .i64 k, .bool b, .int .i64 i, .string s, .slice al nl cl, .slice am nm cm] 25)).cell? ⟨w.heap.size, 3, none⟩ = some (.string s) := by rw [cell_of_block nb]; rfl
 have HW : Hid (∀ W, Below (w.heap.size + 1) (w.alloc (.cells #[.int .i64 k, .bool b, .int .i64 i, .string s, .slice al nl cl, .slice am nm cm] 25)) W -> Below w.heap.size w W) := fun W hb => bA.trans (hb.mono (by omega))
 have oN : OwnB (w.heap.size + 1) (.slice none 0 0) [] (w.alloc (.cells #[.int .i64 k, .bool b, .int .i64 i, .string s, .slice al nl cl, .slice am nm cm] 25)) := World.ownsRow_nil _ _ 5 1
 clear nb
 by_cases k1 : k = 1
 ·have HT : Hid (scT k b i s = bolT b) := hmkN (by rw [scT, if_pos k1])
  rw [HT.out]
  subst k1
  clear HT hk
  cases b
  ·rw [show bolT false = [102, 97, 108, 115, 101] from rfl]
   go_enter Tryz.func59, Tryz.ntmps59
   go_wp2_with (at_builtin; go_loud (refine wpl_str _ rfl (.tmp 24) _ rfl (w.heap.size + 1) _ [] rfl oN ⟨#[102, 97, 108, 115, 101]⟩ rfl (by simp only [List.length_nil]; (try show 0 + 5 <= _); omega) (by omega) ?_))
   intro v' w2 o2 b2
   go_wp2_with fail
   go_ret
   exact ⟨_, rfl, own_leB o2 (by omega), HW.out _ b2⟩
  ·rw [show bolT true = [116, 114, 117, 101] from rfl]
   go_enter Tryz.func59, Tryz.ntmps59
   go_wp2_with (at_builtin; go_loud (refine wpl_str _ rfl (.tmp 22) _ rfl (w.heap.size + 1) _ [] rfl oN ⟨#[116, 114, 117, 101]⟩ rfl (by simp only [List.length_nil]; (try show 0 + 4 <= _); omega) (by omega) ?_))
   intro v' w2 o2 b2
   go_wp2_with fail
   go_ret
   exact ⟨_, rfl, own_leB o2 (by omega), HW.out _ b2⟩
 by_cases k2 : k = 2
 focus
  have HT : Hid (scT k b i s = itoa i) := hmkN (by rw [scT, if_neg k1, if_pos k2])
  rw [HT.out]
  have C := hmkN (digits_any i hi (w.alloc (.cells #[.int .i64 k, .bool b, .int .i64 i, .string s, .slice al nl cl, .slice am nm cm] 25)))
  have hq : (itoa i).length <= 21 := itoa_length_le i hi.1 hi.2
  generalize itoa i = T at *
  subst k2
  clear HT hk k1
  have hq2 : (⟨T.toArray⟩ : ByteArray).size <= 21 := by show T.toArray.size <= 21; rw [List.size_toArray]; exact hq
  have HD : Hid ((⟨T.toArray⟩ : ByteArray).data.toList = T) := hmkN rfl
  unfold StPost at C
  generalize (⟨T.toArray⟩ : ByteArray) = qs at *
  go_enter Tryz.func59, Tryz.ntmps59
  go_wp2_with fail
  refine C.out.mono ?_
  rintro e w1 ⟨rfl, b1⟩
  have hz1 := b1.size
  have o1 := oN.below b1
  go_wp2_with (at_builtin; go_loud (refine wpl_str _ rfl (.tmp 28) (.tmp 31) rfl (w.heap.size + 1) _ [] rfl o1 qs rfl (by simp only [List.length_nil]; omega) (by omega) ?_))
 rotate_left 1
 focus
  have k3 : k = 3 := by omega
  have C := hmkN (refQuote_good s (w.alloc (.cells #[.int .i64 k, .bool b, .int .i64 i, .string s, .slice al nl cl, .slice am nm cm] 25)) hs hV)
  subst k3
  have HT : Hid (scT 3 b i s = Q.qt s.data.toList) := hmkN (by rw [scT, if_neg (by omega), if_neg (by omega)])
  rw [HT.out]
  have hq := qt_lenO s
  generalize Q.qt s.data.toList = T at *
  clear HT hk k1 k2
  have hq2 : (⟨T.toArray⟩ : ByteArray).size <= 12884901890 := by show T.toArray.size <= _; rw [List.size_toArray]; omega
  have HD : Hid ((⟨T.toArray⟩ : ByteArray).data.toList = T) := hmkN rfl
  generalize (⟨T.toArray⟩ : ByteArray) = qs at *
  go_enter Tryz.func59, Tryz.ntmps59
  go_wp2_with fail
  refine C.out.mono ?_
  rintro e w1 ⟨rfl, b1⟩
  have hz1 := b1.size
  have o1 := oN.below b1
  go_wp2_with (at_builtin; go_loud (refine wpl_str _ rfl (.tmp 41) (.tmp 42) rfl (w.heap.size + 1) _ [] rfl o1 qs rfl (by simp only [List.length_nil]; omega) (by omega) ?_))
 rotate_left 1
 all_goals
  intro v' w2 o2 b2
  go_wp2_with fail
  go_ret
  rw [HD.out] at o2
  exact ⟨_, rfl, own_leB o2 (by omega), HW.out _ ((b1.mono (by omega)).trans b2)⟩
end Go.Proofs.YtdgfjdhobdfglaaGreatDoor
set_option maxRecDepth 100000
namespace Go.Proofs.YtdgfjdhobdfglaaGreatDoor
open Go.RowKit Go.Lib
def svT : V -> List UInt8
 | .mk k b i s _ _ => scT k b i s
def memT (x : Mem) : List UInt8 := nmT x.1.data.toList ++ 61 :: svT x.2
def kyT : UInt8 -> List Mem -> List UInt8
 | _, [] => []
 | a, x :: t => a :: (memT x ++ kyT 44 t)
def kyV : List Mem -> List UInt8
 | [] => []
 | x :: t => memT x ++ kyT 44 t
def ahd (a : UInt8) (j : Nat) : UInt8 := if j = 0 then a else 44
theorem kyT_snoc : ∀ (l : List Mem) (a : UInt8) (x : Mem), kyT a (l ++ [x]) = kyT a l ++ ahd a l.length :: memT x
 | [], a, x => by simp [kyT, ahd]
 | y :: t, a, x => by
  have e : ahd 44 t.length = ahd a (t.length + 1) := by unfold ahd; split <;> simp
  rw [List.cons_append, kyT, kyT, kyT_snoc t 44 x, List.length_cons, e]; simp
theorem kyT_take {l : List Mem} {j : Nat} (a : UInt8) (h : j < l.length) : kyT a (l.take (j + 1)) = kyT a (l.take j) ++ ahd a j :: memT l[j] := by
 rw [List.take_succ_eq_append_getElem h, kyT_snoc, List.length_take, Nat.min_eq_left (Nat.le_of_lt h)]
theorem kyT_kyV {l : List Mem} (a : UInt8) (h : 0 < l.length) : kyT a l = a :: kyV l := by
 cases l with
 | nil => simp at h
 | cons x t => rfl
theorem kyV_take0 {l : List Mem} (h : 0 < l.length) : kyV (l.take (0 + 1)) = memT l[0] := by
 cases l with
 | nil => simp at h
 | cons x t => simp [kyV, kyT]
theorem kyV_take {l : List Mem} {j : Nat} (h : j < l.length) (h0 : j ≠ 0) : kyV (l.take (j + 1)) = kyV (l.take j) ++ 44 :: memT l[j] := by
 have h1 := kyT_take 91 h
 rw [kyT_kyV 91 (by rw [List.length_take]; omega), kyT_kyV 91 (by rw [List.length_take]; omega), ahd, if_neg h0, List.cons_append] at h1
 injection h1
def elT (e : El) : List UInt8 :=
 if e.kind = 1 then 46 :: nmT e.name.data.toList
 else if e.kind = 3 then 91 :: 61 :: (svT e.item ++ [93])
 else kyT 91 e.key ++ [93]
def txT (p : List El) : List UInt8 := p.flatMap elT
theorem nmT_len (s : ByteArray) : (nmT s.data.toList).length <= 2 + 6 * s.size := by
 rw [nmT]
 split
 ·have hl : s.data.toList.length = s.size := by simp
  omega
 ·exact qt_lenO s
def in64V : V -> Prop
 | .mk _ _ i _ _ _ => In64 i
theorem svT_len {v : V} (h : in64V v) : (svT v).length <= 30 * v.wt := by
 obtain ⟨k, b, i, s, l, m⟩ := v
 have := scT_len (k := k) (b := b) (s := s) (i := i) h
 rw [svT, V.wt]; omega
theorem memT_len {x : Mem} (h : in64V x.2) : (memT x).length + 1 <= 40 * (x.1.size + x.2.wt) := by
 have h1 := nmT_len x.1
 have h2 := svT_len h
 have h3 := V.wt_pos x.2
 rw [memT, List.length_append, List.length_cons]; omega
theorem kyT_len : ∀ (l : List Mem) (a : UInt8), (∀ x ∈ l, in64V x.2) -> (kyT a l).length <= 40 * wtM l
 | [], a, _ => by simp [kyT, wtM]
 | (k, v) :: t, a, h => by
  have h1 := memT_len (x := (k, v)) (h _ (by simp))
  have h2 := kyT_len t 44 (fun x hx => h x (by simp [hx]))
  rw [kyT, wtM, List.length_cons, List.length_append]
  simp only at h1
  omega
def in64E (e : El) : Prop := in64V e.item /\ ∀ x ∈ e.key, in64V x.2
theorem in64_lies {R : Bool} {w : World} {S : Nat -> Prop} {v : V} {cs : List Value} (h : v.lies R w S cs) : in64V v := by
 obtain ⟨k, b, i, s, l, m⟩ := v
 rw [V.lies] at h
 obtain ⟨al, cl, bl, ol, am, cm, bm, om, _, _, hi, _⟩ := h
 exact hi
theorem in64_liesM {w : World} {S : Nat -> Prop} {l : List Mem} {b o : Nat} (h : liesM false w S l b o) : ∀ x ∈ l, in64V x.2 := by
 intro x hx
 obtain ⟨j, hj, rfl⟩ := List.getElem_of_mem hx
 obtain ⟨_, _, cs, _, h2⟩ := liesM_get h j hj
 exact in64_lies h2
end Go.Proofs.YtdgfjdhobdfglaaGreatDoor
