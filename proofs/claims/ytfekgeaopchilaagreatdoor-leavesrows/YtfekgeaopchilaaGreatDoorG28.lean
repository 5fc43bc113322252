/- joined: CpyR GodX -/
import Derived.Test.YtfekgeaopchilaaGreatDoorAneR
import Derived.Laws.MakeOwn
/- checked.Copy: a path once more, in new memory. -/
set_option linter.unusedSimpArgs false
set_option linter.unusedVariables false
namespace Go.Proofs.YtfekgeaopchilaaGreatDoor
open Go.RowKit Go.Lib
theorem set9_row {w : World} {g o : Nat} {arr : Array Value} {ty : TypeId} (h : w.heap[g]? = some (.cells arr ty (0, 0))) (ho : o + 9 ≤ arr.size) (c0 c1 c2 c3 c4 c5 c6 c7 c8 : Value) :
    ∃ arr', (((((((((w.setCell ⟨g, o, none⟩ c0).setCell ⟨g, o + 1, none⟩ c1).setCell ⟨g, o + 2, none⟩ c2).setCell ⟨g, o + 3, none⟩ c3).setCell ⟨g, o + 4, none⟩ c4).setCell ⟨g, o + 5, none⟩ c5).setCell ⟨g, o + 6, none⟩ c6).setCell ⟨g, o + 7, none⟩ c7).setCell ⟨g, o + 8, none⟩ c8).heap[g]? = some (.cells arr' ty (0, 0)) ∧ arr'.size = arr.size ∧ (∀ p, p < o → arr'[p]? = arr[p]?) ∧ rowAt (((((((((w.setCell ⟨g, o, none⟩ c0).setCell ⟨g, o + 1, none⟩ c1).setCell ⟨g, o + 2, none⟩ c2).setCell ⟨g, o + 3, none⟩ c3).setCell ⟨g, o + 4, none⟩ c4).setCell ⟨g, o + 5, none⟩ c5).setCell ⟨g, o + 6, none⟩ c6).setCell ⟨g, o + 7, none⟩ c7).setCell ⟨g, o + 8, none⟩ c8) g o [c0, c1, c2, c3, c4, c5, c6, c7, c8] ∧ (∀ x, x ≠ g → (((((((((w.setCell ⟨g, o, none⟩ c0).setCell ⟨g, o + 1, none⟩ c1).setCell ⟨g, o + 2, none⟩ c2).setCell ⟨g, o + 3, none⟩ c3).setCell ⟨g, o + 4, none⟩ c4).setCell ⟨g, o + 5, none⟩ c5).setCell ⟨g, o + 6, none⟩ c6).setCell ⟨g, o + 7, none⟩ c7).setCell ⟨g, o + 8, none⟩ c8).heap[x]? = w.heap[x]?) ∧ (((((((((w.setCell ⟨g, o, none⟩ c0).setCell ⟨g, o + 1, none⟩ c1).setCell ⟨g, o + 2, none⟩ c2).setCell ⟨g, o + 3, none⟩ c3).setCell ⟨g, o + 4, none⟩ c4).setCell ⟨g, o + 5, none⟩ c5).setCell ⟨g, o + 6, none⟩ c6).setCell ⟨g, o + 7, none⟩ c7).setCell ⟨g, o + 8, none⟩ c8).heap.size = w.heap.size := by
  have h0 : (w.setCell ⟨g, o, none⟩ c0).heap[g]? = some (.cells (arr.setIfInBounds (o) c0) ty (0, 0)) := by rw [set_block h]
  have h1 : ((w.setCell ⟨g, o, none⟩ c0).setCell ⟨g, o + 1, none⟩ c1).heap[g]? = some (.cells ((arr.setIfInBounds (o) c0).setIfInBounds (o + 1) c1) ty (0, 0)) := by rw [set_block h0]
  have h2 : (((w.setCell ⟨g, o, none⟩ c0).setCell ⟨g, o + 1, none⟩ c1).setCell ⟨g, o + 2, none⟩ c2).heap[g]? = some (.cells (((arr.setIfInBounds (o) c0).setIfInBounds (o + 1) c1).setIfInBounds (o + 2) c2) ty (0, 0)) := by rw [set_block h1]
  have h3 : ((((w.setCell ⟨g, o, none⟩ c0).setCell ⟨g, o + 1, none⟩ c1).setCell ⟨g, o + 2, none⟩ c2).setCell ⟨g, o + 3, none⟩ c3).heap[g]? = some (.cells ((((arr.setIfInBounds (o) c0).setIfInBounds (o + 1) c1).setIfInBounds (o + 2) c2).setIfInBounds (o + 3) c3) ty (0, 0)) := by rw [set_block h2]
  have h4 : (((((w.setCell ⟨g, o, none⟩ c0).setCell ⟨g, o + 1, none⟩ c1).setCell ⟨g, o + 2, none⟩ c2).setCell ⟨g, o + 3, none⟩ c3).setCell ⟨g, o + 4, none⟩ c4).heap[g]? = some (.cells (((((arr.setIfInBounds (o) c0).setIfInBounds (o + 1) c1).setIfInBounds (o + 2) c2).setIfInBounds (o + 3) c3).setIfInBounds (o + 4) c4) ty (0, 0)) := by rw [set_block h3]
  have h5 : ((((((w.setCell ⟨g, o, none⟩ c0).setCell ⟨g, o + 1, none⟩ c1).setCell ⟨g, o + 2, none⟩ c2).setCell ⟨g, o + 3, none⟩ c3).setCell ⟨g, o + 4, none⟩ c4).setCell ⟨g, o + 5, none⟩ c5).heap[g]? = some (.cells ((((((arr.setIfInBounds (o) c0).setIfInBounds (o + 1) c1).setIfInBounds (o + 2) c2).setIfInBounds (o + 3) c3).setIfInBounds (o + 4) c4).setIfInBounds (o + 5) c5) ty (0, 0)) := by rw [set_block h4]
  have h6 : (((((((w.setCell ⟨g, o, none⟩ c0).setCell ⟨g, o + 1, none⟩ c1).setCell ⟨g, o + 2, none⟩ c2).setCell ⟨g, o + 3, none⟩ c3).setCell ⟨g, o + 4, none⟩ c4).setCell ⟨g, o + 5, none⟩ c5).setCell ⟨g, o + 6, none⟩ c6).heap[g]? = some (.cells (((((((arr.setIfInBounds (o) c0).setIfInBounds (o + 1) c1).setIfInBounds (o + 2) c2).setIfInBounds (o + 3) c3).setIfInBounds (o + 4) c4).setIfInBounds (o + 5) c5).setIfInBounds (o + 6) c6) ty (0, 0)) := by rw [set_block h5]
  have h7 : ((((((((w.setCell ⟨g, o, none⟩ c0).setCell ⟨g, o + 1, none⟩ c1).setCell ⟨g, o + 2, none⟩ c2).setCell ⟨g, o + 3, none⟩ c3).setCell ⟨g, o + 4, none⟩ c4).setCell ⟨g, o + 5, none⟩ c5).setCell ⟨g, o + 6, none⟩ c6).setCell ⟨g, o + 7, none⟩ c7).heap[g]? = some (.cells ((((((((arr.setIfInBounds (o) c0).setIfInBounds (o + 1) c1).setIfInBounds (o + 2) c2).setIfInBounds (o + 3) c3).setIfInBounds (o + 4) c4).setIfInBounds (o + 5) c5).setIfInBounds (o + 6) c6).setIfInBounds (o + 7) c7) ty (0, 0)) := by rw [set_block h6]
  have h8 : (((((((((w.setCell ⟨g, o, none⟩ c0).setCell ⟨g, o + 1, none⟩ c1).setCell ⟨g, o + 2, none⟩ c2).setCell ⟨g, o + 3, none⟩ c3).setCell ⟨g, o + 4, none⟩ c4).setCell ⟨g, o + 5, none⟩ c5).setCell ⟨g, o + 6, none⟩ c6).setCell ⟨g, o + 7, none⟩ c7).setCell ⟨g, o + 8, none⟩ c8).heap[g]? = some (.cells (((((((((arr.setIfInBounds (o) c0).setIfInBounds (o + 1) c1).setIfInBounds (o + 2) c2).setIfInBounds (o + 3) c3).setIfInBounds (o + 4) c4).setIfInBounds (o + 5) c5).setIfInBounds (o + 6) c6).setIfInBounds (o + 7) c7).setIfInBounds (o + 8) c8) ty (0, 0)) := by rw [set_block h7]
  refine ⟨_, h8, by simp, fun p hp => ?_, ?_, fun x hx => ?_, by simp [size_set1]⟩
  · simp only [Array.getElem?_setIfInBounds]
    repeat (rw [if_neg (by omega)])
  · intro q u hu
    rw [cell_of_block h8]
    have hq : q < 9 := by
      rcases Nat.lt_or_ge q 9 with h | h
      · exact h
      · rw [List.getElem?_eq_none (by simpa using h)] at hu; cases hu
    rcases (show q = 0 ∨ q = 1 ∨ q = 2 ∨ q = 3 ∨ q = 4 ∨ q = 5 ∨ q = 6 ∨ q = 7 ∨ q = 8 by omega) with rfl | rfl | rfl | rfl | rfl | rfl | rfl | rfl | rfl
    all_goals
      simp only [List.getElem?_cons_zero, List.getElem?_cons_succ, Option.some.injEq] at hu
      subst hu
      simp (config := { maxSteps := 200000 }) only [Array.getElem?_setIfInBounds, Array.size_setIfInBounds]
      repeat (first | rw [if_pos trivial] | rw [if_neg (by omega)] | rw [if_pos (by omega)])
  · rw [set_other hx]; rw [set_other hx]; rw [set_other hx]; rw [set_other hx]; rw [set_other hx]; rw [set_other hx]; rw [set_other hx]; rw [set_other hx]; rw [set_other hx]
theorem Below.set9 {B M : Nat} {a w : World} (h : Below B a w) (hM : B ≤ M) (i0 i1 i2 i3 i4 i5 i6 i7 i8 : Nat) (u0 u1 u2 u3 u4 u5 u6 u7 u8 : Value) :
    Below B a (((((((((w.setCell ⟨M, i0, none⟩ u0).setCell ⟨M, i1, none⟩ u1).setCell ⟨M, i2, none⟩ u2).setCell ⟨M, i3, none⟩ u3).setCell ⟨M, i4, none⟩ u4).setCell ⟨M, i5, none⟩ u5).setCell ⟨M, i6, none⟩ u6).setCell ⟨M, i7, none⟩ u7).setCell ⟨M, i8, none⟩ u8) := by
  repeat (refine Below.setCell ?_ (by assumption) _)
  exact h
def New (w w' : World) (x : Nat) : Prop := w.heap.size ≤ x ∧ x < w'.heap.size
/-- what a copied path is: its elements without what a path does not use -/
def CyPost (l : List El) (w : World) (e : Ending) (w' : World) : Prop := ∃ g : Nat, e = .returned (.slice (some ⟨g, 0, none⟩) l.length l.length) ∧ liesP w' (New w w') l g 0 ∧ Below w.heap.size w w'
/-- the rows that stand so far in the block g -/
def RowsE (l : List El) (j g : Nat) (w : World) : Prop := ∀ (i : Nat) (h : i < l.length), i < j → ∃ cs, rowAt w g (i * 9) cs ∧ cs.length = 9 ∧ (l[i]).lies w (fun x => g < x ∧ x < w.heap.size) cs
def Blk (g ty n : Nat) (w : World) : Prop := ∃ arr, w.heap[g]? = some (.cells arr ty (0, 0)) ∧ arr.size = n
theorem Blk.cell {g ty n : Nat} {w : World} (h : Blk g ty n w) (i : Nat) (hi : i < n) : ∃ v, w.cell? ⟨g, i, none⟩ = some v := by
  obtain ⟨arr, h1, h2⟩ := h
  exact ⟨arr[i], by rw [cell_of_block h1]; simp [h2, hi]⟩
theorem Blk.frozen {g ty n : Nat} {w : World} (h : Blk g ty n w) (i : Nat) : w.frozen? ⟨g, i, none⟩ = false := by
  obtain ⟨arr, h1, h2⟩ := h
  exact frozen_of_block h1 i
theorem Blk.keep {g ty n : Nat} {w w' : World} (h : Blk g ty n w) (e : w'.heap[g]? = w.heap[g]?) : Blk g ty n w' := by
  obtain ⟨arr, h1, h2⟩ := h
  exact ⟨arr, e.trans h1, h2⟩
theorem RowsE.below {l : List El} {j g : Nat} {w w' : World} (h : RowsE l j g w) (hg : g < w.heap.size) (hb : Below w.heap.size w w') : RowsE l j g w' := fun i hi hij => by
  obtain ⟨cs, r, hl, lies⟩ := h i hi hij
  exact ⟨cs, r.keep (hb.block g hg), hl, El.lies_keep (fun x hx => hb.block x hx.2) (fun x hx => ⟨hx.1, Nat.lt_of_lt_of_le hx.2 hb.size⟩) lies⟩
/-- one row more -/
theorem RowsE.store {l : List El} {j g n : Nat} {w w3 : World} (h : RowsE l j g w3) (hB : Blk g 60 n w3) (hj : j < l.length) (hn : j * 9 + 9 ≤ n) {c0 c1 c2 c3 c4 c5 c6 c7 c8 : Value} (hv : (l[j]).lies w3 (fun x => g < x ∧ x < w3.heap.size) [c0, c1, c2, c3, c4, c5, c6, c7, c8]) (hw : Below w.heap.size w w3) (hg : w.heap.size ≤ g) :
    RowsE l (j + 1) g (((((((((w3.setCell ⟨g, j * 9, none⟩ c0).setCell ⟨g, j * 9 + 1, none⟩ c1).setCell ⟨g, j * 9 + 2, none⟩ c2).setCell ⟨g, j * 9 + 3, none⟩ c3).setCell ⟨g, j * 9 + 4, none⟩ c4).setCell ⟨g, j * 9 + 5, none⟩ c5).setCell ⟨g, j * 9 + 6, none⟩ c6).setCell ⟨g, j * 9 + 7, none⟩ c7).setCell ⟨g, j * 9 + 8, none⟩ c8) ∧ Blk g 60 n (((((((((w3.setCell ⟨g, j * 9, none⟩ c0).setCell ⟨g, j * 9 + 1, none⟩ c1).setCell ⟨g, j * 9 + 2, none⟩ c2).setCell ⟨g, j * 9 + 3, none⟩ c3).setCell ⟨g, j * 9 + 4, none⟩ c4).setCell ⟨g, j * 9 + 5, none⟩ c5).setCell ⟨g, j * 9 + 6, none⟩ c6).setCell ⟨g, j * 9 + 7, none⟩ c7).setCell ⟨g, j * 9 + 8, none⟩ c8) ∧ Below w.heap.size w (((((((((w3.setCell ⟨g, j * 9, none⟩ c0).setCell ⟨g, j * 9 + 1, none⟩ c1).setCell ⟨g, j * 9 + 2, none⟩ c2).setCell ⟨g, j * 9 + 3, none⟩ c3).setCell ⟨g, j * 9 + 4, none⟩ c4).setCell ⟨g, j * 9 + 5, none⟩ c5).setCell ⟨g, j * 9 + 6, none⟩ c6).setCell ⟨g, j * 9 + 7, none⟩ c7).setCell ⟨g, j * 9 + 8, none⟩ c8) := by
  obtain ⟨arr, h1, h2⟩ := hB
  obtain ⟨arr', e1, e2, e3, e4, e5, e6⟩ := set9_row h1 (o := j * 9) (by omega) c0 c1 c2 c3 c4 c5 c6 c7 c8
  have hBl := Below.set9 hw hg (j * 9) (j * 9 + 1) (j * 9 + 2) (j * 9 + 3) (j * 9 + 4) (j * 9 + 5) (j * 9 + 6) (j * 9 + 7) (j * 9 + 8) c0 c1 c2 c3 c4 c5 c6 c7 c8
  generalize (((((((((w3.setCell ⟨g, j * 9, none⟩ c0).setCell ⟨g, j * 9 + 1, none⟩ c1).setCell ⟨g, j * 9 + 2, none⟩ c2).setCell ⟨g, j * 9 + 3, none⟩ c3).setCell ⟨g, j * 9 + 4, none⟩ c4).setCell ⟨g, j * 9 + 5, none⟩ c5).setCell ⟨g, j * 9 + 6, none⟩ c6).setCell ⟨g, j * 9 + 7, none⟩ c7).setCell ⟨g, j * 9 + 8, none⟩ c8) = W at *
  refine ⟨fun i hi hij => ?_, ⟨arr', e1, by omega⟩, hBl⟩
  by_cases hij' : i < j
  · obtain ⟨cs, r, hl, lies⟩ := h i hi hij'
    refine ⟨cs, fun q u hu => ?_, hl, El.lies_keep (fun x hx => e5 x (by have := hx.1; omega)) (fun x hx => ⟨hx.1, by rw [e6]; exact hx.2⟩) lies⟩
    have := r q u hu
    have hq : q < 9 := by
      rcases Nat.lt_or_ge q 9 with h | h
      · exact h
      · rw [List.getElem?_eq_none (by omega)] at hu; cases hu
    rw [cell_of_block h1] at this
    rw [cell_of_block e1, e3 _ (by omega)]
    exact this
  · obtain rfl : i = j := by omega
    exact ⟨_, e4, rfl, El.lies_keep (fun x hx => e5 x (by have := hx.1; omega)) (fun x hx => ⟨hx.1, by rw [e6]; exact hx.2⟩) hv⟩
set_option maxHeartbeats 8000000 in
set_option maxRecDepth 100000 in
theorem copy_any (l : List El) (S : Nat → Prop) (al : Option Addr) (cl bl ol : Nat) (w : World) (hal : Headed al l.length cl bl ol) (hl : liesP w S l bl ol) (hS : ∀ b, S b → b < w.heap.size) (hwt : wtP l ≤ 2147483647) :
    Calls Tryz.prog 39 #[.slice al l.length cl] w (CyPost (l.map anE) w) := by
  have HL := hmk hl
  have HS := hmk hS
  clear hl
  have hlen := wtP_len l
  obtain ⟨i0, hi0, hz0, hz1, hz2⟩ := info_parts info35
  have hmkq : ∀ W, (Instr.makeSlice 25 (.int .i64 (l.length : Int)) (.int .i64 (l.length : Int))).run Tryz.prog W = .ok (.slice (some ⟨W.heap.size, 0, none⟩) l.length l.length) (W.alloc (.cells (madeCells #[.int .i64 0, .string ⟨#[]⟩, .slice none 0 0, .int .i64 0, .bool false, .int .i64 0, .string ⟨#[]⟩, .slice none 0 0, .slice none 0 0] (l.length * 9)) 60)) := fun W => by
    have h := run_make (P := Tryz.prog) W 25 60 i0 _ Tryz.underlying25 hi0 hz0 .i64 .i64 (l.length : Int) (l.length : Int) (by omega) (by omega) (by rw [hz2]; omega) (by omega)
    rw [hz1] at h
    simpa [Value.cells] using h
  have hzm := alloc_size w (.cells (madeCells #[.int .i64 0, .string ⟨#[]⟩, .slice none 0 0, .int .i64 0, .bool false, .int .i64 0, .string ⟨#[]⟩, .slice none 0 0, .slice none 0 0] (l.length * 9)) 60)
  have B0 : Below w.heap.size w (w.alloc (.cells (madeCells #[.int .i64 0, .string ⟨#[]⟩, .slice none 0 0, .int .i64 0, .bool false, .int .i64 0, .string ⟨#[]⟩, .slice none 0 0, .slice none 0 0] (l.length * 9)) 60)) := (Below.refl _ _).alloc (Nat.le_refl _) _
  have K0 : Blk w.heap.size 60 (l.length * 9) (w.alloc (.cells (madeCells #[.int .i64 0, .string ⟨#[]⟩, .slice none 0 0, .int .i64 0, .bool false, .int .i64 0, .string ⟨#[]⟩, .slice none 0 0, .slice none 0 0] (l.length * 9)) 60)) := ⟨_, heap_alloc_new w _, size_madeCells _ _⟩
  clear hi0 hz0 hz1 hz2
  go_enter Tryz.func39, Tryz.ntmps39
  go_wp2_with fail
  clear hmkq
  generalize (w.alloc (.cells (madeCells #[.int .i64 0, .string ⟨#[]⟩, .slice none 0 0, .int .i64 0, .bool false, .int .i64 0, .string ⟨#[]⟩, .slice none 0 0, .slice none 0 0] (l.length * 9)) 60)) = w0 at *
  go_loopw [11] (fun e wr => ∃ j : Nat, j ≤ l.length ∧ e = .int .i64 (j : Int) ∧ w0.heap.size ≤ wr.heap.size ∧ Hid (RowsE (l.map anE) j w.heap.size wr) ∧ Hid (Blk w.heap.size 60 (l.length * 9) wr) ∧ Below w.heap.size w wr) (fun e _ => l.length - (RowKit.intOf e).toNat)
  case atStart => exact ⟨0, by omega, rfl, by omega, (fun i hi hij => by omega), K0, B0⟩
  case round =>
    clear K0 B0
    obtain ⟨j, hj, rfl, hzr, HR, HK, bj⟩ := hrel
    by_cases hjl : j < l.length
    · have y1 : (j : Int) < l.length := by omega
      obtain ⟨hSb, csj, hrow, hlj⟩ := HL.out j hjl
      obtain rfl : al = some ⟨bl, ol, none⟩ := hal.at_.resolve_left (by omega)
      have hkw : ∀ x, S x → wr.heap[x]? = w.heap[x]? := fun x hx => bj.block x (hS x hx)
      have hlj0 := hlj
      have hwx : (l[j]'hjl).wt ≤ 2147483647 := by have := wtP_mem (List.getElem_mem hjl); omega
      obtain ⟨ek, en, ema, eml, emc, vk, vb, vi, vs, val, vnl, vcl, vam, vnm, vcm, rfl⟩ := El.nine hlj
      obtain ⟨q0, q1, q2, q3, q4, q5, q6, q7, q8⟩ := row9 (hrow.keep (hkw _ hSb))
      have hza := alloc_size wr (.cells #[.int .i64 ek, .string en, .slice ema eml emc, .int .i64 vk, .bool vb, .int .i64 vi, .string vs, .slice val vnl vcl, .slice vam vnm vcm] 60)
      have ba : Below wr.heap.size wr (wr.alloc (.cells #[.int .i64 ek, .string en, .slice ema eml emc, .int .i64 vk, .bool vb, .int .i64 vi, .string vs, .slice val vnl vcl, .slice vam vnm vcm] 60)) := (Below.refl _ _).alloc (Nat.le_refl _) _
      have hc := hmk (anelem_any (l[j]'hjl) S _ (wr.alloc (.cells #[.int .i64 ek, .string en, .slice ema eml emc, .int .i64 vk, .bool vb, .int .i64 vi, .string vs, .slice val vnl vcl, .slice vam vnm vcm] 60)) (El.lies_keep (fun x hx => (ba.block x (by have := hS x hx; omega)).trans (hkw x hx)) (fun _ h => h) hlj0) (fun x hx => by have := hS x hx; omega) hwx)
      have HR1 : Hid (RowsE (l.map anE) j w.heap.size (wr.alloc (.cells #[.int .i64 ek, .string en, .slice ema eml emc, .int .i64 vk, .bool vb, .int .i64 vi, .string vs, .slice val vnl vcl, .slice vam vnm vcm] 60))) := HR.out.below (by omega) ba
      have HK1 : Hid (Blk w.heap.size 60 (l.length * 9) (wr.alloc (.cells #[.int .i64 ek, .string en, .slice ema eml emc, .int .i64 vk, .bool vb, .int .i64 vi, .string vs, .slice val vnl vcl, .slice vam vnm vcm] 60))) := HK.out.keep (ba.block _ (by omega))
      have B1 : Below w.heap.size w (wr.alloc (.cells #[.int .i64 ek, .string en, .slice ema eml emc, .int .i64 vk, .bool vb, .int .i64 vi, .string vs, .slice val vnl vcl, .slice vam vnm vcm] 60)) := bj.trans (ba.mono (by omega))
      clear hlj hlj0 hrow hkw HR HK
      go_wp2_with fail
      generalize (wr.alloc (.cells #[.int .i64 ek, .string en, .slice ema eml emc, .int .i64 vk, .bool vb, .int .i64 vi, .string vs, .slice val vnl vcl, .slice vam vnm vcm] 60)) = wa at *
      refine hc.out.mono ?_
      rintro e w3 ⟨csu, rfl, hlu, b3⟩
      obtain ⟨fk, fn, fma, fml, fmc, uk, ub, ui, us, ual, unl, ucl, uam, unm, ucm, rfl⟩ := El.nine hlu
      have hz3 := b3.size
      have HK3 : Blk w.heap.size 60 (l.length * 9) w3 := HK1.out.keep (b3.block _ (by omega))
      have HR3 := HR1.out.below (by omega) b3
      have B3 := B1.trans (b3.mono (by omega))
      have hjm : j < (l.map anE).length := by simpa using hjl
      have hlu3 : ((l.map anE)[j]'hjm).lies w3 (fun x => w.heap.size < x ∧ x < w3.heap.size) [.int .i64 fk, .string fn, .slice fma fml fmc, .int .i64 uk, .bool ub, .int .i64 ui, .string us, .slice ual unl ucl, .slice uam unm ucm] := by
        rw [List.getElem_map]
        exact El.lies_keep (fun _ _ => rfl) (fun x hx => ⟨by have := hx.1; omega, hx.2⟩) hlu
      have HS : Hid _ := HR3.store HK3 hjm (by omega) hlu3 B3 (Nat.le_refl _)
      obtain ⟨v0, k0⟩ := HK3.cell (j * 9) (by omega)
      obtain ⟨v1, k1⟩ := HK3.cell (j * 9 + 1) (by omega)
      obtain ⟨v2, k2⟩ := HK3.cell (j * 9 + 2) (by omega)
      obtain ⟨v3, k3⟩ := HK3.cell (j * 9 + 3) (by omega)
      obtain ⟨v4, k4⟩ := HK3.cell (j * 9 + 4) (by omega)
      obtain ⟨v5, k5⟩ := HK3.cell (j * 9 + 5) (by omega)
      obtain ⟨v6, k6⟩ := HK3.cell (j * 9 + 6) (by omega)
      obtain ⟨v7, k7⟩ := HK3.cell (j * 9 + 7) (by omega)
      obtain ⟨v8, k8⟩ := HK3.cell (j * 9 + 8) (by omega)
      have kf := HK3.frozen
      clear hlu hlu3 HR3 HK3 HR1 HK1 B3 B1 b3 q0 q1 q2 q3 q4 q5 q6 q7 q8 hc ba
      go_wp2_with fail
      go_roundw
      case rel => exact ⟨j + 1, by omega, by go_num, by simp [size_set1]; omega, HS.out.1, HS.out.2.1, HS.out.2.2⟩
      case measure => simp [RowKit.intOf]; omega
    · obtain rfl : j = l.length := by omega
      have y1 : ¬ (l.length : Int) < l.length := by omega
      have HF : Hid (liesP wr (New w wr) (l.map anE) w.heap.size 0) := fun i hi => by
        obtain ⟨cs, r, _, lies⟩ := HR.out i hi (by simpa using hi)
        exact ⟨⟨Nat.le_refl _, by omega⟩, cs, by rw [Nat.zero_add]; exact r, El.lies_keep (fun _ _ => rfl) (fun x hx => ⟨by have := hx.1; omega, hx.2⟩) lies⟩
      have hml : (l.map anE).length = l.length := by simp
      clear HR HK
      go_wp2_with fail
      go_ret
      exact ⟨w.heap.size, by rw [hml]; rfl, HF.out, bj⟩
end Go.Proofs.YtfekgeaopchilaaGreatDoor
/- Small facts of cells that are set. -/
namespace Go.Proofs.YtfekgeaopchilaaGreatDoor
open Go.RowKit Go.Lib
theorem OwnL.set6 {w : World} {base M : Nat} {S : Nat → Prop} {v : Value} {l : List (Option V)} (h : OwnL false w base S v l) (hM : M < base) (i1 i2 i3 i4 i5 i6 : Nat) (u1 u2 u3 u4 u5 u6 : Value) :
    OwnL false ((((((w.setCell ⟨M, i1, none⟩ u1).setCell ⟨M, i2, none⟩ u2).setCell ⟨M, i3, none⟩ u3).setCell ⟨M, i4, none⟩ u4).setCell ⟨M, i5, none⟩ u5).setCell ⟨M, i6, none⟩ u6) base S v l :=
  (((((h.set (keepL false) hM i1 u1).set (keepL false) hM i2 u2).set (keepL false) hM i3 u3).set (keepL false) hM i4 u4).set (keepL false) hM i5 u5).set (keepL false) hM i6 u6
theorem cell_set_ne {W : World} {B b o i : Nat} (h : b ≠ B) (v : Value) : (W.setCell ⟨B, i, none⟩ v).cell? ⟨b, o, none⟩ = W.cell? ⟨b, o, none⟩ := World.cell?_setCell_far W ⟨B, i, none⟩ ⟨b, o, none⟩ v (fun e => h e.symm)
def From (B : Nat) (w : World) (x : Nat) : Prop := B ≤ x ∧ x < w.heap.size
theorem liesM_set {w : World} {B M : Nat} {l : List Mem} {b o : Nat} (h : liesM false w (From B w) l b o) (hM : M < B) (i : Nat) (u : Value) : liesM false (w.setCell ⟨M, i, none⟩ u) (From B (w.setCell ⟨M, i, none⟩ u)) l b o :=
  liesM_keep (fun h => h) (fun x hx => (grown_set1 w M i u).block x hx.2 (fun e => by have := Option.some.inj e; have := hx.1; omega)) (fun x hx => ⟨hx.1, by rw [size_set1]; exact hx.2⟩) l h
theorem liesM_set6 {w : World} {B M : Nat} {l : List Mem} {b o : Nat} (h : liesM false w (From B w) l b o) (hM : M < B) (i1 i2 i3 i4 i5 i6 : Nat) (u1 u2 u3 u4 u5 u6 : Value) :
    liesM false ((((((w.setCell ⟨M, i1, none⟩ u1).setCell ⟨M, i2, none⟩ u2).setCell ⟨M, i3, none⟩ u3).setCell ⟨M, i4, none⟩ u4).setCell ⟨M, i5, none⟩ u5).setCell ⟨M, i6, none⟩ u6) (From B ((((((w.setCell ⟨M, i1, none⟩ u1).setCell ⟨M, i2, none⟩ u2).setCell ⟨M, i3, none⟩ u3).setCell ⟨M, i4, none⟩ u4).setCell ⟨M, i5, none⟩ u5).setCell ⟨M, i6, none⟩ u6)) l b o :=
  liesM_set (liesM_set (liesM_set (liesM_set (liesM_set (liesM_set h hM i1 u1) hM i2 u2) hM i3 u3) hM i4 u4) hM i5 u5) hM i6 u6
theorem alloc2_keep1 (w : World) (o o' : Obj) : ((w.alloc o).alloc o').heap[w.heap.size]? = some o := by
  have h := heap_alloc_new w o
  have hl := (Array.getElem?_eq_some_iff.1 h).1
  exact (Below.heap_alloc (w.alloc o) o' w.heap.size hl).trans h
end Go.Proofs.YtfekgeaopchilaaGreatDoor
