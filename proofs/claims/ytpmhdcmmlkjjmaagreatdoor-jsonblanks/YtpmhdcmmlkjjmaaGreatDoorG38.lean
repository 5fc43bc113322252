/- joined: JdG JdH JdK JdQ JdD JpsD -/
import Derived.Test.YtpmhdcmmlkjjmaaGreatDoorG35
import Derived.RegionTactic
import Derived.ChangeAlike
/- the document's list. -/
set_option linter.unusedSimpArgs false
set_option linter.unusedVariables false
set_option maxRecDepth 100000
namespace Go.Proofs.YtpmhdcmmlkjjmaaGreatDoor
open Go.RowKit Go.Lib
/-- the boxes of a method that makes a value: the one that answers, the one that it is made in -/
structure Dx (w : World) (g : Nat) (s : ByteArray) (D k n e bd : Nat) (c : Array Value) (W : World) : Prop where
  b4 : W.heap[w.heap.size]? = some z46
  b5 : W.heap[w.heap.size + 1]? = some (.cells c 25 (0, 0))
  jd : JD g s k n D e bd W
  gr : w.grownBy W (some g)
section
variable {w W W' : World} {g D k n e bd : Nat} {s : ByteArray} {c : Array Value}
theorem Dx.lt (h : Dx w g s D k n e bd c W) : w.heap.size + 1 < W.heap.size := by
  rcases Nat.lt_or_ge (w.heap.size + 1) W.heap.size with q | q
  · exact q
  · have := h.b5; rw [Array.getElem?_eq_none q] at this; cases this
theorem Dx.next {k2 n2 e2 bd2 : Nat} (h : Dx w g s D k n e bd c W) (hg : g < w.heap.size) (gr : W.grownBy W' (some g)) (hj : JD g s k2 n2 D e2 bd2 W') : Dx w g s D k2 n2 e2 bd2 c W' :=
  ⟨(gr.block _ (by have := h.lt; omega) (fun e => by have := Option.some.inj e; omega)).trans h.b4, (gr.block _ h.lt (fun e => by have := Option.some.inj e; omega)).trans h.b5, hj, grown_trans h.gr gr⟩
theorem Dx.own {row : Option Nat} (h : Dx w g s D k n e bd c W) (hg : g < w.heap.size) (gr : W.grownBy W' row) (hr : ∀ r, row = some r → w.heap.size + 2 ≤ r) : Dx w g s D k n e bd c W' :=
  ⟨(gr.block _ (by have := h.lt; omega) (fun e => by have := hr _ e.symm; omega)).trans h.b4, (gr.block _ h.lt (fun e => by have := hr _ e.symm; omega)).trans h.b5, h.jd.own gr (fun e => by have := hr _ e; omega), grown_own h.gr gr (fun r e => by have := hr r e; omega)⟩
theorem Dx.cells {c0 c1 c2 c3 c4 c5 : Value} (h : Dx w g s D k n e bd #[c0, c1, c2, c3, c4, c5] W) :
    (W.cell? ⟨w.heap.size, 0, none⟩ = some (.int .i64 0) ∧ W.cell? ⟨w.heap.size, 1, none⟩ = some (.bool false) ∧ W.cell? ⟨w.heap.size, 2, none⟩ = some (.int .i64 0) ∧ W.cell? ⟨w.heap.size, 3, none⟩ = some (.string ⟨#[]⟩) ∧ W.cell? ⟨w.heap.size, 4, none⟩ = some (.slice none 0 0) ∧ W.cell? ⟨w.heap.size, 5, none⟩ = some (.slice none 0 0)) ∧ (∀ i, W.frozen? ⟨w.heap.size, i, none⟩ = false) ∧
    (W.cell? ⟨w.heap.size + 1, 0, none⟩ = some c0 ∧ W.cell? ⟨w.heap.size + 1, 1, none⟩ = some c1 ∧ W.cell? ⟨w.heap.size + 1, 2, none⟩ = some c2 ∧ W.cell? ⟨w.heap.size + 1, 3, none⟩ = some c3 ∧ W.cell? ⟨w.heap.size + 1, 4, none⟩ = some c4 ∧ W.cell? ⟨w.heap.size + 1, 5, none⟩ = some c5) ∧ (∀ i, W.frozen? ⟨w.heap.size + 1, i, none⟩ = false) :=
  ⟨⟨cell_of_block h.b4 0, cell_of_block h.b4 1, cell_of_block h.b4 2, cell_of_block h.b4 3, cell_of_block h.b4 4, cell_of_block h.b4 5⟩, frozen_of_block h.b4, ⟨cell_of_block h.b5 0, cell_of_block h.b5 1, cell_of_block h.b5 2, cell_of_block h.b5 3, cell_of_block h.b5 4, cell_of_block h.b5 5⟩, frozen_of_block h.b5⟩
theorem Dx.done (h : Dx w g s D k n e bd c W) (hg : g < w.heap.size) (v0 v1 v2 v3 v4 v5 : Value) :
    ∃ W6, W6 = ((((((W.setCell ⟨w.heap.size, 0, none⟩ v0).setCell ⟨w.heap.size, 1, none⟩ v1).setCell ⟨w.heap.size, 2, none⟩ v2).setCell ⟨w.heap.size, 3, none⟩ v3).setCell ⟨w.heap.size, 4, none⟩ v4).setCell ⟨w.heap.size, 5, none⟩ v5) ∧
      (W6.cell? ⟨w.heap.size, 0, none⟩ = some v0 ∧ W6.cell? ⟨w.heap.size, 1, none⟩ = some v1 ∧ W6.cell? ⟨w.heap.size, 2, none⟩ = some v2 ∧ W6.cell? ⟨w.heap.size, 3, none⟩ = some v3 ∧ W6.cell? ⟨w.heap.size, 4, none⟩ = some v4 ∧ W6.cell? ⟨w.heap.size, 5, none⟩ = some v5) ∧ JD g s k n D e bd W6 ∧ w.grownBy W6 (some g) ∧ W.grownBy W6 (some w.heap.size) := by
  have hb := st6_block h.b4 v0 v1 v2 v3 v4 v5
  have hg6 := st6_grown W w.heap.size v0 v1 v2 v3 v4 v5
  generalize ((((((W.setCell ⟨w.heap.size, 0, none⟩ v0).setCell ⟨w.heap.size, 1, none⟩ v1).setCell ⟨w.heap.size, 2, none⟩ v2).setCell ⟨w.heap.size, 3, none⟩ v3).setCell ⟨w.heap.size, 4, none⟩ v4).setCell ⟨w.heap.size, 5, none⟩ v5) = W6 at *
  exact ⟨W6, rfl, ⟨cell_of_block hb 0, cell_of_block hb 1, cell_of_block hb 2, cell_of_block hb 3, cell_of_block hb 4, cell_of_block hb 5⟩, h.jd.own hg6 (fun e => by have := Option.some.inj e; omega), grown_own h.gr hg6 (fun r e => by cases e; exact Nat.le_refl _), hg6⟩
end
end Go.Proofs.YtpmhdcmmlkjjmaaGreatDoor
/- the document's list: the walk. -/
set_option maxRecDepth 100000
namespace Go.Proofs.YtpmhdcmmlkjjmaaGreatDoor
open Go.RowKit Go.Lib
theorem Dx.put1 {w W : World} {g D k n e bd : Nat} {s : ByteArray} {c : Array Value} (h : Dx w g s D k n e bd c W) (hg : g < w.heap.size) (m : Nat) (z : Int) (hz : z = m) : Dx w g s D m n e bd c (W.setCell ⟨g, 1, none⟩ (.int .i64 z)) :=
  h.next hg (grown_set1 W g 1 _) (h.jd.put m z hz)
end Go.Proofs.YtpmhdcmmlkjjmaaGreatDoor
/- the document's value: its box. -/
set_option maxRecDepth 100000
namespace Go.Proofs.YtpmhdcmmlkjjmaaGreatDoor
open Go.RowKit Go.Lib
/-- the box that answers -/
structure Dy (w : World) (g : Nat) (s : ByteArray) (D k n e bd : Nat) (W : World) : Prop where
  b4 : W.heap[w.heap.size]? = some z46
  jd : JD g s k n D e bd W
  gr : w.grownBy W (some g)
section
variable {w W W' : World} {g D k n e bd : Nat} {s : ByteArray}
theorem Dy.lt (h : Dy w g s D k n e bd W) : w.heap.size < W.heap.size := by
  rcases Nat.lt_or_ge w.heap.size W.heap.size with q | q
  · exact q
  · have := h.b4; rw [Array.getElem?_eq_none q] at this; cases this
theorem Dy.next {k2 n2 e2 bd2 : Nat} (h : Dy w g s D k n e bd W) (hg : g < w.heap.size) (gr : W.grownBy W' (some g)) (hj : JD g s k2 n2 D e2 bd2 W') : Dy w g s D k2 n2 e2 bd2 W' :=
  ⟨(gr.block _ h.lt (fun e => by have := Option.some.inj e; omega)).trans h.b4, hj, grown_trans h.gr gr⟩
theorem Dy.put1 (h : Dy w g s D k n e bd W) (hg : g < w.heap.size) (m : Nat) (z : Int) (hz : z = m) : Dy w g s D m n e bd (W.setCell ⟨g, 1, none⟩ (.int .i64 z)) := h.next hg (grown_set1 W g 1 _) (h.jd.put m z hz)
theorem Dy.put2 (h : Dy w g s D k n e bd W) (hg : g < w.heap.size) (m : Nat) (z : Int) (hz : z = m) : Dy w g s D k m e bd (W.setCell ⟨g, 2, none⟩ (.int .i64 z)) := h.next hg (grown_set1 W g 2 _) (h.jd.putN m z hz)
theorem Dy.cells (h : Dy w g s D k n e bd W) :
    (W.cell? ⟨w.heap.size, 0, none⟩ = some (.int .i64 0) ∧ W.cell? ⟨w.heap.size, 1, none⟩ = some (.bool false) ∧ W.cell? ⟨w.heap.size, 2, none⟩ = some (.int .i64 0) ∧ W.cell? ⟨w.heap.size, 3, none⟩ = some (.string ⟨#[]⟩) ∧ W.cell? ⟨w.heap.size, 4, none⟩ = some (.slice none 0 0) ∧ W.cell? ⟨w.heap.size, 5, none⟩ = some (.slice none 0 0)) ∧ (∀ i, W.frozen? ⟨w.heap.size, i, none⟩ = false) :=
  ⟨⟨cell_of_block h.b4 0, cell_of_block h.b4 1, cell_of_block h.b4 2, cell_of_block h.b4 3, cell_of_block h.b4 4, cell_of_block h.b4 5⟩, frozen_of_block h.b4⟩
theorem Dy.done (h : Dy w g s D k n e bd W) (hg : g < w.heap.size) (v0 v1 v2 v3 v4 v5 : Value) :
    ∃ W6, W6 = ((((((W.setCell ⟨w.heap.size, 0, none⟩ v0).setCell ⟨w.heap.size, 1, none⟩ v1).setCell ⟨w.heap.size, 2, none⟩ v2).setCell ⟨w.heap.size, 3, none⟩ v3).setCell ⟨w.heap.size, 4, none⟩ v4).setCell ⟨w.heap.size, 5, none⟩ v5) ∧
      (W6.cell? ⟨w.heap.size, 0, none⟩ = some v0 ∧ W6.cell? ⟨w.heap.size, 1, none⟩ = some v1 ∧ W6.cell? ⟨w.heap.size, 2, none⟩ = some v2 ∧ W6.cell? ⟨w.heap.size, 3, none⟩ = some v3 ∧ W6.cell? ⟨w.heap.size, 4, none⟩ = some v4 ∧ W6.cell? ⟨w.heap.size, 5, none⟩ = some v5) ∧ JD g s k n D e bd W6 ∧ w.grownBy W6 (some g) ∧ W.grownBy W6 (some w.heap.size) := by
  have hb := st6_block h.b4 v0 v1 v2 v3 v4 v5
  have hg6 := st6_grown W w.heap.size v0 v1 v2 v3 v4 v5
  generalize ((((((W.setCell ⟨w.heap.size, 0, none⟩ v0).setCell ⟨w.heap.size, 1, none⟩ v1).setCell ⟨w.heap.size, 2, none⟩ v2).setCell ⟨w.heap.size, 3, none⟩ v3).setCell ⟨w.heap.size, 4, none⟩ v4).setCell ⟨w.heap.size, 5, none⟩ v5) = W6 at *
  exact ⟨W6, rfl, ⟨cell_of_block hb 0, cell_of_block hb 1, cell_of_block hb 2, cell_of_block hb 3, cell_of_block hb 4, cell_of_block hb 5⟩, h.jd.own hg6 (fun e => by have := Option.some.inj e; omega), grown_own h.gr hg6 (fun r e => by cases e; exact Nat.le_refl _), hg6⟩
end
theorem entD_ok {c : UInt8} {D n o k : Nat} (h : c = 110 ∨ c = 116 ∨ c = 102 ∨ c = 34 ∨ c = 91 ∨ c = 123 ∨ numC c = true) (hn : ¬ n = 65536) (ho : ¬ D < o) : entJ c D n o k = .ok (n + 1) := by rw [entJ, if_neg (fun q => q h), if_neg hn, if_neg ho]
end Go.Proofs.YtpmhdcmmlkjjmaaGreatDoor
/- the document's Parse. -/
set_option maxRecDepth 100000
namespace Go.Proofs.YtpmhdcmmlkjjmaaGreatDoor
open Go.RowKit Go.Lib
/-- the box that answers, the reader's box -/
structure Dz (w : World) (s : ByteArray) (D k n e bd : Nat) (W : World) : Prop where
  b4 : W.heap[w.heap.size]? = some z46
  jd : JD (w.heap.size + 1) s k n D e bd W
  bl : Below w.heap.size w W
section
variable {w W W' : World} {D k n e bd : Nat} {s : ByteArray}
theorem Dz.next {k2 n2 e2 bd2 : Nat} (h : Dz w s D k n e bd W) (gr : W.grownBy W' (some (w.heap.size + 1))) (hj : JD (w.heap.size + 1) s k2 n2 D e2 bd2 W') : Dz w s D k2 n2 e2 bd2 W' :=
  ⟨(gr.block _ (by have := h.jd.lt; omega) (fun e => by have := Option.some.inj e; omega)).trans h.b4, hj, h.bl.grown gr h.bl.size (fun r e => by cases e; omega)⟩
theorem Dz.alloc (h : Dz w s D k n e bd W) (o : Obj) : Dz w s D k n e bd (W.alloc o) :=
  ⟨(Below.heap_alloc W o _ (by have := h.jd.lt; omega)).trans h.b4, h.jd.keep ((Below.refl _ _).alloc (Nat.le_refl _) _), h.bl.alloc h.bl.size _⟩
theorem Dz.below (h : Dz w s D k n e bd W) (hb : Below W.heap.size W W') : Dz w s D k n e bd W' :=
  ⟨(hb.block _ (by have := h.jd.lt; omega)).trans h.b4, h.jd.keep hb, h.bl.trans (hb.mono h.bl.size)⟩
end
end Go.Proofs.YtpmhdcmmlkjjmaaGreatDoor
/- the document's integer: the walk. -/
set_option maxRecDepth 100000
namespace Go.Proofs.YtpmhdcmmlkjjmaaGreatDoor
open Go.RowKit Go.Lib
theorem uJ_dig {l : List UInt8} (h0 : l ≠ []) (hz : ¬ (1 < l.length ∧ l.head? = some 48)) (hl : ¬ 19 < l.length) : uJ l = dvJ 0 l := by
  rw [uJ, if_neg]
  rintro (q | q | q)
  · exact h0 q
  · exact hz q
  · exact hl q
end Go.Proofs.YtpmhdcmmlkjjmaaGreatDoor
/- where appended bytes lie: in their row, or in a new block. -/
namespace Go.Proofs.YtpmhdcmmlkjjmaaGreatDoor
open Go.RowKit Go.Lib
/-- in the row that v has, or in a block from n on -/
def Lands (v : Value) (n : Nat) (v' : Value) : Prop := ∀ g, v'.ownBlock = some g → v.ownBlock = some g ∨ n ≤ g
theorem Lands.trans {v v1 v2 : Value} {n n1 : Nat} (h : Lands v n v1) (h' : Lands v1 n1 v2) (hn : n ≤ n1) : Lands v n v2 := fun g hg => by
  rcases h' g hg with e | e
  · exact h g e
  · exact .inr (Nat.le_trans hn e)
theorem Lands.refl (v : Value) (n : Nat) : Lands v n v := fun g hg => .inl hg
theorem run_str_where (w : World) (B : Nat) (v : Value) (l : List UInt8) (hown : OwnB B v l w) (ty : TypeId) (t : ByteArray) (h0 : 0 < t.size) (hlen : l.length + t.size ≤ 140737488355328) (hbase : B ≤ w.heap.size) :
    ∃ v' w', (Builtin.append_ #[28, 9] ty #[v, .string t]).run Tryz.prog w = .ok v' w' ∧ OwnB B v' (l ++ t.data.toList) w' ∧ w.grownBy w' v.ownBlock ∧ Lands v w.heap.size v' := by
  obtain ⟨i0, hi, hz0, hz1, hz2⟩ := info_parts info5
  obtain ⟨v', w', hr, h1, h2, _⟩ := run_append_own_string (P := Tryz.prog) w B 28 9 ty 5 i0 Tryz.underlying28 Tryz.underlying9 hi hz0 hz1 hz2 v l.length (byteCells l) hown t (by unfold maxLen; omega) hlen hbase
  refine ⟨v', w', hr, ?_, h2, ?_⟩
  · show w'.ownsRow B 5 1 v' (l ++ t.data.toList).length (byteCells (l ++ t.data.toList))
    have e : byteCells (l ++ t.data.toList) = byteCells l ++ strCells t := by simp [byteCells, strCells]
    have e2 : t.data.toList.length = t.size := by rw [Array.length_toList]; rfl
    rw [e, List.length_append, e2]
    exact h1
  · intro g' hg'
    rcases hown.2 with ⟨rfl, hx⟩ | ⟨g, cap, cur, rfl, hbg, hg, hnc, hcm, hcs, htake⟩
    · have h3 := run_append_nil_string (P := Tryz.prog) w 28 9 ty 5 i0 (.int .u8 0) Tryz.underlying28 Tryz.underlying9 hi hz0 t h0 (by omega) (by rw [hz2]; omega)
      rw [h3] at hr
      obtain ⟨rfl, _⟩ := Result.ok.inj hr
      simp [Value.ownBlock] at hg'
      exact .inr (by omega)
    · by_cases hroom : l.length + t.size ≤ cap
      · have hcs' : cur.size = cap := by simpa using hcs
        have h3 := run_append_room_string (P := Tryz.prog) w 28 9 ty 5 i0 Tryz.underlying28 Tryz.underlying9 hi hz1 g l.length cap cur hg t hroom (by omega)
        rw [h3] at hr
        obtain ⟨rfl, _⟩ := Result.ok.inj hr
        exact .inl hg'
      · have hxl : (byteCells l).length = l.length := byteCells_length l
        have holds : ∀ j u, (byteCells l)[j]? = some u → w.cell? ((⟨g, 0, none⟩ : Addr).add j) = some u := World.ownsRow.cells hown (g := g) rfl
        have h3 := run_append_grow_string (P := Tryz.prog) w 28 9 ty 5 i0 (.int .u8 0) Tryz.underlying28 Tryz.underlying9 hi hz0 ⟨g, 0, none⟩ l.length cap (byteCells l) (by rw [hz1]; omega) holds t (by omega) (by omega) (by rw [hz2]; exact growslice_fits (by omega) (by omega))
        rw [h3] at hr
        obtain ⟨rfl, _⟩ := Result.ok.inj hr
        simp [Value.ownBlock] at hg'
        exact .inr (by omega)
end Go.Proofs.YtpmhdcmmlkjjmaaGreatDoor
