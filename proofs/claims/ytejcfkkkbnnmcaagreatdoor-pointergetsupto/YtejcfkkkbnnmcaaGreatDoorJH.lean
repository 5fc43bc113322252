/- joined: RgwA RkdA LawG -/
import Derived.Test.YtejcfkkkbnnmcaaGreatDoorJG
import Derived.Deep.RegionHeld3
import Derived.Test.YtejcfkkkbnnmcaaGreatDoorRfE
import Derived.Test.YtejcfkkkbnnmcaaGreatDoorRclA
import Derived.Test.YtejcfkkkbnnmcaaGreatDoorSamA
/- freeholdref04.Get. -/
set_option linter.unusedSimpArgs false
set_option linter.unusedVariables false
namespace Go.Proofs.YtejcfkkkbnnmcaaGreatDoor
open Go.RowKit Go.Lib

theorem box_set6 {w : World} {g : Nat} {ty : TypeId} {c0 c1 c2 c3 c4 c5 : Value} (h : w.heap[g]? = some (.cells #[c0, c1, c2, c3, c4, c5] ty)) (d0 d1 d2 d3 d4 d5 : Value) : ((((((w.setCell ⟨g, 0, none⟩ (d0)).setCell ⟨g, 1, none⟩ (d1)).setCell ⟨g, 2, none⟩ (d2)).setCell ⟨g, 3, none⟩ (d3)).setCell ⟨g, 4, none⟩ (d4)).setCell ⟨g, 5, none⟩ (d5)).heap[g]? = some (.cells #[d0, d1, d2, d3, d4, d5] ty) := by
  have h0 : (w.setCell ⟨g, 0, none⟩ d0).heap[g]? = some (.cells #[d0, c1, c2, c3, c4, c5] ty) := by rw [set_block h]; rfl
  have h1 : ((w.setCell ⟨g, 0, none⟩ d0).setCell ⟨g, 1, none⟩ d1).heap[g]? = some (.cells #[d0, d1, c2, c3, c4, c5] ty) := by rw [set_block h0]; rfl
  have h2 : (((w.setCell ⟨g, 0, none⟩ d0).setCell ⟨g, 1, none⟩ d1).setCell ⟨g, 2, none⟩ d2).heap[g]? = some (.cells #[d0, d1, d2, c3, c4, c5] ty) := by rw [set_block h1]; rfl
  have h3 : ((((w.setCell ⟨g, 0, none⟩ d0).setCell ⟨g, 1, none⟩ d1).setCell ⟨g, 2, none⟩ d2).setCell ⟨g, 3, none⟩ d3).heap[g]? = some (.cells #[d0, d1, d2, d3, c4, c5] ty) := by rw [set_block h2]; rfl
  have h4 : (((((w.setCell ⟨g, 0, none⟩ d0).setCell ⟨g, 1, none⟩ d1).setCell ⟨g, 2, none⟩ d2).setCell ⟨g, 3, none⟩ d3).setCell ⟨g, 4, none⟩ d4).heap[g]? = some (.cells #[d0, d1, d2, d3, d4, c5] ty) := by rw [set_block h3]; rfl
  rw [set_block h4]; rfl
theorem six_other (w : World) (g : Nat) (d0 d1 d2 d3 d4 d5 : Value) (y : Nat) (hy : y ≠ g) : ((((((w.setCell ⟨g, 0, none⟩ (d0)).setCell ⟨g, 1, none⟩ (d1)).setCell ⟨g, 2, none⟩ (d2)).setCell ⟨g, 3, none⟩ (d3)).setCell ⟨g, 4, none⟩ (d4)).setCell ⟨g, 5, none⟩ (d5)).heap[y]? = w.heap[y]? := by
  repeat (rw [set_other hy])
theorem six_size (w : World) (g : Nat) (d0 d1 d2 d3 d4 d5 : Value) : ((((((w.setCell ⟨g, 0, none⟩ (d0)).setCell ⟨g, 1, none⟩ (d1)).setCell ⟨g, 2, none⟩ (d2)).setCell ⟨g, 3, none⟩ (d3)).setCell ⟨g, 4, none⟩ (d4)).setCell ⟨g, 5, none⟩ (d5)).heap.size = w.heap.size := by simp only [size_set1]

/-- how it stands at the loop's head and behind a step: the boxes, the tokens -/
structure GSt (w : World) (B : Nat) (tv : Value) (l : List ByteArray) (vb : Obj) (W : World) : Prop where
  vb : W.heap[w.heap.size]? = some vb
  rb : W.heap[w.heap.size + 1]? = some (.cells #[.int .i64 0, .bool false, .int .i64 0, .string ⟨#[]⟩, .slice none 0 0, .slice none 0 0] 25)
  nb : W.heap[w.heap.size + 2]? = some (.cells #[.int .i64 0, .bool false, .int .i64 0, .string ⟨#[]⟩, .slice none 0 0, .slice none 0 0] 25)
  ow : OwnS B tv l W
  bw : Below w.heap.size w W
  sz : w.heap.size + 3 ≤ W.heap.size
theorem GSt.next {w : World} {B : Nat} {tv : Value} {l : List ByteArray} {vb : Obj} {W W' : World} (h : GSt w B tv l vb W) (hb : Below W.heap.size W W') : GSt w B tv l vb W' := by
  have := h.sz
  have := hb.size
  exact ⟨(hb.block _ (by omega)).trans h.vb, (hb.block _ (by omega)).trans h.rb, (hb.block _ (by omega)).trans h.nb, h.ow.below hb, h.bw.trans (hb.mono (by omega)), by omega⟩
theorem GSt.box {w : World} {B : Nat} {tv : Value} {l : List ByteArray} {vb : Obj} {W : World} {X : Nat} (h : GSt w B tv l vb W) (hX : w.heap.size + 3 ≤ X) (ho : tv.ownBlock ≠ some X) (d0 d1 d2 d3 d4 d5 : Value) : GSt w B tv l vb ((((((W.setCell ⟨X, 0, none⟩ (d0)).setCell ⟨X, 1, none⟩ (d1)).setCell ⟨X, 2, none⟩ (d2)).setCell ⟨X, 3, none⟩ (d3)).setCell ⟨X, 4, none⟩ (d4)).setCell ⟨X, 5, none⟩ (d5)) := by
  have := h.sz
  have ho' := six_other W X d0 d1 d2 d3 d4 d5
  have hz := six_size W X d0 d1 d2 d3 d4 d5
  have hg : W.grownBy ((((((W.setCell ⟨X, 0, none⟩ (d0)).setCell ⟨X, 1, none⟩ (d1)).setCell ⟨X, 2, none⟩ (d2)).setCell ⟨X, 3, none⟩ (d3)).setCell ⟨X, 4, none⟩ (d4)).setCell ⟨X, 5, none⟩ (d5)) (some X) := grown_set (grown_set (grown_set (grown_set (grown_set (grown_set (World.grownBy.refl W _) 0 d0) 1 d1) 2 d2) 3 d3) 4 d4) 5 d5
  generalize ((((((W.setCell ⟨X, 0, none⟩ (d0)).setCell ⟨X, 1, none⟩ (d1)).setCell ⟨X, 2, none⟩ (d2)).setCell ⟨X, 3, none⟩ (d3)).setCell ⟨X, 4, none⟩ (d4)).setCell ⟨X, 5, none⟩ (d5)) = W' at *
  exact ⟨(ho' _ (by omega)).trans h.vb, (ho' _ (by omega)).trans h.rb, (ho' _ (by omega)).trans h.nb, World.ownsRow.kept h.ow hg (.inr ho), ⟨hg.os.trans h.bw.os, hg.tape.trans h.bw.tape, hg.output.trans h.bw.output, by have := h.bw.size; omega, fun q hq => (ho' q (by omega)).trans (h.bw.block q hq)⟩, by omega⟩
theorem GSt.put {w : World} {B : Nat} {tv : Value} {l : List ByteArray} {W : World} {c0 c1 c2 c3 c4 c5 : Value} (h : GSt w B tv l (.cells #[c0, c1, c2, c3, c4, c5] 25) W) (hB : w.heap.size + 3 ≤ B) (d0 d1 d2 d3 d4 d5 : Value) : GSt w B tv l (.cells #[d0, d1, d2, d3, d4, d5] 25) ((((((W.setCell ⟨w.heap.size, 0, none⟩ (d0)).setCell ⟨w.heap.size, 1, none⟩ (d1)).setCell ⟨w.heap.size, 2, none⟩ (d2)).setCell ⟨w.heap.size, 3, none⟩ (d3)).setCell ⟨w.heap.size, 4, none⟩ (d4)).setCell ⟨w.heap.size, 5, none⟩ (d5)) := by
  have := h.sz
  have hb := box_set6 h.vb d0 d1 d2 d3 d4 d5
  have ho' := six_other W w.heap.size d0 d1 d2 d3 d4 d5
  have hz := six_size W w.heap.size d0 d1 d2 d3 d4 d5
  have hg : W.grownBy ((((((W.setCell ⟨w.heap.size, 0, none⟩ (d0)).setCell ⟨w.heap.size, 1, none⟩ (d1)).setCell ⟨w.heap.size, 2, none⟩ (d2)).setCell ⟨w.heap.size, 3, none⟩ (d3)).setCell ⟨w.heap.size, 4, none⟩ (d4)).setCell ⟨w.heap.size, 5, none⟩ (d5)) (some w.heap.size) := grown_set (grown_set (grown_set (grown_set (grown_set (grown_set (World.grownBy.refl W _) 0 d0) 1 d1) 2 d2) 3 d3) 4 d4) 5 d5
  have hne : tv.ownBlock ≠ some w.heap.size := fun e => by have := (World.ownsRow.lt h.ow _ e).1; omega
  generalize ((((((W.setCell ⟨w.heap.size, 0, none⟩ (d0)).setCell ⟨w.heap.size, 1, none⟩ (d1)).setCell ⟨w.heap.size, 2, none⟩ (d2)).setCell ⟨w.heap.size, 3, none⟩ (d3)).setCell ⟨w.heap.size, 4, none⟩ (d4)).setCell ⟨w.heap.size, 5, none⟩ (d5)) = W' at *
  exact ⟨hb, (ho' _ (by omega)).trans h.rb, (ho' _ (by omega)).trans h.nb, World.ownsRow.kept h.ow hg (.inr hne), ⟨hg.os.trans h.bw.os, hg.tape.trans h.bw.tape, hg.output.trans h.bw.output, by have := h.bw.size; omega, fun q hq => (ho' q (by omega)).trans (h.bw.block q hq)⟩, by omega⟩
theorem OwnS.at {B : Nat} {v : Value} {l : List ByteArray} {w : World} (h : OwnS B v l w) (j : Nat) (hj : j < l.length) : ∃ g c, v = .slice (some ⟨g, 0, none⟩) l.length c ∧ B ≤ g ∧ g < w.heap.size ∧ w.cell? ⟨g, j, none⟩ = some (.string l[j]) := by
  have h' := h
  rcases h.2 with ⟨rfl, e⟩ | ⟨g, cap, cur, rfl, hb, _, hle, _⟩
  · omega
  · refine ⟨g, cap, rfl, hb, (World.ownsRow.lt h' g rfl).2, ?_⟩
    have := World.ownsRow.cells h' (g := g) rfl j (.string l[j]) (by simp [strs, hj])
    rw [Go.WideShapes.add_plain] at this
    simpa using this
def RgPost (r : V × Int) (S : Nat → Prop) (w : World) (e : Ending) (w' : World) : Prop := ∃ cs : List Value, e = .returned (.tuple #[.agg cs.toArray, .int .i64 r.2]) ∧ r.1.lies false w' S cs ∧ Below w.heap.size w w'
theorem rgW_drop {u : V} {l : List ByteArray} {j : Nat} (hj : j < l.length) : rgW u (l.drop j) = if (ledF u l[j]).2 = 0 then rgW (kid u (ledF u l[j]).1) (l.drop (j + 1)) else (nullV, (ledF u l[j]).2) := by
  rw [List.drop_eq_getElem_cons hj, rgW]
theorem stp_cases (u : V) (t : ByteArray) : (((stpF u t).2.2 = 0 ∧ (ledF u t).2 = 0 ∧ (stpF u t).1 = kid u (ledF u t).1) ∨ ((stpF u t).2.2 = (ledF u t).2 ∧ ¬ (ledF u t).2 = 0)) := by
  unfold stpF
  split
  · rename_i h
    exact .inl ⟨rfl, h, rfl⟩
  · rename_i h
    exact .inr ⟨rfl, h⟩
theorem lies_below0 {v : V} {S : Nat → Prop} {cs : List Value} {w W W' : World} (hS : ∀ b, S b → b < w.heap.size) (h : v.lies false W S cs) (hb : Below w.heap.size w W) (hb' : Below w.heap.size w W') : v.lies false W' S cs := V.lies_keep (fun h => h) (fun x hx => (hb'.block x (hS x hx)).trans (hb.block x (hS x hx)).symm) (fun _ h => h) _ h
set_option maxHeartbeats 2400000 in
set_option maxRecDepth 100000 in
theorem rget_any (v : V) (p : ByteArray) (S : Nat → Prop) (cs : List Value) (w : World) (hv : v.lies false w S cs) (hS : ∀ b, S b → b < w.heap.size) (hwt : v.wt ≤ 1099511627776) (hp : p.size ≤ 1100000) : Calls Tryz.prog 7 #[.agg cs.toArray, .string p] w (RgPost (rgetF v p) S w) := by
  have HV := hmk hv
  obtain ⟨k, b, i, s, al, nl, cl, am, nm, cm, rfl⟩ := V.ten hv
  clear hv
  have b2 : Below w.heap.size w ((w.alloc (.cells #[.int .i64 k, .bool b, .int .i64 i, .string s, .slice al nl cl, .slice am nm cm] 25)).alloc (.cells #[.int .i64 0, .bool false, .int .i64 0, .string ⟨#[]⟩, .slice none 0 0, .slice none 0 0] 25)) := two_below w _ _
  have hz2 : ((w.alloc (.cells #[.int .i64 k, .bool b, .int .i64 i, .string s, .slice al nl cl, .slice am nm cm] 25)).alloc (.cells #[.int .i64 0, .bool false, .int .i64 0, .string ⟨#[]⟩, .slice none 0 0, .slice none 0 0] 25)).heap.size = w.heap.size + 2 := by rw [alloc_size, alloc_size]
  have b3 : Below ((w.alloc (.cells #[.int .i64 k, .bool b, .int .i64 i, .string s, .slice al nl cl, .slice am nm cm] 25)).alloc (.cells #[.int .i64 0, .bool false, .int .i64 0, .string ⟨#[]⟩, .slice none 0 0, .slice none 0 0] 25)).heap.size ((w.alloc (.cells #[.int .i64 k, .bool b, .int .i64 i, .string s, .slice al nl cl, .slice am nm cm] 25)).alloc (.cells #[.int .i64 0, .bool false, .int .i64 0, .string ⟨#[]⟩, .slice none 0 0, .slice none 0 0] 25)) (((w.alloc (.cells #[.int .i64 k, .bool b, .int .i64 i, .string s, .slice al nl cl, .slice am nm cm] 25)).alloc (.cells #[.int .i64 0, .bool false, .int .i64 0, .string ⟨#[]⟩, .slice none 0 0, .slice none 0 0] 25)).alloc (.cells #[.int .i64 0, .bool false, .int .i64 0, .string ⟨#[]⟩, .slice none 0 0, .slice none 0 0] 25)) := one_belowG _ _
  have B3 : Below w.heap.size w (((w.alloc (.cells #[.int .i64 k, .bool b, .int .i64 i, .string s, .slice al nl cl, .slice am nm cm] 25)).alloc (.cells #[.int .i64 0, .bool false, .int .i64 0, .string ⟨#[]⟩, .slice none 0 0, .slice none 0 0] 25)).alloc (.cells #[.int .i64 0, .bool false, .int .i64 0, .string ⟨#[]⟩, .slice none 0 0, .slice none 0 0] 25)) := b2.trans (b3.mono (by omega))
  have h0 := (b3.block w.heap.size (by omega)).trans (alloc2_keep1 w (.cells #[.int .i64 k, .bool b, .int .i64 i, .string s, .slice al nl cl, .slice am nm cm] 25) (.cells #[.int .i64 0, .bool false, .int .i64 0, .string ⟨#[]⟩, .slice none 0 0, .slice none 0 0] 25))
  have h1 := (b3.block (w.heap.size + 1) (by omega)).trans (alloc2_new w (.cells #[.int .i64 k, .bool b, .int .i64 i, .string s, .slice al nl cl, .slice am nm cm] 25) (.cells #[.int .i64 0, .bool false, .int .i64 0, .string ⟨#[]⟩, .slice none 0 0, .slice none 0 0] 25))
  have h2 := heap_alloc_new ((w.alloc (.cells #[.int .i64 k, .bool b, .int .i64 i, .string s, .slice al nl cl, .slice am nm cm] 25)).alloc (.cells #[.int .i64 0, .bool false, .int .i64 0, .string ⟨#[]⟩, .slice none 0 0, .slice none 0 0] 25)) (.cells #[.int .i64 0, .bool false, .int .i64 0, .string ⟨#[]⟩, .slice none 0 0, .slice none 0 0] 25)
  rw [hz2] at h2
  have hz3 : w.heap.size + 3 ≤ (((w.alloc (.cells #[.int .i64 k, .bool b, .int .i64 i, .string s, .slice al nl cl, .slice am nm cm] 25)).alloc (.cells #[.int .i64 0, .bool false, .int .i64 0, .string ⟨#[]⟩, .slice none 0 0, .slice none 0 0] 25)).alloc (.cells #[.int .i64 0, .bool false, .int .i64 0, .string ⟨#[]⟩, .slice none 0 0, .slice none 0 0] 25)).heap.size := by rw [alloc_size, hz2]; omega
  have r0 : (((w.alloc (.cells #[.int .i64 k, .bool b, .int .i64 i, .string s, .slice al nl cl, .slice am nm cm] 25)).alloc (.cells #[.int .i64 0, .bool false, .int .i64 0, .string ⟨#[]⟩, .slice none 0 0, .slice none 0 0] 25)).alloc (.cells #[.int .i64 0, .bool false, .int .i64 0, .string ⟨#[]⟩, .slice none 0 0, .slice none 0 0] 25)).cell? ⟨w.heap.size, 0, none⟩ = some (.int .i64 k) := by rw [cell_of_block h0]; rfl
  have r1 : (((w.alloc (.cells #[.int .i64 k, .bool b, .int .i64 i, .string s, .slice al nl cl, .slice am nm cm] 25)).alloc (.cells #[.int .i64 0, .bool false, .int .i64 0, .string ⟨#[]⟩, .slice none 0 0, .slice none 0 0] 25)).alloc (.cells #[.int .i64 0, .bool false, .int .i64 0, .string ⟨#[]⟩, .slice none 0 0, .slice none 0 0] 25)).cell? ⟨w.heap.size, 1, none⟩ = some (.bool b) := by rw [cell_of_block h0]; rfl
  have r2 : (((w.alloc (.cells #[.int .i64 k, .bool b, .int .i64 i, .string s, .slice al nl cl, .slice am nm cm] 25)).alloc (.cells #[.int .i64 0, .bool false, .int .i64 0, .string ⟨#[]⟩, .slice none 0 0, .slice none 0 0] 25)).alloc (.cells #[.int .i64 0, .bool false, .int .i64 0, .string ⟨#[]⟩, .slice none 0 0, .slice none 0 0] 25)).cell? ⟨w.heap.size, 2, none⟩ = some (.int .i64 i) := by rw [cell_of_block h0]; rfl
  have r3 : (((w.alloc (.cells #[.int .i64 k, .bool b, .int .i64 i, .string s, .slice al nl cl, .slice am nm cm] 25)).alloc (.cells #[.int .i64 0, .bool false, .int .i64 0, .string ⟨#[]⟩, .slice none 0 0, .slice none 0 0] 25)).alloc (.cells #[.int .i64 0, .bool false, .int .i64 0, .string ⟨#[]⟩, .slice none 0 0, .slice none 0 0] 25)).cell? ⟨w.heap.size, 3, none⟩ = some (.string s) := by rw [cell_of_block h0]; rfl
  have r4 : (((w.alloc (.cells #[.int .i64 k, .bool b, .int .i64 i, .string s, .slice al nl cl, .slice am nm cm] 25)).alloc (.cells #[.int .i64 0, .bool false, .int .i64 0, .string ⟨#[]⟩, .slice none 0 0, .slice none 0 0] 25)).alloc (.cells #[.int .i64 0, .bool false, .int .i64 0, .string ⟨#[]⟩, .slice none 0 0, .slice none 0 0] 25)).cell? ⟨w.heap.size, 4, none⟩ = some (.slice al nl cl) := by rw [cell_of_block h0]; rfl
  have r5 : (((w.alloc (.cells #[.int .i64 k, .bool b, .int .i64 i, .string s, .slice al nl cl, .slice am nm cm] 25)).alloc (.cells #[.int .i64 0, .bool false, .int .i64 0, .string ⟨#[]⟩, .slice none 0 0, .slice none 0 0] 25)).alloc (.cells #[.int .i64 0, .bool false, .int .i64 0, .string ⟨#[]⟩, .slice none 0 0, .slice none 0 0] 25)).cell? ⟨w.heap.size, 5, none⟩ = some (.slice am nm cm) := by rw [cell_of_block h0]; rfl
  have CA := hmk (asked_any v p S _ (((w.alloc (.cells #[.int .i64 k, .bool b, .int .i64 i, .string s, .slice al nl cl, .slice am nm cm] 25)).alloc (.cells #[.int .i64 0, .bool false, .int .i64 0, .string ⟨#[]⟩, .slice none 0 0, .slice none 0 0] 25)).alloc (.cells #[.int .i64 0, .bool false, .int .i64 0, .string ⟨#[]⟩, .slice none 0 0, .slice none 0 0] 25)) (lies_below HV.out hS B3) (fun x hx => Nat.lt_of_lt_of_le (hS x hx) B3.size) hwt hp)
  clear b2 b3 hz2
  go_enter Tryz.func7, Tryz.ntmps7
  go_wp2_with fail
  clear r0 r1 r2 r3 r4 r5
  generalize (((w.alloc (.cells #[.int .i64 k, .bool b, .int .i64 i, .string s, .slice al nl cl, .slice am nm cm] 25)).alloc (.cells #[.int .i64 0, .bool false, .int .i64 0, .string ⟨#[]⟩, .slice none 0 0, .slice none 0 0] 25)).alloc (.cells #[.int .i64 0, .bool false, .int .i64 0, .string ⟨#[]⟩, .slice none 0 0, .slice none 0 0] 25)) = w3 at *
  refine CA.out.mono ?_
  rintro e w1 ⟨B, tv, l, hB3, rfl, hd, ow, b1⟩
  have hz1 := b1.size
  have BS := B3.trans (b1.mono (by omega))
  have hB : w.heap.size + 3 ≤ B := by omega
  have t0 := (b1.block w.heap.size (by omega)).trans h0
  have t1 := (b1.block (w.heap.size + 1) (by omega)).trans h1
  have t2 := (b1.block (w.heap.size + 2) (by omega)).trans h2
  by_cases hrd : rdF v p = 0
  · obtain ⟨hce, o, ho⟩ := rd_zero hrd
    have hG : allG v := chkV_allG 40 v 0 (0, 0, 0) (by rw [← chkE40]; exact hce)
    have hw1 : v.wt ≤ 1114112 := wt_of_chk (by rw [← chkE40]; exact hce)
    have hdo : dat l = o := by have := hd hrd; rw [ho] at this; exact this
    have htl : l = toksOf p := by rw [toksOf, ho]; exact toks_of hdo
    have hbd := (tok_len ho hdo).1
    have HF : Hid (rgetF v p = rgW v l) := by show _ = _; rw [rgetF, if_pos hrd, htl]
    have G0 : GSt w B tv l (.cells #[.int .i64 k, .bool b, .int .i64 i, .string s, .slice al nl cl, .slice am nm cm] 25) w1 := ⟨t0, t1, t2, ow, BS, by omega⟩
    obtain ⟨ta, tn, tc, htv⟩ := ow.slice
    have htn : tn = l.length := by
      rcases ow.2 with ⟨e1, e2⟩ | ⟨g, cap, cur, e1, _⟩
      · rw [e1] at htv; injection htv with _ h _; omega
      · rw [e1] at htv; injection htv with _ h _; omega
    subst htn
    subst htv
    rw [hrd]
    clear hd hdo htl ho hce ow hwt CA t0 t1 t2 h0 h1 h2 B3 b1
    have HV0 := hmk (lies_below HV.out hS BS)
    generalize rgetF v p = RW at *
    go_wp2_with fail
    clear BS
    go_loopw [9] (fun e wr => ∃ (j : Nat) (u : V) (uk : Int) (ub : Bool) (ui : Int) (us : ByteArray) (ual : Option Addr) (unl ucl : Nat) (uam : Option Addr) (unm ucm : Nat), e = .int .i64 (j : Int) ∧ j ≤ l.length ∧ Hid (RW = rgW u (l.drop j)) ∧ Hid (allG u) ∧ u.wt ≤ 1114112 ∧ Hid (u.lies false wr S [.int .i64 uk, .bool ub, .int .i64 ui, .string us, .slice ual unl ucl, .slice uam unm ucm]) ∧ GSt w B (.slice ta l.length tc) l (.cells #[.int .i64 uk, .bool ub, .int .i64 ui, .string us, .slice ual unl ucl, .slice uam unm ucm] 25) wr) (fun e _ => l.length - (RowKit.intOf e).toNat)
    case atStart => exact ⟨0, v, k, b, i, s, al, nl, cl, am, nm, cm, rfl, by omega, by (show _ = _; rw [HF.out, List.drop_zero]), hG, hw1, HV0, G0⟩
    case round =>
      clear HF hG hw1 HV0 G0 HV hz1 hz3
      obtain ⟨j, u, uk, ub, ui, us, ual, unl, ucl, uam, unm, ucm, rfl, hj, HQ0, HA, hwu, HV0, GW⟩ := hrel
      have hszw := GW.sz
      by_cases hjl : j < l.length
      · have y1 : (j : Int) < l.length := by omega
        obtain ⟨g, c, e1, hg1, hg2, ctok⟩ := GW.ow.at j hjl
        injection e1 with e1 _ e3
        subst e1
        subst e3
        have HQ : Hid (RW = if (ledF u l[j]).2 = 0 then rgW (kid u (ledF u l[j]).1) (l.drop (j + 1)) else (nullV, (ledF u l[j]).2)) := by show _ = _; rw [HQ0.out, rgW_drop hjl]
        have HC := stp_cases u l[j]
        have HS : Hid (∀ W, Below w.heap.size w W → Calls Tryz.prog 18 #[.agg #[.int .i64 uk, .bool ub, .int .i64 ui, .string us, .slice ual unl ucl, .slice uam unm ucm], .string l[j]] W (SpPost (stpF u l[j]) S W)) := fun W hb => step_any u l[j] S _ W (lies_below0 hS HV0.out GW.bw hb) (fun x hx => Nat.lt_of_lt_of_le (hS x hx) hb.size) hwu (allG_srt HA.out)
        clear HQ0
        generalize l[j] = tok at *
        generalize stpF u tok = SR at *
        obtain ⟨r1, rp, r2⟩ := SR
        simp only at HC
        go_wp2_with fail
        refine wp_region_held_drew (S := fun W => W.heap[w.heap.size]? = some (.cells #[.int .i64 uk, .bool ub, .int .i64 ui, .string us, .slice ual unl ucl, .slice uam unm ucm] 25) ∧ W.cell? ⟨g, j, none⟩ = some (.string tok)) (by kernel_rfl) ⟨GW.vb, ctok⟩ (fun hHeld => ?_)
        (refine wpAnyH_take (i := 0) (v := ?_) rfl (by kernel_rfl) (by kernel_rfl) (by kernel_rfl) (fun _ _ _ h => h) (Or.inl ⟨by kernel_rfl, ?_⟩) (by assumption) ?_; rotate_left 1; (intro W0 hSw; (obtain ⟨hSw, _⟩ := hSw); (have x0 : W0.cell? ⟨w.heap.size, 0, none⟩ = some (.int .i64 uk) := by rw [cell_of_block hSw]; rfl); (have x1 : W0.cell? ⟨w.heap.size, 1, none⟩ = some (.bool ub) := by rw [cell_of_block hSw]; rfl); (have x2 : W0.cell? ⟨w.heap.size, 2, none⟩ = some (.int .i64 ui) := by rw [cell_of_block hSw]; rfl); (have x3 : W0.cell? ⟨w.heap.size, 3, none⟩ = some (.string us) := by rw [cell_of_block hSw]; rfl); (have x4 : W0.cell? ⟨w.heap.size, 4, none⟩ = some (.slice ual unl ucl) := by rw [cell_of_block hSw]; rfl); (have x5 : W0.cell? ⟨w.heap.size, 5, none⟩ = some (.slice uam unm ucm) := by rw [cell_of_block hSw]; rfl); go_simp; (try with_reducible rfl)); (try simp only [Act.put, List.setIfInBounds_toArray, List.set_cons_zero, List.set_cons_succ]))
        (refine wpAnyH_take (i := 1) (v := ?_) rfl (by kernel_rfl) (by kernel_rfl) (by kernel_rfl) (fun _ _ _ h => h) (Or.inl ⟨by kernel_rfl, ?_⟩) (by assumption) ?_; rotate_left 1; (intro W0 hSw; (try dsimp only at hSw); go_simp; (try with_reducible rfl)); (try simp only [Act.put, List.setIfInBounds_toArray, List.set_cons_zero, List.set_cons_succ]))
        (refine wpAnyH_take (i := 2) (v := ?_) rfl (by kernel_rfl) (by kernel_rfl) (by kernel_rfl) (fun _ _ _ h => h) (Or.inl ⟨by kernel_rfl, ?_⟩) (by assumption) ?_; rotate_left 1; (intro W0 hSw; (try dsimp only at hSw); go_simp; (try with_reducible rfl)); (try simp only [Act.put, List.setIfInBounds_toArray, List.set_cons_zero, List.set_cons_succ]))
        (refine wpAnyH_take (i := 3) (v := ?_) rfl (by kernel_rfl) (by kernel_rfl) (by kernel_rfl) (fun _ _ _ h => h) (Or.inl ⟨by kernel_rfl, ?_⟩) (by assumption) ?_; rotate_left 1; (intro W0 hSw; (try dsimp only at hSw); go_simp; (try with_reducible rfl)); (try simp only [Act.put, List.setIfInBounds_toArray, List.set_cons_zero, List.set_cons_succ]))
        (refine wpAnyH_take (i := 4) (v := ?_) rfl (by kernel_rfl) (by kernel_rfl) (by kernel_rfl) (fun _ _ _ h => h) (Or.inl ⟨by kernel_rfl, ?_⟩) (by assumption) ?_; rotate_left 1; (intro W0 hSw; (obtain ⟨_, hSw⟩ := hSw); go_simp; (try with_reducible rfl)); (try simp only [Act.put, List.setIfInBounds_toArray, List.set_cons_zero, List.set_cons_succ]))
        refine wpAnyH_ready (rs := [5, 10]) (by kernel_rfl) (by simp) ?_
        refine AllReadyH.cons rfl (fun K hK => ?_) (AllReadyH.cons rfl (fun K hK => ?_) AllReadyH.nil)
        · go_simp
          refine (HS.out wr.drew GW.bw.drew).mono ?_
          rintro e w5 ⟨ds, rfl, hl5, b5⟩
          have b5' : Below wr.heap.size wr w5 := ⟨b5.os, b5.tape, b5.output, b5.size, b5.block⟩
          obtain ⟨ek, eb, ei, es, eal, enl, ecl, eam, enm, ecm, rfl⟩ := V.ten hl5
          have hz5 : wr.heap.size ≤ w5.heap.size := b5'.size
          have G5 := GW.next b5'
          have c5 : w5.cell? ⟨g, j, none⟩ = some (.string tok) := (b5'.cell (p := ⟨g, j, none⟩) hg2).trans ctok
          go_simp
          refine hK.out _ _ ⟨G5.vb, c5⟩ (fun hHeld => ?_)
          clear hK K
          (try simp only [Act.put, List.setIfInBounds_toArray, List.set_cons_zero, List.set_cons_succ])
          (refine wpAnyH_take (i := 6) (v := ?_) rfl (by kernel_rfl) (by kernel_rfl) (by kernel_rfl) (fun _ _ _ h => h) (Or.inl ⟨by kernel_rfl, ?_⟩) (by assumption) ?_; rotate_left 1; (intro W0 hSw; (try dsimp only at hSw); go_simp; (try with_reducible rfl)); (try simp only [Act.put, List.setIfInBounds_toArray, List.set_cons_zero, List.set_cons_succ]))
          (refine wpAnyH_take (i := 7) (v := ?_) rfl (by kernel_rfl) (by kernel_rfl) (by kernel_rfl) (fun _ _ _ h => h) (Or.inl ⟨by kernel_rfl, ?_⟩) (by assumption) ?_; rotate_left 1; (intro W0 hSw; (try dsimp only at hSw); go_simp; (try with_reducible rfl)); (try simp only [Act.put, List.setIfInBounds_toArray, List.set_cons_zero, List.set_cons_succ]))
          (refine wpAnyH_take (i := 8) (v := ?_) rfl (by kernel_rfl) (by kernel_rfl) (by kernel_rfl) (fun _ _ _ h => h) (Or.inl ⟨by kernel_rfl, ?_⟩) (by assumption) ?_; rotate_left 1; (intro W0 hSw; (try dsimp only at hSw); go_simp; (try with_reducible rfl)); (try simp only [Act.put, List.setIfInBounds_toArray, List.set_cons_zero, List.set_cons_succ]))
          (refine wpAnyH_take (i := 9) (v := ?_) rfl (by kernel_rfl) (by kernel_rfl) (by kernel_rfl) (fun _ _ _ h => h) (Or.inl ⟨by kernel_rfl, ?_⟩) (by assumption) ?_; rotate_left 1; (intro W0 hSw; (try dsimp only at hSw); go_simp; (try with_reducible rfl)); (try simp only [Act.put, List.setIfInBounds_toArray, List.set_cons_zero, List.set_cons_succ]))
          refine wpAnyH_ready (rs := [10]) (by kernel_rfl) (by simp) ?_
          refine AllReadyH.cons rfl (fun K hK => ?_) AllReadyH.nil
          go_simp
          have b6 : Below w5.heap.size w5 (w5.alloc (.cells #[.int .i64 0, .bool false, .int .i64 0, .string ⟨#[]⟩, .slice none 0 0, .slice none 0 0] 25)) := one_belowG _ _
          have hbx := heap_alloc_new w5 (.cells #[.int .i64 0, .bool false, .int .i64 0, .string ⟨#[]⟩, .slice none 0 0, .slice none 0 0] 25)
          have hz6 : w5.heap.size < (w5.alloc (.cells #[.int .i64 0, .bool false, .int .i64 0, .string ⟨#[]⟩, .slice none 0 0, .slice none 0 0] 25)).heap.size := by rw [alloc_size]; omega
          have G6 := G5.next b6
          have l6 := lies_below0 hS hl5 G5.bw G6.bw
          have c6 : (w5.alloc (.cells #[.int .i64 0, .bool false, .int .i64 0, .string ⟨#[]⟩, .slice none 0 0, .slice none 0 0] 25)).cell? ⟨g, j, none⟩ = some (.string tok) := (b6.cell (p := ⟨g, j, none⟩) (by show g < w5.heap.size; omega)).trans c5
          have hX : w.heap.size + 3 ≤ w5.heap.size := by omega
          have hXg : g ≠ w5.heap.size := by omega
          clear hl5 b5 b5' c5 G5 b6
          generalize (w5.alloc (.cells #[.int .i64 0, .bool false, .int .i64 0, .string ⟨#[]⟩, .slice none 0 0, .slice none 0 0] 25)) = wy at *
          generalize w5.heap.size = X at *
          refine hK.out _ _ ⟨G6.vb, c6⟩ (fun hHeld => ?_)
          clear hK K
          (try simp only [Act.put, List.setIfInBounds_toArray, List.set_cons_zero, List.set_cons_succ])
          have x0 : wy.cell? ⟨X, 0, none⟩ = some (.int .i64 0) := by rw [cell_of_block hbx]; rfl
          have x1 : wy.cell? ⟨X, 1, none⟩ = some (.bool false) := by rw [cell_of_block hbx]; rfl
          have x2 : wy.cell? ⟨X, 2, none⟩ = some (.int .i64 0) := by rw [cell_of_block hbx]; rfl
          have x3 : wy.cell? ⟨X, 3, none⟩ = some (.string ⟨#[]⟩) := by rw [cell_of_block hbx]; rfl
          have x4 : wy.cell? ⟨X, 4, none⟩ = some (.slice none 0 0) := by rw [cell_of_block hbx]; rfl
          have x5 : wy.cell? ⟨X, 5, none⟩ = some (.slice none 0 0) := by rw [cell_of_block hbx]; rfl
          have fx := frozen_of_block hbx
          refine wpAnyH_ready (rs := [11]) (by kernel_rfl) (by simp) ?_
          refine AllReadyH.cons rfl (fun K hK => ?_) AllReadyH.nil
          go_simp
          have GZ := G6.box hX (by simpa [Value.ownBlock] using hXg) (.int .i64 ek) (.bool eb) (.int .i64 ei) (.string es) (.slice eal enl ecl) (.slice eam enm ecm)
          have hxb := box_set6 hbx (.int .i64 ek) (.bool eb) (.int .i64 ei) (.string es) (.slice eal enl ecl) (.slice eam enm ecm)
          have cz : ((((((wy.setCell ⟨X, 0, none⟩ (.int .i64 ek)).setCell ⟨X, 1, none⟩ (.bool eb)).setCell ⟨X, 2, none⟩ (.int .i64 ei)).setCell ⟨X, 3, none⟩ (.string es)).setCell ⟨X, 4, none⟩ (.slice eal enl ecl)).setCell ⟨X, 5, none⟩ (.slice eam enm ecm)).cell? ⟨g, j, none⟩ = some (.string tok) := (World.cell?_of_block (w := wy) (a := ⟨g, j, none⟩) (six_other wy X _ _ _ _ _ _ g hXg)).trans c6
          have LE := lies_below0 hS l6 G6.bw GZ.bw
          clear x0 x1 x2 x3 x4 x5 fx G6 l6 c6 hbx
          generalize ((((((wy.setCell ⟨X, 0, none⟩ (.int .i64 ek)).setCell ⟨X, 1, none⟩ (.bool eb)).setCell ⟨X, 2, none⟩ (.int .i64 ei)).setCell ⟨X, 3, none⟩ (.string es)).setCell ⟨X, 4, none⟩ (.slice eal enl ecl)).setCell ⟨X, 5, none⟩ (.slice eam enm ecm)) = wz at *
          have XR : rowAt wz X 0 [.int .i64 ek, .bool eb, .int .i64 ei, .string es, .slice eal enl ecl, .slice eam enm ecm] := fun q u hu => by rw [Nat.zero_add, cell_of_block hxb]; simpa using hu
          refine hK.out _ _ ⟨GZ.vb, cz⟩ (fun hHeld => ?_)
          clear hK K
          (try simp only [Act.put, List.setIfInBounds_toArray, List.set_cons_zero, List.set_cons_succ])
          (refine wpAnyH_take (i := 12) (v := ?_) rfl (by kernel_rfl) (by kernel_rfl) (by kernel_rfl) (fun _ _ _ h => h) (Or.inl ⟨by kernel_rfl, ?_⟩) (by assumption) ?_; rotate_left 1; (intro W0 hSw; (try dsimp only at hSw); go_simp; (try with_reducible rfl)); (try simp only [Act.put, List.setIfInBounds_toArray, List.set_cons_zero, List.set_cons_succ]))
          (refine wpAnyH_take (i := 13) (v := ?_) rfl (by kernel_rfl) (by kernel_rfl) (by kernel_rfl) (fun _ _ _ h => h) (Or.inl ⟨by kernel_rfl, ?_⟩) (by assumption) ?_; rotate_left 1; (intro W0 hSw; (try dsimp only at hSw); go_simp; (try with_reducible rfl)); (try simp only [Act.put, List.setIfInBounds_toArray, List.set_cons_zero, List.set_cons_succ]))
          refine wpAnyH_done (by kernel_rfl) ?_ _
          (try dsimp only [Act.put, List.getElem_toArray, List.getElem_cons_succ, List.getElem_cons_zero, List.setIfInBounds_toArray, List.set_cons_zero, List.set_cons_succ])
          clear hHeld cz HS hxb
          have BS := GZ.bw
          have hszz := GZ.sz
          have z0 : wz.cell? ⟨w.heap.size + 1, 0, none⟩ = some (.int .i64 0) := by rw [cell_of_block GZ.rb]; rfl
          have z1 : wz.cell? ⟨w.heap.size + 1, 1, none⟩ = some (.bool false) := by rw [cell_of_block GZ.rb]; rfl
          have z2 : wz.cell? ⟨w.heap.size + 1, 2, none⟩ = some (.int .i64 0) := by rw [cell_of_block GZ.rb]; rfl
          have z3 : wz.cell? ⟨w.heap.size + 1, 3, none⟩ = some (.string ⟨#[]⟩) := by rw [cell_of_block GZ.rb]; rfl
          have z4 : wz.cell? ⟨w.heap.size + 1, 4, none⟩ = some (.slice none 0 0) := by rw [cell_of_block GZ.rb]; rfl
          have z5 : wz.cell? ⟨w.heap.size + 1, 5, none⟩ = some (.slice none 0 0) := by rw [cell_of_block GZ.rb]; rfl
          have fr := frozen_of_block GZ.rb
          rcases HC with ⟨hc1, hc2, hc3⟩ | ⟨hc1, hc2⟩
          · have HN2 : Hid (RW = rgW r1 (l.drop (j + 1))) := by show _ = _; rw [HQ.out, if_pos hc2, hc3]
            have HG2 := hmk (GZ.put hB (.int .i64 ek) (.bool eb) (.int .i64 ei) (.string es) (.slice eal enl ecl) (.slice eam enm ecm))
            have HL2 := hmk (lies_below0 hS LE GZ.bw (Below.set6 BS (Nat.le_refl _) 0 1 2 3 4 5 (.int .i64 ek) (.bool eb) (.int .i64 ei) (.string es) (.slice eal enl ecl) (.slice eam enm ecm)))
            have HA2 : Hid (allG r1) := by show allG r1; rw [hc3]; exact allG_kid HA.out (led_kid hc2)
            have hw2 : r1.wt ≤ 1114112 := by rw [hc3]; exact Nat.le_trans (kid_wt (led_kid hc2)) hwu
            have v0 : wz.cell? ⟨w.heap.size, 0, none⟩ = some (.int .i64 uk) := by rw [cell_of_block GZ.vb]; rfl
            have v1 : wz.cell? ⟨w.heap.size, 1, none⟩ = some (.bool ub) := by rw [cell_of_block GZ.vb]; rfl
            have v2 : wz.cell? ⟨w.heap.size, 2, none⟩ = some (.int .i64 ui) := by rw [cell_of_block GZ.vb]; rfl
            have v3 : wz.cell? ⟨w.heap.size, 3, none⟩ = some (.string us) := by rw [cell_of_block GZ.vb]; rfl
            have v4 : wz.cell? ⟨w.heap.size, 4, none⟩ = some (.slice ual unl ucl) := by rw [cell_of_block GZ.vb]; rfl
            have v5 : wz.cell? ⟨w.heap.size, 5, none⟩ = some (.slice uam unm ucm) := by rw [cell_of_block GZ.vb]; rfl
            have fv := frozen_of_block GZ.vb
            obtain ⟨g0, g1, g2, g3, g4, g5⟩ := row6z XR
            rw [hc1]
            clear GZ LE XR hc1 hc2 hc3 HQ HA HV0
            go_wp2_with fail
            go_roundw
            case rel => exact ⟨j + 1, r1, ek, eb, ei, es, eal, enl, ecl, eam, enm, ecm, by go_num, by omega, HN2, HA2, hw2, HL2, HG2.out⟩
            case measure => simp [RowKit.intOf]; omega
          · have HN : Hid (RW = (nullV, r2)) := by show _ = _; rw [HQ.out, if_neg hc2, hc1]
            have hr2 : ¬ r2 = 0 := by rw [hc1]; exact hc2
            have x0 : wz.cell? ⟨w.heap.size + 2, 0, none⟩ = some (.int .i64 0) := by rw [cell_of_block GZ.nb]; rfl
            have x1 : wz.cell? ⟨w.heap.size + 2, 1, none⟩ = some (.bool false) := by rw [cell_of_block GZ.nb]; rfl
            have x2 : wz.cell? ⟨w.heap.size + 2, 2, none⟩ = some (.int .i64 0) := by rw [cell_of_block GZ.nb]; rfl
            have x3 : wz.cell? ⟨w.heap.size + 2, 3, none⟩ = some (.string ⟨#[]⟩) := by rw [cell_of_block GZ.nb]; rfl
            have x4 : wz.cell? ⟨w.heap.size + 2, 4, none⟩ = some (.slice none 0 0) := by rw [cell_of_block GZ.nb]; rfl
            have x5 : wz.cell? ⟨w.heap.size + 2, 5, none⟩ = some (.slice none 0 0) := by rw [cell_of_block GZ.nb]; rfl
            clear GZ LE XR hc1 hc2 HQ HA
            go_wp2_with fail
            (try simp only [Exit.inBlock, Exit.then])
            refine bodyPost_ret (v := .tuple #[.agg #[.int .i64 0, .bool false, .int .i64 0, .string ⟨#[]⟩, .slice none 0 0, .slice none 0 0], .int .i64 r2]) ?_ rfl ?_
            rotate_left
            · rw [HN.out]
              exact ⟨[.int .i64 0, .bool false, .int .i64 0, .string ⟨#[]⟩, .slice none 0 0, .slice none 0 0], rfl, null_lies _ _, Below.set6 BS (by omega) _ _ _ _ _ _ _ _ _ _ _ _⟩
            · rw [results_cell_tmp rfl]
              go_simp
        · go_simp
          have ba : Below wr.heap.size wr (wr.alloc (.cells #[.int .i64 0, .bool false, .int .i64 0, .string ⟨#[]⟩, .slice none 0 0, .slice none 0 0] 25)).drew := ((Below.refl _ _).alloc (Nat.le_refl _) _).drew
          have hza : (wr.alloc (.cells #[.int .i64 0, .bool false, .int .i64 0, .string ⟨#[]⟩, .slice none 0 0, .slice none 0 0] 25)).drew.heap.size = wr.heap.size + 1 := alloc_size wr (.cells #[.int .i64 0, .bool false, .int .i64 0, .string ⟨#[]⟩, .slice none 0 0, .slice none 0 0] 25)
          have hna : (wr.alloc (.cells #[.int .i64 0, .bool false, .int .i64 0, .string ⟨#[]⟩, .slice none 0 0, .slice none 0 0] 25)).drew.heap[wr.heap.size]? = _ := heap_alloc_new wr (.cells #[.int .i64 0, .bool false, .int .i64 0, .string ⟨#[]⟩, .slice none 0 0, .slice none 0 0] 25)
          have G5 := GW.next ba
          have c5 : (wr.alloc (.cells #[.int .i64 0, .bool false, .int .i64 0, .string ⟨#[]⟩, .slice none 0 0, .slice none 0 0] 25)).drew.cell? ⟨g, j, none⟩ = some (.string tok) := (ba.cell (p := ⟨g, j, none⟩) hg2).trans ctok
          generalize (wr.alloc (.cells #[.int .i64 0, .bool false, .int .i64 0, .string ⟨#[]⟩, .slice none 0 0, .slice none 0 0] 25)).drew = wa at *
          refine hK.out _ _ ⟨G5.vb, c5⟩ (fun hHeld => ?_)
          clear hK K
          (try simp only [Act.put, List.setIfInBounds_toArray, List.set_cons_zero, List.set_cons_succ])
          refine wpAnyH_ready (rs := [5]) (by kernel_rfl) (by simp) ?_
          refine AllReadyH.cons rfl (fun K hK => ?_) AllReadyH.nil
          go_simp
          refine (HS.out wa G5.bw).mono ?_
          rintro e wy ⟨ds, rfl, l6, b5⟩
          obtain ⟨ek, eb, ei, es, eal, enl, ecl, eam, enm, ecm, rfl⟩ := V.ten l6
          have hz5 : wa.heap.size ≤ wy.heap.size := b5.size
          have G6 := G5.next b5
          have c6 : wy.cell? ⟨g, j, none⟩ = some (.string tok) := (b5.cell (p := ⟨g, j, none⟩) (by show g < wa.heap.size; omega)).trans c5
          have hbx := (b5.block wr.heap.size (by omega)).trans hna
          have hX : w.heap.size + 3 ≤ wr.heap.size := by omega
          have hXg : g ≠ wr.heap.size := by omega
          clear b5 c5 G5 hna
          generalize wr.heap.size = X at *
          go_simp
          refine hK.out _ _ ⟨G6.vb, c6⟩ (fun hHeld => ?_)
          clear hK K
          (try simp only [Act.put, List.setIfInBounds_toArray, List.set_cons_zero, List.set_cons_succ])
          (refine wpAnyH_take (i := 6) (v := ?_) rfl (by kernel_rfl) (by kernel_rfl) (by kernel_rfl) (fun _ _ _ h => h) (Or.inl ⟨by kernel_rfl, ?_⟩) (by assumption) ?_; rotate_left 1; (intro W0 hSw; (try dsimp only at hSw); go_simp; (try with_reducible rfl)); (try simp only [Act.put, List.setIfInBounds_toArray, List.set_cons_zero, List.set_cons_succ]))
          (refine wpAnyH_take (i := 7) (v := ?_) rfl (by kernel_rfl) (by kernel_rfl) (by kernel_rfl) (fun _ _ _ h => h) (Or.inl ⟨by kernel_rfl, ?_⟩) (by assumption) ?_; rotate_left 1; (intro W0 hSw; (try dsimp only at hSw); go_simp; (try with_reducible rfl)); (try simp only [Act.put, List.setIfInBounds_toArray, List.set_cons_zero, List.set_cons_succ]))
          (refine wpAnyH_take (i := 8) (v := ?_) rfl (by kernel_rfl) (by kernel_rfl) (by kernel_rfl) (fun _ _ _ h => h) (Or.inl ⟨by kernel_rfl, ?_⟩) (by assumption) ?_; rotate_left 1; (intro W0 hSw; (try dsimp only at hSw); go_simp; (try with_reducible rfl)); (try simp only [Act.put, List.setIfInBounds_toArray, List.set_cons_zero, List.set_cons_succ]))
          (refine wpAnyH_take (i := 9) (v := ?_) rfl (by kernel_rfl) (by kernel_rfl) (by kernel_rfl) (fun _ _ _ h => h) (Or.inl ⟨by kernel_rfl, ?_⟩) (by assumption) ?_; rotate_left 1; (intro W0 hSw; (try dsimp only at hSw); go_simp; (try with_reducible rfl)); (try simp only [Act.put, List.setIfInBounds_toArray, List.set_cons_zero, List.set_cons_succ]))
          have x0 : wy.cell? ⟨X, 0, none⟩ = some (.int .i64 0) := by rw [cell_of_block hbx]; rfl
          have x1 : wy.cell? ⟨X, 1, none⟩ = some (.bool false) := by rw [cell_of_block hbx]; rfl
          have x2 : wy.cell? ⟨X, 2, none⟩ = some (.int .i64 0) := by rw [cell_of_block hbx]; rfl
          have x3 : wy.cell? ⟨X, 3, none⟩ = some (.string ⟨#[]⟩) := by rw [cell_of_block hbx]; rfl
          have x4 : wy.cell? ⟨X, 4, none⟩ = some (.slice none 0 0) := by rw [cell_of_block hbx]; rfl
          have x5 : wy.cell? ⟨X, 5, none⟩ = some (.slice none 0 0) := by rw [cell_of_block hbx]; rfl
          have fx := frozen_of_block hbx
          refine wpAnyH_ready (rs := [11]) (by kernel_rfl) (by simp) ?_
          refine AllReadyH.cons rfl (fun K hK => ?_) AllReadyH.nil
          go_simp
          have GZ := G6.box hX (by simpa [Value.ownBlock] using hXg) (.int .i64 ek) (.bool eb) (.int .i64 ei) (.string es) (.slice eal enl ecl) (.slice eam enm ecm)
          have hxb := box_set6 hbx (.int .i64 ek) (.bool eb) (.int .i64 ei) (.string es) (.slice eal enl ecl) (.slice eam enm ecm)
          have cz : ((((((wy.setCell ⟨X, 0, none⟩ (.int .i64 ek)).setCell ⟨X, 1, none⟩ (.bool eb)).setCell ⟨X, 2, none⟩ (.int .i64 ei)).setCell ⟨X, 3, none⟩ (.string es)).setCell ⟨X, 4, none⟩ (.slice eal enl ecl)).setCell ⟨X, 5, none⟩ (.slice eam enm ecm)).cell? ⟨g, j, none⟩ = some (.string tok) := (World.cell?_of_block (w := wy) (a := ⟨g, j, none⟩) (six_other wy X _ _ _ _ _ _ g hXg)).trans c6
          have LE := lies_below0 hS l6 G6.bw GZ.bw
          clear x0 x1 x2 x3 x4 x5 fx G6 l6 c6 hbx
          generalize ((((((wy.setCell ⟨X, 0, none⟩ (.int .i64 ek)).setCell ⟨X, 1, none⟩ (.bool eb)).setCell ⟨X, 2, none⟩ (.int .i64 ei)).setCell ⟨X, 3, none⟩ (.string es)).setCell ⟨X, 4, none⟩ (.slice eal enl ecl)).setCell ⟨X, 5, none⟩ (.slice eam enm ecm)) = wz at *
          have XR : rowAt wz X 0 [.int .i64 ek, .bool eb, .int .i64 ei, .string es, .slice eal enl ecl, .slice eam enm ecm] := fun q u hu => by rw [Nat.zero_add, cell_of_block hxb]; simpa using hu
          refine hK.out _ _ ⟨GZ.vb, cz⟩ (fun hHeld => ?_)
          clear hK K
          (try simp only [Act.put, List.setIfInBounds_toArray, List.set_cons_zero, List.set_cons_succ])
          (refine wpAnyH_take (i := 12) (v := ?_) rfl (by kernel_rfl) (by kernel_rfl) (by kernel_rfl) (fun _ _ _ h => h) (Or.inl ⟨by kernel_rfl, ?_⟩) (by assumption) ?_; rotate_left 1; (intro W0 hSw; (try dsimp only at hSw); go_simp; (try with_reducible rfl)); (try simp only [Act.put, List.setIfInBounds_toArray, List.set_cons_zero, List.set_cons_succ]))
          (refine wpAnyH_take (i := 13) (v := ?_) rfl (by kernel_rfl) (by kernel_rfl) (by kernel_rfl) (fun _ _ _ h => h) (Or.inl ⟨by kernel_rfl, ?_⟩) (by assumption) ?_; rotate_left 1; (intro W0 hSw; (try dsimp only at hSw); go_simp; (try with_reducible rfl)); (try simp only [Act.put, List.setIfInBounds_toArray, List.set_cons_zero, List.set_cons_succ]))
          refine wpAnyH_done (by kernel_rfl) ?_ _
          (try dsimp only [Act.put, List.getElem_toArray, List.getElem_cons_succ, List.getElem_cons_zero, List.setIfInBounds_toArray, List.set_cons_zero, List.set_cons_succ])
          clear hHeld cz HS hxb
          have BS := GZ.bw
          have hszz := GZ.sz
          have z0 : wz.cell? ⟨w.heap.size + 1, 0, none⟩ = some (.int .i64 0) := by rw [cell_of_block GZ.rb]; rfl
          have z1 : wz.cell? ⟨w.heap.size + 1, 1, none⟩ = some (.bool false) := by rw [cell_of_block GZ.rb]; rfl
          have z2 : wz.cell? ⟨w.heap.size + 1, 2, none⟩ = some (.int .i64 0) := by rw [cell_of_block GZ.rb]; rfl
          have z3 : wz.cell? ⟨w.heap.size + 1, 3, none⟩ = some (.string ⟨#[]⟩) := by rw [cell_of_block GZ.rb]; rfl
          have z4 : wz.cell? ⟨w.heap.size + 1, 4, none⟩ = some (.slice none 0 0) := by rw [cell_of_block GZ.rb]; rfl
          have z5 : wz.cell? ⟨w.heap.size + 1, 5, none⟩ = some (.slice none 0 0) := by rw [cell_of_block GZ.rb]; rfl
          have fr := frozen_of_block GZ.rb
          rcases HC with ⟨hc1, hc2, hc3⟩ | ⟨hc1, hc2⟩
          · have HN2 : Hid (RW = rgW r1 (l.drop (j + 1))) := by show _ = _; rw [HQ.out, if_pos hc2, hc3]
            have HG2 := hmk (GZ.put hB (.int .i64 ek) (.bool eb) (.int .i64 ei) (.string es) (.slice eal enl ecl) (.slice eam enm ecm))
            have HL2 := hmk (lies_below0 hS LE GZ.bw (Below.set6 BS (Nat.le_refl _) 0 1 2 3 4 5 (.int .i64 ek) (.bool eb) (.int .i64 ei) (.string es) (.slice eal enl ecl) (.slice eam enm ecm)))
            have HA2 : Hid (allG r1) := by show allG r1; rw [hc3]; exact allG_kid HA.out (led_kid hc2)
            have hw2 : r1.wt ≤ 1114112 := by rw [hc3]; exact Nat.le_trans (kid_wt (led_kid hc2)) hwu
            have v0 : wz.cell? ⟨w.heap.size, 0, none⟩ = some (.int .i64 uk) := by rw [cell_of_block GZ.vb]; rfl
            have v1 : wz.cell? ⟨w.heap.size, 1, none⟩ = some (.bool ub) := by rw [cell_of_block GZ.vb]; rfl
            have v2 : wz.cell? ⟨w.heap.size, 2, none⟩ = some (.int .i64 ui) := by rw [cell_of_block GZ.vb]; rfl
            have v3 : wz.cell? ⟨w.heap.size, 3, none⟩ = some (.string us) := by rw [cell_of_block GZ.vb]; rfl
            have v4 : wz.cell? ⟨w.heap.size, 4, none⟩ = some (.slice ual unl ucl) := by rw [cell_of_block GZ.vb]; rfl
            have v5 : wz.cell? ⟨w.heap.size, 5, none⟩ = some (.slice uam unm ucm) := by rw [cell_of_block GZ.vb]; rfl
            have fv := frozen_of_block GZ.vb
            obtain ⟨g0, g1, g2, g3, g4, g5⟩ := row6z XR
            rw [hc1]
            clear GZ LE XR hc1 hc2 hc3 HQ HA HV0
            go_wp2_with fail
            go_roundw
            case rel => exact ⟨j + 1, r1, ek, eb, ei, es, eal, enl, ecl, eam, enm, ecm, by go_num, by omega, HN2, HA2, hw2, HL2, HG2.out⟩
            case measure => simp [RowKit.intOf]; omega
          · have HN : Hid (RW = (nullV, r2)) := by show _ = _; rw [HQ.out, if_neg hc2, hc1]
            have hr2 : ¬ r2 = 0 := by rw [hc1]; exact hc2
            have x0 : wz.cell? ⟨w.heap.size + 2, 0, none⟩ = some (.int .i64 0) := by rw [cell_of_block GZ.nb]; rfl
            have x1 : wz.cell? ⟨w.heap.size + 2, 1, none⟩ = some (.bool false) := by rw [cell_of_block GZ.nb]; rfl
            have x2 : wz.cell? ⟨w.heap.size + 2, 2, none⟩ = some (.int .i64 0) := by rw [cell_of_block GZ.nb]; rfl
            have x3 : wz.cell? ⟨w.heap.size + 2, 3, none⟩ = some (.string ⟨#[]⟩) := by rw [cell_of_block GZ.nb]; rfl
            have x4 : wz.cell? ⟨w.heap.size + 2, 4, none⟩ = some (.slice none 0 0) := by rw [cell_of_block GZ.nb]; rfl
            have x5 : wz.cell? ⟨w.heap.size + 2, 5, none⟩ = some (.slice none 0 0) := by rw [cell_of_block GZ.nb]; rfl
            clear GZ LE XR hc1 hc2 HQ HA
            go_wp2_with fail
            (try simp only [Exit.inBlock, Exit.then])
            refine bodyPost_ret (v := .tuple #[.agg #[.int .i64 0, .bool false, .int .i64 0, .string ⟨#[]⟩, .slice none 0 0, .slice none 0 0], .int .i64 r2]) ?_ rfl ?_
            rotate_left
            · rw [HN.out]
              exact ⟨[.int .i64 0, .bool false, .int .i64 0, .string ⟨#[]⟩, .slice none 0 0, .slice none 0 0], rfl, null_lies _ _, Below.set6 BS (by omega) _ _ _ _ _ _ _ _ _ _ _ _⟩
            · rw [results_cell_tmp rfl]
              go_simp
      · obtain rfl : j = l.length := by omega
        have y1 : ¬ (l.length : Int) < l.length := by omega
        have HN : Hid (RW = (u, 0)) := by show _ = _; rw [HQ0.out, List.drop_length, rgW]
        have BS := GW.bw
        have z0 : wr.cell? ⟨w.heap.size + 1, 0, none⟩ = some (.int .i64 0) := by rw [cell_of_block GW.rb]; rfl
        have z1 : wr.cell? ⟨w.heap.size + 1, 1, none⟩ = some (.bool false) := by rw [cell_of_block GW.rb]; rfl
        have z2 : wr.cell? ⟨w.heap.size + 1, 2, none⟩ = some (.int .i64 0) := by rw [cell_of_block GW.rb]; rfl
        have z3 : wr.cell? ⟨w.heap.size + 1, 3, none⟩ = some (.string ⟨#[]⟩) := by rw [cell_of_block GW.rb]; rfl
        have z4 : wr.cell? ⟨w.heap.size + 1, 4, none⟩ = some (.slice none 0 0) := by rw [cell_of_block GW.rb]; rfl
        have z5 : wr.cell? ⟨w.heap.size + 1, 5, none⟩ = some (.slice none 0 0) := by rw [cell_of_block GW.rb]; rfl
        have v0 : wr.cell? ⟨w.heap.size, 0, none⟩ = some (.int .i64 uk) := by rw [cell_of_block GW.vb]; rfl
        have v1 : wr.cell? ⟨w.heap.size, 1, none⟩ = some (.bool ub) := by rw [cell_of_block GW.vb]; rfl
        have v2 : wr.cell? ⟨w.heap.size, 2, none⟩ = some (.int .i64 ui) := by rw [cell_of_block GW.vb]; rfl
        have v3 : wr.cell? ⟨w.heap.size, 3, none⟩ = some (.string us) := by rw [cell_of_block GW.vb]; rfl
        have v4 : wr.cell? ⟨w.heap.size, 4, none⟩ = some (.slice ual unl ucl) := by rw [cell_of_block GW.vb]; rfl
        have v5 : wr.cell? ⟨w.heap.size, 5, none⟩ = some (.slice uam unm ucm) := by rw [cell_of_block GW.vb]; rfl
        have fr := frozen_of_block GW.rb
        clear GW HQ0
        go_wp2_with fail
        (try simp only [Exit.inBlock, Exit.then])
        refine bodyPost_ret (v := .tuple #[.agg #[.int .i64 uk, .bool ub, .int .i64 ui, .string us, .slice ual unl ucl, .slice uam unm ucm], .int .i64 0]) ?_ rfl ?_
        rotate_left
        · rw [HN.out]
          exact ⟨[.int .i64 uk, .bool ub, .int .i64 ui, .string us, .slice ual unl ucl, .slice uam unm ucm], rfl, lies_below0 hS HV0.out BS (Below.set6 BS (by omega) _ _ _ _ _ _ _ _ _ _ _ _), Below.set6 BS (by omega) _ _ _ _ _ _ _ _ _ _ _ _⟩
        · rw [results_cell_tmp rfl]
          go_simp
  · have HN : Hid (rgetF v p = (nullV, rdF v p)) := by show _ = _; rw [rgetF, if_neg hrd]
    have x0 : w1.cell? ⟨w.heap.size + 2, 0, none⟩ = some (.int .i64 0) := by rw [cell_of_block t2]; rfl
    have x1 : w1.cell? ⟨w.heap.size + 2, 1, none⟩ = some (.bool false) := by rw [cell_of_block t2]; rfl
    have x2 : w1.cell? ⟨w.heap.size + 2, 2, none⟩ = some (.int .i64 0) := by rw [cell_of_block t2]; rfl
    have x3 : w1.cell? ⟨w.heap.size + 2, 3, none⟩ = some (.string ⟨#[]⟩) := by rw [cell_of_block t2]; rfl
    have x4 : w1.cell? ⟨w.heap.size + 2, 4, none⟩ = some (.slice none 0 0) := by rw [cell_of_block t2]; rfl
    have x5 : w1.cell? ⟨w.heap.size + 2, 5, none⟩ = some (.slice none 0 0) := by rw [cell_of_block t2]; rfl
    have z0 : w1.cell? ⟨w.heap.size + 1, 0, none⟩ = some (.int .i64 0) := by rw [cell_of_block t1]; rfl
    have z1 : w1.cell? ⟨w.heap.size + 1, 1, none⟩ = some (.bool false) := by rw [cell_of_block t1]; rfl
    have z2 : w1.cell? ⟨w.heap.size + 1, 2, none⟩ = some (.int .i64 0) := by rw [cell_of_block t1]; rfl
    have z3 : w1.cell? ⟨w.heap.size + 1, 3, none⟩ = some (.string ⟨#[]⟩) := by rw [cell_of_block t1]; rfl
    have z4 : w1.cell? ⟨w.heap.size + 1, 4, none⟩ = some (.slice none 0 0) := by rw [cell_of_block t1]; rfl
    have z5 : w1.cell? ⟨w.heap.size + 1, 5, none⟩ = some (.slice none 0 0) := by rw [cell_of_block t1]; rfl
    have fr := frozen_of_block t1
    generalize rdF v p = rd at *
    clear ow CA hd
    go_wp2_with fail
    (try simp only [Exit.inBlock, Exit.then])
    refine bodyPost_ret (v := .tuple #[.agg #[.int .i64 0, .bool false, .int .i64 0, .string ⟨#[]⟩, .slice none 0 0, .slice none 0 0], .int .i64 rd]) ?_ rfl ?_
    rotate_left
    · rw [HN.out]
      exact ⟨[.int .i64 0, .bool false, .int .i64 0, .string ⟨#[]⟩, .slice none 0 0, .slice none 0 0], rfl, null_lies _ _, Below.set6 BS (by omega) _ _ _ _ _ _ _ _ _ _ _ _⟩
    · rw [results_cell_tmp rfl]
      go_simp
end Go.Proofs.YtejcfkkkbnnmcaaGreatDoor

/- freeholdref04.Kids. -/
set_option linter.unusedSimpArgs false
set_option linter.unusedVariables false
namespace Go.Proofs.YtejcfkkkbnnmcaaGreatDoor
open Go.RowKit Go.Lib

set_option maxHeartbeats 1600000 in
set_option maxRecDepth 100000 in
theorem rkids_any (v : V) (p : ByteArray) (S : Nat → Prop) (cs : List Value) (w : World) (hv : v.lies false w S cs) (hS : ∀ b, S b → b < w.heap.size) (hwt : v.wt ≤ 1099511627776) (hp : p.size ≤ 1100000) : Calls Tryz.prog 10 #[.agg cs.toArray, .string p] w (KdPost (kdsF v p) w) := by
  have HV := hmk hv
  obtain ⟨k, b, i, s, al, nl, cl, am, nm, cm, rfl⟩ := V.ten hv
  clear hv
  have B0 : Below w.heap.size w (w.alloc (.cells #[.int .i64 k, .bool b, .int .i64 i, .string s, .slice al nl cl, .slice am nm cm] 25)) := one_belowG w _
  have hz0 : w.heap.size < (w.alloc (.cells #[.int .i64 k, .bool b, .int .i64 i, .string s, .slice al nl cl, .slice am nm cm] 25)).heap.size := by rw [alloc_size]; omega
  have h0 := heap_alloc_new w (.cells #[.int .i64 k, .bool b, .int .i64 i, .string s, .slice al nl cl, .slice am nm cm] 25)
  have CG := hmk (rget_any v p S _ (w.alloc (.cells #[.int .i64 k, .bool b, .int .i64 i, .string s, .slice al nl cl, .slice am nm cm] 25)) (lies_below HV.out hS B0) (fun x hx => Nat.lt_of_lt_of_le (hS x hx) B0.size) hwt hp)
  have r0 : (w.alloc (.cells #[.int .i64 k, .bool b, .int .i64 i, .string s, .slice al nl cl, .slice am nm cm] 25)).cell? ⟨w.heap.size, 0, none⟩ = some (.int .i64 k) := by rw [cell_of_block h0]; rfl
  have r1 : (w.alloc (.cells #[.int .i64 k, .bool b, .int .i64 i, .string s, .slice al nl cl, .slice am nm cm] 25)).cell? ⟨w.heap.size, 1, none⟩ = some (.bool b) := by rw [cell_of_block h0]; rfl
  have r2 : (w.alloc (.cells #[.int .i64 k, .bool b, .int .i64 i, .string s, .slice al nl cl, .slice am nm cm] 25)).cell? ⟨w.heap.size, 2, none⟩ = some (.int .i64 i) := by rw [cell_of_block h0]; rfl
  have r3 : (w.alloc (.cells #[.int .i64 k, .bool b, .int .i64 i, .string s, .slice al nl cl, .slice am nm cm] 25)).cell? ⟨w.heap.size, 3, none⟩ = some (.string s) := by rw [cell_of_block h0]; rfl
  have r4 : (w.alloc (.cells #[.int .i64 k, .bool b, .int .i64 i, .string s, .slice al nl cl, .slice am nm cm] 25)).cell? ⟨w.heap.size, 4, none⟩ = some (.slice al nl cl) := by rw [cell_of_block h0]; rfl
  have r5 : (w.alloc (.cells #[.int .i64 k, .bool b, .int .i64 i, .string s, .slice al nl cl, .slice am nm cm] 25)).cell? ⟨w.heap.size, 5, none⟩ = some (.slice am nm cm) := by rw [cell_of_block h0]; rfl
  have HK : Hid (kdsF v p = if (rgetF v p).2 = 0 then (ldgF (rgetF v p).1, 0) else ([], (rgetF v p).2)) := rfl
  have HC : Hid ((rgetF v p).2 = 0 → chkE (rgetF v p).1 40 = 0) := fun h => rget_chk h
  generalize kdsF v p = KF at *
  generalize rgetF v p = RG at *
  obtain ⟨x, er⟩ := RG
  simp only at HK HC
  go_enter Tryz.func10, Tryz.ntmps10
  go_wp2_with fail
  clear r0 r1 r2 r3 r4 r5
  generalize (w.alloc (.cells #[.int .i64 k, .bool b, .int .i64 i, .string s, .slice al nl cl, .slice am nm cm] 25)) = w0 at *
  refine CG.out.mono ?_
  rintro e w1 ⟨ds, rfl, hx, b1⟩
  have hz1 := b1.size
  have B1 := B0.trans (b1.mono (by omega))
  clear CG
  obtain ⟨xk, xb, xi, xs, l, m⟩ := x
  rw [V.lies] at hx
  obtain ⟨xal, xcl, bl, ol, xam, xcm, bm, om, rfl, _, _, _, hal, ham, hl, hm, _⟩ := hx
  have HM := hmk hm
  clear hl hm
  have b2 : Below w1.heap.size w1 (w1.alloc (.cells #[.int .i64 xk, .bool xb, .int .i64 xi, .string xs, .slice xal l.length xcl, .slice xam m.length xcm] 25)) := one_belowG _ _
  have B2 := B1.trans (b2.mono B1.size)
  have hz2 : w1.heap.size < (w1.alloc (.cells #[.int .i64 xk, .bool xb, .int .i64 xi, .string xs, .slice xal l.length xcl, .slice xam m.length xcm] 25)).heap.size := by rw [alloc_size]; omega
  have h2 := heap_alloc_new w1 (.cells #[.int .i64 xk, .bool xb, .int .i64 xi, .string xs, .slice xal l.length xcl, .slice xam m.length xcm] 25)
  by_cases her : er = 0
  · subst her
    have hce := HC.out rfl
    have HG : Hid (allG (.mk xk xb xi xs l m)) := chkV_allG 40 _ 0 (0, 0, 0) (by rw [← chkE40]; exact hce)
    have hxw : (V.mk xk xb xi xs l m).wt ≤ 1114112 := wt_of_chk (by rw [← chkE40]; exact hce)
    have hml : m.length ≤ 1114112 := by have := wtM_len m; simp only [V.wt] at hxw; omega
    have hll : l.length ≤ 1114112 := by have := wtL_len l; simp only [V.wt] at hxw; omega
    have HF : Hid (KF = (keysB m ++ digs l.length, 0)) := by
      show _ = _
      rw [HK.out, if_pos rfl]
      have := ldg_swap HG.out
      rw [← this]
      rfl
    clear HK HC hce hxw HG
    go_wp2_with fail
    generalize (w1.alloc (.cells #[.int .i64 xk, .bool xb, .int .i64 xi, .string xs, .slice xal l.length xcl, .slice xam m.length xcm] 25)) = w2 at *
    go_loopw [8, 9] (fun e8 e9 wr => ∃ (j : Nat) (bv : Value), bv = e8 ∧ e9 = .int .i64 (j : Int) ∧ j ≤ m.length ∧ OwnS w2.heap.size bv (keysB (m.take j)) wr ∧ Below w2.heap.size w2 wr) (fun _ e _ => m.length - (RowKit.intOf e).toNat)
    case atStart => exact ⟨0, _, rfl, rfl, by omega, World.ownsRow_nil _ _ 9 1, Below.refl _ _⟩
    case round =>
      obtain ⟨j, bv, rfl, rfl, hj, own, bj⟩ := hrel
      have hzr := bj.size
      have Bz : Below w.heap.size w wr := B2.trans (bj.mono B2.size)
      have Bo : Below w1.heap.size w1 wr := b2.trans (bj.mono (by omega))
      have t0 := (bj.block w1.heap.size (by omega)).trans h2
      have r4 : wr.cell? ⟨w1.heap.size, 4, none⟩ = some (.slice xal l.length xcl) := by rw [cell_of_block t0]; rfl
      have r5 : wr.cell? ⟨w1.heap.size, 5, none⟩ = some (.slice xam m.length xcm) := by rw [cell_of_block t0]; rfl
      by_cases hjl : j < m.length
      · have y1 : (j : Int) < m.length := by omega
        obtain ⟨hSb, hks, csj, hrow, hlj⟩ := liesM_get HM.out j hjl
        obtain rfl : xam = some ⟨bm, om, none⟩ := ham.at_.resolve_left (by omega)
        have x := (Bo.cell (p := ⟨bm, _, none⟩) (Nat.lt_of_lt_of_le (hS _ hSb) B1.size)).trans (hrow 0 _ rfl)
        simp only [Nat.add_zero] at x
        have HS : Hid (keysB (m.take (j + 1)) = keysB (m.take j) ++ [(m[j]).1]) := keys_succ m j hjl
        have hkl : (keysB (m.take j)).length = j := by rw [keys_len, List.length_take]; omega
        generalize (m[j]).1 = key at *
        generalize keysB (m.take j) = kj at *
        clear hlj hrow hks t0
        go_wp2_with (at_builtin; go_loud (refine wpl_appS _ rfl (.tmp 28) (.tmp 35) rfl w2.heap.size _ _ rfl (own.alloc _) wr.heap.size key rfl (alloc_last wr _) (by omega) (by rw [alloc_size]; omega) ?_))
        intro v2 w3 o2 b3
        have B3 := (bj.alloc hzr _).trans b3
        go_wp2_with fail
        go_roundw
        case rel => exact ⟨j + 1, v2, rfl, by go_num, by omega, by rw [HS.out]; exact o2, B3⟩
        case measure => simp [RowKit.intOf]; omega
      · obtain rfl : j = m.length := by omega
        have y1 : ¬ (m.length : Int) < m.length := by omega
        rw [List.take_length] at own
        have hkl := keys_len m
        generalize keysB m = km at *
        clear t0
        go_wp2_with fail
        clear r4 r5
        rename World => wA
        go_loopw [8, 10] (fun e8 e10 wr => ∃ (j : Nat) (bv : Value), bv = e8 ∧ e10 = .int .i64 (j : Int) ∧ j ≤ l.length ∧ OwnS w2.heap.size bv (km ++ digs j) wr ∧ Below w2.heap.size w2 wr) (fun _ e _ => l.length - (RowKit.intOf e).toNat)
        case atStart => exact ⟨0, _, rfl, rfl, by omega, by simpa [digs] using own, bj⟩
        case round =>
          clear own bj Bz Bo hzr
          obtain ⟨j, bv, rfl, rfl, hj, own, bj⟩ := hrel
          have hzr := bj.size
          have Bz : Below w.heap.size w wr := B2.trans (bj.mono B2.size)
          have t0 := (bj.block w1.heap.size (by omega)).trans h2
          have r4 : wr.cell? ⟨w1.heap.size, 4, none⟩ = some (.slice xal l.length xcl) := by rw [cell_of_block t0]; rfl
          have r5 : wr.cell? ⟨w1.heap.size, 5, none⟩ = some (.slice xam m.length xcm) := by rw [cell_of_block t0]; rfl
          by_cases hjl : j < l.length
          · have y1 : (j : Int) < l.length := by omega
            have CD := hmk (digit_any j (by omega) wr)
            have HS : Hid (digs (j + 1) = digs j ++ [digB j]) := digs_succ j
            have hkl2 : (km ++ digs j).length = m.length + j := by rw [List.length_append, digs_len, hkl]
            generalize digB j = t at *
            generalize digs j = dj at *
            go_wp2_with fail
            refine CD.out.mono ?_
            rintro e w4 ⟨rfl, b4⟩
            have hz4 := b4.size
            have own4 := own.below b4
            go_wp2_with (at_builtin; go_loud (refine wpl_appS _ rfl (.tmp 46) (.tmp 48) rfl w2.heap.size _ _ rfl (own4.alloc _) w4.heap.size t rfl (alloc_last w4 _) (by omega) (by rw [alloc_size]; omega) ?_))
            intro v2 w3 o2 b3
            have B3 := ((bj.trans (b4.mono hzr)).alloc (by omega) _).trans b3
            go_wp2_with fail
            go_roundw
            case rel => exact ⟨j + 1, v2, rfl, by go_num, by omega, by rw [HS.out]; simpa using o2, B3⟩
            case measure => simp [RowKit.intOf]; omega
          · obtain rfl : j = l.length := by omega
            have y1 : ¬ (l.length : Int) < l.length := by omega
            have HO := hmk own.lies
            clear own
            go_wp2_with fail
            go_ret2
            rw [HF.out]
            exact ⟨_, rfl, HO.out, Bz⟩
  · have HN : Hid (KF = ([], er)) := by show _ = _; rw [HK.out, if_neg her]
    go_wp2_with fail
    go_ret2
    rw [HN.out]
    exact ⟨_, rfl, liesS_nil _, B2⟩
end Go.Proofs.YtejcfkkkbnnmcaaGreatDoor

/- PointerGets: the law's own walk. -/
set_option linter.unusedSimpArgs false
set_option linter.unusedVariables false
namespace Go.Proofs.YtejcfkkkbnnmcaaGreatDoor
open Go.RowKit Go.Lib

theorem kds_len (v : V) (p : ByteArray) : (kdsF v p).1.length ≤ 1114112 := by
  unfold kdsF
  split
  · rename_i h
    have h1 := ldg_len (rgetF v p).1
    have h2 : (rgetF v p).1.wt ≤ 1114112 := wt_of_chk (by rw [← chkE40]; exact rget_chk h)
    show (ldgF _).length ≤ _
    omega
  · simp
set_option maxHeartbeats 2000000 in
set_option maxRecDepth 100000 in
theorem gets_walk (v : V) (p : ByteArray) (cs : List Value) (w : World) (tg : Tg w) (hv : v.lies false w (Old w) cs) (hp : p.size ≤ 1100000) : Calls Tryz.prog 3 #[.agg cs.toArray, .string p] w (BPost true w) := by
  obtain ⟨k, b, i, s, al, nl, cl, am, nm, cm, rfl⟩ := V.ten hv
  have h0 := heap_alloc_new w (.cells #[.int .i64 k, .bool b, .int .i64 i, .string s, .slice al nl cl, .slice am nm cm] 25)
  have hz0 : w.heap.size < (w.alloc (.cells #[.int .i64 k, .bool b, .int .i64 i, .string s, .slice al nl cl, .slice am nm cm] 25)).heap.size := by rw [alloc_size]; omega
  have B0 : Below w.heap.size w (w.alloc (.cells #[.int .i64 k, .bool b, .int .i64 i, .string s, .slice al nl cl, .slice am nm cm] 25)) := one_belowG w _
  have HL : Hid (∀ W, Below w.heap.size w W → v.lies false W (Old W) [.int .i64 k, .bool b, .int .i64 i, .string s, .slice al nl cl, .slice am nm cm]) := fun W hB => V.lies_keep (fun h => h) (fun x hx => hB.block x hx) (fun x hx => Nat.lt_of_lt_of_le hx hB.size) _ hv
  have HT : Hid (∀ W, Below w.heap.size w W → Tg W) := fun W hb => tg.below hb tg.z
  have cv0 : (w.alloc (.cells #[.int .i64 k, .bool b, .int .i64 i, .string s, .slice al nl cl, .slice am nm cm] 25)).cell? ⟨w.heap.size, 0, none⟩ = some (.int .i64 k) := by rw [cell_of_block h0]; rfl
  have cv1 : (w.alloc (.cells #[.int .i64 k, .bool b, .int .i64 i, .string s, .slice al nl cl, .slice am nm cm] 25)).cell? ⟨w.heap.size, 1, none⟩ = some (.bool b) := by rw [cell_of_block h0]; rfl
  have cv2 : (w.alloc (.cells #[.int .i64 k, .bool b, .int .i64 i, .string s, .slice al nl cl, .slice am nm cm] 25)).cell? ⟨w.heap.size, 2, none⟩ = some (.int .i64 i) := by rw [cell_of_block h0]; rfl
  have cv3 : (w.alloc (.cells #[.int .i64 k, .bool b, .int .i64 i, .string s, .slice al nl cl, .slice am nm cm] 25)).cell? ⟨w.heap.size, 3, none⟩ = some (.string s) := by rw [cell_of_block h0]; rfl
  have cv4 : (w.alloc (.cells #[.int .i64 k, .bool b, .int .i64 i, .string s, .slice al nl cl, .slice am nm cm] 25)).cell? ⟨w.heap.size, 4, none⟩ = some (.slice al nl cl) := by rw [cell_of_block h0]; rfl
  have cv5 : (w.alloc (.cells #[.int .i64 k, .bool b, .int .i64 i, .string s, .slice al nl cl, .slice am nm cm] 25)).cell? ⟨w.heap.size, 5, none⟩ = some (.slice am nm cm) := by rw [cell_of_block h0]; rfl
  clear hv tg
  go_enter Tryz.func3, Tryz.ntmps3
  go_wp2_with fail
  clear cv0 cv1 cv2 cv3 cv4 cv5
  generalize (w.alloc (.cells #[.int .i64 k, .bool b, .int .i64 i, .string s, .slice al nl cl, .slice am nm cm] 25)) = w0 at *
  refine (beyond_any v (Old w0) _ w0 (HL.out w0 B0) (fun x hx => hx)).mono ?_
  rintro e w1 ⟨r, rfl, hr, b1⟩
  have hz1 := b1.size
  have B1 := B0.trans (b1.mono (by omega))
  have v1 := (b1.block w.heap.size (by omega)).trans h0
  cases r with
  | true =>
    go_wp2_with fail
    go_ret
    exact ⟨rfl, B1⟩
  | false =>
    have hwt := hr rfl
    clear hr b1
    have cv0 : w1.cell? ⟨w.heap.size, 0, none⟩ = some (.int .i64 k) := by rw [cell_of_block v1]; rfl
    have cv1 : w1.cell? ⟨w.heap.size, 1, none⟩ = some (.bool b) := by rw [cell_of_block v1]; rfl
    have cv2 : w1.cell? ⟨w.heap.size, 2, none⟩ = some (.int .i64 i) := by rw [cell_of_block v1]; rfl
    have cv3 : w1.cell? ⟨w.heap.size, 3, none⟩ = some (.string s) := by rw [cell_of_block v1]; rfl
    have cv4 : w1.cell? ⟨w.heap.size, 4, none⟩ = some (.slice al nl cl) := by rw [cell_of_block v1]; rfl
    have cv5 : w1.cell? ⟨w.heap.size, 5, none⟩ = some (.slice am nm cm) := by rw [cell_of_block v1]; rfl
    go_wp2_with fail
    clear cv0 cv1 cv2 cv3 cv4 cv5
    refine (rcl_any v (Old w1) _ w1 (HL.out w1 B1) (fun x hx => hx) (by omega)).mono ?_
    rintro e w2 ⟨csu, rfl, hlu, b2⟩
    have hz2 := b2.size
    have B2 := B1.trans (b2.mono (by omega))
    obtain ⟨uk, ub, ui, us, ual, unl, ucl, uam, unm, ucm, rfl⟩ := V.ten hlu
    have b23 : Below w2.heap.size w2 (w2.alloc (.cells #[.int .i64 uk, .bool ub, .int .i64 ui, .string us, .slice ual unl ucl, .slice uam unm ucm] 25)) := one_belowG w2 _
    have hz3 : w2.heap.size < (w2.alloc (.cells #[.int .i64 uk, .bool ub, .int .i64 ui, .string us, .slice ual unl ucl, .slice uam unm ucm] 25)).heap.size := by rw [alloc_size]; omega
    have B3 := B2.trans (b23.mono B2.size)
    have u3 := heap_alloc_new w2 (.cells #[.int .i64 uk, .bool ub, .int .i64 ui, .string us, .slice ual unl ucl, .slice uam unm ucm] 25)
    have v3 := (b23.block w.heap.size (by omega)).trans ((b2.block w.heap.size (by omega)).trans v1)
    have HU : Hid (∀ W, Below w2.heap.size w2 W → v.lies false W (Old W) [.int .i64 uk, .bool ub, .int .i64 ui, .string us, .slice ual unl ucl, .slice uam unm ucm]) := fun W hb => V.lies_keep (fun h => h) (fun x hx => hb.block x hx.2) (fun x hx => Nat.lt_of_lt_of_le hx.2 hb.size) _ hlu
    have cu0 : (w2.alloc (.cells #[.int .i64 uk, .bool ub, .int .i64 ui, .string us, .slice ual unl ucl, .slice uam unm ucm] 25)).cell? ⟨w2.heap.size, 0, none⟩ = some (.int .i64 uk) := by rw [cell_of_block u3]; rfl
    have cu1 : (w2.alloc (.cells #[.int .i64 uk, .bool ub, .int .i64 ui, .string us, .slice ual unl ucl, .slice uam unm ucm] 25)).cell? ⟨w2.heap.size, 1, none⟩ = some (.bool ub) := by rw [cell_of_block u3]; rfl
    have cu2 : (w2.alloc (.cells #[.int .i64 uk, .bool ub, .int .i64 ui, .string us, .slice ual unl ucl, .slice uam unm ucm] 25)).cell? ⟨w2.heap.size, 2, none⟩ = some (.int .i64 ui) := by rw [cell_of_block u3]; rfl
    have cu3 : (w2.alloc (.cells #[.int .i64 uk, .bool ub, .int .i64 ui, .string us, .slice ual unl ucl, .slice uam unm ucm] 25)).cell? ⟨w2.heap.size, 3, none⟩ = some (.string us) := by rw [cell_of_block u3]; rfl
    have cu4 : (w2.alloc (.cells #[.int .i64 uk, .bool ub, .int .i64 ui, .string us, .slice ual unl ucl, .slice uam unm ucm] 25)).cell? ⟨w2.heap.size, 4, none⟩ = some (.slice ual unl ucl) := by rw [cell_of_block u3]; rfl
    have cu5 : (w2.alloc (.cells #[.int .i64 uk, .bool ub, .int .i64 ui, .string us, .slice ual unl ucl, .slice uam unm ucm] 25)).cell? ⟨w2.heap.size, 5, none⟩ = some (.slice uam unm ucm) := by rw [cell_of_block u3]; rfl
    clear hlu b2 v1
    go_wp2_with fail
    clear cu0 cu1 cu2 cu3 cu4 cu5
    generalize (w2.alloc (.cells #[.int .i64 uk, .bool ub, .int .i64 ui, .string us, .slice ual unl ucl, .slice uam unm ucm] 25)) = w3 at *
    refine (get_any v p (Old w3) _ w3 (HT.out w3 B3) (HU.out w3 b23) (fun x hx => hx) (by omega) hp).mono ?_
    rintro e w4 ⟨csx, rfl, hlx, b4⟩
    rw [get_rg] at hlx
    rw [get_rg]
    have hz4 := b4.size
    obtain ⟨xk, xb, xi, xs, xal, xnl, xcl, xam, xnm, xcm, rfl⟩ := V.ten hlx
    have b45 : Below w4.heap.size w4 (w4.alloc (.cells #[.int .i64 xk, .bool xb, .int .i64 xi, .string xs, .slice xal xnl xcl, .slice xam xnm xcm] 25)) := one_belowG w4 _
    have hz5 : w4.heap.size < (w4.alloc (.cells #[.int .i64 xk, .bool xb, .int .i64 xi, .string xs, .slice xal xnl xcl, .slice xam xnm xcm] 25)).heap.size := by rw [alloc_size]; omega
    have b35 := b4.trans (b45.mono hz4)
    have B5 := B3.trans (b35.mono (by omega))
    have b25 := b23.trans (b35.mono (by omega))
    have u5 := (b35.block w2.heap.size (by omega)).trans u3
    have v5 := (b35.block w.heap.size (by omega)).trans v3
    have x5 := heap_alloc_new w4 (.cells #[.int .i64 xk, .bool xb, .int .i64 xi, .string xs, .slice xal xnl xcl, .slice xam xnm xcm] 25)
    have HX : Hid (∀ W, Below w4.heap.size w4 W → (rgetF v p).1.lies false W (Old W) [.int .i64 xk, .bool xb, .int .i64 xi, .string xs, .slice xal xnl xcl, .slice xam xnm xcm]) := fun W hb => V.lies_keep (fun h => h) (fun x hx => hb.block x hx.2) (fun x hx => Nat.lt_of_lt_of_le hx.2 hb.size) _ hlx
    have cv0 : (w4.alloc (.cells #[.int .i64 xk, .bool xb, .int .i64 xi, .string xs, .slice xal xnl xcl, .slice xam xnm xcm] 25)).cell? ⟨w.heap.size, 0, none⟩ = some (.int .i64 k) := by rw [cell_of_block v5]; rfl
    have cv1 : (w4.alloc (.cells #[.int .i64 xk, .bool xb, .int .i64 xi, .string xs, .slice xal xnl xcl, .slice xam xnm xcm] 25)).cell? ⟨w.heap.size, 1, none⟩ = some (.bool b) := by rw [cell_of_block v5]; rfl
    have cv2 : (w4.alloc (.cells #[.int .i64 xk, .bool xb, .int .i64 xi, .string xs, .slice xal xnl xcl, .slice xam xnm xcm] 25)).cell? ⟨w.heap.size, 2, none⟩ = some (.int .i64 i) := by rw [cell_of_block v5]; rfl
    have cv3 : (w4.alloc (.cells #[.int .i64 xk, .bool xb, .int .i64 xi, .string xs, .slice xal xnl xcl, .slice xam xnm xcm] 25)).cell? ⟨w.heap.size, 3, none⟩ = some (.string s) := by rw [cell_of_block v5]; rfl
    have cv4 : (w4.alloc (.cells #[.int .i64 xk, .bool xb, .int .i64 xi, .string xs, .slice xal xnl xcl, .slice xam xnm xcm] 25)).cell? ⟨w.heap.size, 4, none⟩ = some (.slice al nl cl) := by rw [cell_of_block v5]; rfl
    have cv5 : (w4.alloc (.cells #[.int .i64 xk, .bool xb, .int .i64 xi, .string xs, .slice xal xnl xcl, .slice xam xnm xcm] 25)).cell? ⟨w.heap.size, 5, none⟩ = some (.slice am nm cm) := by rw [cell_of_block v5]; rfl
    clear hlx b4 v3 u3
    go_wp2_with fail
    clear cv0 cv1 cv2 cv3 cv4 cv5
    generalize (w4.alloc (.cells #[.int .i64 xk, .bool xb, .int .i64 xi, .string xs, .slice xal xnl xcl, .slice xam xnm xcm] 25)) = w5 at *
    refine (rget_any v p (Old w5) _ w5 (HL.out w5 B5) (fun x hx => hx) (by omega) hp).mono ?_
    rintro e w6 ⟨csy, rfl, hly, b6⟩
    have hz6 := b6.size
    obtain ⟨yk, yb, yi, ys, yal, ynl, ycl, yam, ynm, ycm, rfl⟩ := V.ten hly
    have b67 : Below w6.heap.size w6 (w6.alloc (.cells #[.int .i64 yk, .bool yb, .int .i64 yi, .string ys, .slice yal ynl ycl, .slice yam ynm ycm] 25)) := one_belowG w6 _
    have hz7 : w6.heap.size < (w6.alloc (.cells #[.int .i64 yk, .bool yb, .int .i64 yi, .string ys, .slice yal ynl ycl, .slice yam ynm ycm] 25)).heap.size := by rw [alloc_size]; omega
    have b57 := b6.trans (b67.mono hz6)
    have B7 := B5.trans (b57.mono (by omega))
    have b27 := b25.trans (b57.mono (by omega))
    have b47 := b45.trans (b57.mono (by omega))
    have u7 := (b57.block w2.heap.size (by omega)).trans u5
    have v7 := (b57.block w.heap.size (by omega)).trans v5
    have x7 := (b57.block w4.heap.size (by omega)).trans x5
    have y7 := heap_alloc_new w6 (.cells #[.int .i64 yk, .bool yb, .int .i64 yi, .string ys, .slice yal ynl ycl, .slice yam ynm ycm] 25)
    have HY : Hid (∀ W, Below w6.heap.size w6 W → (rgetF v p).1.lies false W (Old W) [.int .i64 yk, .bool yb, .int .i64 yi, .string ys, .slice yal ynl ycl, .slice yam ynm ycm]) := fun W hb => V.lies_keep (fun h => h) (fun x hx => hb.block x (Nat.lt_of_lt_of_le hx hz6)) (fun x hx => Nat.lt_of_lt_of_le (Nat.lt_of_lt_of_le hx hz6) hb.size) _ hly
    have cx0 : (w6.alloc (.cells #[.int .i64 yk, .bool yb, .int .i64 yi, .string ys, .slice yal ynl ycl, .slice yam ynm ycm] 25)).cell? ⟨w4.heap.size, 0, none⟩ = some (.int .i64 xk) := by rw [cell_of_block x7]; rfl
    have cx1 : (w6.alloc (.cells #[.int .i64 yk, .bool yb, .int .i64 yi, .string ys, .slice yal ynl ycl, .slice yam ynm ycm] 25)).cell? ⟨w4.heap.size, 1, none⟩ = some (.bool xb) := by rw [cell_of_block x7]; rfl
    have cx2 : (w6.alloc (.cells #[.int .i64 yk, .bool yb, .int .i64 yi, .string ys, .slice yal ynl ycl, .slice yam ynm ycm] 25)).cell? ⟨w4.heap.size, 2, none⟩ = some (.int .i64 xi) := by rw [cell_of_block x7]; rfl
    have cx3 : (w6.alloc (.cells #[.int .i64 yk, .bool yb, .int .i64 yi, .string ys, .slice yal ynl ycl, .slice yam ynm ycm] 25)).cell? ⟨w4.heap.size, 3, none⟩ = some (.string xs) := by rw [cell_of_block x7]; rfl
    have cx4 : (w6.alloc (.cells #[.int .i64 yk, .bool yb, .int .i64 yi, .string ys, .slice yal ynl ycl, .slice yam ynm ycm] 25)).cell? ⟨w4.heap.size, 4, none⟩ = some (.slice xal xnl xcl) := by rw [cell_of_block x7]; rfl
    have cx5 : (w6.alloc (.cells #[.int .i64 yk, .bool yb, .int .i64 yi, .string ys, .slice yal ynl ycl, .slice yam ynm ycm] 25)).cell? ⟨w4.heap.size, 5, none⟩ = some (.slice xam xnm xcm) := by rw [cell_of_block x7]; rfl
    have cy0 : (w6.alloc (.cells #[.int .i64 yk, .bool yb, .int .i64 yi, .string ys, .slice yal ynl ycl, .slice yam ynm ycm] 25)).cell? ⟨w6.heap.size, 0, none⟩ = some (.int .i64 yk) := by rw [cell_of_block y7]; rfl
    have cy1 : (w6.alloc (.cells #[.int .i64 yk, .bool yb, .int .i64 yi, .string ys, .slice yal ynl ycl, .slice yam ynm ycm] 25)).cell? ⟨w6.heap.size, 1, none⟩ = some (.bool yb) := by rw [cell_of_block y7]; rfl
    have cy2 : (w6.alloc (.cells #[.int .i64 yk, .bool yb, .int .i64 yi, .string ys, .slice yal ynl ycl, .slice yam ynm ycm] 25)).cell? ⟨w6.heap.size, 2, none⟩ = some (.int .i64 yi) := by rw [cell_of_block y7]; rfl
    have cy3 : (w6.alloc (.cells #[.int .i64 yk, .bool yb, .int .i64 yi, .string ys, .slice yal ynl ycl, .slice yam ynm ycm] 25)).cell? ⟨w6.heap.size, 3, none⟩ = some (.string ys) := by rw [cell_of_block y7]; rfl
    have cy4 : (w6.alloc (.cells #[.int .i64 yk, .bool yb, .int .i64 yi, .string ys, .slice yal ynl ycl, .slice yam ynm ycm] 25)).cell? ⟨w6.heap.size, 4, none⟩ = some (.slice yal ynl ycl) := by rw [cell_of_block y7]; rfl
    have cy5 : (w6.alloc (.cells #[.int .i64 yk, .bool yb, .int .i64 yi, .string ys, .slice yal ynl ycl, .slice yam ynm ycm] 25)).cell? ⟨w6.heap.size, 5, none⟩ = some (.slice yam ynm ycm) := by rw [cell_of_block y7]; rfl
    have CS := hmk (same_any (rgetF v p).1 false false (rgetF v p).1 (Old (w6.alloc (.cells #[.int .i64 yk, .bool yb, .int .i64 yi, .string ys, .slice yal ynl ycl, .slice yam ynm ycm] 25))) (Old (w6.alloc (.cells #[.int .i64 yk, .bool yb, .int .i64 yi, .string ys, .slice yal ynl ycl, .slice yam ynm ycm] 25))) _ _ (w6.alloc (.cells #[.int .i64 yk, .bool yb, .int .i64 yi, .string ys, .slice yal ynl ycl, .slice yam ynm ycm] 25)) (HX.out (w6.alloc (.cells #[.int .i64 yk, .bool yb, .int .i64 yi, .string ys, .slice yal ynl ycl, .slice yam ynm ycm] 25)) b47) (HY.out (w6.alloc (.cells #[.int .i64 yk, .bool yb, .int .i64 yi, .string ys, .slice yal ynl ycl, .slice yam ynm ycm] 25)) b67) (fun x hx => hx) (fun x hx => hx))
    rw [V.eqB_refl] at CS
    have CK := fun W (hb : Below w.heap.size w W) (h2 : Below w2.heap.size w2 W) => hmk (kids_any v p (Old W) _ W (HT.out W hb) (HU.out W h2) (fun x hx => hx) (by omega) hp)
    have CR := fun W (hb : Below w.heap.size w W) => hmk (rkids_any v p (Old W) _ W (HL.out W hb) (fun x hx => hx) (by omega) hp)
    have hkl := kds_len v p
    generalize (rgetF v p).2 = er at *
    generalize (rgetF v p).1 = xr at *
    generalize kdsF v p = KF at *
    obtain ⟨kl, ke⟩ := KF
    simp only at hkl
    clear hly b6 v5 u5 x5
    go_wp2_with fail
    clear cx0 cx1 cx2 cx3 cx4 cx5 cy0 cy1 cy2 cy3 cy4 cy5
    generalize (w6.alloc (.cells #[.int .i64 yk, .bool yb, .int .i64 yi, .string ys, .slice yal ynl ycl, .slice yam ynm ycm] 25)) = w7 at *
    refine CS.out.mono ?_
    rintro e w8 ⟨rfl, b8⟩
    have hz8 := b8.size
    have B8 := B7.trans (b8.mono (by omega))
    have b28 := b27.trans (b8.mono (by omega))
    have u8 := (b8.block w2.heap.size (by omega)).trans u7
    have v8 := (b8.block w.heap.size (by omega)).trans v7
    have cu0 : w8.cell? ⟨w2.heap.size, 0, none⟩ = some (.int .i64 uk) := by rw [cell_of_block u8]; rfl
    have cu1 : w8.cell? ⟨w2.heap.size, 1, none⟩ = some (.bool ub) := by rw [cell_of_block u8]; rfl
    have cu2 : w8.cell? ⟨w2.heap.size, 2, none⟩ = some (.int .i64 ui) := by rw [cell_of_block u8]; rfl
    have cu3 : w8.cell? ⟨w2.heap.size, 3, none⟩ = some (.string us) := by rw [cell_of_block u8]; rfl
    have cu4 : w8.cell? ⟨w2.heap.size, 4, none⟩ = some (.slice ual unl ucl) := by rw [cell_of_block u8]; rfl
    have cu5 : w8.cell? ⟨w2.heap.size, 5, none⟩ = some (.slice uam unm ucm) := by rw [cell_of_block u8]; rfl
    clear CS u7 v7
    go_wp2_with fail
    clear cu0 cu1 cu2 cu3 cu4 cu5
    refine (CK w8 B8 b28).out.mono ?_
    rintro e w9 ⟨tv1, rfl, lk, b9⟩
    have hz9 := b9.size
    have B9 := B8.trans (b9.mono (by omega))
    have b29 := b28.trans (b9.mono (by omega))
    have u9 := (b9.block w2.heap.size (by omega)).trans u8
    have v9 := (b9.block w.heap.size (by omega)).trans v8
    have cv0 : w9.cell? ⟨w.heap.size, 0, none⟩ = some (.int .i64 k) := by rw [cell_of_block v9]; rfl
    have cv1 : w9.cell? ⟨w.heap.size, 1, none⟩ = some (.bool b) := by rw [cell_of_block v9]; rfl
    have cv2 : w9.cell? ⟨w.heap.size, 2, none⟩ = some (.int .i64 i) := by rw [cell_of_block v9]; rfl
    have cv3 : w9.cell? ⟨w.heap.size, 3, none⟩ = some (.string s) := by rw [cell_of_block v9]; rfl
    have cv4 : w9.cell? ⟨w.heap.size, 4, none⟩ = some (.slice al nl cl) := by rw [cell_of_block v9]; rfl
    have cv5 : w9.cell? ⟨w.heap.size, 5, none⟩ = some (.slice am nm cm) := by rw [cell_of_block v9]; rfl
    clear CK u8 v8
    go_wp2_with fail
    clear cv0 cv1 cv2 cv3 cv4 cv5
    refine (CR w9 B9).out.mono ?_
    rintro e wa ⟨tv2, rfl, lr, ba⟩
    have hza := ba.size
    have Ba := B9.trans (ba.mono (by omega))
    have b2a := b29.trans (ba.mono (by omega))
    have ua := (ba.block w2.heap.size (by omega)).trans u9
    have va := (ba.block w.heap.size (by omega)).trans v9
    have CT := hmk (sames_any kl tv1 tv2 wa (lk.below ba) lr (by omega))
    clear CR u9 v9 lk lr
    go_wp2_with fail
    refine CT.out.mono ?_
    rintro e wb ⟨rfl, bb⟩
    have hzb := bb.size
    have Bb := Ba.trans (bb.mono (by omega))
    have b2b := b2a.trans (bb.mono (by omega))
    have ub' := (bb.block w2.heap.size (by omega)).trans ua
    have vb := (bb.block w.heap.size (by omega)).trans va
    have cu0 : wb.cell? ⟨w2.heap.size, 0, none⟩ = some (.int .i64 uk) := by rw [cell_of_block ub']; rfl
    have cu1 : wb.cell? ⟨w2.heap.size, 1, none⟩ = some (.bool ub) := by rw [cell_of_block ub']; rfl
    have cu2 : wb.cell? ⟨w2.heap.size, 2, none⟩ = some (.int .i64 ui) := by rw [cell_of_block ub']; rfl
    have cu3 : wb.cell? ⟨w2.heap.size, 3, none⟩ = some (.string us) := by rw [cell_of_block ub']; rfl
    have cu4 : wb.cell? ⟨w2.heap.size, 4, none⟩ = some (.slice ual unl ucl) := by rw [cell_of_block ub']; rfl
    have cu5 : wb.cell? ⟨w2.heap.size, 5, none⟩ = some (.slice uam unm ucm) := by rw [cell_of_block ub']; rfl
    have cv0 : wb.cell? ⟨w.heap.size, 0, none⟩ = some (.int .i64 k) := by rw [cell_of_block vb]; rfl
    have cv1 : wb.cell? ⟨w.heap.size, 1, none⟩ = some (.bool b) := by rw [cell_of_block vb]; rfl
    have cv2 : wb.cell? ⟨w.heap.size, 2, none⟩ = some (.int .i64 i) := by rw [cell_of_block vb]; rfl
    have cv3 : wb.cell? ⟨w.heap.size, 3, none⟩ = some (.string s) := by rw [cell_of_block vb]; rfl
    have cv4 : wb.cell? ⟨w.heap.size, 4, none⟩ = some (.slice al nl cl) := by rw [cell_of_block vb]; rfl
    have cv5 : wb.cell? ⟨w.heap.size, 5, none⟩ = some (.slice am nm cm) := by rw [cell_of_block vb]; rfl
    have CE := hmk (same_any v false false v (Old wb) (Old wb) _ _ wb (HU.out wb b2b) (HL.out wb Bb) (fun x hx => hx) (fun x hx => hx))
    rw [V.eqB_refl] at CE
    clear CT ua va
    go_wp2_with fail
    refine CE.out.mono ?_
    rintro e wc ⟨rfl, bc⟩
    have Bc := Bb.trans (bc.mono (by omega))
    go_wp2_with fail
    go_ret
    exact ⟨rfl, Bc⟩
end Go.Proofs.YtejcfkkkbnnmcaaGreatDoor
