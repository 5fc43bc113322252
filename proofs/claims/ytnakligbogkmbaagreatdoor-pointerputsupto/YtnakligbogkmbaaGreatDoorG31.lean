/- joined: AddE RadS -/
import Derived.Test.YtnakligbogkmbaaGreatDoorG30
import Derived.Test.YtnakligbogkmbaaGreatDoorRwiA
set_option linter.unusedSimpArgs false
set_option linter.unusedVariables false
namespace Go.Proofs.YtnakligbogkmbaaGreatDoor
open Go.RowKit Go.Lib
def AdPost (r : V × Int) (S : Nat → Prop) (w : World) (e : Ending) (w' : World) : Prop := ∃ cs : List Value, e = .returned (.tuple #[.agg cs.toArray, .int .i64 r.2]) ∧ r.1.lies false w' (OrNew S w w') cs ∧ Below w.heap.size w w'
theorem ad_end {S : Nat → Prop} {w w3 : World} {B : Nat} {x : V} {c0 c1 c2 c3 c4 c5 : Value} (hS : ∀ b, S b → b < w.heap.size) (B3 : Below w.heap.size w w3) (hB : w.heap.size + 3 ≤ B) (hz : w.heap.size + 3 ≤ w3.heap.size) (hx : x.lies false w3 (fun y => S y ∨ (B ≤ y ∧ y < w3.heap.size)) [c0, c1, c2, c3, c4, c5]) (fld : Nat) (nv : Value) :
 x.lies false (((((((w3.setCell ⟨w.heap.size, fld, none⟩ nv).setCell ⟨w.heap.size + 2, 0, none⟩ (c0)).setCell ⟨w.heap.size + 2, 1, none⟩ (c1)).setCell ⟨w.heap.size + 2, 2, none⟩ (c2)).setCell ⟨w.heap.size + 2, 3, none⟩ (c3)).setCell ⟨w.heap.size + 2, 4, none⟩ (c4)).setCell ⟨w.heap.size + 2, 5, none⟩ (c5)) (OrNew S w (((((((w3.setCell ⟨w.heap.size, fld, none⟩ nv).setCell ⟨w.heap.size + 2, 0, none⟩ (c0)).setCell ⟨w.heap.size + 2, 1, none⟩ (c1)).setCell ⟨w.heap.size + 2, 2, none⟩ (c2)).setCell ⟨w.heap.size + 2, 3, none⟩ (c3)).setCell ⟨w.heap.size + 2, 4, none⟩ (c4)).setCell ⟨w.heap.size + 2, 5, none⟩ (c5))) [c0, c1, c2, c3, c4, c5] ∧ Below w.heap.size w (((((((w3.setCell ⟨w.heap.size, fld, none⟩ nv).setCell ⟨w.heap.size + 2, 0, none⟩ (c0)).setCell ⟨w.heap.size + 2, 1, none⟩ (c1)).setCell ⟨w.heap.size + 2, 2, none⟩ (c2)).setCell ⟨w.heap.size + 2, 3, none⟩ (c3)).setCell ⟨w.heap.size + 2, 4, none⟩ (c4)).setCell ⟨w.heap.size + 2, 5, none⟩ (c5)) := by
 have hot1 : ∀ y, y ≠ w.heap.size → (w3.setCell ⟨w.heap.size, fld, none⟩ nv).heap[y]? = w3.heap[y]? := fun y hy => by rw [sOt hy]
 have g1 : w3.grownBy (w3.setCell ⟨w.heap.size, fld, none⟩ nv) (some w.heap.size) := gSt (World.grownBy.refl w3 _) fld nv
 have s1 : (w3.setCell ⟨w.heap.size, fld, none⟩ nv).heap.size = w3.heap.size := by simp only [sz1]
 generalize (w3.setCell ⟨w.heap.size, fld, none⟩ nv) = w3s at *
 have hot : ∀ y, y ≠ w.heap.size + 2 → ((((((w3s.setCell ⟨w.heap.size + 2, 0, none⟩ (c0)).setCell ⟨w.heap.size + 2, 1, none⟩ (c1)).setCell ⟨w.heap.size + 2, 2, none⟩ (c2)).setCell ⟨w.heap.size + 2, 3, none⟩ (c3)).setCell ⟨w.heap.size + 2, 4, none⟩ (c4)).setCell ⟨w.heap.size + 2, 5, none⟩ (c5)).heap[y]? = w3s.heap[y]? := fun y hy => by
  repeat (rw [sOt hy])
 have g2 : w3s.grownBy ((((((w3s.setCell ⟨w.heap.size + 2, 0, none⟩ (c0)).setCell ⟨w.heap.size + 2, 1, none⟩ (c1)).setCell ⟨w.heap.size + 2, 2, none⟩ (c2)).setCell ⟨w.heap.size + 2, 3, none⟩ (c3)).setCell ⟨w.heap.size + 2, 4, none⟩ (c4)).setCell ⟨w.heap.size + 2, 5, none⟩ (c5)) (some (w.heap.size + 2)) := gSt (gSt (gSt (gSt (gSt (gSt (World.grownBy.refl w3s _) 0 c0) 1 c1) 2 c2) 3 c3) 4 c4) 5 c5
 have s2 : ((((((w3s.setCell ⟨w.heap.size + 2, 0, none⟩ (c0)).setCell ⟨w.heap.size + 2, 1, none⟩ (c1)).setCell ⟨w.heap.size + 2, 2, none⟩ (c2)).setCell ⟨w.heap.size + 2, 3, none⟩ (c3)).setCell ⟨w.heap.size + 2, 4, none⟩ (c4)).setCell ⟨w.heap.size + 2, 5, none⟩ (c5)).heap.size = w3s.heap.size := by simp only [sz1]
 generalize ((((((w3s.setCell ⟨w.heap.size + 2, 0, none⟩ (c0)).setCell ⟨w.heap.size + 2, 1, none⟩ (c1)).setCell ⟨w.heap.size + 2, 2, none⟩ (c2)).setCell ⟨w.heap.size + 2, 3, none⟩ (c3)).setCell ⟨w.heap.size + 2, 4, none⟩ (c4)).setCell ⟨w.heap.size + 2, 5, none⟩ (c5)) = wf at *
 have key : ∀ y, y ≠ w.heap.size → y ≠ w.heap.size + 2 → wf.heap[y]? = w3.heap[y]? := fun y h1 h2 => (hot y h2).trans (hot1 y h1)
 refine ⟨V.lies_keep (fun h => h) (fun y hy => ?_) (fun y hy => ?_) _ hx, ⟨g2.os.trans (g1.os.trans B3.os), g2.tape.trans (g1.tape.trans B3.tape), g2.output.trans (g1.output.trans B3.output), by have := B3.size; omega, fun q hq => (key q (by omega) (by omega)).trans (B3.block q hq)⟩⟩
 ·rcases hy with hy | hy
  ·have := hS y hy; exact key y (by omega) (by omega)
  ·exact key y (by omega) (by omega)
 ·rcases hy with hy | hy
  ·exact .inl hy
  ·exact .inr ⟨by omega, by omega⟩
theorem gap_le {t : ByteArray} {n p : Nat} (h : gapF t n = some p) : p ≤ n := by
 rw [gapF] at h
 split at h
 ·injection h with h; omega
 ·have := idxF_lt h; omega
theorem step_catV {ops : Array Oper} {o : Oper} {a : Act} {w : World} {K' : Act → World → Prop} {Q : Exit → Act → World → Prop} {D : Prop} (hgd : o.guard = none) (s x : Operand) (ho : o.op = .call { callee := .builtin .append, args := #[s, x], argTypes := #[22, 22] })
 (B : Nat) (v : Value) (css : List (List Value)) (hs : a.eval s = v) (hown : OwnC B 25 6 v css w) (sa : Option Addr) (n cc b off : Nat) (new : List (List Value)) (hx : a.eval x = .slice sa n cc) (hn : new.length = n) (hd : Headed sa n cc b off) (hrow : RowsOf w b off 6 new) (hlen : css.length + n ≤ 8000000) (hbase : B ≤ w.heap.size)
 (h : ∀ v' w', OwnC B 25 6 v' (css ++ new) w' → w.grownBy w' v.ownBlock → K' (a.put o.dst v') w') : if Region.wanted o (yielded ops a.tmps) = true then Oper.wp Tryz.prog o a w K' Q else D := by
 have hw : Region.wanted o (yielded ops a.tmps) = true := by simp [Region.wanted, hgd]
 rw [if_pos hw]
 subst hn
 obtain ⟨i1, hi1, hy0, hy1, hy2⟩ := info_parts infoVU
 cases sa with
 | none =>
  have hcz := hd.nil rfl
  have hle := hd.le
  subst hcz
  have hn0 : new = [] := List.length_eq_zero_iff.1 (by omega)
  subst hn0
  have hrun := run_append_owned_none (P := Tryz.prog) (w := w) B 22 o.type 25 i1 6 Tryz.underlying22 hi1 v css.length css.flatten hown
  have hx' : a.eval x = .slice none 0 0 := hx
  unfold Oper.wp
  simp [execOp, ho, resolve, invoke, builtin, hs, hx', hrun, Result.andThen]
  exact h _ _ (by rw [List.append_nil]; exact hown) ⟨rfl, rfl, rfl, Nat.le_refl _, fun _ _ _ => rfl⟩
 | some ad =>
  have sg : SegAt 6 w (fun _ => True) ⟨some ad, new, cc, b, off⟩ := ⟨hd, hrow, fun _ => trivial⟩
  refine wp_append_own w s x 22 ho B 25 i1 _ 6 88 Tryz.underlying22 hi1 hy0 hy1 hy2 rfl (by decide) v css.length css.flatten hs hown ad new.length cc new.flatten hx (flat_len hrow.len) (sg.news (by omega) rfl) (ones hrow) (by unfold maxLen; omega) (by omega) hbase ?_
  intro v' w' h1 h2 _
  refine h v' w' ?_ h2
  show w'.ownsRow _ _ _ v' (css ++ new).length (css ++ new).flatten
  rw [List.flatten_append, List.length_append]
  exact h1
theorem step_catM {ops : Array Oper} {o : Oper} {a : Act} {w : World} {K' : Act → World → Prop} {Q : Exit → Act → World → Prop} {D : Prop} (hgd : o.guard = none) (s x : Operand) (ho : o.op = .call { callee := .builtin .append, args := #[s, x], argTypes := #[23, 23] })
 (B : Nat) (v : Value) (css : List (List Value)) (hs : a.eval s = v) (hown : OwnC B 39 7 v css w) (sa : Option Addr) (n cc b off : Nat) (new : List (List Value)) (hx : a.eval x = .slice sa n cc) (hn : new.length = n) (hd : Headed sa n cc b off) (hrow : RowsOf w b off 7 new) (hlen : css.length + n ≤ 8000000) (hbase : B ≤ w.heap.size)
 (h : ∀ v' w', OwnC B 39 7 v' (css ++ new) w' → w.grownBy w' v.ownBlock → K' (a.put o.dst v') w') : if Region.wanted o (yielded ops a.tmps) = true then Oper.wp Tryz.prog o a w K' Q else D := by
 have hw : Region.wanted o (yielded ops a.tmps) = true := by simp [Region.wanted, hgd]
 rw [if_pos hw]
 subst hn
 obtain ⟨i1, hi1, hy0, hy1, hy2⟩ := info_parts infoMU
 cases sa with
 | none =>
  have hcz := hd.nil rfl
  have hle := hd.le
  subst hcz
  have hn0 : new = [] := List.length_eq_zero_iff.1 (by omega)
  subst hn0
  have hrun := run_append_owned_none (P := Tryz.prog) (w := w) B 23 o.type 39 i1 7 Tryz.underlying23 hi1 v css.length css.flatten hown
  have hx' : a.eval x = .slice none 0 0 := hx
  unfold Oper.wp
  simp [execOp, ho, resolve, invoke, builtin, hs, hx', hrun, Result.andThen]
  exact h _ _ (by rw [List.append_nil]; exact hown) ⟨rfl, rfl, rfl, Nat.le_refl _, fun _ _ _ => rfl⟩
 | some ad =>
  have sg : SegAt 7 w (fun _ => True) ⟨some ad, new, cc, b, off⟩ := ⟨hd, hrow, fun _ => trivial⟩
  refine wp_append_own w s x 23 ho B 39 i1 _ 7 104 Tryz.underlying23 hi1 hy0 hy1 hy2 rfl (by decide) v css.length css.flatten hs hown ad new.length cc new.flatten hx (flat_len hrow.len) (sg.news (by omega) rfl) (ones hrow) (by unfold maxLen; omega) (by omega) hbase ?_
  intro v' w' h1 h2 _
  refine h v' w' ?_ h2
  show w'.ownsRow _ _ _ v' (css ++ new).length (css ++ new).flatten
  rw [List.flatten_append, List.length_append]
  exact h1
structure AccV (w w3 wr : World) (k : Int) (u : Value) (css : List (List Value)) : Prop where
 box : wr.heap[w.heap.size + 3]? = some (.cells #[.int .i64 k, .bool false, .int .i64 0, .string ⟨#[]⟩, u, .slice none 0 0] 25)
 bel : Below (w.heap.size + 3) w3 wr
 own : OwnC (w.heap.size + 4) 25 6 u css wr
 big : w.heap.size + 4 ≤ wr.heap.size
theorem AccV.next {w w3 wr wA w5 : World} {k : Int} {u v' : Value} {css css' : List (List Value)} (h : AccV w w3 wr k u css) (bA : Below wr.heap.size wr wA) (g5 : wA.grownBy w5 u.ownBlock) (o5 : OwnC (w.heap.size + 4) 25 6 v' css' w5) :
 AccV w w3 (w5.setCell ⟨w.heap.size + 3, 4, none⟩ v') k v' css' ∧ w5.heap[w.heap.size + 3]? = some (.cells #[.int .i64 k, .bool false, .int .i64 0, .string ⟨#[]⟩, u, .slice none 0 0] 25) ∧ ∀ z, z < w.heap.size + 3 → w5.heap[z]? = w3.heap[z]? := by
 have hzA := bA.size
 have hz5 := g5.size
 have hbg := h.big
 have hgn : ∀ z, z < w.heap.size + 4 → w5.heap[z]? = wr.heap[z]? := fun z hz => (g5.block z (by omega) (fun e => by have := (World.ownsRow.lt h.own z e.symm).1; omega)).trans (bA.block z (by omega))
 have b5 := (hgn (w.heap.size + 3) (by omega)).trans h.box
 have B5 : Below (w.heap.size + 3) w3 w5 := ⟨g5.os.trans (bA.os.trans h.bel.os), g5.tape.trans (bA.tape.trans h.bel.tape), g5.output.trans (bA.output.trans h.bel.output), by have := h.bel.size; omega, fun z hz => (hgn z (by omega)).trans (h.bel.block z hz)⟩
 have u5 : (w5.setCell ⟨w.heap.size + 3, 4, none⟩ v').heap[w.heap.size + 3]? = some (.cells #[.int .i64 k, .bool false, .int .i64 0, .string ⟨#[]⟩, v', .slice none 0 0] 25) := by rw [sBk b5]; rfl
 have hs5 : ∀ z, z ≠ w.heap.size + 3 → (w5.setCell ⟨w.heap.size + 3, 4, none⟩ v').heap[z]? = w5.heap[z]? := fun z hz => by rw [sOt hz]
 have gs : w5.grownBy (w5.setCell ⟨w.heap.size + 3, 4, none⟩ v') (some (w.heap.size + 3)) := gSt (World.grownBy.refl w5 _) 4 _
 have ms : (w5.setCell ⟨w.heap.size + 3, 4, none⟩ v').heap.size = w5.heap.size := by simp only [sz1]
 exact ⟨⟨u5, ⟨gs.os.trans B5.os, gs.tape.trans B5.tape, gs.output.trans B5.output, by have := B5.size; omega, fun z hz => (hs5 z (by omega)).trans (B5.block z hz)⟩, o5.move (fun z h1 _ => hs5 z (by omega)), by omega⟩, b5, fun z hz => B5.block z hz⟩
structure AccM (w w3 wr : World) (k : Int) (u : Value) (css : List (List Value)) : Prop where
 box : wr.heap[w.heap.size + 3]? = some (.cells #[.int .i64 k, .bool false, .int .i64 0, .string ⟨#[]⟩, .slice none 0 0, u] 25)
 bel : Below (w.heap.size + 3) w3 wr
 own : OwnC (w.heap.size + 4) 39 7 u css wr
 big : w.heap.size + 4 ≤ wr.heap.size
theorem AccM.next {w w3 wr wA w5 : World} {k : Int} {u v' : Value} {css css' : List (List Value)} (h : AccM w w3 wr k u css) (bA : Below wr.heap.size wr wA) (g5 : wA.grownBy w5 u.ownBlock) (o5 : OwnC (w.heap.size + 4) 39 7 v' css' w5) :
 AccM w w3 (w5.setCell ⟨w.heap.size + 3, 5, none⟩ v') k v' css' ∧ w5.heap[w.heap.size + 3]? = some (.cells #[.int .i64 k, .bool false, .int .i64 0, .string ⟨#[]⟩, .slice none 0 0, u] 25) ∧ ∀ z, z < w.heap.size + 3 → w5.heap[z]? = w3.heap[z]? := by
 have hzA := bA.size
 have hz5 := g5.size
 have hbg := h.big
 have hgn : ∀ z, z < w.heap.size + 4 → w5.heap[z]? = wr.heap[z]? := fun z hz => (g5.block z (by omega) (fun e => by have := (World.ownsRow.lt h.own z e.symm).1; omega)).trans (bA.block z (by omega))
 have b5 := (hgn (w.heap.size + 3) (by omega)).trans h.box
 have B5 : Below (w.heap.size + 3) w3 w5 := ⟨g5.os.trans (bA.os.trans h.bel.os), g5.tape.trans (bA.tape.trans h.bel.tape), g5.output.trans (bA.output.trans h.bel.output), by have := h.bel.size; omega, fun z hz => (hgn z (by omega)).trans (h.bel.block z hz)⟩
 have u5 : (w5.setCell ⟨w.heap.size + 3, 5, none⟩ v').heap[w.heap.size + 3]? = some (.cells #[.int .i64 k, .bool false, .int .i64 0, .string ⟨#[]⟩, .slice none 0 0, v'] 25) := by rw [sBk b5]; rfl
 have hs5 : ∀ z, z ≠ w.heap.size + 3 → (w5.setCell ⟨w.heap.size + 3, 5, none⟩ v').heap[z]? = w5.heap[z]? := fun z hz => by rw [sOt hz]
 have gs : w5.grownBy (w5.setCell ⟨w.heap.size + 3, 5, none⟩ v') (some (w.heap.size + 3)) := gSt (World.grownBy.refl w5 _) 5 _
 have ms : (w5.setCell ⟨w.heap.size + 3, 5, none⟩ v').heap.size = w5.heap.size := by simp only [sz1]
 exact ⟨⟨u5, ⟨gs.os.trans B5.os, gs.tape.trans B5.tape, gs.output.trans B5.output, by have := B5.size; omega, fun z hz => (hs5 z (by omega)).trans (B5.block z hz)⟩, o5.move (fun z h1 _ => hs5 z (by omega)), by omega⟩, b5, fun z hz => B5.block z hz⟩
theorem headed_none : Headed none 0 0 0 0 := ⟨Nat.le_refl _, Nat.zero_le _, .inl rfl, fun _ => rfl⟩
theorem RowsOf.keepB {w w' : World} {b o c : Nat} {css : List (List Value)} (h : RowsOf w b o c css) (hw : 0 < css.length → w'.heap[b]? = w.heap[b]?) : RowsOf w' b o c css := ⟨h.len, h.one, fun j hj => (h.row j hj).keep (hw (by omega))⟩
end Go.Proofs.YtnakligbogkmbaaGreatDoor
