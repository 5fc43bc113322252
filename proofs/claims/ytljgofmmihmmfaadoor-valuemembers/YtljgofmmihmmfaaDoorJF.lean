/- joined: GodA GodB GodC GodD GodE -/
import Derived.Test.YtljgofmmihmmfaaDoorFauA
import Derived.Test.YtljgofmmihmmfaaDoorPutB
import Derived.Deep.RegionHeld3
/- good: some good value; the kinds without members. -/
set_option linter.unusedSimpArgs false
set_option linter.unusedVariables false
namespace Go.Proofs.YtljgofmmihmmfaaDoor
open Go.RowKit

def New (w w' : World) (x : Nat) : Prop := w.heap.size ≤ x ∧ x < w'.heap.size
def GoodPost (B : Nat) (w : World) (e : Ending) (w' : World) : Prop := ∃ (u : V) (cs : List Value), e = .returned (.agg cs.toArray) ∧ u.lies false w' (New w w') cs ∧ u.wt ≤ B ∧ Below w.heap.size w w'
theorem lies_S {W : World} {S : Nat → Prop} {k i : Int} {b : Bool} {s : ByteArray} {l : List V} {m : List Mem} {al am : Option Addr} {cl bl ol cm bm om nl nm : Nat} (hk : In64 k) (hi : In64 i) (hs : s.size ≤ maxLen) (hal : Headed al nl cl bl ol) (ham : Headed am nm cm bm om) (hl : liesL false W S l bl ol) (hm : liesM false W S m bm om) (e1 : nl = l.length := by rfl) (e2 : nm = m.length := by rfl) :
    (V.mk k b i s l m).lies false W S [.int .i64 k, .bool b, .int .i64 i, .string s, .slice al nl cl, .slice am nm cm] := by
  subst e1 e2
  rw [V.lies]
  exact ⟨al, cl, bl, ol, am, cm, bm, om, rfl, hk, hi, hs, hal, ham, hl, hm, fun h => by cases h⟩
end Go.Proofs.YtljgofmmihmmfaaDoor

/- good: some good value; a string. -/
set_option linter.unusedSimpArgs false
set_option linter.unusedVariables false
namespace Go.Proofs.YtljgofmmihmmfaaDoor
open Go.RowKit

theorem below_set12 {B N M : Nat} {a w : World} (h : Below B a w) (hN : B ≤ N) (hM : B ≤ M) (i1 i2 i3 i4 i5 i6 i7 i8 i9 i10 i11 i12 : Nat) (u1 u2 u3 u4 u5 u6 u7 u8 u9 u10 u11 u12 : Value) :
    Below B a (((((((((((((w).setCell ⟨N, i1, none⟩ u1).setCell ⟨N, i2, none⟩ u2).setCell ⟨N, i3, none⟩ u3).setCell ⟨N, i4, none⟩ u4).setCell ⟨N, i5, none⟩ u5).setCell ⟨N, i6, none⟩ u6).setCell ⟨M, i7, none⟩ u7).setCell ⟨M, i8, none⟩ u8).setCell ⟨M, i9, none⟩ u9).setCell ⟨M, i10, none⟩ u10).setCell ⟨M, i11, none⟩ u11).setCell ⟨M, i12, none⟩ u12) := by
  repeat (refine Below.setCell ?_ (by assumption) _)
  exact h

end Go.Proofs.YtljgofmmihmmfaaDoor

/- good: some good value; a list. -/
set_option linter.unusedSimpArgs false
set_option linter.unusedVariables false
namespace Go.Proofs.YtljgofmmihmmfaaDoor
open Go.RowKit

theorem OwnL.outN {w w0 : World} {S : Nat → Prop} {slv : Value} {l : List V} {B : Nat} (hB : w0.heap.size ≤ B) (h : OwnL false w B S slv (l.map some)) (hs : (slv = .slice none 0 0 ∧ l = []) ∨ ∃ g cap, slv = .slice (some ⟨g, 0, none⟩) l.length cap) :
    ∃ ao cap b o, slv = .slice ao l.length cap ∧ Headed ao l.length cap b o ∧ liesL false w (New w0 w) l b o := by
  rcases hs with ⟨rfl, rfl⟩ | ⟨g, cap, rfl⟩
  · exact ⟨none, 0, 0, 0, rfl, headed_nil, by rw [liesL]; trivial⟩
  have h1 := h.le
  have h2 := h.lt (g := g) rfl
  simp only [List.length_map] at h1
  refine ⟨_, _, g, 0, rfl, ⟨h1.1, h1.2, .inr rfl, fun h => by cases h⟩, liesL_mk fun j hj => ?_⟩
  obtain ⟨cs, r1, r2⟩ := h.at (by simp) j (by simpa using hj)
  rw [List.getElem_map] at r2
  exact ⟨⟨by omega, h2.2⟩, cs, r1, V.lies_keep (fun h => h) (fun _ _ => rfl) (fun b hb => ⟨by have := (h.off b hb).1; omega, (h.off b hb).2.1⟩) _ r2⟩
theorem OwnL.set6 {w : World} {base M : Nat} {S : Nat → Prop} {v : Value} {l : List (Option V)} (h : OwnL false w base S v l) (hM : M < base) (i1 i2 i3 i4 i5 i6 : Nat) (u1 u2 u3 u4 u5 u6 : Value) :
    OwnL false ((((((w.setCell ⟨M, i1, none⟩ u1).setCell ⟨M, i2, none⟩ u2).setCell ⟨M, i3, none⟩ u3).setCell ⟨M, i4, none⟩ u4).setCell ⟨M, i5, none⟩ u5).setCell ⟨M, i6, none⟩ u6) base S v l :=
  (((((h.set (keepL false) hM i1 u1).set (keepL false) hM i2 u2).set (keepL false) hM i3 u3).set (keepL false) hM i4 u4).set (keepL false) hM i5 u5).set (keepL false) hM i6 u6
theorem Below.set6 {B M : Nat} {a w : World} (h : Below B a w) (hM : B ≤ M) (i1 i2 i3 i4 i5 i6 : Nat) (u1 u2 u3 u4 u5 u6 : Value) :
    Below B a ((((((w.setCell ⟨M, i1, none⟩ u1).setCell ⟨M, i2, none⟩ u2).setCell ⟨M, i3, none⟩ u3).setCell ⟨M, i4, none⟩ u4).setCell ⟨M, i5, none⟩ u5).setCell ⟨M, i6, none⟩ u6) := by
  repeat (refine Below.setCell ?_ (by assumption) _)
  exact h
end Go.Proofs.YtljgofmmihmmfaaDoor

/- good: some good value; a map. -/
set_option linter.unusedSimpArgs false
set_option linter.unusedVariables false
namespace Go.Proofs.YtljgofmmihmmfaaDoor
open Go.RowKit

theorem cell_set_ne {W : World} {B b o i : Nat} (h : b ≠ B) (v : Value) : (W.setCell ⟨B, i, none⟩ v).cell? ⟨b, o, none⟩ = W.cell? ⟨b, o, none⟩ := World.cell?_setCell_far W ⟨B, i, none⟩ ⟨b, o, none⟩ v (fun e => h e.symm)
theorem alloc_keep (w : World) (o : Obj) {b : Nat} (h : b < w.heap.size) : (w.alloc o).heap[b]? = w.heap[b]? := Below.heap_alloc w o b h
def From (B : Nat) (w : World) (x : Nat) : Prop := B ≤ x ∧ x < w.heap.size
theorem size_set1 (w : World) (M i : Nat) (u : Value) : (w.setCell ⟨M, i, none⟩ u).heap.size = w.heap.size := by
  simp [World.setCell]
theorem liesM_set {w : World} {B M : Nat} {l : List Mem} {b o : Nat} (h : liesM false w (From B w) l b o) (hM : M < B) (i : Nat) (u : Value) : liesM false (w.setCell ⟨M, i, none⟩ u) (From B (w.setCell ⟨M, i, none⟩ u)) l b o :=
  liesM_keep (fun h => h) (fun x hx => (grown_set1 w M i u).block x hx.2 (fun e => by have := Option.some.inj e; have := hx.1; omega)) (fun x hx => ⟨hx.1, by rw [size_set1]; exact hx.2⟩) l h
theorem liesM_set6 {w : World} {B M : Nat} {l : List Mem} {b o : Nat} (h : liesM false w (From B w) l b o) (hM : M < B) (i1 i2 i3 i4 i5 i6 : Nat) (u1 u2 u3 u4 u5 u6 : Value) :
    liesM false ((((((w.setCell ⟨M, i1, none⟩ u1).setCell ⟨M, i2, none⟩ u2).setCell ⟨M, i3, none⟩ u3).setCell ⟨M, i4, none⟩ u4).setCell ⟨M, i5, none⟩ u5).setCell ⟨M, i6, none⟩ u6) (From B ((((((w.setCell ⟨M, i1, none⟩ u1).setCell ⟨M, i2, none⟩ u2).setCell ⟨M, i3, none⟩ u3).setCell ⟨M, i4, none⟩ u4).setCell ⟨M, i5, none⟩ u5).setCell ⟨M, i6, none⟩ u6)) l b o :=
  liesM_set (liesM_set (liesM_set (liesM_set (liesM_set (liesM_set h hM i1 u1) hM i2 u2) hM i3 u3) hM i4 u4) hM i5 u5) hM i6 u6
theorem map_rel {w5 w6 wa : World} {B M : Nat} {l : List Mem} {b o : Nat} (h : liesM false w6 (fun y => From B wa y ∨ (w5.heap.size ≤ y ∧ y < w6.heap.size)) l b o) (h5 : wa.heap.size ≤ w5.heap.size) (h6 : w5.heap.size ≤ w6.heap.size) (hb : B ≤ wa.heap.size) (hM : M < B) (i : Nat) (u : Value) : liesM false (w6.setCell ⟨M, i, none⟩ u) (From B (w6.setCell ⟨M, i, none⟩ u)) l b o :=
  liesM_set (liesM_keep (fun h => h) (fun _ _ => rfl) (fun x hx => by rcases hx with hx | hx <;> exact ⟨by have := hx.1; omega, by have := hx.2; omega⟩) l h) hM i u
end Go.Proofs.YtljgofmmihmmfaaDoor

/- good: some good value. -/
set_option linter.unusedSimpArgs false
set_option linter.unusedVariables false
namespace Go.Proofs.YtljgofmmihmmfaaDoor
open Go.RowKit

theorem GoodPost.mono {B C : Nat} (h : B ≤ C) {w : World} {e : Ending} {w' : World} (p : GoodPost B w e w') : GoodPost C w e w' := by
  obtain ⟨u, cs, h1, h2, h3, h4⟩ := p
  exact ⟨u, cs, h1, h2, Nat.le_trans h3 h, h4⟩
theorem tmod6 (k : Int) : Int.tmod k 6 = 0 ∨ Int.tmod k 6 = 1 ∨ Int.tmod k 6 = -1 ∨ Int.tmod k 6 = 2 ∨ Int.tmod k 6 = -2 ∨ Int.tmod k 6 = 3 ∨ Int.tmod k 6 = -3 ∨ Int.tmod k 6 = 4 ∨ Int.tmod k 6 = -4 ∨ Int.tmod k 6 = 5 ∨ Int.tmod k 6 = -5 := by
  have h1 := Int.tmod_lt_of_pos k (show (0 : Int) < 6 by omega)
  have h2 := Int.lt_tmod_of_pos k (show (0 : Int) < 6 by omega)
  omega
end Go.Proofs.YtljgofmmihmmfaaDoor
