/- joined: RfD SizA -/
import Derived.Deep.Cut
import Derived.Test.YtihcggepeadklaaGreatDoorG12
import Derived.Laws.ResultCell
import Derived.Deep.RegionHeld3
/- freeholdref02: walk. -/
set_option linter.unusedSimpArgs false
set_option linter.unusedVariables false
namespace Go.Proofs.YtihcggepeadklaaGreatDoor
open Go.RowKit Go.Lib
structure RwF (w : World) (box : Array Value) (n y : Nat) (wr : World) : Prop where
  below : Below w.heap.size w wr
  b0 : wr.heap[w.heap.size]? = some (.cells box 46 (0, 0))
  b1 : wr.heap[w.heap.size + 1]? = some (.cells #[.int .i64 (n : Int), .int .i64 (y : Int)] 180 (0, 0))
  b2 : wr.heap[w.heap.size + 1 + 1]? = some (.cells #[.int .i64 0, .int .i64 0] 180 (0, 0))
theorem RwF.lt {w : World} {box : Array Value} {n y : Nat} {wr : World} (h : RwF w box n y wr) : w.heap.size + 3 ≤ wr.heap.size := (Array.getElem?_eq_some_iff.1 h.b2).1
theorem RwF.grown {w : World} {box : Array Value} {n y : Nat} {wr wr' : World} (h : RwF w box n y wr) (g : wr.grownBy wr' none) : RwF w box n y wr' := by
  have hs := h.lt
  exact ⟨h.below.grown g (by omega) (fun r e => by cases e), (g.block _ (by omega) (by simp)).trans h.b0, (g.block _ (by omega) (by simp)).trans h.b1, (g.block _ (by omega) (by simp)).trans h.b2⟩
theorem RwF.set {w : World} {box : Array Value} {n y n' y' : Nat} {wr : World} (h : RwF w box n y wr) (i : Nat) (u : Value) (e : (#[.int .i64 (n : Int), .int .i64 (y : Int)] : Array Value).setIfInBounds i u = #[.int .i64 (n' : Int), .int .i64 (y' : Int)]) : RwF w box n' y' (wr.setCell ⟨w.heap.size + 1, i, none⟩ u) := by
  have hs := h.lt
  have g := grown_set1 wr (w.heap.size + 1) i u
  have hn : ∀ q, q ≠ w.heap.size + 1 → some q ≠ some (w.heap.size + 1) := fun q hq e => hq (Option.some.inj e)
  refine ⟨h.below.grown g (by omega) (fun r e => by cases e; omega), (g.block _ (by omega) (hn _ (by omega))).trans h.b0, ?_, (g.block _ (by omega) (hn _ (by omega))).trans h.b2⟩
  rw [set_block h.b1, e]
end Go.Proofs.YtihcggepeadklaaGreatDoor
/- Depth, Nodes, Scalar and the document's: contracts. -/
namespace Go.Proofs.YtihcggepeadklaaGreatDoor
open Go.RowKit Go.Lib
def okV (v : V) : Bool := decide ((chkV 40 v 0 (0, 0, 0)).1 = 0)
def kindOf : V → Int
  | .mk k _ _ _ _ _ => k
def sizS (v : V) : Bool := okV v && (decide (1 ≤ kindOf v) && decide (kindOf v ≤ 3))
theorem chkE40 (v : V) : chkE v 40 = (chkV 40 v 0 (0, 0, 0)).1 := by rw [chkE, if_neg (by omega)]; rfl
theorem okV_true {v : V} (h : okV v = true) : (chkV 40 v 0 (0, 0, 0)).1 = 0 := of_decide_eq_true h
set_option maxHeartbeats 4000000 in
set_option maxRecDepth 100000 in
theorem taken_any (R : Bool) (v : V) (S : Nat → Prop) (cs : List Value) (w : World) (t : Tb w) (hl : v.lies R w S cs) (hS : ∀ b, S b → b < w.heap.size) (hwt : v.wt ≤ 1099511627776) :
    Calls Tryz.prog 67 #[.agg cs.toArray] w (BPost (okV v) w) := by
  obtain ⟨k, b, i, s, al, nl, cl, am, nm, cm, rfl⟩ := V.ten hl
  have ga : w.grownBy (w.alloc (.cells #[.int .i64 k, .bool b, .int .i64 i, .string s, .slice al nl cl, .slice am nm cm] 46)) none := World.grownBy_alloc _ _ _
  have c := check_any R v 40 S _ _ (t.grown ga (fun r e => by cases e)) (V.lies_keep (fun h => h) (fun x hx => ga.block x (hS x hx) (by simp)) (fun _ h => h) _ hl) (fun x hx => Nat.lt_of_lt_of_le (hS x hx) ga.size) hwt
  rw [chkE40] at c
  have HF : Hid (okV v = ((((chkV 40 v 0 (0, 0, 0)).1 : Nat) : Int) == 0)) := by
    show _ = _
    rw [okV, Bool.eq_iff_iff, decide_eq_true_iff, beq_iff_eq]
    omega
  generalize (chkV 40 v 0 (0, 0, 0)).1 = z at *
  go_enter Tryz.func67, Tryz.ntmps67
  go_wp2_with fail
  refine c.mono ?_
  rintro e w1 ⟨rfl, b1⟩
  go_wp2_with fail
  go_ret
  refine ⟨?_, (below_of_grown ga).trans (b1.mono ga.size)⟩
  rw [HF.out]
  rfl
set_option maxHeartbeats 4000000 in
set_option maxRecDepth 100000 in
theorem scalar_any (R : Bool) (v : V) (S : Nat → Prop) (cs : List Value) (w : World) (t : Tb w) (hl : v.lies R w S cs) (hS : ∀ b, S b → b < w.heap.size) (hwt : v.wt ≤ 1099511627776) :
    Calls Tryz.prog 44 #[.agg cs.toArray] w (BPost (sizS v) w) := by
  have hl0 := hl
  obtain ⟨k, b, i, s, l, m⟩ := v
  rw [V.lies] at hl
  obtain ⟨al, cl, bl, ol, am, cm, bm, om, rfl, hk, hi, hs, hal, ham, _⟩ := hl
  have ga : w.grownBy (w.alloc (.cells #[.int .i64 k, .bool b, .int .i64 i, .string s, .slice al l.length cl, .slice am m.length cm] 46)) none := World.grownBy_alloc _ _ _
  have c := taken_any R _ S _ _ (t.grown ga (fun r e => by cases e)) (V.lies_keep (fun h => h) (fun x hx => ga.block x (hS x hx) (by simp)) (fun _ h => h) _ hl0) (fun x hx => Nat.lt_of_lt_of_le (hS x hx) ga.size) hwt
  clear hl0 hwt
  by_cases h3 : k = 1 ∨ k = 2 ∨ k = 3
  · have HF : Hid (sizS (V.mk k b i s l m) = okV (V.mk k b i s l m)) := by
      show _ = _
      rw [sizS, kindOf, decide_eq_true (show 1 ≤ k by omega), decide_eq_true (show k ≤ 3 by omega)]; simp
    generalize okV (V.mk k b i s l m) = z at *
    rcases h3 with rfl | rfl | rfl
    all_goals
      go_enter Tryz.func44, Tryz.ntmps44
      go_wp2_with fail
      refine c.mono ?_
      rintro e w1 ⟨rfl, b1⟩
      go_wp2_with fail
      go_ret
      rw [HF.out]
      exact ⟨rfl, (below_of_grown ga).trans (b1.mono ga.size)⟩
  · have HF : Hid (sizS (V.mk k b i s l m) = false) := by
      show _ = _
      rw [sizS, kindOf]
      by_cases h1 : 1 ≤ k
      · rw [decide_eq_false (show ¬ k ≤ 3 by omega)]; simp
      · rw [decide_eq_false h1]; simp
    have y1 : ¬ k = 1 := by omega
    have y2 : ¬ k = 2 := by omega
    have y3 : ¬ k = 3 := by omega
    clear c
    go_enter Tryz.func44, Tryz.ntmps44
    go_wp2_with fail
    go_ret
    rw [HF.out]
    exact ⟨rfl, below_of_grown ga⟩
end Go.Proofs.YtihcggepeadklaaGreatDoor
