import Derived.Test.YthgfomblodhoaaaDoorSpnX
import Derived.Test.YthgfomblodhoaaaDoorTwnX
/- Values in boxes of their own; twins in boxes. -/
set_option linter.unusedSimpArgs false
set_option linter.unusedVariables false
namespace Go.Proofs.YthgfomblodhoaaaDoor
open Go Go.RowKit Go.Lib
theorem Ch.bel {F : Nat → Prop} {n : Nat} {w a b : World} (h : Below n w a) (c : Ch F a b) (hF : ∀ y, F y → n ≤ y) (hn : n ≤ a.heap.size) : Below n w b :=
  ⟨c.os.trans h.os, c.tape.trans h.tape, c.output.trans h.output, Nat.le_trans h.size c.size, fun k hk => (c.blk k (by omega) (fun q => by have := hF k q; omega)).trans (h.block k hk)⟩
/-- a value in a box of its own -/
structure Bx (W : World) (B : Nat) (v : V) (cs : List Value) : Prop where
  row : rowAt W B 0 cs
  lt : B < W.heap.size
  lies : v.lies false W (Old W) cs
theorem Bx.below {W W' : World} {B : Nat} {v : V} {cs : List Value} (h : Bx W B v cs) (hb : Below W.heap.size W W') : Bx W' B v cs :=
  ⟨h.row.keep (hb.block _ h.lt), Nat.lt_of_lt_of_le h.lt hb.size, V.lies_keep (fun h => h) (fun x hx => hb.block x hx) (fun x hx => Nat.lt_of_lt_of_le hx hb.size) _ h.lies⟩
theorem Bx.new {W : World} {S : Nat → Prop} {v : V} {cs : List Value} (h : v.lies false W S cs) (hS : ∀ b, S b → b < W.heap.size) : Bx (W.alloc (.cells cs.toArray 25)) W.heap.size v cs :=
  ⟨box_row W cs 25, by rw [alloc_size]; exact Nat.lt_succ_self _, V.lies_keep (fun h => h) (fun x hx => Below.heap_alloc W _ x (hS x hx)) (fun x hx => by show x < _; rw [alloc_size]; exact Nat.lt_succ_of_lt (hS x hx)) _ h⟩
/-- a twin in a box of its own, its lists and maps in unlike blocks of [lo, hi) -/
structure Tw (W : World) (B lo hi : Nat) (v : V) (cs : List Value) : Prop where
  row : rowAt W B 0 cs
  lt : B < W.heap.size
  hb : hi ≤ B
  lies : v.lies false W (fun y => lo ≤ y ∧ y < hi) cs
  un : Unm W (fun y => lo ≤ y ∧ y < hi) v cs
theorem Tw.below {W W' : World} {B lo hi : Nat} {v : V} {cs : List Value} (h : Tw W B lo hi v cs) (hb : Below W.heap.size W W') : Tw W' B lo hi v cs := by
  have h1 := h.lt
  have h2 := h.hb
  exact ⟨h.row.keep (hb.block _ h.lt), Nat.lt_of_lt_of_le h.lt hb.size, h.hb, V.lies_keep (fun h => h) (fun x hx => hb.block x (by have := hx.2; omega)) (fun _ h => h) _ h.lies, h.un.keep (fun x hx => hb.block x (by have := hx.2; omega)) (fun _ h => h)⟩
theorem Tw.new {W : World} {lo hi : Nat} {v : V} {cs : List Value} (h : v.lies false W (fun y => lo ≤ y ∧ y < hi) cs) (u : Unm W (fun y => lo ≤ y ∧ y < hi) v cs) (hh : hi ≤ W.heap.size) : Tw (W.alloc (.cells cs.toArray 25)) W.heap.size lo hi v cs :=
  ⟨box_row W cs 25, by rw [alloc_size]; exact Nat.lt_succ_self _, hh, V.lies_keep (fun h => h) (fun x hx => Below.heap_alloc W _ x (by have := hx.2; omega)) (fun _ h => h) _ h, u.keep (fun x hx => Below.heap_alloc W _ x (by have := hx.2; omega)) (fun _ h => h)⟩
theorem Tw.bx {W : World} {B lo hi : Nat} {v : V} {cs : List Value} (h : Tw W B lo hi v cs) : Bx W B v cs :=
  ⟨h.row, h.lt, V.lies_keep (fun h => h) (fun _ _ => rfl) (fun x hx => by have := h.lt; have := h.hb; have := hx.2; show x < _; omega) _ h.lies⟩
theorem Tw.sp {W : World} {B lo hi : Nat} {v : V} {cs : List Value} (h : Tw W B lo hi v cs) : ∃ F, v.sp W cs F ∧ F.Nodup ∧ ∀ b ∈ F, lo ≤ b ∧ b < hi := h.un.sp h.lies
/-- another's blocks turned -/
theorem Tw.ch {F : Nat → Prop} {W W' : World} {B lo hi : Nat} {v : V} {cs : List Value} (h : Tw W B lo hi v cs) (c : Ch F W W') (hF : ∀ y, F y → y ≠ B ∧ (y < lo ∨ hi ≤ y)) : Tw W' B lo hi v cs := by
  have h1 := h.lt
  have h2 := h.hb
  have k : ∀ y, lo ≤ y ∧ y < hi → W'.heap[y]? = W.heap[y]? := fun y hy => c.blk y (by omega) (fun q => by have := (hF y q).2; omega)
  exact ⟨h.row.keep (c.blk B h.lt (fun q => (hF B q).1 rfl)), Nat.lt_of_lt_of_le h.lt c.size, h.hb, V.lies_keep (fun h => h) k (fun _ h => h) _ h.lies, h.un.keep k (fun _ h => h)⟩
theorem Bx.ch {F : Nat → Prop} {W W' : World} {B lo hi : Nat} {v : V} {cs : List Value} (r : rowAt W B 0 cs) (hB : B < W.heap.size) (hh : hi ≤ B) (l : v.lies false W (fun y => lo ≤ y ∧ y < hi) cs) (c : Ch F W W') (hF : ∀ y, F y → y ≠ B ∧ (y < lo ∨ hi ≤ y)) : Bx W' B v cs := by
  have k : ∀ y, lo ≤ y ∧ y < hi → W'.heap[y]? = W.heap[y]? := fun y hy => c.blk y (by omega) (fun q => by have := (hF y q).2; omega)
  exact ⟨r.keep (c.blk B hB (fun q => (hF B q).1 rfl)), Nat.lt_of_lt_of_le hB c.size, V.lies_keep (fun h => h) k (fun y hy => by have := c.size; have := hy.2; show y < _; omega) _ l⟩
theorem apE_lies2 {W : World} {l : List V} {e1 e2 g : Nat} (h : apE W l e1 e2 g 0) (hg : g < W.heap.size) (he : e2 ≤ W.heap.size) : liesL false W (Old W) l g 0 := by
  have h1 := apE_lies (lo := 0) (hi := W.heap.size) l (fun _ => ⟨Nat.zero_le _, hg⟩) (Nat.zero_le _) he h
  exact liesL_keep (fun h => h) (fun _ _ => rfl) (fun y hy => hy.2) _ h1
/-- a row of values, kept -/
theorem rowL_keep {W W' : World} {l : List V} {e1 e2 g : Nat} (h : apE W l e1 e2 g 0) (he : e2 ≤ g) (hg : g < W.heap.size) (b : Below W.heap.size W W') : liesL false W' (Old W') l g 0 := by
  have h1 : apE W' l e1 e2 g 0 := apE_keep l (fun _ => b.block g hg) (fun y _ h2 => b.block y (by omega)) h
  refine apE_lies2 h1 ?_ ?_
  · have := b.size; omega
  · have := b.size; omega
end Go.Proofs.YthgfomblodhoaaaDoor
