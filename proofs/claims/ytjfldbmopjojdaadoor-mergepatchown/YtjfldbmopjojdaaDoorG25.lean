/- joined: NewP AnxL -/
import Derived.Test.YtjfldbmopjojdaaDoorSpnX
import Derived.Test.YtjfldbmopjojdaaDoorTwnX
set_option linter.unusedSimpArgs false
set_option linter.unusedVariables false
namespace Go.Proofs.YtjfldbmopjojdaaDoor
open Go Go.RowKit Go.Lib
theorem Ch.bel {F : Nat → Prop} {n : Nat} {w a b : World} (h : Below n w a) (c : Ch F a b) (hF : ∀ y, F y → n ≤ y) (hn : n ≤ a.heap.size) : Below n w b :=
 ⟨c.os.trans h.os, c.tape.trans h.tape, c.output.trans h.output, Nat.le_trans h.size c.size, fun k hk => (c.blk k (by omega) (fun q => by have := hF k q; omega)).trans (h.block k hk)⟩
structure Bx (W : World) (B : Nat) (v : V) (cs : List Value) : Prop where
 row : rowAt W B 0 cs
 lt : B < W.heap.size
 lies : v.lies false W (Old W) cs
theorem Bx.below {W W' : World} {B : Nat} {v : V} {cs : List Value} (h : Bx W B v cs) (hb : Below W.heap.size W W') : Bx W' B v cs :=
 ⟨h.row.keep (hb.block _ h.lt), Nat.lt_of_lt_of_le h.lt hb.size, V.lies_keep (fun h => h) (fun x hx => hb.block x hx) (fun x hx => Nat.lt_of_lt_of_le hx hb.size) _ h.lies⟩
theorem Bx.new {W : World} {S : Nat → Prop} {v : V} {cs : List Value} (h : v.lies false W S cs) (hS : ∀ b, S b → b < W.heap.size) : Bx (W.alloc (.cells cs.toArray 25)) W.heap.size v cs :=
 ⟨box_row W cs 25, by rw [alloc_size]; exact Nat.lt_succ_self _, V.lies_keep (fun h => h) (fun x hx => Below.heap_alloc W _ x (hS x hx)) (fun x hx => by show x < _; rw [alloc_size]; exact Nat.lt_succ_of_lt (hS x hx)) _ h⟩
structure Tw (W : World) (B lo hi : Nat) (v : V) (cs : List Value) : Prop where
 row : rowAt W B 0 cs
 lt : B < W.heap.size
 hb : hi ≤ B
 lies : v.lies false W (fun y => lo ≤ y ∧ y < hi) cs
 un : Unm W (fun y => lo ≤ y ∧ y < hi) v cs
theorem Tw.below {W W' : World} {B lo hi : Nat} {v : V} {cs : List Value} (h : Tw W B lo hi v cs) (hb : Below W.heap.size W W') : Tw W' B lo hi v cs := by
 have h1 := h.lt
 have h2 := h.hb
 exact ⟨h.row.keep (hb.block _ h.lt), Nat.lt_of_lt_of_le h.lt hb.size, h.hb, V.lies_keep (fun h => h) (fun x hx => hb.block x (by have := hx.2; omega)) (fun _ h => h) _ h.lies, h.un.keep (fun x hx => hb.block x (by have := hx.2; omega)) (fun _ h => h)⟩
theorem Tw.new {W : World} {lo hi : Nat} {v : V} {cs : List Value} (h : v.lies false W (fun y => lo ≤ y ∧ y < hi) cs) (u : Unm W (fun y => lo ≤ y ∧ y < hi) v cs) (hh : hi ≤ W.heap.size) : Tw (W.alloc (.cells cs.toArray 25)) W.heap.size lo hi v cs :=
 ⟨box_row W cs 25, by rw [alloc_size]; exact Nat.lt_succ_self _, hh, V.lies_keep (fun h => h) (fun x hx => Below.heap_alloc W _ x (by have := hx.2; omega)) (fun _ h => h) _ h, u.keep (fun x hx => Below.heap_alloc W _ x (by have := hx.2; omega)) (fun _ h => h)⟩
theorem Tw.bx {W : World} {B lo hi : Nat} {v : V} {cs : List Value} (h : Tw W B lo hi v cs) : Bx W B v cs :=
 ⟨h.row, h.lt, V.lies_keep (fun h => h) (fun _ _ => rfl) (fun x hx => by have := h.lt; have := h.hb; have := hx.2; show x < _; omega) _ h.lies⟩
theorem Tw.sp {W : World} {B lo hi : Nat} {v : V} {cs : List Value} (h : Tw W B lo hi v cs) : ∃ F, v.sp W cs F ∧ F.Nodup ∧ ∀ b ∈ F, lo ≤ b ∧ b < hi := h.un.sp h.lies
theorem Tw.ch {F : Nat → Prop} {W W' : World} {B lo hi : Nat} {v : V} {cs : List Value} (h : Tw W B lo hi v cs) (c : Ch F W W') (hF : ∀ y, F y → y ≠ B ∧ (y < lo ∨ hi ≤ y)) : Tw W' B lo hi v cs := by
 have h1 := h.lt
 have h2 := h.hb
 have k : ∀ y, lo ≤ y ∧ y < hi → W'.heap[y]? = W.heap[y]? := fun y hy => c.blk y (by omega) (fun q => by have := (hF y q).2; omega)
 exact ⟨h.row.keep (c.blk B h.lt (fun q => (hF B q).1 rfl)), Nat.lt_of_lt_of_le h.lt c.size, h.hb, V.lies_keep (fun h => h) k (fun _ h => h) _ h.lies, h.un.keep k (fun _ h => h)⟩
theorem Bx.ch {F : Nat → Prop} {W W' : World} {B lo hi : Nat} {v : V} {cs : List Value} (r : rowAt W B 0 cs) (hB : B < W.heap.size) (hh : hi ≤ B) (l : v.lies false W (fun y => lo ≤ y ∧ y < hi) cs) (c : Ch F W W') (hF : ∀ y, F y → y ≠ B ∧ (y < lo ∨ hi ≤ y)) : Bx W' B v cs := by
 have k : ∀ y, lo ≤ y ∧ y < hi → W'.heap[y]? = W.heap[y]? := fun y hy => c.blk y (by omega) (fun q => by have := (hF y q).2; omega)
 exact ⟨r.keep (c.blk B hB (fun q => (hF B q).1 rfl)), Nat.lt_of_lt_of_le hB c.size, V.lies_keep (fun h => h) k (fun y hy => by have := c.size; have := hy.2; show y < _; omega) _ l⟩
theorem apE_lies2 {W : World} {l : List V} {e1 e2 g : Nat} (h : apE W l e1 e2 g 0) (hg : g < W.heap.size) (he : e2 ≤ W.heap.size) : liesL false W (Old W) l g 0 := by
 have h1 := apE_lies (lo := 0) (hi := W.heap.size) l (fun _ => ⟨Nat.zero_le _, hg⟩) (Nat.zero_le _) he h
 exact liesL_keep (fun h => h) (fun _ _ => rfl) (fun y hy => hy.2) _ h1
theorem rowL_keep {W W' : World} {l : List V} {e1 e2 g : Nat} (h : apE W l e1 e2 g 0) (he : e2 ≤ g) (hg : g < W.heap.size) (b : Below W.heap.size W W') : liesL false W' (Old W') l g 0 := by
 have h1 : apE W' l e1 e2 g 0 := apE_keep l (fun _ => b.block g hg) (fun y _ h2 => b.block y (by omega)) h
 refine apE_lies2 h1 ?_ ?_
 ·have := b.size; omega
 ·have := b.size; omega
end Go.Proofs.YtjfldbmopjojdaaDoor
namespace Go.Proofs.YtjfldbmopjojdaaDoor
open Go.RowKit Go.Lib
def ApPost (v : V) (w : World) (e : Ending) (w' : World) : Prop := ∃ cs : List Value, e = .returned (.agg cs.toArray) ∧ v.ap w' w.heap.size w'.heap.size cs ∧ Below w.heap.size w w'
def ApLPost (l : List V) (w : World) (e : Ending) (w' : World) : Prop := ∃ e1, e = .returned (.slice (some ⟨w.heap.size, 0, none⟩) l.length l.length) ∧ w.heap.size < e1 ∧ e1 ≤ w'.heap.size ∧ apE w' l e1 w'.heap.size w.heap.size 0 ∧ Blk w.heap.size 25 (l.length * 6) w' ∧ Below w.heap.size w w'
def ApMPost (l : List Mem) (w : World) (e : Ending) (w' : World) : Prop := ∃ e1, e = .returned (.slice (some ⟨w.heap.size, 0, none⟩) l.length l.length) ∧ w.heap.size < e1 ∧ e1 ≤ w'.heap.size ∧ apF w' l e1 w'.heap.size w.heap.size 0 ∧ Blk w.heap.size 57 (l.length * 7) w' ∧ Below w.heap.size w w'
theorem rise_le {B : Nat → Nat} {j : Nat} (h : ∀ i, i < j → B i ≤ B (i + 1)) : ∀ {i k : Nat}, i ≤ k → k ≤ j → B i ≤ B k := fun {i k} hik hk => by
 induction k with
 | zero =>
  obtain rfl : i = 0 := by omega
  exact Nat.le_refl _
 | succ k ih =>
  rcases Nat.lt_or_ge i (k + 1) with h1 | h1
  ·exact Nat.le_trans (ih (by omega) (by omega)) (h k (by omega))
  ·obtain rfl : i = k + 1 := by omega
   exact Nat.le_refl _
def RowsA (l : List V) (j g : Nat) (w : World) : Prop := ∃ B : Nat → Nat, g < B 0 ∧ (∀ i, i < j → B i ≤ B (i + 1)) ∧ B j ≤ w.heap.size ∧ ∀ (i : Nat) (h : i < l.length), i < j → ∃ cs, rowAt w g (i * 6) cs ∧ cs.length = 6 ∧ (l[i]).ap w (B i) (B (i + 1)) cs
theorem RowsA.zero {l : List V} {g : Nat} {w : World} (h : g < w.heap.size) : RowsA l 0 g w := ⟨fun _ => w.heap.size, h, fun i hi => by omega, Nat.le_refl _, fun i hi h => by omega⟩
theorem RowsA.below {l : List V} {j g : Nat} {w w' : World} (h : RowsA l j g w) (hg : g < w.heap.size) (hb : Below w.heap.size w w') : RowsA l j g w' := by
 obtain ⟨B, h0, h1, h2, h3⟩ := h
 refine ⟨B, h0, h1, Nat.le_trans h2 hb.size, fun i hi hij => ?_⟩
 obtain ⟨cs, r, hl, ha⟩ := h3 i hi hij
 exact ⟨cs, r.keep (hb.block g hg), hl, V.ap_keep _ (fun y y1 y2 => hb.block y (by have := rise_le h1 (show i + 1 ≤ j by omega) (Nat.le_refl _); omega)) ha⟩
theorem RowsA.store {l : List V} {j g n : Nat} {w wa w3 : World} (h : RowsA l j g wa) (hga : g < wa.heap.size) (hb : Below wa.heap.size wa w3) (hB : Blk g 25 n w3) (hj : j < l.length) (hn : j * 6 + 6 ≤ n) {c0 c1 c2 c3 c4 c5 : Value} (hv : (l[j]).ap w3 wa.heap.size w3.heap.size [c0, c1, c2, c3, c4, c5]) (hw : Below w.heap.size w w3) (hg : w.heap.size ≤ g) :
 RowsA l (j + 1) g ((((((w3.setCell ⟨g, j * 6, none⟩ c0).setCell ⟨g, j * 6 + 1, none⟩ c1).setCell ⟨g, j * 6 + 2, none⟩ c2).setCell ⟨g, j * 6 + 3, none⟩ c3).setCell ⟨g, j * 6 + 4, none⟩ c4).setCell ⟨g, j * 6 + 5, none⟩ c5) ∧
 Blk g 25 n ((((((w3.setCell ⟨g, j * 6, none⟩ c0).setCell ⟨g, j * 6 + 1, none⟩ c1).setCell ⟨g, j * 6 + 2, none⟩ c2).setCell ⟨g, j * 6 + 3, none⟩ c3).setCell ⟨g, j * 6 + 4, none⟩ c4).setCell ⟨g, j * 6 + 5, none⟩ c5) ∧
 Below w.heap.size w ((((((w3.setCell ⟨g, j * 6, none⟩ c0).setCell ⟨g, j * 6 + 1, none⟩ c1).setCell ⟨g, j * 6 + 2, none⟩ c2).setCell ⟨g, j * 6 + 3, none⟩ c3).setCell ⟨g, j * 6 + 4, none⟩ c4).setCell ⟨g, j * 6 + 5, none⟩ c5) := by
 have hs := hb.size
 obtain ⟨arr, k1, k2⟩ := hB
 obtain ⟨arr', e1, e2, e3, e4, e5, e6⟩ := set6_row k1 (o := j * 6) (by omega) c0 c1 c2 c3 c4 c5
 have hBl := Below.set6 hw hg (j * 6) (j * 6 + 1) (j * 6 + 2) (j * 6 + 3) (j * 6 + 4) (j * 6 + 5) c0 c1 c2 c3 c4 c5
 have hsz : ((((((w3.setCell ⟨g, j * 6, none⟩ c0).setCell ⟨g, j * 6 + 1, none⟩ c1).setCell ⟨g, j * 6 + 2, none⟩ c2).setCell ⟨g, j * 6 + 3, none⟩ c3).setCell ⟨g, j * 6 + 4, none⟩ c4).setCell ⟨g, j * 6 + 5, none⟩ c5).heap.size = w3.heap.size := e6
 obtain ⟨B, h0, h1, h2, h3⟩ := h
 have hle : ∀ {i k : Nat}, i ≤ k → k ≤ j → B i ≤ B k := rise_le h1
 generalize ((((((w3.setCell ⟨g, j * 6, none⟩ c0).setCell ⟨g, j * 6 + 1, none⟩ c1).setCell ⟨g, j * 6 + 2, none⟩ c2).setCell ⟨g, j * 6 + 3, none⟩ c3).setCell ⟨g, j * 6 + 4, none⟩ c4).setCell ⟨g, j * 6 + 5, none⟩ c5) = W at *
 refine ⟨⟨fun q => if q ≤ j then B q else w3.heap.size, ?_, ?_, ?_, ?_⟩, ⟨arr', e1, by omega⟩, hBl⟩
 ·show g < (if 0 ≤ j then B 0 else _)
  rw [if_pos (Nat.zero_le _)]; exact h0
 ·intro i hi
  show (if i ≤ j then B i else _) ≤ (if i + 1 ≤ j then B (i + 1) else _)
  rw [if_pos (by omega)]
  by_cases hij : i + 1 ≤ j
  ·rw [if_pos hij]; exact h1 i (by omega)
  ·rw [if_neg hij]; have := hle (show i ≤ j by omega) (Nat.le_refl _); omega
 ·show (if j + 1 ≤ j then _ else w3.heap.size) ≤ _
  rw [if_neg (by omega)]; omega
 ·intro i hi hij
  have bg := hle (Nat.zero_le j) (Nat.le_refl _)
  by_cases hij' : i < j
  ·obtain ⟨cs, r, hl, ha⟩ := h3 i hi hij'
   have c1 := hle (show i + 1 ≤ j by omega) (Nat.le_refl _)
   have c0' := hle (Nat.zero_le i) (show i ≤ j by omega)
   refine ⟨cs, fun q u hu => ?_, hl, ?_⟩
   ·have := (r.keep (hb.block g hga)) q u hu
    have hq : q < 6 := by
     rcases Nat.lt_or_ge q 6 with h | h
     ·exact h
     ·rw [List.getElem?_eq_none (by omega)] at hu; cases hu
    rw [cell_of_block k1] at this
    rw [cell_of_block e1, e3 _ (by omega)]
    exact this
   ·show (l[i]).ap W (if i ≤ j then B i else _) (if i + 1 ≤ j then B (i + 1) else _) cs
    rw [if_pos (by omega), if_pos (by omega)]
    exact V.ap_keep _ (fun y y1 y2 => (e5 y (by omega)).trans (hb.block y (by omega))) ha
  ·obtain rfl : i = j := by omega
   refine ⟨_, e4, rfl, ?_⟩
   show (l[i]).ap W (if i ≤ i then B i else _) (if i + 1 ≤ i then _ else w3.heap.size) _
   rw [if_pos (Nat.le_refl _), if_neg (by omega)]
   exact V.ap_wide (V.ap_keep _ (fun y y1 y2 => e5 y (by omega)) hv) (by omega) (Nat.le_refl _)
theorem apE_wide {w : World} : ∀ {l : List V} {lo hi hi' b o : Nat}, apE w l lo hi b o → hi ≤ hi' → apE w l lo hi' b o
 | [], lo, hi, hi', b, o, _, _ => by rw [apE]; trivial
 | x :: t, lo, hi, hi', b, o, h, hh => by
  rw [apE] at h ⊢
  obtain ⟨mid, c1, c2, c3, c4⟩ := h
  exact ⟨mid, c1, by omega, c3, apE_wide c4 hh⟩
theorem apF_wide {w : World} : ∀ {l : List Mem} {lo hi hi' b o : Nat}, apF w l lo hi b o → hi ≤ hi' → apF w l lo hi' b o
 | [], lo, hi, hi', b, o, _, _ => by rw [apF]; trivial
 | (k, x) :: t, lo, hi, hi', b, o, h, hh => by
  rw [apF] at h ⊢
  obtain ⟨mid, c1, c2, c3, c4⟩ := h
  exact ⟨mid, c1, by omega, c3, apF_wide c4 hh⟩
set_option maxHeartbeats 8000000 in
set_option maxRecDepth 100000 in
theorem anewL_ap (l : List V) (R : Bool) (S : Nat → Prop) (al : Option Addr) (cl bl ol : Nat) (w : World) (hal : Headed al l.length cl bl ol) (hl : liesL R w S l bl ol) (hS : ∀ b, S b → b < w.heap.size) (hwt : wtL l ≤ 1099511627776)
 (ih : ∀ (j : Nat) (h : j < l.length) (cs : List Value) (W : World), (l[j]).lies R W S cs → (∀ b, S b → b < W.heap.size) → Calls Tryd.prog 45 #[.agg cs.toArray] W (ApPost l[j] W)) :
 Calls Tryd.prog 62 #[.slice al l.length cl] w (ApLPost l w) := by
 have HL : Hid (liesL R w S l bl ol) := hl
 have IH : Hid _ := ih
 clear hl ih
 have hlen := wtL_len l
 obtain ⟨i0, hi0, hz0, hz1, hz2⟩ := info_parts info25
 have hmk : ∀ W, (Instr.makeSlice 22 (.int .i64 (l.length : Int)) (.int .i64 (l.length : Int))).run Tryd.prog W = .ok (.slice (some ⟨W.heap.size, 0, none⟩) l.length l.length) (W.alloc (.cells (madeCells #[.int .i64 0, .bool false, .int .i64 0, .string ⟨#[]⟩, .slice none 0 0, .slice none 0 0] (l.length * 6)) 25)) := fun W => by
  have h := run_make (P := Tryd.prog) W 22 25 i0 _ Tryd.underlying22 hi0 hz0 .i64 .i64 (l.length : Int) (l.length : Int) (by omega) (by omega) (by rw [hz2]; omega) (by omega)
  rw [hz1] at h
  simpa [Value.cells] using h
 have hzm := alloc_size w (.cells (madeCells #[.int .i64 0, .bool false, .int .i64 0, .string ⟨#[]⟩, .slice none 0 0, .slice none 0 0] (l.length * 6)) 25)
 have B0 : Below w.heap.size w (w.alloc (.cells (madeCells #[.int .i64 0, .bool false, .int .i64 0, .string ⟨#[]⟩, .slice none 0 0, .slice none 0 0] (l.length * 6)) 25)) := (Below.refl _ _).alloc (Nat.le_refl _) _
 have K0 : Blk w.heap.size 25 (l.length * 6) (w.alloc (.cells (madeCells #[.int .i64 0, .bool false, .int .i64 0, .string ⟨#[]⟩, .slice none 0 0, .slice none 0 0] (l.length * 6)) 25)) := ⟨_, heap_alloc_new w _, size_madeCells _ _⟩
 clear hi0 hz0 hz1 hz2
 go_enter Tryd.func62, Tryd.ntmps62
 go_wp2_with fail
 clear hmk
 generalize (w.alloc (.cells (madeCells #[.int .i64 0, .bool false, .int .i64 0, .string ⟨#[]⟩, .slice none 0 0, .slice none 0 0] (l.length * 6)) 25)) = w0 at *
 go_loopw [11] (fun e wr => ∃ j : Nat, j ≤ l.length ∧ e = .int .i64 (j : Int) ∧ w0.heap.size ≤ wr.heap.size ∧ Hid (RowsA l j w.heap.size wr) ∧ Hid (Blk w.heap.size 25 (l.length * 6) wr) ∧ Below w.heap.size w wr) (fun e _ => l.length - (RowKit.intOf e).toNat)
 case atStart => exact ⟨0, by omega, rfl, by omega, (RowsA.zero (by omega)), K0, B0⟩
 case round =>
  clear K0 B0
  obtain ⟨j, hj, rfl, hzr, HR, HK, bj⟩ := hrel
  by_cases hjl : j < l.length
  ·have y1 : (j : Int) < l.length := by omega
   obtain ⟨hSb, csj, hrow, hlj⟩ := liesL_get HL.out j hjl
   obtain rfl : al = some ⟨bl, ol, none⟩ := hal.at_.resolve_left (by omega)
   have hkw : ∀ x, S x → wr.heap[x]? = w.heap[x]? := fun x hx => bj.block x (hS x hx)
   have hlj0 := hlj
   obtain ⟨ek, eb, ei, es, eal, enl, ecl, eam, enm, ecm, rfl⟩ := V.ten hlj
   obtain ⟨q0, q1, q2, q3, q4, q5⟩ := row6 (hrow.keep (hkw _ hSb))
   have hza := alloc_size wr (.cells #[.int .i64 ek, .bool eb, .int .i64 ei, .string es, .slice eal enl ecl, .slice eam enm ecm] 25)
   have ba : Below wr.heap.size wr (wr.alloc (.cells #[.int .i64 ek, .bool eb, .int .i64 ei, .string es, .slice eal enl ecl, .slice eam enm ecm] 25)) := (Below.refl _ _).alloc (Nat.le_refl _) _
   have hc := IH.out j hjl _ (wr.alloc (.cells #[.int .i64 ek, .bool eb, .int .i64 ei, .string es, .slice eal enl ecl, .slice eam enm ecm] 25)) (V.lies_keep (fun h => h) (fun x hx => (ba.block x (by have := hS x hx; omega)).trans (hkw x hx)) (fun _ h => h) _ hlj0) (fun x hx => by have := hS x hx; omega)
   have HR1 : Hid (RowsA l j w.heap.size (wr.alloc (.cells #[.int .i64 ek, .bool eb, .int .i64 ei, .string es, .slice eal enl ecl, .slice eam enm ecm] 25))) := HR.out.below (by omega) ba
   have HK1 : Hid (Blk w.heap.size 25 (l.length * 6) (wr.alloc (.cells #[.int .i64 ek, .bool eb, .int .i64 ei, .string es, .slice eal enl ecl, .slice eam enm ecm] 25))) := HK.out.keep (ba.block _ (by omega))
   have B1 : Below w.heap.size w (wr.alloc (.cells #[.int .i64 ek, .bool eb, .int .i64 ei, .string es, .slice eal enl ecl, .slice eam enm ecm] 25)) := bj.trans (ba.mono (by omega))
   clear hlj hlj0 hrow hkw HR HK
   go_wp2_with fail
   generalize (wr.alloc (.cells #[.int .i64 ek, .bool eb, .int .i64 ei, .string es, .slice eal enl ecl, .slice eam enm ecm] 25)) = wa at *
   refine hc.mono ?_
   rintro e w3 ⟨csu, rfl, hlu, b3⟩
   obtain ⟨uk, ub, ui, us, ual, unl, ucl, uam, unm, ucm, rfl⟩ := V.ten (V.ap_lies _ hlu)
   have hz3 := b3.size
   have HK3 : Blk w.heap.size 25 (l.length * 6) w3 := HK1.out.keep (b3.block _ (by omega))
   have B3 := B1.trans (b3.mono (by omega))
   have HS : Hid _ := HR1.out.store (by omega) b3 HK3 hjl (by omega) hlu B3 (Nat.le_refl _)
   obtain ⟨v0, k0⟩ := HK3.cell (j * 6) (by omega)
   obtain ⟨v1, k1⟩ := HK3.cell (j * 6 + 1) (by omega)
   obtain ⟨v2, k2⟩ := HK3.cell (j * 6 + 2) (by omega)
   obtain ⟨v3, k3⟩ := HK3.cell (j * 6 + 3) (by omega)
   obtain ⟨v4, k4⟩ := HK3.cell (j * 6 + 4) (by omega)
   obtain ⟨v5, k5⟩ := HK3.cell (j * 6 + 5) (by omega)
   have kf := HK3.frozen
   clear hlu HK3 HR1 HK1 B3 B1 b3 q0 q1 q2 q3 q4 q5 hc ba
   go_wp2_with fail
   go_roundw
   case rel => exact ⟨j + 1, by omega, by go_num, by simp [size_set1]; omega, HS.out.1, HS.out.2.1, HS.out.2.2⟩
   case measure => simp [RowKit.intOf]; omega
  ·obtain rfl : j = l.length := by omega
   have y1 : ¬ (l.length : Int) < l.length := by omega
   have HF : Hid (∃ e1, w.heap.size < e1 ∧ e1 ≤ wr.heap.size ∧ apE wr l e1 wr.heap.size w.heap.size 0) := by
    obtain ⟨B, h0, h1, h2, h3⟩ := HR.out
    have hle : ∀ {i k : Nat}, i ≤ k → k ≤ l.length → B i ≤ B k := rise_le h1
    refine ⟨B 0, h0, Nat.le_trans (hle (Nat.zero_le _) (Nat.le_refl _)) h2, ?_⟩
    have E := apE_mk (w := wr) (l := l) (b := w.heap.size) (o := 0) B h1 (fun i hi => by
     obtain ⟨cs, r, _, ha⟩ := h3 i hi hi
     exact ⟨cs, by rw [Nat.zero_add]; exact r, ha⟩)
    exact apE_wide E h2
   clear HR
   go_wp2_with fail
   go_ret
   obtain ⟨e1, f1, f2, f3⟩ := HF.out
   exact ⟨e1, rfl, f1, f2, f3, HK.out, bj⟩
end Go.Proofs.YtjfldbmopjojdaaDoor
