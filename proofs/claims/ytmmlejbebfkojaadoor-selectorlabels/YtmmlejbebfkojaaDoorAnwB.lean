import Derived.Test.YtmmlejbebfkojaaDoorAnwA
/- value.anewList. -/
set_option linter.unusedSimpArgs false
set_option linter.unusedVariables false
namespace Go.Proofs.YtmmlejbebfkojaaDoor
open Go.RowKit Go.Lib
def AnPost (v : V) (w : World) (e : Ending) (w' : World) : Prop := ∃ cs : List Value, e = .returned (.agg cs.toArray) ∧ v.lies false w' (New w w') cs ∧ Below w.heap.size w w'
def AnLPost (l : List V) (w : World) (e : Ending) (w' : World) : Prop := ∃ g : Nat, e = .returned (.slice (some ⟨g, 0, none⟩) l.length l.length) ∧ liesL false w' (New w w') l g 0 ∧ Below w.heap.size w w'
def AnMPost (l : List Mem) (w : World) (e : Ending) (w' : World) : Prop := ∃ g : Nat, e = .returned (.slice (some ⟨g, 0, none⟩) l.length l.length) ∧ liesM false w' (New w w') l g 0 ∧ Below w.heap.size w w'
/-- the rows that stand so far in the block g -/
def RowsL (l : List V) (j g : Nat) (w : World) : Prop := ∀ (i : Nat) (h : i < l.length), i < j → ∃ cs, rowAt w g (i * 6) cs ∧ cs.length = 6 ∧ (l[i]).lies false w (fun x => g < x ∧ x < w.heap.size) cs
def Blk (g ty n : Nat) (w : World) : Prop := ∃ arr, w.heap[g]? = some (.cells arr ty (0, 0)) ∧ arr.size = n
theorem Blk.cell {g ty n : Nat} {w : World} (h : Blk g ty n w) (i : Nat) (hi : i < n) : ∃ v, w.cell? ⟨g, i, none⟩ = some v := by
  obtain ⟨arr, h1, h2⟩ := h
  exact ⟨arr[i], by rw [cell_of_block h1]; simp [h2, hi]⟩
theorem Blk.frozen {g ty n : Nat} {w : World} (h : Blk g ty n w) (i : Nat) : w.frozen? ⟨g, i, none⟩ = false := by
  obtain ⟨arr, h1, h2⟩ := h
  exact frozen_of_block h1 i
theorem Blk.keep {g ty n : Nat} {w w' : World} (h : Blk g ty n w) (e : w'.heap[g]? = w.heap[g]?) : Blk g ty n w' := by
  obtain ⟨arr, h1, h2⟩ := h
  exact ⟨arr, e.trans h1, h2⟩
theorem RowsL.below {l : List V} {j g : Nat} {w w' : World} (h : RowsL l j g w) (hg : g < w.heap.size) (hb : Below w.heap.size w w') : RowsL l j g w' := fun i hi hij => by
  obtain ⟨cs, r, hl, lies⟩ := h i hi hij
  exact ⟨cs, r.keep (hb.block g hg), hl, V.lies_keep (fun h => h) (fun x hx => hb.block x hx.2) (fun x hx => ⟨hx.1, Nat.lt_of_lt_of_le hx.2 hb.size⟩) _ lies⟩
/-- one row more -/
theorem RowsL.store {l : List V} {j g n : Nat} {w w3 : World} (h : RowsL l j g w3) (hB : Blk g 25 n w3) (hj : j < l.length) (hn : j * 6 + 6 ≤ n) {c0 c1 c2 c3 c4 c5 : Value} (hv : (l[j]).lies false w3 (fun x => g < x ∧ x < w3.heap.size) [c0, c1, c2, c3, c4, c5]) (hw : Below w.heap.size w w3) (hg : w.heap.size ≤ g) :
    RowsL l (j + 1) g ((((((w3.setCell ⟨g, j * 6, none⟩ c0).setCell ⟨g, j * 6 + 1, none⟩ c1).setCell ⟨g, j * 6 + 2, none⟩ c2).setCell ⟨g, j * 6 + 3, none⟩ c3).setCell ⟨g, j * 6 + 4, none⟩ c4).setCell ⟨g, j * 6 + 5, none⟩ c5) ∧
    Blk g 25 n ((((((w3.setCell ⟨g, j * 6, none⟩ c0).setCell ⟨g, j * 6 + 1, none⟩ c1).setCell ⟨g, j * 6 + 2, none⟩ c2).setCell ⟨g, j * 6 + 3, none⟩ c3).setCell ⟨g, j * 6 + 4, none⟩ c4).setCell ⟨g, j * 6 + 5, none⟩ c5) ∧
    Below w.heap.size w ((((((w3.setCell ⟨g, j * 6, none⟩ c0).setCell ⟨g, j * 6 + 1, none⟩ c1).setCell ⟨g, j * 6 + 2, none⟩ c2).setCell ⟨g, j * 6 + 3, none⟩ c3).setCell ⟨g, j * 6 + 4, none⟩ c4).setCell ⟨g, j * 6 + 5, none⟩ c5) := by
  obtain ⟨arr, h1, h2⟩ := hB
  obtain ⟨arr', e1, e2, e3, e4, e5, e6⟩ := set6_row h1 (o := j * 6) (by omega) c0 c1 c2 c3 c4 c5
  have hBl := Below.set6 hw hg (j * 6) (j * 6 + 1) (j * 6 + 2) (j * 6 + 3) (j * 6 + 4) (j * 6 + 5) c0 c1 c2 c3 c4 c5
  generalize ((((((w3.setCell ⟨g, j * 6, none⟩ c0).setCell ⟨g, j * 6 + 1, none⟩ c1).setCell ⟨g, j * 6 + 2, none⟩ c2).setCell ⟨g, j * 6 + 3, none⟩ c3).setCell ⟨g, j * 6 + 4, none⟩ c4).setCell ⟨g, j * 6 + 5, none⟩ c5) = W at *
  refine ⟨fun i hi hij => ?_, ⟨arr', e1, by omega⟩, hBl⟩
  by_cases hij' : i < j
  · obtain ⟨cs, r, hl, lies⟩ := h i hi hij'
    refine ⟨cs, fun q u hu => ?_, hl, V.lies_keep (fun h => h) (fun x hx => e5 x (by have := hx.1; omega)) (fun x hx => ⟨hx.1, by rw [e6]; exact hx.2⟩) _ lies⟩
    have := r q u hu
    have hq : q < 6 := by
      rcases Nat.lt_or_ge q 6 with h | h
      · exact h
      · rw [List.getElem?_eq_none (by omega)] at hu; cases hu
    rw [cell_of_block h1] at this
    rw [cell_of_block e1, e3 _ (by omega)]
    exact this
  · obtain rfl : i = j := by omega
    exact ⟨_, e4, rfl, V.lies_keep (fun h => h) (fun x hx => e5 x (by have := hx.1; omega)) (fun x hx => ⟨hx.1, by rw [e6]; exact hx.2⟩) _ hv⟩
set_option maxHeartbeats 4000000 in
set_option maxRecDepth 100000 in
theorem anewL_any (l : List V) (R : Bool) (S : Nat → Prop) (al : Option Addr) (cl bl ol : Nat) (w : World) (hal : Headed al l.length cl bl ol) (hl : liesL R w S l bl ol) (hS : ∀ b, S b → b < w.heap.size) (hwt : wtL l ≤ 1099511627776)
    (ih : ∀ (j : Nat) (h : j < l.length) (cs : List Value) (W : World), (l[j]).lies R W S cs → (∀ b, S b → b < W.heap.size) → Calls Tryd.prog 19 #[.agg cs.toArray] W (AnPost l[j] W)) :
    Calls Tryd.prog 27 #[.slice al l.length cl] w (AnLPost l w) := by
  have HL : Hid (liesL R w S l bl ol) := hl
  have IH : Hid _ := ih
  clear hl ih
  have hlen := wtL_len l
  obtain ⟨i0, hi0, hz0, hz1, hz2⟩ := info_parts info25
  have hmk : ∀ W, (Instr.makeSlice 22 (.int .i64 (l.length : Int)) (.int .i64 (l.length : Int))).run Tryd.prog W = .ok (.slice (some ⟨W.heap.size, 0, none⟩) l.length l.length) (W.alloc (.cells (madeCells #[.int .i64 0, .bool false, .int .i64 0, .string ⟨#[]⟩, .slice none 0 0, .slice none 0 0] (l.length * 6)) 25)) := fun W => by
    have h := run_make (P := Tryd.prog) W 22 25 i0 _ Tryd.underlying22 hi0 hz0 .i64 .i64 (l.length : Int) (l.length : Int) (by omega) (by omega) (by rw [hz2]; omega) (by omega)
    rw [hz1] at h
    simpa [Value.cells] using h
  have hzm := alloc_size w (.cells (madeCells #[.int .i64 0, .bool false, .int .i64 0, .string ⟨#[]⟩, .slice none 0 0, .slice none 0 0] (l.length * 6)) 25)
  have B0 : Below w.heap.size w (w.alloc (.cells (madeCells #[.int .i64 0, .bool false, .int .i64 0, .string ⟨#[]⟩, .slice none 0 0, .slice none 0 0] (l.length * 6)) 25)) := (Below.refl _ _).alloc (Nat.le_refl _) _
  have K0 : Blk w.heap.size 25 (l.length * 6) (w.alloc (.cells (madeCells #[.int .i64 0, .bool false, .int .i64 0, .string ⟨#[]⟩, .slice none 0 0, .slice none 0 0] (l.length * 6)) 25)) := ⟨_, heap_alloc_new w _, size_madeCells _ _⟩
  clear hi0 hz0 hz1 hz2
  go_enter Tryd.func27, Tryd.ntmps27
  go_wp2_with fail
  clear hmk
  generalize (w.alloc (.cells (madeCells #[.int .i64 0, .bool false, .int .i64 0, .string ⟨#[]⟩, .slice none 0 0, .slice none 0 0] (l.length * 6)) 25)) = w0 at *
  go_loopw [11] (fun e wr => ∃ j : Nat, j ≤ l.length ∧ e = .int .i64 (j : Int) ∧ w0.heap.size ≤ wr.heap.size ∧ Hid (RowsL l j w.heap.size wr) ∧ Hid (Blk w.heap.size 25 (l.length * 6) wr) ∧ Below w.heap.size w wr) (fun e _ => l.length - (RowKit.intOf e).toNat)
  case atStart => exact ⟨0, by omega, rfl, by omega, (fun i hi hij => by omega), K0, B0⟩
  case round =>
    clear K0 B0
    obtain ⟨j, hj, rfl, hzr, HR, HK, bj⟩ := hrel
    by_cases hjl : j < l.length
    · have y1 : (j : Int) < l.length := by omega
      obtain ⟨hSb, csj, hrow, hlj⟩ := liesL_get HL.out j hjl
      obtain rfl : al = some ⟨bl, ol, none⟩ := hal.at_.resolve_left (by omega)
      have hkw : ∀ x, S x → wr.heap[x]? = w.heap[x]? := fun x hx => bj.block x (hS x hx)
      have hlj0 := hlj
      obtain ⟨ek, eb, ei, es, eal, enl, ecl, eam, enm, ecm, rfl⟩ := V.ten hlj
      obtain ⟨q0, q1, q2, q3, q4, q5⟩ := row6 (hrow.keep (hkw _ hSb))
      have hza := alloc_size wr (.cells #[.int .i64 ek, .bool eb, .int .i64 ei, .string es, .slice eal enl ecl, .slice eam enm ecm] 25)
      have ba : Below wr.heap.size wr (wr.alloc (.cells #[.int .i64 ek, .bool eb, .int .i64 ei, .string es, .slice eal enl ecl, .slice eam enm ecm] 25)) := (Below.refl _ _).alloc (Nat.le_refl _) _
      have hc := IH.out j hjl _ (wr.alloc (.cells #[.int .i64 ek, .bool eb, .int .i64 ei, .string es, .slice eal enl ecl, .slice eam enm ecm] 25)) (V.lies_keep (fun h => h) (fun x hx => (ba.block x (by have := hS x hx; omega)).trans (hkw x hx)) (fun _ h => h) _ hlj0) (fun x hx => by have := hS x hx; omega)
      have HR1 : Hid (RowsL l j w.heap.size (wr.alloc (.cells #[.int .i64 ek, .bool eb, .int .i64 ei, .string es, .slice eal enl ecl, .slice eam enm ecm] 25))) := HR.out.below (by omega) ba
      have HK1 : Hid (Blk w.heap.size 25 (l.length * 6) (wr.alloc (.cells #[.int .i64 ek, .bool eb, .int .i64 ei, .string es, .slice eal enl ecl, .slice eam enm ecm] 25))) := HK.out.keep (ba.block _ (by omega))
      have B1 : Below w.heap.size w (wr.alloc (.cells #[.int .i64 ek, .bool eb, .int .i64 ei, .string es, .slice eal enl ecl, .slice eam enm ecm] 25)) := bj.trans (ba.mono (by omega))
      clear hlj hlj0 hrow hkw HR HK
      go_wp2_with fail
      generalize (wr.alloc (.cells #[.int .i64 ek, .bool eb, .int .i64 ei, .string es, .slice eal enl ecl, .slice eam enm ecm] 25)) = wa at *
      refine hc.mono ?_
      rintro e w3 ⟨csu, rfl, hlu, b3⟩
      obtain ⟨uk, ub, ui, us, ual, unl, ucl, uam, unm, ucm, rfl⟩ := V.ten hlu
      have hz3 := b3.size
      have HK3 : Blk w.heap.size 25 (l.length * 6) w3 := HK1.out.keep (b3.block _ (by omega))
      have HR3 := HR1.out.below (by omega) b3
      have B3 := B1.trans (b3.mono (by omega))
      have hlu3 : (l[j]).lies false w3 (fun x => w.heap.size < x ∧ x < w3.heap.size) [.int .i64 uk, .bool ub, .int .i64 ui, .string us, .slice ual unl ucl, .slice uam unm ucm] := V.lies_keep (fun h => h) (fun _ _ => rfl) (fun x hx => ⟨by have := hx.1; omega, hx.2⟩) _ hlu
      have HS : Hid _ := HR3.store HK3 hjl (by omega) hlu3 B3 (Nat.le_refl _)
      obtain ⟨v0, k0⟩ := HK3.cell (j * 6) (by omega)
      obtain ⟨v1, k1⟩ := HK3.cell (j * 6 + 1) (by omega)
      obtain ⟨v2, k2⟩ := HK3.cell (j * 6 + 2) (by omega)
      obtain ⟨v3, k3⟩ := HK3.cell (j * 6 + 3) (by omega)
      obtain ⟨v4, k4⟩ := HK3.cell (j * 6 + 4) (by omega)
      obtain ⟨v5, k5⟩ := HK3.cell (j * 6 + 5) (by omega)
      have kf := HK3.frozen
      clear hlu hlu3 HR3 HK3 HR1 HK1 B3 B1 b3 q0 q1 q2 q3 q4 q5 hc ba
      go_wp2_with fail
      go_roundw
      case rel => exact ⟨j + 1, by omega, by go_num, by simp [size_set1]; omega, HS.out.1, HS.out.2.1, HS.out.2.2⟩
      case measure => simp [RowKit.intOf]; omega
    · obtain rfl : j = l.length := by omega
      have y1 : ¬ (l.length : Int) < l.length := by omega
      have HF : Hid (liesL false wr (New w wr) l w.heap.size 0) := liesL_mk fun i hi => by
        obtain ⟨cs, r, _, lies⟩ := HR.out i hi hi
        exact ⟨⟨Nat.le_refl _, by omega⟩, cs, by rw [Nat.zero_add]; exact r, V.lies_keep (fun h => h) (fun _ _ => rfl) (fun x hx => ⟨by have := hx.1; omega, hx.2⟩) _ lies⟩
      clear HR HK
      go_wp2_with fail
      go_ret
      exact ⟨w.heap.size, rfl, HF.out, bj⟩
end Go.Proofs.YtmmlejbebfkojaaDoor
