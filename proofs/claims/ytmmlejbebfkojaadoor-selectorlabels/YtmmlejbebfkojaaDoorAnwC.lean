import Derived.Test.YtmmlejbebfkojaaDoorAnwB
/- value.anewMap. -/
set_option linter.unusedSimpArgs false
set_option linter.unusedVariables false
namespace Go.Proofs.YtmmlejbebfkojaaDoor
open Go.RowKit Go.Lib
/-- the rows that stand so far in the block g -/
def RowsM (l : List Mem) (j g : Nat) (w : World) : Prop := ∀ (i : Nat) (h : i < l.length), i < j → ∃ cs, rowAt w g (i * 7) (.string (l[i]).1 :: cs) ∧ cs.length = 6 ∧ (l[i]).1.size ≤ maxLen ∧ (l[i]).2.lies false w (fun x => g < x ∧ x < w.heap.size) cs
theorem RowsM.below {l : List Mem} {j g : Nat} {w w' : World} (h : RowsM l j g w) (hg : g < w.heap.size) (hb : Below w.heap.size w w') : RowsM l j g w' := fun i hi hij => by
  obtain ⟨cs, r, hl, hks, lies⟩ := h i hi hij
  exact ⟨cs, r.keep (hb.block g hg), hl, hks, V.lies_keep (fun h => h) (fun x hx => hb.block x hx.2) (fun x hx => ⟨hx.1, Nat.lt_of_lt_of_le hx.2 hb.size⟩) _ lies⟩
/-- one row more -/
theorem RowsM.store {l : List Mem} {j g n : Nat} {w w3 : World} (h : RowsM l j g w3) (hB : Blk g 32 n w3) (hj : j < l.length) (hn : j * 7 + 7 ≤ n) {c1 c2 c3 c4 c5 c6 : Value} (hks : (l[j]).1.size ≤ maxLen) (hv : (l[j]).2.lies false w3 (fun x => g < x ∧ x < w3.heap.size) [c1, c2, c3, c4, c5, c6]) (hw : Below w.heap.size w w3) (hg : w.heap.size ≤ g) :
    RowsM l (j + 1) g (((((((w3.setCell ⟨g, j * 7, none⟩ (.string (l[j]).1)).setCell ⟨g, j * 7 + 1, none⟩ c1).setCell ⟨g, j * 7 + 2, none⟩ c2).setCell ⟨g, j * 7 + 3, none⟩ c3).setCell ⟨g, j * 7 + 4, none⟩ c4).setCell ⟨g, j * 7 + 5, none⟩ c5).setCell ⟨g, j * 7 + 6, none⟩ c6) ∧
    Blk g 32 n (((((((w3.setCell ⟨g, j * 7, none⟩ (.string (l[j]).1)).setCell ⟨g, j * 7 + 1, none⟩ c1).setCell ⟨g, j * 7 + 2, none⟩ c2).setCell ⟨g, j * 7 + 3, none⟩ c3).setCell ⟨g, j * 7 + 4, none⟩ c4).setCell ⟨g, j * 7 + 5, none⟩ c5).setCell ⟨g, j * 7 + 6, none⟩ c6) ∧
    Below w.heap.size w (((((((w3.setCell ⟨g, j * 7, none⟩ (.string (l[j]).1)).setCell ⟨g, j * 7 + 1, none⟩ c1).setCell ⟨g, j * 7 + 2, none⟩ c2).setCell ⟨g, j * 7 + 3, none⟩ c3).setCell ⟨g, j * 7 + 4, none⟩ c4).setCell ⟨g, j * 7 + 5, none⟩ c5).setCell ⟨g, j * 7 + 6, none⟩ c6) := by
  obtain ⟨arr, h1, h2⟩ := hB
  obtain ⟨arr', e1, e2, e3, e4, e5, e6⟩ := set7_row h1 (o := j * 7) (by omega) (.string (l[j]).1) c1 c2 c3 c4 c5 c6
  have hBl : Below w.heap.size w (((((((w3.setCell ⟨g, j * 7, none⟩ (.string (l[j]).1)).setCell ⟨g, j * 7 + 1, none⟩ c1).setCell ⟨g, j * 7 + 2, none⟩ c2).setCell ⟨g, j * 7 + 3, none⟩ c3).setCell ⟨g, j * 7 + 4, none⟩ c4).setCell ⟨g, j * 7 + 5, none⟩ c5).setCell ⟨g, j * 7 + 6, none⟩ c6) := by
    repeat (refine Below.setCell ?_ (by assumption) _)
    exact hw
  generalize (((((((w3.setCell ⟨g, j * 7, none⟩ (.string (l[j]).1)).setCell ⟨g, j * 7 + 1, none⟩ c1).setCell ⟨g, j * 7 + 2, none⟩ c2).setCell ⟨g, j * 7 + 3, none⟩ c3).setCell ⟨g, j * 7 + 4, none⟩ c4).setCell ⟨g, j * 7 + 5, none⟩ c5).setCell ⟨g, j * 7 + 6, none⟩ c6) = W at *
  refine ⟨fun i hi hij => ?_, ⟨arr', e1, by omega⟩, hBl⟩
  by_cases hij' : i < j
  · obtain ⟨cs, r, hl, hks', lies⟩ := h i hi hij'
    refine ⟨cs, fun q u hu => ?_, hl, hks', V.lies_keep (fun h => h) (fun x hx => e5 x (by have := hx.1; omega)) (fun x hx => ⟨hx.1, by rw [e6]; exact hx.2⟩) _ lies⟩
    have := r q u hu
    have hq : q < 7 := by
      rcases Nat.lt_or_ge q 7 with h | h
      · exact h
      · rw [List.getElem?_eq_none (by simp; omega)] at hu; cases hu
    rw [cell_of_block h1] at this
    rw [cell_of_block e1, e3 _ (by omega)]
    exact this
  · obtain rfl : i = j := by omega
    exact ⟨_, e4, rfl, hks, V.lies_keep (fun h => h) (fun x hx => e5 x (by have := hx.1; omega)) (fun x hx => ⟨hx.1, by rw [e6]; exact hx.2⟩) _ hv⟩
set_option maxHeartbeats 1600000 in
set_option maxRecDepth 100000 in
theorem anewM_any (l : List Mem) (R : Bool) (S : Nat → Prop) (al : Option Addr) (cl bl ol : Nat) (w : World) (hal : Headed al l.length cl bl ol) (hl : liesM R w S l bl ol) (hS : ∀ b, S b → b < w.heap.size) (hwt : wtM l ≤ 1099511627776)
    (ih : ∀ (j : Nat) (h : j < l.length) (cs : List Value) (W : World), (l[j]).2.lies R W S cs → (∀ b, S b → b < W.heap.size) → Calls Tryd.prog 19 #[.agg cs.toArray] W (AnPost (l[j]).2 W)) :
    Calls Tryd.prog 28 #[.slice al l.length cl] w (AnMPost l w) := by
  have HL : Hid (liesM R w S l bl ol) := hl
  have IH : Hid _ := ih
  clear hl ih
  have hlen := wtM_len l
  obtain ⟨i0, hi0, hz0, hz1, hz2⟩ := info_parts info44
  have hmk : ∀ W, (Instr.makeSlice 23 (.int .i64 (l.length : Int)) (.int .i64 (l.length : Int))).run Tryd.prog W = .ok (.slice (some ⟨W.heap.size, 0, none⟩) l.length l.length) (W.alloc (.cells (madeCells #[.string ⟨#[]⟩, .int .i64 0, .bool false, .int .i64 0, .string ⟨#[]⟩, .slice none 0 0, .slice none 0 0] (l.length * 7)) 32)) := fun W => by
    have h := run_make (P := Tryd.prog) W 23 32 i0 _ Tryd.underlying23 hi0 hz0 .i64 .i64 (l.length : Int) (l.length : Int) (by omega) (by omega) (by rw [hz2]; omega) (by omega)
    rw [hz1] at h
    simpa [Value.cells] using h
  have hzm := alloc_size w (.cells (madeCells #[.string ⟨#[]⟩, .int .i64 0, .bool false, .int .i64 0, .string ⟨#[]⟩, .slice none 0 0, .slice none 0 0] (l.length * 7)) 32)
  have B0 : Below w.heap.size w (w.alloc (.cells (madeCells #[.string ⟨#[]⟩, .int .i64 0, .bool false, .int .i64 0, .string ⟨#[]⟩, .slice none 0 0, .slice none 0 0] (l.length * 7)) 32)) := (Below.refl _ _).alloc (Nat.le_refl _) _
  have K0 : Blk w.heap.size 32 (l.length * 7) (w.alloc (.cells (madeCells #[.string ⟨#[]⟩, .int .i64 0, .bool false, .int .i64 0, .string ⟨#[]⟩, .slice none 0 0, .slice none 0 0] (l.length * 7)) 32)) := ⟨_, heap_alloc_new w _, size_madeCells _ _⟩
  clear hi0 hz0 hz1 hz2
  go_enter Tryd.func28, Tryd.ntmps28
  go_wp2_with fail
  clear hmk
  generalize (w.alloc (.cells (madeCells #[.string ⟨#[]⟩, .int .i64 0, .bool false, .int .i64 0, .string ⟨#[]⟩, .slice none 0 0, .slice none 0 0] (l.length * 7)) 32)) = w0 at *
  go_loopw [11] (fun e wr => ∃ j : Nat, j ≤ l.length ∧ e = .int .i64 (j : Int) ∧ w0.heap.size ≤ wr.heap.size ∧ Hid (RowsM l j w.heap.size wr) ∧ Hid (Blk w.heap.size 32 (l.length * 7) wr) ∧ Below w.heap.size w wr) (fun e _ => l.length - (RowKit.intOf e).toNat)
  case atStart => exact ⟨0, by omega, rfl, by omega, (fun i hi hij => by omega), K0, B0⟩
  case round =>
    clear K0 B0
    obtain ⟨j, hj, rfl, hzr, HR, HK, bj⟩ := hrel
    by_cases hjl : j < l.length
    · have y1 : (j : Int) < l.length := by omega
      obtain ⟨hSb, hks, csj, hrow, hlj⟩ := liesM_get HL.out j hjl
      obtain rfl : al = some ⟨bl, ol, none⟩ := hal.at_.resolve_left (by omega)
      have hkw : ∀ x, S x → wr.heap[x]? = w.heap[x]? := fun x hx => bj.block x (hS x hx)
      have hlj0 := hlj
      obtain ⟨ek, eb, ei, es, eal, enl, ecl, eam, enm, ecm, rfl⟩ := V.ten hlj
      obtain ⟨ekey, hek⟩ : ∃ ekey, (l[j]).1 = ekey := ⟨_, rfl⟩
      rw [hek] at hrow
      obtain ⟨q, q0, q1, q2, q3, q4, q5⟩ := row7 (hrow.keep (hkw _ hSb))
      have hza := alloc_size wr (.cells #[.string ekey, .int .i64 ek, .bool eb, .int .i64 ei, .string es, .slice eal enl ecl, .slice eam enm ecm] 32)
      have ba : Below wr.heap.size wr (wr.alloc (.cells #[.string ekey, .int .i64 ek, .bool eb, .int .i64 ei, .string es, .slice eal enl ecl, .slice eam enm ecm] 32)) := (Below.refl _ _).alloc (Nat.le_refl _) _
      have hr7 := box_row wr [.string ekey, .int .i64 ek, .bool eb, .int .i64 ei, .string es, .slice eal enl ecl, .slice eam enm ecm] 32
      have HC : Hid (∀ W, Below (wr.alloc (.cells #[.string ekey, .int .i64 ek, .bool eb, .int .i64 ei, .string es, .slice eal enl ecl, .slice eam enm ecm] 32)).heap.size (wr.alloc (.cells #[.string ekey, .int .i64 ek, .bool eb, .int .i64 ei, .string es, .slice eal enl ecl, .slice eam enm ecm] 32)) W → Calls Tryd.prog 19 #[.agg #[.int .i64 ek, .bool eb, .int .i64 ei, .string es, .slice eal enl ecl, .slice eam enm ecm]] W (AnPost (l[j]).2 W)) := fun W hb =>
        IH.out j hjl _ W (V.lies_keep (fun h => h) (fun x hx => (hb.block x (by have := hS x hx; omega)).trans ((ba.block x (by have := hS x hx; omega)).trans (hkw x hx))) (fun _ h => h) _ hlj0) (fun x hx => by have := hS x hx; have := hb.size; omega)
      have HR1 : Hid (RowsM l j w.heap.size (wr.alloc (.cells #[.string ekey, .int .i64 ek, .bool eb, .int .i64 ei, .string es, .slice eal enl ecl, .slice eam enm ecm] 32))) := HR.out.below (by omega) ba
      have HK1 : Hid (Blk w.heap.size 32 (l.length * 7) (wr.alloc (.cells #[.string ekey, .int .i64 ek, .bool eb, .int .i64 ei, .string es, .slice eal enl ecl, .slice eam enm ecm] 32))) := HK.out.keep (ba.block _ (by omega))
      have B1 : Below w.heap.size w (wr.alloc (.cells #[.string ekey, .int .i64 ek, .bool eb, .int .i64 ei, .string es, .slice eal enl ecl, .slice eam enm ecm] 32)) := bj.trans (ba.mono (by omega))
      clear hlj hlj0 hrow hkw HR HK
      go_wp2_with fail
      clear q q0 q1 q2 q3 q4 q5
      generalize (wr.alloc (.cells #[.string ekey, .int .i64 ek, .bool eb, .int .i64 ei, .string es, .slice eal enl ecl, .slice eam enm ecm] 32)) = wa at *
      have KP : Hid (∀ W', Below wa.heap.size wa W' → W'.cell? ⟨wr.heap.size, 0, none⟩ = some (.string ekey) ∧ W'.cell? ⟨wr.heap.size, 1, none⟩ = some (.int .i64 ek) ∧ W'.cell? ⟨wr.heap.size, 2, none⟩ = some (.bool eb) ∧ W'.cell? ⟨wr.heap.size, 3, none⟩ = some (.int .i64 ei) ∧ W'.cell? ⟨wr.heap.size, 4, none⟩ = some (.string es) ∧ W'.cell? ⟨wr.heap.size, 5, none⟩ = some (.slice eal enl ecl) ∧ W'.cell? ⟨wr.heap.size, 6, none⟩ = some (.slice eam enm ecm)) := fun W' hb => by
        obtain ⟨m, m0, m1, m2, m3, m4, m5⟩ := row7 (hr7.keep (hb.block _ (by omega)))
        simp only [Nat.zero_add] at m m0 m1 m2 m3 m4 m5
        exact ⟨m, m0, m1, m2, m3, m4, m5⟩
      have hne : wr.heap.size ≠ w.heap.size := by omega
      have KS : Hid (∀ W0 a0 a1 a2 a3 a4 a5 a6, Below wa.heap.size wa W0 → (((((((W0.setCell ⟨w.heap.size, j * 7, none⟩ a0).setCell ⟨w.heap.size, j * 7 + 1, none⟩ a1).setCell ⟨w.heap.size, j * 7 + 2, none⟩ a2).setCell ⟨w.heap.size, j * 7 + 3, none⟩ a3).setCell ⟨w.heap.size, j * 7 + 4, none⟩ a4).setCell ⟨w.heap.size, j * 7 + 5, none⟩ a5).setCell ⟨w.heap.size, j * 7 + 6, none⟩ a6).cell? ⟨wr.heap.size, 0, none⟩ = some (.string ekey) ∧ (((((((W0.setCell ⟨w.heap.size, j * 7, none⟩ a0).setCell ⟨w.heap.size, j * 7 + 1, none⟩ a1).setCell ⟨w.heap.size, j * 7 + 2, none⟩ a2).setCell ⟨w.heap.size, j * 7 + 3, none⟩ a3).setCell ⟨w.heap.size, j * 7 + 4, none⟩ a4).setCell ⟨w.heap.size, j * 7 + 5, none⟩ a5).setCell ⟨w.heap.size, j * 7 + 6, none⟩ a6).cell? ⟨wr.heap.size, 1, none⟩ = some (.int .i64 ek) ∧ (((((((W0.setCell ⟨w.heap.size, j * 7, none⟩ a0).setCell ⟨w.heap.size, j * 7 + 1, none⟩ a1).setCell ⟨w.heap.size, j * 7 + 2, none⟩ a2).setCell ⟨w.heap.size, j * 7 + 3, none⟩ a3).setCell ⟨w.heap.size, j * 7 + 4, none⟩ a4).setCell ⟨w.heap.size, j * 7 + 5, none⟩ a5).setCell ⟨w.heap.size, j * 7 + 6, none⟩ a6).cell? ⟨wr.heap.size, 2, none⟩ = some (.bool eb) ∧ (((((((W0.setCell ⟨w.heap.size, j * 7, none⟩ a0).setCell ⟨w.heap.size, j * 7 + 1, none⟩ a1).setCell ⟨w.heap.size, j * 7 + 2, none⟩ a2).setCell ⟨w.heap.size, j * 7 + 3, none⟩ a3).setCell ⟨w.heap.size, j * 7 + 4, none⟩ a4).setCell ⟨w.heap.size, j * 7 + 5, none⟩ a5).setCell ⟨w.heap.size, j * 7 + 6, none⟩ a6).cell? ⟨wr.heap.size, 3, none⟩ = some (.int .i64 ei) ∧ (((((((W0.setCell ⟨w.heap.size, j * 7, none⟩ a0).setCell ⟨w.heap.size, j * 7 + 1, none⟩ a1).setCell ⟨w.heap.size, j * 7 + 2, none⟩ a2).setCell ⟨w.heap.size, j * 7 + 3, none⟩ a3).setCell ⟨w.heap.size, j * 7 + 4, none⟩ a4).setCell ⟨w.heap.size, j * 7 + 5, none⟩ a5).setCell ⟨w.heap.size, j * 7 + 6, none⟩ a6).cell? ⟨wr.heap.size, 4, none⟩ = some (.string es) ∧ (((((((W0.setCell ⟨w.heap.size, j * 7, none⟩ a0).setCell ⟨w.heap.size, j * 7 + 1, none⟩ a1).setCell ⟨w.heap.size, j * 7 + 2, none⟩ a2).setCell ⟨w.heap.size, j * 7 + 3, none⟩ a3).setCell ⟨w.heap.size, j * 7 + 4, none⟩ a4).setCell ⟨w.heap.size, j * 7 + 5, none⟩ a5).setCell ⟨w.heap.size, j * 7 + 6, none⟩ a6).cell? ⟨wr.heap.size, 5, none⟩ = some (.slice eal enl ecl) ∧ (((((((W0.setCell ⟨w.heap.size, j * 7, none⟩ a0).setCell ⟨w.heap.size, j * 7 + 1, none⟩ a1).setCell ⟨w.heap.size, j * 7 + 2, none⟩ a2).setCell ⟨w.heap.size, j * 7 + 3, none⟩ a3).setCell ⟨w.heap.size, j * 7 + 4, none⟩ a4).setCell ⟨w.heap.size, j * 7 + 5, none⟩ a5).setCell ⟨w.heap.size, j * 7 + 6, none⟩ a6).cell? ⟨wr.heap.size, 6, none⟩ = some (.slice eam enm ecm)) := fun W0 a0 a1 a2 a3 a4 a5 a6 hb => by
        have K := KP.out W0 hb
        simp only [cell_set_ne hne]
        exact K
      have BD : Hid (Below wa.heap.size wa wa.drew) := (Below.refl _ _).drew
      have h7 : Hid (w.heap.size < wa.heap.size ∧ wr.heap.size < wa.heap.size) := ⟨by omega, by omega⟩
      have HF3 : Hid (∀ (w3 : World) (uk : Int) (ub : Bool) (ui : Int) (us : ByteArray) (ual : Option Addr) (unl ucl : Nat) (uam : Option Addr) (unm ucm : Nat), Below wa.heap.size wa w3 → (l[j]).2.lies false w3 (New wa w3) [.int .i64 uk, .bool ub, .int .i64 ui, .string us, .slice ual unl ucl, .slice uam unm ucm] → (RowsM l (j + 1) w.heap.size (((((((w3.setCell ⟨w.heap.size, j * 7, none⟩ (.string (l[j]).1)).setCell ⟨w.heap.size, j * 7 + 1, none⟩ (.int .i64 uk)).setCell ⟨w.heap.size, j * 7 + 2, none⟩ (.bool ub)).setCell ⟨w.heap.size, j * 7 + 3, none⟩ (.int .i64 ui)).setCell ⟨w.heap.size, j * 7 + 4, none⟩ (.string us)).setCell ⟨w.heap.size, j * 7 + 5, none⟩ (.slice ual unl ucl)).setCell ⟨w.heap.size, j * 7 + 6, none⟩ (.slice uam unm ucm)) ∧ Blk w.heap.size 32 (l.length * 7) (((((((w3.setCell ⟨w.heap.size, j * 7, none⟩ (.string (l[j]).1)).setCell ⟨w.heap.size, j * 7 + 1, none⟩ (.int .i64 uk)).setCell ⟨w.heap.size, j * 7 + 2, none⟩ (.bool ub)).setCell ⟨w.heap.size, j * 7 + 3, none⟩ (.int .i64 ui)).setCell ⟨w.heap.size, j * 7 + 4, none⟩ (.string us)).setCell ⟨w.heap.size, j * 7 + 5, none⟩ (.slice ual unl ucl)).setCell ⟨w.heap.size, j * 7 + 6, none⟩ (.slice uam unm ucm)) ∧ Below w.heap.size w (((((((w3.setCell ⟨w.heap.size, j * 7, none⟩ (.string (l[j]).1)).setCell ⟨w.heap.size, j * 7 + 1, none⟩ (.int .i64 uk)).setCell ⟨w.heap.size, j * 7 + 2, none⟩ (.bool ub)).setCell ⟨w.heap.size, j * 7 + 3, none⟩ (.int .i64 ui)).setCell ⟨w.heap.size, j * 7 + 4, none⟩ (.string us)).setCell ⟨w.heap.size, j * 7 + 5, none⟩ (.slice ual unl ucl)).setCell ⟨w.heap.size, j * 7 + 6, none⟩ (.slice uam unm ucm))) ∧ Blk w.heap.size 32 (l.length * 7) w3) := fun w3 uk ub ui us ual unl ucl uam unm ucm b3 hlu => by
        have hz3 := b3.size
        have HK3 : Blk w.heap.size 32 (l.length * 7) w3 := HK1.out.keep (b3.block _ (by omega))
        have HR3 := HR1.out.below (by omega) b3
        have B3 := B1.trans (b3.mono (by omega))
        have hlu3 : (l[j]).2.lies false w3 (fun x => w.heap.size < x ∧ x < w3.heap.size) [.int .i64 uk, .bool ub, .int .i64 ui, .string us, .slice ual unl ucl, .slice uam unm ucm] := V.lies_keep (fun h => h) (fun _ _ => rfl) (fun x hx => ⟨by have := hx.1; omega, hx.2⟩) _ hlu
        exact ⟨HR3.store HK3 hjl (by omega) hks hlu3 B3 (Nat.le_refl _), HK3⟩
      clear HR1 HK1 B1 hr7 ba
      refine wp_region_held_drew (S := (fun W' => W'.cell? ⟨wr.heap.size, 0, none⟩ = some (.string ekey) ∧ W'.cell? ⟨wr.heap.size, 1, none⟩ = some (.int .i64 ek) ∧ W'.cell? ⟨wr.heap.size, 2, none⟩ = some (.bool eb) ∧ W'.cell? ⟨wr.heap.size, 3, none⟩ = some (.int .i64 ei) ∧ W'.cell? ⟨wr.heap.size, 4, none⟩ = some (.string es) ∧ W'.cell? ⟨wr.heap.size, 5, none⟩ = some (.slice eal enl ecl) ∧ W'.cell? ⟨wr.heap.size, 6, none⟩ = some (.slice eam enm ecm))) (by kernel_rfl) (KP.out _ BD.out) (fun hHeld => ?_)
      (refine wpAnyH_take (i := 0) (v := ?_) rfl (by kernel_rfl) (by kernel_rfl) (by kernel_rfl) (fun _ _ _ h => h) (Or.inl ⟨by rfl, ?_⟩) (by assumption) ?_; rotate_left 1; (intro W0 hSw; (try dsimp only at hSw); go_simp; (try with_reducible rfl)); (try simp only [Act.put, List.setIfInBounds_toArray, List.set_cons_zero, List.set_cons_succ]))
      (refine wpAnyH_take (i := 1) (v := ?_) rfl (by kernel_rfl) (by kernel_rfl) (by kernel_rfl) (fun _ _ _ h => h) (Or.inl ⟨by rfl, ?_⟩) (by assumption) ?_; rotate_left 1; (intro W0 hSw; (try dsimp only at hSw); go_simp; (try with_reducible rfl)); (try simp only [Act.put, List.setIfInBounds_toArray, List.set_cons_zero, List.set_cons_succ]))
      (refine wpAnyH_take (i := 2) (v := ?_) rfl (by kernel_rfl) (by kernel_rfl) (by kernel_rfl) (fun _ _ _ h => h) (Or.inl ⟨by rfl, ?_⟩) (by assumption) ?_; rotate_left 1; (intro W0 hSw; (try dsimp only at hSw); go_simp; (try with_reducible rfl)); (try simp only [Act.put, List.setIfInBounds_toArray, List.set_cons_zero, List.set_cons_succ]))
      (refine wpAnyH_take (i := 3) (v := ?_) rfl (by kernel_rfl) (by kernel_rfl) (by kernel_rfl) (fun _ _ _ h => h) (Or.inl ⟨by rfl, ?_⟩) (by assumption) ?_; rotate_left 1; (intro W0 hSw; (try dsimp only at hSw); go_simp; (try with_reducible rfl)); (try simp only [Act.put, List.setIfInBounds_toArray, List.set_cons_zero, List.set_cons_succ]))
      (refine wpAnyH_take (i := 4) (v := ?_) rfl (by kernel_rfl) (by kernel_rfl) (by kernel_rfl) (fun _ _ _ h => h) (Or.inl ⟨by rfl, ?_⟩) (by assumption) ?_; rotate_left 1; (intro W0 hSw; (try dsimp only at hSw); go_simp; (try with_reducible rfl)); (try simp only [Act.put, List.setIfInBounds_toArray, List.set_cons_zero, List.set_cons_succ]))
      (refine wpAnyH_take (i := 5) (v := ?_) rfl (by kernel_rfl) (by kernel_rfl) (by kernel_rfl) (fun _ _ _ h => h) (Or.inl ⟨by rfl, ?_⟩) (by assumption) ?_; rotate_left 1; (intro W0 hSw; (try dsimp only at hSw); go_simp; (try with_reducible rfl)); (try simp only [Act.put, List.setIfInBounds_toArray, List.set_cons_zero, List.set_cons_succ]))
      refine wpAnyH_ready (rs := [6]) (by kernel_rfl) (by simp) ?_
      refine AllReadyH.cons rfl (fun K hK => ?_) AllReadyH.nil
      go_simp
      refine (HC.out wa.drew BD.out).mono ?_
      rintro e w3 ⟨csu, rfl, hlu, b3'⟩
      have b3 : Hid (Below wa.heap.size wa w3) := BD.out.trans b3'
      clear b3'
      obtain ⟨uk, ub, ui, us, ual, unl, ucl, uam, unm, ucm, rfl⟩ := V.ten hlu
      have HX : Hid _ := HF3.out w3 uk ub ui us ual unl ucl uam unm ucm b3.out hlu
      clear hlu
      obtain ⟨v0, k0⟩ := HX.out.2.cell (j * 7) (by omega)
      obtain ⟨v1, k1⟩ := HX.out.2.cell (j * 7 + 1) (by omega)
      obtain ⟨v2, k2⟩ := HX.out.2.cell (j * 7 + 2) (by omega)
      obtain ⟨v3, k3⟩ := HX.out.2.cell (j * 7 + 3) (by omega)
      obtain ⟨v4, k4⟩ := HX.out.2.cell (j * 7 + 4) (by omega)
      obtain ⟨v5, k5⟩ := HX.out.2.cell (j * 7 + 5) (by omega)
      obtain ⟨v6, k6⟩ := HX.out.2.cell (j * 7 + 6) (by omega)
      have kf := HX.out.2.frozen
      go_wp2_with fail
      refine hK.out _ _ (KP.out _ b3.out) (fun hHeld => ?_)
      clear hK K
      (try simp only [Act.put, List.setIfInBounds_toArray, List.set_cons_zero, List.set_cons_succ])
      (refine wpAnyH_take (i := 7) (v := ?_) rfl (by kernel_rfl) (by kernel_rfl) (by kernel_rfl) (fun _ _ _ h => h) (Or.inl ⟨by rfl, ?_⟩) (by assumption) ?_; rotate_left 1; (intro W0 hSw; (try dsimp only at hSw); go_simp; (try with_reducible rfl)); (try simp only [Act.put, List.setIfInBounds_toArray, List.set_cons_zero, List.set_cons_succ]))
      (refine wpAnyH_take (i := 8) (v := ?_) rfl (by kernel_rfl) (by kernel_rfl) (by kernel_rfl) (fun _ _ _ h => h) (Or.inl ⟨by rfl, ?_⟩) (by assumption) ?_; rotate_left 1; (intro W0 hSw; (try dsimp only at hSw); go_simp; (try with_reducible rfl)); (try simp only [Act.put, List.setIfInBounds_toArray, List.set_cons_zero, List.set_cons_succ]))
      refine wpAnyH_ready (rs := [9]) (by kernel_rfl) (by simp) ?_
      refine AllReadyH.cons rfl (fun K hK => ?_) AllReadyH.nil
      go_simp
      refine hK.out _ _ (KS.out _ _ _ _ _ _ _ _ b3.out) (fun hHeld => ?_)
      clear hK K
      (try simp only [Act.put, List.setIfInBounds_toArray, List.set_cons_zero, List.set_cons_succ])
      refine wpAnyH_done (by kernel_rfl) ?_ _
      have hz3 := b3.out.size
      have HS := HX.out.1
      rw [hek] at HS
      have HSH : Hid _ := HS
      clear HS HX k0 k1 k2 k3 k4 k5 k6 kf HF3
      go_wp2_with fail
      go_roundw
      case rel => exact ⟨j + 1, by omega, by go_num, by simp [size_set1]; omega, HSH.out.1, HSH.out.2.1, HSH.out.2.2⟩
      case measure => simp [RowKit.intOf]; omega
    · obtain rfl : j = l.length := by omega
      have y1 : ¬ (l.length : Int) < l.length := by omega
      have HF : Hid (liesM false wr (New w wr) l w.heap.size 0) := liesM_mk fun i hi => by
        obtain ⟨cs, r, _, hk2, lies⟩ := HR.out i hi hi
        exact ⟨⟨Nat.le_refl _, by omega⟩, hk2, cs, by rw [Nat.zero_add]; exact r, V.lies_keep (fun h => h) (fun _ _ => rfl) (fun x hx => ⟨by have := hx.1; omega, hx.2⟩) _ lies⟩
      clear HR HK
      go_wp2_with fail
      go_ret
      exact ⟨w.heap.size, rfl, HF.out, bj⟩
end Go.Proofs.YtmmlejbebfkojaaDoor
