import Derived.Test.YthgfomblodhoaaaDoorG29
/- value.anewMap: each list and map in a block of its own. -/
set_option linter.unusedSimpArgs false
set_option linter.unusedVariables false
namespace Go.Proofs.YthgfomblodhoaaaDoor
open Go.RowKit Go.Lib
/-- the rows that stand so far in the block g -/
def RowsC (l : List Mem) (j g : Nat) (w : World) : Prop := ∃ B : Nat → Nat, g < B 0 ∧ (∀ i, i < j → B i ≤ B (i + 1)) ∧ B j ≤ w.heap.size ∧ ∀ (i : Nat) (h : i < l.length), i < j → ∃ cs, rowAt w g (i * 7) (.string (l[i]).1 :: cs) ∧ cs.length = 6 ∧ (l[i]).1.size ≤ maxLen ∧ (l[i]).2.ap w (B i) (B (i + 1)) cs
theorem RowsC.zero {l : List Mem} {g : Nat} {w : World} (h : g < w.heap.size) : RowsC l 0 g w := ⟨fun _ => w.heap.size, h, fun i hi => by omega, Nat.le_refl _, fun i hi h => by omega⟩
theorem RowsC.below {l : List Mem} {j g : Nat} {w w' : World} (h : RowsC l j g w) (hg : g < w.heap.size) (hb : Below w.heap.size w w') : RowsC l j g w' := by
  obtain ⟨B, h0, h1, h2, h3⟩ := h
  refine ⟨B, h0, h1, Nat.le_trans h2 hb.size, fun i hi hij => ?_⟩
  obtain ⟨cs, r, hl, hk, ha⟩ := h3 i hi hij
  exact ⟨cs, r.keep (hb.block g hg), hl, hk, V.ap_keep _ (fun y y1 y2 => hb.block y (by have := rise_le h1 (show i + 1 ≤ j by omega) (Nat.le_refl _); omega)) ha⟩
/-- one row more -/
theorem RowsC.store {l : List Mem} {j g n : Nat} {w wa w3 : World} (h : RowsC l j g wa) (hga : g < wa.heap.size) (hb : Below wa.heap.size wa w3) (hB : Blk g 38 n w3) (hj : j < l.length) (hn : j * 7 + 7 ≤ n) {c1 c2 c3 c4 c5 c6 : Value} (hks : (l[j]).1.size ≤ maxLen) (hv : (l[j]).2.ap w3 wa.heap.size w3.heap.size [c1, c2, c3, c4, c5, c6]) (hw : Below w.heap.size w w3) (hg : w.heap.size ≤ g) :
    RowsC l (j + 1) g (((((((w3.setCell ⟨g, j * 7, none⟩ (.string (l[j]).1)).setCell ⟨g, j * 7 + 1, none⟩ c1).setCell ⟨g, j * 7 + 2, none⟩ c2).setCell ⟨g, j * 7 + 3, none⟩ c3).setCell ⟨g, j * 7 + 4, none⟩ c4).setCell ⟨g, j * 7 + 5, none⟩ c5).setCell ⟨g, j * 7 + 6, none⟩ c6) ∧
    Blk g 38 n (((((((w3.setCell ⟨g, j * 7, none⟩ (.string (l[j]).1)).setCell ⟨g, j * 7 + 1, none⟩ c1).setCell ⟨g, j * 7 + 2, none⟩ c2).setCell ⟨g, j * 7 + 3, none⟩ c3).setCell ⟨g, j * 7 + 4, none⟩ c4).setCell ⟨g, j * 7 + 5, none⟩ c5).setCell ⟨g, j * 7 + 6, none⟩ c6) ∧
    Below w.heap.size w (((((((w3.setCell ⟨g, j * 7, none⟩ (.string (l[j]).1)).setCell ⟨g, j * 7 + 1, none⟩ c1).setCell ⟨g, j * 7 + 2, none⟩ c2).setCell ⟨g, j * 7 + 3, none⟩ c3).setCell ⟨g, j * 7 + 4, none⟩ c4).setCell ⟨g, j * 7 + 5, none⟩ c5).setCell ⟨g, j * 7 + 6, none⟩ c6) := by
  have hs := hb.size
  obtain ⟨arr, k1, k2⟩ := hB
  obtain ⟨arr', e1, e2, e3, e4, e5, e6⟩ := set7_row k1 (o := j * 7) (by omega) (.string (l[j]).1) c1 c2 c3 c4 c5 c6
  have hBl : Below w.heap.size w (((((((w3.setCell ⟨g, j * 7, none⟩ (.string (l[j]).1)).setCell ⟨g, j * 7 + 1, none⟩ c1).setCell ⟨g, j * 7 + 2, none⟩ c2).setCell ⟨g, j * 7 + 3, none⟩ c3).setCell ⟨g, j * 7 + 4, none⟩ c4).setCell ⟨g, j * 7 + 5, none⟩ c5).setCell ⟨g, j * 7 + 6, none⟩ c6) := by
    repeat (refine Below.setCell ?_ (by assumption) _)
    exact hw
  have hsz : (((((((w3.setCell ⟨g, j * 7, none⟩ (.string (l[j]).1)).setCell ⟨g, j * 7 + 1, none⟩ c1).setCell ⟨g, j * 7 + 2, none⟩ c2).setCell ⟨g, j * 7 + 3, none⟩ c3).setCell ⟨g, j * 7 + 4, none⟩ c4).setCell ⟨g, j * 7 + 5, none⟩ c5).setCell ⟨g, j * 7 + 6, none⟩ c6).heap.size = w3.heap.size := e6
  obtain ⟨B, h0, h1, h2, h3⟩ := h
  have hle : ∀ {i k : Nat}, i ≤ k → k ≤ j → B i ≤ B k := rise_le h1
  generalize (((((((w3.setCell ⟨g, j * 7, none⟩ (.string (l[j]).1)).setCell ⟨g, j * 7 + 1, none⟩ c1).setCell ⟨g, j * 7 + 2, none⟩ c2).setCell ⟨g, j * 7 + 3, none⟩ c3).setCell ⟨g, j * 7 + 4, none⟩ c4).setCell ⟨g, j * 7 + 5, none⟩ c5).setCell ⟨g, j * 7 + 6, none⟩ c6) = W at *
  refine ⟨⟨fun q => if q ≤ j then B q else w3.heap.size, ?_, ?_, ?_, ?_⟩, ⟨arr', e1, by omega⟩, hBl⟩
  · show g < (if 0 ≤ j then B 0 else _)
    rw [if_pos (Nat.zero_le _)]; exact h0
  · intro i hi
    show (if i ≤ j then B i else _) ≤ (if i + 1 ≤ j then B (i + 1) else _)
    rw [if_pos (by omega)]
    by_cases hij : i + 1 ≤ j
    · rw [if_pos hij]; exact h1 i (by omega)
    · rw [if_neg hij]; have := hle (show i ≤ j by omega) (Nat.le_refl _); omega
  · show (if j + 1 ≤ j then _ else w3.heap.size) ≤ _
    rw [if_neg (by omega)]; omega
  · intro i hi hij
    have bg := hle (Nat.zero_le j) (Nat.le_refl _)
    by_cases hij' : i < j
    · obtain ⟨cs, r, hl, hk', ha⟩ := h3 i hi hij'
      have c1' := hle (show i + 1 ≤ j by omega) (Nat.le_refl _)
      have c0' := hle (Nat.zero_le i) (show i ≤ j by omega)
      refine ⟨cs, fun q u hu => ?_, hl, hk', ?_⟩
      · have := (r.keep (hb.block g hga)) q u hu
        have hq : q < 7 := by
          rcases Nat.lt_or_ge q 7 with h | h
          · exact h
          · rw [List.getElem?_eq_none (by simp; omega)] at hu; cases hu
        rw [cell_of_block k1] at this
        rw [cell_of_block e1, e3 _ (by omega)]
        exact this
      · show (l[i]).2.ap W (if i ≤ j then B i else _) (if i + 1 ≤ j then B (i + 1) else _) cs
        rw [if_pos (by omega), if_pos (by omega)]
        exact V.ap_keep _ (fun y y1 y2 => (e5 y (by omega)).trans (hb.block y (by omega))) ha
    · obtain rfl : i = j := by omega
      refine ⟨_, e4, rfl, hks, ?_⟩
      show (l[i]).2.ap W (if i ≤ i then B i else _) (if i + 1 ≤ i then _ else w3.heap.size) _
      rw [if_pos (Nat.le_refl _), if_neg (by omega)]
      exact V.ap_wide (V.ap_keep _ (fun y y1 y2 => e5 y (by omega)) hv) (by omega) (Nat.le_refl _)
set_option maxHeartbeats 1600000 in
set_option maxRecDepth 100000 in
theorem anewM_ap (l : List Mem) (R : Bool) (S : Nat → Prop) (al : Option Addr) (cl bl ol : Nat) (w : World) (hal : Headed al l.length cl bl ol) (hl : liesM R w S l bl ol) (hS : ∀ b, S b → b < w.heap.size) (hwt : wtM l ≤ 1099511627776)
    (ih : ∀ (j : Nat) (h : j < l.length) (cs : List Value) (W : World), (l[j]).2.lies R W S cs → (∀ b, S b → b < W.heap.size) → Calls Tryd.prog 37 #[.agg cs.toArray] W (ApPost (l[j]).2 W)) :
    Calls Tryd.prog 53 #[.slice al l.length cl] w (ApMPost l w) := by
  have HL : Hid (liesM R w S l bl ol) := hl
  have IH : Hid _ := ih
  clear hl ih
  have hlen := wtM_len l
  obtain ⟨i0, hi0, hz0, hz1, hz2⟩ := info_parts info44
  have hmk : ∀ W, (Instr.makeSlice 23 (.int .i64 (l.length : Int)) (.int .i64 (l.length : Int))).run Tryd.prog W = .ok (.slice (some ⟨W.heap.size, 0, none⟩) l.length l.length) (W.alloc (.cells (madeCells #[.string ⟨#[]⟩, .int .i64 0, .bool false, .int .i64 0, .string ⟨#[]⟩, .slice none 0 0, .slice none 0 0] (l.length * 7)) 38)) := fun W => by
    have h := run_make (P := Tryd.prog) W 23 38 i0 _ Tryd.underlying23 hi0 hz0 .i64 .i64 (l.length : Int) (l.length : Int) (by omega) (by omega) (by rw [hz2]; omega) (by omega)
    rw [hz1] at h
    simpa [Value.cells] using h
  have hzm := alloc_size w (.cells (madeCells #[.string ⟨#[]⟩, .int .i64 0, .bool false, .int .i64 0, .string ⟨#[]⟩, .slice none 0 0, .slice none 0 0] (l.length * 7)) 38)
  have B0 : Below w.heap.size w (w.alloc (.cells (madeCells #[.string ⟨#[]⟩, .int .i64 0, .bool false, .int .i64 0, .string ⟨#[]⟩, .slice none 0 0, .slice none 0 0] (l.length * 7)) 38)) := (Below.refl _ _).alloc (Nat.le_refl _) _
  have K0 : Blk w.heap.size 38 (l.length * 7) (w.alloc (.cells (madeCells #[.string ⟨#[]⟩, .int .i64 0, .bool false, .int .i64 0, .string ⟨#[]⟩, .slice none 0 0, .slice none 0 0] (l.length * 7)) 38)) := ⟨_, heap_alloc_new w _, size_madeCells _ _⟩
  clear hi0 hz0 hz1 hz2
  go_enter Tryd.func53, Tryd.ntmps53
  go_wp2_with fail
  clear hmk
  generalize (w.alloc (.cells (madeCells #[.string ⟨#[]⟩, .int .i64 0, .bool false, .int .i64 0, .string ⟨#[]⟩, .slice none 0 0, .slice none 0 0] (l.length * 7)) 38)) = w0 at *
  go_loopw [11] (fun e wr => ∃ j : Nat, j ≤ l.length ∧ e = .int .i64 (j : Int) ∧ w0.heap.size ≤ wr.heap.size ∧ Hid (RowsC l j w.heap.size wr) ∧ Hid (Blk w.heap.size 38 (l.length * 7) wr) ∧ Below w.heap.size w wr) (fun e _ => l.length - (RowKit.intOf e).toNat)
  case atStart => exact ⟨0, by omega, rfl, by omega, (RowsC.zero (by omega)), K0, B0⟩
  case round =>
    clear K0 B0
    obtain ⟨j, hj, rfl, hzr, HR, HK, bj⟩ := hrel
    by_cases hjl : j < l.length
    · have y1 : (j : Int) < l.length := by omega
      obtain ⟨hSb, hks, csj, hrow, hlj⟩ := liesM_get HL.out j hjl
      obtain rfl : al = some ⟨bl, ol, none⟩ := hal.at_.resolve_left (by omega)
      have hkw : ∀ x, S x → wr.heap[x]? = w.heap[x]? := fun x hx => bj.block x (hS x hx)
      have hlj0 := hlj
      obtain ⟨ek, eb, ei, es, eal, enl, ecl, eam, enm, ecm, rfl⟩ := V.ten hlj
      obtain ⟨ekey, hek⟩ : ∃ ekey, (l[j]).1 = ekey := ⟨_, rfl⟩
      rw [hek] at hrow
      obtain ⟨q, q0, q1, q2, q3, q4, q5⟩ := row7 (hrow.keep (hkw _ hSb))
      have hza := alloc_size wr (.cells #[.string ekey, .int .i64 ek, .bool eb, .int .i64 ei, .string es, .slice eal enl ecl, .slice eam enm ecm] 38)
      have ba : Below wr.heap.size wr (wr.alloc (.cells #[.string ekey, .int .i64 ek, .bool eb, .int .i64 ei, .string es, .slice eal enl ecl, .slice eam enm ecm] 38)) := (Below.refl _ _).alloc (Nat.le_refl _) _
      have hr7 := box_row wr [.string ekey, .int .i64 ek, .bool eb, .int .i64 ei, .string es, .slice eal enl ecl, .slice eam enm ecm] 38
      have HC : Hid (∀ W, Below (wr.alloc (.cells #[.string ekey, .int .i64 ek, .bool eb, .int .i64 ei, .string es, .slice eal enl ecl, .slice eam enm ecm] 38)).heap.size (wr.alloc (.cells #[.string ekey, .int .i64 ek, .bool eb, .int .i64 ei, .string es, .slice eal enl ecl, .slice eam enm ecm] 38)) W → Calls Tryd.prog 37 #[.agg #[.int .i64 ek, .bool eb, .int .i64 ei, .string es, .slice eal enl ecl, .slice eam enm ecm]] W (ApPost (l[j]).2 W)) := fun W hb =>
        IH.out j hjl _ W (V.lies_keep (fun h => h) (fun x hx => (hb.block x (by have := hS x hx; omega)).trans ((ba.block x (by have := hS x hx; omega)).trans (hkw x hx))) (fun _ h => h) _ hlj0) (fun x hx => by have := hS x hx; have := hb.size; omega)
      have HR1 : Hid (RowsC l j w.heap.size (wr.alloc (.cells #[.string ekey, .int .i64 ek, .bool eb, .int .i64 ei, .string es, .slice eal enl ecl, .slice eam enm ecm] 38))) := HR.out.below (by omega) ba
      have HK1 : Hid (Blk w.heap.size 38 (l.length * 7) (wr.alloc (.cells #[.string ekey, .int .i64 ek, .bool eb, .int .i64 ei, .string es, .slice eal enl ecl, .slice eam enm ecm] 38))) := HK.out.keep (ba.block _ (by omega))
      have B1 : Below w.heap.size w (wr.alloc (.cells #[.string ekey, .int .i64 ek, .bool eb, .int .i64 ei, .string es, .slice eal enl ecl, .slice eam enm ecm] 38)) := bj.trans (ba.mono (by omega))
      clear hlj hlj0 hrow hkw HR HK
      go_wp2_with fail
      clear q q0 q1 q2 q3 q4 q5
      generalize (wr.alloc (.cells #[.string ekey, .int .i64 ek, .bool eb, .int .i64 ei, .string es, .slice eal enl ecl, .slice eam enm ecm] 38)) = wa at *
      have KP : Hid (∀ W', Below wa.heap.size wa W' → W'.cell? ⟨wr.heap.size, 0, none⟩ = some (.string ekey) ∧ W'.cell? ⟨wr.heap.size, 1, none⟩ = some (.int .i64 ek) ∧ W'.cell? ⟨wr.heap.size, 2, none⟩ = some (.bool eb) ∧ W'.cell? ⟨wr.heap.size, 3, none⟩ = some (.int .i64 ei) ∧ W'.cell? ⟨wr.heap.size, 4, none⟩ = some (.string es) ∧ W'.cell? ⟨wr.heap.size, 5, none⟩ = some (.slice eal enl ecl) ∧ W'.cell? ⟨wr.heap.size, 6, none⟩ = some (.slice eam enm ecm)) := fun W' hb => by
        obtain ⟨m, m0, m1, m2, m3, m4, m5⟩ := row7 (hr7.keep (hb.block _ (by omega)))
        simp only [Nat.zero_add] at m m0 m1 m2 m3 m4 m5
        exact ⟨m, m0, m1, m2, m3, m4, m5⟩
      have hne : wr.heap.size ≠ w.heap.size := by omega
      have KS : Hid (∀ W0 a0 a1 a2 a3 a4 a5 a6, Below wa.heap.size wa W0 → (((((((W0.setCell ⟨w.heap.size, j * 7, none⟩ a0).setCell ⟨w.heap.size, j * 7 + 1, none⟩ a1).setCell ⟨w.heap.size, j * 7 + 2, none⟩ a2).setCell ⟨w.heap.size, j * 7 + 3, none⟩ a3).setCell ⟨w.heap.size, j * 7 + 4, none⟩ a4).setCell ⟨w.heap.size, j * 7 + 5, none⟩ a5).setCell ⟨w.heap.size, j * 7 + 6, none⟩ a6).cell? ⟨wr.heap.size, 0, none⟩ = some (.string ekey) ∧ (((((((W0.setCell ⟨w.heap.size, j * 7, none⟩ a0).setCell ⟨w.heap.size, j * 7 + 1, none⟩ a1).setCell ⟨w.heap.size, j * 7 + 2, none⟩ a2).setCell ⟨w.heap.size, j * 7 + 3, none⟩ a3).setCell ⟨w.heap.size, j * 7 + 4, none⟩ a4).setCell ⟨w.heap.size, j * 7 + 5, none⟩ a5).setCell ⟨w.heap.size, j * 7 + 6, none⟩ a6).cell? ⟨wr.heap.size, 1, none⟩ = some (.int .i64 ek) ∧ (((((((W0.setCell ⟨w.heap.size, j * 7, none⟩ a0).setCell ⟨w.heap.size, j * 7 + 1, none⟩ a1).setCell ⟨w.heap.size, j * 7 + 2, none⟩ a2).setCell ⟨w.heap.size, j * 7 + 3, none⟩ a3).setCell ⟨w.heap.size, j * 7 + 4, none⟩ a4).setCell ⟨w.heap.size, j * 7 + 5, none⟩ a5).setCell ⟨w.heap.size, j * 7 + 6, none⟩ a6).cell? ⟨wr.heap.size, 2, none⟩ = some (.bool eb) ∧ (((((((W0.setCell ⟨w.heap.size, j * 7, none⟩ a0).setCell ⟨w.heap.size, j * 7 + 1, none⟩ a1).setCell ⟨w.heap.size, j * 7 + 2, none⟩ a2).setCell ⟨w.heap.size, j * 7 + 3, none⟩ a3).setCell ⟨w.heap.size, j * 7 + 4, none⟩ a4).setCell ⟨w.heap.size, j * 7 + 5, none⟩ a5).setCell ⟨w.heap.size, j * 7 + 6, none⟩ a6).cell? ⟨wr.heap.size, 3, none⟩ = some (.int .i64 ei) ∧ (((((((W0.setCell ⟨w.heap.size, j * 7, none⟩ a0).setCell ⟨w.heap.size, j * 7 + 1, none⟩ a1).setCell ⟨w.heap.size, j * 7 + 2, none⟩ a2).setCell ⟨w.heap.size, j * 7 + 3, none⟩ a3).setCell ⟨w.heap.size, j * 7 + 4, none⟩ a4).setCell ⟨w.heap.size, j * 7 + 5, none⟩ a5).setCell ⟨w.heap.size, j * 7 + 6, none⟩ a6).cell? ⟨wr.heap.size, 4, none⟩ = some (.string es) ∧ (((((((W0.setCell ⟨w.heap.size, j * 7, none⟩ a0).setCell ⟨w.heap.size, j * 7 + 1, none⟩ a1).setCell ⟨w.heap.size, j * 7 + 2, none⟩ a2).setCell ⟨w.heap.size, j * 7 + 3, none⟩ a3).setCell ⟨w.heap.size, j * 7 + 4, none⟩ a4).setCell ⟨w.heap.size, j * 7 + 5, none⟩ a5).setCell ⟨w.heap.size, j * 7 + 6, none⟩ a6).cell? ⟨wr.heap.size, 5, none⟩ = some (.slice eal enl ecl) ∧ (((((((W0.setCell ⟨w.heap.size, j * 7, none⟩ a0).setCell ⟨w.heap.size, j * 7 + 1, none⟩ a1).setCell ⟨w.heap.size, j * 7 + 2, none⟩ a2).setCell ⟨w.heap.size, j * 7 + 3, none⟩ a3).setCell ⟨w.heap.size, j * 7 + 4, none⟩ a4).setCell ⟨w.heap.size, j * 7 + 5, none⟩ a5).setCell ⟨w.heap.size, j * 7 + 6, none⟩ a6).cell? ⟨wr.heap.size, 6, none⟩ = some (.slice eam enm ecm)) := fun W0 a0 a1 a2 a3 a4 a5 a6 hb => by
        have K := KP.out W0 hb
        simp only [cell_set_ne hne]
        exact K
      have BD : Hid (Below wa.heap.size wa wa.drew) := (Below.refl _ _).drew
      have h7 : Hid (w.heap.size < wa.heap.size ∧ wr.heap.size < wa.heap.size) := ⟨by omega, by omega⟩
      have HF3 : Hid (∀ (w3 : World) (uk : Int) (ub : Bool) (ui : Int) (us : ByteArray) (ual : Option Addr) (unl ucl : Nat) (uam : Option Addr) (unm ucm : Nat), Below wa.heap.size wa w3 → (l[j]).2.ap w3 wa.heap.size w3.heap.size [.int .i64 uk, .bool ub, .int .i64 ui, .string us, .slice ual unl ucl, .slice uam unm ucm] → (RowsC l (j + 1) w.heap.size (((((((w3.setCell ⟨w.heap.size, j * 7, none⟩ (.string (l[j]).1)).setCell ⟨w.heap.size, j * 7 + 1, none⟩ (.int .i64 uk)).setCell ⟨w.heap.size, j * 7 + 2, none⟩ (.bool ub)).setCell ⟨w.heap.size, j * 7 + 3, none⟩ (.int .i64 ui)).setCell ⟨w.heap.size, j * 7 + 4, none⟩ (.string us)).setCell ⟨w.heap.size, j * 7 + 5, none⟩ (.slice ual unl ucl)).setCell ⟨w.heap.size, j * 7 + 6, none⟩ (.slice uam unm ucm)) ∧ Blk w.heap.size 38 (l.length * 7) (((((((w3.setCell ⟨w.heap.size, j * 7, none⟩ (.string (l[j]).1)).setCell ⟨w.heap.size, j * 7 + 1, none⟩ (.int .i64 uk)).setCell ⟨w.heap.size, j * 7 + 2, none⟩ (.bool ub)).setCell ⟨w.heap.size, j * 7 + 3, none⟩ (.int .i64 ui)).setCell ⟨w.heap.size, j * 7 + 4, none⟩ (.string us)).setCell ⟨w.heap.size, j * 7 + 5, none⟩ (.slice ual unl ucl)).setCell ⟨w.heap.size, j * 7 + 6, none⟩ (.slice uam unm ucm)) ∧ Below w.heap.size w (((((((w3.setCell ⟨w.heap.size, j * 7, none⟩ (.string (l[j]).1)).setCell ⟨w.heap.size, j * 7 + 1, none⟩ (.int .i64 uk)).setCell ⟨w.heap.size, j * 7 + 2, none⟩ (.bool ub)).setCell ⟨w.heap.size, j * 7 + 3, none⟩ (.int .i64 ui)).setCell ⟨w.heap.size, j * 7 + 4, none⟩ (.string us)).setCell ⟨w.heap.size, j * 7 + 5, none⟩ (.slice ual unl ucl)).setCell ⟨w.heap.size, j * 7 + 6, none⟩ (.slice uam unm ucm))) ∧ Blk w.heap.size 38 (l.length * 7) w3) := fun w3 uk ub ui us ual unl ucl uam unm ucm b3 hlu => by
        have hz3 := b3.size
        have HK3 : Blk w.heap.size 38 (l.length * 7) w3 := HK1.out.keep (b3.block _ (by omega))
        have B3 := B1.trans (b3.mono (by omega))
        exact ⟨HR1.out.store (by omega) b3 HK3 hjl (by omega) hks hlu B3 (Nat.le_refl _), HK3⟩
      clear HR1 HK1 B1 hr7 ba
      refine wp_region_held_drew (S := (fun W' => W'.cell? ⟨wr.heap.size, 0, none⟩ = some (.string ekey) ∧ W'.cell? ⟨wr.heap.size, 1, none⟩ = some (.int .i64 ek) ∧ W'.cell? ⟨wr.heap.size, 2, none⟩ = some (.bool eb) ∧ W'.cell? ⟨wr.heap.size, 3, none⟩ = some (.int .i64 ei) ∧ W'.cell? ⟨wr.heap.size, 4, none⟩ = some (.string es) ∧ W'.cell? ⟨wr.heap.size, 5, none⟩ = some (.slice eal enl ecl) ∧ W'.cell? ⟨wr.heap.size, 6, none⟩ = some (.slice eam enm ecm))) (by kernel_rfl) (KP.out _ BD.out) (fun hHeld => ?_)
      (refine wpAnyH_take (i := 0) (v := ?_) rfl (by kernel_rfl) (by kernel_rfl) (by kernel_rfl) (fun _ _ _ h => h) (Or.inl ⟨by rfl, ?_⟩) (by assumption) ?_; rotate_left 1; (intro W0 hSw; (try dsimp only at hSw); go_simp; (try with_reducible rfl)); (try simp only [Act.put, List.setIfInBounds_toArray, List.set_cons_zero, List.set_cons_succ]))
      (refine wpAnyH_take (i := 1) (v := ?_) rfl (by kernel_rfl) (by kernel_rfl) (by kernel_rfl) (fun _ _ _ h => h) (Or.inl ⟨by rfl, ?_⟩) (by assumption) ?_; rotate_left 1; (intro W0 hSw; (try dsimp only at hSw); go_simp; (try with_reducible rfl)); (try simp only [Act.put, List.setIfInBounds_toArray, List.set_cons_zero, List.set_cons_succ]))
      (refine wpAnyH_take (i := 2) (v := ?_) rfl (by kernel_rfl) (by kernel_rfl) (by kernel_rfl) (fun _ _ _ h => h) (Or.inl ⟨by rfl, ?_⟩) (by assumption) ?_; rotate_left 1; (intro W0 hSw; (try dsimp only at hSw); go_simp; (try with_reducible rfl)); (try simp only [Act.put, List.setIfInBounds_toArray, List.set_cons_zero, List.set_cons_succ]))
      (refine wpAnyH_take (i := 3) (v := ?_) rfl (by kernel_rfl) (by kernel_rfl) (by kernel_rfl) (fun _ _ _ h => h) (Or.inl ⟨by rfl, ?_⟩) (by assumption) ?_; rotate_left 1; (intro W0 hSw; (try dsimp only at hSw); go_simp; (try with_reducible rfl)); (try simp only [Act.put, List.setIfInBounds_toArray, List.set_cons_zero, List.set_cons_succ]))
      (refine wpAnyH_take (i := 4) (v := ?_) rfl (by kernel_rfl) (by kernel_rfl) (by kernel_rfl) (fun _ _ _ h => h) (Or.inl ⟨by rfl, ?_⟩) (by assumption) ?_; rotate_left 1; (intro W0 hSw; (try dsimp only at hSw); go_simp; (try with_reducible rfl)); (try simp only [Act.put, List.setIfInBounds_toArray, List.set_cons_zero, List.set_cons_succ]))
      (refine wpAnyH_take (i := 5) (v := ?_) rfl (by kernel_rfl) (by kernel_rfl) (by kernel_rfl) (fun _ _ _ h => h) (Or.inl ⟨by rfl, ?_⟩) (by assumption) ?_; rotate_left 1; (intro W0 hSw; (try dsimp only at hSw); go_simp; (try with_reducible rfl)); (try simp only [Act.put, List.setIfInBounds_toArray, List.set_cons_zero, List.set_cons_succ]))
      refine wpAnyH_ready (rs := [6]) (by kernel_rfl) (by simp) ?_
      refine AllReadyH.cons rfl (fun K hK => ?_) AllReadyH.nil
      go_simp
      refine (HC.out wa.drew BD.out).mono ?_
      rintro e w3 ⟨csu, rfl, hlu, b3'⟩
      have b3 : Hid (Below wa.heap.size wa w3) := BD.out.trans b3'
      clear b3'
      obtain ⟨uk, ub, ui, us, ual, unl, ucl, uam, unm, ucm, rfl⟩ := V.ten (V.ap_lies _ hlu)
      have HX : Hid _ := HF3.out w3 uk ub ui us ual unl ucl uam unm ucm b3.out hlu
      clear hlu
      obtain ⟨v0, k0⟩ := HX.out.2.cell (j * 7) (by omega)
      obtain ⟨v1, k1⟩ := HX.out.2.cell (j * 7 + 1) (by omega)
      obtain ⟨v2, k2⟩ := HX.out.2.cell (j * 7 + 2) (by omega)
      obtain ⟨v3, k3⟩ := HX.out.2.cell (j * 7 + 3) (by omega)
      obtain ⟨v4, k4⟩ := HX.out.2.cell (j * 7 + 4) (by omega)
      obtain ⟨v5, k5⟩ := HX.out.2.cell (j * 7 + 5) (by omega)
      obtain ⟨v6, k6⟩ := HX.out.2.cell (j * 7 + 6) (by omega)
      have kf := HX.out.2.frozen
      go_wp2_with fail
      refine hK.out _ _ (KP.out _ b3.out) (fun hHeld => ?_)
      clear hK K
      (try simp only [Act.put, List.setIfInBounds_toArray, List.set_cons_zero, List.set_cons_succ])
      (refine wpAnyH_take (i := 7) (v := ?_) rfl (by kernel_rfl) (by kernel_rfl) (by kernel_rfl) (fun _ _ _ h => h) (Or.inl ⟨by rfl, ?_⟩) (by assumption) ?_; rotate_left 1; (intro W0 hSw; (try dsimp only at hSw); go_simp; (try with_reducible rfl)); (try simp only [Act.put, List.setIfInBounds_toArray, List.set_cons_zero, List.set_cons_succ]))
      (refine wpAnyH_take (i := 8) (v := ?_) rfl (by kernel_rfl) (by kernel_rfl) (by kernel_rfl) (fun _ _ _ h => h) (Or.inl ⟨by rfl, ?_⟩) (by assumption) ?_; rotate_left 1; (intro W0 hSw; (try dsimp only at hSw); go_simp; (try with_reducible rfl)); (try simp only [Act.put, List.setIfInBounds_toArray, List.set_cons_zero, List.set_cons_succ]))
      refine wpAnyH_ready (rs := [9]) (by kernel_rfl) (by simp) ?_
      refine AllReadyH.cons rfl (fun K hK => ?_) AllReadyH.nil
      go_simp
      refine hK.out _ _ (KS.out _ _ _ _ _ _ _ _ b3.out) (fun hHeld => ?_)
      clear hK K
      (try simp only [Act.put, List.setIfInBounds_toArray, List.set_cons_zero, List.set_cons_succ])
      refine wpAnyH_done (by kernel_rfl) ?_ _
      have hz3 := b3.out.size
      have HS := HX.out.1
      rw [hek] at HS
      have HSH : Hid _ := HS
      clear HS HX k0 k1 k2 k3 k4 k5 k6 kf HF3
      go_wp2_with fail
      go_roundw
      case rel => exact ⟨j + 1, by omega, by go_num, by simp [size_set1]; omega, HSH.out.1, HSH.out.2.1, HSH.out.2.2⟩
      case measure => simp [RowKit.intOf]; omega
    · obtain rfl : j = l.length := by omega
      have y1 : ¬ (l.length : Int) < l.length := by omega
      have HF : Hid (∃ e1, w.heap.size < e1 ∧ e1 ≤ wr.heap.size ∧ apF wr l e1 wr.heap.size w.heap.size 0) := by
        obtain ⟨B, h0, h1, h2, h3⟩ := HR.out
        have hle : ∀ {i k : Nat}, i ≤ k → k ≤ l.length → B i ≤ B k := rise_le h1
        refine ⟨B 0, h0, Nat.le_trans (hle (Nat.zero_le _) (Nat.le_refl _)) h2, ?_⟩
        have E := apF_mk (w := wr) (l := l) (b := w.heap.size) (o := 0) B h1 (fun i hi => by
          obtain ⟨cs, r, _, hk, ha⟩ := h3 i hi hi
          exact ⟨hk, cs, by rw [Nat.zero_add]; exact r, ha⟩)
        exact apF_wide E h2
      clear HR
      go_wp2_with fail
      go_ret
      obtain ⟨e1, f1, f2, f3⟩ := HF.out
      exact ⟨e1, rfl, f1, f2, f3, HK.out, bj⟩
end Go.Proofs.YthgfomblodhoaaaDoor
