import Derived.Test.YtagjbphadakifaaDoorTrmA
/- Terms: the guard. -/
set_option linter.unusedSimpArgs false
set_option linter.unusedVariables false
namespace Go.Proofs.YtagjbphadakifaaDoor
open Go.RowKit
def BeyT (l : List Trm) (w : World) (e : Ending) (w' : World) : Prop := ∃ r, e = .returned (.bool r) ∧ (r = false → wtT l ≤ 2147483647) ∧ Below w.heap.size w w'
set_option maxHeartbeats 8000000 in
set_option maxRecDepth 100000 in
theorem terms_any (l : List Trm) (R : Bool) (S : Nat → Prop) (al : Option Addr) (cl bl ol : Nat) (w : World) (hh : Headed al l.length cl bl ol) (hl : liesT R w S l bl ol) (hS : ∀ b, S b → b < w.heap.size) :
    Calls Tryd.prog 6 #[.slice al l.length cl] w (BeyT l w) := by
  have hX := heap_alloc_new w (.cells #[.int .i64 0] 46)
  have hz : (w.alloc (.cells #[.int .i64 0] 46)).heap.size = w.heap.size + 1 := by simp
  have HL := hmk hl
  have HH := hmk hh
  have hm : l.length ≤ 9223372036854775807 := Nat.le_trans hh.le hh.max
  have hC : Cnt w.heap.size 0 (w.alloc (.cells #[.int .i64 0] 46)) := ⟨by rw [cell_of_block hX]; rfl, frozen_of_block hX 0⟩
  have hG : w.grownBy (w.alloc (.cells #[.int .i64 0] 46)) (some w.heap.size) := World.grownBy_alloc _ _ _
  clear hh hl hX
  go_enter Tryd.func6, Tryd.ntmps6
  go_wp2_with fail
  generalize (w.alloc (.cells #[.int .i64 0] 46)) = w0 at *
  go_loopw [4] (fun e4 wr => ∃ j : Nat, j ≤ l.length ∧ e4 = .int .i64 (j : Int) ∧ wtT (l.take j) ≤ 2147483647 ∧ Hid (Cnt w.heap.size (wtT (l.take j)) wr) ∧ Hid (w.grownBy wr (some w.heap.size))) (fun e4 _ => l.length - (RowKit.intOf e4).toNat)
  case atStart => exact ⟨0, by omega, rfl, by simp [wtT], (by show Cnt _ _ _; simpa [wtT] using hC), hG⟩
  case round =>
    clear hC hG
    obtain ⟨j, hj, rfl, hw, HC, HG⟩ := hrel
    by_cases hjl : j < l.length
    · have y1 : (j : Int) < l.length := by omega
      obtain ⟨hSb, cs, hrow, ht⟩ := HL.out j hjl
      obtain ⟨a, c, tb, to', rfl, hop, hks, htd, hts, _⟩ := ht
      obtain rfl : al = some ⟨bl, ol, none⟩ := HH.out.at_.resolve_left (by omega)
      have hne : ∀ b, S b → some b ≠ some w.heap.size := fun b hb e => by have := hS b hb; have := Option.some.inj e; omega
      have hk : ∀ b, S b → wr.heap[b]? = w.heap[b]? := fun b hb => HG.out.block b (hS b hb) (hne b hb)
      obtain ⟨q, q0, q1⟩ := row3 (hrow.keep (hk _ hSb))
      have hwt := wtT_take hjl
      have HR : Hid (∀ W, w.grownBy W (some w.heap.size) → W.cell? ⟨bl, ol + j * 3 + 2, none⟩ = some (.slice a (l[j]).2.2.length c)) := fun W hW => (row3 (hrow.keep (hW.block _ (hS _ hSb) (hne _ hSb)))).2.2
      obtain ⟨⟨key, op, vs⟩, hx⟩ : ∃ x, l[j] = x := ⟨_, rfl⟩
      rw [hx] at hwt hts hks htd HR q q0 q1
      simp only at hwt hts hks htd HR q q0 q1
      have HTS := hmk hts
      have HTD := hmk htd
      have hvl : vs.length ≤ 9223372036854775807 := Nat.le_trans htd.le htd.max
      have CM := hmk (many_any w.heap.size (wtT (l.take j)) (1 + key.size) wr HC.out hw (by unfold maxLen; omega))
      have hkz : IntKind.i64.wrap (1 + (key.size : Int)) = 1 + (key.size : Int) := wrap_small _ (by omega) (by omega)
      have hcast : ((1 + key.size : Nat) : Int) = 1 + (key.size : Int) := by omega
      rw [hcast] at CM
      clear hrow hop hts htd hx HC
      generalize hWj : wtT (l.take j) = wj at *
      generalize hWk : wtT (l.take (j + 1)) = wk at *
      go_wp2_with fail
      refine CM.out.mono ?_
      rintro e w1 ⟨r, rfl, g1, hr⟩
      have HG1 := hmk (grown_trans HG.out g1)
      clear CM HG g1 q q0 q1
      cases r with
      | true =>
        go_wp2_with fail
        go_ret
        exact ⟨true, rfl, (fun h => by cases h), HG1.out.os, HG1.out.tape, HG1.out.output, HG1.out.size, fun b hb => HG1.out.block b hb (fun e => by have := Option.some.inj e; omega)⟩
      | false =>
        obtain ⟨hn1, hc1⟩ := hr rfl
        have HC1 := hmk hc1
        clear hr hc1
        go_wp2_with fail
        go_loopw [6] (fun e6 wq => ∃ k : Nat, k ≤ vs.length ∧ e6 = .int .i64 (k : Int) ∧ wj + (1 + key.size) + wtS (vs.take k) ≤ 2147483647 ∧ Hid (Cnt w.heap.size (wj + (1 + key.size) + wtS (vs.take k)) wq) ∧ Hid (w.grownBy wq (some w.heap.size))) (fun e6 _ => vs.length - (RowKit.intOf e6).toNat)
        case atStart => exact ⟨0, by omega, rfl, by simpa [wtS] using hn1, (by show Cnt _ _ _; simpa [wtS] using HC1.out), HG1⟩
        case round =>
          clear HC1 HG1
          obtain ⟨k, hk', rfl, hw', HC2, HG2⟩ := hrel
          have p2 := HR.out wr HG2.out
          by_cases hkl : k < vs.length
          · have y2 : (k : Int) < vs.length := by omega
            obtain ⟨hSv, hsz, hcell⟩ := HTS.out k hkl
            obtain rfl : a = some ⟨tb, to', none⟩ := HTD.out.at_.resolve_left (by omega)
            have p3 : wr.cell? ⟨tb, to' + k, none⟩ = some (.string vs[k]) := (World.cell?_of_block (w := w) (a := ⟨tb, to' + k, none⟩) (HG2.out.block _ (hS _ hSv) (hne _ hSv))).trans hcell
            have hws := wtS_take hkl
            generalize vs[k] = sk at *
            generalize hWS : wtS (vs.take k) = ws at *
            generalize hWT : wtS (vs.take (k + 1)) = ws' at *
            have CM := hmk (many_any w.heap.size (wj + (1 + key.size) + ws) (1 + sk.size) wr HC2.out hw' (by unfold maxLen; omega))
            have hsz2 : IntKind.i64.wrap (1 + (sk.size : Int)) = 1 + (sk.size : Int) := wrap_small _ (by omega) (by omega)
            have hcast : ((1 + sk.size : Nat) : Int) = 1 + (sk.size : Int) := by omega
            rw [hcast] at CM
            clear hcell HC2
            go_wp2_with fail
            refine CM.out.mono ?_
            rintro e w3 ⟨r, rfl, g3, hr⟩
            have HG3 := hmk (grown_trans HG2.out g3)
            clear CM HG2 g3 p2 p3
            cases r with
            | true =>
              go_wp2_with fail
              go_ret
              exact ⟨true, rfl, (fun h => by cases h), HG3.out.os, HG3.out.tape, HG3.out.output, HG3.out.size, fun b hb => HG3.out.block b hb (fun e => by have := Option.some.inj e; omega)⟩
            | false =>
              obtain ⟨hn3, hc3⟩ := hr rfl
              have HC3 := hmk hc3
              clear hr hc3
              go_wp2_with fail
              go_roundw
              case rel => exact ⟨k + 1, by omega, by go_num, by rw [hWT, hws]; omega, by rw [hWT, hws]; simpa [Nat.add_assoc] using HC3, HG3⟩
              case measure => simp [RowKit.intOf]; omega
          · obtain rfl : k = vs.length := by omega
            have y2 : ¬ (vs.length : Int) < vs.length := by omega
            rw [List.take_of_length_le (Nat.le_refl _)] at hw' HC2
            have hwk : wk = wj + (1 + key.size) + wtS vs := by omega
            go_wp2_with fail
            go_roundw
            case rel => exact ⟨j + 1, by omega, by go_num, by rw [hWk, hwk]; exact hw', by rw [hWk, hwk]; exact HC2, HG2⟩
            case measure => simp [RowKit.intOf]; omega
    · obtain rfl : j = l.length := by omega
      have y1 : ¬ (l.length : Int) < l.length := by omega
      rw [List.take_of_length_le (Nat.le_refl _)] at hw
      go_wp2_with fail
      go_ret
      exact ⟨false, rfl, fun _ => hw, HG.out.os, HG.out.tape, HG.out.output, HG.out.size, fun b hb => HG.out.block b hb (fun e => by have := Option.some.inj e; omega)⟩
end Go.Proofs.YtagjbphadakifaaDoor
