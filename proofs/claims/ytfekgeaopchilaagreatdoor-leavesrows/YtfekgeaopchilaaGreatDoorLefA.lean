import Derived.Test.YtfekgeaopchilaaGreatDoorG9
/- freeholdref00.Leaves. -/
set_option linter.unusedSimpArgs false
set_option linter.unusedVariables false
namespace Go.Proofs.YtfekgeaopchilaaGreatDoor
open Go.RowKit Go.Lib
set_option maxHeartbeats 4000000 in
set_option maxRecDepth 100000 in
theorem cpathsC_any (l : List (List El)) (B n : Nat) (S : Nat → Prop) (al : Option Addr) (cl bl ol : Nat) (w : World) (hal : Headed al l.length cl bl ol) (hl : liesQ w S l bl ol) (hS : ∀ b, S b → b ≠ B ∧ b < w.heap.size) (hc : Cnt B n w) (hn : n ≤ 2147483647) :
    Calls Tryz.prog 25 #[.pointer (some ⟨B, 0, none⟩), .slice al l.length cl] w (CntPost B n (l.length + wtQ l) w) := by
  have HL := hmk hl
  have hll : l.length ≤ maxLen := Nat.le_trans hal.le hal.max
  have hll' : l.length ≤ 9223372036854775807 := hll
  have HKP : Hid (∀ wr : World, w.grownBy wr (some B) → ∀ b, S b → wr.heap[b]? = w.heap[b]?) := fun wr g b hb => g.block b (hS b hb).2 (fun e => (hS b hb).1 (Option.some.inj e))
  have c1 := hmk (many_any B n l.length w hc hn hll)
  clear hl hll
  go_enter Tryz.func25, Tryz.ntmps25
  go_wp2_with fail
  refine c1.out.mono ?_
  rintro e w1 ⟨r, rfl, g1, h1⟩
  cases r
  case true =>
    go_wp2_with fail
    go_ret
    exact ⟨true, rfl, g1, fun h => by cases h⟩
  obtain ⟨hn1, hc1⟩ := h1 rfl
  go_wp2_with fail
  go_loopw [5] (fun e wr => ∃ j : Nat, j ≤ l.length ∧ e = .int .i64 (j : Int) ∧ w.grownBy wr (some B) ∧ n + l.length + wtQ (l.take j) ≤ 2147483647 ∧ Cnt B (n + l.length + wtQ (l.take j)) wr) (fun e _ => l.length - (RowKit.intOf e).toNat)
  case atStart => exact ⟨0, by omega, rfl, g1, by simpa [wtQ] using hn1, by simpa [wtQ] using hc1⟩
  case round =>
    clear hn1 hc1 g1
    obtain ⟨j, hj, rfl, gj, hnj, hcj⟩ := hrel
    by_cases hjl : j < l.length
    · have y1 : (j : Int) < l.length := by omega
      obtain ⟨hSb, v, hv, ap, cp, bp, op, rfl, hap, hlp⟩ := HL.out j hjl
      obtain rfl : al = some ⟨bl, ol, none⟩ := hal.at_.resolve_left (by omega)
      have HG : Hid (∀ wr : World, w.grownBy wr (some B) → wr.cell? ⟨bl, ol + j, none⟩ = some (.slice ap (l[j]).length cp)) := fun wr g => (World.cell?_of_block (w := w) (a := ⟨bl, ol + j, none⟩) (HKP.out wr g _ hSb)).trans hv
      have HP := hmk hlp
      have HW : Hid (n + l.length + wtQ (l.take (j + 1)) = n + l.length + wtQ (l.take j) + wtP l[j]) := by show _ = _; rw [take_succ_wtQ hjl]; omega
      have dG := HG.out wr gj
      have hlp' : (l[j]).length ≤ 9223372036854775807 := Nat.le_trans hap.le hap.max
      clear hv hlp
      generalize l[j] = p at *
      go_wp2_with fail
      go_loopw [6] (fun e wr => ∃ i : Nat, i ≤ p.length ∧ e = .int .i64 (i : Int) ∧ w.grownBy wr (some B) ∧ n + l.length + wtQ (l.take j) + wtP (p.take i) ≤ 2147483647 ∧ Cnt B (n + l.length + wtQ (l.take j) + wtP (p.take i)) wr) (fun e _ => p.length - (RowKit.intOf e).toNat)
      case atStart => exact ⟨0, by omega, rfl, gj, by simpa [wtP] using hnj, by simpa [wtP] using hcj⟩
      case round =>
        clear hcj gj hnj dG
        obtain ⟨i, hi, rfl, gj, hni, hci⟩ := hrel
        have dG := HG.out wr gj
        by_cases hil : i < p.length
        · have y2 : (i : Int) < p.length := by omega
          obtain ⟨hSp, csj, hrow, hlj⟩ := HP.out i hil
          obtain rfl : ap = some ⟨bp, op, none⟩ := hap.at_.resolve_left (by omega)
          have hlr := El.lies_keep (HKP.out wr gj) (fun _ h => h) hlj
          have CE := hmk (celem_any p[i] B _ S csj wr hlr (fun b hb => ⟨(hS b hb).1, Nat.lt_of_lt_of_le (hS b hb).2 gj.size⟩) hci hni)
          have HW2 : Hid (n + l.length + wtQ (l.take j) + wtP (p.take (i + 1)) = n + l.length + wtQ (l.take j) + wtP (p.take i) + (p[i]).wt) := by show _ = _; rw [take_succ_wtP hil]; omega
          obtain ⟨k, s, am, nm, cm, vk, vb, vi, vs, val, vnl, vcl, vam, vnm, vcm, rfl⟩ := El.nine hlj
          obtain ⟨q0, q1, q2, q3, q4, q5, q6, q7, q8⟩ := row9 (hrow.keep (HKP.out wr gj bp hSp))
          clear hlj hlr hrow
          go_wp2_with fail
          refine CE.out.mono ?_
          rintro e w2 ⟨r, rfl, g2, h2⟩
          cases r
          · obtain ⟨hn2, hc2⟩ := h2 rfl
            go_wp2_with fail
            go_roundw
            case rel => first | exact ⟨i + 1, by omega, by go_num, grown_trans gj g2, by rw [HW2.out]; exact hn2, by rw [HW2.out]; exact hc2⟩ | exact ⟨_, _, _, _, _, _, _, _, _, _, _, _, _, _, _, _, _, _, _, _, _, _, ⟨i + 1, by omega, by go_num, grown_trans gj g2, by rw [HW2.out]; exact hn2, by rw [HW2.out]; exact hc2⟩, rfl⟩
            case measure => simp [RowKit.intOf]; omega
          · go_wp2_with fail
            go_ret
            exact ⟨true, rfl, grown_trans gj g2, fun h => by cases h⟩
        · obtain rfl : i = p.length := by omega
          have y2 : ¬ (p.length : Int) < p.length := by omega
          rw [List.take_length] at hni hci
          go_wp2_with fail
          go_roundw
          case rel => exact ⟨j + 1, by omega, by go_num, gj, by rw [HW.out]; exact hni, by rw [HW.out]; exact hci⟩
          case measure => simp [RowKit.intOf]; omega
    · obtain rfl : j = l.length := by omega
      have y1 : ¬ (l.length : Int) < l.length := by omega
      rw [List.take_length] at hnj hcj
      go_wp2_with fail
      go_ret
      exact ⟨false, rfl, gj, fun _ => ⟨by omega, by rw [← Nat.add_assoc]; exact hcj⟩⟩
def ClPost (l : List Lf) (w : World) (e : Ending) (w' : World) : Prop := ∃ r, e = .returned (.bool r) ∧ (r = false → wtF l ≤ 2147483647) ∧ Below w.heap.size w w'
set_option maxHeartbeats 4000000 in
set_option maxRecDepth 100000 in
theorem bleaves_any (l : List Lf) (S : Nat → Prop) (al : Option Addr) (cl bl ol : Nat) (w : World) (hal : Headed al l.length cl bl ol) (hl : liesF w S l bl ol) (hS : ∀ b, S b → b < w.heap.size) :
    Calls Tryz.prog 4 #[.slice al l.length cl] w (ClPost l w) := by
  have HL := hmk hl
  have hll : l.length ≤ 9223372036854775807 := Nat.le_trans hal.le hal.max
  have ga : w.grownBy (w.alloc (.cells #[.int .i64 0] 47)) none := World.grownBy_alloc _ _ _
  have hn := heap_alloc_new w (.cells #[.int .i64 0] 47)
  have hC : Cnt w.heap.size 0 (w.alloc (.cells #[.int .i64 0] 47)) := ⟨by rw [cell_of_block hn]; rfl, frozen_of_block hn 0⟩
  have HKP : Hid (∀ wr : World, (w.alloc (.cells #[.int .i64 0] 47)).grownBy wr (some w.heap.size) → (∀ b, S b → wr.heap[b]? = w.heap[b]?) ∧ (∀ b, S b → b ≠ w.heap.size ∧ b < wr.heap.size) ∧ Below w.heap.size w wr) := fun wr g =>
    ⟨fun b hb => (g.block b (Nat.lt_of_lt_of_le (hS b hb) ga.size) (fun e => by have := Option.some.inj e; have := hS b hb; omega)).trans (ga.block b (hS b hb) (by simp)), fun b hb => ⟨by have := hS b hb; omega, Nat.lt_of_lt_of_le (hS b hb) (Nat.le_trans ga.size g.size)⟩, (below_of_grown ga).grown g ga.size (fun q e => by cases e; omega)⟩
  have e5 : ((65520 : Nat) : Int) = 65520 := rfl
  clear hl hn ga
  go_enter Tryz.func4, Tryz.ntmps4
  go_wp2_with fail
  generalize w.alloc (.cells #[.int .i64 0] 47) = w0 at *
  go_loopw [4] (fun e wr => ∃ j : Nat, j ≤ l.length ∧ e = .int .i64 (j : Int) ∧ w0.grownBy wr (some w.heap.size) ∧ wtF (l.take j) ≤ 2147483647 ∧ Cnt w.heap.size (wtF (l.take j)) wr) (fun e _ => l.length - (RowKit.intOf e).toNat)
  case atStart => exact ⟨0, by omega, rfl, World.grownBy.refl _ _, by simp [wtF], by simpa [wtF] using hC⟩
  case round =>
    clear hC
    obtain ⟨j, hj, rfl, gj, hnj, hcj⟩ := hrel
    obtain ⟨kb, kS, kB⟩ := HKP.out _ gj
    by_cases hjl : j < l.length
    · have y1 : (j : Int) < l.length := by omega
      obtain ⟨hSb, cs, hrow, v, is, rfl, ⟨ap, cp, bp, op, rfl, hh, hlp⟩, hv⟩ := HL.out j hjl
      obtain rfl : al = some ⟨bl, ol, none⟩ := hal.at_.resolve_left (by omega)
      have hrow' := hrow.keep (kb _ hSb)
      have hv' := V.lies_keep (R' := false) (S' := S) (fun h => h) kb (fun _ h => h) _ hv
      have hlp' := liesP_keep (S' := S) kb (fun _ h => h) hlp
      have HW : Hid (wtF (l.take (j + 1)) = wtF (l.take j) + (l[j]).2.wt + (1 + wtP (l[j]).1)) := by show _ = _; rw [take_succ_wtF hjl]; unfold Lf.wt; omega
      generalize (l[j]).1 = p at *
      generalize (l[j]).2 = x at *
      have c1 := hmk (cval_any x w.heap.size (wtF (l.take j)) 65520 S _ wr hv' kS hcj hnj (by omega))
      rw [e5] at c1
      obtain ⟨vk, vb, vi, vs, val, vnl, vcl, vam, vnm, vcm, rfl⟩ := V.ten hv
      obtain ⟨q, q0, q1, q2, q3, q4, q5⟩ := row7 hrow'
      have HP := hmk hlp'
      clear hrow hrow' hv hv' hlp hlp'
      go_wp2_with fail
      refine c1.out.mono ?_
      rintro e w1 ⟨r, rfl, g1, h1⟩
      have g01 := grown_trans gj g1
      obtain ⟨kb1, kS1, kB1⟩ := HKP.out _ g01
      cases r with
      | true =>
        have HB := hmk kB1
        clear c1 q q0 q1 q2 q3 q4 q5
        go_wp2_with fail
        go_ret
        exact ⟨true, rfl, (fun h => Bool.noConfusion h), HB.out⟩
      | false =>
        obtain ⟨hn1, hc1⟩ := h1 rfl
        have q' : w1.cell? ⟨bl, ol + j * 7, none⟩ = some (.slice ap p.length cp) := (World.cell?_of_block (w := wr) (a := ⟨bl, ol + j * 7, none⟩) ((kb1 _ hSb).trans (kb _ hSb).symm)).trans q
        have n2 := heap_alloc_new w1 (.cells #[.slice ap p.length cp] 25)
        have z2 := alloc_size w1 (.cells #[.slice ap p.length cp] 25)
        have g2 : w1.grownBy (w1.alloc (.cells #[.slice ap p.length cp] 25)) (some w.heap.size) := World.grownBy_alloc _ _ _
        have hz1 : w.heap.size < w1.heap.size := hc1.lt
        have hc2 : Cnt w.heap.size (wtF (l.take j) + x.wt) (w1.alloc (.cells #[.slice ap p.length cp] 25)) := hc1.keep (Below.heap_alloc w1 _ _ hz1)
        obtain ⟨kb2, kS2, kB2⟩ := HKP.out _ (grown_trans g01 g2)
        have hlq : liesQ (w1.alloc (.cells #[.slice ap p.length cp] 25)) (fun b => S b ∨ b = w1.heap.size) [p] w1.heap.size 0 := fun i hi => by
          obtain rfl : i = 0 := by simp at hi; omega
          exact ⟨.inr rfl, .slice ap p.length cp, by rw [cell_of_block n2]; rfl, ap, cp, bp, op, rfl, hh, liesP_keep (fun b hb => (kb2 b hb).trans (kb b hb).symm) (fun b hb => .inl hb) HP.out⟩
        have c2 := hmk (cpathsC_any [p] w.heap.size (wtF (l.take j) + x.wt) (fun b => S b ∨ b = w1.heap.size) (some ⟨w1.heap.size, 0, none⟩) 1 w1.heap.size 0 _ ⟨by simp, by simp [maxLen], .inr rfl, fun h => by cases h⟩ hlq (fun b hb => hb.elim (fun h => kS2 b h) (fun h => ⟨by omega, by omega⟩)) hc2 hn1)
        rw [show [p].length + wtQ [p] = 1 + wtP p by simp [wtQ]] at c2
        have HG := hmk (grown_trans g01 g2)
        clear c1 q q0 q1 q2 q3 q4 q5 n2 z2 hlq kb2 kS2 kB2 hc1 hc2 kb1 kS1 kB1 kb kS kB
        go_wp2_with fail
        refine c2.out.mono ?_
        rintro e w3 ⟨r, rfl, g3, h3⟩
        have G3 := grown_trans HG.out g3
        cases r with
        | true =>
          have HB := hmk (HKP.out _ G3).2.2
          clear c2
          go_wp2_with fail
          go_ret
          exact ⟨true, rfl, (fun h => Bool.noConfusion h), HB.out⟩
        | false =>
          obtain ⟨hn3, hc3⟩ := h3 rfl
          clear c2
          go_wp2_with fail
          go_roundw
          case rel => exact ⟨j + 1, by omega, by go_num, G3, by rw [HW.out]; exact hn3, by rw [HW.out]; exact hc3⟩
          case measure => simp [RowKit.intOf]; omega
    · obtain rfl : j = l.length := by omega
      have y1 : ¬ (l.length : Int) < l.length := by omega
      rw [List.take_length] at hnj
      have HB := hmk kB
      clear kb kS kB
      go_wp2_with fail
      go_ret
      exact ⟨false, rfl, fun _ => hnj, HB.out⟩
end Go.Proofs.YtfekgeaopchilaaGreatDoor
