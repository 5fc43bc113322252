/- joined: CntM CntP SamA -/
import Derived.Test.YtihcggepeadklaaGreatDoorG4
/- whether members are beyond the bound. -/
set_option linter.unusedSimpArgs false
set_option linter.unusedVariables false
namespace Go.Proofs.YtihcggepeadklaaGreatDoor
open Go.RowKit
set_option maxHeartbeats 1600000 in
set_option maxRecDepth 100000 in
theorem cmems_any (m : List Mem) (B n : Nat) (S : Nat → Prop) (am : Option Addr) (cm bm om : Nat) (w : World) (ham : Headed am m.length cm bm om) (hm : liesM false w S m bm om) (hS : ∀ b, S b → b ≠ B ∧ b < w.heap.size) (hc : Cnt B n w) (hn : n ≤ 2147483647) :
    Calls Tryz.prog 78 #[.pointer (some ⟨B, 0, none⟩), .slice am m.length cm] w (CntPost B n (wtM m) w) := by
  have HM : Hid (liesM false w S m bm om) := hm
  have hml : m.length ≤ 9223372036854775807 := Nat.le_trans ham.le ham.max
  clear hm
  have hkeep : ∀ wr : World, w.grownBy wr (some B) → ∀ b, S b → wr.heap[b]? = w.heap[b]? := fun wr g b hb => g.block b (hS b hb).2 (fun e => (hS b hb).1 (Option.some.inj e))
  go_enter Tryz.func78, Tryz.ntmps78
  go_wp2_with fail
  go_loopw [5] (fun e wr => ∃ j : Nat, j ≤ m.length ∧ e = .int .i64 (j : Int) ∧ n + wtM (m.take j) ≤ 2147483647 ∧ Cnt B (n + wtM (m.take j)) wr ∧ w.grownBy wr (some B)) (fun e _ => m.length - (RowKit.intOf e).toNat)
  case atStart => exact ⟨0, by omega, rfl, by simpa [wtM] using hn, by simpa [wtM] using hc, World.grownBy.refl w (some B)⟩
  case round =>
    clear hn hc
    obtain ⟨j, hj, rfl, hnj, hcj, gj⟩ := hrel
    by_cases hjl : j < m.length
    · have y1 : (j : Int) < m.length := by omega
      obtain ⟨hSb, hks, csj, hrow, hlj⟩ := liesM_get HM.out j hjl
      obtain rfl : am = some ⟨bm, om, none⟩ := ham.at_.resolve_left (by omega)
      have hrow' := hrow.keep (hkeep wr gj _ hSb)
      have hlj' := V.lies_keep (R' := false) (S' := S) (fun h => h) (hkeep wr gj) (fun _ h => h) _ hlj
      have HT : Hid (wtM (m.take (j + 1)) = wtM (m.take j) + ((m[j]).1.size + (m[j]).2.wt)) := take_succ_wtM hjl
      obtain ⟨ek, eb, ei, es, eal, enl, ecl, eam, enm, ecm, rfl⟩ := V.ten hlj
      generalize hmj : m[j] = mj at *
      obtain ⟨q, q0, q1, q2, q3, q4, q5⟩ := row7 hrow'
      clear hlj hrow hrow'
      go_wp2_with fail
      refine (many_any B _ mj.1.size wr hcj hnj hks).mono ?_
      rintro e w3 ⟨r, rfl, g3, h3⟩
      cases r
      · obtain ⟨hn3, hc3⟩ := h3 rfl
        have g03 := grown_trans gj g3
        have hlj3 := V.lies_keep (R' := false) (S' := S) (fun h => h) (fun b hb => (g3.block b (Nat.lt_of_lt_of_le (hS b hb).2 gj.size) (fun e => (hS b hb).1 (Option.some.inj e)))) (fun _ h => h) _ hlj'
        have ih := cval_any mj.2 B _ 65520 S _ w3 hlj3 (fun b hb => ⟨(hS b hb).1, by have := (hS b hb).2; have := g03.size; omega⟩) hc3 hn3 (by omega)
        have e5 : ((65520 : Nat) : Int) = 65520 := rfl
        rw [e5] at ih
        have hbne : some bm ≠ some B := fun e => (hS bm hSb).1 (Option.some.inj e)
        replace q := g3.cell q hbne
        replace q0 := g3.cell q0 hbne
        replace q1 := g3.cell q1 hbne
        replace q2 := g3.cell q2 hbne
        replace q3 := g3.cell q3 hbne
        replace q4 := g3.cell q4 hbne
        replace q5 := g3.cell q5 hbne
        clear hlj' hlj3 h3
        go_wp2_with fail
        refine ih.mono ?_
        rintro e w4 ⟨r, rfl, g4, h4⟩
        cases r
        · obtain ⟨hn4, hc4⟩ := h4 rfl
          go_wp2_with fail
          go_roundw
          case rel => exact ⟨j + 1, by omega, by go_num, by rw [HT.out]; omega, by rw [HT.out]; simpa only [Nat.add_assoc] using hc4, grown_trans g03 g4⟩
          case measure => simp [RowKit.intOf]; omega
        · go_wp2_with fail
          go_ret
          exact ⟨true, rfl, grown_trans g03 g4, fun h => by cases h⟩
      · go_wp2_with fail
        go_ret
        exact ⟨true, rfl, grown_trans gj g3, fun h => by cases h⟩
    · obtain rfl : j = m.length := by omega
      rw [List.take_length] at hnj hcj
      have y1 : ¬ (m.length : Int) < m.length := by omega
      go_wp2_with fail
      go_ret
      exact ⟨false, rfl, gj, fun _ => ⟨hnj, hcj⟩⟩
end Go.Proofs.YtihcggepeadklaaGreatDoor
/- freeholdref00: an element and a path are counted. -/
namespace Go.Proofs.YtihcggepeadklaaGreatDoor
open Go.RowKit Go.Lib
set_option maxHeartbeats 4000000 in
set_option maxRecDepth 100000 in
theorem celem_any (e : El) (B n : Nat) (S : Nat → Prop) (cs : List Value) (w : World) (hl : e.lies w S cs) (hS : ∀ b, S b → b ≠ B ∧ b < w.heap.size) (hc : Cnt B n w) (hn : n ≤ 2147483647) :
    Calls Tryz.prog 50 #[.pointer (some ⟨B, 0, none⟩), .agg cs.toArray] w (CntPost B n e.wt w) := by
  obtain ⟨k, nm, m, v⟩ := e
  obtain ⟨am, cm, bm, om, is, rfl, hk, hnm, ham, hm, hv⟩ := hl
  dsimp only at hk hnm ham hm hv ⊢
  have HM := hmk hm
  have HV := hmk hv
  obtain ⟨vk, vb, vi, vs, val, vnl, vcl, vam, vnm, vcm, rfl⟩ := V.ten hv
  clear hm hv
  have hB := hc.lt
  have e5 : ((65520 : Nat) : Int) = 65520 := rfl
  have g0 : w.grownBy (w.alloc (.cells #[.int .i64 k, .string nm, .slice am m.length cm, .int .i64 vk, .bool vb, .int .i64 vi, .string vs, .slice val vnl vcl, .slice vam vnm vcm] 48)) (some B) := World.grownBy_alloc _ _ _
  have hbx : rowAt (w.alloc (.cells #[.int .i64 k, .string nm, .slice am m.length cm, .int .i64 vk, .bool vb, .int .i64 vi, .string vs, .slice val vnl vcl, .slice vam vnm vcm] 48)) w.heap.size 0 [.int .i64 k, .string nm, .slice am m.length cm, .int .i64 vk, .bool vb, .int .i64 vi, .string vs, .slice val vnl vcl, .slice vam vnm vcm] := box_row w _ 48
  have hbw := box_lt w (.cells #[.int .i64 k, .string nm, .slice am m.length cm, .int .i64 vk, .bool vb, .int .i64 vi, .string vs, .slice val vnl vcl, .slice vam vnm vcm] 48)
  have hc0 : Cnt B n (w.alloc (.cells #[.int .i64 k, .string nm, .slice am m.length cm, .int .i64 vk, .bool vb, .int .i64 vi, .string vs, .slice val vnl vcl, .slice vam vnm vcm] 48)) := hc.keep (Below.heap_alloc w _ B hB)
  obtain ⟨d0, d1, d2, d3, d4, d5, d6, d7, d8⟩ := row9z hbx
  have c1 := hmk (cval_any v B n 65520 S _ _ (V.lies_keep (fun h => h) (fun b hb => g0.block b (hS b hb).2 (fun e => (hS b hb).1 (Option.some.inj e))) (fun _ h => h) _ HV.out) (fun b hb => ⟨(hS b hb).1, Nat.lt_of_lt_of_le (hS b hb).2 g0.size⟩) hc0 hn (by omega))
  rw [e5] at c1
  go_enter Tryz.func50, Tryz.ntmps50
  go_wp2_with fail
  refine c1.out.mono ?_
  rintro e w1 ⟨r, rfl, g1, h1⟩
  clear d0 d1 d2 d3 d4 d5 d6 d7 d8
  generalize w.alloc (.cells #[.int .i64 k, .string nm, .slice am m.length cm, .int .i64 vk, .bool vb, .int .i64 vi, .string vs, .slice val vnl vcl, .slice vam vnm vcm] 48) = w0 at *
  have HBX : Hid (∀ wr : World, w0.grownBy wr (some B) → rowAt wr w.heap.size 0 [.int .i64 k, .string nm, .slice am m.length cm, .int .i64 vk, .bool vb, .int .i64 vi, .string vs, .slice val vnl vcl, .slice vam vnm vcm]) := fun wr g =>
    hbx.keep (g.block _ hbw (fun e => by have := Option.some.inj e; omega))
  clear hbx
  cases r
  · obtain ⟨hn1, hc1⟩ := h1 rfl
    obtain ⟨d0, d1, d2, d3, d4, d5, d6, d7, d8⟩ := row9z (HBX.out w1 g1)
    go_wp2_with fail
    refine (many_any B (n + v.wt) nm.size w1 hc1 hn1 hnm).mono ?_
    rintro e w2 ⟨r, rfl, g2, h2⟩
    have g02 := grown_trans g1 g2
    cases r
    · obtain ⟨hn2, hc2⟩ := h2 rfl
      clear d0 d1 d2 d3 d4 d5 d6 d7 d8
      obtain ⟨d0, d1, d2, d3, d4, d5, d6, d7, d8⟩ := row9z (HBX.out w2 g02)
      have gw := grown_trans g0 g02
      have c3 := hmk (cmems_any m B _ S am cm bm om w2 ham (liesM_keep (fun h => h) (fun b hb => gw.block b (hS b hb).2 (fun e => (hS b hb).1 (Option.some.inj e))) (fun _ h => h) _ HM.out) (fun b hb => ⟨(hS b hb).1, Nat.lt_of_lt_of_le (hS b hb).2 gw.size⟩) hc2 hn2)
      go_wp2_with fail
      refine c3.out.mono ?_
      rintro e w3 ⟨r, rfl, g3, h3⟩
      go_wp2_with fail
      go_ret
      refine ⟨r, rfl, grown_trans gw g3, fun h => ?_⟩
      obtain ⟨a1, a2⟩ := h3 h
      have ew : n + (El.mk k nm m v).wt = n + v.wt + nm.size + wtM m := by unfold El.wt; dsimp only; omega
      rw [ew]
      exact ⟨a1, a2⟩
    · go_wp2_with fail
      go_ret
      exact ⟨true, rfl, grown_trans g0 g02, fun h => by cases h⟩
  · go_wp2_with fail
    go_ret
    exact ⟨true, rfl, grown_trans g0 g1, fun h => by cases h⟩
end Go.Proofs.YtihcggepeadklaaGreatDoor
/- same. -/
namespace Go.Proofs.YtihcggepeadklaaGreatDoor
open Go.RowKit
theorem two_below (w : World) (o o' : Obj) : Below w.heap.size w ((w.alloc o).alloc o') := ((Below.refl w.heap.size w).alloc (Nat.le_refl _) _).alloc (by rw [alloc_size]; omega) _
theorem bytes_eq {a b : ByteArray} (h : a.toList = b.toList) : a = b := by
  rw [ByteArray.toList_eq, ByteArray.toList_eq] at h
  exact Go.WideShapes.bytes_inj h
end Go.Proofs.YtihcggepeadklaaGreatDoor
