/- joined: CntP SamA -/
import Derived.Test.YtihcggepeadklaaGreatDoorG11
/- freeholdref00: an element and a path are counted. -/
set_option linter.unusedSimpArgs false
set_option linter.unusedVariables false
namespace Go.Proofs.YtihcggepeadklaaGreatDoor
open Go.RowKit Go.Lib
set_option maxHeartbeats 4000000 in
set_option maxRecDepth 100000 in
theorem celem_any (e : El) (B n : Nat) (S : Nat → Prop) (cs : List Value) (w : World) (hl : e.lies w S cs) (hS : ∀ b, S b → b ≠ B ∧ b < w.heap.size) (hc : Cnt B n w) (hn : n ≤ 2147483647) :
    Calls Tryz.prog 50 #[.pointer (some ⟨B, 0, none⟩), .agg cs.toArray] w (CntPost B n e.wt w) := by
  obtain ⟨k, nm, m, v⟩ := e
  obtain ⟨am, cm, bm, om, is, rfl, hk, hnm, ham, hm, hv⟩ := hl
  dsimp only at hk hnm ham hm hv ⊢
  have HM := hmk hm
  have HV := hmk hv
  obtain ⟨vk, vb, vi, vs, val, vnl, vcl, vam, vnm, vcm, rfl⟩ := V.ten hv
  clear hm hv
  have hB := hc.lt
  have e5 : ((65520 : Nat) : Int) = 65520 := rfl
  have g0 : w.grownBy (w.alloc (.cells #[.int .i64 k, .string nm, .slice am m.length cm, .int .i64 vk, .bool vb, .int .i64 vi, .string vs, .slice val vnl vcl, .slice vam vnm vcm] 48)) (some B) := World.grownBy_alloc _ _ _
  have hbx : rowAt (w.alloc (.cells #[.int .i64 k, .string nm, .slice am m.length cm, .int .i64 vk, .bool vb, .int .i64 vi, .string vs, .slice val vnl vcl, .slice vam vnm vcm] 48)) w.heap.size 0 [.int .i64 k, .string nm, .slice am m.length cm, .int .i64 vk, .bool vb, .int .i64 vi, .string vs, .slice val vnl vcl, .slice vam vnm vcm] := box_row w _ 48
  have hbw := box_lt w (.cells #[.int .i64 k, .string nm, .slice am m.length cm, .int .i64 vk, .bool vb, .int .i64 vi, .string vs, .slice val vnl vcl, .slice vam vnm vcm] 48)
  have hc0 : Cnt B n (w.alloc (.cells #[.int .i64 k, .string nm, .slice am m.length cm, .int .i64 vk, .bool vb, .int .i64 vi, .string vs, .slice val vnl vcl, .slice vam vnm vcm] 48)) := hc.keep (Below.heap_alloc w _ B hB)
  obtain ⟨d0, d1, d2, d3, d4, d5, d6, d7, d8⟩ := row9z hbx
  have c1 := hmk (cval_any v B n 65520 S _ _ (V.lies_keep (fun h => h) (fun b hb => g0.block b (hS b hb).2 (fun e => (hS b hb).1 (Option.some.inj e))) (fun _ h => h) _ HV.out) (fun b hb => ⟨(hS b hb).1, Nat.lt_of_lt_of_le (hS b hb).2 g0.size⟩) hc0 hn (by omega))
  rw [e5] at c1
  go_enter Tryz.func50, Tryz.ntmps50
  go_wp2_with fail
  refine c1.out.mono ?_
  rintro e w1 ⟨r, rfl, g1, h1⟩
  clear d0 d1 d2 d3 d4 d5 d6 d7 d8
  generalize w.alloc (.cells #[.int .i64 k, .string nm, .slice am m.length cm, .int .i64 vk, .bool vb, .int .i64 vi, .string vs, .slice val vnl vcl, .slice vam vnm vcm] 48) = w0 at *
  have HBX : Hid (∀ wr : World, w0.grownBy wr (some B) → rowAt wr w.heap.size 0 [.int .i64 k, .string nm, .slice am m.length cm, .int .i64 vk, .bool vb, .int .i64 vi, .string vs, .slice val vnl vcl, .slice vam vnm vcm]) := fun wr g =>
    hbx.keep (g.block _ hbw (fun e => by have := Option.some.inj e; omega))
  clear hbx
  cases r
  · obtain ⟨hn1, hc1⟩ := h1 rfl
    obtain ⟨d0, d1, d2, d3, d4, d5, d6, d7, d8⟩ := row9z (HBX.out w1 g1)
    go_wp2_with fail
    refine (many_any B (n + v.wt) nm.size w1 hc1 hn1 hnm).mono ?_
    rintro e w2 ⟨r, rfl, g2, h2⟩
    have g02 := grown_trans g1 g2
    cases r
    · obtain ⟨hn2, hc2⟩ := h2 rfl
      clear d0 d1 d2 d3 d4 d5 d6 d7 d8
      obtain ⟨d0, d1, d2, d3, d4, d5, d6, d7, d8⟩ := row9z (HBX.out w2 g02)
      have gw := grown_trans g0 g02
      have c3 := hmk (cmems_any m B _ S am cm bm om w2 ham (liesM_keep (fun h => h) (fun b hb => gw.block b (hS b hb).2 (fun e => (hS b hb).1 (Option.some.inj e))) (fun _ h => h) _ HM.out) (fun b hb => ⟨(hS b hb).1, Nat.lt_of_lt_of_le (hS b hb).2 gw.size⟩) hc2 hn2)
      go_wp2_with fail
      refine c3.out.mono ?_
      rintro e w3 ⟨r, rfl, g3, h3⟩
      go_wp2_with fail
      go_ret
      refine ⟨r, rfl, grown_trans gw g3, fun h => ?_⟩
      obtain ⟨a1, a2⟩ := h3 h
      have ew : n + (El.mk k nm m v).wt = n + v.wt + nm.size + wtM m := by unfold El.wt; dsimp only; omega
      rw [ew]
      exact ⟨a1, a2⟩
    · go_wp2_with fail
      go_ret
      exact ⟨true, rfl, grown_trans g0 g02, fun h => by cases h⟩
  · go_wp2_with fail
    go_ret
    exact ⟨true, rfl, grown_trans g0 g1, fun h => by cases h⟩
def PaPost (B : Nat) (p : List El) (w : World) (e : Ending) (w' : World) : Prop := ∃ r, e = .returned (.bool r) ∧ w.grownBy w' (some B) ∧ (r = false → wtP p ≤ 2147483647)
set_option maxHeartbeats 4000000 in
set_option maxRecDepth 100000 in
theorem cpaths_any (p : List El) (B n G c : Nat) (S : Nat → Prop) (ap : Option Addr) (cp bp op : Nat) (w : World) (hap : Headed ap p.length cp bp op) (hp : liesP w S p bp op) (hG : w.cell? ⟨G, 0, none⟩ = some (.slice ap p.length cp)) (hGB : G ≠ B) (hS : ∀ b, S b → b ≠ B ∧ b < w.heap.size) (hc : Cnt B n w) (hn : n ≤ 2147483647) :
    Calls Tryz.prog 27 #[.pointer (some ⟨B, 0, none⟩), .slice (some ⟨G, 0, none⟩) 1 c] w (PaPost B p w) := by
  have HP := hmk hp
  have hlp : p.length ≤ 9223372036854775807 := Nat.le_trans hap.le hap.max
  have HKP : Hid (∀ wr : World, w.grownBy wr (some B) → ∀ b, S b → wr.heap[b]? = w.heap[b]?) := fun wr g b hb => g.block b (hS b hb).2 (fun e => (hS b hb).1 (Option.some.inj e))
  have HG : Hid (∀ wr : World, w.grownBy wr (some B) → wr.cell? ⟨G, 0, none⟩ = some (.slice ap p.length cp)) := fun wr g => g.cell hG (fun e => hGB (Option.some.inj e))
  have c1 := hmk (many_any B n 1 w hc hn (by simp [maxLen]))
  clear hp hG
  go_enter Tryz.func27, Tryz.ntmps27
  go_wp2_with fail
  refine c1.out.mono ?_
  rintro e w1 ⟨r, rfl, g1, h1⟩
  cases r
  case true =>
    go_wp2_with fail
    go_ret
    exact ⟨true, rfl, g1, fun h => by cases h⟩
  obtain ⟨hn1, hc1⟩ := h1 rfl
  go_wp2_with fail
  go_loopw [5] (fun e wr => ∃ j : Nat, j ≤ 1 ∧ e = .int .i64 (j : Int) ∧ w.grownBy wr (some B) ∧ Hid (j = 0 → Cnt B (n + 1) wr) ∧ Hid (j = 1 → wtP p ≤ 2147483647)) (fun e _ => 1 - (RowKit.intOf e).toNat)
  case atStart => exact ⟨0, by omega, rfl, g1, fun _ => hc1, fun h => by cases h⟩
  case round =>
    obtain ⟨j, hj, rfl, gj, hj0, hj1⟩ := hrel
    by_cases hjl : j = 0
    · subst hjl
      have hcj := hj0.out rfl
      clear hj0 hj1
      have y1 : ((0 : Nat) : Int) < 1 := by omega
      go_wp2_with fail
      go_loopw [6] (fun e wr => ∃ i : Nat, i ≤ p.length ∧ e = .int .i64 (i : Int) ∧ w.grownBy wr (some B) ∧ n + 1 + wtP (p.take i) ≤ 2147483647 ∧ Cnt B (n + 1 + wtP (p.take i)) wr) (fun e _ => p.length - (RowKit.intOf e).toNat)
      case atStart => exact ⟨0, by omega, rfl, gj, by simpa [wtP] using hn1, by simpa [wtP] using hcj⟩
      case round =>
        clear hcj gj
        obtain ⟨i, hi, rfl, gj, hni, hci⟩ := hrel
        have dG := HG.out wr gj
        by_cases hil : i < p.length
        · have y2 : (i : Int) < p.length := by omega
          obtain ⟨hSb, csj, hrow, hlj⟩ := HP.out i hil
          obtain rfl : ap = some ⟨bp, op, none⟩ := hap.at_.resolve_left (by omega)
          have hlr := El.lies_keep (HKP.out wr gj) (fun _ h => h) hlj
          have CE := hmk (celem_any p[i] B (n + 1 + wtP (p.take i)) S csj wr hlr (fun b hb => ⟨(hS b hb).1, Nat.lt_of_lt_of_le (hS b hb).2 gj.size⟩) hci hni)
          have HW : Hid (n + 1 + wtP (p.take (i + 1)) = n + 1 + wtP (p.take i) + (p[i]).wt) := by show _ = _; rw [take_succ_wtP hil]; omega
          obtain ⟨k, s, am, nm, cm, vk, vb, vi, vs, val, vnl, vcl, vam, vnm, vcm, rfl⟩ := El.nine hlj
          obtain ⟨q0, q1, q2, q3, q4, q5, q6, q7, q8⟩ := row9 (hrow.keep (HKP.out wr gj bp hSb))
          clear hlj hlr hrow
          go_wp2_with fail
          refine CE.out.mono ?_
          rintro e w2 ⟨r, rfl, g2, h2⟩
          cases r
          · obtain ⟨hn2, hc2⟩ := h2 rfl
            go_wp2_with fail
            go_roundw
            case rel => exact ⟨_, _, _, _, _, _, _, _, _, _, _, _, _, _, _, _, _, _, _, _, _, _, ⟨i + 1, by omega, by go_num, grown_trans gj g2, by rw [HW.out]; exact hn2, by rw [HW.out]; exact hc2⟩, rfl⟩
            case measure => simp [RowKit.intOf]; omega
          · go_wp2_with fail
            go_ret
            exact ⟨true, rfl, grown_trans gj g2, fun h => by cases h⟩
        · obtain rfl : i = p.length := by omega
          have y2 : ¬ (p.length : Int) < p.length := by omega
          rw [List.take_length] at hni hci
          go_wp2_with fail
          go_roundw
          case rel => exact ⟨1, by omega, by go_num, gj, fun h => absurd h (by omega), fun _ => by omega⟩
          case measure => simp [RowKit.intOf]
    · obtain rfl : j = 1 := by omega
      have y1 : ¬ ((1 : Nat) : Int) < 1 := by omega
      go_wp2_with fail
      go_ret
      exact ⟨false, rfl, gj, fun _ => hj1.out trivial⟩
def PbPost (p : List El) (w : World) (e : Ending) (w' : World) : Prop := ∃ r, e = .returned (.bool r) ∧ (r = false → wtP p ≤ 2147483647) ∧ Below w.heap.size w w'
set_option maxHeartbeats 4000000 in
set_option maxRecDepth 100000 in
theorem bpaths_any (p : List El) (G c : Nat) (S : Nat → Prop) (ap : Option Addr) (cp bp op : Nat) (w : World) (hap : Headed ap p.length cp bp op) (hp : liesP w S p bp op) (hG : w.cell? ⟨G, 0, none⟩ = some (.slice ap p.length cp)) (hS : ∀ b, S b → b < w.heap.size) :
    Calls Tryz.prog 15 #[.slice (some ⟨G, 0, none⟩) 1 c] w (PbPost p w) := by
  have ga : w.grownBy (w.alloc (.cells #[.int .i64 0] 65)) none := World.grownBy_alloc _ _ _
  have hn := heap_alloc_new w (.cells #[.int .i64 0] 65)
  have hC : Cnt w.heap.size 0 (w.alloc (.cells #[.int .i64 0] 65)) := ⟨by rw [cell_of_block hn]; rfl, frozen_of_block hn 0⟩
  have hGl : G < w.heap.size := World.block_lt_of_cell? w _ hG
  have c := hmk (cpaths_any p w.heap.size 0 G c S ap cp bp op (w.alloc (.cells #[.int .i64 0] 65)) hap (liesP_keep (fun x hx => ga.block x (hS x hx) (by simp)) (fun _ h => h) hp) (ga.cell hG (by simp)) (by omega) (fun x hx => ⟨by have := hS x hx; omega, Nat.lt_of_lt_of_le (hS x hx) ga.size⟩) hC (by omega))
  have HG := hmk ga
  clear hp hn hC hG ga
  go_enter Tryz.func15, Tryz.ntmps15
  go_wp2_with fail
  refine c.out.mono ?_
  rintro e w1 ⟨r, rfl, g1, h1⟩
  go_wp2_with fail
  go_ret
  exact ⟨r, rfl, h1, (below_of_grown HG.out).grown g1 HG.out.size (fun q e => by cases e; omega)⟩
set_option maxHeartbeats 4000000 in
set_option maxRecDepth 100000 in
theorem bpath_any (p : List El) (S : Nat → Prop) (ap : Option Addr) (cp bp op : Nat) (w : World) (hap : Headed ap p.length cp bp op) (hp : liesP w S p bp op) (hS : ∀ b, S b → b < w.heap.size) :
    Calls Tryz.prog 7 #[.slice ap p.length cp] w (PbPost p w) := by
  have b1 : Below w.heap.size w (w.alloc (.cells #[.slice ap p.length cp] 23)) := (Below.refl _ _).alloc (Nat.le_refl _) _
  have c := hmk (bpaths_any p w.heap.size 1 S ap cp bp op (w.alloc (.cells #[.slice ap p.length cp] 23)) hap (liesP_keep (fun x hx => b1.block x (hS x hx)) (fun _ h => h) hp) (by rw [cell_of_block (heap_alloc_new w _)]; rfl) (fun x hx => Nat.lt_of_lt_of_le (hS x hx) b1.size))
  have HB := hmk b1
  clear hp b1
  go_enter Tryz.func7, Tryz.ntmps7
  go_wp2_with fail
  refine c.out.mono ?_
  rintro e w1 ⟨r, rfl, h1, b2⟩
  go_wp2_with fail
  go_ret
  exact ⟨r, rfl, h1, HB.out.trans (b2.mono HB.out.size)⟩
end Go.Proofs.YtihcggepeadklaaGreatDoor
/- same. -/
namespace Go.Proofs.YtihcggepeadklaaGreatDoor
open Go.RowKit
theorem two_below (w : World) (o o' : Obj) : Below w.heap.size w ((w.alloc o).alloc o') := ((Below.refl w.heap.size w).alloc (Nat.le_refl _) _).alloc (by rw [alloc_size]; omega) _
theorem bytes_eq {a b : ByteArray} (h : a.toList = b.toList) : a = b := by
  rw [ByteArray.toList_eq, ByteArray.toList_eq] at h
  exact Go.WideShapes.bytes_inj h
end Go.Proofs.YtihcggepeadklaaGreatDoor
