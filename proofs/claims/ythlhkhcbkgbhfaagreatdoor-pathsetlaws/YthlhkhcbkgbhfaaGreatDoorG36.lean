/- joined: AwcL AwdL -/
import Derived.Test.YthlhkhcbkgbhfaaGreatDoorAwbL
import Derived.Test.YthlhkhcbkgbhfaaGreatDoorG31
/- One path added to a new tree. -/
set_option linter.unusedSimpArgs false
set_option linter.unusedVariables false
namespace Go.Proofs.YthlhkhcbkgbhfaaGreatDoor
open Go Go.RowKit Go.Lib Go.Shelf
set_option maxHeartbeats 8000000 in
set_option maxRecDepth 100000 in
theorem add_any (nm : ByteArray) (hnm : nm.size ≤ 1000) (hpb : pathB [fldE nm] = true) (T b : Nat) (w : World) (t : Tb w) (hT : w.heap[T]? = some (.cells #[.int .i64 0, .string ⟨#[]⟩, .slice none 0 0, .int .i64 0, .bool false, .int .i64 0, .string ⟨#[]⟩, .slice none 0 0, .slice none 0 0, .bool false, .slice none 0 0, .int .i64 0] 78 (0, 0))) (hb : w.heap[b]? = some (.cells #[.int .i64 1, .string nm, .slice none 0 0, .int .i64 0, .bool false, .int .i64 0, .string ⟨#[]⟩, .slice none 0 0, .slice none 0 0] 66 (0, 0))) :
    Calls Tryz.prog 29 #[.pointer (some ⟨T, 0, none⟩), .slice (some ⟨b, 0, none⟩) 1 1] w fun e w' => ∃ g nd, e = .returned (.tuple #[.bool true, .int .i64 0]) ∧ Kid w' T g nd true (.int .i64 1) ∧ w.heap.size ≤ g ∧ w.heap.size ≤ nd ∧ w.grownBy w' (some T) := by
  have hTs : T < w.heap.size := (Array.getElem?_eq_some_iff.1 hT).1
  have hbs : b < w.heap.size := (Array.getElem?_eq_some_iff.1 hb).1
  have hTb : b ≠ T := fun e => by rw [e, hT] at hb; simp at hb
  have hmx : nm.size ≤ maxLen := by simp only [maxLen]; omega
  have hv0 : (V.mk 0 false 0 ⟨#[]⟩ [] []).wt ≤ 100 := by
    first
    | decide
    | (rw [V.wt, wtL, wtM]; decide)
    | (simp [V.wt, wtL, wtM])
  have hm0 : wtM [] = 0 := by first | rfl | rw [wtM]
  have hwe : (fldE nm).wt ≤ 2147483647 := by
    show (V.mk 0 false 0 ⟨#[]⟩ [] []).wt + nm.size + wtM [] ≤ 2147483647
    omega
  have hwt : wtP [fldE nm] ≤ 2147483647 := by
    show (V.mk 0 false 0 ⟨#[]⟩ [] []).wt + nm.size + wtM [] + 0 ≤ 2147483647
    omega
  have c1 := hmk (ready_any ⟨T, 0, none⟩ [fldE nm] (fun x => x = b) (some ⟨b, 0, none⟩) 1 b 0 w t ⟨Nat.le_refl _, by simp [maxLen], .inr rfl, fun h => by cases h⟩ (fld_path nm hmx hb rfl) (fun x hx => by rw [hx]; exact hbs) hwt)
  have e0 : errP [fldE nm] = 0 := errP_yes hpb
  rw [e0] at c1
  clear t hpb e0
  go_enter Tryz.func29, Tryz.ntmps29
  go_wp2_with fail
  refine c1.out.mono ?_
  rintro e w1 ⟨rfl, b1⟩
  have hz1 := b1.size
  have hT1 := (b1.block T hTs).trans hT
  have hb1 := (b1.block b hbs).trans hb
  clear c1
  go_wp2_with fail
  go_loopw [7, 21] (fun e7 e21 wr => (e21 = .int .i64 0 ∧ e7 = .pointer (some ⟨T, 0, none⟩) ∧ wr = w1) ∨ (e21 = .int .i64 1 ∧ ∃ g nd, e7 = .pointer (some ⟨nd, 0, none⟩) ∧ Kid wr T g nd false (.int .i64 0) ∧ w.heap.size ≤ g ∧ w.heap.size ≤ nd ∧ g ≠ nd ∧ w.grownBy wr (some T))) (fun _ e21 _ => 1 - (RowKit.intOf e21).toNat)
  case atStart => exact .inl ⟨rfl, rfl, rfl⟩
  case round =>
    rcases hrel with ⟨rfl, rfl, rfl⟩ | ⟨rfl, g, nd, rfl, hK, hg, hnd, hgn, hG⟩
    · obtain ⟨q0, q1, q2, q3, q4, q5, q6, q7, q8⟩ := row9z (row_block (cs := [.int .i64 1, .string nm, .slice none 0 0, .int .i64 0, .bool false, .int .i64 0, .string ⟨#[]⟩, .slice none 0 0, .slice none 0 0]) hb1)
      have ba : Below wr.heap.size wr (wr.alloc (.cells #[.int .i64 1, .string nm, .slice none 0 0, .int .i64 0, .bool false, .int .i64 0, .string ⟨#[]⟩, .slice none 0 0, .slice none 0 0] 66)) := (Below.refl _ _).alloc (Nat.le_refl _) _
      have hza := alloc_size wr (.cells #[.int .i64 1, .string nm, .slice none 0 0, .int .i64 0, .bool false, .int .i64 0, .string ⟨#[]⟩, .slice none 0 0, .slice none 0 0] 66)
      have CE := hmk (kidn_any (fldE nm) (fun _ => False) 1 nm none 0 0 0 false 0 ⟨#[]⟩ none 0 0 none 0 0 (.int .i64 0) (.string ⟨#[]⟩) (.slice none 0 0) (.int .i64 0) (.bool false) (.int .i64 0) (.string ⟨#[]⟩) (.slice none 0 0) (.slice none 0 0) (.int .i64 0) T (wr.alloc (.cells #[.int .i64 1, .string nm, .slice none 0 0, .int .i64 0, .bool false, .int .i64 0, .string ⟨#[]⟩, .slice none 0 0, .slice none 0 0] 66)) (fld_lies nm hmx _ _) (fun _ h => h.elim) (fun _ h => h.elim) hwe ((ba.block T (by omega)).trans hT1))
      go_wp2_with fail
      generalize (wr.alloc (.cells #[.int .i64 1, .string nm, .slice none 0 0, .int .i64 0, .bool false, .int .i64 0, .string ⟨#[]⟩, .slice none 0 0, .slice none 0 0] 66)) = wa at *
      refine CE.out.mono ?_
      rintro e w2 ⟨g, nd, rfl, hK, hg, hnd, hgn, hG⟩
      have hG2 : w.grownBy w2 (some T) := ⟨hG.os.trans (ba.os.trans b1.os), hG.tape.trans (ba.tape.trans b1.tape), hG.output.trans (ba.output.trans b1.output), by have := hG.size; omega, fun k hk hne => by rw [hG.block k (by omega) hne, ba.block k (by omega), b1.block k hk]⟩
      clear CE q0 q1 q2 q3 q4 q5 q6 q7 q8 hG
      go_wp2_with fail
      go_roundw
      case rel => exact .inr ⟨by go_num, g, nd, rfl, hK, by omega, by omega, hgn, hG2⟩
      case measure => simp [RowKit.intOf]
    · obtain ⟨⟨c0, c1, c2, c3, c4, c5, c6, c7, c8, bi, cap, hTr, hc1, hc2, rfl⟩, ⟨arr, hgr, ha0⟩, ⟨fk, fn, fma, fml, fmc, uk, ub, ui, us, ual, unl, ucl, uam, unm, ucm, hnr⟩⟩ := hK
      have hndT : nd ≠ T := by omega
      have hgT : g ≠ T := by omega
      have k9 : wr.cell? ⟨nd, 9, none⟩ = some (.bool false) := by rw [cell_of_block hnr]; rfl
      have f9 := frozen_of_block hnr
      have hn1 : (wr.setCell ⟨nd, 9, none⟩ (.bool true)).heap[nd]? = some (.cells #[.int .i64 fk, .string fn, .slice fma fml fmc, .int .i64 uk, .bool ub, .int .i64 ui, .string us, .slice ual unl ucl, .slice uam unm ucm, .bool true, .slice none 0 0] 76 (0, 0)) := by rw [set_block hnr]; rfl
      have hT2 : (wr.setCell ⟨nd, 9, none⟩ (.bool true)).heap[T]? = some (.cells #[c0, c1, c2, c3, c4, c5, c6, c7, c8, .bool false, .slice (some ⟨g, 0, none⟩) 1 cap, .int .i64 0] 78 (0, 0)) := (set_other (by omega)).trans hTr
      have k11 : (wr.setCell ⟨nd, 9, none⟩ (.bool true)).cell? ⟨T, 11, none⟩ = some (.int .i64 0) := by rw [cell_of_block hT2]; rfl
      have f11 := frozen_of_block hT2
      have hT3 : ((wr.setCell ⟨nd, 9, none⟩ (.bool true)).setCell ⟨T, 11, none⟩ (.int .i64 1)).heap[T]? = some (.cells #[c0, c1, c2, c3, c4, c5, c6, c7, c8, .bool false, .slice (some ⟨g, 0, none⟩) 1 cap, .int .i64 1] 78 (0, 0)) := by rw [set_block hT2]; rfl
      have hn3 := (set_other (w := wr.setCell ⟨nd, 9, none⟩ (.bool true)) (g := T) (o := 11) (u := .int .i64 1) hndT).trans hn1
      have hg3 : ((wr.setCell ⟨nd, 9, none⟩ (.bool true)).setCell ⟨T, 11, none⟩ (.int .i64 1)).heap[g]? = some (.cells arr 79 (0, 0)) := (set_other (by omega)).trans ((set_other (by omega)).trans hgr)
      have G2 : w.grownBy (wr.setCell ⟨nd, 9, none⟩ (.bool true)) (some T) := ⟨hG.os, hG.tape, hG.output, by rw [size_set1]; exact hG.size, fun k hk hne => (set_other (by omega)).trans (hG.block k hk hne)⟩
      have G3 : w.grownBy ((wr.setCell ⟨nd, 9, none⟩ (.bool true)).setCell ⟨T, 11, none⟩ (.int .i64 1)) (some T) := grown_set G2 11 _
      go_wp2_with fail
      go_ret2
      exact ⟨g, nd, rfl, ⟨⟨c0, c1, c2, c3, c4, c5, c6, c7, c8, _, cap, hT3, hc1, hc2, rfl⟩, ⟨arr, hg3, ha0⟩, ⟨fk, fn, fma, fml, fmc, uk, ub, ui, us, ual, unl, ucl, uam, unm, ucm, hn3⟩⟩, hg, hnd, G3⟩
theorem trailn_any (T : Nat) (w : World) : Calls Tryz.prog 52 #[.pointer (some ⟨T, 0, none⟩), .slice none 0 0] w fun e w' => ∃ a n c, e = .returned (.tuple #[.slice a n c, .pointer (some ⟨T, 0, none⟩)]) ∧ Below w.heap.size w w' := by
  have B1 : Below w.heap.size w (w.alloc (.cells #[.pointer (some ⟨T, 0, none⟩)] 79)) := (Below.refl _ w).alloc (Nat.le_refl _) _
  go_enter Tryz.func52, Tryz.ntmps52
  go_wp2_with fail
  go_loopw [6, 7, 19] (fun e6 e7 e19 wr => e6 = .pointer (some ⟨T, 0, none⟩) ∧ (∃ a n c, e7 = .slice a n c) ∧ e19 = .int .i64 0 ∧ Below w.heap.size w wr) (fun _ _ _ _ => 0)
  case atStart => exact ⟨rfl, ⟨_, _, _, rfl⟩, rfl, B1⟩
  case round =>
    obtain ⟨rfl, ⟨a, n, c, rfl⟩, rfl, bj⟩ := hrel
    go_wp2_with fail
    go_ret2
    exact ⟨_, _, _, rfl, bj⟩
theorem pathsn_any (p : Option Addr) (w : World) : Calls Tryz.prog 53 #[.pointer p] w fun e w' => e = .returned (.func (.func 72) #[] #[.pointer (some ⟨w.heap.size, 0, none⟩)]) ∧ w' = w.alloc (.cells #[.pointer p] 79) := by
  go_enter Tryz.func53, Tryz.ntmps53
  go_wp2_with fail
  go_ret
  exact ⟨rfl, rfl⟩
end Go.Proofs.YthlhkhcbkgbhfaaGreatDoor
/- A tree of one path gone through. -/
namespace Go.Proofs.YthlhkhcbkgbhfaaGreatDoor
open Go Go.RowKit Go.Lib Go.Shelf
section
attribute [local go_sem] Oper.semAt_some
set_option maxHeartbeats 8000000 in
set_option maxRecDepth 100000 in
theorem eachLeaf {n l nd : Nat} {wa : Option Addr} {wn wc : Nat} {W : World} {R1 R2 : World → Prop} (k9 : W.cell? ⟨nd, 9, none⟩ = some (.bool true)) (hy : YieldAt Fence.wide (n - 1) Tryz.prog l #[.slice wa wn wc] W (fun e W' => (e = .returned (.bool true) ∧ R1 W') ∨ (e = .returned (.bool false) ∧ R2 W'))) (hk : ∀ W', R1 W' → W'.cell? ⟨nd, 10, none⟩ = some (.slice none 0 0)) :
    Calls Tryz.prog 73 #[.pointer (some ⟨nd, 0, none⟩), .slice wa wn wc, .func (.yield l) #[] #[]] W (fun e W' => (e = .returned (.bool true) ∧ R1 W') ∨ (e = .returned (.bool false) ∧ R2 W')) := by
  refine (callsIn_wide (n := n)).1 ?_
  refine callsIn_of_wp Tryz.func73 rfl trivial ?_ rfl
  simp only [Tryz.ntmps73, List.size_toArray, List.length_cons, List.length_nil, Nat.reduceAdd, Nat.reduceSub, Array.replicate_succ, Array.replicate_zero, List.push_toArray, List.append_toArray, List.nil_append, List.cons_append]
  obtain ⟨fn, tmps, assign, body, hy1, hR⟩ := hy
  gi_wp2
  refine ⟨fun h => (by cases h), hR.mono ?_⟩
  rintro e W3 (⟨rfl, h1⟩ | ⟨rfl, h2⟩)
  · have k10 := hk W3 h1
    gi_wp2
    gi_loopw [24] (fun e24 wr => e24 = .int .i64 0 ∧ wr = W3) (fun _ _ => 0)
    case atStart => exact ⟨rfl, rfl⟩
    case round =>
      obtain ⟨rfl, rfl⟩ := hrel
      gi_wp2
      go_ret
      exact .inl ⟨rfl, h1⟩
  · gi_wp2
    go_ret
    exact .inr ⟨rfl, h2⟩
end
set_option maxHeartbeats 8000000 in
set_option maxRecDepth 100000 in
theorem eachRoot {l T g nd m cap : Nat} {c0 c1 c2 c3 c4 c5 c6 c7 c8 cn : Value} {arr cur : Array Value} {fk : Int} {fn : ByteArray} {fma : Option Addr} {fml fmc : Nat} {uk : Int} {ub : Bool} {ui : Int} {us : ByteArray} {ual : Option Addr} {unl ucl : Nat} {uam : Option Addr} {unm ucm : Nat} {ib : Bool} {W0 W : World} {R1 R2 : World → Prop}
    (hT : W0.heap[T]? = some (.cells #[c0, c1, c2, c3, c4, c5, c6, c7, c8, .bool false, .slice (some ⟨g, 0, none⟩) 1 cap, cn] 78 (0, 0))) (hg : W0.heap[g]? = some (.cells arr 79 (0, 0))) (ha : arr[0]? = some (.pointer (some ⟨nd, 0, none⟩)))
    (hn : W0.heap[nd]? = some (.cells #[.int .i64 fk, .string fn, .slice fma fml fmc, .int .i64 uk, .bool ub, .int .i64 ui, .string us, .slice ual unl ucl, .slice uam unm ucm, .bool ib, .slice none 0 0] 76 (0, 0)))
    (hW : Below W0.heap.size W0 W) (hm : W0.heap.size ≤ m) (hmc : W.heap[m]? = some (.cells cur 66 (0, 0))) (hcs : cur.size = 288)
    (hleaf : ∀ (a : Option Addr) (k c : Nat) (W2 : World), Below W0.heap.size W0 W2 → Calls Tryz.prog 73 #[.pointer (some ⟨nd, 0, none⟩), .slice a k c, .func (.yield l) #[] #[]] W2 (fun e W' => (e = .returned (.bool true) ∧ R1 W') ∨ (e = .returned (.bool false) ∧ R2 W'))) :
    Calls Tryz.prog 73 #[.pointer (some ⟨T, 0, none⟩), .slice (some ⟨m, 0, none⟩) 0 32, .func (.yield l) #[] #[]] W (fun e W' => (e = .returned (.bool true) ∧ R1 W') ∨ (e = .returned (.bool false) ∧ R2 W')) := by
  have hTs : T < W0.heap.size := (Array.getElem?_eq_some_iff.1 hT).1
  have hgs : g < W0.heap.size := (Array.getElem?_eq_some_iff.1 hg).1
  have hns : nd < W0.heap.size := (Array.getElem?_eq_some_iff.1 hn).1
  have hT1 := (hW.block T hTs).trans hT
  have hg1 := (hW.block g hgs).trans hg
  have hn1 := (hW.block nd hns).trans hn
  have k9 : W.cell? ⟨T, 9, none⟩ = some (.bool false) := by rw [cell_of_block hT1]; rfl
  have k10 : W.cell? ⟨T, 10, none⟩ = some (.slice (some ⟨g, 0, none⟩) 1 cap) := by rw [cell_of_block hT1]; rfl
  have kg : W.cell? ⟨g, 0, none⟩ = some (.pointer (some ⟨nd, 0, none⟩)) := by rw [cell_of_block hg1]; exact ha
  have kn0 : W.cell? ⟨nd, 0, none⟩ = some (.int .i64 fk) := by rw [cell_of_block hn1]; rfl
  have kn1 : W.cell? ⟨nd, 1, none⟩ = some (.string fn) := by rw [cell_of_block hn1]; rfl
  have kn2 : W.cell? ⟨nd, 2, none⟩ = some (.slice fma fml fmc) := by rw [cell_of_block hn1]; rfl
  have kn3 : W.cell? ⟨nd, 3, none⟩ = some (.int .i64 uk) := by rw [cell_of_block hn1]; rfl
  have kn4 : W.cell? ⟨nd, 4, none⟩ = some (.bool ub) := by rw [cell_of_block hn1]; rfl
  have kn5 : W.cell? ⟨nd, 5, none⟩ = some (.int .i64 ui) := by rw [cell_of_block hn1]; rfl
  have kn6 : W.cell? ⟨nd, 6, none⟩ = some (.string us) := by rw [cell_of_block hn1]; rfl
  have kn7 : W.cell? ⟨nd, 7, none⟩ = some (.slice ual unl ucl) := by rw [cell_of_block hn1]; rfl
  have kn8 : W.cell? ⟨nd, 8, none⟩ = some (.slice uam unm ucm) := by rw [cell_of_block hn1]; rfl
  obtain ⟨i0, hi0, hz0, hzs1, hz2⟩ := info_parts info35
  have hI : Hid (Tryz.prog.info? 66 = some i0 ∧ i0.zero = some (.agg #[.int .i64 0, .string ⟨#[]⟩, .slice none 0 0, .int .i64 0, .bool false, .int .i64 0, .string ⟨#[]⟩, .slice none 0 0, .slice none 0 0]) ∧ i0.size = 9 ∧ i0.bytes = 136) := ⟨hi0, hz0, hzs1, hz2⟩
  clear hi0 hz0 hzs1 hz2
  have HL := hmk hleaf
  have hWs := hW.size
  have OW : Hid (W.ownsRow W0.heap.size 66 9 (.slice (some ⟨m, 0, none⟩) 0 32) 0 []) := ⟨by simp, .inr ⟨m, 32, cur, rfl, hm, hmc, by omega, by simp [maxLen], by omega, by simp⟩⟩
  have hms : m < W.heap.size := (Array.getElem?_eq_some_iff.1 hmc).1
  have HW := hmk hW
  clear hleaf hT hg hn hT1 hg1 hn1 hW
  go_enter Tryz.func73, Tryz.ntmps73
  go_wp2_with fail
  go_loopw [24] (fun e24 wr => (e24 = .int .i64 0 ∧ wr = W) ∨ (e24 = .int .i64 1 ∧ R1 wr)) (fun e24 _ => 1 - (RowKit.intOf e24).toNat)
  case atStart => exact .inl ⟨rfl, rfl⟩
  case round =>
    rcases hrel with ⟨rfl, rfl⟩ | ⟨rfl, h1⟩
    · have ne := heap_alloc_new wr (.cells #[.int .i64 fk, .string fn, .slice fma fml fmc, .int .i64 uk, .bool ub, .int .i64 ui, .string us, .slice ual unl ucl, .slice uam unm ucm] 66)
      have hza := alloc_size wr (.cells #[.int .i64 fk, .string fn, .slice fma fml fmc, .int .i64 uk, .bool ub, .int .i64 ui, .string us, .slice ual unl ucl, .slice uam unm ucm] 66)
      have gal : Hid (wr.grownBy (wr.alloc (.cells #[.int .i64 fk, .string fn, .slice fma fml fmc, .int .i64 uk, .bool ub, .int .i64 ui, .string us, .slice ual unl ucl, .slice uam unm ucm] 66)) none) := World.grownBy_alloc _ _ _
      have CLX : Hid (∀ j u, ([.int .i64 fk, .string fn, .slice fma fml fmc, .int .i64 uk, .bool ub, .int .i64 ui, .string us, .slice ual unl ucl, .slice uam unm ucm] : List Value)[j]? = some u → (wr.alloc (.cells #[.int .i64 fk, .string fn, .slice fma fml fmc, .int .i64 uk, .bool ub, .int .i64 ui, .string us, .slice ual unl ucl, .slice uam unm ucm] 66)).cell? ⟨wr.heap.size, 0 + j, none⟩ = some u) := fun j u hu => by
        rw [Nat.zero_add, cell_of_block ne, ← hu]
        exact Array.getElem?_toList.symm
      have ONE : Hid (∀ u ∈ ([.int .i64 fk, .string fn, .slice fma fml fmc, .int .i64 uk, .bool ub, .int .i64 ui, .string us, .slice ual unl ucl, .slice uam unm ucm] : List Value), u.oneCell' = true) := by
        intro u hu
        simp only [List.mem_cons, List.not_mem_nil, or_false] at hu
        rcases hu with rfl | rfl | rfl | rfl | rfl | rfl | rfl | rfl | rfl <;> rfl
      go_wp2_with (at_builtin; go_loud (refine wpl_catP rfl (.tmp 29) (.tmp 34) 32 rfl W0.heap.size 66 i0 _ 9 136 Tryz.underlying32 hI.out.1 hI.out.2.1 hI.out.2.2.1 hI.out.2.2.2 rfl (by decide) (by decide) (.slice (some ⟨m, 0, none⟩) 0 32) 0 [] rfl (own_keep OW.out gal.out (fun r e => by cases e)) (some ⟨wr.heap.size, 0, none⟩) 1 1 wr.heap.size 0 rfl ⟨Nat.le_refl _, by simp [maxLen], .inr rfl, fun h => by cases h⟩ [.int .i64 fk, .string fn, .slice fma fml fmc, .int .i64 uk, .bool ub, .int .i64 ui, .string us, .slice ual unl ucl, .slice uam unm ucm] rfl CLX.out ONE.out (by omega) (by omega) ?_))
      intro v1 w1 o1 g1
      have B1 : Below W0.heap.size W0 w1 := (HW.out.grown gal.out (by omega) (fun r e => by cases e)).grown g1 (by omega) (fun r e => by simp [Value.ownBlock] at e; omega)
      rcases own_form o1 with ⟨_, h⟩ | ⟨q, cap1, rfl⟩
      · omega
      have c1 := hmk (HL.out (some ⟨q, 0, none⟩) (0 + 1) cap1 w1 B1)
      clear o1 g1 CLX ONE gal
      go_wp2_with fail
      refine c1.out.mono ?_
      rintro e w2 (⟨rfl, h1⟩ | ⟨rfl, h2⟩)
      · go_wp2_with fail
        go_roundw
        case rel => exact .inr ⟨by go_num, h1⟩
        case measure => simp [RowKit.intOf]
      · go_wp2_with fail
        go_ret
        exact .inr ⟨rfl, h2⟩
    · go_wp2_with fail
      go_ret
      exact .inl ⟨rfl, h1⟩
end Go.Proofs.YthlhkhcbkgbhfaaGreatDoor
