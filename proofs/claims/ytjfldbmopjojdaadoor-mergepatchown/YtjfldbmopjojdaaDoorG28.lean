/- joined: ClnX FinX -/
import Derived.Test.YtjfldbmopjojdaaDoorAnxV
import Derived.Test.YtjfldbmopjojdaaDoorG17
set_option linter.unusedSimpArgs false
set_option linter.unusedVariables false
namespace Go.Proofs.YtjfldbmopjojdaaDoor
open Go.RowKit Go.Lib
theorem null_ap (W : World) {lo hi : Nat} (h : lo ≤ hi) : nullV.ap W lo hi [.int .i64 0, .bool false, .int .i64 0, .string ⟨#[]⟩, .slice none 0 0, .slice none 0 0] := by
 rw [nullV, V.ap]
 exact ⟨none, 0, 0, none, 0, 0, lo, lo, lo, lo, lo, lo, lo, lo, rfl, by constructor <;> omega, by constructor <;> omega, by decide, headed_nil, headed_nil, ⟨rfl, fun h => by simp at h⟩, ⟨rfl, fun h => by simp at h⟩, by omega, by omega, by omega, by omega, by omega, by omega, by omega, by omega, by omega, fun h => by simp at h, fun h => by simp at h, by rw [apE]; trivial, by rw [apF]; trivial⟩
theorem ap_set6 {w : World} {lo hi M : Nat} {v : V} {cs : List Value} (h : v.ap w lo hi cs) (hM : M < lo) (i1 i2 i3 i4 i5 i6 : Nat) (u1 u2 u3 u4 u5 u6 : Value) : v.ap ((((((w.setCell ⟨M, i1, none⟩ u1).setCell ⟨M, i2, none⟩ u2).setCell ⟨M, i3, none⟩ u3).setCell ⟨M, i4, none⟩ u4).setCell ⟨M, i5, none⟩ u5).setCell ⟨M, i6, none⟩ u6) lo hi cs :=
 V.ap_keep _ (fun x x1 x2 => by repeat (rw [set_other (show x ≠ M by omega)])) h
set_option maxHeartbeats 8000000 in
set_option maxRecDepth 100000 in
theorem clone_ap (v : V) (R : Bool) (S : Nat → Prop) (cs : List Value) (w : World) (tb : Tb w) (hv : v.lies R w S cs) (hS : ∀ b, S b → b < w.heap.size) (hwt : v.wt ≤ 1099511627776) : Calls Tryd.prog 48 #[.agg cs.toArray] w (ApPost (clnV v) w) := by
 obtain ⟨k, b, i, s, al, nl, cl, am, nm, cm, rfl⟩ := V.ten hv
 have hz2 : ((w.alloc (.cells #[.int .i64 k, .bool b, .int .i64 i, .string s, .slice al nl cl, .slice am nm cm] 25)).alloc (.cells #[.int .i64 0, .bool false, .int .i64 0, .string ⟨#[]⟩, .slice none 0 0, .slice none 0 0] 25)).heap.size = w.heap.size + 2 := by rw [alloc_size, alloc_size]
 have B0 : Below w.heap.size w ((w.alloc (.cells #[.int .i64 k, .bool b, .int .i64 i, .string s, .slice al nl cl, .slice am nm cm] 25)).alloc (.cells #[.int .i64 0, .bool false, .int .i64 0, .string ⟨#[]⟩, .slice none 0 0, .slice none 0 0] 25)) := two_below w _ _
 have h0 := alloc2_keep1 w (.cells #[.int .i64 k, .bool b, .int .i64 i, .string s, .slice al nl cl, .slice am nm cm] 25) (.cells #[.int .i64 0, .bool false, .int .i64 0, .string ⟨#[]⟩, .slice none 0 0, .slice none 0 0] 25)
 have h1 := alloc2_new w (.cells #[.int .i64 k, .bool b, .int .i64 i, .string s, .slice al nl cl, .slice am nm cm] 25) (.cells #[.int .i64 0, .bool false, .int .i64 0, .string ⟨#[]⟩, .slice none 0 0, .slice none 0 0] 25)
 have HV : Hid (∀ W, Below w.heap.size w W → v.lies R W S [.int .i64 k, .bool b, .int .i64 i, .string s, .slice al nl cl, .slice am nm cm] ∧ (∀ b, S b → b < W.heap.size)) := fun W hb => ⟨V.lies_keep (fun h => h) (fun x hx => hb.block x (hS x hx)) (fun _ h => h) _ hv, fun x hx => Nat.lt_of_lt_of_le (hS x hx) hb.size⟩
 have HB : Hid (∀ W, Below w.heap.size w W → Tb W) := fun W hb => tb.below hb tb.z
 obtain ⟨d0, d1, d2, d3, d4, d5⟩ := sixC h0
 clear hv
 go_enter Tryd.func48, Tryd.ntmps48
 go_wp2_with fail
 clear d0 d1 d2 d3 d4 d5
 generalize ((w.alloc (.cells #[.int .i64 k, .bool b, .int .i64 i, .string s, .slice al nl cl, .slice am nm cm] 25)).alloc (.cells #[.int .i64 0, .bool false, .int .i64 0, .string ⟨#[]⟩, .slice none 0 0, .slice none 0 0] 25)) = w0 at *
 refine (taken_any R v S _ w0 (HB.out w0 B0) (HV.out w0 B0).1 (HV.out w0 B0).2 hwt).mono ?_
 rintro e w1 ⟨rfl, b1⟩
 have hz1 := b1.size
 have B1 := B0.trans (b1.mono (by omega))
 have t0 := (b1.block w.heap.size (by omega)).trans h0
 have t1 := (b1.block (w.heap.size + 1) (by omega)).trans h1
 obtain ⟨d0, d1, d2, d3, d4, d5⟩ := sixC t0
 obtain ⟨r0, r1, r2, r3, r4, r5⟩ := sixC t1
 have rf : ∀ i, w1.frozen? ⟨w.heap.size + 1, i, none⟩ = false := frozen_of_block t1
 cases ho : okV v with
 | false =>
  have HF : Hid (clnV v = nullV) := by show _ = _; rw [clnV, if_neg (by simp [ho])]
  clear t0 t1 h0 h1
  go_wp2_with fail
  (try simp only [Exit.inBlock, Exit.then])
  refine bodyPost_ret (v := .agg #[.int .i64 0, .bool false, .int .i64 0, .string ⟨#[]⟩, .slice none 0 0, .slice none 0 0]) (by rw [results_cell1 rfl]; go_simp) rfl ?_
  rw [HF.out]
  exact ⟨[.int .i64 0, .bool false, .int .i64 0, .string ⟨#[]⟩, .slice none 0 0, .slice none 0 0], rfl, null_ap _ (by simp only [size_set1]; omega), Below.set6 B1 (by omega) _ _ _ _ _ _ _ _ _ _ _ _⟩
 | true =>
  have HF : Hid (clnV v = v) := by show _ = _; rw [clnV, if_pos ho]
  go_wp2_with fail
  refine (anew_ap v R S _ w1 (HV.out w1 B1).1 (HV.out w1 B1).2 hwt).mono ?_
  rintro e w2 ⟨csu, rfl, hlu, b2⟩
  obtain ⟨uk, ub, ui, us, ual, unl, ucl, uam, unm, ucm, rfl⟩ := V.ten (V.ap_lies _ hlu)
  have hz3 := b2.size
  have B2 := B1.trans (b2.mono (by omega))
  have t1' := (b2.block (w.heap.size + 1) (by omega)).trans t1
  have HU : Hid (v.ap w2 (w.heap.size + 2) w2.heap.size [.int .i64 uk, .bool ub, .int .i64 ui, .string us, .slice ual unl ucl, .slice uam unm ucm]) := V.ap_wide hlu (by omega) (Nat.le_refl _)
  clear d0 d1 d2 d3 d4 d5 r0 r1 r2 r3 r4 r5 rf hlu b2 t0 t1 h0 h1
  obtain ⟨r0, r1, r2, r3, r4, r5⟩ := sixC t1'
  have rf : ∀ i, w2.frozen? ⟨w.heap.size + 1, i, none⟩ = false := frozen_of_block t1'
  clear t1'
  go_wp2_with fail
  (try simp only [Exit.inBlock, Exit.then])
  refine bodyPost_ret (v := .agg #[.int .i64 uk, .bool ub, .int .i64 ui, .string us, .slice ual unl ucl, .slice uam unm ucm]) (by rw [results_cell1 rfl]; go_simp) rfl ?_
  rw [HF.out]
  refine ⟨[.int .i64 uk, .bool ub, .int .i64 ui, .string us, .slice ual unl ucl, .slice uam unm ucm], rfl, V.ap_wide (ap_set6 HU.out (show w.heap.size + 1 < w.heap.size + 2 by omega) _ _ _ _ _ _ _ _ _ _ _ _) (by omega) (by simp only [size_set1]; exact Nat.le_refl _), Below.set6 B2 (by omega) _ _ _ _ _ _ _ _ _ _ _ _⟩
def NaPost (p : V × Int) (w : World) (e : Ending) (w' : World) : Prop := ∃ cs : List Value, e = .returned (.tuple #[.agg cs.toArray, .int .i64 p.2]) ∧ p.1.ap w' w.heap.size w'.heap.size cs ∧ Below w.heap.size w w'
theorem ap_fin {w w3 : World} {x : V} {M lo : Nat} {c0 c1 c2 c3 c4 c5 : Value} (hM : w.heap.size ≤ M) (hlo : M < lo) (B3 : Below w.heap.size w w3) (hx : x.ap w3 lo w3.heap.size [c0, c1, c2, c3, c4, c5]) :
 x.ap ((((((w3.setCell ⟨M, 0, none⟩ (c0)).setCell ⟨M, 1, none⟩ (c1)).setCell ⟨M, 2, none⟩ (c2)).setCell ⟨M, 3, none⟩ (c3)).setCell ⟨M, 4, none⟩ (c4)).setCell ⟨M, 5, none⟩ (c5)) w.heap.size (((((((w3.setCell ⟨M, 0, none⟩ (c0)).setCell ⟨M, 1, none⟩ (c1)).setCell ⟨M, 2, none⟩ (c2)).setCell ⟨M, 3, none⟩ (c3)).setCell ⟨M, 4, none⟩ (c4)).setCell ⟨M, 5, none⟩ (c5))).heap.size [c0, c1, c2, c3, c4, c5] ∧ Below w.heap.size w ((((((w3.setCell ⟨M, 0, none⟩ (c0)).setCell ⟨M, 1, none⟩ (c1)).setCell ⟨M, 2, none⟩ (c2)).setCell ⟨M, 3, none⟩ (c3)).setCell ⟨M, 4, none⟩ (c4)).setCell ⟨M, 5, none⟩ (c5)) :=
 ⟨V.ap_wide (ap_set6 hx hlo _ _ _ _ _ _ _ _ _ _ _ _) (by omega) (by simp only [size_set1]; exact Nat.le_refl _), (wn_fin hM B3 (V.lies_keep (fun h => h) (fun _ _ => rfl) (fun y hy => ⟨by have := hy.1; omega, by have := hy.1; omega, hy.2⟩) _ (V.ap_lies _ hx))).2⟩
set_option maxHeartbeats 8000000 in
set_option maxRecDepth 100000 in
theorem finished_ap (v : V) (S : Nat → Prop) (cs : List Value) (w : World) (tb : Tb w) (hv : v.lies false w S cs) (hS : ∀ b, S b → b < w.heap.size) (hwt : v.wt ≤ 2147483648) :
 Calls Tryd.prog 33 #[.agg cs.toArray] w (NaPost (finF v) w) := by
 obtain ⟨vk, vb, vi, vs, val, vnl, vcl, vam, vnm, vcm, rfl⟩ := V.ten hv
 have HL : Hid (∀ W, Below w.heap.size w W → v.lies false W S [.int .i64 vk, .bool vb, .int .i64 vi, .string vs, .slice val vnl vcl, .slice vam vnm vcm] ∧ (∀ b, S b → b < W.heap.size)) := fun W hB => ⟨V.lies_keep (fun h => h) (fun x hx => hB.block x (hS x hx)) (fun x hx => hx) _ hv, fun x hx => Nat.lt_of_lt_of_le (hS x hx) hB.size⟩
 have HT : Hid (∀ W, Below w.heap.size w W → Tb W) := fun W hb => tb.below hb tb.z
 have Bww2 : Below w.heap.size w ((w.alloc (.cells #[.int .i64 vk, .bool vb, .int .i64 vi, .string vs, .slice val vnl vcl, .slice vam vnm vcm] 25)).alloc (.cells #[.int .i64 0, .bool false, .int .i64 0, .string ⟨#[]⟩, .slice none 0 0, .slice none 0 0] 25)) := two_below w _ _
 have hz2 : ((w.alloc (.cells #[.int .i64 vk, .bool vb, .int .i64 vi, .string vs, .slice val vnl vcl, .slice vam vnm vcm] 25)).alloc (.cells #[.int .i64 0, .bool false, .int .i64 0, .string ⟨#[]⟩, .slice none 0 0, .slice none 0 0] 25)).heap.size = w.heap.size + 2 := by rw [alloc_size, alloc_size]
 have hvw2 := alloc2_keep1 w (.cells #[.int .i64 vk, .bool vb, .int .i64 vi, .string vs, .slice val vnl vcl, .slice vam vnm vcm] 25) (.cells #[.int .i64 0, .bool false, .int .i64 0, .string ⟨#[]⟩, .slice none 0 0, .slice none 0 0] 25)
 have hzw2 := alloc2_new w (.cells #[.int .i64 vk, .bool vb, .int .i64 vi, .string vs, .slice val vnl vcl, .slice vam vnm vcm] 25) (.cells #[.int .i64 0, .bool false, .int .i64 0, .string ⟨#[]⟩, .slice none 0 0, .slice none 0 0] 25)
 have C1 : Hid (∀ W, Below w.heap.size w W → Calls Tryd.prog 38 #[.agg #[.int .i64 vk, .bool vb, .int .i64 vi, .string vs, .slice val vnl vcl, .slice vam vnm vcm], .int .i64 32] W (NPost (chkE v 32) W)) := fun W hb => check_any false v 32 S _ W (HT.out W hb) (HL.out W hb).1 (HL.out W hb).2 (by omega)
 clear hv
 by_cases h1 : chkE v 32 = 0
 rotate_left
 ·have HF : Hid (finF v = (nullV, (chkE v 32 : Int))) := by show _ = _; rw [finF, if_neg h1]
  generalize chkE v 32 = c1 at *
  have y1 : ¬ (c1 : Int) = 0 := by omega
  have yb1 : ((c1 : Int) != 0) = true := by simp; omega
  obtain ⟨ck0, ck1, ck2, ck3, ck4, ck5⟩ := sixC hvw2
  go_enter Tryd.func33, Tryd.ntmps33
  go_wp2_with fail
  clear ck0 ck1 ck2 ck3 ck4 ck5
  generalize ((w.alloc (.cells #[.int .i64 vk, .bool vb, .int .i64 vi, .string vs, .slice val vnl vcl, .slice vam vnm vcm] 25)).alloc (.cells #[.int .i64 0, .bool false, .int .i64 0, .string ⟨#[]⟩, .slice none 0 0, .slice none 0 0] 25)) = w2 at *
  refine (C1.out w2 Bww2).mono ?_
  rintro e w3 ⟨rfl, b3⟩
  have hzw3 := b3.size
  have hvw3 := (b3.block (w.heap.size) (by omega)).trans hvw2
  have hzw3 := (b3.block (w.heap.size + 1) (by omega)).trans hzw2
  have Bww3 := Bww2.trans (b3.mono (by omega))
  have HE := hmk (ap_fin (M := w.heap.size + 1) (lo := w.heap.size + 2) (by omega) (by omega) Bww3 (null_ap _ (by have := b3.size; omega)))
  obtain ⟨cz0, cz1, cz2, cz3, cz4, cz5⟩ := sixC hzw3
  have fz := frozen_of_block hzw3
  go_wp2_with fail
  (try simp only [Exit.inBlock, Exit.then])
  refine bodyPost_ret (v := .tuple #[.agg #[.int .i64 0, .bool false, .int .i64 0, .string ⟨#[]⟩, .slice none 0 0, .slice none 0 0], .int .i64 (c1 : Int)]) ?_ rfl ?_
  rotate_left
  ·rw [HF.out]
   exact ⟨[.int .i64 0, .bool false, .int .i64 0, .string ⟨#[]⟩, .slice none 0 0, .slice none 0 0], rfl, HE.out.1, HE.out.2⟩
  ·rw [results_cell_tmp rfl]
   go_simp
 have HF : Hid (finF v = (v, 0)) := by show _ = _; rw [finF, if_pos h1]
 have hcl := (ok_chk (D := 32) (by omega) h1).cln
 rw [h1] at C1
 clear h1
 obtain ⟨ck0, ck1, ck2, ck3, ck4, ck5⟩ := sixC hvw2
 go_enter Tryd.func33, Tryd.ntmps33
 go_wp2_with fail
 clear ck0 ck1 ck2 ck3 ck4 ck5
 generalize ((w.alloc (.cells #[.int .i64 vk, .bool vb, .int .i64 vi, .string vs, .slice val vnl vcl, .slice vam vnm vcm] 25)).alloc (.cells #[.int .i64 0, .bool false, .int .i64 0, .string ⟨#[]⟩, .slice none 0 0, .slice none 0 0] 25)) = w2 at *
 refine (C1.out w2 Bww2).mono ?_
 rintro e w3 ⟨rfl, b3⟩
 have hzw3 := b3.size
 have hvw3 := (b3.block (w.heap.size) (by omega)).trans hvw2
 have hzw3 := (b3.block (w.heap.size + 1) (by omega)).trans hzw2
 have Bww3 := Bww2.trans (b3.mono (by omega))
 obtain ⟨cv0, cv1, cv2, cv3, cv4, cv5⟩ := sixC hvw3
 go_wp2_with fail
 clear cv0 cv1 cv2 cv3 cv4 cv5
 have CC := clone_ap v false S _ w3 (HT.out w3 Bww3) (HL.out w3 Bww3).1 (HL.out w3 Bww3).2 (by omega)
 rw [hcl] at CC
 refine CC.mono ?_
 rintro e w4 ⟨csn, rfl, hln, b4⟩
 clear CC
 obtain ⟨nk, nb, ni, ns, nal, nnl, ncl, nam, nnm, ncm, rfl⟩ := V.ten (V.ap_lies _ hln)
 have hzw4 := b4.size
 have hvw4 := (b4.block (w.heap.size) (by omega)).trans hvw3
 have hzw4 := (b4.block (w.heap.size + 1) (by omega)).trans hzw3
 have Bww4 := Bww3.trans (b4.mono (by omega))
 have HE := hmk (ap_fin (M := w.heap.size + 1) (lo := w.heap.size + 2) (by omega) (by omega) Bww4 (V.ap_wide hln (by have := b3.size; omega) (Nat.le_refl _)))
 obtain ⟨cz0, cz1, cz2, cz3, cz4, cz5⟩ := sixC hzw4
 have fz := frozen_of_block hzw4
 go_wp2_with fail
 (try simp only [Exit.inBlock, Exit.then])
 refine bodyPost_ret (v := .tuple #[.agg #[.int .i64 nk, .bool nb, .int .i64 ni, .string ns, .slice nal nnl ncl, .slice nam nnm ncm], .int .i64 0]) ?_ rfl ?_
 rotate_left
 ·rw [HF.out]
  exact ⟨[.int .i64 nk, .bool nb, .int .i64 ni, .string ns, .slice nal nnl ncl, .slice nam nnm ncm], rfl, HE.out.1, HE.out.2⟩
 ·rw [results_cell_tmp rfl]
  go_simp
end Go.Proofs.YtjfldbmopjojdaaDoor
