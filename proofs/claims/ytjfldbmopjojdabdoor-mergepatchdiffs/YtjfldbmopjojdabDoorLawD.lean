import Derived.Test.YtjfldbmopjojdabDoorRdfD
import Derived.Test.YtjfldbmopjojdabDoorDifB
import Derived.Test.YtjfldbmopjojdabDoorG45
set_option linter.unusedSimpArgs false
set_option linter.unusedVariables false
namespace Go.Proofs.YtjfldbmopjojdabDoor
open Go.RowKit Go.Lib
set_option maxHeartbeats 16000000 in
set_option maxRecDepth 100000 in
theorem diffs_walk (low : Addr) (v p : V) (cs ds : List Value) (w : World) (hT : Tb w) (hE : ErrAt low w) (hv : v.lies false w (Old w) cs) (hx : p.lies false w (Old w) ds) : Calls Tryd.prog 3 #[.agg cs.toArray, .agg ds.toArray] w (BPost true w) := by
 obtain ⟨vk, vb, vi, vs, val, vnl, vcl, vam, vnm, vcm, rfl⟩ := V.ten hv
 obtain ⟨pk, pb, pi, ps, pal, pnl, pcl, pam, pnm, pcm, rfl⟩ := V.ten hx
 have HL : Hid (∀ W, Below w.heap.size w W → v.lies false W (Old w) [.int .i64 vk, .bool vb, .int .i64 vi, .string vs, .slice val vnl vcl, .slice vam vnm vcm]) := fun W hB => V.lies_keep (fun h => h) (fun x hx => hB.block x hx) (fun x hx => hx) _ hv
 have HP : Hid (∀ W, Below w.heap.size w W → p.lies false W (Old w) [.int .i64 pk, .bool pb, .int .i64 pi, .string ps, .slice pal pnl pcl, .slice pam pnm pcm]) := fun W hB => V.lies_keep (fun h => h) (fun x hx => hB.block x hx) (fun x hx => hx) _ hx
 have HO : Hid (∀ W, Below w.heap.size w W → ∀ b, Old w b → b < W.heap.size) := fun W hB b hb => Nat.lt_of_lt_of_le hb hB.size
 have HT : Hid (∀ W, Below w.heap.size w W → Tb W) := fun W hb => hT.below hb hT.z
 have HE : Hid (∀ W, Below w.heap.size w W → ErrAt low W) := fun W hb => hE.below hb hE.z
 have Bww0 : Below w.heap.size w ((w.alloc (.cells #[.int .i64 vk, .bool vb, .int .i64 vi, .string vs, .slice val vnl vcl, .slice vam vnm vcm] 25)).alloc (.cells #[.int .i64 pk, .bool pb, .int .i64 pi, .string ps, .slice pal pnl pcl, .slice pam pnm pcm] 25)) := two_below w _ _
 have hz0 : ((w.alloc (.cells #[.int .i64 vk, .bool vb, .int .i64 vi, .string vs, .slice val vnl vcl, .slice vam vnm vcm] 25)).alloc (.cells #[.int .i64 pk, .bool pb, .int .i64 pi, .string ps, .slice pal pnl pcl, .slice pam pnm pcm] 25)).heap.size = w.heap.size + 2 := by rw [alloc_size, alloc_size]
 have hvw0 := alloc2_keep1 w (.cells #[.int .i64 vk, .bool vb, .int .i64 vi, .string vs, .slice val vnl vcl, .slice vam vnm vcm] 25) (.cells #[.int .i64 pk, .bool pb, .int .i64 pi, .string ps, .slice pal pnl pcl, .slice pam pnm pcm] 25)
 have hpw0 := alloc2_new w (.cells #[.int .i64 vk, .bool vb, .int .i64 vi, .string vs, .slice val vnl vcl, .slice vam vnm vcm] 25) (.cells #[.int .i64 pk, .bool pb, .int .i64 pi, .string ps, .slice pal pnl pcl, .slice pam pnm pcm] 25)
 have cv0 : ((w.alloc (.cells #[.int .i64 vk, .bool vb, .int .i64 vi, .string vs, .slice val vnl vcl, .slice vam vnm vcm] 25)).alloc (.cells #[.int .i64 pk, .bool pb, .int .i64 pi, .string ps, .slice pal pnl pcl, .slice pam pnm pcm] 25)).cell? ⟨w.heap.size, 0, none⟩ = some (.int .i64 vk) := by rw [cell_of_block hvw0]; rfl
 have cv1 : ((w.alloc (.cells #[.int .i64 vk, .bool vb, .int .i64 vi, .string vs, .slice val vnl vcl, .slice vam vnm vcm] 25)).alloc (.cells #[.int .i64 pk, .bool pb, .int .i64 pi, .string ps, .slice pal pnl pcl, .slice pam pnm pcm] 25)).cell? ⟨w.heap.size, 1, none⟩ = some (.bool vb) := by rw [cell_of_block hvw0]; rfl
 have cv2 : ((w.alloc (.cells #[.int .i64 vk, .bool vb, .int .i64 vi, .string vs, .slice val vnl vcl, .slice vam vnm vcm] 25)).alloc (.cells #[.int .i64 pk, .bool pb, .int .i64 pi, .string ps, .slice pal pnl pcl, .slice pam pnm pcm] 25)).cell? ⟨w.heap.size, 2, none⟩ = some (.int .i64 vi) := by rw [cell_of_block hvw0]; rfl
 have cv3 : ((w.alloc (.cells #[.int .i64 vk, .bool vb, .int .i64 vi, .string vs, .slice val vnl vcl, .slice vam vnm vcm] 25)).alloc (.cells #[.int .i64 pk, .bool pb, .int .i64 pi, .string ps, .slice pal pnl pcl, .slice pam pnm pcm] 25)).cell? ⟨w.heap.size, 3, none⟩ = some (.string vs) := by rw [cell_of_block hvw0]; rfl
 have cv4 : ((w.alloc (.cells #[.int .i64 vk, .bool vb, .int .i64 vi, .string vs, .slice val vnl vcl, .slice vam vnm vcm] 25)).alloc (.cells #[.int .i64 pk, .bool pb, .int .i64 pi, .string ps, .slice pal pnl pcl, .slice pam pnm pcm] 25)).cell? ⟨w.heap.size, 4, none⟩ = some (.slice val vnl vcl) := by rw [cell_of_block hvw0]; rfl
 have cv5 : ((w.alloc (.cells #[.int .i64 vk, .bool vb, .int .i64 vi, .string vs, .slice val vnl vcl, .slice vam vnm vcm] 25)).alloc (.cells #[.int .i64 pk, .bool pb, .int .i64 pi, .string ps, .slice pal pnl pcl, .slice pam pnm pcm] 25)).cell? ⟨w.heap.size, 5, none⟩ = some (.slice vam vnm vcm) := by rw [cell_of_block hvw0]; rfl
 clear hv hx hT hE
 go_enter Tryd.func3, Tryd.ntmps3
 go_wp2_with fail
 clear cv0 cv1 cv2 cv3 cv4 cv5
 generalize ((w.alloc (.cells #[.int .i64 vk, .bool vb, .int .i64 vi, .string vs, .slice val vnl vcl, .slice vam vnm vcm] 25)).alloc (.cells #[.int .i64 pk, .bool pb, .int .i64 pi, .string ps, .slice pal pnl pcl, .slice pam pnm pcm] 25)) = w0 at *
 refine (beyond_any v (Old w) _ w0 (HL.out w0 Bww0) (HO.out w0 Bww0)).mono ?_
 rintro e w1 ⟨r, rfl, hr, b1⟩
 have hzw1 := b1.size
 have hvw1 := (b1.block (w.heap.size) (by omega)).trans hvw0
 have hpw1 := (b1.block (w.heap.size + 1) (by omega)).trans hpw0
 have Bww1 := Bww0.trans (b1.mono (by omega))
 cases r with
 | true =>
  go_wp2_with fail
  go_ret
  exact ⟨rfl, Bww1⟩
 | false =>
  have hwt := hr rfl
  clear hr
  have cp0 : w1.cell? ⟨w.heap.size + 1, 0, none⟩ = some (.int .i64 pk) := by rw [cell_of_block hpw1]; rfl
  have cp1 : w1.cell? ⟨w.heap.size + 1, 1, none⟩ = some (.bool pb) := by rw [cell_of_block hpw1]; rfl
  have cp2 : w1.cell? ⟨w.heap.size + 1, 2, none⟩ = some (.int .i64 pi) := by rw [cell_of_block hpw1]; rfl
  have cp3 : w1.cell? ⟨w.heap.size + 1, 3, none⟩ = some (.string ps) := by rw [cell_of_block hpw1]; rfl
  have cp4 : w1.cell? ⟨w.heap.size + 1, 4, none⟩ = some (.slice pal pnl pcl) := by rw [cell_of_block hpw1]; rfl
  have cp5 : w1.cell? ⟨w.heap.size + 1, 5, none⟩ = some (.slice pam pnm pcm) := by rw [cell_of_block hpw1]; rfl
  go_wp2_with fail
  clear cp0 cp1 cp2 cp3 cp4 cp5
  refine (beyond_any p (Old w) _ w1 (HP.out w1 Bww1) (HO.out w1 Bww1)).mono ?_
  rintro e w2 ⟨r, rfl, hr, b2⟩
  have hzw2 := b2.size
  have hvw2 := (b2.block (w.heap.size) (by omega)).trans hvw1
  have hpw2 := (b2.block (w.heap.size + 1) (by omega)).trans hpw1
  have Bww2 := Bww1.trans (b2.mono (by omega))
  cases r with
  | true =>
   go_wp2_with fail
   go_ret
   exact ⟨rfl, Bww2⟩
  | false =>
   have hwp := hr rfl
   clear hr
   have cv0 : w2.cell? ⟨w.heap.size, 0, none⟩ = some (.int .i64 vk) := by rw [cell_of_block hvw2]; rfl
   have cv1 : w2.cell? ⟨w.heap.size, 1, none⟩ = some (.bool vb) := by rw [cell_of_block hvw2]; rfl
   have cv2 : w2.cell? ⟨w.heap.size, 2, none⟩ = some (.int .i64 vi) := by rw [cell_of_block hvw2]; rfl
   have cv3 : w2.cell? ⟨w.heap.size, 3, none⟩ = some (.string vs) := by rw [cell_of_block hvw2]; rfl
   have cv4 : w2.cell? ⟨w.heap.size, 4, none⟩ = some (.slice val vnl vcl) := by rw [cell_of_block hvw2]; rfl
   have cv5 : w2.cell? ⟨w.heap.size, 5, none⟩ = some (.slice vam vnm vcm) := by rw [cell_of_block hvw2]; rfl
   go_wp2_with fail
   clear cv0 cv1 cv2 cv3 cv4 cv5
   refine (twin_lie v (Old w) _ w2 (HL.out _ Bww2) (HO.out _ Bww2) (by omega)).mono ?_
   rintro e_ w3 ⟨cu_, rfl, lu_, bw3⟩
   obtain ⟨uk, ub, ui, us, ual, unl, ucl, uam, unm, ucm, rfl⟩ := V.ten lu_
   have hzw3 := bw3.size
   have hvw3 := (bw3.block (w.heap.size) (by omega)).trans hvw2
   have hpw3 := (bw3.block (w.heap.size + 1) (by omega)).trans hpw2
   have Bww3 := Bww2.trans (bw3.mono (by omega))
   have Luw3 := hmk lu_
   clear lu_ bw3
   have bzw4 : Below w3.heap.size w3 (w3.alloc (.cells #[.int .i64 uk, .bool ub, .int .i64 ui, .string us, .slice ual unl ucl, .slice uam unm ucm] 25)) := one_belowG _ _
   have hltw4 : w3.heap.size < (w3.alloc (.cells #[.int .i64 uk, .bool ub, .int .i64 ui, .string us, .slice ual unl ucl, .slice uam unm ucm] 25)).heap.size := by rw [alloc_size]; omega
   have hvw4 := (bzw4.block (w.heap.size) (by omega)).trans hvw3
   have hpw4 := (bzw4.block (w.heap.size + 1) (by omega)).trans hpw3
   have Bww4 := Bww3.trans (bzw4.mono (by omega))
   have h5w4 := heap_alloc_new w3 (.cells #[.int .i64 uk, .bool ub, .int .i64 ui, .string us, .slice ual unl ucl, .slice uam unm ucm] 25)
   have Luw4 := hmk (V.lies_keep (R' := true) (S' := (fun y => w2.heap.size ≤ y ∧ y < w3.heap.size)) (fun h => h) (fun y hy => bzw4.block y (by have := hy.2; omega)) (fun _ h => h) _ Luw3.out)
   clear Luw3
   have cp0 : (w3.alloc (.cells #[.int .i64 uk, .bool ub, .int .i64 ui, .string us, .slice ual unl ucl, .slice uam unm ucm] 25)).cell? ⟨w.heap.size + 1, 0, none⟩ = some (.int .i64 pk) := by rw [cell_of_block hpw4]; rfl
   have cp1 : (w3.alloc (.cells #[.int .i64 uk, .bool ub, .int .i64 ui, .string us, .slice ual unl ucl, .slice uam unm ucm] 25)).cell? ⟨w.heap.size + 1, 1, none⟩ = some (.bool pb) := by rw [cell_of_block hpw4]; rfl
   have cp2 : (w3.alloc (.cells #[.int .i64 uk, .bool ub, .int .i64 ui, .string us, .slice ual unl ucl, .slice uam unm ucm] 25)).cell? ⟨w.heap.size + 1, 2, none⟩ = some (.int .i64 pi) := by rw [cell_of_block hpw4]; rfl
   have cp3 : (w3.alloc (.cells #[.int .i64 uk, .bool ub, .int .i64 ui, .string us, .slice ual unl ucl, .slice uam unm ucm] 25)).cell? ⟨w.heap.size + 1, 3, none⟩ = some (.string ps) := by rw [cell_of_block hpw4]; rfl
   have cp4 : (w3.alloc (.cells #[.int .i64 uk, .bool ub, .int .i64 ui, .string us, .slice ual unl ucl, .slice uam unm ucm] 25)).cell? ⟨w.heap.size + 1, 4, none⟩ = some (.slice pal pnl pcl) := by rw [cell_of_block hpw4]; rfl
   have cp5 : (w3.alloc (.cells #[.int .i64 uk, .bool ub, .int .i64 ui, .string us, .slice ual unl ucl, .slice uam unm ucm] 25)).cell? ⟨w.heap.size + 1, 5, none⟩ = some (.slice pam pnm pcm) := by rw [cell_of_block hpw4]; rfl
   go_wp2_with fail
   clear cp0 cp1 cp2 cp3 cp4 cp5
   generalize (w3.alloc (.cells #[.int .i64 uk, .bool ub, .int .i64 ui, .string us, .slice ual unl ucl, .slice uam unm ucm] 25)) = w4 at *
   refine (twin_lie p (Old w) _ w4 (HP.out _ Bww4) (HO.out _ Bww4) (by omega)).mono ?_
   rintro e_ w5 ⟨ct_, rfl, lt_, bw5⟩
   obtain ⟨tk, tb, ti, ts, tal, tnl, tcl, tam, tnm, tcm, rfl⟩ := V.ten lt_
   have hzw5 := bw5.size
   have hvw5 := (bw5.block (w.heap.size) (by omega)).trans hvw4
   have hpw5 := (bw5.block (w.heap.size + 1) (by omega)).trans hpw4
   have h5w5 := (bw5.block (w3.heap.size) (by omega)).trans h5w4
   have Bww5 := Bww4.trans (bw5.mono (by omega))
   have Luw5 := hmk (V.lies_keep (R' := true) (S' := (fun y => w2.heap.size ≤ y ∧ y < w3.heap.size)) (fun h => h) (fun y hy => bw5.block y (by have := hy.2; omega)) (fun _ h => h) _ Luw4.out)
   clear Luw4
   have Ltw5 := hmk lt_
   clear lt_ bw5
   have bzw6 : Below w5.heap.size w5 (w5.alloc (.cells #[.int .i64 tk, .bool tb, .int .i64 ti, .string ts, .slice tal tnl tcl, .slice tam tnm tcm] 25)) := one_belowG _ _
   have hltw6 : w5.heap.size < (w5.alloc (.cells #[.int .i64 tk, .bool tb, .int .i64 ti, .string ts, .slice tal tnl tcl, .slice tam tnm tcm] 25)).heap.size := by rw [alloc_size]; omega
   have hvw6 := (bzw6.block (w.heap.size) (by omega)).trans hvw5
   have hpw6 := (bzw6.block (w.heap.size + 1) (by omega)).trans hpw5
   have h5w6 := (bzw6.block (w3.heap.size) (by omega)).trans h5w5
   have Bww6 := Bww5.trans (bzw6.mono (by omega))
   have h6w6 := heap_alloc_new w5 (.cells #[.int .i64 tk, .bool tb, .int .i64 ti, .string ts, .slice tal tnl tcl, .slice tam tnm tcm] 25)
   have Luw6 := hmk (V.lies_keep (R' := true) (S' := (fun y => w2.heap.size ≤ y ∧ y < w3.heap.size)) (fun h => h) (fun y hy => bzw6.block y (by have := hy.2; omega)) (fun _ h => h) _ Luw5.out)
   have Ltw6 := hmk (V.lies_keep (R' := true) (S' := (fun y => w4.heap.size ≤ y ∧ y < w5.heap.size)) (fun h => h) (fun y hy => bzw6.block y (by have := hy.2; omega)) (fun _ h => h) _ Ltw5.out)
   clear Luw5 Ltw5
   have cu0 : (w5.alloc (.cells #[.int .i64 tk, .bool tb, .int .i64 ti, .string ts, .slice tal tnl tcl, .slice tam tnm tcm] 25)).cell? ⟨w3.heap.size, 0, none⟩ = some (.int .i64 uk) := by rw [cell_of_block h5w6]; rfl
   have cu1 : (w5.alloc (.cells #[.int .i64 tk, .bool tb, .int .i64 ti, .string ts, .slice tal tnl tcl, .slice tam tnm tcm] 25)).cell? ⟨w3.heap.size, 1, none⟩ = some (.bool ub) := by rw [cell_of_block h5w6]; rfl
   have cu2 : (w5.alloc (.cells #[.int .i64 tk, .bool tb, .int .i64 ti, .string ts, .slice tal tnl tcl, .slice tam tnm tcm] 25)).cell? ⟨w3.heap.size, 2, none⟩ = some (.int .i64 ui) := by rw [cell_of_block h5w6]; rfl
   have cu3 : (w5.alloc (.cells #[.int .i64 tk, .bool tb, .int .i64 ti, .string ts, .slice tal tnl tcl, .slice tam tnm tcm] 25)).cell? ⟨w3.heap.size, 3, none⟩ = some (.string us) := by rw [cell_of_block h5w6]; rfl
   have cu4 : (w5.alloc (.cells #[.int .i64 tk, .bool tb, .int .i64 ti, .string ts, .slice tal tnl tcl, .slice tam tnm tcm] 25)).cell? ⟨w3.heap.size, 4, none⟩ = some (.slice ual unl ucl) := by rw [cell_of_block h5w6]; rfl
   have cu5 : (w5.alloc (.cells #[.int .i64 tk, .bool tb, .int .i64 ti, .string ts, .slice tal tnl tcl, .slice tam tnm tcm] 25)).cell? ⟨w3.heap.size, 5, none⟩ = some (.slice uam unm ucm) := by rw [cell_of_block h5w6]; rfl
   have ct0 : (w5.alloc (.cells #[.int .i64 tk, .bool tb, .int .i64 ti, .string ts, .slice tal tnl tcl, .slice tam tnm tcm] 25)).cell? ⟨w5.heap.size, 0, none⟩ = some (.int .i64 tk) := by rw [cell_of_block h6w6]; rfl
   have ct1 : (w5.alloc (.cells #[.int .i64 tk, .bool tb, .int .i64 ti, .string ts, .slice tal tnl tcl, .slice tam tnm tcm] 25)).cell? ⟨w5.heap.size, 1, none⟩ = some (.bool tb) := by rw [cell_of_block h6w6]; rfl
   have ct2 : (w5.alloc (.cells #[.int .i64 tk, .bool tb, .int .i64 ti, .string ts, .slice tal tnl tcl, .slice tam tnm tcm] 25)).cell? ⟨w5.heap.size, 2, none⟩ = some (.int .i64 ti) := by rw [cell_of_block h6w6]; rfl
   have ct3 : (w5.alloc (.cells #[.int .i64 tk, .bool tb, .int .i64 ti, .string ts, .slice tal tnl tcl, .slice tam tnm tcm] 25)).cell? ⟨w5.heap.size, 3, none⟩ = some (.string ts) := by rw [cell_of_block h6w6]; rfl
   have ct4 : (w5.alloc (.cells #[.int .i64 tk, .bool tb, .int .i64 ti, .string ts, .slice tal tnl tcl, .slice tam tnm tcm] 25)).cell? ⟨w5.heap.size, 4, none⟩ = some (.slice tal tnl tcl) := by rw [cell_of_block h6w6]; rfl
   have ct5 : (w5.alloc (.cells #[.int .i64 tk, .bool tb, .int .i64 ti, .string ts, .slice tal tnl tcl, .slice tam tnm tcm] 25)).cell? ⟨w5.heap.size, 5, none⟩ = some (.slice tam tnm tcm) := by rw [cell_of_block h6w6]; rfl
   go_wp2_with fail
   clear cu0 cu1 cu2 cu3 cu4 cu5 ct0 ct1 ct2 ct3 ct4 ct5
   generalize (w5.alloc (.cells #[.int .i64 tk, .bool tb, .int .i64 ti, .string ts, .slice tal tnl tcl, .slice tam tnm tcm] 25)) = w6 at *
   refine (diff_any low v p (fun y => (w2.heap.size ≤ y ∧ y < w3.heap.size) ∨ (w4.heap.size ≤ y ∧ y < w5.heap.size)) _ _ w6 (HT.out _ Bww6) (HE.out _ Bww6) (V.lies_keep (S' := (fun y => (w2.heap.size ≤ y ∧ y < w3.heap.size) ∨ (w4.heap.size ≤ y ∧ y < w5.heap.size))) (fun h => h) (fun _ _ => rfl) (fun y hy => .inl hy) _ (lies_f Luw6.out)) (V.lies_keep (S' := (fun y => (w2.heap.size ≤ y ∧ y < w3.heap.size) ∨ (w4.heap.size ≤ y ∧ y < w5.heap.size))) (fun h => h) (fun _ _ => rfl) (fun y hy => .inr hy) _ (lies_f Ltw6.out)) (fun y hy => by rcases hy with hy | hy <;> (have := hy.2; omega)) (by omega) (by omega)).mono ?_
   rintro e_ w7 ⟨cg_, rfl, lg_, bw7⟩
   obtain ⟨gk, gb, gi, gs, gal, gnl, gcl, gam, gnm, gcm, rfl⟩ := V.ten lg_
   have hzw7 := bw7.size
   have hvw7 := (bw7.block (w.heap.size) (by omega)).trans hvw6
   have hpw7 := (bw7.block (w.heap.size + 1) (by omega)).trans hpw6
   have h5w7 := (bw7.block (w3.heap.size) (by omega)).trans h5w6
   have h6w7 := (bw7.block (w5.heap.size) (by omega)).trans h6w6
   have Bww7 := Bww6.trans (bw7.mono (by omega))
   have Luw7 := hmk (V.lies_keep (R' := true) (S' := (fun y => w2.heap.size ≤ y ∧ y < w3.heap.size)) (fun h => h) (fun y hy => bw7.block y (by have := hy.2; omega)) (fun _ h => h) _ Luw6.out)
   have Ltw7 := hmk (V.lies_keep (R' := true) (S' := (fun y => w4.heap.size ≤ y ∧ y < w5.heap.size)) (fun h => h) (fun y hy => bw7.block y (by have := hy.2; omega)) (fun _ h => h) _ Ltw6.out)
   clear Luw6 Ltw6
   have Lgw7 := hmk lg_
   clear lg_ bw7
   have bzw8 : Below w7.heap.size w7 (w7.alloc (.cells #[.int .i64 gk, .bool gb, .int .i64 gi, .string gs, .slice gal gnl gcl, .slice gam gnm gcm] 25)) := one_belowG _ _
   have hltw8 : w7.heap.size < (w7.alloc (.cells #[.int .i64 gk, .bool gb, .int .i64 gi, .string gs, .slice gal gnl gcl, .slice gam gnm gcm] 25)).heap.size := by rw [alloc_size]; omega
   have hvw8 := (bzw8.block (w.heap.size) (by omega)).trans hvw7
   have hpw8 := (bzw8.block (w.heap.size + 1) (by omega)).trans hpw7
   have h5w8 := (bzw8.block (w3.heap.size) (by omega)).trans h5w7
   have h6w8 := (bzw8.block (w5.heap.size) (by omega)).trans h6w7
   have Bww8 := Bww7.trans (bzw8.mono (by omega))
   have h7w8 := heap_alloc_new w7 (.cells #[.int .i64 gk, .bool gb, .int .i64 gi, .string gs, .slice gal gnl gcl, .slice gam gnm gcm] 25)
   have Luw8 := hmk (V.lies_keep (R' := true) (S' := (fun y => w2.heap.size ≤ y ∧ y < w3.heap.size)) (fun h => h) (fun y hy => bzw8.block y (by have := hy.2; omega)) (fun _ h => h) _ Luw7.out)
   have Ltw8 := hmk (V.lies_keep (R' := true) (S' := (fun y => w4.heap.size ≤ y ∧ y < w5.heap.size)) (fun h => h) (fun y hy => bzw8.block y (by have := hy.2; omega)) (fun _ h => h) _ Ltw7.out)
   have Lgw8 := hmk (V.lies_keep (R' := false) (S' := (fun y => w6.heap.size ≤ y ∧ y < w7.heap.size)) (fun h => h) (fun y hy => bzw8.block y (by have := hy.2; omega)) (fun _ h => h) _ Lgw7.out)
   clear Luw7 Ltw7 Lgw7
   have cv0 : (w7.alloc (.cells #[.int .i64 gk, .bool gb, .int .i64 gi, .string gs, .slice gal gnl gcl, .slice gam gnm gcm] 25)).cell? ⟨w.heap.size, 0, none⟩ = some (.int .i64 vk) := by rw [cell_of_block hvw8]; rfl
   have cv1 : (w7.alloc (.cells #[.int .i64 gk, .bool gb, .int .i64 gi, .string gs, .slice gal gnl gcl, .slice gam gnm gcm] 25)).cell? ⟨w.heap.size, 1, none⟩ = some (.bool vb) := by rw [cell_of_block hvw8]; rfl
   have cv2 : (w7.alloc (.cells #[.int .i64 gk, .bool gb, .int .i64 gi, .string gs, .slice gal gnl gcl, .slice gam gnm gcm] 25)).cell? ⟨w.heap.size, 2, none⟩ = some (.int .i64 vi) := by rw [cell_of_block hvw8]; rfl
   have cv3 : (w7.alloc (.cells #[.int .i64 gk, .bool gb, .int .i64 gi, .string gs, .slice gal gnl gcl, .slice gam gnm gcm] 25)).cell? ⟨w.heap.size, 3, none⟩ = some (.string vs) := by rw [cell_of_block hvw8]; rfl
   have cv4 : (w7.alloc (.cells #[.int .i64 gk, .bool gb, .int .i64 gi, .string gs, .slice gal gnl gcl, .slice gam gnm gcm] 25)).cell? ⟨w.heap.size, 4, none⟩ = some (.slice val vnl vcl) := by rw [cell_of_block hvw8]; rfl
   have cv5 : (w7.alloc (.cells #[.int .i64 gk, .bool gb, .int .i64 gi, .string gs, .slice gal gnl gcl, .slice gam gnm gcm] 25)).cell? ⟨w.heap.size, 5, none⟩ = some (.slice vam vnm vcm) := by rw [cell_of_block hvw8]; rfl
   have cp0 : (w7.alloc (.cells #[.int .i64 gk, .bool gb, .int .i64 gi, .string gs, .slice gal gnl gcl, .slice gam gnm gcm] 25)).cell? ⟨w.heap.size + 1, 0, none⟩ = some (.int .i64 pk) := by rw [cell_of_block hpw8]; rfl
   have cp1 : (w7.alloc (.cells #[.int .i64 gk, .bool gb, .int .i64 gi, .string gs, .slice gal gnl gcl, .slice gam gnm gcm] 25)).cell? ⟨w.heap.size + 1, 1, none⟩ = some (.bool pb) := by rw [cell_of_block hpw8]; rfl
   have cp2 : (w7.alloc (.cells #[.int .i64 gk, .bool gb, .int .i64 gi, .string gs, .slice gal gnl gcl, .slice gam gnm gcm] 25)).cell? ⟨w.heap.size + 1, 2, none⟩ = some (.int .i64 pi) := by rw [cell_of_block hpw8]; rfl
   have cp3 : (w7.alloc (.cells #[.int .i64 gk, .bool gb, .int .i64 gi, .string gs, .slice gal gnl gcl, .slice gam gnm gcm] 25)).cell? ⟨w.heap.size + 1, 3, none⟩ = some (.string ps) := by rw [cell_of_block hpw8]; rfl
   have cp4 : (w7.alloc (.cells #[.int .i64 gk, .bool gb, .int .i64 gi, .string gs, .slice gal gnl gcl, .slice gam gnm gcm] 25)).cell? ⟨w.heap.size + 1, 4, none⟩ = some (.slice pal pnl pcl) := by rw [cell_of_block hpw8]; rfl
   have cp5 : (w7.alloc (.cells #[.int .i64 gk, .bool gb, .int .i64 gi, .string gs, .slice gal gnl gcl, .slice gam gnm gcm] 25)).cell? ⟨w.heap.size + 1, 5, none⟩ = some (.slice pam pnm pcm) := by rw [cell_of_block hpw8]; rfl
   go_wp2_with fail
   clear cv0 cv1 cv2 cv3 cv4 cv5 cp0 cp1 cp2 cp3 cp4 cp5
   generalize (w7.alloc (.cells #[.int .i64 gk, .bool gb, .int .i64 gi, .string gs, .slice gal gnl gcl, .slice gam gnm gcm] 25)) = w8 at *
   refine (rdiff_any v p (Old w) _ _ w8 (HL.out _ Bww8) (HP.out _ Bww8) (HO.out _ Bww8) (by omega) (by omega)).mono ?_
   rintro e_ w9 ⟨cf_, rfl, lf_, bw9⟩
   obtain ⟨fk, fb, fi, fs, fal, fnl, fcl, fam, fnm, fcm, rfl⟩ := V.ten lf_
   have hzw9 := bw9.size
   have hvw9 := (bw9.block (w.heap.size) (by omega)).trans hvw8
   have hpw9 := (bw9.block (w.heap.size + 1) (by omega)).trans hpw8
   have h5w9 := (bw9.block (w3.heap.size) (by omega)).trans h5w8
   have h6w9 := (bw9.block (w5.heap.size) (by omega)).trans h6w8
   have h7w9 := (bw9.block (w7.heap.size) (by omega)).trans h7w8
   have Bww9 := Bww8.trans (bw9.mono (by omega))
   have Luw9 := hmk (V.lies_keep (R' := true) (S' := (fun y => w2.heap.size ≤ y ∧ y < w3.heap.size)) (fun h => h) (fun y hy => bw9.block y (by have := hy.2; omega)) (fun _ h => h) _ Luw8.out)
   have Ltw9 := hmk (V.lies_keep (R' := true) (S' := (fun y => w4.heap.size ≤ y ∧ y < w5.heap.size)) (fun h => h) (fun y hy => bw9.block y (by have := hy.2; omega)) (fun _ h => h) _ Ltw8.out)
   have Lgw9 := hmk (V.lies_keep (R' := false) (S' := (fun y => w6.heap.size ≤ y ∧ y < w7.heap.size)) (fun h => h) (fun y hy => bw9.block y (by have := hy.2; omega)) (fun _ h => h) _ Lgw8.out)
   clear Luw8 Ltw8 Lgw8
   have Lfw9 := hmk lf_
   clear lf_ bw9
   have bzw10 : Below w9.heap.size w9 (w9.alloc (.cells #[.int .i64 fk, .bool fb, .int .i64 fi, .string fs, .slice fal fnl fcl, .slice fam fnm fcm] 25)) := one_belowG _ _
   have hltw10 : w9.heap.size < (w9.alloc (.cells #[.int .i64 fk, .bool fb, .int .i64 fi, .string fs, .slice fal fnl fcl, .slice fam fnm fcm] 25)).heap.size := by rw [alloc_size]; omega
   have hvw10 := (bzw10.block (w.heap.size) (by omega)).trans hvw9
   have hpw10 := (bzw10.block (w.heap.size + 1) (by omega)).trans hpw9
   have h5w10 := (bzw10.block (w3.heap.size) (by omega)).trans h5w9
   have h6w10 := (bzw10.block (w5.heap.size) (by omega)).trans h6w9
   have h7w10 := (bzw10.block (w7.heap.size) (by omega)).trans h7w9
   have Bww10 := Bww9.trans (bzw10.mono (by omega))
   have h9w10 := heap_alloc_new w9 (.cells #[.int .i64 fk, .bool fb, .int .i64 fi, .string fs, .slice fal fnl fcl, .slice fam fnm fcm] 25)
   have Luw10 := hmk (V.lies_keep (R' := true) (S' := (fun y => w2.heap.size ≤ y ∧ y < w3.heap.size)) (fun h => h) (fun y hy => bzw10.block y (by have := hy.2; omega)) (fun _ h => h) _ Luw9.out)
   have Ltw10 := hmk (V.lies_keep (R' := true) (S' := (fun y => w4.heap.size ≤ y ∧ y < w5.heap.size)) (fun h => h) (fun y hy => bzw10.block y (by have := hy.2; omega)) (fun _ h => h) _ Ltw9.out)
   have Lgw10 := hmk (V.lies_keep (R' := false) (S' := (fun y => w6.heap.size ≤ y ∧ y < w7.heap.size)) (fun h => h) (fun y hy => bzw10.block y (by have := hy.2; omega)) (fun _ h => h) _ Lgw9.out)
   have Lfw10 := hmk (V.lies_keep (R' := false) (S' := (fun y => w8.heap.size ≤ y ∧ y < w9.heap.size)) (fun h => h) (fun y hy => bzw10.block y (by have := hy.2; omega)) (fun _ h => h) _ Lfw9.out)
   clear Luw9 Ltw9 Lgw9 Lfw9
   have CS := hmk (same_any (dffF v p).1 false false (dffF v p).1 (fun y => w6.heap.size ≤ y ∧ y < w7.heap.size) (fun y => w8.heap.size ≤ y ∧ y < w9.heap.size) _ _ (w9.alloc (.cells #[.int .i64 fk, .bool fb, .int .i64 fi, .string fs, .slice fal fnl fcl, .slice fam fnm fcm] 25)) Lgw10.out Lfw10.out (fun y hy => by have := hy.2; omega) (fun y hy => by have := hy.2; omega))
   rw [V.eqB_refl] at CS
   generalize (dffF v p).2.2 = er1 at *
   generalize (dffF v p).2.1 = bo1 at *
   have yb1 : (bo1 != bo1) = false := by cases bo1 <;> rfl
   clear Lgw10 Lfw10
   have cg0 : (w9.alloc (.cells #[.int .i64 fk, .bool fb, .int .i64 fi, .string fs, .slice fal fnl fcl, .slice fam fnm fcm] 25)).cell? ⟨w7.heap.size, 0, none⟩ = some (.int .i64 gk) := by rw [cell_of_block h7w10]; rfl
   have cg1 : (w9.alloc (.cells #[.int .i64 fk, .bool fb, .int .i64 fi, .string fs, .slice fal fnl fcl, .slice fam fnm fcm] 25)).cell? ⟨w7.heap.size, 1, none⟩ = some (.bool gb) := by rw [cell_of_block h7w10]; rfl
   have cg2 : (w9.alloc (.cells #[.int .i64 fk, .bool fb, .int .i64 fi, .string fs, .slice fal fnl fcl, .slice fam fnm fcm] 25)).cell? ⟨w7.heap.size, 2, none⟩ = some (.int .i64 gi) := by rw [cell_of_block h7w10]; rfl
   have cg3 : (w9.alloc (.cells #[.int .i64 fk, .bool fb, .int .i64 fi, .string fs, .slice fal fnl fcl, .slice fam fnm fcm] 25)).cell? ⟨w7.heap.size, 3, none⟩ = some (.string gs) := by rw [cell_of_block h7w10]; rfl
   have cg4 : (w9.alloc (.cells #[.int .i64 fk, .bool fb, .int .i64 fi, .string fs, .slice fal fnl fcl, .slice fam fnm fcm] 25)).cell? ⟨w7.heap.size, 4, none⟩ = some (.slice gal gnl gcl) := by rw [cell_of_block h7w10]; rfl
   have cg5 : (w9.alloc (.cells #[.int .i64 fk, .bool fb, .int .i64 fi, .string fs, .slice fal fnl fcl, .slice fam fnm fcm] 25)).cell? ⟨w7.heap.size, 5, none⟩ = some (.slice gam gnm gcm) := by rw [cell_of_block h7w10]; rfl
   have cf0 : (w9.alloc (.cells #[.int .i64 fk, .bool fb, .int .i64 fi, .string fs, .slice fal fnl fcl, .slice fam fnm fcm] 25)).cell? ⟨w9.heap.size, 0, none⟩ = some (.int .i64 fk) := by rw [cell_of_block h9w10]; rfl
   have cf1 : (w9.alloc (.cells #[.int .i64 fk, .bool fb, .int .i64 fi, .string fs, .slice fal fnl fcl, .slice fam fnm fcm] 25)).cell? ⟨w9.heap.size, 1, none⟩ = some (.bool fb) := by rw [cell_of_block h9w10]; rfl
   have cf2 : (w9.alloc (.cells #[.int .i64 fk, .bool fb, .int .i64 fi, .string fs, .slice fal fnl fcl, .slice fam fnm fcm] 25)).cell? ⟨w9.heap.size, 2, none⟩ = some (.int .i64 fi) := by rw [cell_of_block h9w10]; rfl
   have cf3 : (w9.alloc (.cells #[.int .i64 fk, .bool fb, .int .i64 fi, .string fs, .slice fal fnl fcl, .slice fam fnm fcm] 25)).cell? ⟨w9.heap.size, 3, none⟩ = some (.string fs) := by rw [cell_of_block h9w10]; rfl
   have cf4 : (w9.alloc (.cells #[.int .i64 fk, .bool fb, .int .i64 fi, .string fs, .slice fal fnl fcl, .slice fam fnm fcm] 25)).cell? ⟨w9.heap.size, 4, none⟩ = some (.slice fal fnl fcl) := by rw [cell_of_block h9w10]; rfl
   have cf5 : (w9.alloc (.cells #[.int .i64 fk, .bool fb, .int .i64 fi, .string fs, .slice fal fnl fcl, .slice fam fnm fcm] 25)).cell? ⟨w9.heap.size, 5, none⟩ = some (.slice fam fnm fcm) := by rw [cell_of_block h9w10]; rfl
   go_wp2_with fail
   clear cg0 cg1 cg2 cg3 cg4 cg5 cf0 cf1 cf2 cf3 cf4 cf5
   generalize (w9.alloc (.cells #[.int .i64 fk, .bool fb, .int .i64 fi, .string fs, .slice fal fnl fcl, .slice fam fnm fcm] 25)) = w10 at *
   refine CS.out.mono ?_
   clear CS
   rintro e_ w11 ⟨rfl, bw11⟩
   have hzw11 := bw11.size
   have hvw11 := (bw11.block (w.heap.size) (by omega)).trans hvw10
   have hpw11 := (bw11.block (w.heap.size + 1) (by omega)).trans hpw10
   have h5w11 := (bw11.block (w3.heap.size) (by omega)).trans h5w10
   have h6w11 := (bw11.block (w5.heap.size) (by omega)).trans h6w10
   have h7w11 := (bw11.block (w7.heap.size) (by omega)).trans h7w10
   have h9w11 := (bw11.block (w9.heap.size) (by omega)).trans h9w10
   have Bww11 := Bww10.trans (bw11.mono (by omega))
   have Luw11 := hmk (V.lies_keep (R' := true) (S' := (fun y => w2.heap.size ≤ y ∧ y < w3.heap.size)) (fun h => h) (fun y hy => bw11.block y (by have := hy.2; omega)) (fun _ h => h) _ Luw10.out)
   have Ltw11 := hmk (V.lies_keep (R' := true) (S' := (fun y => w4.heap.size ≤ y ∧ y < w5.heap.size)) (fun h => h) (fun y hy => bw11.block y (by have := hy.2; omega)) (fun _ h => h) _ Ltw10.out)
   clear Luw10 Ltw10
   have cu0 : w11.cell? ⟨w3.heap.size, 0, none⟩ = some (.int .i64 uk) := by rw [cell_of_block h5w11]; rfl
   have cu1 : w11.cell? ⟨w3.heap.size, 1, none⟩ = some (.bool ub) := by rw [cell_of_block h5w11]; rfl
   have cu2 : w11.cell? ⟨w3.heap.size, 2, none⟩ = some (.int .i64 ui) := by rw [cell_of_block h5w11]; rfl
   have cu3 : w11.cell? ⟨w3.heap.size, 3, none⟩ = some (.string us) := by rw [cell_of_block h5w11]; rfl
   have cu4 : w11.cell? ⟨w3.heap.size, 4, none⟩ = some (.slice ual unl ucl) := by rw [cell_of_block h5w11]; rfl
   have cu5 : w11.cell? ⟨w3.heap.size, 5, none⟩ = some (.slice uam unm ucm) := by rw [cell_of_block h5w11]; rfl
   have cv0 : w11.cell? ⟨w.heap.size, 0, none⟩ = some (.int .i64 vk) := by rw [cell_of_block hvw11]; rfl
   have cv1 : w11.cell? ⟨w.heap.size, 1, none⟩ = some (.bool vb) := by rw [cell_of_block hvw11]; rfl
   have cv2 : w11.cell? ⟨w.heap.size, 2, none⟩ = some (.int .i64 vi) := by rw [cell_of_block hvw11]; rfl
   have cv3 : w11.cell? ⟨w.heap.size, 3, none⟩ = some (.string vs) := by rw [cell_of_block hvw11]; rfl
   have cv4 : w11.cell? ⟨w.heap.size, 4, none⟩ = some (.slice val vnl vcl) := by rw [cell_of_block hvw11]; rfl
   have cv5 : w11.cell? ⟨w.heap.size, 5, none⟩ = some (.slice vam vnm vcm) := by rw [cell_of_block hvw11]; rfl
   go_wp2_with fail
   clear cu0 cu1 cu2 cu3 cu4 cu5 cv0 cv1 cv2 cv3 cv4 cv5
   refine (kept_any v false (fun y => w2.heap.size ≤ y ∧ y < w3.heap.size) (Old w) _ _ w11 Luw11.out (HL.out _ Bww11) (fun y hy => by have := hy.2; omega) (HO.out _ Bww11) (by omega)).mono ?_
   rintro e_ w12 ⟨rfl, bw12⟩
   have hzw12 := bw12.size
   have hvw12 := (bw12.block (w.heap.size) (by omega)).trans hvw11
   have hpw12 := (bw12.block (w.heap.size + 1) (by omega)).trans hpw11
   have h5w12 := (bw12.block (w3.heap.size) (by omega)).trans h5w11
   have h6w12 := (bw12.block (w5.heap.size) (by omega)).trans h6w11
   have h7w12 := (bw12.block (w7.heap.size) (by omega)).trans h7w11
   have h9w12 := (bw12.block (w9.heap.size) (by omega)).trans h9w11
   have Bww12 := Bww11.trans (bw12.mono (by omega))
   have Luw12 := hmk (V.lies_keep (R' := true) (S' := (fun y => w2.heap.size ≤ y ∧ y < w3.heap.size)) (fun h => h) (fun y hy => bw12.block y (by have := hy.2; omega)) (fun _ h => h) _ Luw11.out)
   have Ltw12 := hmk (V.lies_keep (R' := true) (S' := (fun y => w4.heap.size ≤ y ∧ y < w5.heap.size)) (fun h => h) (fun y hy => bw12.block y (by have := hy.2; omega)) (fun _ h => h) _ Ltw11.out)
   clear Luw11 Ltw11
   have cu0 : w12.cell? ⟨w5.heap.size, 0, none⟩ = some (.int .i64 tk) := by rw [cell_of_block h6w12]; rfl
   have cu1 : w12.cell? ⟨w5.heap.size, 1, none⟩ = some (.bool tb) := by rw [cell_of_block h6w12]; rfl
   have cu2 : w12.cell? ⟨w5.heap.size, 2, none⟩ = some (.int .i64 ti) := by rw [cell_of_block h6w12]; rfl
   have cu3 : w12.cell? ⟨w5.heap.size, 3, none⟩ = some (.string ts) := by rw [cell_of_block h6w12]; rfl
   have cu4 : w12.cell? ⟨w5.heap.size, 4, none⟩ = some (.slice tal tnl tcl) := by rw [cell_of_block h6w12]; rfl
   have cu5 : w12.cell? ⟨w5.heap.size, 5, none⟩ = some (.slice tam tnm tcm) := by rw [cell_of_block h6w12]; rfl
   have cv0 : w12.cell? ⟨w.heap.size + 1, 0, none⟩ = some (.int .i64 pk) := by rw [cell_of_block hpw12]; rfl
   have cv1 : w12.cell? ⟨w.heap.size + 1, 1, none⟩ = some (.bool pb) := by rw [cell_of_block hpw12]; rfl
   have cv2 : w12.cell? ⟨w.heap.size + 1, 2, none⟩ = some (.int .i64 pi) := by rw [cell_of_block hpw12]; rfl
   have cv3 : w12.cell? ⟨w.heap.size + 1, 3, none⟩ = some (.string ps) := by rw [cell_of_block hpw12]; rfl
   have cv4 : w12.cell? ⟨w.heap.size + 1, 4, none⟩ = some (.slice pal pnl pcl) := by rw [cell_of_block hpw12]; rfl
   have cv5 : w12.cell? ⟨w.heap.size + 1, 5, none⟩ = some (.slice pam pnm pcm) := by rw [cell_of_block hpw12]; rfl
   go_wp2_with fail
   clear cu0 cu1 cu2 cu3 cu4 cu5 cv0 cv1 cv2 cv3 cv4 cv5
   refine (kept_any p false (fun y => w4.heap.size ≤ y ∧ y < w5.heap.size) (Old w) _ _ w12 Ltw12.out (HP.out _ Bww12) (fun y hy => by have := hy.2; omega) (HO.out _ Bww12) (by omega)).mono ?_
   rintro e_ w13 ⟨rfl, bw13⟩
   have hzw13 := bw13.size
   have hvw13 := (bw13.block (w.heap.size) (by omega)).trans hvw12
   have hpw13 := (bw13.block (w.heap.size + 1) (by omega)).trans hpw12
   have h5w13 := (bw13.block (w3.heap.size) (by omega)).trans h5w12
   have h6w13 := (bw13.block (w5.heap.size) (by omega)).trans h6w12
   have h7w13 := (bw13.block (w7.heap.size) (by omega)).trans h7w12
   have h9w13 := (bw13.block (w9.heap.size) (by omega)).trans h9w12
   have Bww13 := Bww12.trans (bw13.mono (by omega))
   have hA4 : w.heap.size ≤ w7.heap.size := by omega
   have hA6 : w7.heap.size < w9.heap.size := by omega
   have H4 := hmk h7w13
   have H6 := hmk h9w13
   have HB := hmk Bww13
   generalize w7.heap.size = A4 at *
   generalize w9.heap.size = A6 at *
   go_wp2_with fail
   clear h7w13 h9w13 Bww13 yb1
   go_loopw [8, 9, 11, 12, 13, 14, 15, 16, 17, 18, 19] (fun e8 e9 e11 e12 e13 _ _ _ _ _ _ wr => ∃ (q : Nat) (c1 c2 : Bool) (r1 r2 : Int) (xk : Int) (xb : Bool) (xi : Int) (xs : ByteArray) (xal : Option Addr) (xnl xcl : Nat) (xam : Option Addr) (xnm xcm : Nat) (yk : Int) (yb : Bool) (yi : Int) (ys : ByteArray) (yal : Option Addr) (ynl ycl : Nat) (yam : Option Addr) (ynm ycm : Nat), 31 ≤ q ∧ q ≤ 34 ∧ e8 = .bool c1 ∧ e9 = .int .i64 r1 ∧ e11 = .bool c2 ∧ e12 = .int .i64 r2 ∧ e13 = .int .i64 (q : Int) ∧ Hid (wr.heap[A4]? = some (.cells #[.int .i64 xk, .bool xb, .int .i64 xi, .string xs, .slice xal xnl xcl, .slice xam xnm xcm] 25)) ∧ Hid (wr.heap[A6]? = some (.cells #[.int .i64 yk, .bool yb, .int .i64 yi, .string ys, .slice yal ynl ycl, .slice yam ynm ycm] 25)) ∧ Hid (Below w.heap.size w wr)) (fun _ _ _ _ e13 _ _ _ _ _ _ _ => 34 - (RowKit.intOf e13).toNat)
   case atStart => exact ⟨31, _, _, _, _, _, _, _, _, _, _, _, _, _, _, _, _, _, _, _, _, _, _, _, _, by omega, by omega, rfl, rfl, rfl, rfl, rfl, H4, H6, HB⟩
   case round =>
    clear H4 H6 HB
    obtain ⟨q, c1, c2, r1, r2, xk, xb, xi, xs, xal, xnl, xcl, xam, xnm, xcm, yk, yb, yi, ys, yal, ynl, ycl, yam, ynm, ycm, hq1, hq2, rfl, rfl, rfl, rfl, rfl, H4, H6, HB⟩ := hrel
    have h7wr := H4.out
    have h9wr := H6.out
    have Bwwr := HB.out
    have hz4 : A4 < wr.heap.size := (Array.getElem?_eq_some_iff.1 h7wr).1
    have hz6 : A6 < wr.heap.size := (Array.getElem?_eq_some_iff.1 h9wr).1
    clear H4 H6 HB
    by_cases hq : q < 34
    rotate_left
    ·obtain rfl : q = 34 := by omega
     have yq : ¬ ((34 : Nat) : Int) < 34 := by omega
     go_wp2_with fail
     go_ret
     exact ⟨rfl, Bwwr⟩
    have yq : (q : Int) < 34 := by omega
    have hcw := ch_wt q q
    have hsw : sgV.wt = 3 := by decide
    go_wp2_with fail
    refine (chain_any q (by omega) wr).mono ?_
    rintro e_ w14 ⟨cc_, rfl, lc_, bw14⟩
    obtain ⟨ck, cb, ci, cs, cal, cnl, ccl, cam, cnm, ccm, rfl⟩ := V.ten lc_
    have hzw14 := bw14.size
    have h7w14 := (bw14.block (A4) (by omega)).trans h7wr
    have h9w14 := (bw14.block (A6) (by omega)).trans h9wr
    have Bww14 := Bwwr.trans (bw14.mono (by omega))
    have Lcw14 := hmk lc_
    clear lc_ bw14
    go_wp2_with fail
    refine (single_any w14).mono ?_
    rintro e_ w15 ⟨cs_, rfl, ls_, bw15⟩
    obtain ⟨sk, sb, si, ss, sal, snl, scl, sam, snm, scm, rfl⟩ := V.ten ls_
    have hzw15 := bw15.size
    have h7w15 := (bw15.block (A4) (by omega)).trans h7w14
    have h9w15 := (bw15.block (A6) (by omega)).trans h9w14
    have Bww15 := Bww14.trans (bw15.mono (by omega))
    have Lcw15 := hmk (V.lies_keep (R' := false) (S' := (fun y => wr.heap.size ≤ y ∧ y < w14.heap.size)) (fun h => h) (fun y hy => bw15.block y (by have := hy.2; omega)) (fun _ h => h) _ Lcw14.out)
    clear Lcw14
    have Lsw15 := hmk ls_
    clear ls_ bw15
    go_wp2_with fail
    refine (diff_any low (chV q q) sgV (fun y => (wr.heap.size ≤ y ∧ y < w14.heap.size) ∨ (w14.heap.size ≤ y ∧ y < w15.heap.size)) _ _ w15 (HT.out _ Bww15) (HE.out _ Bww15) (V.lies_keep (S' := (fun y => (wr.heap.size ≤ y ∧ y < w14.heap.size) ∨ (w14.heap.size ≤ y ∧ y < w15.heap.size))) (fun h => h) (fun _ _ => rfl) (fun y hy => .inl hy) _ Lcw15.out) (V.lies_keep (S' := (fun y => (wr.heap.size ≤ y ∧ y < w14.heap.size) ∨ (w14.heap.size ≤ y ∧ y < w15.heap.size))) (fun h => h) (fun _ _ => rfl) (fun y hy => .inr hy) _ Lsw15.out) (fun y hy => by rcases hy with hy | hy <;> (have := hy.2; omega)) (by omega) (by omega)).mono ?_
    rintro e_ w16 ⟨cg_, rfl, lg_, bw16⟩
    obtain ⟨gk, gb, gi, gs, gal, gnl, gcl, gam, gnm, gcm, rfl⟩ := V.ten lg_
    have hzw16 := bw16.size
    have h7w16 := (bw16.block (A4) (by omega)).trans h7w15
    have h9w16 := (bw16.block (A6) (by omega)).trans h9w15
    have Bww16 := Bww15.trans (bw16.mono (by omega))
    have Lcw16 := hmk (V.lies_keep (R' := false) (S' := (fun y => wr.heap.size ≤ y ∧ y < w14.heap.size)) (fun h => h) (fun y hy => bw16.block y (by have := hy.2; omega)) (fun _ h => h) _ Lcw15.out)
    have Lsw16 := hmk (V.lies_keep (R' := false) (S' := (fun y => w14.heap.size ≤ y ∧ y < w15.heap.size)) (fun h => h) (fun y hy => bw16.block y (by have := hy.2; omega)) (fun _ h => h) _ Lsw15.out)
    clear Lcw15 Lsw15
    have Lgw16 := hmk lg_
    clear lg_ bw16
    have z0 : w16.cell? ⟨A4, 0, none⟩ = some (.int .i64 xk) := by rw [cell_of_block h7w16]; rfl
    have z1 : w16.cell? ⟨A4, 1, none⟩ = some (.bool xb) := by rw [cell_of_block h7w16]; rfl
    have z2 : w16.cell? ⟨A4, 2, none⟩ = some (.int .i64 xi) := by rw [cell_of_block h7w16]; rfl
    have z3 : w16.cell? ⟨A4, 3, none⟩ = some (.string xs) := by rw [cell_of_block h7w16]; rfl
    have z4 : w16.cell? ⟨A4, 4, none⟩ = some (.slice xal xnl xcl) := by rw [cell_of_block h7w16]; rfl
    have z5 : w16.cell? ⟨A4, 5, none⟩ = some (.slice xam xnm xcm) := by rw [cell_of_block h7w16]; rfl
    have f4 := frozen_of_block h7w16
    have How17 := hmk (six_o w16 (A4) (.int .i64 gk) (.bool gb) (.int .i64 gi) (.string gs) (.slice gal gnl gcl) (.slice gam gnm gcm))
    have Hsw17 : Hid (((((((w16.setCell ⟨A4, 0, none⟩ (.int .i64 gk)).setCell ⟨A4, 1, none⟩ (.bool gb)).setCell ⟨A4, 2, none⟩ (.int .i64 gi)).setCell ⟨A4, 3, none⟩ (.string gs)).setCell ⟨A4, 4, none⟩ (.slice gal gnl gcl)).setCell ⟨A4, 5, none⟩ (.slice gam gnm gcm)).heap.size = w16.heap.size) := by show _ = _; simp only [size_set1]
    have hgew17 : w16.heap.size ≤ ((((((w16.setCell ⟨A4, 0, none⟩ (.int .i64 gk)).setCell ⟨A4, 1, none⟩ (.bool gb)).setCell ⟨A4, 2, none⟩ (.int .i64 gi)).setCell ⟨A4, 3, none⟩ (.string gs)).setCell ⟨A4, 4, none⟩ (.slice gal gnl gcl)).setCell ⟨A4, 5, none⟩ (.slice gam gnm gcm)).heap.size := by rw [Hsw17.out]; exact Nat.le_refl _
    have h7w17 := box_six h7w16 (.int .i64 gk) (.bool gb) (.int .i64 gi) (.string gs) (.slice gal gnl gcl) (.slice gam gnm gcm)
    have h9w17 := (How17.out (A6) (by omega)).trans h9w16
    have Bww17 := Below.set6 Bww16 (M := A4) (by omega) 0 1 2 3 4 5 (.int .i64 gk) (.bool gb) (.int .i64 gi) (.string gs) (.slice gal gnl gcl) (.slice gam gnm gcm)
    have Lgw17 := hmk (V.lies_keep (R' := false) (S' := (fun y => w15.heap.size ≤ y ∧ y < w16.heap.size)) (fun h => h) (fun y hy => How17.out y (by have := hy.1; omega)) (fun _ h => h) _ Lgw16.out)
    clear Lgw16
    go_wp2_with fail
    clear z0 z1 z2 z3 z4 z5 f4
    generalize ((((((w16.setCell ⟨A4, 0, none⟩ (.int .i64 gk)).setCell ⟨A4, 1, none⟩ (.bool gb)).setCell ⟨A4, 2, none⟩ (.int .i64 gi)).setCell ⟨A4, 3, none⟩ (.string gs)).setCell ⟨A4, 4, none⟩ (.slice gal gnl gcl)).setCell ⟨A4, 5, none⟩ (.slice gam gnm gcm)) = w17 at *
    refine (chain_any q (by omega) w17).mono ?_
    rintro e_ w18 ⟨cc_, rfl, lc_, bw18⟩
    obtain ⟨ck, cb, ci, cs, cal, cnl, ccl, cam, cnm, ccm, rfl⟩ := V.ten lc_
    have hzw18 := bw18.size
    have h7w18 := (bw18.block (A4) (by omega)).trans h7w17
    have h9w18 := (bw18.block (A6) (by omega)).trans h9w17
    have Bww18 := Bww17.trans (bw18.mono (by omega))
    have Lgw18 := hmk (V.lies_keep (R' := false) (S' := (fun y => w15.heap.size ≤ y ∧ y < w16.heap.size)) (fun h => h) (fun y hy => bw18.block y (by have := hy.2; omega)) (fun _ h => h) _ Lgw17.out)
    clear Lgw17
    have Lcw18 := hmk lc_
    clear lc_ bw18
    go_wp2_with fail
    refine (single_any w18).mono ?_
    rintro e_ w19 ⟨cs_, rfl, ls_, bw19⟩
    obtain ⟨sk, sb, si, ss, sal, snl, scl, sam, snm, scm, rfl⟩ := V.ten ls_
    have hzw19 := bw19.size
    have h7w19 := (bw19.block (A4) (by omega)).trans h7w18
    have h9w19 := (bw19.block (A6) (by omega)).trans h9w18
    have Bww19 := Bww18.trans (bw19.mono (by omega))
    have Lgw19 := hmk (V.lies_keep (R' := false) (S' := (fun y => w15.heap.size ≤ y ∧ y < w16.heap.size)) (fun h => h) (fun y hy => bw19.block y (by have := hy.2; omega)) (fun _ h => h) _ Lgw18.out)
    have Lcw19 := hmk (V.lies_keep (R' := false) (S' := (fun y => w17.heap.size ≤ y ∧ y < w18.heap.size)) (fun h => h) (fun y hy => bw19.block y (by have := hy.2; omega)) (fun _ h => h) _ Lcw18.out)
    clear Lgw18 Lcw18
    have Lsw19 := hmk ls_
    clear ls_ bw19
    go_wp2_with fail
    refine (rdiff_any (chV q q) sgV (fun y => (w17.heap.size ≤ y ∧ y < w18.heap.size) ∨ (w18.heap.size ≤ y ∧ y < w19.heap.size)) _ _ w19 (V.lies_keep (S' := (fun y => (w17.heap.size ≤ y ∧ y < w18.heap.size) ∨ (w18.heap.size ≤ y ∧ y < w19.heap.size))) (fun h => h) (fun _ _ => rfl) (fun y hy => .inl hy) _ Lcw19.out) (V.lies_keep (S' := (fun y => (w17.heap.size ≤ y ∧ y < w18.heap.size) ∨ (w18.heap.size ≤ y ∧ y < w19.heap.size))) (fun h => h) (fun _ _ => rfl) (fun y hy => .inr hy) _ Lsw19.out) (fun y hy => by rcases hy with hy | hy <;> (have := hy.2; omega)) (by omega) (by omega)).mono ?_
    rintro e_ w20 ⟨cf_, rfl, lf_, bw20⟩
    obtain ⟨fk, fb, fi, fs, fal, fnl, fcl, fam, fnm, fcm, rfl⟩ := V.ten lf_
    have hzw20 := bw20.size
    have h7w20 := (bw20.block (A4) (by omega)).trans h7w19
    have h9w20 := (bw20.block (A6) (by omega)).trans h9w19
    have Bww20 := Bww19.trans (bw20.mono (by omega))
    have Lgw20 := hmk (V.lies_keep (R' := false) (S' := (fun y => w15.heap.size ≤ y ∧ y < w16.heap.size)) (fun h => h) (fun y hy => bw20.block y (by have := hy.2; omega)) (fun _ h => h) _ Lgw19.out)
    have Lcw20 := hmk (V.lies_keep (R' := false) (S' := (fun y => w17.heap.size ≤ y ∧ y < w18.heap.size)) (fun h => h) (fun y hy => bw20.block y (by have := hy.2; omega)) (fun _ h => h) _ Lcw19.out)
    have Lsw20 := hmk (V.lies_keep (R' := false) (S' := (fun y => w18.heap.size ≤ y ∧ y < w19.heap.size)) (fun h => h) (fun y hy => bw20.block y (by have := hy.2; omega)) (fun _ h => h) _ Lsw19.out)
    clear Lgw19 Lcw19 Lsw19
    have Lfw20 := hmk lf_
    clear lf_ bw20
    have z0 : w20.cell? ⟨A6, 0, none⟩ = some (.int .i64 yk) := by rw [cell_of_block h9w20]; rfl
    have z1 : w20.cell? ⟨A6, 1, none⟩ = some (.bool yb) := by rw [cell_of_block h9w20]; rfl
    have z2 : w20.cell? ⟨A6, 2, none⟩ = some (.int .i64 yi) := by rw [cell_of_block h9w20]; rfl
    have z3 : w20.cell? ⟨A6, 3, none⟩ = some (.string ys) := by rw [cell_of_block h9w20]; rfl
    have z4 : w20.cell? ⟨A6, 4, none⟩ = some (.slice yal ynl ycl) := by rw [cell_of_block h9w20]; rfl
    have z5 : w20.cell? ⟨A6, 5, none⟩ = some (.slice yam ynm ycm) := by rw [cell_of_block h9w20]; rfl
    have f6 := frozen_of_block h9w20
    have How21 := hmk (six_o w20 (A6) (.int .i64 fk) (.bool fb) (.int .i64 fi) (.string fs) (.slice fal fnl fcl) (.slice fam fnm fcm))
    have Hsw21 : Hid (((((((w20.setCell ⟨A6, 0, none⟩ (.int .i64 fk)).setCell ⟨A6, 1, none⟩ (.bool fb)).setCell ⟨A6, 2, none⟩ (.int .i64 fi)).setCell ⟨A6, 3, none⟩ (.string fs)).setCell ⟨A6, 4, none⟩ (.slice fal fnl fcl)).setCell ⟨A6, 5, none⟩ (.slice fam fnm fcm)).heap.size = w20.heap.size) := by show _ = _; simp only [size_set1]
    have hgew21 : w20.heap.size ≤ ((((((w20.setCell ⟨A6, 0, none⟩ (.int .i64 fk)).setCell ⟨A6, 1, none⟩ (.bool fb)).setCell ⟨A6, 2, none⟩ (.int .i64 fi)).setCell ⟨A6, 3, none⟩ (.string fs)).setCell ⟨A6, 4, none⟩ (.slice fal fnl fcl)).setCell ⟨A6, 5, none⟩ (.slice fam fnm fcm)).heap.size := by rw [Hsw21.out]; exact Nat.le_refl _
    have h7w21 := (How21.out (A4) (by omega)).trans h7w20
    have h9w21 := box_six h9w20 (.int .i64 fk) (.bool fb) (.int .i64 fi) (.string fs) (.slice fal fnl fcl) (.slice fam fnm fcm)
    have Bww21 := Below.set6 Bww20 (M := A6) (by omega) 0 1 2 3 4 5 (.int .i64 fk) (.bool fb) (.int .i64 fi) (.string fs) (.slice fal fnl fcl) (.slice fam fnm fcm)
    have Lgw21 := hmk (V.lies_keep (R' := false) (S' := (fun y => w15.heap.size ≤ y ∧ y < w16.heap.size)) (fun h => h) (fun y hy => How21.out y (by have := hy.1; omega)) (fun _ h => h) _ Lgw20.out)
    have Lfw21 := hmk (V.lies_keep (R' := false) (S' := (fun y => w19.heap.size ≤ y ∧ y < w20.heap.size)) (fun h => h) (fun y hy => How21.out y (by have := hy.1; omega)) (fun _ h => h) _ Lfw20.out)
    clear Lgw20 Lfw20
    go_wp2_with fail
    clear z0 z1 z2 z3 z4 z5 f6
    generalize ((((((w20.setCell ⟨A6, 0, none⟩ (.int .i64 fk)).setCell ⟨A6, 1, none⟩ (.bool fb)).setCell ⟨A6, 2, none⟩ (.int .i64 fi)).setCell ⟨A6, 3, none⟩ (.string fs)).setCell ⟨A6, 4, none⟩ (.slice fal fnl fcl)).setCell ⟨A6, 5, none⟩ (.slice fam fnm fcm)) = w21 at *
    refine (single_any w21).mono ?_
    rintro e_ w22 ⟨cs_, rfl, ls_, bw22⟩
    obtain ⟨sk, sb, si, ss, sal, snl, scl, sam, snm, scm, rfl⟩ := V.ten ls_
    have hzw22 := bw22.size
    have h7w22 := (bw22.block (A4) (by omega)).trans h7w21
    have h9w22 := (bw22.block (A6) (by omega)).trans h9w21
    have Bww22 := Bww21.trans (bw22.mono (by omega))
    have Lgw22 := hmk (V.lies_keep (R' := false) (S' := (fun y => w15.heap.size ≤ y ∧ y < w16.heap.size)) (fun h => h) (fun y hy => bw22.block y (by have := hy.2; omega)) (fun _ h => h) _ Lgw21.out)
    have Lfw22 := hmk (V.lies_keep (R' := false) (S' := (fun y => w19.heap.size ≤ y ∧ y < w20.heap.size)) (fun h => h) (fun y hy => bw22.block y (by have := hy.2; omega)) (fun _ h => h) _ Lfw21.out)
    clear Lgw21 Lfw21
    have Lsw22 := hmk ls_
    clear ls_ bw22
    go_wp2_with fail
    refine (chain_any q (by omega) w22).mono ?_
    rintro e_ w23 ⟨cc_, rfl, lc_, bw23⟩
    obtain ⟨ck, cb, ci, cs, cal, cnl, ccl, cam, cnm, ccm, rfl⟩ := V.ten lc_
    have hzw23 := bw23.size
    have h7w23 := (bw23.block (A4) (by omega)).trans h7w22
    have h9w23 := (bw23.block (A6) (by omega)).trans h9w22
    have Bww23 := Bww22.trans (bw23.mono (by omega))
    have Lgw23 := hmk (V.lies_keep (R' := false) (S' := (fun y => w15.heap.size ≤ y ∧ y < w16.heap.size)) (fun h => h) (fun y hy => bw23.block y (by have := hy.2; omega)) (fun _ h => h) _ Lgw22.out)
    have Lfw23 := hmk (V.lies_keep (R' := false) (S' := (fun y => w19.heap.size ≤ y ∧ y < w20.heap.size)) (fun h => h) (fun y hy => bw23.block y (by have := hy.2; omega)) (fun _ h => h) _ Lfw22.out)
    have Lsw23 := hmk (V.lies_keep (R' := false) (S' := (fun y => w21.heap.size ≤ y ∧ y < w22.heap.size)) (fun h => h) (fun y hy => bw23.block y (by have := hy.2; omega)) (fun _ h => h) _ Lsw22.out)
    clear Lgw22 Lfw22 Lsw22
    have Lcw23 := hmk lc_
    clear lc_ bw23
    go_wp2_with fail
    refine (diff_any low sgV (chV q q) (fun y => (w21.heap.size ≤ y ∧ y < w22.heap.size) ∨ (w22.heap.size ≤ y ∧ y < w23.heap.size)) _ _ w23 (HT.out _ Bww23) (HE.out _ Bww23) (V.lies_keep (S' := (fun y => (w21.heap.size ≤ y ∧ y < w22.heap.size) ∨ (w22.heap.size ≤ y ∧ y < w23.heap.size))) (fun h => h) (fun _ _ => rfl) (fun y hy => .inl hy) _ Lsw23.out) (V.lies_keep (S' := (fun y => (w21.heap.size ≤ y ∧ y < w22.heap.size) ∨ (w22.heap.size ≤ y ∧ y < w23.heap.size))) (fun h => h) (fun _ _ => rfl) (fun y hy => .inr hy) _ Lcw23.out) (fun y hy => by rcases hy with hy | hy <;> (have := hy.2; omega)) (by omega) (by omega)).mono ?_
    rintro e_ w24 ⟨cj_, rfl, lj_, bw24⟩
    obtain ⟨jk, jb, ji, js, jal, jnl, jcl, jam, jnm, jcm, rfl⟩ := V.ten lj_
    have hzw24 := bw24.size
    have h7w24 := (bw24.block (A4) (by omega)).trans h7w23
    have h9w24 := (bw24.block (A6) (by omega)).trans h9w23
    have Bww24 := Bww23.trans (bw24.mono (by omega))
    have Lgw24 := hmk (V.lies_keep (R' := false) (S' := (fun y => w15.heap.size ≤ y ∧ y < w16.heap.size)) (fun h => h) (fun y hy => bw24.block y (by have := hy.2; omega)) (fun _ h => h) _ Lgw23.out)
    have Lfw24 := hmk (V.lies_keep (R' := false) (S' := (fun y => w19.heap.size ≤ y ∧ y < w20.heap.size)) (fun h => h) (fun y hy => bw24.block y (by have := hy.2; omega)) (fun _ h => h) _ Lfw23.out)
    have Lsw24 := hmk (V.lies_keep (R' := false) (S' := (fun y => w21.heap.size ≤ y ∧ y < w22.heap.size)) (fun h => h) (fun y hy => bw24.block y (by have := hy.2; omega)) (fun _ h => h) _ Lsw23.out)
    have Lcw24 := hmk (V.lies_keep (R' := false) (S' := (fun y => w22.heap.size ≤ y ∧ y < w23.heap.size)) (fun h => h) (fun y hy => bw24.block y (by have := hy.2; omega)) (fun _ h => h) _ Lcw23.out)
    clear Lgw23 Lfw23 Lsw23 Lcw23
    have Ljw24 := hmk lj_
    clear lj_ bw24
    have bzw25 : Below w24.heap.size w24 (w24.alloc (.cells #[.int .i64 jk, .bool jb, .int .i64 ji, .string js, .slice jal jnl jcl, .slice jam jnm jcm] 25)) := one_belowG _ _
    have hltw25 : w24.heap.size < (w24.alloc (.cells #[.int .i64 jk, .bool jb, .int .i64 ji, .string js, .slice jal jnl jcl, .slice jam jnm jcm] 25)).heap.size := by rw [alloc_size]; omega
    have h7w25 := (bzw25.block (A4) (by omega)).trans h7w24
    have h9w25 := (bzw25.block (A6) (by omega)).trans h9w24
    have Bww25 := Bww24.trans (bzw25.mono (by omega))
    have h14w25 := heap_alloc_new w24 (.cells #[.int .i64 jk, .bool jb, .int .i64 ji, .string js, .slice jal jnl jcl, .slice jam jnm jcm] 25)
    have Lgw25 := hmk (V.lies_keep (R' := false) (S' := (fun y => w15.heap.size ≤ y ∧ y < w16.heap.size)) (fun h => h) (fun y hy => bzw25.block y (by have := hy.2; omega)) (fun _ h => h) _ Lgw24.out)
    have Lfw25 := hmk (V.lies_keep (R' := false) (S' := (fun y => w19.heap.size ≤ y ∧ y < w20.heap.size)) (fun h => h) (fun y hy => bzw25.block y (by have := hy.2; omega)) (fun _ h => h) _ Lfw24.out)
    have Ljw25 := hmk (V.lies_keep (R' := false) (S' := (fun y => w23.heap.size ≤ y ∧ y < w24.heap.size)) (fun h => h) (fun y hy => bzw25.block y (by have := hy.2; omega)) (fun _ h => h) _ Ljw24.out)
    clear Lgw24 Lfw24 Ljw24
    go_wp2_with fail
    generalize (w24.alloc (.cells #[.int .i64 jk, .bool jb, .int .i64 ji, .string js, .slice jal jnl jcl, .slice jam jnm jcm] 25)) = w25 at *
    refine (single_any w25).mono ?_
    rintro e_ w26 ⟨cs_, rfl, ls_, bw26⟩
    obtain ⟨sk, sb, si, ss, sal, snl, scl, sam, snm, scm, rfl⟩ := V.ten ls_
    have hzw26 := bw26.size
    have h7w26 := (bw26.block (A4) (by omega)).trans h7w25
    have h9w26 := (bw26.block (A6) (by omega)).trans h9w25
    have h14w26 := (bw26.block (w24.heap.size) (by omega)).trans h14w25
    have Bww26 := Bww25.trans (bw26.mono (by omega))
    have Lgw26 := hmk (V.lies_keep (R' := false) (S' := (fun y => w15.heap.size ≤ y ∧ y < w16.heap.size)) (fun h => h) (fun y hy => bw26.block y (by have := hy.2; omega)) (fun _ h => h) _ Lgw25.out)
    have Lfw26 := hmk (V.lies_keep (R' := false) (S' := (fun y => w19.heap.size ≤ y ∧ y < w20.heap.size)) (fun h => h) (fun y hy => bw26.block y (by have := hy.2; omega)) (fun _ h => h) _ Lfw25.out)
    have Ljw26 := hmk (V.lies_keep (R' := false) (S' := (fun y => w23.heap.size ≤ y ∧ y < w24.heap.size)) (fun h => h) (fun y hy => bw26.block y (by have := hy.2; omega)) (fun _ h => h) _ Ljw25.out)
    clear Lgw25 Lfw25 Ljw25
    have Lsw26 := hmk ls_
    clear ls_ bw26
    go_wp2_with fail
    refine (chain_any q (by omega) w26).mono ?_
    rintro e_ w27 ⟨cc_, rfl, lc_, bw27⟩
    obtain ⟨ck, cb, ci, cs, cal, cnl, ccl, cam, cnm, ccm, rfl⟩ := V.ten lc_
    have hzw27 := bw27.size
    have h7w27 := (bw27.block (A4) (by omega)).trans h7w26
    have h9w27 := (bw27.block (A6) (by omega)).trans h9w26
    have h14w27 := (bw27.block (w24.heap.size) (by omega)).trans h14w26
    have Bww27 := Bww26.trans (bw27.mono (by omega))
    have Lgw27 := hmk (V.lies_keep (R' := false) (S' := (fun y => w15.heap.size ≤ y ∧ y < w16.heap.size)) (fun h => h) (fun y hy => bw27.block y (by have := hy.2; omega)) (fun _ h => h) _ Lgw26.out)
    have Lfw27 := hmk (V.lies_keep (R' := false) (S' := (fun y => w19.heap.size ≤ y ∧ y < w20.heap.size)) (fun h => h) (fun y hy => bw27.block y (by have := hy.2; omega)) (fun _ h => h) _ Lfw26.out)
    have Ljw27 := hmk (V.lies_keep (R' := false) (S' := (fun y => w23.heap.size ≤ y ∧ y < w24.heap.size)) (fun h => h) (fun y hy => bw27.block y (by have := hy.2; omega)) (fun _ h => h) _ Ljw26.out)
    have Lsw27 := hmk (V.lies_keep (R' := false) (S' := (fun y => w25.heap.size ≤ y ∧ y < w26.heap.size)) (fun h => h) (fun y hy => bw27.block y (by have := hy.2; omega)) (fun _ h => h) _ Lsw26.out)
    clear Lgw26 Lfw26 Ljw26 Lsw26
    have Lcw27 := hmk lc_
    clear lc_ bw27
    go_wp2_with fail
    refine (rdiff_any sgV (chV q q) (fun y => (w25.heap.size ≤ y ∧ y < w26.heap.size) ∨ (w26.heap.size ≤ y ∧ y < w27.heap.size)) _ _ w27 (V.lies_keep (S' := (fun y => (w25.heap.size ≤ y ∧ y < w26.heap.size) ∨ (w26.heap.size ≤ y ∧ y < w27.heap.size))) (fun h => h) (fun _ _ => rfl) (fun y hy => .inl hy) _ Lsw27.out) (V.lies_keep (S' := (fun y => (w25.heap.size ≤ y ∧ y < w26.heap.size) ∨ (w26.heap.size ≤ y ∧ y < w27.heap.size))) (fun h => h) (fun _ _ => rfl) (fun y hy => .inr hy) _ Lcw27.out) (fun y hy => by rcases hy with hy | hy <;> (have := hy.2; omega)) (by omega) (by omega)).mono ?_
    rintro e_ w28 ⟨co_, rfl, lo_, bw28⟩
    obtain ⟨ok, ob, oi, os, oal, onl, ocl, oam, onm, ocm, rfl⟩ := V.ten lo_
    have hzw28 := bw28.size
    have h7w28 := (bw28.block (A4) (by omega)).trans h7w27
    have h9w28 := (bw28.block (A6) (by omega)).trans h9w27
    have h14w28 := (bw28.block (w24.heap.size) (by omega)).trans h14w27
    have Bww28 := Bww27.trans (bw28.mono (by omega))
    have Lgw28 := hmk (V.lies_keep (R' := false) (S' := (fun y => w15.heap.size ≤ y ∧ y < w16.heap.size)) (fun h => h) (fun y hy => bw28.block y (by have := hy.2; omega)) (fun _ h => h) _ Lgw27.out)
    have Lfw28 := hmk (V.lies_keep (R' := false) (S' := (fun y => w19.heap.size ≤ y ∧ y < w20.heap.size)) (fun h => h) (fun y hy => bw28.block y (by have := hy.2; omega)) (fun _ h => h) _ Lfw27.out)
    have Ljw28 := hmk (V.lies_keep (R' := false) (S' := (fun y => w23.heap.size ≤ y ∧ y < w24.heap.size)) (fun h => h) (fun y hy => bw28.block y (by have := hy.2; omega)) (fun _ h => h) _ Ljw27.out)
    have Lsw28 := hmk (V.lies_keep (R' := false) (S' := (fun y => w25.heap.size ≤ y ∧ y < w26.heap.size)) (fun h => h) (fun y hy => bw28.block y (by have := hy.2; omega)) (fun _ h => h) _ Lsw27.out)
    have Lcw28 := hmk (V.lies_keep (R' := false) (S' := (fun y => w26.heap.size ≤ y ∧ y < w27.heap.size)) (fun h => h) (fun y hy => bw28.block y (by have := hy.2; omega)) (fun _ h => h) _ Lcw27.out)
    clear Lgw27 Lfw27 Ljw27 Lsw27 Lcw27
    have Low28 := hmk lo_
    clear lo_ bw28
    have bzw29 : Below w28.heap.size w28 (w28.alloc (.cells #[.int .i64 ok, .bool ob, .int .i64 oi, .string os, .slice oal onl ocl, .slice oam onm ocm] 25)) := one_belowG _ _
    have hltw29 : w28.heap.size < (w28.alloc (.cells #[.int .i64 ok, .bool ob, .int .i64 oi, .string os, .slice oal onl ocl, .slice oam onm ocm] 25)).heap.size := by rw [alloc_size]; omega
    have h7w29 := (bzw29.block (A4) (by omega)).trans h7w28
    have h9w29 := (bzw29.block (A6) (by omega)).trans h9w28
    have h14w29 := (bzw29.block (w24.heap.size) (by omega)).trans h14w28
    have Bww29 := Bww28.trans (bzw29.mono (by omega))
    have h17w29 := heap_alloc_new w28 (.cells #[.int .i64 ok, .bool ob, .int .i64 oi, .string os, .slice oal onl ocl, .slice oam onm ocm] 25)
    have Lgw29 := hmk (V.lies_keep (R' := false) (S' := (fun y => w15.heap.size ≤ y ∧ y < w16.heap.size)) (fun h => h) (fun y hy => bzw29.block y (by have := hy.2; omega)) (fun _ h => h) _ Lgw28.out)
    have Lfw29 := hmk (V.lies_keep (R' := false) (S' := (fun y => w19.heap.size ≤ y ∧ y < w20.heap.size)) (fun h => h) (fun y hy => bzw29.block y (by have := hy.2; omega)) (fun _ h => h) _ Lfw28.out)
    have Ljw29 := hmk (V.lies_keep (R' := false) (S' := (fun y => w23.heap.size ≤ y ∧ y < w24.heap.size)) (fun h => h) (fun y hy => bzw29.block y (by have := hy.2; omega)) (fun _ h => h) _ Ljw28.out)
    have Low29 := hmk (V.lies_keep (R' := false) (S' := (fun y => w27.heap.size ≤ y ∧ y < w28.heap.size)) (fun h => h) (fun y hy => bzw29.block y (by have := hy.2; omega)) (fun _ h => h) _ Low28.out)
    clear Lgw28 Lfw28 Ljw28 Low28
    have CS := hmk (same_any (dffF (chV q q) sgV).1 false false (dffF (chV q q) sgV).1 (fun y => w15.heap.size ≤ y ∧ y < w16.heap.size) (fun y => w19.heap.size ≤ y ∧ y < w20.heap.size) _ _ (w28.alloc (.cells #[.int .i64 ok, .bool ob, .int .i64 oi, .string os, .slice oal onl ocl, .slice oam onm ocm] 25)) Lgw29.out Lfw29.out (fun y hy => by have := hy.2; omega) (fun y hy => by have := hy.2; omega))
    rw [V.eqB_refl] at CS
    generalize (dffF (chV q q) sgV).2.2 = er2 at *
    generalize (dffF (chV q q) sgV).2.1 = bo2 at *
    generalize (dffF sgV (chV q q)).2.2 = er3 at *
    generalize (dffF sgV (chV q q)).2.1 = bo3 at *
    have yb2 : (bo2 != bo2) = false := by cases bo2 <;> rfl
    have yb3 : (bo3 != bo3) = false := by cases bo3 <;> rfl
    clear Lgw29 Lfw29
    have cg0 : (w28.alloc (.cells #[.int .i64 ok, .bool ob, .int .i64 oi, .string os, .slice oal onl ocl, .slice oam onm ocm] 25)).cell? ⟨A4, 0, none⟩ = some (.int .i64 gk) := by rw [cell_of_block h7w29]; rfl
    have cg1 : (w28.alloc (.cells #[.int .i64 ok, .bool ob, .int .i64 oi, .string os, .slice oal onl ocl, .slice oam onm ocm] 25)).cell? ⟨A4, 1, none⟩ = some (.bool gb) := by rw [cell_of_block h7w29]; rfl
    have cg2 : (w28.alloc (.cells #[.int .i64 ok, .bool ob, .int .i64 oi, .string os, .slice oal onl ocl, .slice oam onm ocm] 25)).cell? ⟨A4, 2, none⟩ = some (.int .i64 gi) := by rw [cell_of_block h7w29]; rfl
    have cg3 : (w28.alloc (.cells #[.int .i64 ok, .bool ob, .int .i64 oi, .string os, .slice oal onl ocl, .slice oam onm ocm] 25)).cell? ⟨A4, 3, none⟩ = some (.string gs) := by rw [cell_of_block h7w29]; rfl
    have cg4 : (w28.alloc (.cells #[.int .i64 ok, .bool ob, .int .i64 oi, .string os, .slice oal onl ocl, .slice oam onm ocm] 25)).cell? ⟨A4, 4, none⟩ = some (.slice gal gnl gcl) := by rw [cell_of_block h7w29]; rfl
    have cg5 : (w28.alloc (.cells #[.int .i64 ok, .bool ob, .int .i64 oi, .string os, .slice oal onl ocl, .slice oam onm ocm] 25)).cell? ⟨A4, 5, none⟩ = some (.slice gam gnm gcm) := by rw [cell_of_block h7w29]; rfl
    have cf0 : (w28.alloc (.cells #[.int .i64 ok, .bool ob, .int .i64 oi, .string os, .slice oal onl ocl, .slice oam onm ocm] 25)).cell? ⟨A6, 0, none⟩ = some (.int .i64 fk) := by rw [cell_of_block h9w29]; rfl
    have cf1 : (w28.alloc (.cells #[.int .i64 ok, .bool ob, .int .i64 oi, .string os, .slice oal onl ocl, .slice oam onm ocm] 25)).cell? ⟨A6, 1, none⟩ = some (.bool fb) := by rw [cell_of_block h9w29]; rfl
    have cf2 : (w28.alloc (.cells #[.int .i64 ok, .bool ob, .int .i64 oi, .string os, .slice oal onl ocl, .slice oam onm ocm] 25)).cell? ⟨A6, 2, none⟩ = some (.int .i64 fi) := by rw [cell_of_block h9w29]; rfl
    have cf3 : (w28.alloc (.cells #[.int .i64 ok, .bool ob, .int .i64 oi, .string os, .slice oal onl ocl, .slice oam onm ocm] 25)).cell? ⟨A6, 3, none⟩ = some (.string fs) := by rw [cell_of_block h9w29]; rfl
    have cf4 : (w28.alloc (.cells #[.int .i64 ok, .bool ob, .int .i64 oi, .string os, .slice oal onl ocl, .slice oam onm ocm] 25)).cell? ⟨A6, 4, none⟩ = some (.slice fal fnl fcl) := by rw [cell_of_block h9w29]; rfl
    have cf5 : (w28.alloc (.cells #[.int .i64 ok, .bool ob, .int .i64 oi, .string os, .slice oal onl ocl, .slice oam onm ocm] 25)).cell? ⟨A6, 5, none⟩ = some (.slice fam fnm fcm) := by rw [cell_of_block h9w29]; rfl
    go_wp2_with fail
    clear cg0 cg1 cg2 cg3 cg4 cg5 cf0 cf1 cf2 cf3 cf4 cf5
    generalize (w28.alloc (.cells #[.int .i64 ok, .bool ob, .int .i64 oi, .string os, .slice oal onl ocl, .slice oam onm ocm] 25)) = w29 at *
    refine CS.out.mono ?_
    clear CS
    rintro e_ w30 ⟨rfl, bw30⟩
    have hzw30 := bw30.size
    have h7w30 := (bw30.block (A4) (by omega)).trans h7w29
    have h9w30 := (bw30.block (A6) (by omega)).trans h9w29
    have h14w30 := (bw30.block (w24.heap.size) (by omega)).trans h14w29
    have h17w30 := (bw30.block (w28.heap.size) (by omega)).trans h17w29
    have Bww30 := Bww29.trans (bw30.mono (by omega))
    have Ljw30 := hmk (V.lies_keep (R' := false) (S' := (fun y => w23.heap.size ≤ y ∧ y < w24.heap.size)) (fun h => h) (fun y hy => bw30.block y (by have := hy.2; omega)) (fun _ h => h) _ Ljw29.out)
    have Low30 := hmk (V.lies_keep (R' := false) (S' := (fun y => w27.heap.size ≤ y ∧ y < w28.heap.size)) (fun h => h) (fun y hy => bw30.block y (by have := hy.2; omega)) (fun _ h => h) _ Low29.out)
    clear Ljw29 Low29
    have CS := hmk (same_any (dffF sgV (chV q q)).1 false false (dffF sgV (chV q q)).1 (fun y => w23.heap.size ≤ y ∧ y < w24.heap.size) (fun y => w27.heap.size ≤ y ∧ y < w28.heap.size) _ _ w30 Ljw30.out Low30.out (fun y hy => by have := hy.2; omega) (fun y hy => by have := hy.2; omega))
    rw [V.eqB_refl] at CS
    clear Ljw30 Low30
    have cg0 : w30.cell? ⟨w24.heap.size, 0, none⟩ = some (.int .i64 jk) := by rw [cell_of_block h14w30]; rfl
    have cg1 : w30.cell? ⟨w24.heap.size, 1, none⟩ = some (.bool jb) := by rw [cell_of_block h14w30]; rfl
    have cg2 : w30.cell? ⟨w24.heap.size, 2, none⟩ = some (.int .i64 ji) := by rw [cell_of_block h14w30]; rfl
    have cg3 : w30.cell? ⟨w24.heap.size, 3, none⟩ = some (.string js) := by rw [cell_of_block h14w30]; rfl
    have cg4 : w30.cell? ⟨w24.heap.size, 4, none⟩ = some (.slice jal jnl jcl) := by rw [cell_of_block h14w30]; rfl
    have cg5 : w30.cell? ⟨w24.heap.size, 5, none⟩ = some (.slice jam jnm jcm) := by rw [cell_of_block h14w30]; rfl
    have cf0 : w30.cell? ⟨w28.heap.size, 0, none⟩ = some (.int .i64 ok) := by rw [cell_of_block h17w30]; rfl
    have cf1 : w30.cell? ⟨w28.heap.size, 1, none⟩ = some (.bool ob) := by rw [cell_of_block h17w30]; rfl
    have cf2 : w30.cell? ⟨w28.heap.size, 2, none⟩ = some (.int .i64 oi) := by rw [cell_of_block h17w30]; rfl
    have cf3 : w30.cell? ⟨w28.heap.size, 3, none⟩ = some (.string os) := by rw [cell_of_block h17w30]; rfl
    have cf4 : w30.cell? ⟨w28.heap.size, 4, none⟩ = some (.slice oal onl ocl) := by rw [cell_of_block h17w30]; rfl
    have cf5 : w30.cell? ⟨w28.heap.size, 5, none⟩ = some (.slice oam onm ocm) := by rw [cell_of_block h17w30]; rfl
    go_wp2_with fail
    clear cg0 cg1 cg2 cg3 cg4 cg5 cf0 cf1 cf2 cf3 cf4 cf5
    refine CS.out.mono ?_
    clear CS
    rintro e_ w31 ⟨rfl, bw31⟩
    have hzw31 := bw31.size
    have h7w31 := (bw31.block (A4) (by omega)).trans h7w30
    have h9w31 := (bw31.block (A6) (by omega)).trans h9w30
    have h14w31 := (bw31.block (w24.heap.size) (by omega)).trans h14w30
    have h17w31 := (bw31.block (w28.heap.size) (by omega)).trans h17w30
    have Bww31 := Bww30.trans (bw31.mono (by omega))
    have H4 := hmk h7w31
    have H6 := hmk h9w31
    have HB := hmk Bww31
    go_wp2_with fail
    go_roundw
    case rel => exact ⟨q + 1, _, _, _, _, _, _, _, _, _, _, _, _, _, _, _, _, _, _, _, _, _, _, _, _, by omega, by omega, rfl, rfl, rfl, rfl, by go_num, H4, H6, HB⟩
    case measure => simp [RowKit.intOf]; omega
end Go.Proofs.YtjfldbmopjojdabDoor
