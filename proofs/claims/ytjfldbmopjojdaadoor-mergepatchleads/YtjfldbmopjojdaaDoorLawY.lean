import Derived.Test.YtjfldbmopjojdaaDoorAwkY
set_option linter.unusedSimpArgs false
set_option linter.unusedVariables false
namespace Go.Proofs.YtjfldbmopjojdaaDoor
open Go.RowKit Go.Lib
theorem apl_ok {t p : V} (h : (aplF t p).2 = 0) : chkE p 32 = 0 ∧ chkE (pchV t p) 32 = 0 ∧ aplF t p = (pchV t p, 0) := by
 unfold aplF at h ⊢
 by_cases h1 : chkE t 32 = 0
 ·rw [if_pos h1] at h ⊢
  by_cases h2 : chkE p 32 = 0
  ·rw [if_pos h2] at h ⊢
   by_cases h3 : chkE (pchV t p) 32 = 0
   ·rw [if_pos h3]; exact ⟨h2, h3, rfl⟩
   ·rw [if_neg h3] at h; simp only at h; omega
  ·rw [if_neg h2] at h; simp only at h; omega
 ·rw [if_neg h1] at h; simp only at h; omega
set_option maxHeartbeats 16000000 in
set_option maxRecDepth 100000 in
theorem leads_walk (low : Addr) (v p q : V) (cs ds es : List Value) (w : World) (tb : Tb w) (hE : ErrAt low w) (hv : v.lies false w (Old w) cs) (hx : p.lies false w (Old w) ds) (hy : q.lies false w (Old w) es) : Calls Tryd.prog 5 #[.agg cs.toArray, .agg ds.toArray, .agg es.toArray] w (BPost true w) := by
 obtain ⟨vk, vb, vi, vs, val, vnl, vcl, vam, vnm, vcm, rfl⟩ := V.ten hv
 obtain ⟨pk, pb, pi, ps, pal, pnl, pcl, pam, pnm, pcm, rfl⟩ := V.ten hx
 obtain ⟨qk, qb, qi, qs, qal, qnl, qcl, qam, qnm, qcm, rfl⟩ := V.ten hy
 have hkv : kindOf v = vk := kind_lies hv
 have HL : Hid (∀ W, Below w.heap.size w W → v.lies false W (Old w) [.int .i64 vk, .bool vb, .int .i64 vi, .string vs, .slice val vnl vcl, .slice vam vnm vcm]) := fun W hB => V.lies_keep (fun h => h) (fun x hx => hB.block x hx) (fun x hx => hx) _ hv
 have HP : Hid (∀ W, Below w.heap.size w W → p.lies false W (Old w) [.int .i64 pk, .bool pb, .int .i64 pi, .string ps, .slice pal pnl pcl, .slice pam pnm pcm]) := fun W hB => V.lies_keep (fun h => h) (fun x hx => hB.block x hx) (fun x hx => hx) _ hx
 have HQ : Hid (∀ W, Below w.heap.size w W → q.lies false W (Old w) [.int .i64 qk, .bool qb, .int .i64 qi, .string qs, .slice qal qnl qcl, .slice qam qnm qcm]) := fun W hB => V.lies_keep (fun h => h) (fun x hx => hB.block x hx) (fun x hx => hx) _ hy
 have HO : Hid (∀ W, Below w.heap.size w W → ∀ b, Old w b → b < W.heap.size) := fun W hB b hb => Nat.lt_of_lt_of_le hb hB.size
 have HT : Hid (∀ W, Below w.heap.size w W → Tb W) := fun W hb => tb.below hb tb.z
 have HE : Hid (∀ W, Below w.heap.size w W → ErrAt low W) := fun W hb => hE.below hb hE.z
 have HKV := hmk hkv
 have Bww0 : Below w.heap.size w (((w.alloc (.cells #[.int .i64 vk, .bool vb, .int .i64 vi, .string vs, .slice val vnl vcl, .slice vam vnm vcm] 25)).alloc (.cells #[.int .i64 pk, .bool pb, .int .i64 pi, .string ps, .slice pal pnl pcl, .slice pam pnm pcm] 25)).alloc (.cells #[.int .i64 qk, .bool qb, .int .i64 qi, .string qs, .slice qal qnl qcl, .slice qam qnm qcm] 25)) := three_below w _ _ _
 have hz0 : (((w.alloc (.cells #[.int .i64 vk, .bool vb, .int .i64 vi, .string vs, .slice val vnl vcl, .slice vam vnm vcm] 25)).alloc (.cells #[.int .i64 pk, .bool pb, .int .i64 pi, .string ps, .slice pal pnl pcl, .slice pam pnm pcm] 25)).alloc (.cells #[.int .i64 qk, .bool qb, .int .i64 qi, .string qs, .slice qal qnl qcl, .slice qam qnm qcm] 25)).heap.size = w.heap.size + 3 := by rw [alloc_size, alloc_size, alloc_size]
 obtain ⟨hvw0, hpw0, hqw0⟩ := three_allocs w (.cells #[.int .i64 vk, .bool vb, .int .i64 vi, .string vs, .slice val vnl vcl, .slice vam vnm vcm] 25) (.cells #[.int .i64 pk, .bool pb, .int .i64 pi, .string ps, .slice pal pnl pcl, .slice pam pnm pcm] 25) (.cells #[.int .i64 qk, .bool qb, .int .i64 qi, .string qs, .slice qal qnl qcl, .slice qam qnm qcm] 25)
 have cv0 : (((w.alloc (.cells #[.int .i64 vk, .bool vb, .int .i64 vi, .string vs, .slice val vnl vcl, .slice vam vnm vcm] 25)).alloc (.cells #[.int .i64 pk, .bool pb, .int .i64 pi, .string ps, .slice pal pnl pcl, .slice pam pnm pcm] 25)).alloc (.cells #[.int .i64 qk, .bool qb, .int .i64 qi, .string qs, .slice qal qnl qcl, .slice qam qnm qcm] 25)).cell? ⟨w.heap.size, 0, none⟩ = some (.int .i64 vk) := by rw [cell_of_block hvw0]; rfl
 have cv1 : (((w.alloc (.cells #[.int .i64 vk, .bool vb, .int .i64 vi, .string vs, .slice val vnl vcl, .slice vam vnm vcm] 25)).alloc (.cells #[.int .i64 pk, .bool pb, .int .i64 pi, .string ps, .slice pal pnl pcl, .slice pam pnm pcm] 25)).alloc (.cells #[.int .i64 qk, .bool qb, .int .i64 qi, .string qs, .slice qal qnl qcl, .slice qam qnm qcm] 25)).cell? ⟨w.heap.size, 1, none⟩ = some (.bool vb) := by rw [cell_of_block hvw0]; rfl
 have cv2 : (((w.alloc (.cells #[.int .i64 vk, .bool vb, .int .i64 vi, .string vs, .slice val vnl vcl, .slice vam vnm vcm] 25)).alloc (.cells #[.int .i64 pk, .bool pb, .int .i64 pi, .string ps, .slice pal pnl pcl, .slice pam pnm pcm] 25)).alloc (.cells #[.int .i64 qk, .bool qb, .int .i64 qi, .string qs, .slice qal qnl qcl, .slice qam qnm qcm] 25)).cell? ⟨w.heap.size, 2, none⟩ = some (.int .i64 vi) := by rw [cell_of_block hvw0]; rfl
 have cv3 : (((w.alloc (.cells #[.int .i64 vk, .bool vb, .int .i64 vi, .string vs, .slice val vnl vcl, .slice vam vnm vcm] 25)).alloc (.cells #[.int .i64 pk, .bool pb, .int .i64 pi, .string ps, .slice pal pnl pcl, .slice pam pnm pcm] 25)).alloc (.cells #[.int .i64 qk, .bool qb, .int .i64 qi, .string qs, .slice qal qnl qcl, .slice qam qnm qcm] 25)).cell? ⟨w.heap.size, 3, none⟩ = some (.string vs) := by rw [cell_of_block hvw0]; rfl
 have cv4 : (((w.alloc (.cells #[.int .i64 vk, .bool vb, .int .i64 vi, .string vs, .slice val vnl vcl, .slice vam vnm vcm] 25)).alloc (.cells #[.int .i64 pk, .bool pb, .int .i64 pi, .string ps, .slice pal pnl pcl, .slice pam pnm pcm] 25)).alloc (.cells #[.int .i64 qk, .bool qb, .int .i64 qi, .string qs, .slice qal qnl qcl, .slice qam qnm qcm] 25)).cell? ⟨w.heap.size, 4, none⟩ = some (.slice val vnl vcl) := by rw [cell_of_block hvw0]; rfl
 have cv5 : (((w.alloc (.cells #[.int .i64 vk, .bool vb, .int .i64 vi, .string vs, .slice val vnl vcl, .slice vam vnm vcm] 25)).alloc (.cells #[.int .i64 pk, .bool pb, .int .i64 pi, .string ps, .slice pal pnl pcl, .slice pam pnm pcm] 25)).alloc (.cells #[.int .i64 qk, .bool qb, .int .i64 qi, .string qs, .slice qal qnl qcl, .slice qam qnm qcm] 25)).cell? ⟨w.heap.size, 5, none⟩ = some (.slice vam vnm vcm) := by rw [cell_of_block hvw0]; rfl
 clear hv hx hy tb hE hkv
 go_enter Tryd.func5, Tryd.ntmps5
 go_wp2_with fail
 clear cv0 cv1 cv2 cv3 cv4 cv5
 generalize (((w.alloc (.cells #[.int .i64 vk, .bool vb, .int .i64 vi, .string vs, .slice val vnl vcl, .slice vam vnm vcm] 25)).alloc (.cells #[.int .i64 pk, .bool pb, .int .i64 pi, .string ps, .slice pal pnl pcl, .slice pam pnm pcm] 25)).alloc (.cells #[.int .i64 qk, .bool qb, .int .i64 qi, .string qs, .slice qal qnl qcl, .slice qam qnm qcm] 25)) = w0 at *
 refine (beyond_any v (Old w) _ w0 (HL.out _ Bww0) (HO.out _ Bww0)).mono ?_
 rintro e w1 ⟨r, rfl, hr, bw1⟩
 have hzw1 := bw1.size
 have hvw1 := (bw1.block (w.heap.size) (by omega)).trans hvw0
 have hpw1 := (bw1.block (w.heap.size + 1) (by omega)).trans hpw0
 have hqw1 := (bw1.block (w.heap.size + 2) (by omega)).trans hqw0
 have Bww1 := Bww0.trans (bw1.mono (by omega))
 cases r with
 | true =>
  go_wp2_with fail
  go_ret
  exact ⟨rfl, Bww1⟩
 | false =>
  have hwt := hr rfl
  clear hr
  have cp0 : w1.cell? ⟨w.heap.size + 1, 0, none⟩ = some (.int .i64 pk) := by rw [cell_of_block hpw1]; rfl
  have cp1 : w1.cell? ⟨w.heap.size + 1, 1, none⟩ = some (.bool pb) := by rw [cell_of_block hpw1]; rfl
  have cp2 : w1.cell? ⟨w.heap.size + 1, 2, none⟩ = some (.int .i64 pi) := by rw [cell_of_block hpw1]; rfl
  have cp3 : w1.cell? ⟨w.heap.size + 1, 3, none⟩ = some (.string ps) := by rw [cell_of_block hpw1]; rfl
  have cp4 : w1.cell? ⟨w.heap.size + 1, 4, none⟩ = some (.slice pal pnl pcl) := by rw [cell_of_block hpw1]; rfl
  have cp5 : w1.cell? ⟨w.heap.size + 1, 5, none⟩ = some (.slice pam pnm pcm) := by rw [cell_of_block hpw1]; rfl
  go_wp2_with fail
  clear cp0 cp1 cp2 cp3 cp4 cp5
  refine (beyond_any p (Old w) _ w1 (HP.out _ Bww1) (HO.out _ Bww1)).mono ?_
  rintro e w2 ⟨r, rfl, hr, bw2⟩
  have hzw2 := bw2.size
  have hvw2 := (bw2.block (w.heap.size) (by omega)).trans hvw1
  have hpw2 := (bw2.block (w.heap.size + 1) (by omega)).trans hpw1
  have hqw2 := (bw2.block (w.heap.size + 2) (by omega)).trans hqw1
  have Bww2 := Bww1.trans (bw2.mono (by omega))
  cases r with
  | true =>
   go_wp2_with fail
   go_ret
   exact ⟨rfl, Bww2⟩
  | false =>
   have hwp := hr rfl
   clear hr
   have cq0 : w2.cell? ⟨w.heap.size + 2, 0, none⟩ = some (.int .i64 qk) := by rw [cell_of_block hqw2]; rfl
   have cq1 : w2.cell? ⟨w.heap.size + 2, 1, none⟩ = some (.bool qb) := by rw [cell_of_block hqw2]; rfl
   have cq2 : w2.cell? ⟨w.heap.size + 2, 2, none⟩ = some (.int .i64 qi) := by rw [cell_of_block hqw2]; rfl
   have cq3 : w2.cell? ⟨w.heap.size + 2, 3, none⟩ = some (.string qs) := by rw [cell_of_block hqw2]; rfl
   have cq4 : w2.cell? ⟨w.heap.size + 2, 4, none⟩ = some (.slice qal qnl qcl) := by rw [cell_of_block hqw2]; rfl
   have cq5 : w2.cell? ⟨w.heap.size + 2, 5, none⟩ = some (.slice qam qnm qcm) := by rw [cell_of_block hqw2]; rfl
   go_wp2_with fail
   clear cq0 cq1 cq2 cq3 cq4 cq5
   refine (beyond_any q (Old w) _ w2 (HQ.out _ Bww2) (HO.out _ Bww2)).mono ?_
   rintro e w3 ⟨r, rfl, hr, bw3⟩
   have hzw3 := bw3.size
   have hvw3 := (bw3.block (w.heap.size) (by omega)).trans hvw2
   have hpw3 := (bw3.block (w.heap.size + 1) (by omega)).trans hpw2
   have hqw3 := (bw3.block (w.heap.size + 2) (by omega)).trans hqw2
   have Bww3 := Bww2.trans (bw3.mono (by omega))
   cases r with
   | true =>
    go_wp2_with fail
    go_ret
    exact ⟨rfl, Bww3⟩
   | false =>
    have hwq := hr rfl
    clear hr
    go_wp2_with fail
    refine (awake_any low w3 (HT.out _ Bww3) (HE.out _ Bww3)).mono ?_
    rintro e_ w4 ⟨rfl, bw4⟩
    have hzw4 := bw4.size
    have hvw4 := (bw4.block (w.heap.size) (by omega)).trans hvw3
    have hpw4 := (bw4.block (w.heap.size + 1) (by omega)).trans hpw3
    have hqw4 := (bw4.block (w.heap.size + 2) (by omega)).trans hqw3
    have Bww4 := Bww3.trans (bw4.mono (by omega))
    clear bw4
    have cv0 : w4.cell? ⟨w.heap.size, 0, none⟩ = some (.int .i64 vk) := by rw [cell_of_block hvw4]; rfl
    have cv1 : w4.cell? ⟨w.heap.size, 1, none⟩ = some (.bool vb) := by rw [cell_of_block hvw4]; rfl
    have cv2 : w4.cell? ⟨w.heap.size, 2, none⟩ = some (.int .i64 vi) := by rw [cell_of_block hvw4]; rfl
    have cv3 : w4.cell? ⟨w.heap.size, 3, none⟩ = some (.string vs) := by rw [cell_of_block hvw4]; rfl
    have cv4 : w4.cell? ⟨w.heap.size, 4, none⟩ = some (.slice val vnl vcl) := by rw [cell_of_block hvw4]; rfl
    have cv5 : w4.cell? ⟨w.heap.size, 5, none⟩ = some (.slice vam vnm vcm) := by rw [cell_of_block hvw4]; rfl
    have cp0 : w4.cell? ⟨w.heap.size + 1, 0, none⟩ = some (.int .i64 pk) := by rw [cell_of_block hpw4]; rfl
    have cp1 : w4.cell? ⟨w.heap.size + 1, 1, none⟩ = some (.bool pb) := by rw [cell_of_block hpw4]; rfl
    have cp2 : w4.cell? ⟨w.heap.size + 1, 2, none⟩ = some (.int .i64 pi) := by rw [cell_of_block hpw4]; rfl
    have cp3 : w4.cell? ⟨w.heap.size + 1, 3, none⟩ = some (.string ps) := by rw [cell_of_block hpw4]; rfl
    have cp4 : w4.cell? ⟨w.heap.size + 1, 4, none⟩ = some (.slice pal pnl pcl) := by rw [cell_of_block hpw4]; rfl
    have cp5 : w4.cell? ⟨w.heap.size + 1, 5, none⟩ = some (.slice pam pnm pcm) := by rw [cell_of_block hpw4]; rfl
    go_wp2_with fail
    clear cv0 cv1 cv2 cv3 cv4 cv5 cp0 cp1 cp2 cp3 cp4 cp5
    refine (diff_any low v p (Old w) _ _ w4 (HT.out _ Bww4) (HE.out _ Bww4) (HL.out _ Bww4) (HP.out _ Bww4) (HO.out _ Bww4) (by omega) (by omega)).mono ?_
    rintro e_ w5 ⟨cg_, rfl, lg_, bw5⟩
    obtain ⟨gk, gb, gi, gs, gal, gnl, gcl, gam, gnm, gcm, rfl⟩ := V.ten lg_
    have hzw5 := bw5.size
    have hvw5 := (bw5.block (w.heap.size) (by omega)).trans hvw4
    have hpw5 := (bw5.block (w.heap.size + 1) (by omega)).trans hpw4
    have hqw5 := (bw5.block (w.heap.size + 2) (by omega)).trans hqw4
    have Bww5 := Bww4.trans (bw5.mono (by omega))
    have Lgw5 := hmk lg_
    clear lg_ bw5
    have bzw6 : Below w5.heap.size w5 (w5.alloc (.cells #[.int .i64 gk, .bool gb, .int .i64 gi, .string gs, .slice gal gnl gcl, .slice gam gnm gcm] 25)) := one_belowG _ _
    have hltw6 : w5.heap.size < (w5.alloc (.cells #[.int .i64 gk, .bool gb, .int .i64 gi, .string gs, .slice gal gnl gcl, .slice gam gnm gcm] 25)).heap.size := by rw [alloc_size]; omega
    have hvw6 := (bzw6.block (w.heap.size) (by omega)).trans hvw5
    have hpw6 := (bzw6.block (w.heap.size + 1) (by omega)).trans hpw5
    have hqw6 := (bzw6.block (w.heap.size + 2) (by omega)).trans hqw5
    have Bww6 := Bww5.trans (bzw6.mono (by omega))
    have h8w6 := heap_alloc_new w5 (.cells #[.int .i64 gk, .bool gb, .int .i64 gi, .string gs, .slice gal gnl gcl, .slice gam gnm gcm] 25)
    have Lgw6 := hmk (V.lies_keep (R' := false) (S' := (fun y => w4.heap.size ≤ y ∧ y < w5.heap.size)) (fun h => h) (fun y hy => bzw6.block y (by have := hy.2; omega)) (fun _ h => h) _ Lgw5.out)
    clear Lgw5
    have cv0 : (w5.alloc (.cells #[.int .i64 gk, .bool gb, .int .i64 gi, .string gs, .slice gal gnl gcl, .slice gam gnm gcm] 25)).cell? ⟨w.heap.size, 0, none⟩ = some (.int .i64 vk) := by rw [cell_of_block hvw6]; rfl
    have cv1 : (w5.alloc (.cells #[.int .i64 gk, .bool gb, .int .i64 gi, .string gs, .slice gal gnl gcl, .slice gam gnm gcm] 25)).cell? ⟨w.heap.size, 1, none⟩ = some (.bool vb) := by rw [cell_of_block hvw6]; rfl
    have cv2 : (w5.alloc (.cells #[.int .i64 gk, .bool gb, .int .i64 gi, .string gs, .slice gal gnl gcl, .slice gam gnm gcm] 25)).cell? ⟨w.heap.size, 2, none⟩ = some (.int .i64 vi) := by rw [cell_of_block hvw6]; rfl
    have cv3 : (w5.alloc (.cells #[.int .i64 gk, .bool gb, .int .i64 gi, .string gs, .slice gal gnl gcl, .slice gam gnm gcm] 25)).cell? ⟨w.heap.size, 3, none⟩ = some (.string vs) := by rw [cell_of_block hvw6]; rfl
    have cv4 : (w5.alloc (.cells #[.int .i64 gk, .bool gb, .int .i64 gi, .string gs, .slice gal gnl gcl, .slice gam gnm gcm] 25)).cell? ⟨w.heap.size, 4, none⟩ = some (.slice val vnl vcl) := by rw [cell_of_block hvw6]; rfl
    have cv5 : (w5.alloc (.cells #[.int .i64 gk, .bool gb, .int .i64 gi, .string gs, .slice gal gnl gcl, .slice gam gnm gcm] 25)).cell? ⟨w.heap.size, 5, none⟩ = some (.slice vam vnm vcm) := by rw [cell_of_block hvw6]; rfl
    go_wp2_with fail
    clear cv0 cv1 cv2 cv3 cv4 cv5
    generalize (w5.alloc (.cells #[.int .i64 gk, .bool gb, .int .i64 gi, .string gs, .slice gal gnl gcl, .slice gam gnm gcm] 25)) = w6 at *
    refine (good_any v (Old w) _ w6 (HT.out _ Bww6) (HL.out _ Bww6) (HO.out _ Bww6) (by omega)).mono ?_
    rintro e_ w7 ⟨rfl, bw7⟩
    have hzw7 := bw7.size
    have hvw7 := (bw7.block (w.heap.size) (by omega)).trans hvw6
    have hpw7 := (bw7.block (w.heap.size + 1) (by omega)).trans hpw6
    have hqw7 := (bw7.block (w.heap.size + 2) (by omega)).trans hqw6
    have h8w7 := (bw7.block (w5.heap.size) (by omega)).trans h8w6
    have Bww7 := Bww6.trans (bw7.mono (by omega))
    have Lgw7 := hmk (V.lies_keep (R' := false) (S' := (fun y => w4.heap.size ≤ y ∧ y < w5.heap.size)) (fun h => h) (fun y hy => bw7.block y (by have := hy.2; omega)) (fun _ h => h) _ Lgw6.out)
    clear Lgw6
    clear bw7
    by_cases hb : bothE v p = 0
    rotate_left
    ·have hne : ¬ (bothE v p : Int) = 0 := by omega
     have ynb : ((bothE v p : Int) != 0) = true := by simp; omega
     have HA := hmk (dff_bad hb)
     by_cases h1 : chkE v 32 = 0
     ·have d1 : decide (chkE v 32 = 0) = true := decide_eq_true h1
      have d2 : decide (chkE p 32 = 0) = false := decide_eq_false (by rw [bothE, if_pos h1] at hb; exact hb)
      rw [d1]
      clear d1 hb h1
      have cp0 : w7.cell? ⟨w.heap.size + 1, 0, none⟩ = some (.int .i64 pk) := by rw [cell_of_block hpw7]; rfl
      have cp1 : w7.cell? ⟨w.heap.size + 1, 1, none⟩ = some (.bool pb) := by rw [cell_of_block hpw7]; rfl
      have cp2 : w7.cell? ⟨w.heap.size + 1, 2, none⟩ = some (.int .i64 pi) := by rw [cell_of_block hpw7]; rfl
      have cp3 : w7.cell? ⟨w.heap.size + 1, 3, none⟩ = some (.string ps) := by rw [cell_of_block hpw7]; rfl
      have cp4 : w7.cell? ⟨w.heap.size + 1, 4, none⟩ = some (.slice pal pnl pcl) := by rw [cell_of_block hpw7]; rfl
      have cp5 : w7.cell? ⟨w.heap.size + 1, 5, none⟩ = some (.slice pam pnm pcm) := by rw [cell_of_block hpw7]; rfl
      go_wp2_with fail
      clear cp0 cp1 cp2 cp3 cp4 cp5
      refine (good_any p (Old w) _ w7 (HT.out _ Bww7) (HP.out _ Bww7) (HO.out _ Bww7) (by omega)).mono ?_
      rintro e_ w8 ⟨rfl, bw8⟩
      have hzw8 := bw8.size
      have hvw8 := (bw8.block (w.heap.size) (by omega)).trans hvw7
      have hpw8 := (bw8.block (w.heap.size + 1) (by omega)).trans hpw7
      have hqw8 := (bw8.block (w.heap.size + 2) (by omega)).trans hqw7
      have h8w8 := (bw8.block (w5.heap.size) (by omega)).trans h8w7
      have Bww8 := Bww7.trans (bw8.mono (by omega))
      have Lgw8 := hmk (V.lies_keep (R' := false) (S' := (fun y => w4.heap.size ≤ y ∧ y < w5.heap.size)) (fun h => h) (fun y hy => bw8.block y (by have := hy.2; omega)) (fun _ h => h) _ Lgw7.out)
      clear Lgw7
      clear bw8
      rw [d2]
      clear d2
      have Lg0 := Lgw8.out
      rw [HA.out] at Lg0
      simp only at Lg0
      rw [HA.out]
      simp only
      clear Lgw8
      have Lgw8 := hmk Lg0
      clear Lg0
      clear HA
      generalize (bothE v p : Int) = er at *
      go_wp2_with fail
      refine (num_any er w8).mono ?_
      rintro e_ w9 ⟨rfl, bw9⟩
      have hzw9 := bw9.size
      have hvw9 := (bw9.block (w.heap.size) (by omega)).trans hvw8
      have hpw9 := (bw9.block (w.heap.size + 1) (by omega)).trans hpw8
      have hqw9 := (bw9.block (w.heap.size + 2) (by omega)).trans hqw8
      have h8w9 := (bw9.block (w5.heap.size) (by omega)).trans h8w8
      have Bww9 := Bww8.trans (bw9.mono (by omega))
      have Lgw9 := hmk (V.lies_keep (R' := false) (S' := (fun y => w4.heap.size ≤ y ∧ y < w5.heap.size)) (fun h => h) (fun y hy => bw9.block y (by have := hy.2; omega)) (fun _ h => h) _ Lgw8.out)
      clear Lgw8
      clear bw9
      have CS := same_any nullV false false nullV (fun y => w4.heap.size ≤ y ∧ y < w5.heap.size) (fun _ => False) _ [.int .i64 0, .bool false, .int .i64 0, .string ⟨#[]⟩, .slice none 0 0, .slice none 0 0] w9 Lgw9.out (null_lies _ _) (fun y hy => by have := hy.2; omega) (fun _ h => h.elim)
      rw [V.eqB_refl] at CS
      have cg0 : w9.cell? ⟨w5.heap.size, 0, none⟩ = some (.int .i64 gk) := by rw [cell_of_block h8w9]; rfl
      have cg1 : w9.cell? ⟨w5.heap.size, 1, none⟩ = some (.bool gb) := by rw [cell_of_block h8w9]; rfl
      have cg2 : w9.cell? ⟨w5.heap.size, 2, none⟩ = some (.int .i64 gi) := by rw [cell_of_block h8w9]; rfl
      have cg3 : w9.cell? ⟨w5.heap.size, 3, none⟩ = some (.string gs) := by rw [cell_of_block h8w9]; rfl
      have cg4 : w9.cell? ⟨w5.heap.size, 4, none⟩ = some (.slice gal gnl gcl) := by rw [cell_of_block h8w9]; rfl
      have cg5 : w9.cell? ⟨w5.heap.size, 5, none⟩ = some (.slice gam gnm gcm) := by rw [cell_of_block h8w9]; rfl
      go_wp2_with fail
      clear cg0 cg1 cg2 cg3 cg4 cg5
      refine (CS).mono ?_
      rintro e_ w10 ⟨rfl, bw10⟩
      have hzw10 := bw10.size
      have hvw10 := (bw10.block (w.heap.size) (by omega)).trans hvw9
      have hpw10 := (bw10.block (w.heap.size + 1) (by omega)).trans hpw9
      have hqw10 := (bw10.block (w.heap.size + 2) (by omega)).trans hqw9
      have h8w10 := (bw10.block (w5.heap.size) (by omega)).trans h8w9
      have Bww10 := Bww9.trans (bw10.mono (by omega))
      have Lgw10 := hmk (V.lies_keep (R' := false) (S' := (fun y => w4.heap.size ≤ y ∧ y < w5.heap.size)) (fun h => h) (fun y hy => bw10.block y (by have := hy.2; omega)) (fun _ h => h) _ Lgw9.out)
      clear Lgw9
      clear bw10
      clear CS
      go_wp2_with fail
      go_ret
      exact ⟨rfl, Bww10⟩
     ·have d1 : decide (chkE v 32 = 0) = false := decide_eq_false h1
      rw [d1]
      clear d1 hb h1
      have Lg0 := Lgw7.out
      rw [HA.out] at Lg0
      simp only at Lg0
      rw [HA.out]
      simp only
      clear Lgw7
      have Lgw7 := hmk Lg0
      clear Lg0
      clear HA
      generalize (bothE v p : Int) = er at *
      go_wp2_with fail
      refine (num_any er w7).mono ?_
      rintro e_ w8 ⟨rfl, bw8⟩
      have hzw8 := bw8.size
      have hvw8 := (bw8.block (w.heap.size) (by omega)).trans hvw7
      have hpw8 := (bw8.block (w.heap.size + 1) (by omega)).trans hpw7
      have hqw8 := (bw8.block (w.heap.size + 2) (by omega)).trans hqw7
      have h8w8 := (bw8.block (w5.heap.size) (by omega)).trans h8w7
      have Bww8 := Bww7.trans (bw8.mono (by omega))
      have Lgw8 := hmk (V.lies_keep (R' := false) (S' := (fun y => w4.heap.size ≤ y ∧ y < w5.heap.size)) (fun h => h) (fun y hy => bw8.block y (by have := hy.2; omega)) (fun _ h => h) _ Lgw7.out)
      clear Lgw7
      clear bw8
      have CS := same_any nullV false false nullV (fun y => w4.heap.size ≤ y ∧ y < w5.heap.size) (fun _ => False) _ [.int .i64 0, .bool false, .int .i64 0, .string ⟨#[]⟩, .slice none 0 0, .slice none 0 0] w8 Lgw8.out (null_lies _ _) (fun y hy => by have := hy.2; omega) (fun _ h => h.elim)
      rw [V.eqB_refl] at CS
      have cg0 : w8.cell? ⟨w5.heap.size, 0, none⟩ = some (.int .i64 gk) := by rw [cell_of_block h8w8]; rfl
      have cg1 : w8.cell? ⟨w5.heap.size, 1, none⟩ = some (.bool gb) := by rw [cell_of_block h8w8]; rfl
      have cg2 : w8.cell? ⟨w5.heap.size, 2, none⟩ = some (.int .i64 gi) := by rw [cell_of_block h8w8]; rfl
      have cg3 : w8.cell? ⟨w5.heap.size, 3, none⟩ = some (.string gs) := by rw [cell_of_block h8w8]; rfl
      have cg4 : w8.cell? ⟨w5.heap.size, 4, none⟩ = some (.slice gal gnl gcl) := by rw [cell_of_block h8w8]; rfl
      have cg5 : w8.cell? ⟨w5.heap.size, 5, none⟩ = some (.slice gam gnm gcm) := by rw [cell_of_block h8w8]; rfl
      go_wp2_with fail
      clear cg0 cg1 cg2 cg3 cg4 cg5
      refine (CS).mono ?_
      rintro e_ w9 ⟨rfl, bw9⟩
      have hzw9 := bw9.size
      have hvw9 := (bw9.block (w.heap.size) (by omega)).trans hvw8
      have hpw9 := (bw9.block (w.heap.size + 1) (by omega)).trans hpw8
      have hqw9 := (bw9.block (w.heap.size + 2) (by omega)).trans hqw8
      have h8w9 := (bw9.block (w5.heap.size) (by omega)).trans h8w8
      have Bww9 := Bww8.trans (bw9.mono (by omega))
      have Lgw9 := hmk (V.lies_keep (R' := false) (S' := (fun y => w4.heap.size ≤ y ∧ y < w5.heap.size)) (fun h => h) (fun y hy => bw9.block y (by have := hy.2; omega)) (fun _ h => h) _ Lgw8.out)
      clear Lgw8
      clear bw9
      clear CS
      go_wp2_with fail
      go_ret
      exact ⟨rfl, Bww9⟩
    obtain ⟨k1, k2⟩ := both_two hb
    have d1 : decide (chkE v 32 = 0) = true := decide_eq_true k1
    have d2 : decide (chkE p 32 = 0) = true := decide_eq_true k2
    rw [d1]
    clear d1
    have cp0 : w7.cell? ⟨w.heap.size + 1, 0, none⟩ = some (.int .i64 pk) := by rw [cell_of_block hpw7]; rfl
    have cp1 : w7.cell? ⟨w.heap.size + 1, 1, none⟩ = some (.bool pb) := by rw [cell_of_block hpw7]; rfl
    have cp2 : w7.cell? ⟨w.heap.size + 1, 2, none⟩ = some (.int .i64 pi) := by rw [cell_of_block hpw7]; rfl
    have cp3 : w7.cell? ⟨w.heap.size + 1, 3, none⟩ = some (.string ps) := by rw [cell_of_block hpw7]; rfl
    have cp4 : w7.cell? ⟨w.heap.size + 1, 4, none⟩ = some (.slice pal pnl pcl) := by rw [cell_of_block hpw7]; rfl
    have cp5 : w7.cell? ⟨w.heap.size + 1, 5, none⟩ = some (.slice pam pnm pcm) := by rw [cell_of_block hpw7]; rfl
    go_wp2_with fail
    clear cp0 cp1 cp2 cp3 cp4 cp5
    refine (good_any p (Old w) _ w7 (HT.out _ Bww7) (HP.out _ Bww7) (HO.out _ Bww7) (by omega)).mono ?_
    rintro e_ w8 ⟨rfl, bw8⟩
    have hzw8 := bw8.size
    have hvw8 := (bw8.block (w.heap.size) (by omega)).trans hvw7
    have hpw8 := (bw8.block (w.heap.size + 1) (by omega)).trans hpw7
    have hqw8 := (bw8.block (w.heap.size + 2) (by omega)).trans hqw7
    have h8w8 := (bw8.block (w5.heap.size) (by omega)).trans h8w7
    have Bww8 := Bww7.trans (bw8.mono (by omega))
    have Lgw8 := hmk (V.lies_keep (R' := false) (S' := (fun y => w4.heap.size ≤ y ∧ y < w5.heap.size)) (fun h => h) (fun y hy => bw8.block y (by have := hy.2; omega)) (fun _ h => h) _ Lgw7.out)
    clear Lgw7
    clear bw8
    rw [d2]
    clear d2 hb
    rcases dff_cases k1 k2 with ⟨P, hd, cP, eP⟩ | hd | hd | hd
    ·have okP := (ok_chk (D := 32) (by omega) cP).wt
     have HAP : Hid (aplF v P = (p, 0)) := by show _ = _; rw [apl_fin (both_zero k1 cP), finF, eP, if_pos k2]
     have Lg0 := Lgw8.out
     rw [hd] at Lg0
     simp only at Lg0
     rw [hd]
     simp only
     clear Lgw8
     have Lgw8 := hmk Lg0
     clear Lg0
     clear hd cP eP
     go_wp2_with fail
     refine (num_any 0 w8).mono ?_
     rintro e_ w9 ⟨rfl, bw9⟩
     have hzw9 := bw9.size
     have hvw9 := (bw9.block (w.heap.size) (by omega)).trans hvw8
     have hpw9 := (bw9.block (w.heap.size + 1) (by omega)).trans hpw8
     have hqw9 := (bw9.block (w.heap.size + 2) (by omega)).trans hqw8
     have h8w9 := (bw9.block (w5.heap.size) (by omega)).trans h8w8
     have Bww9 := Bww8.trans (bw9.mono (by omega))
     have Lgw9 := hmk (V.lies_keep (R' := false) (S' := (fun y => w4.heap.size ≤ y ∧ y < w5.heap.size)) (fun h => h) (fun y hy => bw9.block y (by have := hy.2; omega)) (fun _ h => h) _ Lgw8.out)
     clear Lgw8
     clear bw9
     have cv0 : w9.cell? ⟨w.heap.size, 0, none⟩ = some (.int .i64 vk) := by rw [cell_of_block hvw9]; rfl
     have cv1 : w9.cell? ⟨w.heap.size, 1, none⟩ = some (.bool vb) := by rw [cell_of_block hvw9]; rfl
     have cv2 : w9.cell? ⟨w.heap.size, 2, none⟩ = some (.int .i64 vi) := by rw [cell_of_block hvw9]; rfl
     have cv3 : w9.cell? ⟨w.heap.size, 3, none⟩ = some (.string vs) := by rw [cell_of_block hvw9]; rfl
     have cv4 : w9.cell? ⟨w.heap.size, 4, none⟩ = some (.slice val vnl vcl) := by rw [cell_of_block hvw9]; rfl
     have cv5 : w9.cell? ⟨w.heap.size, 5, none⟩ = some (.slice vam vnm vcm) := by rw [cell_of_block hvw9]; rfl
     have cg0 : w9.cell? ⟨w5.heap.size, 0, none⟩ = some (.int .i64 gk) := by rw [cell_of_block h8w9]; rfl
     have cg1 : w9.cell? ⟨w5.heap.size, 1, none⟩ = some (.bool gb) := by rw [cell_of_block h8w9]; rfl
     have cg2 : w9.cell? ⟨w5.heap.size, 2, none⟩ = some (.int .i64 gi) := by rw [cell_of_block h8w9]; rfl
     have cg3 : w9.cell? ⟨w5.heap.size, 3, none⟩ = some (.string gs) := by rw [cell_of_block h8w9]; rfl
     have cg4 : w9.cell? ⟨w5.heap.size, 4, none⟩ = some (.slice gal gnl gcl) := by rw [cell_of_block h8w9]; rfl
     have cg5 : w9.cell? ⟨w5.heap.size, 5, none⟩ = some (.slice gam gnm gcm) := by rw [cell_of_block h8w9]; rfl
     go_wp2_with fail
     clear cv0 cv1 cv2 cv3 cv4 cv5 cg0 cg1 cg2 cg3 cg4 cg5
     have CA := apply_any v P (fun y => Old w y ∨ (w4.heap.size ≤ y ∧ y < w5.heap.size)) _ _ w9 (HT.out _ Bww9) (V.lies_keep (S' := (fun y => Old w y ∨ (w4.heap.size ≤ y ∧ y < w5.heap.size))) (fun h => h) (fun _ _ => rfl) (fun y hy => .inl hy) _ (HL.out _ Bww9)) (V.lies_keep (S' := (fun y => Old w y ∨ (w4.heap.size ≤ y ∧ y < w5.heap.size))) (fun h => h) (fun _ _ => rfl) (fun y hy => .inr hy) _ Lgw9.out) (fun y hy => by rcases hy with hy | hy <;> first | exact HO.out _ Bww9 y hy | (have := hy.2; omega)) (by omega) (by omega)
     rw [HAP.out] at CA
     refine (CA).mono ?_
     rintro e_ w10 ⟨cf_, rfl, lf_, bw10⟩
     obtain ⟨fk, fb, fi, fs, fal, fnl, fcl, fam, fnm, fcm, rfl⟩ := V.ten lf_
     have hzw10 := bw10.size
     have hvw10 := (bw10.block (w.heap.size) (by omega)).trans hvw9
     have hpw10 := (bw10.block (w.heap.size + 1) (by omega)).trans hpw9
     have hqw10 := (bw10.block (w.heap.size + 2) (by omega)).trans hqw9
     have h8w10 := (bw10.block (w5.heap.size) (by omega)).trans h8w9
     have Bww10 := Bww9.trans (bw10.mono (by omega))
     have Lgw10 := hmk (V.lies_keep (R' := false) (S' := (fun y => w4.heap.size ≤ y ∧ y < w5.heap.size)) (fun h => h) (fun y hy => bw10.block y (by have := hy.2; omega)) (fun _ h => h) _ Lgw9.out)
     clear Lgw9
     have Lfw10 := hmk lf_
     clear lf_ bw10
     clear CA HAP
     have bzw11 : Below w10.heap.size w10 (w10.alloc (.cells #[.int .i64 fk, .bool fb, .int .i64 fi, .string fs, .slice fal fnl fcl, .slice fam fnm fcm] 25)) := one_belowG _ _
     have hltw11 : w10.heap.size < (w10.alloc (.cells #[.int .i64 fk, .bool fb, .int .i64 fi, .string fs, .slice fal fnl fcl, .slice fam fnm fcm] 25)).heap.size := by rw [alloc_size]; omega
     have hvw11 := (bzw11.block (w.heap.size) (by omega)).trans hvw10
     have hpw11 := (bzw11.block (w.heap.size + 1) (by omega)).trans hpw10
     have hqw11 := (bzw11.block (w.heap.size + 2) (by omega)).trans hqw10
     have Bww11 := Bww10.trans (bzw11.mono (by omega))
     have h11w11 := heap_alloc_new w10 (.cells #[.int .i64 fk, .bool fb, .int .i64 fi, .string fs, .slice fal fnl fcl, .slice fam fnm fcm] 25)
     have Lfw11 := hmk (V.lies_keep (R' := false) (S' := (fun y => w9.heap.size ≤ y ∧ y < w10.heap.size)) (fun h => h) (fun y hy => bzw11.block y (by have := hy.2; omega)) (fun _ h => h) _ Lfw10.out)
     clear Lfw10
     go_wp2_with fail
     generalize (w10.alloc (.cells #[.int .i64 fk, .bool fb, .int .i64 fi, .string fs, .slice fal fnl fcl, .slice fam fnm fcm] 25)) = w11 at *
     refine (num_any 0 w11).mono ?_
     rintro e_ w12 ⟨rfl, bw12⟩
     have hzw12 := bw12.size
     have hvw12 := (bw12.block (w.heap.size) (by omega)).trans hvw11
     have hpw12 := (bw12.block (w.heap.size + 1) (by omega)).trans hpw11
     have hqw12 := (bw12.block (w.heap.size + 2) (by omega)).trans hqw11
     have h11w12 := (bw12.block (w10.heap.size) (by omega)).trans h11w11
     have Bww12 := Bww11.trans (bw12.mono (by omega))
     have Lfw12 := hmk (V.lies_keep (R' := false) (S' := (fun y => w9.heap.size ≤ y ∧ y < w10.heap.size)) (fun h => h) (fun y hy => bw12.block y (by have := hy.2; omega)) (fun _ h => h) _ Lfw11.out)
     clear Lfw11
     clear bw12
     have CS := same_any p false false p (fun y => w9.heap.size ≤ y ∧ y < w10.heap.size) (Old w) _ _ w12 Lfw12.out (HP.out _ Bww12) (fun y hy => by have := hy.2; omega) (HO.out _ Bww12)
     rw [V.eqB_refl] at CS
     have cf0 : w12.cell? ⟨w10.heap.size, 0, none⟩ = some (.int .i64 fk) := by rw [cell_of_block h11w12]; rfl
     have cf1 : w12.cell? ⟨w10.heap.size, 1, none⟩ = some (.bool fb) := by rw [cell_of_block h11w12]; rfl
     have cf2 : w12.cell? ⟨w10.heap.size, 2, none⟩ = some (.int .i64 fi) := by rw [cell_of_block h11w12]; rfl
     have cf3 : w12.cell? ⟨w10.heap.size, 3, none⟩ = some (.string fs) := by rw [cell_of_block h11w12]; rfl
     have cf4 : w12.cell? ⟨w10.heap.size, 4, none⟩ = some (.slice fal fnl fcl) := by rw [cell_of_block h11w12]; rfl
     have cf5 : w12.cell? ⟨w10.heap.size, 5, none⟩ = some (.slice fam fnm fcm) := by rw [cell_of_block h11w12]; rfl
     have cp0 : w12.cell? ⟨w.heap.size + 1, 0, none⟩ = some (.int .i64 pk) := by rw [cell_of_block hpw12]; rfl
     have cp1 : w12.cell? ⟨w.heap.size + 1, 1, none⟩ = some (.bool pb) := by rw [cell_of_block hpw12]; rfl
     have cp2 : w12.cell? ⟨w.heap.size + 1, 2, none⟩ = some (.int .i64 pi) := by rw [cell_of_block hpw12]; rfl
     have cp3 : w12.cell? ⟨w.heap.size + 1, 3, none⟩ = some (.string ps) := by rw [cell_of_block hpw12]; rfl
     have cp4 : w12.cell? ⟨w.heap.size + 1, 4, none⟩ = some (.slice pal pnl pcl) := by rw [cell_of_block hpw12]; rfl
     have cp5 : w12.cell? ⟨w.heap.size + 1, 5, none⟩ = some (.slice pam pnm pcm) := by rw [cell_of_block hpw12]; rfl
     go_wp2_with fail
     clear cf0 cf1 cf2 cf3 cf4 cf5 cp0 cp1 cp2 cp3 cp4 cp5
     refine (CS).mono ?_
     rintro e_ w13 ⟨rfl, bw13⟩
     have hzw13 := bw13.size
     have hvw13 := (bw13.block (w.heap.size) (by omega)).trans hvw12
     have hpw13 := (bw13.block (w.heap.size + 1) (by omega)).trans hpw12
     have hqw13 := (bw13.block (w.heap.size + 2) (by omega)).trans hqw12
     have h11w13 := (bw13.block (w10.heap.size) (by omega)).trans h11w12
     have Bww13 := Bww12.trans (bw13.mono (by omega))
     have Lfw13 := hmk (V.lies_keep (R' := false) (S' := (fun y => w9.heap.size ≤ y ∧ y < w10.heap.size)) (fun h => h) (fun y hy => bw13.block y (by have := hy.2; omega)) (fun _ h => h) _ Lfw12.out)
     clear Lfw12
     clear bw13
     clear CS
     have cv0 : w13.cell? ⟨w.heap.size, 0, none⟩ = some (.int .i64 vk) := by rw [cell_of_block hvw13]; rfl
     have cv1 : w13.cell? ⟨w.heap.size, 1, none⟩ = some (.bool vb) := by rw [cell_of_block hvw13]; rfl
     have cv2 : w13.cell? ⟨w.heap.size, 2, none⟩ = some (.int .i64 vi) := by rw [cell_of_block hvw13]; rfl
     have cv3 : w13.cell? ⟨w.heap.size, 3, none⟩ = some (.string vs) := by rw [cell_of_block hvw13]; rfl
     have cv4 : w13.cell? ⟨w.heap.size, 4, none⟩ = some (.slice val vnl vcl) := by rw [cell_of_block hvw13]; rfl
     have cv5 : w13.cell? ⟨w.heap.size, 5, none⟩ = some (.slice vam vnm vcm) := by rw [cell_of_block hvw13]; rfl
     have cq0 : w13.cell? ⟨w.heap.size + 2, 0, none⟩ = some (.int .i64 qk) := by rw [cell_of_block hqw13]; rfl
     have cq1 : w13.cell? ⟨w.heap.size + 2, 1, none⟩ = some (.bool qb) := by rw [cell_of_block hqw13]; rfl
     have cq2 : w13.cell? ⟨w.heap.size + 2, 2, none⟩ = some (.int .i64 qi) := by rw [cell_of_block hqw13]; rfl
     have cq3 : w13.cell? ⟨w.heap.size + 2, 3, none⟩ = some (.string qs) := by rw [cell_of_block hqw13]; rfl
     have cq4 : w13.cell? ⟨w.heap.size + 2, 4, none⟩ = some (.slice qal qnl qcl) := by rw [cell_of_block hqw13]; rfl
     have cq5 : w13.cell? ⟨w.heap.size + 2, 5, none⟩ = some (.slice qam qnm qcm) := by rw [cell_of_block hqw13]; rfl
     go_wp2_with fail
     clear cv0 cv1 cv2 cv3 cv4 cv5 cq0 cq1 cq2 cq3 cq4 cq5
     refine (apply_any v q (Old w) _ _ w13 (HT.out _ Bww13) (HL.out _ Bww13) (HQ.out _ Bww13) (HO.out _ Bww13) (by omega) (by omega)).mono ?_
     rintro e_ w14 ⟨cc_, rfl, lc_, bw14⟩
     obtain ⟨ck, cb, ci, cs, cal, cnl, ccl, cam, cnm, ccm, rfl⟩ := V.ten lc_
     have hzw14 := bw14.size
     have hvw14 := (bw14.block (w.heap.size) (by omega)).trans hvw13
     have hpw14 := (bw14.block (w.heap.size + 1) (by omega)).trans hpw13
     have hqw14 := (bw14.block (w.heap.size + 2) (by omega)).trans hqw13
     have Bww14 := Bww13.trans (bw14.mono (by omega))
     have Lcw14 := hmk lc_
     clear lc_ bw14
     have bzw15 : Below w14.heap.size w14 (w14.alloc (.cells #[.int .i64 ck, .bool cb, .int .i64 ci, .string cs, .slice cal cnl ccl, .slice cam cnm ccm] 25)) := one_belowG _ _
     have hltw15 : w14.heap.size < (w14.alloc (.cells #[.int .i64 ck, .bool cb, .int .i64 ci, .string cs, .slice cal cnl ccl, .slice cam cnm ccm] 25)).heap.size := by rw [alloc_size]; omega
     have hvw15 := (bzw15.block (w.heap.size) (by omega)).trans hvw14
     have hpw15 := (bzw15.block (w.heap.size + 1) (by omega)).trans hpw14
     have hqw15 := (bzw15.block (w.heap.size + 2) (by omega)).trans hqw14
     have Bww15 := Bww14.trans (bzw15.mono (by omega))
     have h13w15 := heap_alloc_new w14 (.cells #[.int .i64 ck, .bool cb, .int .i64 ci, .string cs, .slice cal cnl ccl, .slice cam cnm ccm] 25)
     have Lcw15 := hmk (V.lies_keep (R' := false) (S' := (fun y => w13.heap.size ≤ y ∧ y < w14.heap.size)) (fun h => h) (fun y hy => bzw15.block y (by have := hy.2; omega)) (fun _ h => h) _ Lcw14.out)
     clear Lcw14
     go_wp2_with fail
     generalize (w14.alloc (.cells #[.int .i64 ck, .bool cb, .int .i64 ci, .string cs, .slice cal cnl ccl, .slice cam cnm ccm] 25)) = w15 at *
     refine (num_any (aplF v q).2 w15).mono ?_
     rintro e_ w16 ⟨rfl, bw16⟩
     have hzw16 := bw16.size
     have hvw16 := (bw16.block (w.heap.size) (by omega)).trans hvw15
     have hpw16 := (bw16.block (w.heap.size + 1) (by omega)).trans hpw15
     have hqw16 := (bw16.block (w.heap.size + 2) (by omega)).trans hqw15
     have h13w16 := (bw16.block (w14.heap.size) (by omega)).trans h13w15
     have Bww16 := Bww15.trans (bw16.mono (by omega))
     have Lcw16 := hmk (V.lies_keep (R' := false) (S' := (fun y => w13.heap.size ≤ y ∧ y < w14.heap.size)) (fun h => h) (fun y hy => bw16.block y (by have := hy.2; omega)) (fun _ h => h) _ Lcw15.out)
     clear Lcw15
     clear bw16
     by_cases hq0 : (aplF v q).2 = 0
     rotate_left
     ·have ynq : ((aplF v q).2 != 0) = true := by simp [hq0]
      clear Lcw16 k1 k2
      generalize (aplF v q).2 = er at *
      go_wp2_with fail
      go_ret
      exact ⟨rfl, Bww16⟩
     obtain ⟨kq, kc, hqa⟩ := apl_ok hq0
     obtain ⟨R, hR, cR, nR⟩ := fnd_val k1 kq kc
     have HDR := hmk (dff_some k1 kc hR cR)
     have okR := hmk (ok_chk (D := 32) (by omega) cR)
     have okQ := hmk (ok_chk (D := 32) (by omega) kq)
     have wR := okR.out.wt
     have wC := (ok_chk (D := 32) (by omega) kc).wt
     have HDD := hmk (dff_some k1 k1 (self_val k1) (by split; exact emp_chk; exact k1))
     have Lc0 := Lcw16.out
     rw [hqa] at Lc0
     simp only at Lc0
     rw [hqa]
     simp only
     clear Lcw16 hq0 hqa kq kc hR cR
     have Lcw16 := hmk Lc0
     clear Lc0
     generalize pchV v q = U at *
     have yR : ¬ (ndV q : Int) < (ndV R : Int) := by omega
     have yR0 : ¬ ndV q < ndV R := by omega
     have yR1 : decide ((ndV q : Int) < (ndV R : Int)) = false := decide_eq_false yR
     have yR2 : decide ((ndV R : Int) > (ndV q : Int)) = false := decide_eq_false yR
     have yR3 : decide (ndV q < ndV R) = false := decide_eq_false yR0
     obtain ⟨nr, hnr⟩ : ∃ n, ndV R = n := ⟨_, rfl⟩
     obtain ⟨nq, hnq⟩ : ∃ n, ndV q = n := ⟨_, rfl⟩
     rw [hnr, hnq] at yR yR0 yR1 yR2 yR3
     have HNR := hmk hnr
     have HNQ := hmk hnq
     clear hnr hnq nR
     have cv0 : w16.cell? ⟨w.heap.size, 0, none⟩ = some (.int .i64 vk) := by rw [cell_of_block hvw16]; rfl
     have cv1 : w16.cell? ⟨w.heap.size, 1, none⟩ = some (.bool vb) := by rw [cell_of_block hvw16]; rfl
     have cv2 : w16.cell? ⟨w.heap.size, 2, none⟩ = some (.int .i64 vi) := by rw [cell_of_block hvw16]; rfl
     have cv3 : w16.cell? ⟨w.heap.size, 3, none⟩ = some (.string vs) := by rw [cell_of_block hvw16]; rfl
     have cv4 : w16.cell? ⟨w.heap.size, 4, none⟩ = some (.slice val vnl vcl) := by rw [cell_of_block hvw16]; rfl
     have cv5 : w16.cell? ⟨w.heap.size, 5, none⟩ = some (.slice vam vnm vcm) := by rw [cell_of_block hvw16]; rfl
     have cc0 : w16.cell? ⟨w14.heap.size, 0, none⟩ = some (.int .i64 ck) := by rw [cell_of_block h13w16]; rfl
     have cc1 : w16.cell? ⟨w14.heap.size, 1, none⟩ = some (.bool cb) := by rw [cell_of_block h13w16]; rfl
     have cc2 : w16.cell? ⟨w14.heap.size, 2, none⟩ = some (.int .i64 ci) := by rw [cell_of_block h13w16]; rfl
     have cc3 : w16.cell? ⟨w14.heap.size, 3, none⟩ = some (.string cs) := by rw [cell_of_block h13w16]; rfl
     have cc4 : w16.cell? ⟨w14.heap.size, 4, none⟩ = some (.slice cal cnl ccl) := by rw [cell_of_block h13w16]; rfl
     have cc5 : w16.cell? ⟨w14.heap.size, 5, none⟩ = some (.slice cam cnm ccm) := by rw [cell_of_block h13w16]; rfl
     go_wp2_with fail
     clear cv0 cv1 cv2 cv3 cv4 cv5 cc0 cc1 cc2 cc3 cc4 cc5
     have CD := diff_any low v U (fun y => Old w y ∨ (w13.heap.size ≤ y ∧ y < w14.heap.size)) _ _ w16 (HT.out _ Bww16) (HE.out _ Bww16) (V.lies_keep (S' := (fun y => Old w y ∨ (w13.heap.size ≤ y ∧ y < w14.heap.size))) (fun h => h) (fun _ _ => rfl) (fun y hy => .inl hy) _ (HL.out _ Bww16)) (V.lies_keep (S' := (fun y => Old w y ∨ (w13.heap.size ≤ y ∧ y < w14.heap.size))) (fun h => h) (fun _ _ => rfl) (fun y hy => .inr hy) _ Lcw16.out) (fun y hy => by rcases hy with hy | hy <;> first | exact HO.out _ Bww16 y hy | (have := hy.2; omega)) (by omega) (by omega)
     rw [HDR.out] at CD
     refine (CD).mono ?_
     rintro e_ w17 ⟨cr_, rfl, lr_, bw17⟩
     obtain ⟨rk, rb, ri, rs, ral, rnl, rcl, ram, rnm, rcm, rfl⟩ := V.ten lr_
     have hzw17 := bw17.size
     have hvw17 := (bw17.block (w.heap.size) (by omega)).trans hvw16
     have hpw17 := (bw17.block (w.heap.size + 1) (by omega)).trans hpw16
     have hqw17 := (bw17.block (w.heap.size + 2) (by omega)).trans hqw16
     have h13w17 := (bw17.block (w14.heap.size) (by omega)).trans h13w16
     have Bww17 := Bww16.trans (bw17.mono (by omega))
     have Lcw17 := hmk (V.lies_keep (R' := false) (S' := (fun y => w13.heap.size ≤ y ∧ y < w14.heap.size)) (fun h => h) (fun y hy => bw17.block y (by have := hy.2; omega)) (fun _ h => h) _ Lcw16.out)
     clear Lcw16
     have Lrw17 := hmk lr_
     clear lr_ bw17
     clear CD HDR
     have bzw18 : Below w17.heap.size w17 (w17.alloc (.cells #[.int .i64 rk, .bool rb, .int .i64 ri, .string rs, .slice ral rnl rcl, .slice ram rnm rcm] 25)) := one_belowG _ _
     have hltw18 : w17.heap.size < (w17.alloc (.cells #[.int .i64 rk, .bool rb, .int .i64 ri, .string rs, .slice ral rnl rcl, .slice ram rnm rcm] 25)).heap.size := by rw [alloc_size]; omega
     have hvw18 := (bzw18.block (w.heap.size) (by omega)).trans hvw17
     have hpw18 := (bzw18.block (w.heap.size + 1) (by omega)).trans hpw17
     have hqw18 := (bzw18.block (w.heap.size + 2) (by omega)).trans hqw17
     have Bww18 := Bww17.trans (bzw18.mono (by omega))
     have h15w18 := heap_alloc_new w17 (.cells #[.int .i64 rk, .bool rb, .int .i64 ri, .string rs, .slice ral rnl rcl, .slice ram rnm rcm] 25)
     have Lrw18 := hmk (V.lies_keep (R' := false) (S' := (fun y => w16.heap.size ≤ y ∧ y < w17.heap.size)) (fun h => h) (fun y hy => bzw18.block y (by have := hy.2; omega)) (fun _ h => h) _ Lrw17.out)
     clear Lrw17
     have cv0 : (w17.alloc (.cells #[.int .i64 rk, .bool rb, .int .i64 ri, .string rs, .slice ral rnl rcl, .slice ram rnm rcm] 25)).cell? ⟨w.heap.size, 0, none⟩ = some (.int .i64 vk) := by rw [cell_of_block hvw18]; rfl
     have cv1 : (w17.alloc (.cells #[.int .i64 rk, .bool rb, .int .i64 ri, .string rs, .slice ral rnl rcl, .slice ram rnm rcm] 25)).cell? ⟨w.heap.size, 1, none⟩ = some (.bool vb) := by rw [cell_of_block hvw18]; rfl
     have cv2 : (w17.alloc (.cells #[.int .i64 rk, .bool rb, .int .i64 ri, .string rs, .slice ral rnl rcl, .slice ram rnm rcm] 25)).cell? ⟨w.heap.size, 2, none⟩ = some (.int .i64 vi) := by rw [cell_of_block hvw18]; rfl
     have cv3 : (w17.alloc (.cells #[.int .i64 rk, .bool rb, .int .i64 ri, .string rs, .slice ral rnl rcl, .slice ram rnm rcm] 25)).cell? ⟨w.heap.size, 3, none⟩ = some (.string vs) := by rw [cell_of_block hvw18]; rfl
     have cv4 : (w17.alloc (.cells #[.int .i64 rk, .bool rb, .int .i64 ri, .string rs, .slice ral rnl rcl, .slice ram rnm rcm] 25)).cell? ⟨w.heap.size, 4, none⟩ = some (.slice val vnl vcl) := by rw [cell_of_block hvw18]; rfl
     have cv5 : (w17.alloc (.cells #[.int .i64 rk, .bool rb, .int .i64 ri, .string rs, .slice ral rnl rcl, .slice ram rnm rcm] 25)).cell? ⟨w.heap.size, 5, none⟩ = some (.slice vam vnm vcm) := by rw [cell_of_block hvw18]; rfl
     go_wp2_with fail
     clear cv0 cv1 cv2 cv3 cv4 cv5
     generalize (w17.alloc (.cells #[.int .i64 rk, .bool rb, .int .i64 ri, .string rs, .slice ral rnl rcl, .slice ram rnm rcm] 25)) = w18 at *
     have CD := diff_any low v v (Old w) _ _ w18 (HT.out _ Bww18) (HE.out _ Bww18) (HL.out _ Bww18) (HL.out _ Bww18) (HO.out _ Bww18) (by omega) (by omega)
     rw [HDD.out] at CD
     refine (CD).mono ?_
     rintro e_ w19 ⟨cd_, rfl, ld_, bw19⟩
     obtain ⟨dk, db, di, ds, dal, dnl, dcl, dam, dnm, dcm, rfl⟩ := V.ten ld_
     have hzw19 := bw19.size
     have hvw19 := (bw19.block (w.heap.size) (by omega)).trans hvw18
     have hpw19 := (bw19.block (w.heap.size + 1) (by omega)).trans hpw18
     have hqw19 := (bw19.block (w.heap.size + 2) (by omega)).trans hqw18
     have h15w19 := (bw19.block (w17.heap.size) (by omega)).trans h15w18
     have Bww19 := Bww18.trans (bw19.mono (by omega))
     have Lrw19 := hmk (V.lies_keep (R' := false) (S' := (fun y => w16.heap.size ≤ y ∧ y < w17.heap.size)) (fun h => h) (fun y hy => bw19.block y (by have := hy.2; omega)) (fun _ h => h) _ Lrw18.out)
     clear Lrw18
     have Ldw19 := hmk ld_
     clear ld_ bw19
     clear CD HDD
     have bzw20 : Below w19.heap.size w19 (w19.alloc (.cells #[.int .i64 dk, .bool db, .int .i64 di, .string ds, .slice dal dnl dcl, .slice dam dnm dcm] 25)) := one_belowG _ _
     have hltw20 : w19.heap.size < (w19.alloc (.cells #[.int .i64 dk, .bool db, .int .i64 di, .string ds, .slice dal dnl dcl, .slice dam dnm dcm] 25)).heap.size := by rw [alloc_size]; omega
     have hvw20 := (bzw20.block (w.heap.size) (by omega)).trans hvw19
     have hpw20 := (bzw20.block (w.heap.size + 1) (by omega)).trans hpw19
     have hqw20 := (bzw20.block (w.heap.size + 2) (by omega)).trans hqw19
     have h15w20 := (bzw20.block (w17.heap.size) (by omega)).trans h15w19
     have Bww20 := Bww19.trans (bzw20.mono (by omega))
     have h18w20 := heap_alloc_new w19 (.cells #[.int .i64 dk, .bool db, .int .i64 di, .string ds, .slice dal dnl dcl, .slice dam dnm dcm] 25)
     have Lrw20 := hmk (V.lies_keep (R' := false) (S' := (fun y => w16.heap.size ≤ y ∧ y < w17.heap.size)) (fun h => h) (fun y hy => bzw20.block y (by have := hy.2; omega)) (fun _ h => h) _ Lrw19.out)
     have Ldw20 := hmk (V.lies_keep (R' := false) (S' := (fun y => w18.heap.size ≤ y ∧ y < w19.heap.size)) (fun h => h) (fun y hy => bzw20.block y (by have := hy.2; omega)) (fun _ h => h) _ Ldw19.out)
     clear Lrw19 Ldw19
     go_wp2_with fail
     generalize (w19.alloc (.cells #[.int .i64 dk, .bool db, .int .i64 di, .string ds, .slice dal dnl dcl, .slice dam dnm dcm] 25)) = w20 at *
     have cr0 : w20.cell? ⟨w17.heap.size, 0, none⟩ = some (.int .i64 rk) := by rw [cell_of_block h15w20]; rfl
     have cr1 : w20.cell? ⟨w17.heap.size, 1, none⟩ = some (.bool rb) := by rw [cell_of_block h15w20]; rfl
     have cr2 : w20.cell? ⟨w17.heap.size, 2, none⟩ = some (.int .i64 ri) := by rw [cell_of_block h15w20]; rfl
     have cr3 : w20.cell? ⟨w17.heap.size, 3, none⟩ = some (.string rs) := by rw [cell_of_block h15w20]; rfl
     have cr4 : w20.cell? ⟨w17.heap.size, 4, none⟩ = some (.slice ral rnl rcl) := by rw [cell_of_block h15w20]; rfl
     have cr5 : w20.cell? ⟨w17.heap.size, 5, none⟩ = some (.slice ram rnm rcm) := by rw [cell_of_block h15w20]; rfl
     have cq0 : w20.cell? ⟨w.heap.size + 2, 0, none⟩ = some (.int .i64 qk) := by rw [cell_of_block hqw20]; rfl
     have cq1 : w20.cell? ⟨w.heap.size + 2, 1, none⟩ = some (.bool qb) := by rw [cell_of_block hqw20]; rfl
     have cq2 : w20.cell? ⟨w.heap.size + 2, 2, none⟩ = some (.int .i64 qi) := by rw [cell_of_block hqw20]; rfl
     have cq3 : w20.cell? ⟨w.heap.size + 2, 3, none⟩ = some (.string qs) := by rw [cell_of_block hqw20]; rfl
     have cq4 : w20.cell? ⟨w.heap.size + 2, 4, none⟩ = some (.slice qal qnl qcl) := by rw [cell_of_block hqw20]; rfl
     have cq5 : w20.cell? ⟨w.heap.size + 2, 5, none⟩ = some (.slice qam qnm qcm) := by rw [cell_of_block hqw20]; rfl
     have xr0 : ∀ x : Sub w20.heap.size w20, _ := sub_cell cr0 (by omega)
     have xq0 : ∀ x : Sub w20.heap.size w20, _ := sub_cell cq0 (by omega)
     have xr1 : ∀ x : Sub w20.heap.size w20, _ := sub_cell cr1 (by omega)
     have xq1 : ∀ x : Sub w20.heap.size w20, _ := sub_cell cq1 (by omega)
     have xr2 : ∀ x : Sub w20.heap.size w20, _ := sub_cell cr2 (by omega)
     have xq2 : ∀ x : Sub w20.heap.size w20, _ := sub_cell cq2 (by omega)
     have xr3 : ∀ x : Sub w20.heap.size w20, _ := sub_cell cr3 (by omega)
     have xq3 : ∀ x : Sub w20.heap.size w20, _ := sub_cell cq3 (by omega)
     have xr4 : ∀ x : Sub w20.heap.size w20, _ := sub_cell cr4 (by omega)
     have xq4 : ∀ x : Sub w20.heap.size w20, _ := sub_cell cq4 (by omega)
     have xr5 : ∀ x : Sub w20.heap.size w20, _ := sub_cell cr5 (by omega)
     have xq5 : ∀ x : Sub w20.heap.size w20, _ := sub_cell cq5 (by omega)
     have CN : Hid (∀ (n : Int) (x : Sub w20.heap.size w20), Calls Tryd.prog 22 #[.int .i64 n] x.w fun e w'' => e = .returned (.int .i64 n) ∧ ∃ y : Sub w20.heap.size w20, w'' = y.w) := fun n => sub_call fun w' hb => (num_any n w').mono fun e w'' ⟨he, h2⟩ => ⟨he, hb.trans (h2.mono hb.size)⟩
     have CR : Hid (∀ x : Sub w20.heap.size w20, Calls Tryd.prog 23 #[.agg #[.int .i64 rk, .bool rb, .int .i64 ri, .string rs, .slice ral rnl rcl, .slice ram rnm rcm]] x.w fun e w'' => e = .returned (.int .i64 (nr : Int)) ∧ ∃ y : Sub w20.heap.size w20, w'' = y.w) := by show ∀ _, _; rw [← HNR.out]; exact sub_call fun w' hb => (nodes_ok false R okR.out (fun y => w16.heap.size ≤ y ∧ y < w17.heap.size) _ w' (HT.out w' (Bww20.trans (hb.mono (by omega)))) (V.lies_keep (fun h => h) (fun x hx => hb.block x (by have := hx.2; omega)) (fun _ h => h) _ Lrw20.out) (fun y hy => by have := hy.2; have := hb.size; omega) (by omega)).mono fun e w'' ⟨he, h2⟩ => ⟨he, hb.trans (h2.mono hb.size)⟩
     have CQ : Hid (∀ x : Sub w20.heap.size w20, Calls Tryd.prog 23 #[.agg #[.int .i64 qk, .bool qb, .int .i64 qi, .string qs, .slice qal qnl qcl, .slice qam qnm qcm]] x.w fun e w'' => e = .returned (.int .i64 (nq : Int)) ∧ ∃ y : Sub w20.heap.size w20, w'' = y.w) := by show ∀ _, _; rw [← HNQ.out]; exact sub_call fun w' hb => (nodes_ok false q okQ.out (Old w) _ w' (HT.out w' (Bww20.trans (hb.mono (by omega)))) (HQ.out w' (Bww20.trans (hb.mono (by omega)))) (HO.out w' (Bww20.trans (hb.mono (by omega)))) (by omega)).mono fun e w'' ⟨he, h2⟩ => ⟨he, hb.trans (h2.mono hb.size)⟩
     refine wp_region_sub w20.heap.size (by kernel_rfl) (by kernel_rfl) ?_
     repeat (go_big_quiet_step (first | exact CN.out _ _ | exact CR.out _ | exact CQ.out _))
     refine wpQuiet_nil ?_
     rintro w21 ⟨⟨wq_, bw21⟩, hq0_⟩
     have hq1_ : w21 = wq_ := hq0_
     subst hq1_
     clear hq0_
     clear cr0 cr1 cr2 cr3 cr4 cr5 cq0 cq1 cq2 cq3 cq4 cq5 xr0 xr1 xr2 xr3 xr4 xr5 xq0 xq1 xq2 xq3 xq4 xq5 CN CR CQ okR okQ HNR HNQ yR yR0 yR1 yR2 yR3
     have hzw21 := bw21.size
     have hvw21 := (bw21.block (w.heap.size) (by omega)).trans hvw20
     have hpw21 := (bw21.block (w.heap.size + 1) (by omega)).trans hpw20
     have hqw21 := (bw21.block (w.heap.size + 2) (by omega)).trans hqw20
     have h18w21 := (bw21.block (w19.heap.size) (by omega)).trans h18w20
     have Bww21 := Bww20.trans (bw21.mono (by omega))
     have Ldw21 := hmk (V.lies_keep (R' := false) (S' := (fun y => w18.heap.size ≤ y ∧ y < w19.heap.size)) (fun h => h) (fun y hy => bw21.block y (by have := hy.2; omega)) (fun _ h => h) _ Ldw20.out)
     clear Ldw20
     clear bw21
     by_cases h5 : vk = 5
     ·subst h5
      have Ld0 := Ldw21.out
      rw [if_pos HKV.out] at Ld0
      have CS := same_any (mapV []) false false (mapV []) (fun y => w18.heap.size ≤ y ∧ y < w19.heap.size) (fun _ => False) _ [.int .i64 5, .bool false, .int .i64 0, .string ⟨#[]⟩, .slice none 0 0, .slice none 0 0] w21 Ld0 (emp_lies _ _) (fun y hy => by have := hy.2; omega) (fun _ h => h.elim)
      rw [V.eqB_refl] at CS
      have cv0 : w21.cell? ⟨w.heap.size, 0, none⟩ = some (.int .i64 5) := by rw [cell_of_block hvw21]; rfl
      have cv1 : w21.cell? ⟨w.heap.size, 1, none⟩ = some (.bool vb) := by rw [cell_of_block hvw21]; rfl
      have cv2 : w21.cell? ⟨w.heap.size, 2, none⟩ = some (.int .i64 vi) := by rw [cell_of_block hvw21]; rfl
      have cv3 : w21.cell? ⟨w.heap.size, 3, none⟩ = some (.string vs) := by rw [cell_of_block hvw21]; rfl
      have cv4 : w21.cell? ⟨w.heap.size, 4, none⟩ = some (.slice val vnl vcl) := by rw [cell_of_block hvw21]; rfl
      have cv5 : w21.cell? ⟨w.heap.size, 5, none⟩ = some (.slice vam vnm vcm) := by rw [cell_of_block hvw21]; rfl
      have cd0 : w21.cell? ⟨w19.heap.size, 0, none⟩ = some (.int .i64 dk) := by rw [cell_of_block h18w21]; rfl
      have cd1 : w21.cell? ⟨w19.heap.size, 1, none⟩ = some (.bool db) := by rw [cell_of_block h18w21]; rfl
      have cd2 : w21.cell? ⟨w19.heap.size, 2, none⟩ = some (.int .i64 di) := by rw [cell_of_block h18w21]; rfl
      have cd3 : w21.cell? ⟨w19.heap.size, 3, none⟩ = some (.string ds) := by rw [cell_of_block h18w21]; rfl
      have cd4 : w21.cell? ⟨w19.heap.size, 4, none⟩ = some (.slice dal dnl dcl) := by rw [cell_of_block h18w21]; rfl
      have cd5 : w21.cell? ⟨w19.heap.size, 5, none⟩ = some (.slice dam dnm dcm) := by rw [cell_of_block h18w21]; rfl
      go_wp2_with fail
      clear cv0 cv1 cv2 cv3 cv4 cv5 cd0 cd1 cd2 cd3 cd4 cd5
      refine (CS).mono ?_
      rintro e_ w22 ⟨rfl, bw22⟩
      have hzw22 := bw22.size
      have hvw22 := (bw22.block (w.heap.size) (by omega)).trans hvw21
      have hpw22 := (bw22.block (w.heap.size + 1) (by omega)).trans hpw21
      have hqw22 := (bw22.block (w.heap.size + 2) (by omega)).trans hqw21
      have h18w22 := (bw22.block (w19.heap.size) (by omega)).trans h18w21
      have Bww22 := Bww21.trans (bw22.mono (by omega))
      have Ldw22 := hmk (V.lies_keep (R' := false) (S' := (fun y => w18.heap.size ≤ y ∧ y < w19.heap.size)) (fun h => h) (fun y hy => bw22.block y (by have := hy.2; omega)) (fun _ h => h) _ Ldw21.out)
      clear Ldw21
      clear bw22
      go_wp2_with fail
      go_ret
      exact ⟨rfl, Bww22⟩
     ·have Ld0 := Ldw21.out
      rw [if_neg (by rw [HKV.out]; exact h5)] at Ld0
      have yk5 : (vk == 5) = false := beq_eq_false_iff_ne.2 h5
      have CS := same_any v false false v (fun y => w18.heap.size ≤ y ∧ y < w19.heap.size) (Old w) _ _ w21 Ld0 (HL.out _ Bww21) (fun y hy => by have := hy.2; omega) (HO.out _ Bww21)
      rw [V.eqB_refl] at CS
      have cv0 : w21.cell? ⟨w.heap.size, 0, none⟩ = some (.int .i64 vk) := by rw [cell_of_block hvw21]; rfl
      have cv1 : w21.cell? ⟨w.heap.size, 1, none⟩ = some (.bool vb) := by rw [cell_of_block hvw21]; rfl
      have cv2 : w21.cell? ⟨w.heap.size, 2, none⟩ = some (.int .i64 vi) := by rw [cell_of_block hvw21]; rfl
      have cv3 : w21.cell? ⟨w.heap.size, 3, none⟩ = some (.string vs) := by rw [cell_of_block hvw21]; rfl
      have cv4 : w21.cell? ⟨w.heap.size, 4, none⟩ = some (.slice val vnl vcl) := by rw [cell_of_block hvw21]; rfl
      have cv5 : w21.cell? ⟨w.heap.size, 5, none⟩ = some (.slice vam vnm vcm) := by rw [cell_of_block hvw21]; rfl
      have cd0 : w21.cell? ⟨w19.heap.size, 0, none⟩ = some (.int .i64 dk) := by rw [cell_of_block h18w21]; rfl
      have cd1 : w21.cell? ⟨w19.heap.size, 1, none⟩ = some (.bool db) := by rw [cell_of_block h18w21]; rfl
      have cd2 : w21.cell? ⟨w19.heap.size, 2, none⟩ = some (.int .i64 di) := by rw [cell_of_block h18w21]; rfl
      have cd3 : w21.cell? ⟨w19.heap.size, 3, none⟩ = some (.string ds) := by rw [cell_of_block h18w21]; rfl
      have cd4 : w21.cell? ⟨w19.heap.size, 4, none⟩ = some (.slice dal dnl dcl) := by rw [cell_of_block h18w21]; rfl
      have cd5 : w21.cell? ⟨w19.heap.size, 5, none⟩ = some (.slice dam dnm dcm) := by rw [cell_of_block h18w21]; rfl
      go_wp2_with fail
      clear cv0 cv1 cv2 cv3 cv4 cv5 cd0 cd1 cd2 cd3 cd4 cd5
      refine (CS).mono ?_
      rintro e_ w22 ⟨rfl, bw22⟩
      have hzw22 := bw22.size
      have hvw22 := (bw22.block (w.heap.size) (by omega)).trans hvw21
      have hpw22 := (bw22.block (w.heap.size + 1) (by omega)).trans hpw21
      have hqw22 := (bw22.block (w.heap.size + 2) (by omega)).trans hqw21
      have h18w22 := (bw22.block (w19.heap.size) (by omega)).trans h18w21
      have Bww22 := Bww21.trans (bw22.mono (by omega))
      have Ldw22 := hmk (V.lies_keep (R' := false) (S' := (fun y => w18.heap.size ≤ y ∧ y < w19.heap.size)) (fun h => h) (fun y hy => bw22.block y (by have := hy.2; omega)) (fun _ h => h) _ Ldw21.out)
      clear Ldw21
      clear bw22
      go_wp2_with fail
      go_ret
      exact ⟨rfl, Bww22⟩
    ·have Lg0 := Lgw8.out
     rw [hd] at Lg0
     simp only at Lg0
     rw [hd]
     simp only
     clear Lgw8
     have Lgw8 := hmk Lg0
     clear Lg0
     clear hd
     go_wp2_with fail
     refine (num_any 0 w8).mono ?_
     rintro e_ w9 ⟨rfl, bw9⟩
     have hzw9 := bw9.size
     have hvw9 := (bw9.block (w.heap.size) (by omega)).trans hvw8
     have hpw9 := (bw9.block (w.heap.size + 1) (by omega)).trans hpw8
     have hqw9 := (bw9.block (w.heap.size + 2) (by omega)).trans hqw8
     have h8w9 := (bw9.block (w5.heap.size) (by omega)).trans h8w8
     have Bww9 := Bww8.trans (bw9.mono (by omega))
     have Lgw9 := hmk (V.lies_keep (R' := false) (S' := (fun y => w4.heap.size ≤ y ∧ y < w5.heap.size)) (fun h => h) (fun y hy => bw9.block y (by have := hy.2; omega)) (fun _ h => h) _ Lgw8.out)
     clear Lgw8
     clear bw9
     have CS := same_any nullV false false nullV (fun y => w4.heap.size ≤ y ∧ y < w5.heap.size) (fun _ => False) _ [.int .i64 0, .bool false, .int .i64 0, .string ⟨#[]⟩, .slice none 0 0, .slice none 0 0] w9 Lgw9.out (null_lies _ _) (fun y hy => by have := hy.2; omega) (fun _ h => h.elim)
     rw [V.eqB_refl] at CS
     have cg0 : w9.cell? ⟨w5.heap.size, 0, none⟩ = some (.int .i64 gk) := by rw [cell_of_block h8w9]; rfl
     have cg1 : w9.cell? ⟨w5.heap.size, 1, none⟩ = some (.bool gb) := by rw [cell_of_block h8w9]; rfl
     have cg2 : w9.cell? ⟨w5.heap.size, 2, none⟩ = some (.int .i64 gi) := by rw [cell_of_block h8w9]; rfl
     have cg3 : w9.cell? ⟨w5.heap.size, 3, none⟩ = some (.string gs) := by rw [cell_of_block h8w9]; rfl
     have cg4 : w9.cell? ⟨w5.heap.size, 4, none⟩ = some (.slice gal gnl gcl) := by rw [cell_of_block h8w9]; rfl
     have cg5 : w9.cell? ⟨w5.heap.size, 5, none⟩ = some (.slice gam gnm gcm) := by rw [cell_of_block h8w9]; rfl
     go_wp2_with fail
     clear cg0 cg1 cg2 cg3 cg4 cg5
     refine (CS).mono ?_
     rintro e_ w10 ⟨rfl, bw10⟩
     have hzw10 := bw10.size
     have hvw10 := (bw10.block (w.heap.size) (by omega)).trans hvw9
     have hpw10 := (bw10.block (w.heap.size + 1) (by omega)).trans hpw9
     have hqw10 := (bw10.block (w.heap.size + 2) (by omega)).trans hqw9
     have h8w10 := (bw10.block (w5.heap.size) (by omega)).trans h8w9
     have Bww10 := Bww9.trans (bw10.mono (by omega))
     have Lgw10 := hmk (V.lies_keep (R' := false) (S' := (fun y => w4.heap.size ≤ y ∧ y < w5.heap.size)) (fun h => h) (fun y hy => bw10.block y (by have := hy.2; omega)) (fun _ h => h) _ Lgw9.out)
     clear Lgw9
     clear bw10
     clear CS
     have cv0 : w10.cell? ⟨w.heap.size, 0, none⟩ = some (.int .i64 vk) := by rw [cell_of_block hvw10]; rfl
     have cv1 : w10.cell? ⟨w.heap.size, 1, none⟩ = some (.bool vb) := by rw [cell_of_block hvw10]; rfl
     have cv2 : w10.cell? ⟨w.heap.size, 2, none⟩ = some (.int .i64 vi) := by rw [cell_of_block hvw10]; rfl
     have cv3 : w10.cell? ⟨w.heap.size, 3, none⟩ = some (.string vs) := by rw [cell_of_block hvw10]; rfl
     have cv4 : w10.cell? ⟨w.heap.size, 4, none⟩ = some (.slice val vnl vcl) := by rw [cell_of_block hvw10]; rfl
     have cv5 : w10.cell? ⟨w.heap.size, 5, none⟩ = some (.slice vam vnm vcm) := by rw [cell_of_block hvw10]; rfl
     have cq0 : w10.cell? ⟨w.heap.size + 2, 0, none⟩ = some (.int .i64 qk) := by rw [cell_of_block hqw10]; rfl
     have cq1 : w10.cell? ⟨w.heap.size + 2, 1, none⟩ = some (.bool qb) := by rw [cell_of_block hqw10]; rfl
     have cq2 : w10.cell? ⟨w.heap.size + 2, 2, none⟩ = some (.int .i64 qi) := by rw [cell_of_block hqw10]; rfl
     have cq3 : w10.cell? ⟨w.heap.size + 2, 3, none⟩ = some (.string qs) := by rw [cell_of_block hqw10]; rfl
     have cq4 : w10.cell? ⟨w.heap.size + 2, 4, none⟩ = some (.slice qal qnl qcl) := by rw [cell_of_block hqw10]; rfl
     have cq5 : w10.cell? ⟨w.heap.size + 2, 5, none⟩ = some (.slice qam qnm qcm) := by rw [cell_of_block hqw10]; rfl
     go_wp2_with fail
     clear cv0 cv1 cv2 cv3 cv4 cv5 cq0 cq1 cq2 cq3 cq4 cq5
     refine (apply_any v q (Old w) _ _ w10 (HT.out _ Bww10) (HL.out _ Bww10) (HQ.out _ Bww10) (HO.out _ Bww10) (by omega) (by omega)).mono ?_
     rintro e_ w11 ⟨cc_, rfl, lc_, bw11⟩
     obtain ⟨ck, cb, ci, cs, cal, cnl, ccl, cam, cnm, ccm, rfl⟩ := V.ten lc_
     have hzw11 := bw11.size
     have hvw11 := (bw11.block (w.heap.size) (by omega)).trans hvw10
     have hpw11 := (bw11.block (w.heap.size + 1) (by omega)).trans hpw10
     have hqw11 := (bw11.block (w.heap.size + 2) (by omega)).trans hqw10
     have Bww11 := Bww10.trans (bw11.mono (by omega))
     have Lcw11 := hmk lc_
     clear lc_ bw11
     have bzw12 : Below w11.heap.size w11 (w11.alloc (.cells #[.int .i64 ck, .bool cb, .int .i64 ci, .string cs, .slice cal cnl ccl, .slice cam cnm ccm] 25)) := one_belowG _ _
     have hltw12 : w11.heap.size < (w11.alloc (.cells #[.int .i64 ck, .bool cb, .int .i64 ci, .string cs, .slice cal cnl ccl, .slice cam cnm ccm] 25)).heap.size := by rw [alloc_size]; omega
     have hvw12 := (bzw12.block (w.heap.size) (by omega)).trans hvw11
     have hpw12 := (bzw12.block (w.heap.size + 1) (by omega)).trans hpw11
     have hqw12 := (bzw12.block (w.heap.size + 2) (by omega)).trans hqw11
     have Bww12 := Bww11.trans (bzw12.mono (by omega))
     have h13w12 := heap_alloc_new w11 (.cells #[.int .i64 ck, .bool cb, .int .i64 ci, .string cs, .slice cal cnl ccl, .slice cam cnm ccm] 25)
     have Lcw12 := hmk (V.lies_keep (R' := false) (S' := (fun y => w10.heap.size ≤ y ∧ y < w11.heap.size)) (fun h => h) (fun y hy => bzw12.block y (by have := hy.2; omega)) (fun _ h => h) _ Lcw11.out)
     clear Lcw11
     go_wp2_with fail
     generalize (w11.alloc (.cells #[.int .i64 ck, .bool cb, .int .i64 ci, .string cs, .slice cal cnl ccl, .slice cam cnm ccm] 25)) = w12 at *
     refine (num_any (aplF v q).2 w12).mono ?_
     rintro e_ w13 ⟨rfl, bw13⟩
     have hzw13 := bw13.size
     have hvw13 := (bw13.block (w.heap.size) (by omega)).trans hvw12
     have hpw13 := (bw13.block (w.heap.size + 1) (by omega)).trans hpw12
     have hqw13 := (bw13.block (w.heap.size + 2) (by omega)).trans hqw12
     have h13w13 := (bw13.block (w11.heap.size) (by omega)).trans h13w12
     have Bww13 := Bww12.trans (bw13.mono (by omega))
     have Lcw13 := hmk (V.lies_keep (R' := false) (S' := (fun y => w10.heap.size ≤ y ∧ y < w11.heap.size)) (fun h => h) (fun y hy => bw13.block y (by have := hy.2; omega)) (fun _ h => h) _ Lcw12.out)
     clear Lcw12
     clear bw13
     by_cases hq0 : (aplF v q).2 = 0
     rotate_left
     ·have ynq : ((aplF v q).2 != 0) = true := by simp [hq0]
      clear Lcw13 k1 k2
      generalize (aplF v q).2 = er at *
      go_wp2_with fail
      go_ret
      exact ⟨rfl, Bww13⟩
     obtain ⟨kq, kc, hqa⟩ := apl_ok hq0
     obtain ⟨R, hR, cR, nR⟩ := fnd_val k1 kq kc
     have HDR := hmk (dff_some k1 kc hR cR)
     have okR := hmk (ok_chk (D := 32) (by omega) cR)
     have okQ := hmk (ok_chk (D := 32) (by omega) kq)
     have wR := okR.out.wt
     have wC := (ok_chk (D := 32) (by omega) kc).wt
     have HDD := hmk (dff_some k1 k1 (self_val k1) (by split; exact emp_chk; exact k1))
     have Lc0 := Lcw13.out
     rw [hqa] at Lc0
     simp only at Lc0
     rw [hqa]
     simp only
     clear Lcw13 hq0 hqa kq kc hR cR
     have Lcw13 := hmk Lc0
     clear Lc0
     generalize pchV v q = U at *
     have yR : ¬ (ndV q : Int) < (ndV R : Int) := by omega
     have yR0 : ¬ ndV q < ndV R := by omega
     have yR1 : decide ((ndV q : Int) < (ndV R : Int)) = false := decide_eq_false yR
     have yR2 : decide ((ndV R : Int) > (ndV q : Int)) = false := decide_eq_false yR
     have yR3 : decide (ndV q < ndV R) = false := decide_eq_false yR0
     obtain ⟨nr, hnr⟩ : ∃ n, ndV R = n := ⟨_, rfl⟩
     obtain ⟨nq, hnq⟩ : ∃ n, ndV q = n := ⟨_, rfl⟩
     rw [hnr, hnq] at yR yR0 yR1 yR2 yR3
     have HNR := hmk hnr
     have HNQ := hmk hnq
     clear hnr hnq nR
     have cv0 : w13.cell? ⟨w.heap.size, 0, none⟩ = some (.int .i64 vk) := by rw [cell_of_block hvw13]; rfl
     have cv1 : w13.cell? ⟨w.heap.size, 1, none⟩ = some (.bool vb) := by rw [cell_of_block hvw13]; rfl
     have cv2 : w13.cell? ⟨w.heap.size, 2, none⟩ = some (.int .i64 vi) := by rw [cell_of_block hvw13]; rfl
     have cv3 : w13.cell? ⟨w.heap.size, 3, none⟩ = some (.string vs) := by rw [cell_of_block hvw13]; rfl
     have cv4 : w13.cell? ⟨w.heap.size, 4, none⟩ = some (.slice val vnl vcl) := by rw [cell_of_block hvw13]; rfl
     have cv5 : w13.cell? ⟨w.heap.size, 5, none⟩ = some (.slice vam vnm vcm) := by rw [cell_of_block hvw13]; rfl
     have cc0 : w13.cell? ⟨w11.heap.size, 0, none⟩ = some (.int .i64 ck) := by rw [cell_of_block h13w13]; rfl
     have cc1 : w13.cell? ⟨w11.heap.size, 1, none⟩ = some (.bool cb) := by rw [cell_of_block h13w13]; rfl
     have cc2 : w13.cell? ⟨w11.heap.size, 2, none⟩ = some (.int .i64 ci) := by rw [cell_of_block h13w13]; rfl
     have cc3 : w13.cell? ⟨w11.heap.size, 3, none⟩ = some (.string cs) := by rw [cell_of_block h13w13]; rfl
     have cc4 : w13.cell? ⟨w11.heap.size, 4, none⟩ = some (.slice cal cnl ccl) := by rw [cell_of_block h13w13]; rfl
     have cc5 : w13.cell? ⟨w11.heap.size, 5, none⟩ = some (.slice cam cnm ccm) := by rw [cell_of_block h13w13]; rfl
     go_wp2_with fail
     clear cv0 cv1 cv2 cv3 cv4 cv5 cc0 cc1 cc2 cc3 cc4 cc5
     have CD := diff_any low v U (fun y => Old w y ∨ (w10.heap.size ≤ y ∧ y < w11.heap.size)) _ _ w13 (HT.out _ Bww13) (HE.out _ Bww13) (V.lies_keep (S' := (fun y => Old w y ∨ (w10.heap.size ≤ y ∧ y < w11.heap.size))) (fun h => h) (fun _ _ => rfl) (fun y hy => .inl hy) _ (HL.out _ Bww13)) (V.lies_keep (S' := (fun y => Old w y ∨ (w10.heap.size ≤ y ∧ y < w11.heap.size))) (fun h => h) (fun _ _ => rfl) (fun y hy => .inr hy) _ Lcw13.out) (fun y hy => by rcases hy with hy | hy <;> first | exact HO.out _ Bww13 y hy | (have := hy.2; omega)) (by omega) (by omega)
     rw [HDR.out] at CD
     refine (CD).mono ?_
     rintro e_ w14 ⟨cr_, rfl, lr_, bw14⟩
     obtain ⟨rk, rb, ri, rs, ral, rnl, rcl, ram, rnm, rcm, rfl⟩ := V.ten lr_
     have hzw14 := bw14.size
     have hvw14 := (bw14.block (w.heap.size) (by omega)).trans hvw13
     have hpw14 := (bw14.block (w.heap.size + 1) (by omega)).trans hpw13
     have hqw14 := (bw14.block (w.heap.size + 2) (by omega)).trans hqw13
     have h13w14 := (bw14.block (w11.heap.size) (by omega)).trans h13w13
     have Bww14 := Bww13.trans (bw14.mono (by omega))
     have Lcw14 := hmk (V.lies_keep (R' := false) (S' := (fun y => w10.heap.size ≤ y ∧ y < w11.heap.size)) (fun h => h) (fun y hy => bw14.block y (by have := hy.2; omega)) (fun _ h => h) _ Lcw13.out)
     clear Lcw13
     have Lrw14 := hmk lr_
     clear lr_ bw14
     clear CD HDR
     have bzw15 : Below w14.heap.size w14 (w14.alloc (.cells #[.int .i64 rk, .bool rb, .int .i64 ri, .string rs, .slice ral rnl rcl, .slice ram rnm rcm] 25)) := one_belowG _ _
     have hltw15 : w14.heap.size < (w14.alloc (.cells #[.int .i64 rk, .bool rb, .int .i64 ri, .string rs, .slice ral rnl rcl, .slice ram rnm rcm] 25)).heap.size := by rw [alloc_size]; omega
     have hvw15 := (bzw15.block (w.heap.size) (by omega)).trans hvw14
     have hpw15 := (bzw15.block (w.heap.size + 1) (by omega)).trans hpw14
     have hqw15 := (bzw15.block (w.heap.size + 2) (by omega)).trans hqw14
     have Bww15 := Bww14.trans (bzw15.mono (by omega))
     have h15w15 := heap_alloc_new w14 (.cells #[.int .i64 rk, .bool rb, .int .i64 ri, .string rs, .slice ral rnl rcl, .slice ram rnm rcm] 25)
     have Lrw15 := hmk (V.lies_keep (R' := false) (S' := (fun y => w13.heap.size ≤ y ∧ y < w14.heap.size)) (fun h => h) (fun y hy => bzw15.block y (by have := hy.2; omega)) (fun _ h => h) _ Lrw14.out)
     clear Lrw14
     have cv0 : (w14.alloc (.cells #[.int .i64 rk, .bool rb, .int .i64 ri, .string rs, .slice ral rnl rcl, .slice ram rnm rcm] 25)).cell? ⟨w.heap.size, 0, none⟩ = some (.int .i64 vk) := by rw [cell_of_block hvw15]; rfl
     have cv1 : (w14.alloc (.cells #[.int .i64 rk, .bool rb, .int .i64 ri, .string rs, .slice ral rnl rcl, .slice ram rnm rcm] 25)).cell? ⟨w.heap.size, 1, none⟩ = some (.bool vb) := by rw [cell_of_block hvw15]; rfl
     have cv2 : (w14.alloc (.cells #[.int .i64 rk, .bool rb, .int .i64 ri, .string rs, .slice ral rnl rcl, .slice ram rnm rcm] 25)).cell? ⟨w.heap.size, 2, none⟩ = some (.int .i64 vi) := by rw [cell_of_block hvw15]; rfl
     have cv3 : (w14.alloc (.cells #[.int .i64 rk, .bool rb, .int .i64 ri, .string rs, .slice ral rnl rcl, .slice ram rnm rcm] 25)).cell? ⟨w.heap.size, 3, none⟩ = some (.string vs) := by rw [cell_of_block hvw15]; rfl
     have cv4 : (w14.alloc (.cells #[.int .i64 rk, .bool rb, .int .i64 ri, .string rs, .slice ral rnl rcl, .slice ram rnm rcm] 25)).cell? ⟨w.heap.size, 4, none⟩ = some (.slice val vnl vcl) := by rw [cell_of_block hvw15]; rfl
     have cv5 : (w14.alloc (.cells #[.int .i64 rk, .bool rb, .int .i64 ri, .string rs, .slice ral rnl rcl, .slice ram rnm rcm] 25)).cell? ⟨w.heap.size, 5, none⟩ = some (.slice vam vnm vcm) := by rw [cell_of_block hvw15]; rfl
     go_wp2_with fail
     clear cv0 cv1 cv2 cv3 cv4 cv5
     generalize (w14.alloc (.cells #[.int .i64 rk, .bool rb, .int .i64 ri, .string rs, .slice ral rnl rcl, .slice ram rnm rcm] 25)) = w15 at *
     have CD := diff_any low v v (Old w) _ _ w15 (HT.out _ Bww15) (HE.out _ Bww15) (HL.out _ Bww15) (HL.out _ Bww15) (HO.out _ Bww15) (by omega) (by omega)
     rw [HDD.out] at CD
     refine (CD).mono ?_
     rintro e_ w16 ⟨cd_, rfl, ld_, bw16⟩
     obtain ⟨dk, db, di, ds, dal, dnl, dcl, dam, dnm, dcm, rfl⟩ := V.ten ld_
     have hzw16 := bw16.size
     have hvw16 := (bw16.block (w.heap.size) (by omega)).trans hvw15
     have hpw16 := (bw16.block (w.heap.size + 1) (by omega)).trans hpw15
     have hqw16 := (bw16.block (w.heap.size + 2) (by omega)).trans hqw15
     have h15w16 := (bw16.block (w14.heap.size) (by omega)).trans h15w15
     have Bww16 := Bww15.trans (bw16.mono (by omega))
     have Lrw16 := hmk (V.lies_keep (R' := false) (S' := (fun y => w13.heap.size ≤ y ∧ y < w14.heap.size)) (fun h => h) (fun y hy => bw16.block y (by have := hy.2; omega)) (fun _ h => h) _ Lrw15.out)
     clear Lrw15
     have Ldw16 := hmk ld_
     clear ld_ bw16
     clear CD HDD
     have bzw17 : Below w16.heap.size w16 (w16.alloc (.cells #[.int .i64 dk, .bool db, .int .i64 di, .string ds, .slice dal dnl dcl, .slice dam dnm dcm] 25)) := one_belowG _ _
     have hltw17 : w16.heap.size < (w16.alloc (.cells #[.int .i64 dk, .bool db, .int .i64 di, .string ds, .slice dal dnl dcl, .slice dam dnm dcm] 25)).heap.size := by rw [alloc_size]; omega
     have hvw17 := (bzw17.block (w.heap.size) (by omega)).trans hvw16
     have hpw17 := (bzw17.block (w.heap.size + 1) (by omega)).trans hpw16
     have hqw17 := (bzw17.block (w.heap.size + 2) (by omega)).trans hqw16
     have h15w17 := (bzw17.block (w14.heap.size) (by omega)).trans h15w16
     have Bww17 := Bww16.trans (bzw17.mono (by omega))
     have h18w17 := heap_alloc_new w16 (.cells #[.int .i64 dk, .bool db, .int .i64 di, .string ds, .slice dal dnl dcl, .slice dam dnm dcm] 25)
     have Lrw17 := hmk (V.lies_keep (R' := false) (S' := (fun y => w13.heap.size ≤ y ∧ y < w14.heap.size)) (fun h => h) (fun y hy => bzw17.block y (by have := hy.2; omega)) (fun _ h => h) _ Lrw16.out)
     have Ldw17 := hmk (V.lies_keep (R' := false) (S' := (fun y => w15.heap.size ≤ y ∧ y < w16.heap.size)) (fun h => h) (fun y hy => bzw17.block y (by have := hy.2; omega)) (fun _ h => h) _ Ldw16.out)
     clear Lrw16 Ldw16
     go_wp2_with fail
     generalize (w16.alloc (.cells #[.int .i64 dk, .bool db, .int .i64 di, .string ds, .slice dal dnl dcl, .slice dam dnm dcm] 25)) = w17 at *
     have cr0 : w17.cell? ⟨w14.heap.size, 0, none⟩ = some (.int .i64 rk) := by rw [cell_of_block h15w17]; rfl
     have cr1 : w17.cell? ⟨w14.heap.size, 1, none⟩ = some (.bool rb) := by rw [cell_of_block h15w17]; rfl
     have cr2 : w17.cell? ⟨w14.heap.size, 2, none⟩ = some (.int .i64 ri) := by rw [cell_of_block h15w17]; rfl
     have cr3 : w17.cell? ⟨w14.heap.size, 3, none⟩ = some (.string rs) := by rw [cell_of_block h15w17]; rfl
     have cr4 : w17.cell? ⟨w14.heap.size, 4, none⟩ = some (.slice ral rnl rcl) := by rw [cell_of_block h15w17]; rfl
     have cr5 : w17.cell? ⟨w14.heap.size, 5, none⟩ = some (.slice ram rnm rcm) := by rw [cell_of_block h15w17]; rfl
     have cq0 : w17.cell? ⟨w.heap.size + 2, 0, none⟩ = some (.int .i64 qk) := by rw [cell_of_block hqw17]; rfl
     have cq1 : w17.cell? ⟨w.heap.size + 2, 1, none⟩ = some (.bool qb) := by rw [cell_of_block hqw17]; rfl
     have cq2 : w17.cell? ⟨w.heap.size + 2, 2, none⟩ = some (.int .i64 qi) := by rw [cell_of_block hqw17]; rfl
     have cq3 : w17.cell? ⟨w.heap.size + 2, 3, none⟩ = some (.string qs) := by rw [cell_of_block hqw17]; rfl
     have cq4 : w17.cell? ⟨w.heap.size + 2, 4, none⟩ = some (.slice qal qnl qcl) := by rw [cell_of_block hqw17]; rfl
     have cq5 : w17.cell? ⟨w.heap.size + 2, 5, none⟩ = some (.slice qam qnm qcm) := by rw [cell_of_block hqw17]; rfl
     have xr0 : ∀ x : Sub w17.heap.size w17, _ := sub_cell cr0 (by omega)
     have xq0 : ∀ x : Sub w17.heap.size w17, _ := sub_cell cq0 (by omega)
     have xr1 : ∀ x : Sub w17.heap.size w17, _ := sub_cell cr1 (by omega)
     have xq1 : ∀ x : Sub w17.heap.size w17, _ := sub_cell cq1 (by omega)
     have xr2 : ∀ x : Sub w17.heap.size w17, _ := sub_cell cr2 (by omega)
     have xq2 : ∀ x : Sub w17.heap.size w17, _ := sub_cell cq2 (by omega)
     have xr3 : ∀ x : Sub w17.heap.size w17, _ := sub_cell cr3 (by omega)
     have xq3 : ∀ x : Sub w17.heap.size w17, _ := sub_cell cq3 (by omega)
     have xr4 : ∀ x : Sub w17.heap.size w17, _ := sub_cell cr4 (by omega)
     have xq4 : ∀ x : Sub w17.heap.size w17, _ := sub_cell cq4 (by omega)
     have xr5 : ∀ x : Sub w17.heap.size w17, _ := sub_cell cr5 (by omega)
     have xq5 : ∀ x : Sub w17.heap.size w17, _ := sub_cell cq5 (by omega)
     have CN : Hid (∀ (n : Int) (x : Sub w17.heap.size w17), Calls Tryd.prog 22 #[.int .i64 n] x.w fun e w'' => e = .returned (.int .i64 n) ∧ ∃ y : Sub w17.heap.size w17, w'' = y.w) := fun n => sub_call fun w' hb => (num_any n w').mono fun e w'' ⟨he, h2⟩ => ⟨he, hb.trans (h2.mono hb.size)⟩
     have CR : Hid (∀ x : Sub w17.heap.size w17, Calls Tryd.prog 23 #[.agg #[.int .i64 rk, .bool rb, .int .i64 ri, .string rs, .slice ral rnl rcl, .slice ram rnm rcm]] x.w fun e w'' => e = .returned (.int .i64 (nr : Int)) ∧ ∃ y : Sub w17.heap.size w17, w'' = y.w) := by show ∀ _, _; rw [← HNR.out]; exact sub_call fun w' hb => (nodes_ok false R okR.out (fun y => w13.heap.size ≤ y ∧ y < w14.heap.size) _ w' (HT.out w' (Bww17.trans (hb.mono (by omega)))) (V.lies_keep (fun h => h) (fun x hx => hb.block x (by have := hx.2; omega)) (fun _ h => h) _ Lrw17.out) (fun y hy => by have := hy.2; have := hb.size; omega) (by omega)).mono fun e w'' ⟨he, h2⟩ => ⟨he, hb.trans (h2.mono hb.size)⟩
     have CQ : Hid (∀ x : Sub w17.heap.size w17, Calls Tryd.prog 23 #[.agg #[.int .i64 qk, .bool qb, .int .i64 qi, .string qs, .slice qal qnl qcl, .slice qam qnm qcm]] x.w fun e w'' => e = .returned (.int .i64 (nq : Int)) ∧ ∃ y : Sub w17.heap.size w17, w'' = y.w) := by show ∀ _, _; rw [← HNQ.out]; exact sub_call fun w' hb => (nodes_ok false q okQ.out (Old w) _ w' (HT.out w' (Bww17.trans (hb.mono (by omega)))) (HQ.out w' (Bww17.trans (hb.mono (by omega)))) (HO.out w' (Bww17.trans (hb.mono (by omega)))) (by omega)).mono fun e w'' ⟨he, h2⟩ => ⟨he, hb.trans (h2.mono hb.size)⟩
     refine wp_region_sub w17.heap.size (by kernel_rfl) (by kernel_rfl) ?_
     repeat (go_big_quiet_step (first | exact CN.out _ _ | exact CR.out _ | exact CQ.out _))
     refine wpQuiet_nil ?_
     rintro w18 ⟨⟨wq_, bw18⟩, hq0_⟩
     have hq1_ : w18 = wq_ := hq0_
     subst hq1_
     clear hq0_
     clear cr0 cr1 cr2 cr3 cr4 cr5 cq0 cq1 cq2 cq3 cq4 cq5 xr0 xr1 xr2 xr3 xr4 xr5 xq0 xq1 xq2 xq3 xq4 xq5 CN CR CQ okR okQ HNR HNQ yR yR0 yR1 yR2 yR3
     have hzw18 := bw18.size
     have hvw18 := (bw18.block (w.heap.size) (by omega)).trans hvw17
     have hpw18 := (bw18.block (w.heap.size + 1) (by omega)).trans hpw17
     have hqw18 := (bw18.block (w.heap.size + 2) (by omega)).trans hqw17
     have h18w18 := (bw18.block (w16.heap.size) (by omega)).trans h18w17
     have Bww18 := Bww17.trans (bw18.mono (by omega))
     have Ldw18 := hmk (V.lies_keep (R' := false) (S' := (fun y => w15.heap.size ≤ y ∧ y < w16.heap.size)) (fun h => h) (fun y hy => bw18.block y (by have := hy.2; omega)) (fun _ h => h) _ Ldw17.out)
     clear Ldw17
     clear bw18
     by_cases h5 : vk = 5
     ·subst h5
      have Ld0 := Ldw18.out
      rw [if_pos HKV.out] at Ld0
      have CS := same_any (mapV []) false false (mapV []) (fun y => w15.heap.size ≤ y ∧ y < w16.heap.size) (fun _ => False) _ [.int .i64 5, .bool false, .int .i64 0, .string ⟨#[]⟩, .slice none 0 0, .slice none 0 0] w18 Ld0 (emp_lies _ _) (fun y hy => by have := hy.2; omega) (fun _ h => h.elim)
      rw [V.eqB_refl] at CS
      have cv0 : w18.cell? ⟨w.heap.size, 0, none⟩ = some (.int .i64 5) := by rw [cell_of_block hvw18]; rfl
      have cv1 : w18.cell? ⟨w.heap.size, 1, none⟩ = some (.bool vb) := by rw [cell_of_block hvw18]; rfl
      have cv2 : w18.cell? ⟨w.heap.size, 2, none⟩ = some (.int .i64 vi) := by rw [cell_of_block hvw18]; rfl
      have cv3 : w18.cell? ⟨w.heap.size, 3, none⟩ = some (.string vs) := by rw [cell_of_block hvw18]; rfl
      have cv4 : w18.cell? ⟨w.heap.size, 4, none⟩ = some (.slice val vnl vcl) := by rw [cell_of_block hvw18]; rfl
      have cv5 : w18.cell? ⟨w.heap.size, 5, none⟩ = some (.slice vam vnm vcm) := by rw [cell_of_block hvw18]; rfl
      have cd0 : w18.cell? ⟨w16.heap.size, 0, none⟩ = some (.int .i64 dk) := by rw [cell_of_block h18w18]; rfl
      have cd1 : w18.cell? ⟨w16.heap.size, 1, none⟩ = some (.bool db) := by rw [cell_of_block h18w18]; rfl
      have cd2 : w18.cell? ⟨w16.heap.size, 2, none⟩ = some (.int .i64 di) := by rw [cell_of_block h18w18]; rfl
      have cd3 : w18.cell? ⟨w16.heap.size, 3, none⟩ = some (.string ds) := by rw [cell_of_block h18w18]; rfl
      have cd4 : w18.cell? ⟨w16.heap.size, 4, none⟩ = some (.slice dal dnl dcl) := by rw [cell_of_block h18w18]; rfl
      have cd5 : w18.cell? ⟨w16.heap.size, 5, none⟩ = some (.slice dam dnm dcm) := by rw [cell_of_block h18w18]; rfl
      go_wp2_with fail
      clear cv0 cv1 cv2 cv3 cv4 cv5 cd0 cd1 cd2 cd3 cd4 cd5
      refine (CS).mono ?_
      rintro e_ w19 ⟨rfl, bw19⟩
      have hzw19 := bw19.size
      have hvw19 := (bw19.block (w.heap.size) (by omega)).trans hvw18
      have hpw19 := (bw19.block (w.heap.size + 1) (by omega)).trans hpw18
      have hqw19 := (bw19.block (w.heap.size + 2) (by omega)).trans hqw18
      have h18w19 := (bw19.block (w16.heap.size) (by omega)).trans h18w18
      have Bww19 := Bww18.trans (bw19.mono (by omega))
      have Ldw19 := hmk (V.lies_keep (R' := false) (S' := (fun y => w15.heap.size ≤ y ∧ y < w16.heap.size)) (fun h => h) (fun y hy => bw19.block y (by have := hy.2; omega)) (fun _ h => h) _ Ldw18.out)
      clear Ldw18
      clear bw19
      go_wp2_with fail
      go_ret
      exact ⟨rfl, Bww19⟩
     ·have Ld0 := Ldw18.out
      rw [if_neg (by rw [HKV.out]; exact h5)] at Ld0
      have yk5 : (vk == 5) = false := beq_eq_false_iff_ne.2 h5
      have CS := same_any v false false v (fun y => w15.heap.size ≤ y ∧ y < w16.heap.size) (Old w) _ _ w18 Ld0 (HL.out _ Bww18) (fun y hy => by have := hy.2; omega) (HO.out _ Bww18)
      rw [V.eqB_refl] at CS
      have cv0 : w18.cell? ⟨w.heap.size, 0, none⟩ = some (.int .i64 vk) := by rw [cell_of_block hvw18]; rfl
      have cv1 : w18.cell? ⟨w.heap.size, 1, none⟩ = some (.bool vb) := by rw [cell_of_block hvw18]; rfl
      have cv2 : w18.cell? ⟨w.heap.size, 2, none⟩ = some (.int .i64 vi) := by rw [cell_of_block hvw18]; rfl
      have cv3 : w18.cell? ⟨w.heap.size, 3, none⟩ = some (.string vs) := by rw [cell_of_block hvw18]; rfl
      have cv4 : w18.cell? ⟨w.heap.size, 4, none⟩ = some (.slice val vnl vcl) := by rw [cell_of_block hvw18]; rfl
      have cv5 : w18.cell? ⟨w.heap.size, 5, none⟩ = some (.slice vam vnm vcm) := by rw [cell_of_block hvw18]; rfl
      have cd0 : w18.cell? ⟨w16.heap.size, 0, none⟩ = some (.int .i64 dk) := by rw [cell_of_block h18w18]; rfl
      have cd1 : w18.cell? ⟨w16.heap.size, 1, none⟩ = some (.bool db) := by rw [cell_of_block h18w18]; rfl
      have cd2 : w18.cell? ⟨w16.heap.size, 2, none⟩ = some (.int .i64 di) := by rw [cell_of_block h18w18]; rfl
      have cd3 : w18.cell? ⟨w16.heap.size, 3, none⟩ = some (.string ds) := by rw [cell_of_block h18w18]; rfl
      have cd4 : w18.cell? ⟨w16.heap.size, 4, none⟩ = some (.slice dal dnl dcl) := by rw [cell_of_block h18w18]; rfl
      have cd5 : w18.cell? ⟨w16.heap.size, 5, none⟩ = some (.slice dam dnm dcm) := by rw [cell_of_block h18w18]; rfl
      go_wp2_with fail
      clear cv0 cv1 cv2 cv3 cv4 cv5 cd0 cd1 cd2 cd3 cd4 cd5
      refine (CS).mono ?_
      rintro e_ w19 ⟨rfl, bw19⟩
      have hzw19 := bw19.size
      have hvw19 := (bw19.block (w.heap.size) (by omega)).trans hvw18
      have hpw19 := (bw19.block (w.heap.size + 1) (by omega)).trans hpw18
      have hqw19 := (bw19.block (w.heap.size + 2) (by omega)).trans hqw18
      have h18w19 := (bw19.block (w16.heap.size) (by omega)).trans h18w18
      have Bww19 := Bww18.trans (bw19.mono (by omega))
      have Ldw19 := hmk (V.lies_keep (R' := false) (S' := (fun y => w15.heap.size ≤ y ∧ y < w16.heap.size)) (fun h => h) (fun y hy => bw19.block y (by have := hy.2; omega)) (fun _ h => h) _ Ldw18.out)
      clear Ldw18
      clear bw19
      go_wp2_with fail
      go_ret
      exact ⟨rfl, Bww19⟩
    ·have Lg0 := Lgw8.out
     rw [hd] at Lg0
     simp only at Lg0
     rw [hd]
     simp only
     clear Lgw8
     have Lgw8 := hmk Lg0
     clear Lg0
     clear hd
     go_wp2_with fail
     refine (num_any 22 w8).mono ?_
     rintro e_ w9 ⟨rfl, bw9⟩
     have hzw9 := bw9.size
     have hvw9 := (bw9.block (w.heap.size) (by omega)).trans hvw8
     have hpw9 := (bw9.block (w.heap.size + 1) (by omega)).trans hpw8
     have hqw9 := (bw9.block (w.heap.size + 2) (by omega)).trans hqw8
     have h8w9 := (bw9.block (w5.heap.size) (by omega)).trans h8w8
     have Bww9 := Bww8.trans (bw9.mono (by omega))
     have Lgw9 := hmk (V.lies_keep (R' := false) (S' := (fun y => w4.heap.size ≤ y ∧ y < w5.heap.size)) (fun h => h) (fun y hy => bw9.block y (by have := hy.2; omega)) (fun _ h => h) _ Lgw8.out)
     clear Lgw8
     clear bw9
     go_wp2_with fail
     refine (num_any 22 w9).mono ?_
     rintro e_ w10 ⟨rfl, bw10⟩
     have hzw10 := bw10.size
     have hvw10 := (bw10.block (w.heap.size) (by omega)).trans hvw9
     have hpw10 := (bw10.block (w.heap.size + 1) (by omega)).trans hpw9
     have hqw10 := (bw10.block (w.heap.size + 2) (by omega)).trans hqw9
     have h8w10 := (bw10.block (w5.heap.size) (by omega)).trans h8w9
     have Bww10 := Bww9.trans (bw10.mono (by omega))
     have Lgw10 := hmk (V.lies_keep (R' := false) (S' := (fun y => w4.heap.size ≤ y ∧ y < w5.heap.size)) (fun h => h) (fun y hy => bw10.block y (by have := hy.2; omega)) (fun _ h => h) _ Lgw9.out)
     clear Lgw9
     clear bw10
     have CS := same_any nullV false false nullV (fun y => w4.heap.size ≤ y ∧ y < w5.heap.size) (fun _ => False) _ [.int .i64 0, .bool false, .int .i64 0, .string ⟨#[]⟩, .slice none 0 0, .slice none 0 0] w10 Lgw10.out (null_lies _ _) (fun y hy => by have := hy.2; omega) (fun _ h => h.elim)
     rw [V.eqB_refl] at CS
     have cg0 : w10.cell? ⟨w5.heap.size, 0, none⟩ = some (.int .i64 gk) := by rw [cell_of_block h8w10]; rfl
     have cg1 : w10.cell? ⟨w5.heap.size, 1, none⟩ = some (.bool gb) := by rw [cell_of_block h8w10]; rfl
     have cg2 : w10.cell? ⟨w5.heap.size, 2, none⟩ = some (.int .i64 gi) := by rw [cell_of_block h8w10]; rfl
     have cg3 : w10.cell? ⟨w5.heap.size, 3, none⟩ = some (.string gs) := by rw [cell_of_block h8w10]; rfl
     have cg4 : w10.cell? ⟨w5.heap.size, 4, none⟩ = some (.slice gal gnl gcl) := by rw [cell_of_block h8w10]; rfl
     have cg5 : w10.cell? ⟨w5.heap.size, 5, none⟩ = some (.slice gam gnm gcm) := by rw [cell_of_block h8w10]; rfl
     go_wp2_with fail
     clear cg0 cg1 cg2 cg3 cg4 cg5
     refine (CS).mono ?_
     rintro e_ w11 ⟨rfl, bw11⟩
     have hzw11 := bw11.size
     have hvw11 := (bw11.block (w.heap.size) (by omega)).trans hvw10
     have hpw11 := (bw11.block (w.heap.size + 1) (by omega)).trans hpw10
     have hqw11 := (bw11.block (w.heap.size + 2) (by omega)).trans hqw10
     have h8w11 := (bw11.block (w5.heap.size) (by omega)).trans h8w10
     have Bww11 := Bww10.trans (bw11.mono (by omega))
     have Lgw11 := hmk (V.lies_keep (R' := false) (S' := (fun y => w4.heap.size ≤ y ∧ y < w5.heap.size)) (fun h => h) (fun y hy => bw11.block y (by have := hy.2; omega)) (fun _ h => h) _ Lgw10.out)
     clear Lgw10
     clear bw11
     clear CS
     go_wp2_with fail
     go_ret
     exact ⟨rfl, Bww11⟩
    ·have Lg0 := Lgw8.out
     rw [hd] at Lg0
     simp only at Lg0
     rw [hd]
     simp only
     clear Lgw8
     have Lgw8 := hmk Lg0
     clear Lg0
     clear hd
     go_wp2_with fail
     refine (num_any 23 w8).mono ?_
     rintro e_ w9 ⟨rfl, bw9⟩
     have hzw9 := bw9.size
     have hvw9 := (bw9.block (w.heap.size) (by omega)).trans hvw8
     have hpw9 := (bw9.block (w.heap.size + 1) (by omega)).trans hpw8
     have hqw9 := (bw9.block (w.heap.size + 2) (by omega)).trans hqw8
     have h8w9 := (bw9.block (w5.heap.size) (by omega)).trans h8w8
     have Bww9 := Bww8.trans (bw9.mono (by omega))
     have Lgw9 := hmk (V.lies_keep (R' := false) (S' := (fun y => w4.heap.size ≤ y ∧ y < w5.heap.size)) (fun h => h) (fun y hy => bw9.block y (by have := hy.2; omega)) (fun _ h => h) _ Lgw8.out)
     clear Lgw8
     clear bw9
     go_wp2_with fail
     refine (num_any 23 w9).mono ?_
     rintro e_ w10 ⟨rfl, bw10⟩
     have hzw10 := bw10.size
     have hvw10 := (bw10.block (w.heap.size) (by omega)).trans hvw9
     have hpw10 := (bw10.block (w.heap.size + 1) (by omega)).trans hpw9
     have hqw10 := (bw10.block (w.heap.size + 2) (by omega)).trans hqw9
     have h8w10 := (bw10.block (w5.heap.size) (by omega)).trans h8w9
     have Bww10 := Bww9.trans (bw10.mono (by omega))
     have Lgw10 := hmk (V.lies_keep (R' := false) (S' := (fun y => w4.heap.size ≤ y ∧ y < w5.heap.size)) (fun h => h) (fun y hy => bw10.block y (by have := hy.2; omega)) (fun _ h => h) _ Lgw9.out)
     clear Lgw9
     clear bw10
     go_wp2_with fail
     refine (num_any 23 w10).mono ?_
     rintro e_ w11 ⟨rfl, bw11⟩
     have hzw11 := bw11.size
     have hvw11 := (bw11.block (w.heap.size) (by omega)).trans hvw10
     have hpw11 := (bw11.block (w.heap.size + 1) (by omega)).trans hpw10
     have hqw11 := (bw11.block (w.heap.size + 2) (by omega)).trans hqw10
     have h8w11 := (bw11.block (w5.heap.size) (by omega)).trans h8w10
     have Bww11 := Bww10.trans (bw11.mono (by omega))
     have Lgw11 := hmk (V.lies_keep (R' := false) (S' := (fun y => w4.heap.size ≤ y ∧ y < w5.heap.size)) (fun h => h) (fun y hy => bw11.block y (by have := hy.2; omega)) (fun _ h => h) _ Lgw10.out)
     clear Lgw10
     clear bw11
     have CS := same_any nullV false false nullV (fun y => w4.heap.size ≤ y ∧ y < w5.heap.size) (fun _ => False) _ [.int .i64 0, .bool false, .int .i64 0, .string ⟨#[]⟩, .slice none 0 0, .slice none 0 0] w11 Lgw11.out (null_lies _ _) (fun y hy => by have := hy.2; omega) (fun _ h => h.elim)
     rw [V.eqB_refl] at CS
     have cg0 : w11.cell? ⟨w5.heap.size, 0, none⟩ = some (.int .i64 gk) := by rw [cell_of_block h8w11]; rfl
     have cg1 : w11.cell? ⟨w5.heap.size, 1, none⟩ = some (.bool gb) := by rw [cell_of_block h8w11]; rfl
     have cg2 : w11.cell? ⟨w5.heap.size, 2, none⟩ = some (.int .i64 gi) := by rw [cell_of_block h8w11]; rfl
     have cg3 : w11.cell? ⟨w5.heap.size, 3, none⟩ = some (.string gs) := by rw [cell_of_block h8w11]; rfl
     have cg4 : w11.cell? ⟨w5.heap.size, 4, none⟩ = some (.slice gal gnl gcl) := by rw [cell_of_block h8w11]; rfl
     have cg5 : w11.cell? ⟨w5.heap.size, 5, none⟩ = some (.slice gam gnm gcm) := by rw [cell_of_block h8w11]; rfl
     go_wp2_with fail
     clear cg0 cg1 cg2 cg3 cg4 cg5
     refine (CS).mono ?_
     rintro e_ w12 ⟨rfl, bw12⟩
     have hzw12 := bw12.size
     have hvw12 := (bw12.block (w.heap.size) (by omega)).trans hvw11
     have hpw12 := (bw12.block (w.heap.size + 1) (by omega)).trans hpw11
     have hqw12 := (bw12.block (w.heap.size + 2) (by omega)).trans hqw11
     have h8w12 := (bw12.block (w5.heap.size) (by omega)).trans h8w11
     have Bww12 := Bww11.trans (bw12.mono (by omega))
     have Lgw12 := hmk (V.lies_keep (R' := false) (S' := (fun y => w4.heap.size ≤ y ∧ y < w5.heap.size)) (fun h => h) (fun y hy => bw12.block y (by have := hy.2; omega)) (fun _ h => h) _ Lgw11.out)
     clear Lgw11
     clear bw12
     clear CS
     go_wp2_with fail
     go_ret
     exact ⟨rfl, Bww12⟩
end Go.Proofs.YtjfldbmopjojdaaDoor
