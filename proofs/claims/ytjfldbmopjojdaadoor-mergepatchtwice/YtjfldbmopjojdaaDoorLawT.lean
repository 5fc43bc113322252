import Derived.Test.YtjfldbmopjojdaaDoorAwkX
/- MergepatchTwice: the law's own walk. -/
set_option linter.unusedSimpArgs false
set_option linter.unusedVariables false
namespace Go.Proofs.YtjfldbmopjojdaaDoor
open Go.RowKit Go.Lib
theorem get_wt {v : V} (h : chkE v 32 = 0) (key : ByteArray) : (getV v key).1.wt ≤ 2147483648 := by
  rw [get_lk h]
  have h1 := lk_chk h key
  have h2 := (ok_chk (D := 32) (by omega) h1).wt
  cases hl : lk (memsOf v) key with
  | none => rw [hl] at h2; show nullV.wt ≤ _; exact Nat.le_trans h2 (by omega)
  | some x => rw [hl] at h2; show x.wt ≤ _; exact Nat.le_trans h2 (by omega)
set_option maxHeartbeats 8000000 in
set_option maxRecDepth 100000 in
theorem twice_walk (v p : V) (key : ByteArray) (cs ds : List Value) (w : World) (hT : Tb w) (hv : v.lies false w (Old w) cs) (hx : p.lies false w (Old w) ds) (hk : key.size ≤ 140737488355328) : Calls Tryd.prog 7 #[.agg cs.toArray, .agg ds.toArray, .string key] w (BPost true w) := by
  obtain ⟨vk, vb, vi, vs, val, vnl, vcl, vam, vnm, vcm, rfl⟩ := V.ten hv
  obtain ⟨pk, pb, pi, ps, pal, pnl, pcl, pam, pnm, pcm, rfl⟩ := V.ten hx
  have hkp : kindOf p = pk := kind_lies hx
  have HL : Hid (∀ W, Below w.heap.size w W → v.lies false W (Old w) [.int .i64 vk, .bool vb, .int .i64 vi, .string vs, .slice val vnl vcl, .slice vam vnm vcm]) := fun W hB => V.lies_keep (fun h => h) (fun x hx => hB.block x hx) (fun x hx => hx) _ hv
  have HP : Hid (∀ W, Below w.heap.size w W → p.lies false W (Old w) [.int .i64 pk, .bool pb, .int .i64 pi, .string ps, .slice pal pnl pcl, .slice pam pnm pcm]) := fun W hB => V.lies_keep (fun h => h) (fun x hx => hB.block x hx) (fun x hx => hx) _ hx
  have HO : Hid (∀ W, Below w.heap.size w W → ∀ b, Old w b → b < W.heap.size) := fun W hB b hb => Nat.lt_of_lt_of_le hb hB.size
  have HT : Hid (∀ W, Below w.heap.size w W → Tb W) := fun W hb => hT.below hb hT.z
  have HKP := hmk hkp
  have Bww0 : Below w.heap.size w ((w.alloc (.cells #[.int .i64 vk, .bool vb, .int .i64 vi, .string vs, .slice val vnl vcl, .slice vam vnm vcm] 25)).alloc (.cells #[.int .i64 pk, .bool pb, .int .i64 pi, .string ps, .slice pal pnl pcl, .slice pam pnm pcm] 25)) := two_below w _ _
  have hz0 : ((w.alloc (.cells #[.int .i64 vk, .bool vb, .int .i64 vi, .string vs, .slice val vnl vcl, .slice vam vnm vcm] 25)).alloc (.cells #[.int .i64 pk, .bool pb, .int .i64 pi, .string ps, .slice pal pnl pcl, .slice pam pnm pcm] 25)).heap.size = w.heap.size + 2 := by rw [alloc_size, alloc_size]
  have hvw0 := alloc2_keep1 w (.cells #[.int .i64 vk, .bool vb, .int .i64 vi, .string vs, .slice val vnl vcl, .slice vam vnm vcm] 25) (.cells #[.int .i64 pk, .bool pb, .int .i64 pi, .string ps, .slice pal pnl pcl, .slice pam pnm pcm] 25)
  have hpw0 := alloc2_new w (.cells #[.int .i64 vk, .bool vb, .int .i64 vi, .string vs, .slice val vnl vcl, .slice vam vnm vcm] 25) (.cells #[.int .i64 pk, .bool pb, .int .i64 pi, .string ps, .slice pal pnl pcl, .slice pam pnm pcm] 25)
  have cv0 : ((w.alloc (.cells #[.int .i64 vk, .bool vb, .int .i64 vi, .string vs, .slice val vnl vcl, .slice vam vnm vcm] 25)).alloc (.cells #[.int .i64 pk, .bool pb, .int .i64 pi, .string ps, .slice pal pnl pcl, .slice pam pnm pcm] 25)).cell? ⟨w.heap.size, 0, none⟩ = some (.int .i64 vk) := by rw [cell_of_block hvw0]; rfl
  have cv1 : ((w.alloc (.cells #[.int .i64 vk, .bool vb, .int .i64 vi, .string vs, .slice val vnl vcl, .slice vam vnm vcm] 25)).alloc (.cells #[.int .i64 pk, .bool pb, .int .i64 pi, .string ps, .slice pal pnl pcl, .slice pam pnm pcm] 25)).cell? ⟨w.heap.size, 1, none⟩ = some (.bool vb) := by rw [cell_of_block hvw0]; rfl
  have cv2 : ((w.alloc (.cells #[.int .i64 vk, .bool vb, .int .i64 vi, .string vs, .slice val vnl vcl, .slice vam vnm vcm] 25)).alloc (.cells #[.int .i64 pk, .bool pb, .int .i64 pi, .string ps, .slice pal pnl pcl, .slice pam pnm pcm] 25)).cell? ⟨w.heap.size, 2, none⟩ = some (.int .i64 vi) := by rw [cell_of_block hvw0]; rfl
  have cv3 : ((w.alloc (.cells #[.int .i64 vk, .bool vb, .int .i64 vi, .string vs, .slice val vnl vcl, .slice vam vnm vcm] 25)).alloc (.cells #[.int .i64 pk, .bool pb, .int .i64 pi, .string ps, .slice pal pnl pcl, .slice pam pnm pcm] 25)).cell? ⟨w.heap.size, 3, none⟩ = some (.string vs) := by rw [cell_of_block hvw0]; rfl
  have cv4 : ((w.alloc (.cells #[.int .i64 vk, .bool vb, .int .i64 vi, .string vs, .slice val vnl vcl, .slice vam vnm vcm] 25)).alloc (.cells #[.int .i64 pk, .bool pb, .int .i64 pi, .string ps, .slice pal pnl pcl, .slice pam pnm pcm] 25)).cell? ⟨w.heap.size, 4, none⟩ = some (.slice val vnl vcl) := by rw [cell_of_block hvw0]; rfl
  have cv5 : ((w.alloc (.cells #[.int .i64 vk, .bool vb, .int .i64 vi, .string vs, .slice val vnl vcl, .slice vam vnm vcm] 25)).alloc (.cells #[.int .i64 pk, .bool pb, .int .i64 pi, .string ps, .slice pal pnl pcl, .slice pam pnm pcm] 25)).cell? ⟨w.heap.size, 5, none⟩ = some (.slice vam vnm vcm) := by rw [cell_of_block hvw0]; rfl
  clear hv hx hT hkp
  go_enter Tryd.func7, Tryd.ntmps7
  go_wp2_with fail
  clear cv0 cv1 cv2 cv3 cv4 cv5
  generalize ((w.alloc (.cells #[.int .i64 vk, .bool vb, .int .i64 vi, .string vs, .slice val vnl vcl, .slice vam vnm vcm] 25)).alloc (.cells #[.int .i64 pk, .bool pb, .int .i64 pi, .string ps, .slice pal pnl pcl, .slice pam pnm pcm] 25)) = w0 at *
  refine (beyond_any v (Old w) _ w0 (HL.out w0 Bww0) (HO.out w0 Bww0)).mono ?_
  rintro e w1 ⟨r, rfl, hr, b1⟩
  have hzw1 := b1.size
  have hvw1 := (b1.block (w.heap.size) (by omega)).trans hvw0
  have hpw1 := (b1.block (w.heap.size + 1) (by omega)).trans hpw0
  have Bww1 := Bww0.trans (b1.mono (by omega))
  cases r with
  | true =>
    go_wp2_with fail
    go_ret
    exact ⟨rfl, Bww1⟩
  | false =>
    have hwt := hr rfl
    clear hr
    have cp0 : w1.cell? ⟨w.heap.size + 1, 0, none⟩ = some (.int .i64 pk) := by rw [cell_of_block hpw1]; rfl
    have cp1 : w1.cell? ⟨w.heap.size + 1, 1, none⟩ = some (.bool pb) := by rw [cell_of_block hpw1]; rfl
    have cp2 : w1.cell? ⟨w.heap.size + 1, 2, none⟩ = some (.int .i64 pi) := by rw [cell_of_block hpw1]; rfl
    have cp3 : w1.cell? ⟨w.heap.size + 1, 3, none⟩ = some (.string ps) := by rw [cell_of_block hpw1]; rfl
    have cp4 : w1.cell? ⟨w.heap.size + 1, 4, none⟩ = some (.slice pal pnl pcl) := by rw [cell_of_block hpw1]; rfl
    have cp5 : w1.cell? ⟨w.heap.size + 1, 5, none⟩ = some (.slice pam pnm pcm) := by rw [cell_of_block hpw1]; rfl
    go_wp2_with fail
    clear cp0 cp1 cp2 cp3 cp4 cp5
    refine (beyond_any p (Old w) _ w1 (HP.out w1 Bww1) (HO.out w1 Bww1)).mono ?_
    rintro e w2 ⟨r, rfl, hr, b2⟩
    have hzw2 := b2.size
    have hvw2 := (b2.block (w.heap.size) (by omega)).trans hvw1
    have hpw2 := (b2.block (w.heap.size + 1) (by omega)).trans hpw1
    have Bww2 := Bww1.trans (b2.mono (by omega))
    cases r with
    | true =>
      go_wp2_with fail
      go_ret
      exact ⟨rfl, Bww2⟩
    | false =>
      have hwp := hr rfl
      clear hr
      go_wp2_with fail
      refine (awake_any w2 (HT.out _ Bww2)).mono ?_
      rintro e_ w3 ⟨rfl, bw3⟩
      have hzw3 := bw3.size
      have hvw3 := (bw3.block (w.heap.size) (by omega)).trans hvw2
      have hpw3 := (bw3.block (w.heap.size + 1) (by omega)).trans hpw2
      have Bww3 := Bww2.trans (bw3.mono (by omega))
      clear bw3
      have cv0 : w3.cell? ⟨w.heap.size, 0, none⟩ = some (.int .i64 vk) := by rw [cell_of_block hvw3]; rfl
      have cv1 : w3.cell? ⟨w.heap.size, 1, none⟩ = some (.bool vb) := by rw [cell_of_block hvw3]; rfl
      have cv2 : w3.cell? ⟨w.heap.size, 2, none⟩ = some (.int .i64 vi) := by rw [cell_of_block hvw3]; rfl
      have cv3 : w3.cell? ⟨w.heap.size, 3, none⟩ = some (.string vs) := by rw [cell_of_block hvw3]; rfl
      have cv4 : w3.cell? ⟨w.heap.size, 4, none⟩ = some (.slice val vnl vcl) := by rw [cell_of_block hvw3]; rfl
      have cv5 : w3.cell? ⟨w.heap.size, 5, none⟩ = some (.slice vam vnm vcm) := by rw [cell_of_block hvw3]; rfl
      have cp0 : w3.cell? ⟨w.heap.size + 1, 0, none⟩ = some (.int .i64 pk) := by rw [cell_of_block hpw3]; rfl
      have cp1 : w3.cell? ⟨w.heap.size + 1, 1, none⟩ = some (.bool pb) := by rw [cell_of_block hpw3]; rfl
      have cp2 : w3.cell? ⟨w.heap.size + 1, 2, none⟩ = some (.int .i64 pi) := by rw [cell_of_block hpw3]; rfl
      have cp3 : w3.cell? ⟨w.heap.size + 1, 3, none⟩ = some (.string ps) := by rw [cell_of_block hpw3]; rfl
      have cp4 : w3.cell? ⟨w.heap.size + 1, 4, none⟩ = some (.slice pal pnl pcl) := by rw [cell_of_block hpw3]; rfl
      have cp5 : w3.cell? ⟨w.heap.size + 1, 5, none⟩ = some (.slice pam pnm pcm) := by rw [cell_of_block hpw3]; rfl
      go_wp2_with fail
      clear cv0 cv1 cv2 cv3 cv4 cv5 cp0 cp1 cp2 cp3 cp4 cp5
      refine (apply_any v p (Old w) _ _ w3 (HT.out _ Bww3) (HL.out _ Bww3) (HP.out _ Bww3) (HO.out _ Bww3) (by omega) (by omega)).mono ?_
      rintro e_ w4 ⟨cg_, rfl, lg_, bw4⟩
      obtain ⟨gk, gb, gi, gs, gal, gnl, gcl, gam, gnm, gcm, rfl⟩ := V.ten lg_
      have hzw4 := bw4.size
      have hvw4 := (bw4.block (w.heap.size) (by omega)).trans hvw3
      have hpw4 := (bw4.block (w.heap.size + 1) (by omega)).trans hpw3
      have Bww4 := Bww3.trans (bw4.mono (by omega))
      have Lgw4 := hmk lg_
      clear lg_ bw4
      have bzw5 : Below w4.heap.size w4 (w4.alloc (.cells #[.int .i64 gk, .bool gb, .int .i64 gi, .string gs, .slice gal gnl gcl, .slice gam gnm gcm] 25)) := one_belowG _ _
      have hltw5 : w4.heap.size < (w4.alloc (.cells #[.int .i64 gk, .bool gb, .int .i64 gi, .string gs, .slice gal gnl gcl, .slice gam gnm gcm] 25)).heap.size := by rw [alloc_size]; omega
      have hvw5 := (bzw5.block (w.heap.size) (by omega)).trans hvw4
      have hpw5 := (bzw5.block (w.heap.size + 1) (by omega)).trans hpw4
      have Bww5 := Bww4.trans (bzw5.mono (by omega))
      have h8w5 := heap_alloc_new w4 (.cells #[.int .i64 gk, .bool gb, .int .i64 gi, .string gs, .slice gal gnl gcl, .slice gam gnm gcm] 25)
      have Lgw5 := hmk (V.lies_keep (R' := false) (S' := (fun y => w3.heap.size ≤ y ∧ y < w4.heap.size)) (fun h => h) (fun y hy => bzw5.block y (by have := hy.2; omega)) (fun _ h => h) _ Lgw4.out)
      clear Lgw4
      have cv0 : (w4.alloc (.cells #[.int .i64 gk, .bool gb, .int .i64 gi, .string gs, .slice gal gnl gcl, .slice gam gnm gcm] 25)).cell? ⟨w.heap.size, 0, none⟩ = some (.int .i64 vk) := by rw [cell_of_block hvw5]; rfl
      have cv1 : (w4.alloc (.cells #[.int .i64 gk, .bool gb, .int .i64 gi, .string gs, .slice gal gnl gcl, .slice gam gnm gcm] 25)).cell? ⟨w.heap.size, 1, none⟩ = some (.bool vb) := by rw [cell_of_block hvw5]; rfl
      have cv2 : (w4.alloc (.cells #[.int .i64 gk, .bool gb, .int .i64 gi, .string gs, .slice gal gnl gcl, .slice gam gnm gcm] 25)).cell? ⟨w.heap.size, 2, none⟩ = some (.int .i64 vi) := by rw [cell_of_block hvw5]; rfl
      have cv3 : (w4.alloc (.cells #[.int .i64 gk, .bool gb, .int .i64 gi, .string gs, .slice gal gnl gcl, .slice gam gnm gcm] 25)).cell? ⟨w.heap.size, 3, none⟩ = some (.string vs) := by rw [cell_of_block hvw5]; rfl
      have cv4 : (w4.alloc (.cells #[.int .i64 gk, .bool gb, .int .i64 gi, .string gs, .slice gal gnl gcl, .slice gam gnm gcm] 25)).cell? ⟨w.heap.size, 4, none⟩ = some (.slice val vnl vcl) := by rw [cell_of_block hvw5]; rfl
      have cv5 : (w4.alloc (.cells #[.int .i64 gk, .bool gb, .int .i64 gi, .string gs, .slice gal gnl gcl, .slice gam gnm gcm] 25)).cell? ⟨w.heap.size, 5, none⟩ = some (.slice vam vnm vcm) := by rw [cell_of_block hvw5]; rfl
      go_wp2_with fail
      clear cv0 cv1 cv2 cv3 cv4 cv5
      generalize (w4.alloc (.cells #[.int .i64 gk, .bool gb, .int .i64 gi, .string gs, .slice gal gnl gcl, .slice gam gnm gcm] 25)) = w5 at *
      refine (good_any v (Old w) _ w5 (HT.out _ Bww5) (HL.out _ Bww5) (HO.out _ Bww5) (by omega)).mono ?_
      rintro e_ w6 ⟨rfl, bw6⟩
      have hzw6 := bw6.size
      have hvw6 := (bw6.block (w.heap.size) (by omega)).trans hvw5
      have hpw6 := (bw6.block (w.heap.size + 1) (by omega)).trans hpw5
      have h8w6 := (bw6.block (w4.heap.size) (by omega)).trans h8w5
      have Bww6 := Bww5.trans (bw6.mono (by omega))
      have Lgw6 := hmk (V.lies_keep (R' := false) (S' := (fun y => w3.heap.size ≤ y ∧ y < w4.heap.size)) (fun h => h) (fun y hy => bw6.block y (by have := hy.2; omega)) (fun _ h => h) _ Lgw5.out)
      clear Lgw5
      clear bw6
      have cp0 : w6.cell? ⟨w.heap.size + 1, 0, none⟩ = some (.int .i64 pk) := by rw [cell_of_block hpw6]; rfl
      have cp1 : w6.cell? ⟨w.heap.size + 1, 1, none⟩ = some (.bool pb) := by rw [cell_of_block hpw6]; rfl
      have cp2 : w6.cell? ⟨w.heap.size + 1, 2, none⟩ = some (.int .i64 pi) := by rw [cell_of_block hpw6]; rfl
      have cp3 : w6.cell? ⟨w.heap.size + 1, 3, none⟩ = some (.string ps) := by rw [cell_of_block hpw6]; rfl
      have cp4 : w6.cell? ⟨w.heap.size + 1, 4, none⟩ = some (.slice pal pnl pcl) := by rw [cell_of_block hpw6]; rfl
      have cp5 : w6.cell? ⟨w.heap.size + 1, 5, none⟩ = some (.slice pam pnm pcm) := by rw [cell_of_block hpw6]; rfl
      go_wp2_with fail
      clear cp0 cp1 cp2 cp3 cp4 cp5
      refine (good_any p (Old w) _ w6 (HT.out _ Bww6) (HP.out _ Bww6) (HO.out _ Bww6) (by omega)).mono ?_
      rintro e_ w7 ⟨rfl, bw7⟩
      have hzw7 := bw7.size
      have hvw7 := (bw7.block (w.heap.size) (by omega)).trans hvw6
      have hpw7 := (bw7.block (w.heap.size + 1) (by omega)).trans hpw6
      have h8w7 := (bw7.block (w4.heap.size) (by omega)).trans h8w6
      have Bww7 := Bww6.trans (bw7.mono (by omega))
      have Lgw7 := hmk (V.lies_keep (R' := false) (S' := (fun y => w3.heap.size ≤ y ∧ y < w4.heap.size)) (fun h => h) (fun y hy => bw7.block y (by have := hy.2; omega)) (fun _ h => h) _ Lgw6.out)
      clear Lgw6
      clear bw7
      go_wp2_with fail
      refine (num_any (aplF v p).2 w7).mono ?_
      rintro e_ w8 ⟨rfl, bw8⟩
      have hzw8 := bw8.size
      have hvw8 := (bw8.block (w.heap.size) (by omega)).trans hvw7
      have hpw8 := (bw8.block (w.heap.size + 1) (by omega)).trans hpw7
      have h8w8 := (bw8.block (w4.heap.size) (by omega)).trans h8w7
      have Bww8 := Bww7.trans (bw8.mono (by omega))
      have Lgw8 := hmk (V.lies_keep (R' := false) (S' := (fun y => w3.heap.size ≤ y ∧ y < w4.heap.size)) (fun h => h) (fun y hy => bw8.block y (by have := hy.2; omega)) (fun _ h => h) _ Lgw7.out)
      clear Lgw7
      clear bw8
      by_cases hb : bothE v p = 0
      rotate_left
      · have hne : ¬ (bothE v p : Int) = 0 := by omega
        have ynb : ((bothE v p : Int) != 0) = true := by simp; omega
        have hgd : decide (chkE v 32 = 0) = false ∨ (decide (chkE v 32 = 0) = true ∧ decide (chkE p 32 = 0) = false) := by
          unfold bothE at hb
          by_cases h : chkE v 32 = 0
          · rw [if_pos h] at hb
            exact .inr ⟨decide_eq_true h, decide_eq_false hb⟩
          · exact .inl (decide_eq_false h)
        have HA := hmk (apl_both hb)
        have Lg0 := Lgw8.out
        rw [HA.out] at Lg0
        simp only at Lg0
        rw [HA.out]
        simp only
        clear Lgw8
        generalize (bothE v p : Int) = er at *
        generalize decide (chkE v 32 = 0) = gx at *
        generalize decide (chkE p 32 = 0) = gy at *
        have cg0 : w8.cell? ⟨w4.heap.size, 0, none⟩ = some (.int .i64 gk) := by rw [cell_of_block h8w8]; rfl
        have cg1 : w8.cell? ⟨w4.heap.size, 1, none⟩ = some (.bool gb) := by rw [cell_of_block h8w8]; rfl
        have cg2 : w8.cell? ⟨w4.heap.size, 2, none⟩ = some (.int .i64 gi) := by rw [cell_of_block h8w8]; rfl
        have cg3 : w8.cell? ⟨w4.heap.size, 3, none⟩ = some (.string gs) := by rw [cell_of_block h8w8]; rfl
        have cg4 : w8.cell? ⟨w4.heap.size, 4, none⟩ = some (.slice gal gnl gcl) := by rw [cell_of_block h8w8]; rfl
        have cg5 : w8.cell? ⟨w4.heap.size, 5, none⟩ = some (.slice gam gnm gcm) := by rw [cell_of_block h8w8]; rfl
        go_wp2_with fail
        clear cg0 cg1 cg2 cg3 cg4 cg5
        have CS := same_any nullV false false nullV (fun y => w3.heap.size ≤ y ∧ y < w4.heap.size) (fun _ => False) _ [.int .i64 0, .bool false, .int .i64 0, .string ⟨#[]⟩, .slice none 0 0, .slice none 0 0] w8 Lg0 (null_lies _ _) (fun y hy => by have := hy.2; omega) (fun _ h => h.elim)
        rw [V.eqB_refl] at CS
        clear Lg0
        refine CS.mono ?_
        clear CS
        rintro e_ w9 ⟨rfl, bw9⟩
        have hzw9 := bw9.size
        have hvw9 := (bw9.block (w.heap.size) (by omega)).trans hvw8
        have hpw9 := (bw9.block (w.heap.size + 1) (by omega)).trans hpw8
        have h8w9 := (bw9.block (w4.heap.size) (by omega)).trans h8w8
        have Bww9 := Bww8.trans (bw9.mono (by omega))
        rcases hgd with rfl | ⟨rfl, rfl⟩
        · go_wp2_with fail
          go_ret
          exact ⟨rfl, Bww9⟩
        · go_wp2_with fail
          go_ret
          exact ⟨rfl, Bww9⟩
      obtain ⟨k1, k2⟩ := both_two hb
      have d1 : decide (chkE v 32 = 0) = true := decide_eq_true k1
      have d2 : decide (chkE p 32 = 0) = true := decide_eq_true k2
      rw [d1, d2]
      by_cases h3 : chkE (pchV v p) 32 = 0
      rotate_left
      · have hcd := pch_codes k1 k2
        have hap : aplF v p = (nullV, (chkE (pchV v p) 32 : Int)) := by rw [apl_fin hb, finF, if_neg h3]
        have HA := hmk hap
        have Lg0 := Lgw8.out
        rw [HA.out] at Lg0
        simp only at Lg0
        rw [HA.out]
        simp only
        clear Lgw8
        have hcd2 : (chkE (pchV v p) 32 : Int) = 22 ∨ (chkE (pchV v p) 32 : Int) = 23 := by
          rcases hcd with h | h | h
          · exact absurd h h3
          · exact .inl (by omega)
          · exact .inr (by omega)
        clear hap hcd h3 d1 d2
        generalize (chkE (pchV v p) 32 : Int) = er at *
        have yne : ¬ er = 0 := by omega
        have yneb : (er != 0) = true := by simpa using yne
        have cg0 : w8.cell? ⟨w4.heap.size, 0, none⟩ = some (.int .i64 gk) := by rw [cell_of_block h8w8]; rfl
        have cg1 : w8.cell? ⟨w4.heap.size, 1, none⟩ = some (.bool gb) := by rw [cell_of_block h8w8]; rfl
        have cg2 : w8.cell? ⟨w4.heap.size, 2, none⟩ = some (.int .i64 gi) := by rw [cell_of_block h8w8]; rfl
        have cg3 : w8.cell? ⟨w4.heap.size, 3, none⟩ = some (.string gs) := by rw [cell_of_block h8w8]; rfl
        have cg4 : w8.cell? ⟨w4.heap.size, 4, none⟩ = some (.slice gal gnl gcl) := by rw [cell_of_block h8w8]; rfl
        have cg5 : w8.cell? ⟨w4.heap.size, 5, none⟩ = some (.slice gam gnm gcm) := by rw [cell_of_block h8w8]; rfl
        go_wp2_with fail
        clear cg0 cg1 cg2 cg3 cg4 cg5
        have CS := same_any nullV false false nullV (fun y => w3.heap.size ≤ y ∧ y < w4.heap.size) (fun _ => False) _ [.int .i64 0, .bool false, .int .i64 0, .string ⟨#[]⟩, .slice none 0 0, .slice none 0 0] w8 Lg0 (null_lies _ _) (fun y hy => by have := hy.2; omega) (fun _ h => h.elim)
        rw [V.eqB_refl] at CS
        clear Lg0
        refine CS.mono ?_
        clear CS
        rintro e_ w9 ⟨rfl, bw9⟩
        have hzw9 := bw9.size
        have hvw9 := (bw9.block (w.heap.size) (by omega)).trans hvw8
        have hpw9 := (bw9.block (w.heap.size + 1) (by omega)).trans hpw8
        have h8w9 := (bw9.block (w4.heap.size) (by omega)).trans h8w8
        have Bww9 := Bww8.trans (bw9.mono (by omega))
        rcases hcd2 with rfl | rfl
        · go_wp2_with fail
          refine (num_any _ w9).mono ?_
          rintro e_ w10 ⟨rfl, bw10⟩
          have hzw10 := bw10.size
          have hvw10 := (bw10.block (w.heap.size) (by omega)).trans hvw9
          have hpw10 := (bw10.block (w.heap.size + 1) (by omega)).trans hpw9
          have h8w10 := (bw10.block (w4.heap.size) (by omega)).trans h8w9
          have Bww10 := Bww9.trans (bw10.mono (by omega))
          clear bw10
          go_wp2_with fail
          go_ret
          exact ⟨rfl, Bww10⟩
        · go_wp2_with fail
          refine (num_any _ w9).mono ?_
          rintro e_ w10 ⟨rfl, bw10⟩
          have hzw10 := bw10.size
          have hvw10 := (bw10.block (w.heap.size) (by omega)).trans hvw9
          have hpw10 := (bw10.block (w.heap.size + 1) (by omega)).trans hpw9
          have h8w10 := (bw10.block (w4.heap.size) (by omega)).trans h8w9
          have Bww10 := Bww9.trans (bw10.mono (by omega))
          clear bw10
          go_wp2_with fail
          refine (num_any _ w10).mono ?_
          rintro e_ w11 ⟨rfl, bw11⟩
          have hzw11 := bw11.size
          have hvw11 := (bw11.block (w.heap.size) (by omega)).trans hvw10
          have hpw11 := (bw11.block (w.heap.size + 1) (by omega)).trans hpw10
          have h8w11 := (bw11.block (w4.heap.size) (by omega)).trans h8w10
          have Bww11 := Bww10.trans (bw11.mono (by omega))
          clear bw11
          go_wp2_with fail
          go_ret
          exact ⟨rfl, Bww11⟩
      have hap : aplF v p = (pchV v p, 0) := by rw [apl_fin hb, finF, if_pos h3]
      have hap2 := hmk (apl_twice k1 k2 h3)
      have okv := ok_chk (D := 32) (by omega) h3
      have hwv := okv.wt
      have Lg0 := hmk Lgw8.out
      rw [hap] at Lg0
      simp only at Lg0
      rw [hap]
      simp only
      clear Lgw8 d1 d2
      have d3 : decide (chkE (pchV v p) 32 = 0) = true := decide_eq_true h3
      have HK5 := hmk (fun h5 : kindOf p = 5 => twc_facts key k1 k2 h3 h5)
      have HN5 := hmk (fun h5 : ¬ kindOf p = 5 => (show pchV v p = p from by obtain ⟨pk_, pb_, pi_, ps_, pl_, pm_⟩ := p; exact by rw [pchV, if_neg (show ¬ pk_ = 5 from h5)]))
      have HM5 := hmk (fun h5 : kindOf p = 5 => (show kindOf (pchV v p) = 5 from by obtain ⟨pk_, pb_, pi_, ps_, pl_, pm_⟩ := p; exact by rw [pchV, if_pos (show pk_ = 5 from h5)]; rfl))
      have HC3 := hmk h3
      have CG := good_any (pchV v p) (fun y => w3.heap.size ≤ y ∧ y < w4.heap.size) _ w8 (HT.out _ Bww8) Lg0.out (fun y hy => by have := hy.2; omega) (by omega)
      rw [d3] at CG
      have HKV : Hid (kindOf (pchV v p) = gk) := kind_lies Lg0.out
      generalize hU : pchV v p = U at *
      clear hb h3 d3 hap
      have Lgw8 := Lg0
      clear Lg0
      have cg0 : w8.cell? ⟨w4.heap.size, 0, none⟩ = some (.int .i64 gk) := by rw [cell_of_block h8w8]; rfl
      have cg1 : w8.cell? ⟨w4.heap.size, 1, none⟩ = some (.bool gb) := by rw [cell_of_block h8w8]; rfl
      have cg2 : w8.cell? ⟨w4.heap.size, 2, none⟩ = some (.int .i64 gi) := by rw [cell_of_block h8w8]; rfl
      have cg3 : w8.cell? ⟨w4.heap.size, 3, none⟩ = some (.string gs) := by rw [cell_of_block h8w8]; rfl
      have cg4 : w8.cell? ⟨w4.heap.size, 4, none⟩ = some (.slice gal gnl gcl) := by rw [cell_of_block h8w8]; rfl
      have cg5 : w8.cell? ⟨w4.heap.size, 5, none⟩ = some (.slice gam gnm gcm) := by rw [cell_of_block h8w8]; rfl
      go_wp2_with fail
      clear cg0 cg1 cg2 cg3 cg4 cg5
      refine (CG).mono ?_
      rintro e_ w9 ⟨rfl, bw9⟩
      have hzw9 := bw9.size
      have hvw9 := (bw9.block (w.heap.size) (by omega)).trans hvw8
      have hpw9 := (bw9.block (w.heap.size + 1) (by omega)).trans hpw8
      have h8w9 := (bw9.block (w4.heap.size) (by omega)).trans h8w8
      have Bww9 := Bww8.trans (bw9.mono (by omega))
      have Lgw9 := hmk (V.lies_keep (R' := false) (S' := (fun y => w3.heap.size ≤ y ∧ y < w4.heap.size)) (fun h => h) (fun y hy => bw9.block y (by have := hy.2; omega)) (fun _ h => h) _ Lgw8.out)
      clear Lgw8
      clear bw9
      clear CG
      have cg0 : w9.cell? ⟨w4.heap.size, 0, none⟩ = some (.int .i64 gk) := by rw [cell_of_block h8w9]; rfl
      have cg1 : w9.cell? ⟨w4.heap.size, 1, none⟩ = some (.bool gb) := by rw [cell_of_block h8w9]; rfl
      have cg2 : w9.cell? ⟨w4.heap.size, 2, none⟩ = some (.int .i64 gi) := by rw [cell_of_block h8w9]; rfl
      have cg3 : w9.cell? ⟨w4.heap.size, 3, none⟩ = some (.string gs) := by rw [cell_of_block h8w9]; rfl
      have cg4 : w9.cell? ⟨w4.heap.size, 4, none⟩ = some (.slice gal gnl gcl) := by rw [cell_of_block h8w9]; rfl
      have cg5 : w9.cell? ⟨w4.heap.size, 5, none⟩ = some (.slice gam gnm gcm) := by rw [cell_of_block h8w9]; rfl
      have cp0 : w9.cell? ⟨w.heap.size + 1, 0, none⟩ = some (.int .i64 pk) := by rw [cell_of_block hpw9]; rfl
      have cp1 : w9.cell? ⟨w.heap.size + 1, 1, none⟩ = some (.bool pb) := by rw [cell_of_block hpw9]; rfl
      have cp2 : w9.cell? ⟨w.heap.size + 1, 2, none⟩ = some (.int .i64 pi) := by rw [cell_of_block hpw9]; rfl
      have cp3 : w9.cell? ⟨w.heap.size + 1, 3, none⟩ = some (.string ps) := by rw [cell_of_block hpw9]; rfl
      have cp4 : w9.cell? ⟨w.heap.size + 1, 4, none⟩ = some (.slice pal pnl pcl) := by rw [cell_of_block hpw9]; rfl
      have cp5 : w9.cell? ⟨w.heap.size + 1, 5, none⟩ = some (.slice pam pnm pcm) := by rw [cell_of_block hpw9]; rfl
      go_wp2_with fail
      clear cg0 cg1 cg2 cg3 cg4 cg5 cp0 cp1 cp2 cp3 cp4 cp5
      have CA := apply_any U p (fun y => Old w y ∨ (w3.heap.size ≤ y ∧ y < w4.heap.size)) _ _ w9 (HT.out _ Bww9) (V.lies_keep (S' := (fun y => Old w y ∨ (w3.heap.size ≤ y ∧ y < w4.heap.size))) (fun h => h) (fun _ _ => rfl) (fun y hy => .inr hy) _ Lgw9.out) (V.lies_keep (S' := (fun y => Old w y ∨ (w3.heap.size ≤ y ∧ y < w4.heap.size))) (fun h => h) (fun _ _ => rfl) (fun y hy => .inl hy) _ (HP.out _ Bww9)) (fun y hy => by rcases hy with hy | hy <;> first | exact HO.out _ Bww9 y hy | (have := hy.2; omega)) (by omega) (by omega)
      rw [hap2.out] at CA
      refine (CA).mono ?_
      rintro e_ w10 ⟨cf_, rfl, lf_, bw10⟩
      obtain ⟨fk, fb, fi, fs, fal, fnl, fcl, fam, fnm, fcm, rfl⟩ := V.ten lf_
      have hzw10 := bw10.size
      have hvw10 := (bw10.block (w.heap.size) (by omega)).trans hvw9
      have hpw10 := (bw10.block (w.heap.size + 1) (by omega)).trans hpw9
      have h8w10 := (bw10.block (w4.heap.size) (by omega)).trans h8w9
      have Bww10 := Bww9.trans (bw10.mono (by omega))
      have Lgw10 := hmk (V.lies_keep (R' := false) (S' := (fun y => w3.heap.size ≤ y ∧ y < w4.heap.size)) (fun h => h) (fun y hy => bw10.block y (by have := hy.2; omega)) (fun _ h => h) _ Lgw9.out)
      clear Lgw9
      have Lfw10 := hmk lf_
      clear lf_ bw10
      clear CA
      have bzw11 : Below w10.heap.size w10 (w10.alloc (.cells #[.int .i64 fk, .bool fb, .int .i64 fi, .string fs, .slice fal fnl fcl, .slice fam fnm fcm] 25)) := one_belowG _ _
      have hltw11 : w10.heap.size < (w10.alloc (.cells #[.int .i64 fk, .bool fb, .int .i64 fi, .string fs, .slice fal fnl fcl, .slice fam fnm fcm] 25)).heap.size := by rw [alloc_size]; omega
      have hvw11 := (bzw11.block (w.heap.size) (by omega)).trans hvw10
      have hpw11 := (bzw11.block (w.heap.size + 1) (by omega)).trans hpw10
      have h8w11 := (bzw11.block (w4.heap.size) (by omega)).trans h8w10
      have Bww11 := Bww10.trans (bzw11.mono (by omega))
      have h12w11 := heap_alloc_new w10 (.cells #[.int .i64 fk, .bool fb, .int .i64 fi, .string fs, .slice fal fnl fcl, .slice fam fnm fcm] 25)
      have Lgw11 := hmk (V.lies_keep (R' := false) (S' := (fun y => w3.heap.size ≤ y ∧ y < w4.heap.size)) (fun h => h) (fun y hy => bzw11.block y (by have := hy.2; omega)) (fun _ h => h) _ Lgw10.out)
      have Lfw11 := hmk (V.lies_keep (R' := false) (S' := (fun y => w9.heap.size ≤ y ∧ y < w10.heap.size)) (fun h => h) (fun y hy => bzw11.block y (by have := hy.2; omega)) (fun _ h => h) _ Lfw10.out)
      clear Lgw10 Lfw10
      go_wp2_with fail
      generalize (w10.alloc (.cells #[.int .i64 fk, .bool fb, .int .i64 fi, .string fs, .slice fal fnl fcl, .slice fam fnm fcm] 25)) = w11 at *
      refine (num_any 0 w11).mono ?_
      rintro e_ w12 ⟨rfl, bw12⟩
      have hzw12 := bw12.size
      have hvw12 := (bw12.block (w.heap.size) (by omega)).trans hvw11
      have hpw12 := (bw12.block (w.heap.size + 1) (by omega)).trans hpw11
      have h8w12 := (bw12.block (w4.heap.size) (by omega)).trans h8w11
      have h12w12 := (bw12.block (w10.heap.size) (by omega)).trans h12w11
      have Bww12 := Bww11.trans (bw12.mono (by omega))
      have Lgw12 := hmk (V.lies_keep (R' := false) (S' := (fun y => w3.heap.size ≤ y ∧ y < w4.heap.size)) (fun h => h) (fun y hy => bw12.block y (by have := hy.2; omega)) (fun _ h => h) _ Lgw11.out)
      have Lfw12 := hmk (V.lies_keep (R' := false) (S' := (fun y => w9.heap.size ≤ y ∧ y < w10.heap.size)) (fun h => h) (fun y hy => bw12.block y (by have := hy.2; omega)) (fun _ h => h) _ Lfw11.out)
      clear Lgw11 Lfw11
      clear bw12
      have CS := same_any U false false U (fun y => w9.heap.size ≤ y ∧ y < w10.heap.size) (fun y => w3.heap.size ≤ y ∧ y < w4.heap.size) _ _ w12 Lfw12.out Lgw12.out (fun y hy => by have := hy.2; omega) (fun y hy => by have := hy.2; omega)
      rw [V.eqB_refl] at CS
      have cf0 : w12.cell? ⟨w10.heap.size, 0, none⟩ = some (.int .i64 fk) := by rw [cell_of_block h12w12]; rfl
      have cf1 : w12.cell? ⟨w10.heap.size, 1, none⟩ = some (.bool fb) := by rw [cell_of_block h12w12]; rfl
      have cf2 : w12.cell? ⟨w10.heap.size, 2, none⟩ = some (.int .i64 fi) := by rw [cell_of_block h12w12]; rfl
      have cf3 : w12.cell? ⟨w10.heap.size, 3, none⟩ = some (.string fs) := by rw [cell_of_block h12w12]; rfl
      have cf4 : w12.cell? ⟨w10.heap.size, 4, none⟩ = some (.slice fal fnl fcl) := by rw [cell_of_block h12w12]; rfl
      have cf5 : w12.cell? ⟨w10.heap.size, 5, none⟩ = some (.slice fam fnm fcm) := by rw [cell_of_block h12w12]; rfl
      have cg0 : w12.cell? ⟨w4.heap.size, 0, none⟩ = some (.int .i64 gk) := by rw [cell_of_block h8w12]; rfl
      have cg1 : w12.cell? ⟨w4.heap.size, 1, none⟩ = some (.bool gb) := by rw [cell_of_block h8w12]; rfl
      have cg2 : w12.cell? ⟨w4.heap.size, 2, none⟩ = some (.int .i64 gi) := by rw [cell_of_block h8w12]; rfl
      have cg3 : w12.cell? ⟨w4.heap.size, 3, none⟩ = some (.string gs) := by rw [cell_of_block h8w12]; rfl
      have cg4 : w12.cell? ⟨w4.heap.size, 4, none⟩ = some (.slice gal gnl gcl) := by rw [cell_of_block h8w12]; rfl
      have cg5 : w12.cell? ⟨w4.heap.size, 5, none⟩ = some (.slice gam gnm gcm) := by rw [cell_of_block h8w12]; rfl
      go_wp2_with fail
      clear cf0 cf1 cf2 cf3 cf4 cf5 cg0 cg1 cg2 cg3 cg4 cg5
      refine (CS).mono ?_
      rintro e_ w13 ⟨rfl, bw13⟩
      have hzw13 := bw13.size
      have hvw13 := (bw13.block (w.heap.size) (by omega)).trans hvw12
      have hpw13 := (bw13.block (w.heap.size + 1) (by omega)).trans hpw12
      have h8w13 := (bw13.block (w4.heap.size) (by omega)).trans h8w12
      have h12w13 := (bw13.block (w10.heap.size) (by omega)).trans h12w12
      have Bww13 := Bww12.trans (bw13.mono (by omega))
      have Lgw13 := hmk (V.lies_keep (R' := false) (S' := (fun y => w3.heap.size ≤ y ∧ y < w4.heap.size)) (fun h => h) (fun y hy => bw13.block y (by have := hy.2; omega)) (fun _ h => h) _ Lgw12.out)
      have Lfw13 := hmk (V.lies_keep (R' := false) (S' := (fun y => w9.heap.size ≤ y ∧ y < w10.heap.size)) (fun h => h) (fun y hy => bw13.block y (by have := hy.2; omega)) (fun _ h => h) _ Lfw12.out)
      clear Lgw12 Lfw12
      clear bw13
      clear CS
      have cp0 : w13.cell? ⟨w.heap.size + 1, 0, none⟩ = some (.int .i64 pk) := by rw [cell_of_block hpw13]; rfl
      by_cases h5 : pk = 5
      rotate_left
      · have yk5 : (pk == 5) = false := beq_eq_false_iff_ne.2 h5
        have eU := HN5.out (by rw [HKP.out]; exact h5)
        subst eU
        have CS := same_any U false false U (fun y => w3.heap.size ≤ y ∧ y < w4.heap.size) (Old w) _ _ w13 Lgw13.out (HP.out _ Bww13) (fun y hy => by have := hy.2; omega) (HO.out _ Bww13)
        rw [V.eqB_refl] at CS
        have cg0 : w13.cell? ⟨w4.heap.size, 0, none⟩ = some (.int .i64 gk) := by rw [cell_of_block h8w13]; rfl
        have cg1 : w13.cell? ⟨w4.heap.size, 1, none⟩ = some (.bool gb) := by rw [cell_of_block h8w13]; rfl
        have cg2 : w13.cell? ⟨w4.heap.size, 2, none⟩ = some (.int .i64 gi) := by rw [cell_of_block h8w13]; rfl
        have cg3 : w13.cell? ⟨w4.heap.size, 3, none⟩ = some (.string gs) := by rw [cell_of_block h8w13]; rfl
        have cg4 : w13.cell? ⟨w4.heap.size, 4, none⟩ = some (.slice gal gnl gcl) := by rw [cell_of_block h8w13]; rfl
        have cg5 : w13.cell? ⟨w4.heap.size, 5, none⟩ = some (.slice gam gnm gcm) := by rw [cell_of_block h8w13]; rfl
        have cp0 : w13.cell? ⟨w.heap.size + 1, 0, none⟩ = some (.int .i64 pk) := by rw [cell_of_block hpw13]; rfl
        have cp1 : w13.cell? ⟨w.heap.size + 1, 1, none⟩ = some (.bool pb) := by rw [cell_of_block hpw13]; rfl
        have cp2 : w13.cell? ⟨w.heap.size + 1, 2, none⟩ = some (.int .i64 pi) := by rw [cell_of_block hpw13]; rfl
        have cp3 : w13.cell? ⟨w.heap.size + 1, 3, none⟩ = some (.string ps) := by rw [cell_of_block hpw13]; rfl
        have cp4 : w13.cell? ⟨w.heap.size + 1, 4, none⟩ = some (.slice pal pnl pcl) := by rw [cell_of_block hpw13]; rfl
        have cp5 : w13.cell? ⟨w.heap.size + 1, 5, none⟩ = some (.slice pam pnm pcm) := by rw [cell_of_block hpw13]; rfl
        go_wp2_with fail
        clear cg0 cg1 cg2 cg3 cg4 cg5 cp0 cp1 cp2 cp3 cp4 cp5
        refine (CS).mono ?_
        rintro e_ w14 ⟨rfl, bw14⟩
        have hzw14 := bw14.size
        have hvw14 := (bw14.block (w.heap.size) (by omega)).trans hvw13
        have hpw14 := (bw14.block (w.heap.size + 1) (by omega)).trans hpw13
        have h8w14 := (bw14.block (w4.heap.size) (by omega)).trans h8w13
        have h12w14 := (bw14.block (w10.heap.size) (by omega)).trans h12w13
        have Bww14 := Bww13.trans (bw14.mono (by omega))
        have Lgw14 := hmk (V.lies_keep (R' := false) (S' := (fun y => w3.heap.size ≤ y ∧ y < w4.heap.size)) (fun h => h) (fun y hy => bw14.block y (by have := hy.2; omega)) (fun _ h => h) _ Lgw13.out)
        have Lfw14 := hmk (V.lies_keep (R' := false) (S' := (fun y => w9.heap.size ≤ y ∧ y < w10.heap.size)) (fun h => h) (fun y hy => bw14.block y (by have := hy.2; omega)) (fun _ h => h) _ Lfw13.out)
        clear Lgw13 Lfw13
        clear bw14
        go_wp2_with fail
        go_ret
        exact ⟨rfl, Bww14⟩
      subst h5
      have F := hmk (HK5.out HKP.out)
      have hg5 : gk = 5 := HKV.out.symm.trans (HM5.out HKP.out)
      subst hg5
      clear HK5 HN5 HM5 HKV
      clear cp0
      have cq0 : w13.cell? ⟨w.heap.size + 1, 0, none⟩ = some (.int .i64 5) := by rw [cell_of_block hpw13]; rfl
      have cq1 : w13.cell? ⟨w.heap.size + 1, 1, none⟩ = some (.bool pb) := by rw [cell_of_block hpw13]; rfl
      have cq2 : w13.cell? ⟨w.heap.size + 1, 2, none⟩ = some (.int .i64 pi) := by rw [cell_of_block hpw13]; rfl
      have cq3 : w13.cell? ⟨w.heap.size + 1, 3, none⟩ = some (.string ps) := by rw [cell_of_block hpw13]; rfl
      have cq4 : w13.cell? ⟨w.heap.size + 1, 4, none⟩ = some (.slice pal pnl pcl) := by rw [cell_of_block hpw13]; rfl
      have cq5 : w13.cell? ⟨w.heap.size + 1, 5, none⟩ = some (.slice pam pnm pcm) := by rw [cell_of_block hpw13]; rfl
      go_wp2_with fail
      clear cq0 cq1 cq2 cq3 cq4 cq5
      refine (get_any p key false (Old w) _ w13 (HT.out _ Bww13) (HP.out _ Bww13) (HO.out _ Bww13) (by omega)).mono ?_
      rintro e_ w14 ⟨cj_, rfl, lj_, bw14⟩
      obtain ⟨jk, jb, ji, js, jal, jnl, jcl, jam, jnm, jcm, rfl⟩ := V.ten lj_
      have hzw14 := bw14.size
      have hvw14 := (bw14.block (w.heap.size) (by omega)).trans hvw13
      have hpw14 := (bw14.block (w.heap.size + 1) (by omega)).trans hpw13
      have h8w14 := (bw14.block (w4.heap.size) (by omega)).trans h8w13
      have h12w14 := (bw14.block (w10.heap.size) (by omega)).trans h12w13
      have Bww14 := Bww13.trans (bw14.mono (by omega))
      have Lgw14 := hmk (V.lies_keep (R' := false) (S' := (fun y => w3.heap.size ≤ y ∧ y < w4.heap.size)) (fun h => h) (fun y hy => bw14.block y (by have := hy.2; omega)) (fun _ h => h) _ Lgw13.out)
      have Lfw14 := hmk (V.lies_keep (R' := false) (S' := (fun y => w9.heap.size ≤ y ∧ y < w10.heap.size)) (fun h => h) (fun y hy => bw14.block y (by have := hy.2; omega)) (fun _ h => h) _ Lfw13.out)
      clear Lgw13 Lfw13
      have Ljw14 := hmk lj_
      clear lj_ bw14
      have bzw15 : Below w14.heap.size w14 (w14.alloc (.cells #[.int .i64 jk, .bool jb, .int .i64 ji, .string js, .slice jal jnl jcl, .slice jam jnm jcm] 25)) := one_belowG _ _
      have hltw15 : w14.heap.size < (w14.alloc (.cells #[.int .i64 jk, .bool jb, .int .i64 ji, .string js, .slice jal jnl jcl, .slice jam jnm jcm] 25)).heap.size := by rw [alloc_size]; omega
      have hvw15 := (bzw15.block (w.heap.size) (by omega)).trans hvw14
      have hpw15 := (bzw15.block (w.heap.size + 1) (by omega)).trans hpw14
      have h8w15 := (bzw15.block (w4.heap.size) (by omega)).trans h8w14
      have h12w15 := (bzw15.block (w10.heap.size) (by omega)).trans h12w14
      have Bww15 := Bww14.trans (bzw15.mono (by omega))
      have h14w15 := heap_alloc_new w14 (.cells #[.int .i64 jk, .bool jb, .int .i64 ji, .string js, .slice jal jnl jcl, .slice jam jnm jcm] 25)
      have Lgw15 := hmk (V.lies_keep (R' := false) (S' := (fun y => w3.heap.size ≤ y ∧ y < w4.heap.size)) (fun h => h) (fun y hy => bzw15.block y (by have := hy.2; omega)) (fun _ h => h) _ Lgw14.out)
      have Lfw15 := hmk (V.lies_keep (R' := false) (S' := (fun y => w9.heap.size ≤ y ∧ y < w10.heap.size)) (fun h => h) (fun y hy => bzw15.block y (by have := hy.2; omega)) (fun _ h => h) _ Lfw14.out)
      have Ljw15 := hmk (V.lies_keep (R' := false) (S' := (fun y => w13.heap.size ≤ y ∧ y < w14.heap.size)) (fun h => h) (fun y hy => bzw15.block y (by have := hy.2; omega)) (fun _ h => h) _ Ljw14.out)
      clear Lgw14 Lfw14 Ljw14
      have cq0 : (w14.alloc (.cells #[.int .i64 jk, .bool jb, .int .i64 ji, .string js, .slice jal jnl jcl, .slice jam jnm jcm] 25)).cell? ⟨w.heap.size, 0, none⟩ = some (.int .i64 vk) := by rw [cell_of_block hvw15]; rfl
      have cq1 : (w14.alloc (.cells #[.int .i64 jk, .bool jb, .int .i64 ji, .string js, .slice jal jnl jcl, .slice jam jnm jcm] 25)).cell? ⟨w.heap.size, 1, none⟩ = some (.bool vb) := by rw [cell_of_block hvw15]; rfl
      have cq2 : (w14.alloc (.cells #[.int .i64 jk, .bool jb, .int .i64 ji, .string js, .slice jal jnl jcl, .slice jam jnm jcm] 25)).cell? ⟨w.heap.size, 2, none⟩ = some (.int .i64 vi) := by rw [cell_of_block hvw15]; rfl
      have cq3 : (w14.alloc (.cells #[.int .i64 jk, .bool jb, .int .i64 ji, .string js, .slice jal jnl jcl, .slice jam jnm jcm] 25)).cell? ⟨w.heap.size, 3, none⟩ = some (.string vs) := by rw [cell_of_block hvw15]; rfl
      have cq4 : (w14.alloc (.cells #[.int .i64 jk, .bool jb, .int .i64 ji, .string js, .slice jal jnl jcl, .slice jam jnm jcm] 25)).cell? ⟨w.heap.size, 4, none⟩ = some (.slice val vnl vcl) := by rw [cell_of_block hvw15]; rfl
      have cq5 : (w14.alloc (.cells #[.int .i64 jk, .bool jb, .int .i64 ji, .string js, .slice jal jnl jcl, .slice jam jnm jcm] 25)).cell? ⟨w.heap.size, 5, none⟩ = some (.slice vam vnm vcm) := by rw [cell_of_block hvw15]; rfl
      go_wp2_with fail
      clear cq0 cq1 cq2 cq3 cq4 cq5
      generalize (w14.alloc (.cells #[.int .i64 jk, .bool jb, .int .i64 ji, .string js, .slice jal jnl jcl, .slice jam jnm jcm] 25)) = w15 at *
      refine (get_any v key false (Old w) _ w15 (HT.out _ Bww15) (HL.out _ Bww15) (HO.out _ Bww15) (by omega)).mono ?_
      rintro e_ w16 ⟨cn_, rfl, ln_, bw16⟩
      obtain ⟨nk, nb, ni, ns, nal, nnl, ncl, nam, nnm, ncm, rfl⟩ := V.ten ln_
      have hzw16 := bw16.size
      have hvw16 := (bw16.block (w.heap.size) (by omega)).trans hvw15
      have hpw16 := (bw16.block (w.heap.size + 1) (by omega)).trans hpw15
      have h8w16 := (bw16.block (w4.heap.size) (by omega)).trans h8w15
      have h12w16 := (bw16.block (w10.heap.size) (by omega)).trans h12w15
      have h14w16 := (bw16.block (w14.heap.size) (by omega)).trans h14w15
      have Bww16 := Bww15.trans (bw16.mono (by omega))
      have Lgw16 := hmk (V.lies_keep (R' := false) (S' := (fun y => w3.heap.size ≤ y ∧ y < w4.heap.size)) (fun h => h) (fun y hy => bw16.block y (by have := hy.2; omega)) (fun _ h => h) _ Lgw15.out)
      have Lfw16 := hmk (V.lies_keep (R' := false) (S' := (fun y => w9.heap.size ≤ y ∧ y < w10.heap.size)) (fun h => h) (fun y hy => bw16.block y (by have := hy.2; omega)) (fun _ h => h) _ Lfw15.out)
      have Ljw16 := hmk (V.lies_keep (R' := false) (S' := (fun y => w13.heap.size ≤ y ∧ y < w14.heap.size)) (fun h => h) (fun y hy => bw16.block y (by have := hy.2; omega)) (fun _ h => h) _ Ljw15.out)
      clear Lgw15 Lfw15 Ljw15
      have Lnw16 := hmk ln_
      clear ln_ bw16
      have bzw17 : Below w16.heap.size w16 (w16.alloc (.cells #[.int .i64 nk, .bool nb, .int .i64 ni, .string ns, .slice nal nnl ncl, .slice nam nnm ncm] 25)) := one_belowG _ _
      have hltw17 : w16.heap.size < (w16.alloc (.cells #[.int .i64 nk, .bool nb, .int .i64 ni, .string ns, .slice nal nnl ncl, .slice nam nnm ncm] 25)).heap.size := by rw [alloc_size]; omega
      have hvw17 := (bzw17.block (w.heap.size) (by omega)).trans hvw16
      have hpw17 := (bzw17.block (w.heap.size + 1) (by omega)).trans hpw16
      have h8w17 := (bzw17.block (w4.heap.size) (by omega)).trans h8w16
      have h12w17 := (bzw17.block (w10.heap.size) (by omega)).trans h12w16
      have h14w17 := (bzw17.block (w14.heap.size) (by omega)).trans h14w16
      have Bww17 := Bww16.trans (bzw17.mono (by omega))
      have h16w17 := heap_alloc_new w16 (.cells #[.int .i64 nk, .bool nb, .int .i64 ni, .string ns, .slice nal nnl ncl, .slice nam nnm ncm] 25)
      have Lgw17 := hmk (V.lies_keep (R' := false) (S' := (fun y => w3.heap.size ≤ y ∧ y < w4.heap.size)) (fun h => h) (fun y hy => bzw17.block y (by have := hy.2; omega)) (fun _ h => h) _ Lgw16.out)
      have Lfw17 := hmk (V.lies_keep (R' := false) (S' := (fun y => w9.heap.size ≤ y ∧ y < w10.heap.size)) (fun h => h) (fun y hy => bzw17.block y (by have := hy.2; omega)) (fun _ h => h) _ Lfw16.out)
      have Ljw17 := hmk (V.lies_keep (R' := false) (S' := (fun y => w13.heap.size ≤ y ∧ y < w14.heap.size)) (fun h => h) (fun y hy => bzw17.block y (by have := hy.2; omega)) (fun _ h => h) _ Ljw16.out)
      have Lnw17 := hmk (V.lies_keep (R' := false) (S' := (fun y => w15.heap.size ≤ y ∧ y < w16.heap.size)) (fun h => h) (fun y hy => bzw17.block y (by have := hy.2; omega)) (fun _ h => h) _ Lnw16.out)
      clear Lgw16 Lfw16 Ljw16 Lnw16
      have cq0 : (w16.alloc (.cells #[.int .i64 nk, .bool nb, .int .i64 ni, .string ns, .slice nal nnl ncl, .slice nam nnm ncm] 25)).cell? ⟨w4.heap.size, 0, none⟩ = some (.int .i64 5) := by rw [cell_of_block h8w17]; rfl
      have cq1 : (w16.alloc (.cells #[.int .i64 nk, .bool nb, .int .i64 ni, .string ns, .slice nal nnl ncl, .slice nam nnm ncm] 25)).cell? ⟨w4.heap.size, 1, none⟩ = some (.bool gb) := by rw [cell_of_block h8w17]; rfl
      have cq2 : (w16.alloc (.cells #[.int .i64 nk, .bool nb, .int .i64 ni, .string ns, .slice nal nnl ncl, .slice nam nnm ncm] 25)).cell? ⟨w4.heap.size, 2, none⟩ = some (.int .i64 gi) := by rw [cell_of_block h8w17]; rfl
      have cq3 : (w16.alloc (.cells #[.int .i64 nk, .bool nb, .int .i64 ni, .string ns, .slice nal nnl ncl, .slice nam nnm ncm] 25)).cell? ⟨w4.heap.size, 3, none⟩ = some (.string gs) := by rw [cell_of_block h8w17]; rfl
      have cq4 : (w16.alloc (.cells #[.int .i64 nk, .bool nb, .int .i64 ni, .string ns, .slice nal nnl ncl, .slice nam nnm ncm] 25)).cell? ⟨w4.heap.size, 4, none⟩ = some (.slice gal gnl gcl) := by rw [cell_of_block h8w17]; rfl
      have cq5 : (w16.alloc (.cells #[.int .i64 nk, .bool nb, .int .i64 ni, .string ns, .slice nal nnl ncl, .slice nam nnm ncm] 25)).cell? ⟨w4.heap.size, 5, none⟩ = some (.slice gam gnm gcm) := by rw [cell_of_block h8w17]; rfl
      go_wp2_with fail
      clear cq0 cq1 cq2 cq3 cq4 cq5
      generalize (w16.alloc (.cells #[.int .i64 nk, .bool nb, .int .i64 ni, .string ns, .slice nal nnl ncl, .slice nam nnm ncm] 25)) = w17 at *
      refine (get_any U key false (fun y => w3.heap.size ≤ y ∧ y < w4.heap.size) _ w17 (HT.out _ Bww17) Lgw17.out (fun y hy => by have := hy.2; omega) (by omega)).mono ?_
      rintro e_ w18 ⟨cq_, rfl, lq_, bw18⟩
      obtain ⟨qk, qb, qi, qs, qal, qnl, qcl, qam, qnm, qcm, rfl⟩ := V.ten lq_
      have hzw18 := bw18.size
      have hvw18 := (bw18.block (w.heap.size) (by omega)).trans hvw17
      have hpw18 := (bw18.block (w.heap.size + 1) (by omega)).trans hpw17
      have h8w18 := (bw18.block (w4.heap.size) (by omega)).trans h8w17
      have h12w18 := (bw18.block (w10.heap.size) (by omega)).trans h12w17
      have h14w18 := (bw18.block (w14.heap.size) (by omega)).trans h14w17
      have h16w18 := (bw18.block (w16.heap.size) (by omega)).trans h16w17
      have Bww18 := Bww17.trans (bw18.mono (by omega))
      have Lgw18 := hmk (V.lies_keep (R' := false) (S' := (fun y => w3.heap.size ≤ y ∧ y < w4.heap.size)) (fun h => h) (fun y hy => bw18.block y (by have := hy.2; omega)) (fun _ h => h) _ Lgw17.out)
      have Lfw18 := hmk (V.lies_keep (R' := false) (S' := (fun y => w9.heap.size ≤ y ∧ y < w10.heap.size)) (fun h => h) (fun y hy => bw18.block y (by have := hy.2; omega)) (fun _ h => h) _ Lfw17.out)
      have Ljw18 := hmk (V.lies_keep (R' := false) (S' := (fun y => w13.heap.size ≤ y ∧ y < w14.heap.size)) (fun h => h) (fun y hy => bw18.block y (by have := hy.2; omega)) (fun _ h => h) _ Ljw17.out)
      have Lnw18 := hmk (V.lies_keep (R' := false) (S' := (fun y => w15.heap.size ≤ y ∧ y < w16.heap.size)) (fun h => h) (fun y hy => bw18.block y (by have := hy.2; omega)) (fun _ h => h) _ Lnw17.out)
      clear Lgw17 Lfw17 Ljw17 Lnw17
      have Lqw18 := hmk lq_
      clear lq_ bw18
      have bzw19 : Below w18.heap.size w18 (w18.alloc (.cells #[.int .i64 qk, .bool qb, .int .i64 qi, .string qs, .slice qal qnl qcl, .slice qam qnm qcm] 25)) := one_belowG _ _
      have hltw19 : w18.heap.size < (w18.alloc (.cells #[.int .i64 qk, .bool qb, .int .i64 qi, .string qs, .slice qal qnl qcl, .slice qam qnm qcm] 25)).heap.size := by rw [alloc_size]; omega
      have hvw19 := (bzw19.block (w.heap.size) (by omega)).trans hvw18
      have hpw19 := (bzw19.block (w.heap.size + 1) (by omega)).trans hpw18
      have h8w19 := (bzw19.block (w4.heap.size) (by omega)).trans h8w18
      have h12w19 := (bzw19.block (w10.heap.size) (by omega)).trans h12w18
      have h14w19 := (bzw19.block (w14.heap.size) (by omega)).trans h14w18
      have h16w19 := (bzw19.block (w16.heap.size) (by omega)).trans h16w18
      have Bww19 := Bww18.trans (bzw19.mono (by omega))
      have h18w19 := heap_alloc_new w18 (.cells #[.int .i64 qk, .bool qb, .int .i64 qi, .string qs, .slice qal qnl qcl, .slice qam qnm qcm] 25)
      have Lgw19 := hmk (V.lies_keep (R' := false) (S' := (fun y => w3.heap.size ≤ y ∧ y < w4.heap.size)) (fun h => h) (fun y hy => bzw19.block y (by have := hy.2; omega)) (fun _ h => h) _ Lgw18.out)
      have Lfw19 := hmk (V.lies_keep (R' := false) (S' := (fun y => w9.heap.size ≤ y ∧ y < w10.heap.size)) (fun h => h) (fun y hy => bzw19.block y (by have := hy.2; omega)) (fun _ h => h) _ Lfw18.out)
      have Ljw19 := hmk (V.lies_keep (R' := false) (S' := (fun y => w13.heap.size ≤ y ∧ y < w14.heap.size)) (fun h => h) (fun y hy => bzw19.block y (by have := hy.2; omega)) (fun _ h => h) _ Ljw18.out)
      have Lnw19 := hmk (V.lies_keep (R' := false) (S' := (fun y => w15.heap.size ≤ y ∧ y < w16.heap.size)) (fun h => h) (fun y hy => bzw19.block y (by have := hy.2; omega)) (fun _ h => h) _ Lnw18.out)
      have Lqw19 := hmk (V.lies_keep (R' := false) (S' := (fun y => w17.heap.size ≤ y ∧ y < w18.heap.size)) (fun h => h) (fun y hy => bzw19.block y (by have := hy.2; omega)) (fun _ h => h) _ Lqw18.out)
      clear Lgw18 Lfw18 Ljw18 Lnw18 Lqw18
      have HJK : Hid (kindOf (getV p key).1 = jk) := kind_lies Ljw19.out
      have wj : Hid ((getV p key).1.wt ≤ 2147483648 ∧ (getV v key).1.wt ≤ 2147483648) := ⟨get_wt k2 key, get_wt k1 key⟩
      have c80 : (w18.alloc (.cells #[.int .i64 qk, .bool qb, .int .i64 qi, .string qs, .slice qal qnl qcl, .slice qam qnm qcm] 25)).cell? ⟨w4.heap.size, 0, none⟩ = some (.int .i64 5) := by rw [cell_of_block h8w19]; rfl
      have cj0 : (w18.alloc (.cells #[.int .i64 qk, .bool qb, .int .i64 qi, .string qs, .slice qal qnl qcl, .slice qam qnm qcm] 25)).cell? ⟨w14.heap.size, 0, none⟩ = some (.int .i64 jk) := by rw [cell_of_block h14w19]; rfl
      cases hn : (getV p key).2
      · have hno := F.out.no hn
        rw [hU] at hno
        have Lq0 := Lqw19.out
        rw [hno] at Lq0
        rw [hno]
        clear Lqw19 hno F
        have Lqw19 := hmk Lq0
        clear Lq0
        have Ln_ := Lnw19
        have cq0 : (w18.alloc (.cells #[.int .i64 qk, .bool qb, .int .i64 qi, .string qs, .slice qal qnl qcl, .slice qam qnm qcm] 25)).cell? ⟨w18.heap.size, 0, none⟩ = some (.int .i64 qk) := by rw [cell_of_block h18w19]; rfl
        have cq1 : (w18.alloc (.cells #[.int .i64 qk, .bool qb, .int .i64 qi, .string qs, .slice qal qnl qcl, .slice qam qnm qcm] 25)).cell? ⟨w18.heap.size, 1, none⟩ = some (.bool qb) := by rw [cell_of_block h18w19]; rfl
        have cq2 : (w18.alloc (.cells #[.int .i64 qk, .bool qb, .int .i64 qi, .string qs, .slice qal qnl qcl, .slice qam qnm qcm] 25)).cell? ⟨w18.heap.size, 2, none⟩ = some (.int .i64 qi) := by rw [cell_of_block h18w19]; rfl
        have cq3 : (w18.alloc (.cells #[.int .i64 qk, .bool qb, .int .i64 qi, .string qs, .slice qal qnl qcl, .slice qam qnm qcm] 25)).cell? ⟨w18.heap.size, 3, none⟩ = some (.string qs) := by rw [cell_of_block h18w19]; rfl
        have cq4 : (w18.alloc (.cells #[.int .i64 qk, .bool qb, .int .i64 qi, .string qs, .slice qal qnl qcl, .slice qam qnm qcm] 25)).cell? ⟨w18.heap.size, 4, none⟩ = some (.slice qal qnl qcl) := by rw [cell_of_block h18w19]; rfl
        have cq5 : (w18.alloc (.cells #[.int .i64 qk, .bool qb, .int .i64 qi, .string qs, .slice qal qnl qcl, .slice qam qnm qcm] 25)).cell? ⟨w18.heap.size, 5, none⟩ = some (.slice qam qnm qcm) := by rw [cell_of_block h18w19]; rfl
        have cn0 : (w18.alloc (.cells #[.int .i64 qk, .bool qb, .int .i64 qi, .string qs, .slice qal qnl qcl, .slice qam qnm qcm] 25)).cell? ⟨w16.heap.size, 0, none⟩ = some (.int .i64 nk) := by rw [cell_of_block h16w19]; rfl
        have cn1 : (w18.alloc (.cells #[.int .i64 qk, .bool qb, .int .i64 qi, .string qs, .slice qal qnl qcl, .slice qam qnm qcm] 25)).cell? ⟨w16.heap.size, 1, none⟩ = some (.bool nb) := by rw [cell_of_block h16w19]; rfl
        have cn2 : (w18.alloc (.cells #[.int .i64 qk, .bool qb, .int .i64 qi, .string qs, .slice qal qnl qcl, .slice qam qnm qcm] 25)).cell? ⟨w16.heap.size, 2, none⟩ = some (.int .i64 ni) := by rw [cell_of_block h16w19]; rfl
        have cn3 : (w18.alloc (.cells #[.int .i64 qk, .bool qb, .int .i64 qi, .string qs, .slice qal qnl qcl, .slice qam qnm qcm] 25)).cell? ⟨w16.heap.size, 3, none⟩ = some (.string ns) := by rw [cell_of_block h16w19]; rfl
        have cn4 : (w18.alloc (.cells #[.int .i64 qk, .bool qb, .int .i64 qi, .string qs, .slice qal qnl qcl, .slice qam qnm qcm] 25)).cell? ⟨w16.heap.size, 4, none⟩ = some (.slice nal nnl ncl) := by rw [cell_of_block h16w19]; rfl
        have cn5 : (w18.alloc (.cells #[.int .i64 qk, .bool qb, .int .i64 qi, .string qs, .slice qal qnl qcl, .slice qam qnm qcm] 25)).cell? ⟨w16.heap.size, 5, none⟩ = some (.slice nam nnm ncm) := by rw [cell_of_block h16w19]; rfl
        have CS := hmk (same_any (getV v key).1 false false (getV v key).1 (fun y => w17.heap.size ≤ y ∧ y < w18.heap.size) (fun y => w15.heap.size ≤ y ∧ y < w16.heap.size) _ _ (w18.alloc (.cells #[.int .i64 qk, .bool qb, .int .i64 qi, .string qs, .slice qal qnl qcl, .slice qam qnm qcm] 25)) Lqw19.out Lnw19.out (fun y hy => by have := hy.2; omega) (fun y hy => by have := hy.2; omega))
        rw [V.eqB_refl] at CS
        generalize (getV v key).2 = th at *
        have yth : (th == th) = true := beq_self_eq_true _
        go_wp2_with fail
        clear cq0 cq1 cq2 cq3 cq4 cq5 cn0 cn1 cn2 cn3 cn4 cn5 c80 cj0
        generalize (w18.alloc (.cells #[.int .i64 qk, .bool qb, .int .i64 qi, .string qs, .slice qal qnl qcl, .slice qam qnm qcm] 25)) = w19 at *
        refine (CS.out).mono ?_
        rintro e_ w20 ⟨rfl, bw20⟩
        have hzw20 := bw20.size
        have hvw20 := (bw20.block (w.heap.size) (by omega)).trans hvw19
        have hpw20 := (bw20.block (w.heap.size + 1) (by omega)).trans hpw19
        have h8w20 := (bw20.block (w4.heap.size) (by omega)).trans h8w19
        have h12w20 := (bw20.block (w10.heap.size) (by omega)).trans h12w19
        have h14w20 := (bw20.block (w14.heap.size) (by omega)).trans h14w19
        have h16w20 := (bw20.block (w16.heap.size) (by omega)).trans h16w19
        have h18w20 := (bw20.block (w18.heap.size) (by omega)).trans h18w19
        have Bww20 := Bww19.trans (bw20.mono (by omega))
        have Lgw20 := hmk (V.lies_keep (R' := false) (S' := (fun y => w3.heap.size ≤ y ∧ y < w4.heap.size)) (fun h => h) (fun y hy => bw20.block y (by have := hy.2; omega)) (fun _ h => h) _ Lgw19.out)
        have Lfw20 := hmk (V.lies_keep (R' := false) (S' := (fun y => w9.heap.size ≤ y ∧ y < w10.heap.size)) (fun h => h) (fun y hy => bw20.block y (by have := hy.2; omega)) (fun _ h => h) _ Lfw19.out)
        have Ljw20 := hmk (V.lies_keep (R' := false) (S' := (fun y => w13.heap.size ≤ y ∧ y < w14.heap.size)) (fun h => h) (fun y hy => bw20.block y (by have := hy.2; omega)) (fun _ h => h) _ Ljw19.out)
        have Lnw20 := hmk (V.lies_keep (R' := false) (S' := (fun y => w15.heap.size ≤ y ∧ y < w16.heap.size)) (fun h => h) (fun y hy => bw20.block y (by have := hy.2; omega)) (fun _ h => h) _ Lnw19.out)
        have Lqw20 := hmk (V.lies_keep (R' := false) (S' := (fun y => w17.heap.size ≤ y ∧ y < w18.heap.size)) (fun h => h) (fun y hy => bw20.block y (by have := hy.2; omega)) (fun _ h => h) _ Lqw19.out)
        clear Lgw19 Lfw19 Ljw19 Lnw19 Lqw19
        clear bw20
        go_wp2_with fail
        go_ret
        exact ⟨rfl, Bww20⟩
      · by_cases hj0 : jk = 0
        · have hnw := F.out.nul hn (by rw [HJK.out]; exact hj0)
          rw [hU] at hnw
          subst hj0
          go_wp2_with fail
          go_ret
          exact ⟨rfl, Bww19⟩
        · obtain ⟨hnw, hin⟩ := F.out.yes hn (by rw [HJK.out]; exact hj0)
          rw [hU] at hnw hin
          have yj : (jk == 0) = false := beq_eq_false_iff_ne.2 hj0
          have HIN := hmk hin
          clear hin F
          have cn0 : (w18.alloc (.cells #[.int .i64 qk, .bool qb, .int .i64 qi, .string qs, .slice qal qnl qcl, .slice qam qnm qcm] 25)).cell? ⟨w16.heap.size, 0, none⟩ = some (.int .i64 nk) := by rw [cell_of_block h16w19]; rfl
          have cn1 : (w18.alloc (.cells #[.int .i64 qk, .bool qb, .int .i64 qi, .string qs, .slice qal qnl qcl, .slice qam qnm qcm] 25)).cell? ⟨w16.heap.size, 1, none⟩ = some (.bool nb) := by rw [cell_of_block h16w19]; rfl
          have cn2 : (w18.alloc (.cells #[.int .i64 qk, .bool qb, .int .i64 qi, .string qs, .slice qal qnl qcl, .slice qam qnm qcm] 25)).cell? ⟨w16.heap.size, 2, none⟩ = some (.int .i64 ni) := by rw [cell_of_block h16w19]; rfl
          have cn3 : (w18.alloc (.cells #[.int .i64 qk, .bool qb, .int .i64 qi, .string qs, .slice qal qnl qcl, .slice qam qnm qcm] 25)).cell? ⟨w16.heap.size, 3, none⟩ = some (.string ns) := by rw [cell_of_block h16w19]; rfl
          have cn4 : (w18.alloc (.cells #[.int .i64 qk, .bool qb, .int .i64 qi, .string qs, .slice qal qnl qcl, .slice qam qnm qcm] 25)).cell? ⟨w16.heap.size, 4, none⟩ = some (.slice nal nnl ncl) := by rw [cell_of_block h16w19]; rfl
          have cn5 : (w18.alloc (.cells #[.int .i64 qk, .bool qb, .int .i64 qi, .string qs, .slice qal qnl qcl, .slice qam qnm qcm] 25)).cell? ⟨w16.heap.size, 5, none⟩ = some (.slice nam nnm ncm) := by rw [cell_of_block h16w19]; rfl
          have cj0 : (w18.alloc (.cells #[.int .i64 qk, .bool qb, .int .i64 qi, .string qs, .slice qal qnl qcl, .slice qam qnm qcm] 25)).cell? ⟨w14.heap.size, 0, none⟩ = some (.int .i64 jk) := by rw [cell_of_block h14w19]; rfl
          have cj1 : (w18.alloc (.cells #[.int .i64 qk, .bool qb, .int .i64 qi, .string qs, .slice qal qnl qcl, .slice qam qnm qcm] 25)).cell? ⟨w14.heap.size, 1, none⟩ = some (.bool jb) := by rw [cell_of_block h14w19]; rfl
          have cj2 : (w18.alloc (.cells #[.int .i64 qk, .bool qb, .int .i64 qi, .string qs, .slice qal qnl qcl, .slice qam qnm qcm] 25)).cell? ⟨w14.heap.size, 2, none⟩ = some (.int .i64 ji) := by rw [cell_of_block h14w19]; rfl
          have cj3 : (w18.alloc (.cells #[.int .i64 qk, .bool qb, .int .i64 qi, .string qs, .slice qal qnl qcl, .slice qam qnm qcm] 25)).cell? ⟨w14.heap.size, 3, none⟩ = some (.string js) := by rw [cell_of_block h14w19]; rfl
          have cj4 : (w18.alloc (.cells #[.int .i64 qk, .bool qb, .int .i64 qi, .string qs, .slice qal qnl qcl, .slice qam qnm qcm] 25)).cell? ⟨w14.heap.size, 4, none⟩ = some (.slice jal jnl jcl) := by rw [cell_of_block h14w19]; rfl
          have cj5 : (w18.alloc (.cells #[.int .i64 qk, .bool qb, .int .i64 qi, .string qs, .slice qal qnl qcl, .slice qam qnm qcm] 25)).cell? ⟨w14.heap.size, 5, none⟩ = some (.slice jam jnm jcm) := by rw [cell_of_block h14w19]; rfl
          go_wp2_with fail
          clear cn0 cn1 cn2 cn3 cn4 cn5 cj0 cj1 cj2 cj3 cj4 cj5 c80
          generalize (w18.alloc (.cells #[.int .i64 qk, .bool qb, .int .i64 qi, .string qs, .slice qal qnl qcl, .slice qam qnm qcm] 25)) = w19 at *
          have CA := apply_any (getV v key).1 (getV p key).1 (fun y => (w15.heap.size ≤ y ∧ y < w16.heap.size) ∨ (w13.heap.size ≤ y ∧ y < w14.heap.size)) _ _ w19 (HT.out _ Bww19) (V.lies_keep (S' := (fun y => (w15.heap.size ≤ y ∧ y < w16.heap.size) ∨ (w13.heap.size ≤ y ∧ y < w14.heap.size))) (fun h => h) (fun _ _ => rfl) (fun y hy => .inl hy) _ Lnw19.out) (V.lies_keep (S' := (fun y => (w15.heap.size ≤ y ∧ y < w16.heap.size) ∨ (w13.heap.size ≤ y ∧ y < w14.heap.size))) (fun h => h) (fun _ _ => rfl) (fun y hy => .inr hy) _ Ljw19.out) (fun y hy => by rcases hy with hy | hy <;> (have := hy.2; omega)) wj.out.2 wj.out.1
          rw [HIN.out] at CA
          refine (CA).mono ?_
          rintro e_ w20 ⟨ci__, rfl, li__, bw20⟩
          obtain ⟨i_k, i_b, i_i, i_s, i_al, i_nl, i_cl, i_am, i_nm, i_cm, rfl⟩ := V.ten li__
          have hzw20 := bw20.size
          have hvw20 := (bw20.block (w.heap.size) (by omega)).trans hvw19
          have hpw20 := (bw20.block (w.heap.size + 1) (by omega)).trans hpw19
          have h8w20 := (bw20.block (w4.heap.size) (by omega)).trans h8w19
          have h12w20 := (bw20.block (w10.heap.size) (by omega)).trans h12w19
          have h14w20 := (bw20.block (w14.heap.size) (by omega)).trans h14w19
          have h16w20 := (bw20.block (w16.heap.size) (by omega)).trans h16w19
          have h18w20 := (bw20.block (w18.heap.size) (by omega)).trans h18w19
          have Bww20 := Bww19.trans (bw20.mono (by omega))
          have Lgw20 := hmk (V.lies_keep (R' := false) (S' := (fun y => w3.heap.size ≤ y ∧ y < w4.heap.size)) (fun h => h) (fun y hy => bw20.block y (by have := hy.2; omega)) (fun _ h => h) _ Lgw19.out)
          have Lfw20 := hmk (V.lies_keep (R' := false) (S' := (fun y => w9.heap.size ≤ y ∧ y < w10.heap.size)) (fun h => h) (fun y hy => bw20.block y (by have := hy.2; omega)) (fun _ h => h) _ Lfw19.out)
          have Ljw20 := hmk (V.lies_keep (R' := false) (S' := (fun y => w13.heap.size ≤ y ∧ y < w14.heap.size)) (fun h => h) (fun y hy => bw20.block y (by have := hy.2; omega)) (fun _ h => h) _ Ljw19.out)
          have Lnw20 := hmk (V.lies_keep (R' := false) (S' := (fun y => w15.heap.size ≤ y ∧ y < w16.heap.size)) (fun h => h) (fun y hy => bw20.block y (by have := hy.2; omega)) (fun _ h => h) _ Lnw19.out)
          have Lqw20 := hmk (V.lies_keep (R' := false) (S' := (fun y => w17.heap.size ≤ y ∧ y < w18.heap.size)) (fun h => h) (fun y hy => bw20.block y (by have := hy.2; omega)) (fun _ h => h) _ Lqw19.out)
          clear Lgw19 Lfw19 Ljw19 Lnw19 Lqw19
          have Li_w20 := hmk li__
          clear li__ bw20
          clear CA
          have bzw21 : Below w20.heap.size w20 (w20.alloc (.cells #[.int .i64 i_k, .bool i_b, .int .i64 i_i, .string i_s, .slice i_al i_nl i_cl, .slice i_am i_nm i_cm] 25)) := one_belowG _ _
          have hltw21 : w20.heap.size < (w20.alloc (.cells #[.int .i64 i_k, .bool i_b, .int .i64 i_i, .string i_s, .slice i_al i_nl i_cl, .slice i_am i_nm i_cm] 25)).heap.size := by rw [alloc_size]; omega
          have hvw21 := (bzw21.block (w.heap.size) (by omega)).trans hvw20
          have hpw21 := (bzw21.block (w.heap.size + 1) (by omega)).trans hpw20
          have h8w21 := (bzw21.block (w4.heap.size) (by omega)).trans h8w20
          have h12w21 := (bzw21.block (w10.heap.size) (by omega)).trans h12w20
          have h14w21 := (bzw21.block (w14.heap.size) (by omega)).trans h14w20
          have h16w21 := (bzw21.block (w16.heap.size) (by omega)).trans h16w20
          have h18w21 := (bzw21.block (w18.heap.size) (by omega)).trans h18w20
          have Bww21 := Bww20.trans (bzw21.mono (by omega))
          have h20w21 := heap_alloc_new w20 (.cells #[.int .i64 i_k, .bool i_b, .int .i64 i_i, .string i_s, .slice i_al i_nl i_cl, .slice i_am i_nm i_cm] 25)
          have Lgw21 := hmk (V.lies_keep (R' := false) (S' := (fun y => w3.heap.size ≤ y ∧ y < w4.heap.size)) (fun h => h) (fun y hy => bzw21.block y (by have := hy.2; omega)) (fun _ h => h) _ Lgw20.out)
          have Lfw21 := hmk (V.lies_keep (R' := false) (S' := (fun y => w9.heap.size ≤ y ∧ y < w10.heap.size)) (fun h => h) (fun y hy => bzw21.block y (by have := hy.2; omega)) (fun _ h => h) _ Lfw20.out)
          have Ljw21 := hmk (V.lies_keep (R' := false) (S' := (fun y => w13.heap.size ≤ y ∧ y < w14.heap.size)) (fun h => h) (fun y hy => bzw21.block y (by have := hy.2; omega)) (fun _ h => h) _ Ljw20.out)
          have Lnw21 := hmk (V.lies_keep (R' := false) (S' := (fun y => w15.heap.size ≤ y ∧ y < w16.heap.size)) (fun h => h) (fun y hy => bzw21.block y (by have := hy.2; omega)) (fun _ h => h) _ Lnw20.out)
          have Lqw21 := hmk (V.lies_keep (R' := false) (S' := (fun y => w17.heap.size ≤ y ∧ y < w18.heap.size)) (fun h => h) (fun y hy => bzw21.block y (by have := hy.2; omega)) (fun _ h => h) _ Lqw20.out)
          have Li_w21 := hmk (V.lies_keep (R' := false) (S' := (fun y => w19.heap.size ≤ y ∧ y < w20.heap.size)) (fun h => h) (fun y hy => bzw21.block y (by have := hy.2; omega)) (fun _ h => h) _ Li_w20.out)
          clear Lgw20 Lfw20 Ljw20 Lnw20 Lqw20 Li_w20
          go_wp2_with fail
          generalize (w20.alloc (.cells #[.int .i64 i_k, .bool i_b, .int .i64 i_i, .string i_s, .slice i_al i_nl i_cl, .slice i_am i_nm i_cm] 25)) = w21 at *
          refine (num_any 0 w21).mono ?_
          rintro e_ w22 ⟨rfl, bw22⟩
          have hzw22 := bw22.size
          have hvw22 := (bw22.block (w.heap.size) (by omega)).trans hvw21
          have hpw22 := (bw22.block (w.heap.size + 1) (by omega)).trans hpw21
          have h8w22 := (bw22.block (w4.heap.size) (by omega)).trans h8w21
          have h12w22 := (bw22.block (w10.heap.size) (by omega)).trans h12w21
          have h14w22 := (bw22.block (w14.heap.size) (by omega)).trans h14w21
          have h16w22 := (bw22.block (w16.heap.size) (by omega)).trans h16w21
          have h18w22 := (bw22.block (w18.heap.size) (by omega)).trans h18w21
          have h20w22 := (bw22.block (w20.heap.size) (by omega)).trans h20w21
          have Bww22 := Bww21.trans (bw22.mono (by omega))
          have Lgw22 := hmk (V.lies_keep (R' := false) (S' := (fun y => w3.heap.size ≤ y ∧ y < w4.heap.size)) (fun h => h) (fun y hy => bw22.block y (by have := hy.2; omega)) (fun _ h => h) _ Lgw21.out)
          have Lfw22 := hmk (V.lies_keep (R' := false) (S' := (fun y => w9.heap.size ≤ y ∧ y < w10.heap.size)) (fun h => h) (fun y hy => bw22.block y (by have := hy.2; omega)) (fun _ h => h) _ Lfw21.out)
          have Ljw22 := hmk (V.lies_keep (R' := false) (S' := (fun y => w13.heap.size ≤ y ∧ y < w14.heap.size)) (fun h => h) (fun y hy => bw22.block y (by have := hy.2; omega)) (fun _ h => h) _ Ljw21.out)
          have Lnw22 := hmk (V.lies_keep (R' := false) (S' := (fun y => w15.heap.size ≤ y ∧ y < w16.heap.size)) (fun h => h) (fun y hy => bw22.block y (by have := hy.2; omega)) (fun _ h => h) _ Lnw21.out)
          have Lqw22 := hmk (V.lies_keep (R' := false) (S' := (fun y => w17.heap.size ≤ y ∧ y < w18.heap.size)) (fun h => h) (fun y hy => bw22.block y (by have := hy.2; omega)) (fun _ h => h) _ Lqw21.out)
          have Li_w22 := hmk (V.lies_keep (R' := false) (S' := (fun y => w19.heap.size ≤ y ∧ y < w20.heap.size)) (fun h => h) (fun y hy => bw22.block y (by have := hy.2; omega)) (fun _ h => h) _ Li_w21.out)
          clear Lgw21 Lfw21 Ljw21 Lnw21 Lqw21 Li_w21
          clear bw22
          have CS := same_any (getV U key).1 false false (getV U key).1 (fun y => w17.heap.size ≤ y ∧ y < w18.heap.size) (fun y => w19.heap.size ≤ y ∧ y < w20.heap.size) _ _ w22 Lqw22.out Li_w22.out (fun y hy => by have := hy.2; omega) (fun y hy => by have := hy.2; omega)
          rw [V.eqB_refl] at CS
          have cq0 : w22.cell? ⟨w18.heap.size, 0, none⟩ = some (.int .i64 qk) := by rw [cell_of_block h18w22]; rfl
          have cq1 : w22.cell? ⟨w18.heap.size, 1, none⟩ = some (.bool qb) := by rw [cell_of_block h18w22]; rfl
          have cq2 : w22.cell? ⟨w18.heap.size, 2, none⟩ = some (.int .i64 qi) := by rw [cell_of_block h18w22]; rfl
          have cq3 : w22.cell? ⟨w18.heap.size, 3, none⟩ = some (.string qs) := by rw [cell_of_block h18w22]; rfl
          have cq4 : w22.cell? ⟨w18.heap.size, 4, none⟩ = some (.slice qal qnl qcl) := by rw [cell_of_block h18w22]; rfl
          have cq5 : w22.cell? ⟨w18.heap.size, 5, none⟩ = some (.slice qam qnm qcm) := by rw [cell_of_block h18w22]; rfl
          have ci0 : w22.cell? ⟨w20.heap.size, 0, none⟩ = some (.int .i64 i_k) := by rw [cell_of_block h20w22]; rfl
          have ci1 : w22.cell? ⟨w20.heap.size, 1, none⟩ = some (.bool i_b) := by rw [cell_of_block h20w22]; rfl
          have ci2 : w22.cell? ⟨w20.heap.size, 2, none⟩ = some (.int .i64 i_i) := by rw [cell_of_block h20w22]; rfl
          have ci3 : w22.cell? ⟨w20.heap.size, 3, none⟩ = some (.string i_s) := by rw [cell_of_block h20w22]; rfl
          have ci4 : w22.cell? ⟨w20.heap.size, 4, none⟩ = some (.slice i_al i_nl i_cl) := by rw [cell_of_block h20w22]; rfl
          have ci5 : w22.cell? ⟨w20.heap.size, 5, none⟩ = some (.slice i_am i_nm i_cm) := by rw [cell_of_block h20w22]; rfl
          go_wp2_with fail
          clear cq0 cq1 cq2 cq3 cq4 cq5 ci0 ci1 ci2 ci3 ci4 ci5
          refine (CS).mono ?_
          rintro e_ w23 ⟨rfl, bw23⟩
          have hzw23 := bw23.size
          have hvw23 := (bw23.block (w.heap.size) (by omega)).trans hvw22
          have hpw23 := (bw23.block (w.heap.size + 1) (by omega)).trans hpw22
          have h8w23 := (bw23.block (w4.heap.size) (by omega)).trans h8w22
          have h12w23 := (bw23.block (w10.heap.size) (by omega)).trans h12w22
          have h14w23 := (bw23.block (w14.heap.size) (by omega)).trans h14w22
          have h16w23 := (bw23.block (w16.heap.size) (by omega)).trans h16w22
          have h18w23 := (bw23.block (w18.heap.size) (by omega)).trans h18w22
          have h20w23 := (bw23.block (w20.heap.size) (by omega)).trans h20w22
          have Bww23 := Bww22.trans (bw23.mono (by omega))
          have Lgw23 := hmk (V.lies_keep (R' := false) (S' := (fun y => w3.heap.size ≤ y ∧ y < w4.heap.size)) (fun h => h) (fun y hy => bw23.block y (by have := hy.2; omega)) (fun _ h => h) _ Lgw22.out)
          have Lfw23 := hmk (V.lies_keep (R' := false) (S' := (fun y => w9.heap.size ≤ y ∧ y < w10.heap.size)) (fun h => h) (fun y hy => bw23.block y (by have := hy.2; omega)) (fun _ h => h) _ Lfw22.out)
          have Ljw23 := hmk (V.lies_keep (R' := false) (S' := (fun y => w13.heap.size ≤ y ∧ y < w14.heap.size)) (fun h => h) (fun y hy => bw23.block y (by have := hy.2; omega)) (fun _ h => h) _ Ljw22.out)
          have Lnw23 := hmk (V.lies_keep (R' := false) (S' := (fun y => w15.heap.size ≤ y ∧ y < w16.heap.size)) (fun h => h) (fun y hy => bw23.block y (by have := hy.2; omega)) (fun _ h => h) _ Lnw22.out)
          have Lqw23 := hmk (V.lies_keep (R' := false) (S' := (fun y => w17.heap.size ≤ y ∧ y < w18.heap.size)) (fun h => h) (fun y hy => bw23.block y (by have := hy.2; omega)) (fun _ h => h) _ Lqw22.out)
          have Li_w23 := hmk (V.lies_keep (R' := false) (S' := (fun y => w19.heap.size ≤ y ∧ y < w20.heap.size)) (fun h => h) (fun y hy => bw23.block y (by have := hy.2; omega)) (fun _ h => h) _ Li_w22.out)
          clear Lgw22 Lfw22 Ljw22 Lnw22 Lqw22 Li_w22
          clear bw23
          go_wp2_with fail
          go_ret
          exact ⟨rfl, Bww23⟩
end Go.Proofs.YtjfldbmopjojdaaDoor
