import Derived.Test.YtjfldbmopjojdaaDoorAwkY
set_option linter.unusedSimpArgs false
set_option linter.unusedVariables false
namespace Go.Proofs.YtjfldbmopjojdaaDoor
open Go.RowKit Go.Lib
set_option maxHeartbeats 8000000 in
set_option maxRecDepth 100000 in
theorem clean_walk (low : Addr) (v : V) (cs : List Value) (w : World) (tb : Tb w) (hE : ErrAt low w) (hv : v.lies false w (Old w) cs) : Calls Tryd.prog 6 #[.agg cs.toArray] w (BPost true w) := by
 obtain ⟨vk, vb, vi, vs, val, vnl, vcl, vam, vnm, vcm, rfl⟩ := V.ten hv
 have hkv : kindOf v = vk := kind_lies hv
 have HL : Hid (∀ W, Below w.heap.size w W → v.lies false W (Old w) [.int .i64 vk, .bool vb, .int .i64 vi, .string vs, .slice val vnl vcl, .slice vam vnm vcm]) := fun W hB => V.lies_keep (fun h => h) (fun x hx => hB.block x hx) (fun x hx => hx) _ hv
 have HO : Hid (∀ W, Below w.heap.size w W → ∀ b, Old w b → b < W.heap.size) := fun W hB b hb => Nat.lt_of_lt_of_le hb hB.size
 have HT : Hid (∀ W, Below w.heap.size w W → Tb W) := fun W hb => tb.below hb tb.z
 have HE : Hid (∀ W, Below w.heap.size w W → ErrAt low W) := fun W hb => hE.below hb hE.z
 have HKV := hmk hkv
 have Bww0 : Below w.heap.size w (w.alloc (.cells #[.int .i64 vk, .bool vb, .int .i64 vi, .string vs, .slice val vnl vcl, .slice vam vnm vcm] 25)) := one_belowG _ _
 have hz0 : (w.alloc (.cells #[.int .i64 vk, .bool vb, .int .i64 vi, .string vs, .slice val vnl vcl, .slice vam vnm vcm] 25)).heap.size = w.heap.size + 1 := alloc_size _ _
 have hvw0 := heap_alloc_new w (.cells #[.int .i64 vk, .bool vb, .int .i64 vi, .string vs, .slice val vnl vcl, .slice vam vnm vcm] 25)
 have cv0 : (w.alloc (.cells #[.int .i64 vk, .bool vb, .int .i64 vi, .string vs, .slice val vnl vcl, .slice vam vnm vcm] 25)).cell? ⟨w.heap.size, 0, none⟩ = some (.int .i64 vk) := by rw [cell_of_block hvw0]; rfl
 have cv1 : (w.alloc (.cells #[.int .i64 vk, .bool vb, .int .i64 vi, .string vs, .slice val vnl vcl, .slice vam vnm vcm] 25)).cell? ⟨w.heap.size, 1, none⟩ = some (.bool vb) := by rw [cell_of_block hvw0]; rfl
 have cv2 : (w.alloc (.cells #[.int .i64 vk, .bool vb, .int .i64 vi, .string vs, .slice val vnl vcl, .slice vam vnm vcm] 25)).cell? ⟨w.heap.size, 2, none⟩ = some (.int .i64 vi) := by rw [cell_of_block hvw0]; rfl
 have cv3 : (w.alloc (.cells #[.int .i64 vk, .bool vb, .int .i64 vi, .string vs, .slice val vnl vcl, .slice vam vnm vcm] 25)).cell? ⟨w.heap.size, 3, none⟩ = some (.string vs) := by rw [cell_of_block hvw0]; rfl
 have cv4 : (w.alloc (.cells #[.int .i64 vk, .bool vb, .int .i64 vi, .string vs, .slice val vnl vcl, .slice vam vnm vcm] 25)).cell? ⟨w.heap.size, 4, none⟩ = some (.slice val vnl vcl) := by rw [cell_of_block hvw0]; rfl
 have cv5 : (w.alloc (.cells #[.int .i64 vk, .bool vb, .int .i64 vi, .string vs, .slice val vnl vcl, .slice vam vnm vcm] 25)).cell? ⟨w.heap.size, 5, none⟩ = some (.slice vam vnm vcm) := by rw [cell_of_block hvw0]; rfl
 clear hv tb hE hkv
 go_enter Tryd.func6, Tryd.ntmps6
 go_wp2_with fail
 clear cv0 cv1 cv2 cv3 cv4 cv5
 generalize (w.alloc (.cells #[.int .i64 vk, .bool vb, .int .i64 vi, .string vs, .slice val vnl vcl, .slice vam vnm vcm] 25)) = w0 at *
 refine (beyond_any v (Old w) _ w0 (HL.out w0 Bww0) (HO.out w0 Bww0)).mono ?_
 rintro e w1 ⟨r, rfl, hr, b1⟩
 have hzw1 := b1.size
 have hvw1 := (b1.block (w.heap.size) (by omega)).trans hvw0
 have Bww1 := Bww0.trans (b1.mono (by omega))
 cases r with
 | true =>
  go_wp2_with fail
  go_ret
  exact ⟨rfl, Bww1⟩
 | false =>
  have hwt := hr rfl
  clear hr
  go_wp2_with fail
  refine (awake_any low w1 (HT.out _ Bww1) (HE.out _ Bww1)).mono ?_
  rintro e_ w2 ⟨rfl, bw2⟩
  have hzw2 := bw2.size
  have hvw2 := (bw2.block (w.heap.size) (by omega)).trans hvw1
  have Bww2 := Bww1.trans (bw2.mono (by omega))
  clear bw2
  have cv0 : w2.cell? ⟨w.heap.size, 0, none⟩ = some (.int .i64 vk) := by rw [cell_of_block hvw2]; rfl
  have cv1 : w2.cell? ⟨w.heap.size, 1, none⟩ = some (.bool vb) := by rw [cell_of_block hvw2]; rfl
  have cv2 : w2.cell? ⟨w.heap.size, 2, none⟩ = some (.int .i64 vi) := by rw [cell_of_block hvw2]; rfl
  have cv3 : w2.cell? ⟨w.heap.size, 3, none⟩ = some (.string vs) := by rw [cell_of_block hvw2]; rfl
  have cv4 : w2.cell? ⟨w.heap.size, 4, none⟩ = some (.slice val vnl vcl) := by rw [cell_of_block hvw2]; rfl
  have cv5 : w2.cell? ⟨w.heap.size, 5, none⟩ = some (.slice vam vnm vcm) := by rw [cell_of_block hvw2]; rfl
  go_wp2_with fail
  clear cv0 cv1 cv2 cv3 cv4 cv5
  refine (clean_any v (Old w) _ w2 (HT.out _ Bww2) (HL.out _ Bww2) (HO.out _ Bww2) (by omega)).mono ?_
  rintro e_ w3 ⟨cg_, rfl, lg_, bw3⟩
  obtain ⟨gk, gb, gi, gs, gal, gnl, gcl, gam, gnm, gcm, rfl⟩ := V.ten lg_
  have hzw3 := bw3.size
  have hvw3 := (bw3.block (w.heap.size) (by omega)).trans hvw2
  have Bww3 := Bww2.trans (bw3.mono (by omega))
  have Lgw3 := hmk lg_
  clear lg_ bw3
  have bzw4 : Below w3.heap.size w3 (w3.alloc (.cells #[.int .i64 gk, .bool gb, .int .i64 gi, .string gs, .slice gal gnl gcl, .slice gam gnm gcm] 25)) := one_belowG _ _
  have hltw4 : w3.heap.size < (w3.alloc (.cells #[.int .i64 gk, .bool gb, .int .i64 gi, .string gs, .slice gal gnl gcl, .slice gam gnm gcm] 25)).heap.size := by rw [alloc_size]; omega
  have hvw4 := (bzw4.block (w.heap.size) (by omega)).trans hvw3
  have Bww4 := Bww3.trans (bzw4.mono (by omega))
  have h4w4 := heap_alloc_new w3 (.cells #[.int .i64 gk, .bool gb, .int .i64 gi, .string gs, .slice gal gnl gcl, .slice gam gnm gcm] 25)
  have Lgw4 := hmk (V.lies_keep (R' := false) (S' := (fun y => w2.heap.size ≤ y ∧ y < w3.heap.size)) (fun h => h) (fun y hy => bzw4.block y (by have := hy.2; omega)) (fun _ h => h) _ Lgw3.out)
  clear Lgw3
  have cv0 : (w3.alloc (.cells #[.int .i64 gk, .bool gb, .int .i64 gi, .string gs, .slice gal gnl gcl, .slice gam gnm gcm] 25)).cell? ⟨w.heap.size, 0, none⟩ = some (.int .i64 vk) := by rw [cell_of_block hvw4]; rfl
  have cv1 : (w3.alloc (.cells #[.int .i64 gk, .bool gb, .int .i64 gi, .string gs, .slice gal gnl gcl, .slice gam gnm gcm] 25)).cell? ⟨w.heap.size, 1, none⟩ = some (.bool vb) := by rw [cell_of_block hvw4]; rfl
  have cv2 : (w3.alloc (.cells #[.int .i64 gk, .bool gb, .int .i64 gi, .string gs, .slice gal gnl gcl, .slice gam gnm gcm] 25)).cell? ⟨w.heap.size, 2, none⟩ = some (.int .i64 vi) := by rw [cell_of_block hvw4]; rfl
  have cv3 : (w3.alloc (.cells #[.int .i64 gk, .bool gb, .int .i64 gi, .string gs, .slice gal gnl gcl, .slice gam gnm gcm] 25)).cell? ⟨w.heap.size, 3, none⟩ = some (.string vs) := by rw [cell_of_block hvw4]; rfl
  have cv4 : (w3.alloc (.cells #[.int .i64 gk, .bool gb, .int .i64 gi, .string gs, .slice gal gnl gcl, .slice gam gnm gcm] 25)).cell? ⟨w.heap.size, 4, none⟩ = some (.slice val vnl vcl) := by rw [cell_of_block hvw4]; rfl
  have cv5 : (w3.alloc (.cells #[.int .i64 gk, .bool gb, .int .i64 gi, .string gs, .slice gal gnl gcl, .slice gam gnm gcm] 25)).cell? ⟨w.heap.size, 5, none⟩ = some (.slice vam vnm vcm) := by rw [cell_of_block hvw4]; rfl
  go_wp2_with fail
  clear cv0 cv1 cv2 cv3 cv4 cv5
  generalize (w3.alloc (.cells #[.int .i64 gk, .bool gb, .int .i64 gi, .string gs, .slice gal gnl gcl, .slice gam gnm gcm] 25)) = w4 at *
  refine (good_any v (Old w) _ w4 (HT.out _ Bww4) (HL.out _ Bww4) (HO.out _ Bww4) (by omega)).mono ?_
  rintro e_ w5 ⟨rfl, bw5⟩
  have hzw5 := bw5.size
  have hvw5 := (bw5.block (w.heap.size) (by omega)).trans hvw4
  have h4w5 := (bw5.block (w3.heap.size) (by omega)).trans h4w4
  have Bww5 := Bww4.trans (bw5.mono (by omega))
  have Lgw5 := hmk (V.lies_keep (R' := false) (S' := (fun y => w2.heap.size ≤ y ∧ y < w3.heap.size)) (fun h => h) (fun y hy => bw5.block y (by have := hy.2; omega)) (fun _ h => h) _ Lgw4.out)
  clear Lgw4
  clear bw5
  by_cases h1 : chkE v 32 = 0
  rotate_left
  ·have hne : ¬ (chkE v 32 : Int) = 0 := by omega
   have ynb : ((chkE v 32 : Int) != 0) = true := by simp; omega
   have d1 : decide (chkE v 32 = 0) = false := decide_eq_false h1
   have HA : Hid (clnF v = (nullV, (chkE v 32 : Int))) := by show _ = _; rw [clnF, if_neg h1]
   have Lg0 := Lgw5.out
   rw [HA.out] at Lg0
   simp only at Lg0
   rw [HA.out, d1]
   simp only
   clear Lgw5 d1 h1 HA
   generalize (chkE v 32 : Int) = er at *
   have Lgw5 := hmk Lg0
   clear Lg0
   go_wp2_with fail
   refine (num_any er w5).mono ?_
   rintro e_ w6 ⟨rfl, bw6⟩
   have hzw6 := bw6.size
   have hvw6 := (bw6.block (w.heap.size) (by omega)).trans hvw5
   have h4w6 := (bw6.block (w3.heap.size) (by omega)).trans h4w5
   have Bww6 := Bww5.trans (bw6.mono (by omega))
   have Lgw6 := hmk (V.lies_keep (R' := false) (S' := (fun y => w2.heap.size ≤ y ∧ y < w3.heap.size)) (fun h => h) (fun y hy => bw6.block y (by have := hy.2; omega)) (fun _ h => h) _ Lgw5.out)
   clear Lgw5
   clear bw6
   have CS := same_any nullV false false nullV (fun y => w2.heap.size ≤ y ∧ y < w3.heap.size) (fun _ => False) _ [.int .i64 0, .bool false, .int .i64 0, .string ⟨#[]⟩, .slice none 0 0, .slice none 0 0] w6 Lgw6.out (null_lies _ _) (fun y hy => by have := hy.2; omega) (fun _ h => h.elim)
   rw [V.eqB_refl] at CS
   have cg0 : w6.cell? ⟨w3.heap.size, 0, none⟩ = some (.int .i64 gk) := by rw [cell_of_block h4w6]; rfl
   have cg1 : w6.cell? ⟨w3.heap.size, 1, none⟩ = some (.bool gb) := by rw [cell_of_block h4w6]; rfl
   have cg2 : w6.cell? ⟨w3.heap.size, 2, none⟩ = some (.int .i64 gi) := by rw [cell_of_block h4w6]; rfl
   have cg3 : w6.cell? ⟨w3.heap.size, 3, none⟩ = some (.string gs) := by rw [cell_of_block h4w6]; rfl
   have cg4 : w6.cell? ⟨w3.heap.size, 4, none⟩ = some (.slice gal gnl gcl) := by rw [cell_of_block h4w6]; rfl
   have cg5 : w6.cell? ⟨w3.heap.size, 5, none⟩ = some (.slice gam gnm gcm) := by rw [cell_of_block h4w6]; rfl
   go_wp2_with fail
   clear cg0 cg1 cg2 cg3 cg4 cg5
   refine (CS).mono ?_
   rintro e_ w7 ⟨rfl, bw7⟩
   have hzw7 := bw7.size
   have hvw7 := (bw7.block (w.heap.size) (by omega)).trans hvw6
   have h4w7 := (bw7.block (w3.heap.size) (by omega)).trans h4w6
   have Bww7 := Bww6.trans (bw7.mono (by omega))
   have Lgw7 := hmk (V.lies_keep (R' := false) (S' := (fun y => w2.heap.size ≤ y ∧ y < w3.heap.size)) (fun h => h) (fun y hy => bw7.block y (by have := hy.2; omega)) (fun _ h => h) _ Lgw6.out)
   clear Lgw6
   clear bw7
   clear CS
   go_wp2_with fail
   go_ret
   exact ⟨rfl, Bww7⟩
  have d1 : decide (chkE v 32 = 0) = true := decide_eq_true h1
  have hap : clnF v = (pchV nullV v, 0) := by rw [clnF, if_pos h1]
  have h3 := chk_clean h1
  have hap2 : clnF (pchV nullV v) = (pchV nullV v, 0) := by rw [clnF, if_pos h3, cln_idem h1]
  have HA2 := hmk hap2
  have okv := (ok_chk (D := 32) (by omega) h3).wt
  obtain ⟨x1, hd1⟩ := dff_null h1
  obtain ⟨x2, hd2⟩ := dff_emp h1
  have HD1 := hmk hd1
  have HD2 := hmk hd2
  have HK5 := hmk (fun h5 : kindOf v = 5 => cln_iff h1 h5)
  have HN5 := hmk (fun h5 : ¬ kindOf v = 5 => cln_other h1 h5)
  have Lg0 := hmk Lgw5.out
  rw [hap] at Lg0
  simp only at Lg0
  rw [hap, d1]
  simp only
  clear Lgw5 d1 h1 hap h3 hap2 hd1 hd2
  generalize (kindOf v == 0 || clnB v) = led at *
  generalize pchV nullV v = U at *
  have Lgw5 := Lg0
  clear Lg0
  have yll : (led != led) = false := by cases led <;> rfl
  have yee : (led == led) = true := by cases led <;> rfl
  have cg0 : w5.cell? ⟨w3.heap.size, 0, none⟩ = some (.int .i64 gk) := by rw [cell_of_block h4w5]; rfl
  have cg1 : w5.cell? ⟨w3.heap.size, 1, none⟩ = some (.bool gb) := by rw [cell_of_block h4w5]; rfl
  have cg2 : w5.cell? ⟨w3.heap.size, 2, none⟩ = some (.int .i64 gi) := by rw [cell_of_block h4w5]; rfl
  have cg3 : w5.cell? ⟨w3.heap.size, 3, none⟩ = some (.string gs) := by rw [cell_of_block h4w5]; rfl
  have cg4 : w5.cell? ⟨w3.heap.size, 4, none⟩ = some (.slice gal gnl gcl) := by rw [cell_of_block h4w5]; rfl
  have cg5 : w5.cell? ⟨w3.heap.size, 5, none⟩ = some (.slice gam gnm gcm) := by rw [cell_of_block h4w5]; rfl
  go_wp2_with fail
  clear cg0 cg1 cg2 cg3 cg4 cg5
  have CA := clean_any U (fun y => w2.heap.size ≤ y ∧ y < w3.heap.size) _ w5 (HT.out _ Bww5) Lgw5.out (fun y hy => by have := hy.2; omega) (by omega)
  rw [HA2.out] at CA
  refine (CA).mono ?_
  rintro e_ w6 ⟨cf_, rfl, lf_, bw6⟩
  obtain ⟨fk, fb, fi, fs, fal, fnl, fcl, fam, fnm, fcm, rfl⟩ := V.ten lf_
  have hzw6 := bw6.size
  have hvw6 := (bw6.block (w.heap.size) (by omega)).trans hvw5
  have h4w6 := (bw6.block (w3.heap.size) (by omega)).trans h4w5
  have Bww6 := Bww5.trans (bw6.mono (by omega))
  have Lgw6 := hmk (V.lies_keep (R' := false) (S' := (fun y => w2.heap.size ≤ y ∧ y < w3.heap.size)) (fun h => h) (fun y hy => bw6.block y (by have := hy.2; omega)) (fun _ h => h) _ Lgw5.out)
  clear Lgw5
  have Lfw6 := hmk lf_
  clear lf_ bw6
  clear CA
  have bzw7 : Below w6.heap.size w6 (w6.alloc (.cells #[.int .i64 fk, .bool fb, .int .i64 fi, .string fs, .slice fal fnl fcl, .slice fam fnm fcm] 25)) := one_belowG _ _
  have hltw7 : w6.heap.size < (w6.alloc (.cells #[.int .i64 fk, .bool fb, .int .i64 fi, .string fs, .slice fal fnl fcl, .slice fam fnm fcm] 25)).heap.size := by rw [alloc_size]; omega
  have hvw7 := (bzw7.block (w.heap.size) (by omega)).trans hvw6
  have h4w7 := (bzw7.block (w3.heap.size) (by omega)).trans h4w6
  have Bww7 := Bww6.trans (bzw7.mono (by omega))
  have h6w7 := heap_alloc_new w6 (.cells #[.int .i64 fk, .bool fb, .int .i64 fi, .string fs, .slice fal fnl fcl, .slice fam fnm fcm] 25)
  have Lgw7 := hmk (V.lies_keep (R' := false) (S' := (fun y => w2.heap.size ≤ y ∧ y < w3.heap.size)) (fun h => h) (fun y hy => bzw7.block y (by have := hy.2; omega)) (fun _ h => h) _ Lgw6.out)
  have Lfw7 := hmk (V.lies_keep (R' := false) (S' := (fun y => w5.heap.size ≤ y ∧ y < w6.heap.size)) (fun h => h) (fun y hy => bzw7.block y (by have := hy.2; omega)) (fun _ h => h) _ Lfw6.out)
  clear Lgw6 Lfw6
  go_wp2_with fail
  generalize (w6.alloc (.cells #[.int .i64 fk, .bool fb, .int .i64 fi, .string fs, .slice fal fnl fcl, .slice fam fnm fcm] 25)) = w7 at *
  refine (num_any 0 w7).mono ?_
  rintro e_ w8 ⟨rfl, bw8⟩
  have hzw8 := bw8.size
  have hvw8 := (bw8.block (w.heap.size) (by omega)).trans hvw7
  have h4w8 := (bw8.block (w3.heap.size) (by omega)).trans h4w7
  have h6w8 := (bw8.block (w6.heap.size) (by omega)).trans h6w7
  have Bww8 := Bww7.trans (bw8.mono (by omega))
  have Lgw8 := hmk (V.lies_keep (R' := false) (S' := (fun y => w2.heap.size ≤ y ∧ y < w3.heap.size)) (fun h => h) (fun y hy => bw8.block y (by have := hy.2; omega)) (fun _ h => h) _ Lgw7.out)
  have Lfw8 := hmk (V.lies_keep (R' := false) (S' := (fun y => w5.heap.size ≤ y ∧ y < w6.heap.size)) (fun h => h) (fun y hy => bw8.block y (by have := hy.2; omega)) (fun _ h => h) _ Lfw7.out)
  clear Lgw7 Lfw7
  clear bw8
  go_wp2_with fail
  refine (num_any 0 w8).mono ?_
  rintro e_ w9 ⟨rfl, bw9⟩
  have hzw9 := bw9.size
  have hvw9 := (bw9.block (w.heap.size) (by omega)).trans hvw8
  have h4w9 := (bw9.block (w3.heap.size) (by omega)).trans h4w8
  have h6w9 := (bw9.block (w6.heap.size) (by omega)).trans h6w8
  have Bww9 := Bww8.trans (bw9.mono (by omega))
  have Lgw9 := hmk (V.lies_keep (R' := false) (S' := (fun y => w2.heap.size ≤ y ∧ y < w3.heap.size)) (fun h => h) (fun y hy => bw9.block y (by have := hy.2; omega)) (fun _ h => h) _ Lgw8.out)
  have Lfw9 := hmk (V.lies_keep (R' := false) (S' := (fun y => w5.heap.size ≤ y ∧ y < w6.heap.size)) (fun h => h) (fun y hy => bw9.block y (by have := hy.2; omega)) (fun _ h => h) _ Lfw8.out)
  clear Lgw8 Lfw8
  clear bw9
  have CS := same_any U false false U (fun y => w2.heap.size ≤ y ∧ y < w3.heap.size) (fun y => w5.heap.size ≤ y ∧ y < w6.heap.size) _ _ w9 Lgw9.out Lfw9.out (fun y hy => by have := hy.2; omega) (fun y hy => by have := hy.2; omega)
  rw [V.eqB_refl] at CS
  have cg0 : w9.cell? ⟨w3.heap.size, 0, none⟩ = some (.int .i64 gk) := by rw [cell_of_block h4w9]; rfl
  have cg1 : w9.cell? ⟨w3.heap.size, 1, none⟩ = some (.bool gb) := by rw [cell_of_block h4w9]; rfl
  have cg2 : w9.cell? ⟨w3.heap.size, 2, none⟩ = some (.int .i64 gi) := by rw [cell_of_block h4w9]; rfl
  have cg3 : w9.cell? ⟨w3.heap.size, 3, none⟩ = some (.string gs) := by rw [cell_of_block h4w9]; rfl
  have cg4 : w9.cell? ⟨w3.heap.size, 4, none⟩ = some (.slice gal gnl gcl) := by rw [cell_of_block h4w9]; rfl
  have cg5 : w9.cell? ⟨w3.heap.size, 5, none⟩ = some (.slice gam gnm gcm) := by rw [cell_of_block h4w9]; rfl
  have cf0 : w9.cell? ⟨w6.heap.size, 0, none⟩ = some (.int .i64 fk) := by rw [cell_of_block h6w9]; rfl
  have cf1 : w9.cell? ⟨w6.heap.size, 1, none⟩ = some (.bool fb) := by rw [cell_of_block h6w9]; rfl
  have cf2 : w9.cell? ⟨w6.heap.size, 2, none⟩ = some (.int .i64 fi) := by rw [cell_of_block h6w9]; rfl
  have cf3 : w9.cell? ⟨w6.heap.size, 3, none⟩ = some (.string fs) := by rw [cell_of_block h6w9]; rfl
  have cf4 : w9.cell? ⟨w6.heap.size, 4, none⟩ = some (.slice fal fnl fcl) := by rw [cell_of_block h6w9]; rfl
  have cf5 : w9.cell? ⟨w6.heap.size, 5, none⟩ = some (.slice fam fnm fcm) := by rw [cell_of_block h6w9]; rfl
  go_wp2_with fail
  clear cg0 cg1 cg2 cg3 cg4 cg5 cf0 cf1 cf2 cf3 cf4 cf5
  refine (CS).mono ?_
  rintro e_ w10 ⟨rfl, bw10⟩
  have hzw10 := bw10.size
  have hvw10 := (bw10.block (w.heap.size) (by omega)).trans hvw9
  have h4w10 := (bw10.block (w3.heap.size) (by omega)).trans h4w9
  have h6w10 := (bw10.block (w6.heap.size) (by omega)).trans h6w9
  have Bww10 := Bww9.trans (bw10.mono (by omega))
  have Lgw10 := hmk (V.lies_keep (R' := false) (S' := (fun y => w2.heap.size ≤ y ∧ y < w3.heap.size)) (fun h => h) (fun y hy => bw10.block y (by have := hy.2; omega)) (fun _ h => h) _ Lgw9.out)
  have Lfw10 := hmk (V.lies_keep (R' := false) (S' := (fun y => w5.heap.size ≤ y ∧ y < w6.heap.size)) (fun h => h) (fun y hy => bw10.block y (by have := hy.2; omega)) (fun _ h => h) _ Lfw9.out)
  clear Lgw9 Lfw9
  clear bw10
  clear CS
  have cv0 : w10.cell? ⟨w.heap.size, 0, none⟩ = some (.int .i64 vk) := by rw [cell_of_block hvw10]; rfl
  have cv1 : w10.cell? ⟨w.heap.size, 1, none⟩ = some (.bool vb) := by rw [cell_of_block hvw10]; rfl
  have cv2 : w10.cell? ⟨w.heap.size, 2, none⟩ = some (.int .i64 vi) := by rw [cell_of_block hvw10]; rfl
  have cv3 : w10.cell? ⟨w.heap.size, 3, none⟩ = some (.string vs) := by rw [cell_of_block hvw10]; rfl
  have cv4 : w10.cell? ⟨w.heap.size, 4, none⟩ = some (.slice val vnl vcl) := by rw [cell_of_block hvw10]; rfl
  have cv5 : w10.cell? ⟨w.heap.size, 5, none⟩ = some (.slice vam vnm vcm) := by rw [cell_of_block hvw10]; rfl
  go_wp2_with fail
  clear cv0 cv1 cv2 cv3 cv4 cv5
  have CD := diff_any low nullV v (Old w) _ _ w10 (HT.out _ Bww10) (HE.out _ Bww10) (null_lies _ _) (HL.out _ Bww10) (HO.out _ Bww10) (by rw [nullV_wt]; omega) (by omega)
  rw [HD1.out] at CD
  refine (CD).mono ?_
  rintro e_ w11 ⟨cj_, rfl, lj_, bw11⟩
  obtain ⟨jk, jb, ji, js, jal, jnl, jcl, jam, jnm, jcm, rfl⟩ := V.ten lj_
  have hzw11 := bw11.size
  have hvw11 := (bw11.block (w.heap.size) (by omega)).trans hvw10
  have h4w11 := (bw11.block (w3.heap.size) (by omega)).trans h4w10
  have Bww11 := Bww10.trans (bw11.mono (by omega))
  have Lgw11 := hmk (V.lies_keep (R' := false) (S' := (fun y => w2.heap.size ≤ y ∧ y < w3.heap.size)) (fun h => h) (fun y hy => bw11.block y (by have := hy.2; omega)) (fun _ h => h) _ Lgw10.out)
  clear Lgw10
  have Ljw11 := hmk lj_
  clear lj_ bw11
  clear CD
  have bzw12 : Below w11.heap.size w11 (w11.alloc (.cells #[.int .i64 jk, .bool jb, .int .i64 ji, .string js, .slice jal jnl jcl, .slice jam jnm jcm] 25)) := one_belowG _ _
  have hltw12 : w11.heap.size < (w11.alloc (.cells #[.int .i64 jk, .bool jb, .int .i64 ji, .string js, .slice jal jnl jcl, .slice jam jnm jcm] 25)).heap.size := by rw [alloc_size]; omega
  have hvw12 := (bzw12.block (w.heap.size) (by omega)).trans hvw11
  have h4w12 := (bzw12.block (w3.heap.size) (by omega)).trans h4w11
  have Bww12 := Bww11.trans (bzw12.mono (by omega))
  have h8w12 := heap_alloc_new w11 (.cells #[.int .i64 jk, .bool jb, .int .i64 ji, .string js, .slice jal jnl jcl, .slice jam jnm jcm] 25)
  have Lgw12 := hmk (V.lies_keep (R' := false) (S' := (fun y => w2.heap.size ≤ y ∧ y < w3.heap.size)) (fun h => h) (fun y hy => bzw12.block y (by have := hy.2; omega)) (fun _ h => h) _ Lgw11.out)
  clear Lgw11
  have cv0 : (w11.alloc (.cells #[.int .i64 jk, .bool jb, .int .i64 ji, .string js, .slice jal jnl jcl, .slice jam jnm jcm] 25)).cell? ⟨w.heap.size, 0, none⟩ = some (.int .i64 vk) := by rw [cell_of_block hvw12]; rfl
  have cv1 : (w11.alloc (.cells #[.int .i64 jk, .bool jb, .int .i64 ji, .string js, .slice jal jnl jcl, .slice jam jnm jcm] 25)).cell? ⟨w.heap.size, 1, none⟩ = some (.bool vb) := by rw [cell_of_block hvw12]; rfl
  have cv2 : (w11.alloc (.cells #[.int .i64 jk, .bool jb, .int .i64 ji, .string js, .slice jal jnl jcl, .slice jam jnm jcm] 25)).cell? ⟨w.heap.size, 2, none⟩ = some (.int .i64 vi) := by rw [cell_of_block hvw12]; rfl
  have cv3 : (w11.alloc (.cells #[.int .i64 jk, .bool jb, .int .i64 ji, .string js, .slice jal jnl jcl, .slice jam jnm jcm] 25)).cell? ⟨w.heap.size, 3, none⟩ = some (.string vs) := by rw [cell_of_block hvw12]; rfl
  have cv4 : (w11.alloc (.cells #[.int .i64 jk, .bool jb, .int .i64 ji, .string js, .slice jal jnl jcl, .slice jam jnm jcm] 25)).cell? ⟨w.heap.size, 4, none⟩ = some (.slice val vnl vcl) := by rw [cell_of_block hvw12]; rfl
  have cv5 : (w11.alloc (.cells #[.int .i64 jk, .bool jb, .int .i64 ji, .string js, .slice jal jnl jcl, .slice jam jnm jcm] 25)).cell? ⟨w.heap.size, 5, none⟩ = some (.slice vam vnm vcm) := by rw [cell_of_block hvw12]; rfl
  go_wp2_with fail
  clear cv0 cv1 cv2 cv3 cv4 cv5
  generalize (w11.alloc (.cells #[.int .i64 jk, .bool jb, .int .i64 ji, .string js, .slice jal jnl jcl, .slice jam jnm jcm] 25)) = w12 at *
  have CD := diff_any low (mapV []) v (Old w) _ _ w12 (HT.out _ Bww12) (HE.out _ Bww12) (emp_lies _ _) (HL.out _ Bww12) (HO.out _ Bww12) (by rw [mapV_wt, wtM]; omega) (by omega)
  rw [HD2.out] at CD
  refine (CD).mono ?_
  rintro e_ w13 ⟨cn_, rfl, ln_, bw13⟩
  obtain ⟨nk, nb, ni, ns, nal, nnl, ncl, nam, nnm, ncm, rfl⟩ := V.ten ln_
  have hzw13 := bw13.size
  have hvw13 := (bw13.block (w.heap.size) (by omega)).trans hvw12
  have h4w13 := (bw13.block (w3.heap.size) (by omega)).trans h4w12
  have h8w13 := (bw13.block (w11.heap.size) (by omega)).trans h8w12
  have Bww13 := Bww12.trans (bw13.mono (by omega))
  have Lgw13 := hmk (V.lies_keep (R' := false) (S' := (fun y => w2.heap.size ≤ y ∧ y < w3.heap.size)) (fun h => h) (fun y hy => bw13.block y (by have := hy.2; omega)) (fun _ h => h) _ Lgw12.out)
  clear Lgw12
  have Lnw13 := hmk ln_
  clear ln_ bw13
  clear CD
  have bzw14 : Below w13.heap.size w13 (w13.alloc (.cells #[.int .i64 nk, .bool nb, .int .i64 ni, .string ns, .slice nal nnl ncl, .slice nam nnm ncm] 25)) := one_belowG _ _
  have hltw14 : w13.heap.size < (w13.alloc (.cells #[.int .i64 nk, .bool nb, .int .i64 ni, .string ns, .slice nal nnl ncl, .slice nam nnm ncm] 25)).heap.size := by rw [alloc_size]; omega
  have hvw14 := (bzw14.block (w.heap.size) (by omega)).trans hvw13
  have h4w14 := (bzw14.block (w3.heap.size) (by omega)).trans h4w13
  have h8w14 := (bzw14.block (w11.heap.size) (by omega)).trans h8w13
  have Bww14 := Bww13.trans (bzw14.mono (by omega))
  have h11w14 := heap_alloc_new w13 (.cells #[.int .i64 nk, .bool nb, .int .i64 ni, .string ns, .slice nal nnl ncl, .slice nam nnm ncm] 25)
  have Lgw14 := hmk (V.lies_keep (R' := false) (S' := (fun y => w2.heap.size ≤ y ∧ y < w3.heap.size)) (fun h => h) (fun y hy => bzw14.block y (by have := hy.2; omega)) (fun _ h => h) _ Lgw13.out)
  clear Lgw13
  go_wp2_with fail
  generalize (w13.alloc (.cells #[.int .i64 nk, .bool nb, .int .i64 ni, .string ns, .slice nal nnl ncl, .slice nam nnm ncm] 25)) = w14 at *
  refine (num_any 0 w14).mono ?_
  rintro e_ w15 ⟨rfl, bw15⟩
  have hzw15 := bw15.size
  have hvw15 := (bw15.block (w.heap.size) (by omega)).trans hvw14
  have h4w15 := (bw15.block (w3.heap.size) (by omega)).trans h4w14
  have h8w15 := (bw15.block (w11.heap.size) (by omega)).trans h8w14
  have h11w15 := (bw15.block (w13.heap.size) (by omega)).trans h11w14
  have Bww15 := Bww14.trans (bw15.mono (by omega))
  have Lgw15 := hmk (V.lies_keep (R' := false) (S' := (fun y => w2.heap.size ≤ y ∧ y < w3.heap.size)) (fun h => h) (fun y hy => bw15.block y (by have := hy.2; omega)) (fun _ h => h) _ Lgw14.out)
  clear Lgw14
  clear bw15
  go_wp2_with fail
  refine (num_any 0 w15).mono ?_
  rintro e_ w16 ⟨rfl, bw16⟩
  have hzw16 := bw16.size
  have hvw16 := (bw16.block (w.heap.size) (by omega)).trans hvw15
  have h4w16 := (bw16.block (w3.heap.size) (by omega)).trans h4w15
  have h8w16 := (bw16.block (w11.heap.size) (by omega)).trans h8w15
  have h11w16 := (bw16.block (w13.heap.size) (by omega)).trans h11w15
  have Bww16 := Bww15.trans (bw16.mono (by omega))
  have Lgw16 := hmk (V.lies_keep (R' := false) (S' := (fun y => w2.heap.size ≤ y ∧ y < w3.heap.size)) (fun h => h) (fun y hy => bw16.block y (by have := hy.2; omega)) (fun _ h => h) _ Lgw15.out)
  clear Lgw15
  clear bw16
  by_cases h5 : vk = 5
  ·subst h5
   have hl := HK5.out HKV.out
   have CS := same_any U false false v (fun y => w2.heap.size ≤ y ∧ y < w3.heap.size) (Old w) _ _ w16 Lgw16.out (HL.out _ Bww16) (fun y hy => by have := hy.2; omega) (HO.out _ Bww16)
   rw [← hl] at CS
   clear hl HK5 HN5
   have cg0 : w16.cell? ⟨w3.heap.size, 0, none⟩ = some (.int .i64 gk) := by rw [cell_of_block h4w16]; rfl
   have cg1 : w16.cell? ⟨w3.heap.size, 1, none⟩ = some (.bool gb) := by rw [cell_of_block h4w16]; rfl
   have cg2 : w16.cell? ⟨w3.heap.size, 2, none⟩ = some (.int .i64 gi) := by rw [cell_of_block h4w16]; rfl
   have cg3 : w16.cell? ⟨w3.heap.size, 3, none⟩ = some (.string gs) := by rw [cell_of_block h4w16]; rfl
   have cg4 : w16.cell? ⟨w3.heap.size, 4, none⟩ = some (.slice gal gnl gcl) := by rw [cell_of_block h4w16]; rfl
   have cg5 : w16.cell? ⟨w3.heap.size, 5, none⟩ = some (.slice gam gnm gcm) := by rw [cell_of_block h4w16]; rfl
   have cv0 : w16.cell? ⟨w.heap.size, 0, none⟩ = some (.int .i64 5) := by rw [cell_of_block hvw16]; rfl
   have cv1 : w16.cell? ⟨w.heap.size, 1, none⟩ = some (.bool vb) := by rw [cell_of_block hvw16]; rfl
   have cv2 : w16.cell? ⟨w.heap.size, 2, none⟩ = some (.int .i64 vi) := by rw [cell_of_block hvw16]; rfl
   have cv3 : w16.cell? ⟨w.heap.size, 3, none⟩ = some (.string vs) := by rw [cell_of_block hvw16]; rfl
   have cv4 : w16.cell? ⟨w.heap.size, 4, none⟩ = some (.slice val vnl vcl) := by rw [cell_of_block hvw16]; rfl
   have cv5 : w16.cell? ⟨w.heap.size, 5, none⟩ = some (.slice vam vnm vcm) := by rw [cell_of_block hvw16]; rfl
   go_wp2_with fail
   clear cg0 cg1 cg2 cg3 cg4 cg5 cv0 cv1 cv2 cv3 cv4 cv5
   refine (CS).mono ?_
   rintro e_ w17 ⟨rfl, bw17⟩
   have hzw17 := bw17.size
   have hvw17 := (bw17.block (w.heap.size) (by omega)).trans hvw16
   have h4w17 := (bw17.block (w3.heap.size) (by omega)).trans h4w16
   have Bww17 := Bww16.trans (bw17.mono (by omega))
   have Lgw17 := hmk (V.lies_keep (R' := false) (S' := (fun y => w2.heap.size ≤ y ∧ y < w3.heap.size)) (fun h => h) (fun y hy => bw17.block y (by have := hy.2; omega)) (fun _ h => h) _ Lgw16.out)
   clear Lgw16
   clear bw17
   go_wp2_with fail
   go_ret
   exact ⟨rfl, Bww17⟩
  ·have hl := HN5.out (by rw [HKV.out]; exact h5)
   subst hl
   have yk5 : (vk == 5) = false := beq_eq_false_iff_ne.2 h5
   have yn5 : (vk != 5) = true := by simp [h5]
   have cv0 : w16.cell? ⟨w.heap.size, 0, none⟩ = some (.int .i64 vk) := by rw [cell_of_block hvw16]; rfl
   have cv1 : w16.cell? ⟨w.heap.size, 1, none⟩ = some (.bool vb) := by rw [cell_of_block hvw16]; rfl
   have cv2 : w16.cell? ⟨w.heap.size, 2, none⟩ = some (.int .i64 vi) := by rw [cell_of_block hvw16]; rfl
   have cv3 : w16.cell? ⟨w.heap.size, 3, none⟩ = some (.string vs) := by rw [cell_of_block hvw16]; rfl
   have cv4 : w16.cell? ⟨w.heap.size, 4, none⟩ = some (.slice val vnl vcl) := by rw [cell_of_block hvw16]; rfl
   have cv5 : w16.cell? ⟨w.heap.size, 5, none⟩ = some (.slice vam vnm vcm) := by rw [cell_of_block hvw16]; rfl
   go_wp2_with fail
   go_ret
   exact ⟨rfl, Bww16⟩
end Go.Proofs.YtjfldbmopjojdaaDoor
