import Derived.Test.YtjfldbmopjojdaaDoorAplX
import Derived.Test.YtjfldbmopjojdaaDoorKptA
import Derived.Test.YtjfldbmopjojdaaDoorCnsA
/- MergepatchCleans: the law's own walk. -/
set_option linter.unusedSimpArgs false
set_option linter.unusedVariables false
namespace Go.Proofs.YtjfldbmopjojdaaDoor
open Go.RowKit Go.Lib
/-- a twin lies in new memory, with room behind each list and map -/
theorem twin_lie (v : V) (S : Nat → Prop) (cs : List Value) (w : World) (h : v.lies false w S cs) (hS : ∀ b, S b → b < w.heap.size) (hw : v.wt ≤ 2147483648) : Calls Tryd.prog 10 #[.agg cs.toArray] w fun e w' => ∃ us : List Value, e = .returned (.agg us.toArray) ∧ v.lies true w' (New w w') us ∧ Below w.heap.size w w' := by
  refine (twin_any v S cs w h hS hw).mono ?_
  obtain ⟨k, b, i, s, l, m⟩ := v
  rw [V.lies] at h
  obtain ⟨_, _, _, _, _, _, _, _, _, h1, h2, h3, _⟩ := h
  rintro e w' ⟨gl, cl, gm, cm, SL, SM, he, hb, oL, oM, _⟩
  exact ⟨_, he, TwinPost.lies (b := b) h1 h2 h3 oL oM, hb⟩
theorem lies_f {v : V} {w : World} {S : Nat → Prop} {cs : List Value} (h : v.lies true w S cs) : v.lies false w S cs := V.lies_keep (fun h => by cases h) (fun _ _ => rfl) (fun _ h => h) _ h
set_option maxHeartbeats 4000000 in
set_option maxRecDepth 100000 in
theorem cleans_walk (v : V) (cs : List Value) (w : World) (tb : Tb w) (hv : v.lies false w (Old w) cs) : Calls Tryd.prog 4 #[.agg cs.toArray] w (BPost true w) := by
  obtain ⟨vk, vb, vi, vs, val, vnl, vcl, vam, vnm, vcm, rfl⟩ := V.ten hv
  have HL : Hid (∀ W, Below w.heap.size w W → v.lies false W (Old w) [.int .i64 vk, .bool vb, .int .i64 vi, .string vs, .slice val vnl vcl, .slice vam vnm vcm]) := fun W hB => V.lies_keep (fun h => h) (fun x hx => hB.block x hx) (fun x hx => hx) _ hv
  have HO : Hid (∀ W, Below w.heap.size w W → ∀ b, Old w b → b < W.heap.size) := fun W hB b hb => Nat.lt_of_lt_of_le hb hB.size
  have HT : Hid (∀ W, Below w.heap.size w W → Tb W) := fun W hb => tb.below hb tb.z
  have Bww0 : Below w.heap.size w (w.alloc (.cells #[.int .i64 vk, .bool vb, .int .i64 vi, .string vs, .slice val vnl vcl, .slice vam vnm vcm] 25)) := one_belowG _ _
  have hz0 : (w.alloc (.cells #[.int .i64 vk, .bool vb, .int .i64 vi, .string vs, .slice val vnl vcl, .slice vam vnm vcm] 25)).heap.size = w.heap.size + 1 := alloc_size _ _
  have hvw0 := heap_alloc_new w (.cells #[.int .i64 vk, .bool vb, .int .i64 vi, .string vs, .slice val vnl vcl, .slice vam vnm vcm] 25)
  have cv0 : (w.alloc (.cells #[.int .i64 vk, .bool vb, .int .i64 vi, .string vs, .slice val vnl vcl, .slice vam vnm vcm] 25)).cell? ⟨w.heap.size, 0, none⟩ = some (.int .i64 vk) := by rw [cell_of_block hvw0]; rfl
  have cv1 : (w.alloc (.cells #[.int .i64 vk, .bool vb, .int .i64 vi, .string vs, .slice val vnl vcl, .slice vam vnm vcm] 25)).cell? ⟨w.heap.size, 1, none⟩ = some (.bool vb) := by rw [cell_of_block hvw0]; rfl
  have cv2 : (w.alloc (.cells #[.int .i64 vk, .bool vb, .int .i64 vi, .string vs, .slice val vnl vcl, .slice vam vnm vcm] 25)).cell? ⟨w.heap.size, 2, none⟩ = some (.int .i64 vi) := by rw [cell_of_block hvw0]; rfl
  have cv3 : (w.alloc (.cells #[.int .i64 vk, .bool vb, .int .i64 vi, .string vs, .slice val vnl vcl, .slice vam vnm vcm] 25)).cell? ⟨w.heap.size, 3, none⟩ = some (.string vs) := by rw [cell_of_block hvw0]; rfl
  have cv4 : (w.alloc (.cells #[.int .i64 vk, .bool vb, .int .i64 vi, .string vs, .slice val vnl vcl, .slice vam vnm vcm] 25)).cell? ⟨w.heap.size, 4, none⟩ = some (.slice val vnl vcl) := by rw [cell_of_block hvw0]; rfl
  have cv5 : (w.alloc (.cells #[.int .i64 vk, .bool vb, .int .i64 vi, .string vs, .slice val vnl vcl, .slice vam vnm vcm] 25)).cell? ⟨w.heap.size, 5, none⟩ = some (.slice vam vnm vcm) := by rw [cell_of_block hvw0]; rfl
  clear hv tb
  go_enter Tryd.func4, Tryd.ntmps4
  go_wp2_with fail
  clear cv0 cv1 cv2 cv3 cv4 cv5
  generalize (w.alloc (.cells #[.int .i64 vk, .bool vb, .int .i64 vi, .string vs, .slice val vnl vcl, .slice vam vnm vcm] 25)) = w0 at *
  refine (beyond_any v (Old w) _ w0 (HL.out w0 Bww0) (HO.out w0 Bww0)).mono ?_
  rintro e w1 ⟨r, rfl, hr, b1⟩
  have hzw1 := b1.size
  have hvw1 := (b1.block (w.heap.size) (by omega)).trans hvw0
  have Bww1 := Bww0.trans (b1.mono (by omega))
  cases r with
  | true =>
    go_wp2_with fail
    go_ret
    exact ⟨rfl, Bww1⟩
  | false =>
    have hwt := hr rfl
    clear hr
    have cv0 : w1.cell? ⟨w.heap.size, 0, none⟩ = some (.int .i64 vk) := by rw [cell_of_block hvw1]; rfl
    have cv1 : w1.cell? ⟨w.heap.size, 1, none⟩ = some (.bool vb) := by rw [cell_of_block hvw1]; rfl
    have cv2 : w1.cell? ⟨w.heap.size, 2, none⟩ = some (.int .i64 vi) := by rw [cell_of_block hvw1]; rfl
    have cv3 : w1.cell? ⟨w.heap.size, 3, none⟩ = some (.string vs) := by rw [cell_of_block hvw1]; rfl
    have cv4 : w1.cell? ⟨w.heap.size, 4, none⟩ = some (.slice val vnl vcl) := by rw [cell_of_block hvw1]; rfl
    have cv5 : w1.cell? ⟨w.heap.size, 5, none⟩ = some (.slice vam vnm vcm) := by rw [cell_of_block hvw1]; rfl
    go_wp2_with fail
    clear cv0 cv1 cv2 cv3 cv4 cv5
    refine (twin_lie v (Old w) _ w1 (HL.out _ Bww1) (HO.out _ Bww1) (by omega)).mono ?_
    rintro e_ w2 ⟨cu_, rfl, lu_, bw2⟩
    obtain ⟨uk, ub, ui, us, ual, unl, ucl, uam, unm, ucm, rfl⟩ := V.ten lu_
    have hzw2 := bw2.size
    have hvw2 := (bw2.block (w.heap.size) (by omega)).trans hvw1
    have Bww2 := Bww1.trans (bw2.mono (by omega))
    have Luw2 := hmk lu_
    clear lu_ bw2
    have bzw3 : Below w2.heap.size w2 (w2.alloc (.cells #[.int .i64 uk, .bool ub, .int .i64 ui, .string us, .slice ual unl ucl, .slice uam unm ucm] 25)) := one_belowG _ _
    have hltw3 : w2.heap.size < (w2.alloc (.cells #[.int .i64 uk, .bool ub, .int .i64 ui, .string us, .slice ual unl ucl, .slice uam unm ucm] 25)).heap.size := by rw [alloc_size]; omega
    have hvw3 := (bzw3.block (w.heap.size) (by omega)).trans hvw2
    have Bww3 := Bww2.trans (bzw3.mono (by omega))
    have h3w3 := heap_alloc_new w2 (.cells #[.int .i64 uk, .bool ub, .int .i64 ui, .string us, .slice ual unl ucl, .slice uam unm ucm] 25)
    have Luw3 := hmk (V.lies_keep (R' := true) (S' := (fun y => w1.heap.size ≤ y ∧ y < w2.heap.size)) (fun h => h) (fun y hy => bzw3.block y (by have := hy.2; omega)) (fun _ h => h) _ Luw2.out)
    clear Luw2
    have cu0 : (w2.alloc (.cells #[.int .i64 uk, .bool ub, .int .i64 ui, .string us, .slice ual unl ucl, .slice uam unm ucm] 25)).cell? ⟨w2.heap.size, 0, none⟩ = some (.int .i64 uk) := by rw [cell_of_block h3w3]; rfl
    have cu1 : (w2.alloc (.cells #[.int .i64 uk, .bool ub, .int .i64 ui, .string us, .slice ual unl ucl, .slice uam unm ucm] 25)).cell? ⟨w2.heap.size, 1, none⟩ = some (.bool ub) := by rw [cell_of_block h3w3]; rfl
    have cu2 : (w2.alloc (.cells #[.int .i64 uk, .bool ub, .int .i64 ui, .string us, .slice ual unl ucl, .slice uam unm ucm] 25)).cell? ⟨w2.heap.size, 2, none⟩ = some (.int .i64 ui) := by rw [cell_of_block h3w3]; rfl
    have cu3 : (w2.alloc (.cells #[.int .i64 uk, .bool ub, .int .i64 ui, .string us, .slice ual unl ucl, .slice uam unm ucm] 25)).cell? ⟨w2.heap.size, 3, none⟩ = some (.string us) := by rw [cell_of_block h3w3]; rfl
    have cu4 : (w2.alloc (.cells #[.int .i64 uk, .bool ub, .int .i64 ui, .string us, .slice ual unl ucl, .slice uam unm ucm] 25)).cell? ⟨w2.heap.size, 4, none⟩ = some (.slice ual unl ucl) := by rw [cell_of_block h3w3]; rfl
    have cu5 : (w2.alloc (.cells #[.int .i64 uk, .bool ub, .int .i64 ui, .string us, .slice ual unl ucl, .slice uam unm ucm] 25)).cell? ⟨w2.heap.size, 5, none⟩ = some (.slice uam unm ucm) := by rw [cell_of_block h3w3]; rfl
    go_wp2_with fail
    clear cu0 cu1 cu2 cu3 cu4 cu5
    generalize (w2.alloc (.cells #[.int .i64 uk, .bool ub, .int .i64 ui, .string us, .slice ual unl ucl, .slice uam unm ucm] 25)) = w3 at *
    refine (clean_any v (fun y => w1.heap.size ≤ y ∧ y < w2.heap.size) _ w3 (HT.out _ Bww3) (lies_f Luw3.out) (fun y hy => by have := hy.2; omega) (by omega)).mono ?_
    rintro e_ w4 ⟨cg_, rfl, lg_, bw4⟩
    obtain ⟨gk, gb, gi, gs, gal, gnl, gcl, gam, gnm, gcm, rfl⟩ := V.ten lg_
    have hzw4 := bw4.size
    have hvw4 := (bw4.block (w.heap.size) (by omega)).trans hvw3
    have h3w4 := (bw4.block (w2.heap.size) (by omega)).trans h3w3
    have Bww4 := Bww3.trans (bw4.mono (by omega))
    have Luw4 := hmk (V.lies_keep (R' := true) (S' := (fun y => w1.heap.size ≤ y ∧ y < w2.heap.size)) (fun h => h) (fun y hy => bw4.block y (by have := hy.2; omega)) (fun _ h => h) _ Luw3.out)
    clear Luw3
    have Lgw4 := hmk lg_
    clear lg_ bw4
    have bzw5 : Below w4.heap.size w4 (w4.alloc (.cells #[.int .i64 gk, .bool gb, .int .i64 gi, .string gs, .slice gal gnl gcl, .slice gam gnm gcm] 25)) := one_belowG _ _
    have hltw5 : w4.heap.size < (w4.alloc (.cells #[.int .i64 gk, .bool gb, .int .i64 gi, .string gs, .slice gal gnl gcl, .slice gam gnm gcm] 25)).heap.size := by rw [alloc_size]; omega
    have hvw5 := (bzw5.block (w.heap.size) (by omega)).trans hvw4
    have h3w5 := (bzw5.block (w2.heap.size) (by omega)).trans h3w4
    have Bww5 := Bww4.trans (bzw5.mono (by omega))
    have h4w5 := heap_alloc_new w4 (.cells #[.int .i64 gk, .bool gb, .int .i64 gi, .string gs, .slice gal gnl gcl, .slice gam gnm gcm] 25)
    have Luw5 := hmk (V.lies_keep (R' := true) (S' := (fun y => w1.heap.size ≤ y ∧ y < w2.heap.size)) (fun h => h) (fun y hy => bzw5.block y (by have := hy.2; omega)) (fun _ h => h) _ Luw4.out)
    have Lgw5 := hmk (V.lies_keep (R' := false) (S' := (fun y => w3.heap.size ≤ y ∧ y < w4.heap.size)) (fun h => h) (fun y hy => bzw5.block y (by have := hy.2; omega)) (fun _ h => h) _ Lgw4.out)
    clear Luw4 Lgw4
    have cv0 : (w4.alloc (.cells #[.int .i64 gk, .bool gb, .int .i64 gi, .string gs, .slice gal gnl gcl, .slice gam gnm gcm] 25)).cell? ⟨w.heap.size, 0, none⟩ = some (.int .i64 vk) := by rw [cell_of_block hvw5]; rfl
    have cv1 : (w4.alloc (.cells #[.int .i64 gk, .bool gb, .int .i64 gi, .string gs, .slice gal gnl gcl, .slice gam gnm gcm] 25)).cell? ⟨w.heap.size, 1, none⟩ = some (.bool vb) := by rw [cell_of_block hvw5]; rfl
    have cv2 : (w4.alloc (.cells #[.int .i64 gk, .bool gb, .int .i64 gi, .string gs, .slice gal gnl gcl, .slice gam gnm gcm] 25)).cell? ⟨w.heap.size, 2, none⟩ = some (.int .i64 vi) := by rw [cell_of_block hvw5]; rfl
    have cv3 : (w4.alloc (.cells #[.int .i64 gk, .bool gb, .int .i64 gi, .string gs, .slice gal gnl gcl, .slice gam gnm gcm] 25)).cell? ⟨w.heap.size, 3, none⟩ = some (.string vs) := by rw [cell_of_block hvw5]; rfl
    have cv4 : (w4.alloc (.cells #[.int .i64 gk, .bool gb, .int .i64 gi, .string gs, .slice gal gnl gcl, .slice gam gnm gcm] 25)).cell? ⟨w.heap.size, 4, none⟩ = some (.slice val vnl vcl) := by rw [cell_of_block hvw5]; rfl
    have cv5 : (w4.alloc (.cells #[.int .i64 gk, .bool gb, .int .i64 gi, .string gs, .slice gal gnl gcl, .slice gam gnm gcm] 25)).cell? ⟨w.heap.size, 5, none⟩ = some (.slice vam vnm vcm) := by rw [cell_of_block hvw5]; rfl
    go_wp2_with fail
    clear cv0 cv1 cv2 cv3 cv4 cv5
    generalize (w4.alloc (.cells #[.int .i64 gk, .bool gb, .int .i64 gi, .string gs, .slice gal gnl gcl, .slice gam gnm gcm] 25)) = w5 at *
    refine (rclean_any v (Old w) _ w5 (HL.out _ Bww5) (HO.out _ Bww5) (by omega)).mono ?_
    rintro e_ w6 ⟨cf_, rfl, lf_, bw6⟩
    obtain ⟨fk, fb, fi, fs, fal, fnl, fcl, fam, fnm, fcm, rfl⟩ := V.ten lf_
    have hzw6 := bw6.size
    have hvw6 := (bw6.block (w.heap.size) (by omega)).trans hvw5
    have h3w6 := (bw6.block (w2.heap.size) (by omega)).trans h3w5
    have h4w6 := (bw6.block (w4.heap.size) (by omega)).trans h4w5
    have Bww6 := Bww5.trans (bw6.mono (by omega))
    have Luw6 := hmk (V.lies_keep (R' := true) (S' := (fun y => w1.heap.size ≤ y ∧ y < w2.heap.size)) (fun h => h) (fun y hy => bw6.block y (by have := hy.2; omega)) (fun _ h => h) _ Luw5.out)
    have Lgw6 := hmk (V.lies_keep (R' := false) (S' := (fun y => w3.heap.size ≤ y ∧ y < w4.heap.size)) (fun h => h) (fun y hy => bw6.block y (by have := hy.2; omega)) (fun _ h => h) _ Lgw5.out)
    clear Luw5 Lgw5
    have Lfw6 := hmk lf_
    clear lf_ bw6
    have bzw7 : Below w6.heap.size w6 (w6.alloc (.cells #[.int .i64 fk, .bool fb, .int .i64 fi, .string fs, .slice fal fnl fcl, .slice fam fnm fcm] 25)) := one_belowG _ _
    have hltw7 : w6.heap.size < (w6.alloc (.cells #[.int .i64 fk, .bool fb, .int .i64 fi, .string fs, .slice fal fnl fcl, .slice fam fnm fcm] 25)).heap.size := by rw [alloc_size]; omega
    have hvw7 := (bzw7.block (w.heap.size) (by omega)).trans hvw6
    have h3w7 := (bzw7.block (w2.heap.size) (by omega)).trans h3w6
    have h4w7 := (bzw7.block (w4.heap.size) (by omega)).trans h4w6
    have Bww7 := Bww6.trans (bzw7.mono (by omega))
    have h6w7 := heap_alloc_new w6 (.cells #[.int .i64 fk, .bool fb, .int .i64 fi, .string fs, .slice fal fnl fcl, .slice fam fnm fcm] 25)
    have Luw7 := hmk (V.lies_keep (R' := true) (S' := (fun y => w1.heap.size ≤ y ∧ y < w2.heap.size)) (fun h => h) (fun y hy => bzw7.block y (by have := hy.2; omega)) (fun _ h => h) _ Luw6.out)
    have Lgw7 := hmk (V.lies_keep (R' := false) (S' := (fun y => w3.heap.size ≤ y ∧ y < w4.heap.size)) (fun h => h) (fun y hy => bzw7.block y (by have := hy.2; omega)) (fun _ h => h) _ Lgw6.out)
    have Lfw7 := hmk (V.lies_keep (R' := false) (S' := (fun y => w5.heap.size ≤ y ∧ y < w6.heap.size)) (fun h => h) (fun y hy => bzw7.block y (by have := hy.2; omega)) (fun _ h => h) _ Lfw6.out)
    clear Luw6 Lgw6 Lfw6
    have CS := hmk (same_any (clnF v).1 false false (clnF v).1 (fun y => w3.heap.size ≤ y ∧ y < w4.heap.size) (fun y => w5.heap.size ≤ y ∧ y < w6.heap.size) _ _ (w6.alloc (.cells #[.int .i64 fk, .bool fb, .int .i64 fi, .string fs, .slice fal fnl fcl, .slice fam fnm fcm] 25)) Lgw7.out Lfw7.out (fun y hy => by have := hy.2; omega) (fun y hy => by have := hy.2; omega))
    rw [V.eqB_refl] at CS
    generalize (clnF v).2 = er1 at *
    clear Lgw7 Lfw7
    have cg0 : (w6.alloc (.cells #[.int .i64 fk, .bool fb, .int .i64 fi, .string fs, .slice fal fnl fcl, .slice fam fnm fcm] 25)).cell? ⟨w4.heap.size, 0, none⟩ = some (.int .i64 gk) := by rw [cell_of_block h4w7]; rfl
    have cg1 : (w6.alloc (.cells #[.int .i64 fk, .bool fb, .int .i64 fi, .string fs, .slice fal fnl fcl, .slice fam fnm fcm] 25)).cell? ⟨w4.heap.size, 1, none⟩ = some (.bool gb) := by rw [cell_of_block h4w7]; rfl
    have cg2 : (w6.alloc (.cells #[.int .i64 fk, .bool fb, .int .i64 fi, .string fs, .slice fal fnl fcl, .slice fam fnm fcm] 25)).cell? ⟨w4.heap.size, 2, none⟩ = some (.int .i64 gi) := by rw [cell_of_block h4w7]; rfl
    have cg3 : (w6.alloc (.cells #[.int .i64 fk, .bool fb, .int .i64 fi, .string fs, .slice fal fnl fcl, .slice fam fnm fcm] 25)).cell? ⟨w4.heap.size, 3, none⟩ = some (.string gs) := by rw [cell_of_block h4w7]; rfl
    have cg4 : (w6.alloc (.cells #[.int .i64 fk, .bool fb, .int .i64 fi, .string fs, .slice fal fnl fcl, .slice fam fnm fcm] 25)).cell? ⟨w4.heap.size, 4, none⟩ = some (.slice gal gnl gcl) := by rw [cell_of_block h4w7]; rfl
    have cg5 : (w6.alloc (.cells #[.int .i64 fk, .bool fb, .int .i64 fi, .string fs, .slice fal fnl fcl, .slice fam fnm fcm] 25)).cell? ⟨w4.heap.size, 5, none⟩ = some (.slice gam gnm gcm) := by rw [cell_of_block h4w7]; rfl
    have cf0 : (w6.alloc (.cells #[.int .i64 fk, .bool fb, .int .i64 fi, .string fs, .slice fal fnl fcl, .slice fam fnm fcm] 25)).cell? ⟨w6.heap.size, 0, none⟩ = some (.int .i64 fk) := by rw [cell_of_block h6w7]; rfl
    have cf1 : (w6.alloc (.cells #[.int .i64 fk, .bool fb, .int .i64 fi, .string fs, .slice fal fnl fcl, .slice fam fnm fcm] 25)).cell? ⟨w6.heap.size, 1, none⟩ = some (.bool fb) := by rw [cell_of_block h6w7]; rfl
    have cf2 : (w6.alloc (.cells #[.int .i64 fk, .bool fb, .int .i64 fi, .string fs, .slice fal fnl fcl, .slice fam fnm fcm] 25)).cell? ⟨w6.heap.size, 2, none⟩ = some (.int .i64 fi) := by rw [cell_of_block h6w7]; rfl
    have cf3 : (w6.alloc (.cells #[.int .i64 fk, .bool fb, .int .i64 fi, .string fs, .slice fal fnl fcl, .slice fam fnm fcm] 25)).cell? ⟨w6.heap.size, 3, none⟩ = some (.string fs) := by rw [cell_of_block h6w7]; rfl
    have cf4 : (w6.alloc (.cells #[.int .i64 fk, .bool fb, .int .i64 fi, .string fs, .slice fal fnl fcl, .slice fam fnm fcm] 25)).cell? ⟨w6.heap.size, 4, none⟩ = some (.slice fal fnl fcl) := by rw [cell_of_block h6w7]; rfl
    have cf5 : (w6.alloc (.cells #[.int .i64 fk, .bool fb, .int .i64 fi, .string fs, .slice fal fnl fcl, .slice fam fnm fcm] 25)).cell? ⟨w6.heap.size, 5, none⟩ = some (.slice fam fnm fcm) := by rw [cell_of_block h6w7]; rfl
    go_wp2_with fail
    clear cg0 cg1 cg2 cg3 cg4 cg5 cf0 cf1 cf2 cf3 cf4 cf5
    generalize (w6.alloc (.cells #[.int .i64 fk, .bool fb, .int .i64 fi, .string fs, .slice fal fnl fcl, .slice fam fnm fcm] 25)) = w7 at *
    refine CS.out.mono ?_
    clear CS
    rintro e_ w8 ⟨rfl, bw8⟩
    have hzw8 := bw8.size
    have hvw8 := (bw8.block (w.heap.size) (by omega)).trans hvw7
    have h3w8 := (bw8.block (w2.heap.size) (by omega)).trans h3w7
    have h4w8 := (bw8.block (w4.heap.size) (by omega)).trans h4w7
    have h6w8 := (bw8.block (w6.heap.size) (by omega)).trans h6w7
    have Bww8 := Bww7.trans (bw8.mono (by omega))
    have Luw8 := hmk (V.lies_keep (R' := true) (S' := (fun y => w1.heap.size ≤ y ∧ y < w2.heap.size)) (fun h => h) (fun y hy => bw8.block y (by have := hy.2; omega)) (fun _ h => h) _ Luw7.out)
    clear Luw7
    have cu0 : w8.cell? ⟨w2.heap.size, 0, none⟩ = some (.int .i64 uk) := by rw [cell_of_block h3w8]; rfl
    have cu1 : w8.cell? ⟨w2.heap.size, 1, none⟩ = some (.bool ub) := by rw [cell_of_block h3w8]; rfl
    have cu2 : w8.cell? ⟨w2.heap.size, 2, none⟩ = some (.int .i64 ui) := by rw [cell_of_block h3w8]; rfl
    have cu3 : w8.cell? ⟨w2.heap.size, 3, none⟩ = some (.string us) := by rw [cell_of_block h3w8]; rfl
    have cu4 : w8.cell? ⟨w2.heap.size, 4, none⟩ = some (.slice ual unl ucl) := by rw [cell_of_block h3w8]; rfl
    have cu5 : w8.cell? ⟨w2.heap.size, 5, none⟩ = some (.slice uam unm ucm) := by rw [cell_of_block h3w8]; rfl
    have cv0 : w8.cell? ⟨w.heap.size, 0, none⟩ = some (.int .i64 vk) := by rw [cell_of_block hvw8]; rfl
    have cv1 : w8.cell? ⟨w.heap.size, 1, none⟩ = some (.bool vb) := by rw [cell_of_block hvw8]; rfl
    have cv2 : w8.cell? ⟨w.heap.size, 2, none⟩ = some (.int .i64 vi) := by rw [cell_of_block hvw8]; rfl
    have cv3 : w8.cell? ⟨w.heap.size, 3, none⟩ = some (.string vs) := by rw [cell_of_block hvw8]; rfl
    have cv4 : w8.cell? ⟨w.heap.size, 4, none⟩ = some (.slice val vnl vcl) := by rw [cell_of_block hvw8]; rfl
    have cv5 : w8.cell? ⟨w.heap.size, 5, none⟩ = some (.slice vam vnm vcm) := by rw [cell_of_block hvw8]; rfl
    go_wp2_with fail
    clear cu0 cu1 cu2 cu3 cu4 cu5 cv0 cv1 cv2 cv3 cv4 cv5
    refine (kept_any v false (fun y => w1.heap.size ≤ y ∧ y < w2.heap.size) (Old w) _ _ w8 Luw8.out (HL.out _ Bww8) (fun y hy => by have := hy.2; omega) (HO.out _ Bww8) (by omega)).mono ?_
    rintro e_ w9 ⟨rfl, bw9⟩
    have hzw9 := bw9.size
    have hvw9 := (bw9.block (w.heap.size) (by omega)).trans hvw8
    have h3w9 := (bw9.block (w2.heap.size) (by omega)).trans h3w8
    have h4w9 := (bw9.block (w4.heap.size) (by omega)).trans h4w8
    have h6w9 := (bw9.block (w6.heap.size) (by omega)).trans h6w8
    have Bww9 := Bww8.trans (bw9.mono (by omega))
    have hA4 : w.heap.size ≤ w4.heap.size := by omega
    have hA6 : w4.heap.size < w6.heap.size := by omega
    have hAz : w6.heap.size < w9.heap.size := by omega
    have H4 := hmk h4w9
    have H6 := hmk h6w9
    have HB := hmk Bww9
    generalize w4.heap.size = A4 at *
    generalize w6.heap.size = A6 at *
    go_wp2_with fail
    clear h4w9 h6w9 Bww9
    go_loopw [5, 7, 8] (fun e5 e7 e8 wr => ∃ (q : Nat) (r1 r2 : Int) (xk : Int) (xb : Bool) (xi : Int) (xs : ByteArray) (xal : Option Addr) (xnl xcl : Nat) (xam : Option Addr) (xnm xcm : Nat) (yk : Int) (yb : Bool) (yi : Int) (ys : ByteArray) (yal : Option Addr) (ynl ycl : Nat) (yam : Option Addr) (ynm ycm : Nat), 31 ≤ q ∧ q ≤ 34 ∧ e5 = .int .i64 r1 ∧ e7 = .int .i64 r2 ∧ e8 = .int .i64 (q : Int) ∧ Hid (wr.heap[A4]? = some (.cells #[.int .i64 xk, .bool xb, .int .i64 xi, .string xs, .slice xal xnl xcl, .slice xam xnm xcm] 25)) ∧ Hid (wr.heap[A6]? = some (.cells #[.int .i64 yk, .bool yb, .int .i64 yi, .string ys, .slice yal ynl ycl, .slice yam ynm ycm] 25)) ∧ Hid (Below w.heap.size w wr)) (fun _ _ e8 _ => 34 - (RowKit.intOf e8).toNat)
    case atStart => exact ⟨31, _, _, _, _, _, _, _, _, _, _, _, _, _, _, _, _, _, _, _, _, _, _, by omega, by omega, rfl, rfl, rfl, H4, H6, HB⟩
    case round =>
      clear H4 H6 HB
      obtain ⟨q, r1, r2, xk, xb, xi, xs, xal, xnl, xcl, xam, xnm, xcm, yk, yb, yi, ys, yal, ynl, ycl, yam, ynm, ycm, hq1, hq2, rfl, rfl, rfl, H4, H6, HB⟩ := hrel
      have h4wr := H4.out
      have h6wr := H6.out
      have Bwwr := HB.out
      have hz4 : A4 < wr.heap.size := (Array.getElem?_eq_some_iff.1 h4wr).1
      have hz6 : A6 < wr.heap.size := (Array.getElem?_eq_some_iff.1 h6wr).1
      clear H4 H6 HB
      by_cases hq : q < 34
      rotate_left
      · obtain rfl : q = 34 := by omega
        have yq : ¬ ((34 : Nat) : Int) < 34 := by omega
        go_wp2_with fail
        go_ret
        exact ⟨rfl, Bwwr⟩
      have yq : (q : Int) < 34 := by omega
      have hcw := ch_wt q q
      go_wp2_with fail
      refine (chain_any q (by omega) wr).mono ?_
      rintro e_ w10 ⟨cc_, rfl, lc_, bw10⟩
      obtain ⟨ck, cb, ci, cs, cal, cnl, ccl, cam, cnm, ccm, rfl⟩ := V.ten lc_
      have hzw10 := bw10.size
      have h4w10 := (bw10.block (A4) (by omega)).trans h4wr
      have h6w10 := (bw10.block (A6) (by omega)).trans h6wr
      have Bww10 := Bwwr.trans (bw10.mono (by omega))
      have Lcw10 := hmk lc_
      clear lc_ bw10
      go_wp2_with fail
      refine (clean_any (chV q q) (fun y => wr.heap.size ≤ y ∧ y < w10.heap.size) _ w10 (HT.out _ Bww10) Lcw10.out (fun y hy => by have := hy.2; omega) (by omega)).mono ?_
      rintro e_ w11 ⟨cg_, rfl, lg_, bw11⟩
      obtain ⟨gk, gb, gi, gs, gal, gnl, gcl, gam, gnm, gcm, rfl⟩ := V.ten lg_
      have hzw11 := bw11.size
      have h4w11 := (bw11.block (A4) (by omega)).trans h4w10
      have h6w11 := (bw11.block (A6) (by omega)).trans h6w10
      have Bww11 := Bww10.trans (bw11.mono (by omega))
      have Lcw11 := hmk (V.lies_keep (R' := false) (S' := (fun y => wr.heap.size ≤ y ∧ y < w10.heap.size)) (fun h => h) (fun y hy => bw11.block y (by have := hy.2; omega)) (fun _ h => h) _ Lcw10.out)
      clear Lcw10
      have Lgw11 := hmk lg_
      clear lg_ bw11
      have z0 : w11.cell? ⟨A4, 0, none⟩ = some (.int .i64 xk) := by rw [cell_of_block h4w11]; rfl
      have z1 : w11.cell? ⟨A4, 1, none⟩ = some (.bool xb) := by rw [cell_of_block h4w11]; rfl
      have z2 : w11.cell? ⟨A4, 2, none⟩ = some (.int .i64 xi) := by rw [cell_of_block h4w11]; rfl
      have z3 : w11.cell? ⟨A4, 3, none⟩ = some (.string xs) := by rw [cell_of_block h4w11]; rfl
      have z4 : w11.cell? ⟨A4, 4, none⟩ = some (.slice xal xnl xcl) := by rw [cell_of_block h4w11]; rfl
      have z5 : w11.cell? ⟨A4, 5, none⟩ = some (.slice xam xnm xcm) := by rw [cell_of_block h4w11]; rfl
      have f4 := frozen_of_block h4w11
      have How12 := hmk (six_o w11 (A4) (.int .i64 gk) (.bool gb) (.int .i64 gi) (.string gs) (.slice gal gnl gcl) (.slice gam gnm gcm))
      have Hsw12 : Hid (((((((w11.setCell ⟨A4, 0, none⟩ (.int .i64 gk)).setCell ⟨A4, 1, none⟩ (.bool gb)).setCell ⟨A4, 2, none⟩ (.int .i64 gi)).setCell ⟨A4, 3, none⟩ (.string gs)).setCell ⟨A4, 4, none⟩ (.slice gal gnl gcl)).setCell ⟨A4, 5, none⟩ (.slice gam gnm gcm)).heap.size = w11.heap.size) := by show _ = _; simp only [size_set1]
      have hgew12 : w11.heap.size ≤ ((((((w11.setCell ⟨A4, 0, none⟩ (.int .i64 gk)).setCell ⟨A4, 1, none⟩ (.bool gb)).setCell ⟨A4, 2, none⟩ (.int .i64 gi)).setCell ⟨A4, 3, none⟩ (.string gs)).setCell ⟨A4, 4, none⟩ (.slice gal gnl gcl)).setCell ⟨A4, 5, none⟩ (.slice gam gnm gcm)).heap.size := by rw [Hsw12.out]; exact Nat.le_refl _
      have h4w12 := box_six h4w11 (.int .i64 gk) (.bool gb) (.int .i64 gi) (.string gs) (.slice gal gnl gcl) (.slice gam gnm gcm)
      have h6w12 := (How12.out (A6) (by omega)).trans h6w11
      have Bww12 := Below.set6 Bww11 (M := A4) (by omega) 0 1 2 3 4 5 (.int .i64 gk) (.bool gb) (.int .i64 gi) (.string gs) (.slice gal gnl gcl) (.slice gam gnm gcm)
      have Lgw12 := hmk (V.lies_keep (R' := false) (S' := (fun y => w10.heap.size ≤ y ∧ y < w11.heap.size)) (fun h => h) (fun y hy => How12.out y (by have := hy.1; omega)) (fun _ h => h) _ Lgw11.out)
      clear Lgw11
      go_wp2_with fail
      clear z0 z1 z2 z3 z4 z5 f4
      generalize ((((((w11.setCell ⟨A4, 0, none⟩ (.int .i64 gk)).setCell ⟨A4, 1, none⟩ (.bool gb)).setCell ⟨A4, 2, none⟩ (.int .i64 gi)).setCell ⟨A4, 3, none⟩ (.string gs)).setCell ⟨A4, 4, none⟩ (.slice gal gnl gcl)).setCell ⟨A4, 5, none⟩ (.slice gam gnm gcm)) = w12 at *
      refine (chain_any q (by omega) w12).mono ?_
      rintro e_ w13 ⟨cd_, rfl, ld_, bw13⟩
      obtain ⟨dk, db, di, ds, dal, dnl, dcl, dam, dnm, dcm, rfl⟩ := V.ten ld_
      have hzw13 := bw13.size
      have h4w13 := (bw13.block (A4) (by omega)).trans h4w12
      have h6w13 := (bw13.block (A6) (by omega)).trans h6w12
      have Bww13 := Bww12.trans (bw13.mono (by omega))
      have Lgw13 := hmk (V.lies_keep (R' := false) (S' := (fun y => w10.heap.size ≤ y ∧ y < w11.heap.size)) (fun h => h) (fun y hy => bw13.block y (by have := hy.2; omega)) (fun _ h => h) _ Lgw12.out)
      clear Lgw12
      have Ldw13 := hmk ld_
      clear ld_ bw13
      go_wp2_with fail
      refine (rclean_any (chV q q) (fun y => w12.heap.size ≤ y ∧ y < w13.heap.size) _ w13 Ldw13.out (fun y hy => by have := hy.2; omega) (by omega)).mono ?_
      rintro e_ w14 ⟨cf_, rfl, lf_, bw14⟩
      obtain ⟨fk, fb, fi, fs, fal, fnl, fcl, fam, fnm, fcm, rfl⟩ := V.ten lf_
      have hzw14 := bw14.size
      have h4w14 := (bw14.block (A4) (by omega)).trans h4w13
      have h6w14 := (bw14.block (A6) (by omega)).trans h6w13
      have Bww14 := Bww13.trans (bw14.mono (by omega))
      have Lgw14 := hmk (V.lies_keep (R' := false) (S' := (fun y => w10.heap.size ≤ y ∧ y < w11.heap.size)) (fun h => h) (fun y hy => bw14.block y (by have := hy.2; omega)) (fun _ h => h) _ Lgw13.out)
      have Ldw14 := hmk (V.lies_keep (R' := false) (S' := (fun y => w12.heap.size ≤ y ∧ y < w13.heap.size)) (fun h => h) (fun y hy => bw14.block y (by have := hy.2; omega)) (fun _ h => h) _ Ldw13.out)
      clear Lgw13 Ldw13
      have Lfw14 := hmk lf_
      clear lf_ bw14
      have z0 : w14.cell? ⟨A6, 0, none⟩ = some (.int .i64 yk) := by rw [cell_of_block h6w14]; rfl
      have z1 : w14.cell? ⟨A6, 1, none⟩ = some (.bool yb) := by rw [cell_of_block h6w14]; rfl
      have z2 : w14.cell? ⟨A6, 2, none⟩ = some (.int .i64 yi) := by rw [cell_of_block h6w14]; rfl
      have z3 : w14.cell? ⟨A6, 3, none⟩ = some (.string ys) := by rw [cell_of_block h6w14]; rfl
      have z4 : w14.cell? ⟨A6, 4, none⟩ = some (.slice yal ynl ycl) := by rw [cell_of_block h6w14]; rfl
      have z5 : w14.cell? ⟨A6, 5, none⟩ = some (.slice yam ynm ycm) := by rw [cell_of_block h6w14]; rfl
      have f6 := frozen_of_block h6w14
      have How15 := hmk (six_o w14 (A6) (.int .i64 fk) (.bool fb) (.int .i64 fi) (.string fs) (.slice fal fnl fcl) (.slice fam fnm fcm))
      have Hsw15 : Hid (((((((w14.setCell ⟨A6, 0, none⟩ (.int .i64 fk)).setCell ⟨A6, 1, none⟩ (.bool fb)).setCell ⟨A6, 2, none⟩ (.int .i64 fi)).setCell ⟨A6, 3, none⟩ (.string fs)).setCell ⟨A6, 4, none⟩ (.slice fal fnl fcl)).setCell ⟨A6, 5, none⟩ (.slice fam fnm fcm)).heap.size = w14.heap.size) := by show _ = _; simp only [size_set1]
      have hgew15 : w14.heap.size ≤ ((((((w14.setCell ⟨A6, 0, none⟩ (.int .i64 fk)).setCell ⟨A6, 1, none⟩ (.bool fb)).setCell ⟨A6, 2, none⟩ (.int .i64 fi)).setCell ⟨A6, 3, none⟩ (.string fs)).setCell ⟨A6, 4, none⟩ (.slice fal fnl fcl)).setCell ⟨A6, 5, none⟩ (.slice fam fnm fcm)).heap.size := by rw [Hsw15.out]; exact Nat.le_refl _
      have h4w15 := (How15.out (A4) (by omega)).trans h4w14
      have h6w15 := box_six h6w14 (.int .i64 fk) (.bool fb) (.int .i64 fi) (.string fs) (.slice fal fnl fcl) (.slice fam fnm fcm)
      have Bww15 := Below.set6 Bww14 (M := A6) (by omega) 0 1 2 3 4 5 (.int .i64 fk) (.bool fb) (.int .i64 fi) (.string fs) (.slice fal fnl fcl) (.slice fam fnm fcm)
      have Lgw15 := hmk (V.lies_keep (R' := false) (S' := (fun y => w10.heap.size ≤ y ∧ y < w11.heap.size)) (fun h => h) (fun y hy => How15.out y (by have := hy.1; omega)) (fun _ h => h) _ Lgw14.out)
      have Lfw15 := hmk (V.lies_keep (R' := false) (S' := (fun y => w13.heap.size ≤ y ∧ y < w14.heap.size)) (fun h => h) (fun y hy => How15.out y (by have := hy.1; omega)) (fun _ h => h) _ Lfw14.out)
      clear Lgw14 Lfw14
      have CS := hmk (same_any (clnF (chV q q)).1 false false (clnF (chV q q)).1 (fun y => w10.heap.size ≤ y ∧ y < w11.heap.size) (fun y => w13.heap.size ≤ y ∧ y < w14.heap.size) _ _ ((((((w14.setCell ⟨A6, 0, none⟩ (.int .i64 fk)).setCell ⟨A6, 1, none⟩ (.bool fb)).setCell ⟨A6, 2, none⟩ (.int .i64 fi)).setCell ⟨A6, 3, none⟩ (.string fs)).setCell ⟨A6, 4, none⟩ (.slice fal fnl fcl)).setCell ⟨A6, 5, none⟩ (.slice fam fnm fcm)) Lgw15.out Lfw15.out (fun y hy => by have := hy.2; omega) (fun y hy => by have := hy.2; omega))
      rw [V.eqB_refl] at CS
      generalize (clnF (chV q q)).2 = er2 at *
      clear Lgw15 Lfw15
      have cg0 : ((((((w14.setCell ⟨A6, 0, none⟩ (.int .i64 fk)).setCell ⟨A6, 1, none⟩ (.bool fb)).setCell ⟨A6, 2, none⟩ (.int .i64 fi)).setCell ⟨A6, 3, none⟩ (.string fs)).setCell ⟨A6, 4, none⟩ (.slice fal fnl fcl)).setCell ⟨A6, 5, none⟩ (.slice fam fnm fcm)).cell? ⟨A4, 0, none⟩ = some (.int .i64 gk) := by rw [cell_of_block h4w15]; rfl
      have cg1 : ((((((w14.setCell ⟨A6, 0, none⟩ (.int .i64 fk)).setCell ⟨A6, 1, none⟩ (.bool fb)).setCell ⟨A6, 2, none⟩ (.int .i64 fi)).setCell ⟨A6, 3, none⟩ (.string fs)).setCell ⟨A6, 4, none⟩ (.slice fal fnl fcl)).setCell ⟨A6, 5, none⟩ (.slice fam fnm fcm)).cell? ⟨A4, 1, none⟩ = some (.bool gb) := by rw [cell_of_block h4w15]; rfl
      have cg2 : ((((((w14.setCell ⟨A6, 0, none⟩ (.int .i64 fk)).setCell ⟨A6, 1, none⟩ (.bool fb)).setCell ⟨A6, 2, none⟩ (.int .i64 fi)).setCell ⟨A6, 3, none⟩ (.string fs)).setCell ⟨A6, 4, none⟩ (.slice fal fnl fcl)).setCell ⟨A6, 5, none⟩ (.slice fam fnm fcm)).cell? ⟨A4, 2, none⟩ = some (.int .i64 gi) := by rw [cell_of_block h4w15]; rfl
      have cg3 : ((((((w14.setCell ⟨A6, 0, none⟩ (.int .i64 fk)).setCell ⟨A6, 1, none⟩ (.bool fb)).setCell ⟨A6, 2, none⟩ (.int .i64 fi)).setCell ⟨A6, 3, none⟩ (.string fs)).setCell ⟨A6, 4, none⟩ (.slice fal fnl fcl)).setCell ⟨A6, 5, none⟩ (.slice fam fnm fcm)).cell? ⟨A4, 3, none⟩ = some (.string gs) := by rw [cell_of_block h4w15]; rfl
      have cg4 : ((((((w14.setCell ⟨A6, 0, none⟩ (.int .i64 fk)).setCell ⟨A6, 1, none⟩ (.bool fb)).setCell ⟨A6, 2, none⟩ (.int .i64 fi)).setCell ⟨A6, 3, none⟩ (.string fs)).setCell ⟨A6, 4, none⟩ (.slice fal fnl fcl)).setCell ⟨A6, 5, none⟩ (.slice fam fnm fcm)).cell? ⟨A4, 4, none⟩ = some (.slice gal gnl gcl) := by rw [cell_of_block h4w15]; rfl
      have cg5 : ((((((w14.setCell ⟨A6, 0, none⟩ (.int .i64 fk)).setCell ⟨A6, 1, none⟩ (.bool fb)).setCell ⟨A6, 2, none⟩ (.int .i64 fi)).setCell ⟨A6, 3, none⟩ (.string fs)).setCell ⟨A6, 4, none⟩ (.slice fal fnl fcl)).setCell ⟨A6, 5, none⟩ (.slice fam fnm fcm)).cell? ⟨A4, 5, none⟩ = some (.slice gam gnm gcm) := by rw [cell_of_block h4w15]; rfl
      have cf0 : ((((((w14.setCell ⟨A6, 0, none⟩ (.int .i64 fk)).setCell ⟨A6, 1, none⟩ (.bool fb)).setCell ⟨A6, 2, none⟩ (.int .i64 fi)).setCell ⟨A6, 3, none⟩ (.string fs)).setCell ⟨A6, 4, none⟩ (.slice fal fnl fcl)).setCell ⟨A6, 5, none⟩ (.slice fam fnm fcm)).cell? ⟨A6, 0, none⟩ = some (.int .i64 fk) := by rw [cell_of_block h6w15]; rfl
      have cf1 : ((((((w14.setCell ⟨A6, 0, none⟩ (.int .i64 fk)).setCell ⟨A6, 1, none⟩ (.bool fb)).setCell ⟨A6, 2, none⟩ (.int .i64 fi)).setCell ⟨A6, 3, none⟩ (.string fs)).setCell ⟨A6, 4, none⟩ (.slice fal fnl fcl)).setCell ⟨A6, 5, none⟩ (.slice fam fnm fcm)).cell? ⟨A6, 1, none⟩ = some (.bool fb) := by rw [cell_of_block h6w15]; rfl
      have cf2 : ((((((w14.setCell ⟨A6, 0, none⟩ (.int .i64 fk)).setCell ⟨A6, 1, none⟩ (.bool fb)).setCell ⟨A6, 2, none⟩ (.int .i64 fi)).setCell ⟨A6, 3, none⟩ (.string fs)).setCell ⟨A6, 4, none⟩ (.slice fal fnl fcl)).setCell ⟨A6, 5, none⟩ (.slice fam fnm fcm)).cell? ⟨A6, 2, none⟩ = some (.int .i64 fi) := by rw [cell_of_block h6w15]; rfl
      have cf3 : ((((((w14.setCell ⟨A6, 0, none⟩ (.int .i64 fk)).setCell ⟨A6, 1, none⟩ (.bool fb)).setCell ⟨A6, 2, none⟩ (.int .i64 fi)).setCell ⟨A6, 3, none⟩ (.string fs)).setCell ⟨A6, 4, none⟩ (.slice fal fnl fcl)).setCell ⟨A6, 5, none⟩ (.slice fam fnm fcm)).cell? ⟨A6, 3, none⟩ = some (.string fs) := by rw [cell_of_block h6w15]; rfl
      have cf4 : ((((((w14.setCell ⟨A6, 0, none⟩ (.int .i64 fk)).setCell ⟨A6, 1, none⟩ (.bool fb)).setCell ⟨A6, 2, none⟩ (.int .i64 fi)).setCell ⟨A6, 3, none⟩ (.string fs)).setCell ⟨A6, 4, none⟩ (.slice fal fnl fcl)).setCell ⟨A6, 5, none⟩ (.slice fam fnm fcm)).cell? ⟨A6, 4, none⟩ = some (.slice fal fnl fcl) := by rw [cell_of_block h6w15]; rfl
      have cf5 : ((((((w14.setCell ⟨A6, 0, none⟩ (.int .i64 fk)).setCell ⟨A6, 1, none⟩ (.bool fb)).setCell ⟨A6, 2, none⟩ (.int .i64 fi)).setCell ⟨A6, 3, none⟩ (.string fs)).setCell ⟨A6, 4, none⟩ (.slice fal fnl fcl)).setCell ⟨A6, 5, none⟩ (.slice fam fnm fcm)).cell? ⟨A6, 5, none⟩ = some (.slice fam fnm fcm) := by rw [cell_of_block h6w15]; rfl
      go_wp2_with fail
      clear cg0 cg1 cg2 cg3 cg4 cg5 cf0 cf1 cf2 cf3 cf4 cf5 z0 z1 z2 z3 z4 z5 f6
      generalize ((((((w14.setCell ⟨A6, 0, none⟩ (.int .i64 fk)).setCell ⟨A6, 1, none⟩ (.bool fb)).setCell ⟨A6, 2, none⟩ (.int .i64 fi)).setCell ⟨A6, 3, none⟩ (.string fs)).setCell ⟨A6, 4, none⟩ (.slice fal fnl fcl)).setCell ⟨A6, 5, none⟩ (.slice fam fnm fcm)) = w15 at *
      refine CS.out.mono ?_
      clear CS
      rintro e_ w16 ⟨rfl, bw16⟩
      have hzw16 := bw16.size
      have h4w16 := (bw16.block (A4) (by omega)).trans h4w15
      have h6w16 := (bw16.block (A6) (by omega)).trans h6w15
      have Bww16 := Bww15.trans (bw16.mono (by omega))
      have H4 := hmk h4w16
      have H6 := hmk h6w16
      have HB := hmk Bww16
      go_wp2_with fail
      go_roundw
      case rel => exact ⟨q + 1, _, _, _, _, _, _, _, _, _, _, _, _, _, _, _, _, _, _, _, _, _, _, by omega, by omega, rfl, rfl, by go_num, H4, H6, HB⟩
      case measure => simp [RowKit.intOf]; omega
end Go.Proofs.YtjfldbmopjojdaaDoor
