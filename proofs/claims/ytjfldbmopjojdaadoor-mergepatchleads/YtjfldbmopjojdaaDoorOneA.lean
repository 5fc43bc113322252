import Derived.Test.YtjfldbmopjojdaaDoorG40
set_option linter.unusedSimpArgs false
set_option linter.unusedVariables false
namespace Go.Proofs.YtjfldbmopjojdaaDoor
open Go.RowKit Go.Lib
def oneV (key : ByteArray) (x : V) : V := .mk 5 false 0 ⟨#[]⟩ [] [(key, x)]
set_option maxHeartbeats 8000000 in
set_option maxRecDepth 100000 in
theorem one_any (key : ByteArray) (x : V) (S : Nat → Prop) (cs : List Value) (w : World) (hk : key.size ≤ maxLen) (hx : x.lies false w S cs) (hS : ∀ b, S b → b < w.heap.size) : Calls Tryd.prog 39 #[.string key, .agg cs.toArray] w (RpPost (oneV key x) S w) := by
 obtain ⟨ek, eb, ei, es, eal, enl, ecl, eam, enm, ecm, rfl⟩ := V.ten hx
 have hb : Below w.heap.size w (((w.alloc (.cells #[.int .i64 ek, .bool eb, .int .i64 ei, .string es, .slice eal enl ecl, .slice eam enm ecm] 25)).alloc (.cells #[.int .i64 5, .bool false, .int .i64 0, .string ⟨#[]⟩, .slice none 0 0, .slice (some ⟨w.heap.size + 1 + 1, 0, none⟩) 1 1] 25)).alloc (.cells #[.string key, .int .i64 ek, .bool eb, .int .i64 ei, .string es, .slice eal enl ecl, .slice eam enm ecm] 57)) := three_below w _ _ _
 obtain ⟨h1, h2, h3⟩ := three_allocs w (.cells #[.int .i64 ek, .bool eb, .int .i64 ei, .string es, .slice eal enl ecl, .slice eam enm ecm] 25) (.cells #[.int .i64 5, .bool false, .int .i64 0, .string ⟨#[]⟩, .slice none 0 0, .slice (some ⟨w.heap.size + 1 + 1, 0, none⟩) 1 1] 25) (.cells #[.string key, .int .i64 ek, .bool eb, .int .i64 ei, .string es, .slice eal enl ecl, .slice eam enm ecm] 57)
 have hz : (((w.alloc (.cells #[.int .i64 ek, .bool eb, .int .i64 ei, .string es, .slice eal enl ecl, .slice eam enm ecm] 25)).alloc (.cells #[.int .i64 5, .bool false, .int .i64 0, .string ⟨#[]⟩, .slice none 0 0, .slice (some ⟨w.heap.size + 1 + 1, 0, none⟩) 1 1] 25)).alloc (.cells #[.string key, .int .i64 ek, .bool eb, .int .i64 ei, .string es, .slice eal enl ecl, .slice eam enm ecm] 57)).heap.size = w.heap.size + 3 := by rw [alloc_size, alloc_size, alloc_size]
 go_enter Tryd.func39, Tryd.ntmps39
 go_wp2_with fail
 (try simp only [Exit.inBlock, Exit.then])
 refine bodyPost_ret (v := .agg #[.int .i64 5, .bool false, .int .i64 0, .string ⟨#[]⟩, .slice none 0 0, .slice (some ⟨w.heap.size + 1 + 1, 0, none⟩) 1 1]) ?_ rfl ?_
 rotate_left
 ·refine ⟨[.int .i64 5, .bool false, .int .i64 0, .string ⟨#[]⟩, .slice none 0 0, .slice (some ⟨w.heap.size + 1 + 1, 0, none⟩) 1 1], rfl, ?_, hb⟩
  rw [oneV, V.lies]
  refine ⟨none, 0, 0, 0, some ⟨w.heap.size + 1 + 1, 0, none⟩, 1, w.heap.size + 1 + 1, 0, rfl, ⟨by decide, by decide⟩, ⟨by decide, by decide⟩, by decide, headed_nil, ⟨Nat.le_refl _, by decide, .inr rfl, fun e => by cases e⟩, by rw [liesL]; trivial, ?_, fun e => by cases e⟩
  rw [liesM, liesM]
  refine ⟨.inr ⟨by omega, by omega⟩, ⟨hk, [.int .i64 ek, .bool eb, .int .i64 ei, .string es, .slice eal enl ecl, .slice eam enm ecm], ?_, V.lies_keep (fun h => h) (fun y hy => hb.block y (hS y hy)) (fun y hy => .inl hy) _ hx⟩, trivial⟩
  intro q u hu
  rw [cell_of_block h3]
  simpa using hu
 ·rw [results_cell1 rfl]
  go_simp
theorem num_any (k : Int) (w : World) : Calls Tryd.prog 22 #[.int .i64 k] w fun e w' => e = .returned (.int .i64 k) ∧ Below w.heap.size w w' := by
 go_enter Tryd.func22, Tryd.ntmps22
 go_wp2_with fail
 go_ret
 exact ⟨rfl, Below.refl _ _⟩
set_option maxHeartbeats 8000000 in
set_option maxRecDepth 100000 in
theorem good_any (v : V) (S : Nat → Prop) (cs : List Value) (w : World) (tb : Tb w) (hv : v.lies false w S cs) (hS : ∀ b, S b → b < w.heap.size) (hwt : v.wt ≤ 2147483648) : Calls Tryd.prog 21 #[.agg cs.toArray] w (BPost (decide (chkE v 32 = 0)) w) := by
 obtain ⟨vk, vb, vi, vs, val, vnl, vcl, vam, vnm, vcm, rfl⟩ := V.ten hv
 have hb : Below w.heap.size w (w.alloc (.cells #[.int .i64 vk, .bool vb, .int .i64 vi, .string vs, .slice val vnl vcl, .slice vam vnm vcm] 25)) := (Below.refl _ _).alloc (Nat.le_refl _) _
 have hn := heap_alloc_new w (.cells #[.int .i64 vk, .bool vb, .int .i64 vi, .string vs, .slice val vnl vcl, .slice vam vnm vcm] 25)
 have c0 : (w.alloc (.cells #[.int .i64 vk, .bool vb, .int .i64 vi, .string vs, .slice val vnl vcl, .slice vam vnm vcm] 25)).cell? ⟨w.heap.size, 0, none⟩ = some (.int .i64 vk) := by rw [cell_of_block hn]; rfl
 have c1 : (w.alloc (.cells #[.int .i64 vk, .bool vb, .int .i64 vi, .string vs, .slice val vnl vcl, .slice vam vnm vcm] 25)).cell? ⟨w.heap.size, 1, none⟩ = some (.bool vb) := by rw [cell_of_block hn]; rfl
 have c2 : (w.alloc (.cells #[.int .i64 vk, .bool vb, .int .i64 vi, .string vs, .slice val vnl vcl, .slice vam vnm vcm] 25)).cell? ⟨w.heap.size, 2, none⟩ = some (.int .i64 vi) := by rw [cell_of_block hn]; rfl
 have c3 : (w.alloc (.cells #[.int .i64 vk, .bool vb, .int .i64 vi, .string vs, .slice val vnl vcl, .slice vam vnm vcm] 25)).cell? ⟨w.heap.size, 3, none⟩ = some (.string vs) := by rw [cell_of_block hn]; rfl
 have c4 : (w.alloc (.cells #[.int .i64 vk, .bool vb, .int .i64 vi, .string vs, .slice val vnl vcl, .slice vam vnm vcm] 25)).cell? ⟨w.heap.size, 4, none⟩ = some (.slice val vnl vcl) := by rw [cell_of_block hn]; rfl
 have c5 : (w.alloc (.cells #[.int .i64 vk, .bool vb, .int .i64 vi, .string vs, .slice val vnl vcl, .slice vam vnm vcm] 25)).cell? ⟨w.heap.size, 5, none⟩ = some (.slice vam vnm vcm) := by rw [cell_of_block hn]; rfl
 have CC := check_any false v 32 S _ (w.alloc (.cells #[.int .i64 vk, .bool vb, .int .i64 vi, .string vs, .slice val vnl vcl, .slice vam vnm vcm] 25)) (tb.below hb tb.z) (V.lies_keep (fun h => h) (fun y hy => hb.block y (hS y hy)) (fun y hy => hy) _ hv) (fun y hy => by have := hS y hy; have := hb.size; omega) (by omega)
 go_enter Tryd.func21, Tryd.ntmps21
 go_wp2_with fail
 refine CC.mono ?_
 rintro e w2 ⟨rfl, b2⟩
 have hD : decide ((chkE v 32 : Int) = 0) = decide (chkE v 32 = 0) := by
  by_cases h : chkE v 32 = 0
  ·simp [h]
  ·have h' : ¬ (chkE v 32 : Int) = 0 := by omega
   simp [h, h']
 have hB : ((chkE v 32 : Int) == 0) = decide (chkE v 32 = 0) := by rw [← hD]; rfl
 generalize decide (chkE v 32 = 0) = Z at *
 generalize chkE v 32 = c at *
 clear CC
 go_wp2_with fail
 refine (num_any (c : Int) w2).mono ?_
 rintro e w3 ⟨rfl, b3⟩
 go_wp2_with fail
 go_ret
 exact ⟨by rw [← hB]; rfl, hb.trans ((b2.trans (b3.mono b2.size)).mono hb.size)⟩
end Go.Proofs.YtjfldbmopjojdaaDoor
