import Derived.Test.YtljgofmmihmmfaaDoorRwtA
/- the document's With. -/
set_option linter.unusedSimpArgs false
set_option linter.unusedVariables false
namespace Go.Proofs.YtljgofmmihmmfaaDoor
open Go.RowKit Go.Lib

/-- the members below a key, the key, and those above it among the first j -/
def gL (LB : List Mem) (key : ByteArray) (m : List Mem) (j : Nat) : List Mem := LB ++ fL (moreKey key) m j
theorem gL_yes {LB m : List Mem} {key : ByteArray} {i : Nat} (h : i < m.length) (hf : moreKey key m[i] = true) : gL LB key m (i + 1) = gL LB key m i ++ [m[i]] := by
  rw [gL, gL, fL_yes h hf, List.append_assoc]
theorem gL_no {LB m : List Mem} {key : ByteArray} {i : Nat} (h : i < m.length) (hf : moreKey key m[i] = false) : gL LB key m (i + 1) = gL LB key m i := by
  rw [gL, gL, fL_no h hf]
theorem gL_zero (LB m : List Mem) (key : ByteArray) : gL LB key m 0 = LB := by rw [gL, fL_zero, List.append_nil]

set_option maxHeartbeats 6000000 in
set_option maxRecDepth 100000 in
theorem rwith_any (v x : V) (key : ByteArray) (R Q : Bool) (S T : Nat → Prop) (cs cx : List Value) (w : World) (hv : v.lies R w S cs) (hx : x.lies Q w T cx) (hS : ∀ b, S b → b < w.heap.size) (hT : ∀ b, T b → b < w.heap.size) (hkey : key.size ≤ 140737488355328) (hwt : v.wt ≤ 2147483648) (hwx : x.wt ≤ 2147483648) :
    Calls Tryd.prog 33 #[.agg cs.toArray, .string key, .agg cx.toArray] w (VePost (withV v key x) (withE v key x) w) := by
  obtain ⟨k, b, i, s, l, m⟩ := v
  have hv0 := hv
  rw [V.lies] at hv
  obtain ⟨al, cl, bl, ol, am, cm, bm, om, rfl, hk, hi, hs, hal, ham, hl0, hm, _⟩ := hv
  obtain ⟨xk, xb, xi, xs, xal, xnl, xcl, xam, xnm, xcm, rfl⟩ := V.ten hx
  have hkm : key.size ≤ maxLen := Nat.le_trans hkey (by decide)
  have hz2 : (((w.alloc (.cells #[.int .i64 k, .bool b, .int .i64 i, .string s, .slice al l.length cl, .slice am m.length cm] 25)).alloc (.cells #[.int .i64 xk, .bool xb, .int .i64 xi, .string xs, .slice xal xnl xcl, .slice xam xnm xcm] 25)).alloc (.cells #[.int .i64 0, .bool false, .int .i64 0, .string ⟨#[]⟩, .slice none 0 0, .slice none 0 0] 25)).heap.size = w.heap.size + 3 := by rw [alloc_size, alloc_size, alloc_size]
  have B0 : Below w.heap.size w (((w.alloc (.cells #[.int .i64 k, .bool b, .int .i64 i, .string s, .slice al l.length cl, .slice am m.length cm] 25)).alloc (.cells #[.int .i64 xk, .bool xb, .int .i64 xi, .string xs, .slice xal xnl xcl, .slice xam xnm xcm] 25)).alloc (.cells #[.int .i64 0, .bool false, .int .i64 0, .string ⟨#[]⟩, .slice none 0 0, .slice none 0 0] 25)) := three_below w _ _ _
  have ba : Below (w.heap.size + 2) ((w.alloc (.cells #[.int .i64 k, .bool b, .int .i64 i, .string s, .slice al l.length cl, .slice am m.length cm] 25)).alloc (.cells #[.int .i64 xk, .bool xb, .int .i64 xi, .string xs, .slice xal xnl xcl, .slice xam xnm xcm] 25)) (((w.alloc (.cells #[.int .i64 k, .bool b, .int .i64 i, .string s, .slice al l.length cl, .slice am m.length cm] 25)).alloc (.cells #[.int .i64 xk, .bool xb, .int .i64 xi, .string xs, .slice xal xnl xcl, .slice xam xnm xcm] 25)).alloc (.cells #[.int .i64 0, .bool false, .int .i64 0, .string ⟨#[]⟩, .slice none 0 0, .slice none 0 0] 25)) := (Below.refl _ _).alloc (by rw [alloc_size, alloc_size]; exact Nat.le_refl _) _
  have h0 := (ba.block w.heap.size (by omega)).trans (alloc2_keep1 w (.cells #[.int .i64 k, .bool b, .int .i64 i, .string s, .slice al l.length cl, .slice am m.length cm] 25) (.cells #[.int .i64 xk, .bool xb, .int .i64 xi, .string xs, .slice xal xnl xcl, .slice xam xnm xcm] 25))
  have h1 := (ba.block (w.heap.size + 1) (by omega)).trans (alloc2_new w (.cells #[.int .i64 k, .bool b, .int .i64 i, .string s, .slice al l.length cl, .slice am m.length cm] 25) (.cells #[.int .i64 xk, .bool xb, .int .i64 xi, .string xs, .slice xal xnl xcl, .slice xam xnm xcm] 25))
  have h2 : (((w.alloc (.cells #[.int .i64 k, .bool b, .int .i64 i, .string s, .slice al l.length cl, .slice am m.length cm] 25)).alloc (.cells #[.int .i64 xk, .bool xb, .int .i64 xi, .string xs, .slice xal xnl xcl, .slice xam xnm xcm] 25)).alloc (.cells #[.int .i64 0, .bool false, .int .i64 0, .string ⟨#[]⟩, .slice none 0 0, .slice none 0 0] 25)).heap[w.heap.size + 2]? = some (.cells #[.int .i64 0, .bool false, .int .i64 0, .string ⟨#[]⟩, .slice none 0 0, .slice none 0 0] 25) := by
    have := heap_alloc_new ((w.alloc (.cells #[.int .i64 k, .bool b, .int .i64 i, .string s, .slice al l.length cl, .slice am m.length cm] 25)).alloc (.cells #[.int .i64 xk, .bool xb, .int .i64 xi, .string xs, .slice xal xnl xcl, .slice xam xnm xcm] 25)) (.cells #[.int .i64 0, .bool false, .int .i64 0, .string ⟨#[]⟩, .slice none 0 0, .slice none 0 0] 25)
    rwa [alloc_size, alloc_size] at this
  clear ba
  have HV : Hid (∀ W, Below w.heap.size w W → (V.mk k b i s l m).lies R W S [.int .i64 k, .bool b, .int .i64 i, .string s, .slice al l.length cl, .slice am m.length cm] ∧ (∀ b, S b → b < W.heap.size)) := fun W hb => ⟨V.lies_keep (fun h => h) (fun x hx => hb.block x (hS x hx)) (fun _ h => h) _ hv0, fun x hx => Nat.lt_of_lt_of_le (hS x hx) hb.size⟩
  have HX : Hid (∀ W, Below w.heap.size w W → x.lies Q W T [.int .i64 xk, .bool xb, .int .i64 xi, .string xs, .slice xal xnl xcl, .slice xam xnm xcm] ∧ (∀ b, T b → b < W.heap.size)) := fun W hb => ⟨V.lies_keep (fun h => h) (fun x hx => hb.block x (hT x hx)) (fun _ h => h) _ hx, fun x hx => Nat.lt_of_lt_of_le (hT x hx) hb.size⟩
  have HM : Hid (∀ W, Below w.heap.size w W → liesM R W S m bm om) := fun W hb => liesM_keep (fun h => h) (fun x hx => hb.block x (hS x hx)) (fun _ h => h) _ hm
  have hml : m.length ≤ 2147483647 := by have := wtM_len m; simp only [V.wt] at hwt; omega
  have hwm : wtM m ≤ 2147483648 := by simp only [V.wt] at hwt; omega
  have HW : Hid (∀ j (h : j < m.length), (m[j]).2.wt ≤ 2147483648) := fun j h => by
    have := wtM_mem (List.getElem_mem h : m[j] ∈ m)
    omega
  clear hv0 hm hl0 hx
  have d0 : (((w.alloc (.cells #[.int .i64 k, .bool b, .int .i64 i, .string s, .slice al l.length cl, .slice am m.length cm] 25)).alloc (.cells #[.int .i64 xk, .bool xb, .int .i64 xi, .string xs, .slice xal xnl xcl, .slice xam xnm xcm] 25)).alloc (.cells #[.int .i64 0, .bool false, .int .i64 0, .string ⟨#[]⟩, .slice none 0 0, .slice none 0 0] 25)).cell? ⟨w.heap.size, 0, none⟩ = some (.int .i64 k) := by rw [cell_of_block h0]; rfl
  have d1 : (((w.alloc (.cells #[.int .i64 k, .bool b, .int .i64 i, .string s, .slice al l.length cl, .slice am m.length cm] 25)).alloc (.cells #[.int .i64 xk, .bool xb, .int .i64 xi, .string xs, .slice xal xnl xcl, .slice xam xnm xcm] 25)).alloc (.cells #[.int .i64 0, .bool false, .int .i64 0, .string ⟨#[]⟩, .slice none 0 0, .slice none 0 0] 25)).cell? ⟨w.heap.size, 1, none⟩ = some (.bool b) := by rw [cell_of_block h0]; rfl
  have d2 : (((w.alloc (.cells #[.int .i64 k, .bool b, .int .i64 i, .string s, .slice al l.length cl, .slice am m.length cm] 25)).alloc (.cells #[.int .i64 xk, .bool xb, .int .i64 xi, .string xs, .slice xal xnl xcl, .slice xam xnm xcm] 25)).alloc (.cells #[.int .i64 0, .bool false, .int .i64 0, .string ⟨#[]⟩, .slice none 0 0, .slice none 0 0] 25)).cell? ⟨w.heap.size, 2, none⟩ = some (.int .i64 i) := by rw [cell_of_block h0]; rfl
  have d3 : (((w.alloc (.cells #[.int .i64 k, .bool b, .int .i64 i, .string s, .slice al l.length cl, .slice am m.length cm] 25)).alloc (.cells #[.int .i64 xk, .bool xb, .int .i64 xi, .string xs, .slice xal xnl xcl, .slice xam xnm xcm] 25)).alloc (.cells #[.int .i64 0, .bool false, .int .i64 0, .string ⟨#[]⟩, .slice none 0 0, .slice none 0 0] 25)).cell? ⟨w.heap.size, 3, none⟩ = some (.string s) := by rw [cell_of_block h0]; rfl
  have d4 : (((w.alloc (.cells #[.int .i64 k, .bool b, .int .i64 i, .string s, .slice al l.length cl, .slice am m.length cm] 25)).alloc (.cells #[.int .i64 xk, .bool xb, .int .i64 xi, .string xs, .slice xal xnl xcl, .slice xam xnm xcm] 25)).alloc (.cells #[.int .i64 0, .bool false, .int .i64 0, .string ⟨#[]⟩, .slice none 0 0, .slice none 0 0] 25)).cell? ⟨w.heap.size, 4, none⟩ = some (.slice al l.length cl) := by rw [cell_of_block h0]; rfl
  have d5 : (((w.alloc (.cells #[.int .i64 k, .bool b, .int .i64 i, .string s, .slice al l.length cl, .slice am m.length cm] 25)).alloc (.cells #[.int .i64 xk, .bool xb, .int .i64 xi, .string xs, .slice xal xnl xcl, .slice xam xnm xcm] 25)).alloc (.cells #[.int .i64 0, .bool false, .int .i64 0, .string ⟨#[]⟩, .slice none 0 0, .slice none 0 0] 25)).cell? ⟨w.heap.size, 5, none⟩ = some (.slice am m.length cm) := by rw [cell_of_block h0]; rfl
  go_enter Tryd.func33, Tryd.ntmps33
  go_wp2_with fail
  clear d0 d1 d2 d3 d4 d5
  generalize (((w.alloc (.cells #[.int .i64 k, .bool b, .int .i64 i, .string s, .slice al l.length cl, .slice am m.length cm] 25)).alloc (.cells #[.int .i64 xk, .bool xb, .int .i64 xi, .string xs, .slice xal xnl xcl, .slice xam xnm xcm] 25)).alloc (.cells #[.int .i64 0, .bool false, .int .i64 0, .string ⟨#[]⟩, .slice none 0 0, .slice none 0 0] 25)) = w0 at *
  refine (rtaken_any R (V.mk k b i s l m) S _ w0 (HV.out w0 B0).1 (HV.out w0 B0).2 (by omega)).mono ?_
  rintro e w1 ⟨rfl, b1⟩
  have hz1 := b1.size
  have B1 := B0.trans (b1.mono (by omega))
  have t0 := (b1.block w.heap.size (by omega)).trans h0
  have t1 := (b1.block (w.heap.size + 1) (by omega)).trans h1
  have t2 := (b1.block (w.heap.size + 2) (by omega)).trans h2
  clear h0 h1 h2 B0 b1
  have f0 : w1.cell? ⟨w.heap.size + 1, 0, none⟩ = some (.int .i64 xk) := by rw [cell_of_block t1]; rfl
  have f1 : w1.cell? ⟨w.heap.size + 1, 1, none⟩ = some (.bool xb) := by rw [cell_of_block t1]; rfl
  have f2 : w1.cell? ⟨w.heap.size + 1, 2, none⟩ = some (.int .i64 xi) := by rw [cell_of_block t1]; rfl
  have f3 : w1.cell? ⟨w.heap.size + 1, 3, none⟩ = some (.string xs) := by rw [cell_of_block t1]; rfl
  have f4 : w1.cell? ⟨w.heap.size + 1, 4, none⟩ = some (.slice xal xnl xcl) := by rw [cell_of_block t1]; rfl
  have f5 : w1.cell? ⟨w.heap.size + 1, 5, none⟩ = some (.slice xam xnm xcm) := by rw [cell_of_block t1]; rfl
  have HWV : Hid (withV (V.mk k b i s l m) key x = if k = 5 ∧ okV (.mk k b i s l m) = true ∧ okV x = true then mapV (withL m key x) else nullV) := rfl
  have HWE : Hid (withE (V.mk k b i s l m) key x = if k = 5 ∧ okV (.mk k b i s l m) = true ∧ okV x = true then mapE (withL m key x) else 20) := rfl
  have HSR : Hid (okV (V.mk k b i s l m) = true → Srt m) := fun h => srt_ok h
  obtain ⟨oa, hoa⟩ : ∃ oa, okV (V.mk k b i s l m) = oa := ⟨_, rfl⟩
  obtain ⟨ox, hox⟩ : ∃ ox, okV x = ox := ⟨_, rfl⟩
  rw [hoa] at HWV HWE HSR ⊢
  rw [hox] at HWV HWE
  have HOX : Hid (okV x = ox) := hox
  clear hoa hox
  go_wp2_with fail
  refine (rtaken_any Q x T _ w1 (HX.out w1 B1).1 (HX.out w1 B1).2 (by omega)).mono ?_
  rintro e wz ⟨rfl, b5⟩
  rw [HOX.out]
  have hz5 := b5.size
  have B5 := B1.trans (b5.mono (by omega))
  have t0b := (b5.block w.heap.size (by omega)).trans t0
  have t1b := (b5.block (w.heap.size + 1) (by omega)).trans t1
  have t2b := (b5.block (w.heap.size + 2) (by omega)).trans t2
  clear t0 t1 t2 B1 b5 f0 f1 f2 f3 f4 f5 HOX
  have cu := utf_wide key wz (by omega)
  have HWB : Hid (utfB key = false → mapE (withL m key x) = 20 ∧ mapV (withL m key x) = nullV) := fun h => with_bad h
  generalize utfB key = ub at *
  go_wp2_with fail
  refine cu.mono ?_
  rintro e wy ⟨rfl, hwy⟩
  obtain rfl : wz = wy := hwy.symm
  clear cu
  have g0 : wz.cell? ⟨w.heap.size, 0, none⟩ = some (.int .i64 k) := by rw [cell_of_block t0b]; rfl
  cases oa with
  | false =>
    have HF : Hid (withV (V.mk k b i s l m) key x = nullV ∧ withE (V.mk k b i s l m) key x = 20) := by
      show _ ∧ _
      rw [HWV.out, HWE.out, if_neg (fun h => by cases h.2.1), if_neg (fun h => by cases h.2.1)]; exact ⟨rfl, rfl⟩
    have r0 : wz.cell? ⟨w.heap.size + 2, 0, none⟩ = some (.int .i64 0) := by rw [cell_of_block t2b]; rfl
    have r1 : wz.cell? ⟨w.heap.size + 2, 1, none⟩ = some (.bool false) := by rw [cell_of_block t2b]; rfl
    have r2 : wz.cell? ⟨w.heap.size + 2, 2, none⟩ = some (.int .i64 0) := by rw [cell_of_block t2b]; rfl
    have r3 : wz.cell? ⟨w.heap.size + 2, 3, none⟩ = some (.string ⟨#[]⟩) := by rw [cell_of_block t2b]; rfl
    have r4 : wz.cell? ⟨w.heap.size + 2, 4, none⟩ = some (.slice none 0 0) := by rw [cell_of_block t2b]; rfl
    have r5 : wz.cell? ⟨w.heap.size + 2, 5, none⟩ = some (.slice none 0 0) := by rw [cell_of_block t2b]; rfl
    have rf : ∀ i, wz.frozen? ⟨w.heap.size + 2, i, none⟩ = false := frozen_of_block t2b
    go_wp2_with fail
    (try simp only [Exit.inBlock, Exit.then])
    refine bodyPost_ret (v := .tuple #[.agg #[.int .i64 0, .bool false, .int .i64 0, .string ⟨#[]⟩, .slice none 0 0, .slice none 0 0], .int .i64 20]) ?_ rfl (by rw [HF.out.1, HF.out.2]; exact ⟨[.int .i64 0, .bool false, .int .i64 0, .string ⟨#[]⟩, .slice none 0 0, .slice none 0 0], rfl, null_lies _ _, Below.set6 B5 (by omega) _ _ _ _ _ _ _ _ _ _ _ _⟩)
    rw [results_cell_tmp rfl]
    go_simp
  | true =>
  by_cases hk5 : k = 5
  rotate_left 1
  · have HF : Hid (withV (V.mk k b i s l m) key x = nullV ∧ withE (V.mk k b i s l m) key x = 20) := by
      show _ ∧ _
      rw [HWV.out, HWE.out, if_neg (fun h => hk5 h.1), if_neg (fun h => hk5 h.1)]; exact ⟨rfl, rfl⟩
    have r0 : wz.cell? ⟨w.heap.size + 2, 0, none⟩ = some (.int .i64 0) := by rw [cell_of_block t2b]; rfl
    have r1 : wz.cell? ⟨w.heap.size + 2, 1, none⟩ = some (.bool false) := by rw [cell_of_block t2b]; rfl
    have r2 : wz.cell? ⟨w.heap.size + 2, 2, none⟩ = some (.int .i64 0) := by rw [cell_of_block t2b]; rfl
    have r3 : wz.cell? ⟨w.heap.size + 2, 3, none⟩ = some (.string ⟨#[]⟩) := by rw [cell_of_block t2b]; rfl
    have r4 : wz.cell? ⟨w.heap.size + 2, 4, none⟩ = some (.slice none 0 0) := by rw [cell_of_block t2b]; rfl
    have r5 : wz.cell? ⟨w.heap.size + 2, 5, none⟩ = some (.slice none 0 0) := by rw [cell_of_block t2b]; rfl
    have rf : ∀ i, wz.frozen? ⟨w.heap.size + 2, i, none⟩ = false := frozen_of_block t2b
    go_wp2_with fail
    (try simp only [Exit.inBlock, Exit.then])
    refine bodyPost_ret (v := .tuple #[.agg #[.int .i64 0, .bool false, .int .i64 0, .string ⟨#[]⟩, .slice none 0 0, .slice none 0 0], .int .i64 20]) ?_ rfl (by rw [HF.out.1, HF.out.2]; exact ⟨[.int .i64 0, .bool false, .int .i64 0, .string ⟨#[]⟩, .slice none 0 0, .slice none 0 0], rfl, null_lies _ _, Below.set6 B5 (by omega) _ _ _ _ _ _ _ _ _ _ _ _⟩)
    rw [results_cell_tmp rfl]
    go_simp
  obtain rfl := hk5
  cases ub with
  | false =>
    have HF : Hid (withV (V.mk 5 b i s l m) key x = nullV ∧ withE (V.mk 5 b i s l m) key x = 20) := by
      show _ ∧ _
      rw [HWV.out, HWE.out, (HWB.out rfl).1, (HWB.out rfl).2]; simp
    have r0 : wz.cell? ⟨w.heap.size + 2, 0, none⟩ = some (.int .i64 0) := by rw [cell_of_block t2b]; rfl
    have r1 : wz.cell? ⟨w.heap.size + 2, 1, none⟩ = some (.bool false) := by rw [cell_of_block t2b]; rfl
    have r2 : wz.cell? ⟨w.heap.size + 2, 2, none⟩ = some (.int .i64 0) := by rw [cell_of_block t2b]; rfl
    have r3 : wz.cell? ⟨w.heap.size + 2, 3, none⟩ = some (.string ⟨#[]⟩) := by rw [cell_of_block t2b]; rfl
    have r4 : wz.cell? ⟨w.heap.size + 2, 4, none⟩ = some (.slice none 0 0) := by rw [cell_of_block t2b]; rfl
    have r5 : wz.cell? ⟨w.heap.size + 2, 5, none⟩ = some (.slice none 0 0) := by rw [cell_of_block t2b]; rfl
    have rf : ∀ i, wz.frozen? ⟨w.heap.size + 2, i, none⟩ = false := frozen_of_block t2b
    go_wp2_with fail
    (try simp only [Exit.inBlock, Exit.then])
    refine bodyPost_ret (v := .tuple #[.agg #[.int .i64 0, .bool false, .int .i64 0, .string ⟨#[]⟩, .slice none 0 0, .slice none 0 0], .int .i64 20]) ?_ rfl (by rw [HF.out.1, HF.out.2]; exact ⟨[.int .i64 0, .bool false, .int .i64 0, .string ⟨#[]⟩, .slice none 0 0, .slice none 0 0], rfl, null_lies _ _, Below.set6 B5 (by omega) _ _ _ _ _ _ _ _ _ _ _ _⟩)
    rw [results_cell_tmp rfl]
    go_simp
  | true =>
  cases ox with
  | false =>
    have HF : Hid (withV (V.mk 5 b i s l m) key x = nullV ∧ withE (V.mk 5 b i s l m) key x = 20) := by
      show _ ∧ _
      rw [HWV.out, HWE.out, if_neg (fun h => by cases h.2.2), if_neg (fun h => by cases h.2.2)]; exact ⟨rfl, rfl⟩
    have r0 : wz.cell? ⟨w.heap.size + 2, 0, none⟩ = some (.int .i64 0) := by rw [cell_of_block t2b]; rfl
    have r1 : wz.cell? ⟨w.heap.size + 2, 1, none⟩ = some (.bool false) := by rw [cell_of_block t2b]; rfl
    have r2 : wz.cell? ⟨w.heap.size + 2, 2, none⟩ = some (.int .i64 0) := by rw [cell_of_block t2b]; rfl
    have r3 : wz.cell? ⟨w.heap.size + 2, 3, none⟩ = some (.string ⟨#[]⟩) := by rw [cell_of_block t2b]; rfl
    have r4 : wz.cell? ⟨w.heap.size + 2, 4, none⟩ = some (.slice none 0 0) := by rw [cell_of_block t2b]; rfl
    have r5 : wz.cell? ⟨w.heap.size + 2, 5, none⟩ = some (.slice none 0 0) := by rw [cell_of_block t2b]; rfl
    have rf : ∀ i, wz.frozen? ⟨w.heap.size + 2, i, none⟩ = false := frozen_of_block t2b
    go_wp2_with fail
    (try simp only [Exit.inBlock, Exit.then])
    refine bodyPost_ret (v := .tuple #[.agg #[.int .i64 0, .bool false, .int .i64 0, .string ⟨#[]⟩, .slice none 0 0, .slice none 0 0], .int .i64 20]) ?_ rfl (by rw [HF.out.1, HF.out.2]; exact ⟨[.int .i64 0, .bool false, .int .i64 0, .string ⟨#[]⟩, .slice none 0 0, .slice none 0 0], rfl, null_lies _ _, Below.set6 B5 (by omega) _ _ _ _ _ _ _ _ _ _ _ _⟩)
    rw [results_cell_tmp rfl]
    go_simp
  | true =>
  have HSM : Hid (Srt m) := HSR.out rfl
  have HF : Hid (withV (V.mk 5 b i s l m) key x = mapV (withL m key x) ∧ withE (V.mk 5 b i s l m) key x = mapE (withL m key x)) := by
    show _ ∧ _
    rw [HWV.out, HWE.out, if_pos ⟨rfl, rfl, rfl⟩, if_pos ⟨rfl, rfl, rfl⟩]; exact ⟨rfl, rfl⟩
  have ba : Below wz.heap.size wz (wz.alloc (.cells #[.int .i64 5, .bool false, .int .i64 0, .string ⟨#[]⟩, .slice none 0 0, .slice none 0 0] 25)) := (Below.refl _ _).alloc (Nat.le_refl _) _
  have r0 : McF wz wz.heap.size (.int .i64 5) (.bool false) (.int .i64 0) (.string ⟨#[]⟩) (.slice none 0 0) (.slice none 0 0) (wz.alloc (.cells #[.int .i64 5, .bool false, .int .i64 0, .string ⟨#[]⟩, .slice none 0 0, .slice none 0 0] 25)) := ⟨Nat.le_refl _, ba, heap_alloc_new wz _⟩
  obtain ⟨i1, hi1, hy0, hy1, hy2⟩ := info_parts info44
  have hJ : Hid (Tryd.prog.info? 44 = some i1 ∧ i1.zero = some (.agg #[.string ⟨#[]⟩, .int .i64 0, .bool false, .int .i64 0, .string ⟨#[]⟩, .slice none 0 0, .slice none 0 0]) ∧ i1.size = 7 ∧ i1.bytes = 104) := ⟨hi1, hy0, hy1, hy2⟩
  have KB : Hid (∀ W, Below wz.heap.size wz W → Below w.heap.size w W ∧ W.heap[w.heap.size]? = some (.cells #[.int .i64 5, .bool b, .int .i64 i, .string s, .slice al l.length cl, .slice am m.length cm] 25 (0, 0)) ∧ W.heap[w.heap.size + 1]? = some (.cells #[.int .i64 xk, .bool xb, .int .i64 xi, .string xs, .slice xal xnl xcl, .slice xam xnm xcm] 25 (0, 0)) ∧ W.heap[w.heap.size + 2]? = some (.cells #[.int .i64 0, .bool false, .int .i64 0, .string ⟨#[]⟩, .slice none 0 0, .slice none 0 0] 25 (0, 0))) := fun W hb => ⟨B5.trans (hb.mono (by omega)), (hb.block _ (by omega)).trans t0b, (hb.block _ (by omega)).trans t1b, (hb.block _ (by omega)).trans t2b⟩
  have hwM : w.heap.size + 3 ≤ wz.heap.size := by omega
  have HFL : Hid (∀ j, j ≤ m.length → (fL (lessKey key) m j).length ≤ 4294967296) := fun j hj => by have := fL_len (lessKey key) m j; omega
  clear ba hi1 hy0 hy1 hy2 t0b t1b t2b HWV HWE HSR HWB hz1 hz5
  go_wp2_with fail
  clear g0
  generalize wz.heap.size = M at *
  go_loopw [12] (fun e wq => ∃ (j : Nat) (smv : Value) (SM : Nat → Prop), j ≤ m.length ∧ e = .int .i64 (j : Int) ∧ McF wz M (.int .i64 5) (.bool false) (.int .i64 0) (.string ⟨#[]⟩) (.slice none 0 0) smv wq ∧ OwnM false wq (M + 1) SM smv ((fL (lessKey key) m j).map some)) (fun e _ => m.length - (RowKit.intOf e).toNat)
  case atStart => exact ⟨0, _, _, by omega, rfl, r0, by rw [fL_zero]; exact OwnR.nil _ _⟩
  case round =>
    rename World => wp
    clear r0
    obtain ⟨j, smv, SM, hj, rfl, rj, oj⟩ := hrel
    have hzp := rj.sz
    have BMj := rj.below
    obtain ⟨Bj, tj, tx, tz⟩ := KB.out wp BMj
    have d5 : wp.cell? ⟨w.heap.size, 5, none⟩ = some (.slice am m.length cm) := by rw [cell_of_block tj]; rfl
    by_cases hjl : j < m.length
    · skip
      have y1 : (j : Int) < m.length := by omega
      obtain rfl : am = some ⟨bm, om, none⟩ := ham.at_.resolve_left (by omega)
      obtain ⟨hSb, hks, csj, hrow, hlj⟩ := liesM_get (HM.out wp Bj) j hjl
      have HJ : Hid ((m[j]).2.lies R wp S csj) := hlj
      have hwj := HW.out j hjl
      obtain ⟨ek, eb, ei, es, eal, enl, ecl, eam, enm, ecm, rfl⟩ := V.ten hlj
      have HTy : Hid (lessKey key m[j] = true → (fL (lessKey key) m (j + 1)).map some = (fL (lessKey key) m j).map some ++ [some m[j]]) := fun h => by rw [fL_yes hjl h, List.map_append]; rfl
      have HTn : Hid (lessKey key m[j] = false → (fL (lessKey key) m (j + 1)).map some = (fL (lessKey key) m j).map some) := fun h => by rw [fL_no hjl h]
      have hfl : (fL (lessKey key) m j).length ≤ 4294967296 := HFL.out j hj
      rcases hxj : m[j] with ⟨ekey, xv⟩
      rw [hxj] at hks hrow hwj HTy HTn HJ
      simp only at hks hrow hwj
      obtain ⟨q, q0, q1, q2, q3, q4, q5⟩ := row7 hrow
      clear hlj hxj
      clear tx
      cases he : ltB ekey key with
        | false =>
          have ye : Op.bytesLess ekey.toList key.toList = false := he
          have HT : Hid ((fL (lessKey key) m (j + 1)).map some = (fL (lessKey key) m j).map some) := HTn.out he
          clear he
          clear q0 q1 q2 q3 q4 q5 HTy HTn HJ tj tz hrow hfl
          go_wp2_with fail
          go_roundw
          case rel => exact ⟨j + 1, smv, SM, by omega, by go_num, rj, by rw [HT.out]; exact oj⟩
          case measure => simp [RowKit.intOf]; omega
        | true =>
            have ye : Op.bytesLess ekey.toList key.toList = true := he
            have HT : Hid ((fL (lessKey key) m (j + 1)).map some = (fL (lessKey key) m j).map some ++ [some (ekey, xv)]) := HTy.out he
            clear he HTy HTn
            obtain ⟨sa, sc, sb, so, rfl, hd, hls⟩ := own_listM oj
            have hll : ((fL (lessKey key) m j).map some).length = (fL (lessKey key) m j).length := List.length_map ..
            obtain ⟨n, hn⟩ : ∃ n, (fL (lessKey key) m j).length = n := ⟨_, rfl⟩
            rw [hn] at rj oj hd hll hfl
            clear hls hd hn tz
            go_wp2_with fail
            refine (rclone_any xv R S _ wp HJ.out (HV.out wp Bj).2 hwj).mono ?_
            rintro e w3 ⟨csu, rfl, hx3, bl3⟩
            obtain ⟨uk, ub, ui, us, ual, unl, ucl, uam, unm, ucm, rfl⟩ := V.ten hx3
            have hz3' := bl3.size
            have t3 := rj.grown (grown_of_below bl3) (fun r e => by cases e)
            have o3 := oj.below (keepM false) bl3
            have hown : ∀ r, (Value.slice sa n sc).ownBlock = some r → M + 1 ≤ r ∧ r < wp.heap.size := fun r hr => oj.lt hr
            have hbm : bm < w.heap.size := hS bm hSb
            have t4 := t3.grown (World.grownBy_alloc w3 (.cells #[.int .i64 uk, .bool ub, .int .i64 ui, .string us, .slice ual unl ucl, .slice uam unm ucm] 25) none) (fun r e => by cases e)
            have o4 := o3.alloc (keepM false) (.cells #[.int .i64 uk, .bool ub, .int .i64 ui, .string us, .slice ual unl ucl, .slice uam unm ucm] 25)
            have nb4 := heap_alloc_new w3 (.cells #[.int .i64 uk, .bool ub, .int .i64 ui, .string us, .slice ual unl ucl, .slice uam unm ucm] 25)
            have hz4 : w3.heap.size < (w3.alloc (.cells #[.int .i64 uk, .bool ub, .int .i64 ui, .string us, .slice ual unl ucl, .slice uam unm ucm] 25)).heap.size := by rw [alloc_size]; exact Nat.lt_succ_self _
            have HW43 : Hid (∀ b, b < w3.heap.size → (w3.alloc (.cells #[.int .i64 uk, .bool ub, .int .i64 ui, .string us, .slice ual unl ucl, .slice uam unm ucm] 25)).heap[b]? = w3.heap[b]?) := fun b hb => Below.heap_alloc w3 (.cells #[.int .i64 uk, .bool ub, .int .i64 ui, .string us, .slice ual unl ucl, .slice uam unm ucm] 25) b hb
            clear q q0 q1 q2 q3 q4 q5 d5 HJ
            go_wp2_with fail
            generalize (w3.alloc (.cells #[.int .i64 uk, .bool ub, .int .i64 ui, .string us, .slice ual unl ucl, .slice uam unm ucm] 25)) = w4 at *
            have R4 : rowAt w4 w3.heap.size 0 [.int .i64 uk, .bool ub, .int .i64 ui, .string us, .slice ual unl ucl, .slice uam unm ucm] := row_of_block nb4
            have D5 : w4.cell? ⟨w.heap.size, 5, none⟩ = some (.slice (some ⟨bm, om, none⟩) m.length cm) := by rw [cell_of_block ((HW43.out _ (by omega)).trans ((bl3.block _ (by omega)).trans tj))]; rfl
            have Q4 : w4.cell? ⟨bm, om + j * 7, none⟩ = some (.string ekey) := (World.cell?_of_block (w := w3) (HW43.out bm (by omega))).trans ((bl3.cell (p := ⟨bm, om + j * 7, none⟩) (by show bm < _; omega)).trans (by have h := hrow 0 _ rfl; rwa [Nat.add_zero] at h))
            have M5 : w4.cell? ⟨M, 5, none⟩ = some (.slice sa n sc) := by rw [cell_of_block t4.b1]; rfl
            have M5a : ∀ o, (w4.alloc o).cell? ⟨M, 5, none⟩ = some (.slice sa n sc) := fun o => (World.cell?_of_block (w := w4) (a := ⟨M, 5, none⟩) (Below.heap_alloc w4 o M (by omega))).trans M5
            have HA : Hid (∀ b, (fun b => b = w.heap.size ∨ b = bm ∨ b = w3.heap.size) b → b < w4.heap.size ∧ b ≠ M ∧ some b ≠ (Value.slice sa n sc).ownBlock) := fun b hb => by
              rcases hb with rfl | rfl | rfl
              · exact ⟨by omega, by omega, fun e => by have := (hown _ e.symm).1; omega⟩
              · exact ⟨by omega, by omega, fun e => by have := (hown _ e.symm).1; omega⟩
              · exact ⟨by omega, by omega, fun e => by have := (hown _ e.symm).2; omega⟩
            have KA : Hid (KeepB w4 (fun b => b = w.heap.size ∨ b = bm ∨ b = w3.heap.size) (w4.alloc (.cells #[.string ekey, .int .i64 uk, .bool ub, .int .i64 ui, .string us, .slice ual unl ucl, .slice uam unm ucm] 44)).drew) := (KeepB.refl w4 _).alloc (fun b hb => (HA.out b hb).1) _
            have ta := (t4.grown (World.grownBy_alloc w4 (.cells #[.string ekey, .int .i64 uk, .bool ub, .int .i64 ui, .string us, .slice ual unl ucl, .slice uam unm ucm] 44) none) (fun r e => by cases e)).grown (grown_drew _ none) (fun r e => by cases e)
            have oa := (o4.alloc (keepM false) (.cells #[.string ekey, .int .i64 uk, .bool ub, .int .i64 ui, .string us, .slice ual unl ucl, .slice uam unm ucm] 44)).drew (keepM false)
            clear t3 o3 t4 o4 tj hrow rj oj
            refine wp_region_held_drew (S := KeepB w4 (fun b => b = w.heap.size ∨ b = bm ∨ b = w3.heap.size)) (by kernel_rfl) (KeepB.drew _ _) (fun hHeld => ?_)
            (refine wpAnyH_take (i := 0) (v := ?_) rfl (by kernel_rfl) (by kernel_rfl) (by kernel_rfl) (fun _ _ _ h => h) (Or.inl ⟨by rfl, ?_⟩) (by assumption) ?_; rotate_left 1; (intro W0 hSw; (try dsimp only at hSw); go_simp; (try with_reducible rfl)); (try simp only [Act.put, List.setIfInBounds_toArray, List.set_cons_zero, List.set_cons_succ]))
            (refine wpAnyH_take (i := 2) (v := ?_) rfl (by kernel_rfl) (by kernel_rfl) (by kernel_rfl) (fun _ _ _ h => h) (Or.inl ⟨by rfl, ?_⟩) (by assumption) ?_; rotate_left 1; (intro W0 hSw; (try dsimp only at hSw); go_simp; (try with_reducible rfl)); (try simp only [Act.put, List.setIfInBounds_toArray, List.set_cons_zero, List.set_cons_succ]))
            (refine wpAnyH_take (i := 3) (v := ?_) rfl (by kernel_rfl) (by kernel_rfl) (by kernel_rfl) (fun _ _ _ h => h) (Or.inl ⟨by rfl, ?_⟩) (by assumption) ?_; rotate_left 1; (intro W0 hSw; have z := hSw.cell (.inl rfl) D5; go_simp; (try with_reducible rfl)); (try simp only [Act.put, List.setIfInBounds_toArray, List.set_cons_zero, List.set_cons_succ]))
            (refine wpAnyH_take (i := 4) (v := ?_) rfl (by kernel_rfl) (by kernel_rfl) (by kernel_rfl) (fun _ _ _ h => h) (Or.inl ⟨by rfl, ?_⟩) (by assumption) ?_; rotate_left 1; (intro W0 hSw; (try dsimp only at hSw); go_simp; (try with_reducible rfl)); (try simp only [Act.put, List.setIfInBounds_toArray, List.set_cons_zero, List.set_cons_succ]))
            (refine wpAnyH_take (i := 5) (v := ?_) rfl (by kernel_rfl) (by kernel_rfl) (by kernel_rfl) (fun _ _ _ h => h) (Or.inl ⟨by rfl, ?_⟩) (by assumption) ?_; rotate_left 1; (intro W0 hSw; (try dsimp only at hSw); go_simp; (try with_reducible rfl)); (try simp only [Act.put, List.setIfInBounds_toArray, List.set_cons_zero, List.set_cons_succ]))
            (refine wpAnyH_take (i := 6) (v := ?_) rfl (by kernel_rfl) (by kernel_rfl) (by kernel_rfl) (fun _ _ _ h => h) (Or.inl ⟨by rfl, ?_⟩) (by assumption) ?_; rotate_left 1; (intro W0 hSw; (try dsimp only at hSw); go_simp; (try with_reducible rfl)); (try simp only [Act.put, List.setIfInBounds_toArray, List.set_cons_zero, List.set_cons_succ]))
            (refine wpAnyH_take (i := 7) (v := ?_) rfl (by kernel_rfl) (by kernel_rfl) (by kernel_rfl) (fun _ _ _ h => h) (Or.inl ⟨by rfl, ?_⟩) (by assumption) ?_; rotate_left 1; (intro W0 hSw; have z := hSw.cell (.inr (.inl rfl)) Q4; go_simp; (try with_reducible rfl)); (try simp only [Act.put, List.setIfInBounds_toArray, List.set_cons_zero, List.set_cons_succ]))
            (refine wpAnyH_take (i := 8) (v := ?_) rfl (by kernel_rfl) (by kernel_rfl) (by kernel_rfl) (fun _ _ _ h => h) (Or.inl ⟨by rfl, ?_⟩) (by assumption) ?_; rotate_left 1; (intro W0 hSw; obtain ⟨z0, z1, z2, z3, z4, z5⟩ := row6z (hSw.row (.inr (.inr rfl)) R4); go_simp; (try with_reducible rfl)); (try simp only [Act.put, List.setIfInBounds_toArray, List.set_cons_zero, List.set_cons_succ]))
            (refine wpAnyH_take (i := 9) (v := ?_) rfl (by kernel_rfl) (by kernel_rfl) (by kernel_rfl) (fun _ _ _ h => h) (Or.inl ⟨by rfl, ?_⟩) (by assumption) ?_; rotate_left 1; (intro W0 hSw; (try dsimp only at hSw); go_simp; (try with_reducible rfl)); (try simp only [Act.put, List.setIfInBounds_toArray, List.set_cons_zero, List.set_cons_succ]))
            refine wpAnyH_ready (rs := [1, 10]) (by kernel_rfl) (by simp) ?_
            refine AllReadyH.cons rfl (fun K hK => ?_) (AllReadyH.cons rfl (fun K hK => ?_) AllReadyH.nil)
            · go_simp
              refine hK.out _ _ (KeepB.drew _ _) (fun hHeld => ?_)
              clear hK K
              (try simp only [Act.put, List.setIfInBounds_toArray, List.set_cons_zero, List.set_cons_succ])
              refine wpAnyH_ready (rs := [10]) (by kernel_rfl) (by simp) ?_
              refine AllReadyH.cons rfl (fun K hK => ?_) AllReadyH.nil
              go_simp
              refine hK.out _ _ KA.out (fun hHeld => ?_)
              clear hK K
              (try simp only [Act.put, List.setIfInBounds_toArray, List.set_cons_zero, List.set_cons_succ])
              refine wpAnyH_ready (rs := [11]) (by kernel_rfl) (by simp) ?_
              refine AllReadyH.cons rfl (fun K hK => ?_) AllReadyH.nil
              refine step_push (keepM false) rfl (.tmp 64) (.tmp 73) 23 rfl (M + 1) i1 _ 104 Tryd.underlying23 hJ.out.1 hJ.out.2.1 hJ.out.2.2.1 hJ.out.2.2.2 rfl (by decide) (by decide) (.slice sa n sc) (some (ekey, xv)) rfl oa w4.heap.size 1 (0, 0) rfl (heap_alloc_new w4 _) rfl one7 (keepM false _ _ _ _ _ _ (fun b hb => (Below.heap_alloc w4 _ b (by have := hb.2; omega)).trans (HW43.out b hb.2)) (fun _ h => h) ⟨_, rfl, hks, hx3⟩) (fun b hb => ⟨by have := hb.1; omega, by have := hb.2; show b < (w4.alloc _).heap.size; rw [alloc_size]; omega, fun e => by have := (hown b e.symm).2; have := hb.1; omega⟩) (by rw [hll]; omega) (by show M + 1 ≤ (w4.alloc _).heap.size; rw [alloc_size]; omega) ?_
              intro g cap w5 o5 g5 e5
              rw [hll] at o5 ⊢
              have t5 := ta.grown g5 (fun r e => (hown r e).1)
              have c6 : w5.cell? ⟨M, 5, none⟩ = some (.slice sa n sc) := by rw [cell_of_block t5.b1]; rfl
              have f6 : w5.frozen? ⟨M, 5, none⟩ = false := frozen_of_block t5.b1 5
              have K5 : Hid (KeepB w4 (fun b => b = w.heap.size ∨ b = bm ∨ b = w3.heap.size) w5) := KA.out.grown g5 (fun b hb => ⟨by show b < (w4.alloc _).heap.size; rw [alloc_size]; have := (HA.out b hb).1; omega, (HA.out b hb).2.2⟩)
              have K6 : Hid (∀ u, KeepB w4 (fun b => b = w.heap.size ∨ b = bm ∨ b = w3.heap.size) (w5.setCell ⟨M, 5, none⟩ u)) := fun u => K5.out.set (fun b hb => (HA.out b hb).2.1) 5 u
              refine hK.out _ _ K5.out (fun hHeld => ?_)
              clear hK K
              (try simp only [Act.put, List.setIfInBounds_toArray, List.set_cons_zero, List.set_cons_succ])
              (refine wpAnyH_take (i := 12) (v := ?_) rfl (by kernel_rfl) (by kernel_rfl) (by kernel_rfl) (fun _ _ _ h => h) (Or.inl ⟨by rfl, ?_⟩) (by assumption) ?_; rotate_left 1; (intro W0 hSw; (try dsimp only at hSw); go_simp; (try with_reducible rfl)); (try simp only [Act.put, List.setIfInBounds_toArray, List.set_cons_zero, List.set_cons_succ]))
              refine wpAnyH_ready (rs := [13]) (by kernel_rfl) (by simp) ?_
              refine AllReadyH.cons rfl (fun K hK => ?_) AllReadyH.nil
              go_simp
              refine hK.out _ _ (K6.out _) (fun hHeld => ?_)
              clear hK K
              (try simp only [Act.put, List.setIfInBounds_toArray, List.set_cons_zero, List.set_cons_succ])
              refine wpAnyH_done (by kernel_rfl) ?_ _
              (try dsimp only [Act.put, List.getElem_toArray, List.getElem_cons_succ, List.getElem_cons_zero, List.setIfInBounds_toArray, List.set_cons_zero, List.set_cons_succ])
              clear hHeld KA K5 K6 HA M5 M5a D5 Q4 R4 c6 f6
              go_wp2_with fail
              go_roundw
              case rel => exact ⟨j + 1, _, _, by omega, by go_num, t5.set _, by rw [HT.out]; exact o5.set (keepM false) (by omega) _ _⟩
              case measure => simp [RowKit.intOf]; omega
            · go_simp
              refine hK.out _ _ KA.out (fun hHeld => ?_)
              clear hK K
              (try simp only [Act.put, List.setIfInBounds_toArray, List.set_cons_zero, List.set_cons_succ])
              refine wpAnyH_ready (rs := [1]) (by kernel_rfl) (by simp) ?_
              refine AllReadyH.cons rfl (fun K hK => ?_) AllReadyH.nil
              go_simp
              refine hK.out _ _ KA.out (fun hHeld => ?_)
              clear hK K
              (try simp only [Act.put, List.setIfInBounds_toArray, List.set_cons_zero, List.set_cons_succ])
              refine wpAnyH_ready (rs := [11]) (by kernel_rfl) (by simp) ?_
              refine AllReadyH.cons rfl (fun K hK => ?_) AllReadyH.nil
              refine step_push (keepM false) rfl (.tmp 64) (.tmp 73) 23 rfl (M + 1) i1 _ 104 Tryd.underlying23 hJ.out.1 hJ.out.2.1 hJ.out.2.2.1 hJ.out.2.2.2 rfl (by decide) (by decide) (.slice sa n sc) (some (ekey, xv)) rfl oa w4.heap.size 1 (0, 0) rfl (heap_alloc_new w4 _) rfl one7 (keepM false _ _ _ _ _ _ (fun b hb => (Below.heap_alloc w4 _ b (by have := hb.2; omega)).trans (HW43.out b hb.2)) (fun _ h => h) ⟨_, rfl, hks, hx3⟩) (fun b hb => ⟨by have := hb.1; omega, by have := hb.2; show b < (w4.alloc _).heap.size; rw [alloc_size]; omega, fun e => by have := (hown b e.symm).2; have := hb.1; omega⟩) (by rw [hll]; omega) (by show M + 1 ≤ (w4.alloc _).heap.size; rw [alloc_size]; omega) ?_
              intro g cap w5 o5 g5 e5
              rw [hll] at o5 ⊢
              have t5 := ta.grown g5 (fun r e => (hown r e).1)
              have c6 : w5.cell? ⟨M, 5, none⟩ = some (.slice sa n sc) := by rw [cell_of_block t5.b1]; rfl
              have f6 : w5.frozen? ⟨M, 5, none⟩ = false := frozen_of_block t5.b1 5
              have K5 : Hid (KeepB w4 (fun b => b = w.heap.size ∨ b = bm ∨ b = w3.heap.size) w5) := KA.out.grown g5 (fun b hb => ⟨by show b < (w4.alloc _).heap.size; rw [alloc_size]; have := (HA.out b hb).1; omega, (HA.out b hb).2.2⟩)
              have K6 : Hid (∀ u, KeepB w4 (fun b => b = w.heap.size ∨ b = bm ∨ b = w3.heap.size) (w5.setCell ⟨M, 5, none⟩ u)) := fun u => K5.out.set (fun b hb => (HA.out b hb).2.1) 5 u
              refine hK.out _ _ K5.out (fun hHeld => ?_)
              clear hK K
              (try simp only [Act.put, List.setIfInBounds_toArray, List.set_cons_zero, List.set_cons_succ])
              (refine wpAnyH_take (i := 12) (v := ?_) rfl (by kernel_rfl) (by kernel_rfl) (by kernel_rfl) (fun _ _ _ h => h) (Or.inl ⟨by rfl, ?_⟩) (by assumption) ?_; rotate_left 1; (intro W0 hSw; (try dsimp only at hSw); go_simp; (try with_reducible rfl)); (try simp only [Act.put, List.setIfInBounds_toArray, List.set_cons_zero, List.set_cons_succ]))
              refine wpAnyH_ready (rs := [13]) (by kernel_rfl) (by simp) ?_
              refine AllReadyH.cons rfl (fun K hK => ?_) AllReadyH.nil
              go_simp
              refine hK.out _ _ (K6.out _) (fun hHeld => ?_)
              clear hK K
              (try simp only [Act.put, List.setIfInBounds_toArray, List.set_cons_zero, List.set_cons_succ])
              refine wpAnyH_done (by kernel_rfl) ?_ _
              (try dsimp only [Act.put, List.getElem_toArray, List.getElem_cons_succ, List.getElem_cons_zero, List.setIfInBounds_toArray, List.set_cons_zero, List.set_cons_succ])
              clear hHeld KA K5 K6 HA M5 M5a D5 Q4 R4 c6 f6
              go_wp2_with fail
              go_roundw
              case rel => exact ⟨j + 1, _, _, by omega, by go_num, t5.set _, by rw [HT.out]; exact o5.set (keepM false) (by omega) _ _⟩
              case measure => simp [RowKit.intOf]; omega
    · obtain rfl : j = m.length := by omega
      have y1 : ¬ (m.length : Int) < m.length := by omega
      have hLA := HFL.out m.length (Nat.le_refl _)
      have HLAL := fL_len (lessKey key) m m.length
      have HLA : Hid (fL (lessKey key) m m.length ++ (key, x) :: m.filter (moreKey key) = withL m key x) := by show _ = _; rw [fL_all]; exact with_filter HSM.out
      generalize fL (lessKey key) m m.length = LA at *
      obtain ⟨sa, sc, sb, so, rfl, hd, hls⟩ := own_listM oj
      have hll : (LA.map some).length = LA.length := List.length_map ..
      have f0 : wp.cell? ⟨w.heap.size + 1, 0, none⟩ = some (.int .i64 xk) := by rw [cell_of_block tx]; rfl
      have f1 : wp.cell? ⟨w.heap.size + 1, 1, none⟩ = some (.bool xb) := by rw [cell_of_block tx]; rfl
      have f2 : wp.cell? ⟨w.heap.size + 1, 2, none⟩ = some (.int .i64 xi) := by rw [cell_of_block tx]; rfl
      have f3 : wp.cell? ⟨w.heap.size + 1, 3, none⟩ = some (.string xs) := by rw [cell_of_block tx]; rfl
      have f4 : wp.cell? ⟨w.heap.size + 1, 4, none⟩ = some (.slice xal xnl xcl) := by rw [cell_of_block tx]; rfl
      have f5 : wp.cell? ⟨w.heap.size + 1, 5, none⟩ = some (.slice xam xnm xcm) := by rw [cell_of_block tx]; rfl
      clear hls hd tx tz tj
      go_wp2_with fail
      refine (rclone_any x Q T _ wp (HX.out wp Bj).1 (HX.out wp Bj).2 hwx).mono ?_
      rintro e w3 ⟨csu, rfl, hx3, bl3⟩
      obtain ⟨uk, ub, ui, us, ual, unl, ucl, uam, unm, ucm, rfl⟩ := V.ten hx3
      have hz3' := bl3.size
      have t3 := rj.grown (grown_of_below bl3) (fun r e => by cases e)
      have o3 := oj.below (keepM false) bl3
      have hown : ∀ r, (Value.slice sa LA.length sc).ownBlock = some r → M + 1 ≤ r ∧ r < wp.heap.size := fun r hr => oj.lt hr
      have HK : Hid (∀ b, New wp w3 b → M + 1 ≤ b ∧ b < w3.heap.size ∧ some b ≠ (Value.slice sa LA.length sc).ownBlock) := fun b hb => ⟨by have := hb.1; omega, hb.2, fun e => by have := (hown b e.symm).2; have := hb.1; omega⟩
      have e5 : ∀ o, (w3.alloc o).cell? ⟨M, 5, none⟩ = some (.slice sa LA.length sc) := fun o => by rw [cell_of_block (t3.grown (World.grownBy_alloc w3 o none) (fun r e => by cases e)).b1]; rfl
      clear f0 f1 f2 f3 f4 f5 d5 rj oj
      go_wp2_with (at_builtin; go_loud (refine wpl_push (keepM false) _ rfl (.tmp 79) (.tmp 83) 23 rfl (M + 1) i1 _ 104 Tryd.underlying23 hJ.out.1 hJ.out.2.1 hJ.out.2.2.1 hJ.out.2.2.2 rfl (by decide) (by decide) (.slice sa LA.length sc) (some (key, x)) rfl ((o3.alloc (keepM false) _).alloc (keepM false) _) (w3.heap.size + 1) 1 (0, 0) rfl (alloc2_new w3 _ _) rfl one7 (keepM false _ _ _ _ _ _ (fun b hb => alloc2_keep w3 _ _ hb.2) (fun _ h => h) ⟨_, rfl, hkm, hx3⟩) (fun b hb => alloc2_off (HK.out b hb)) (by rw [hll]; omega) (by rw [alloc_size, alloc_size]; omega) ?_))
      intro g cap w5 o5 g5 e5'
      (try rw [hll] at o5 ⊢)
      have t5 := ((t3.grown (World.grownBy_alloc w3 _ none) (fun r e => by cases e)).grown (World.grownBy_alloc _ _ none) (fun r e => by cases e)).grown g5 (fun r e => (hown r e).1)
      have e6 : w5.cell? ⟨M, 5, none⟩ = some (.slice sa LA.length sc) := by rw [cell_of_block t5.b1]; rfl
      have e7 : w5.frozen? ⟨M, 5, none⟩ = false := frozen_of_block t5.b1 5
      have t6 := t5.set (.slice (some ⟨g, 0, none⟩) (LA.length + 1) cap)
      have o6 := o5.set (B := M) (keepM false) (by omega) 5 (.slice (some ⟨g, 0, none⟩) (LA.length + 1) cap)
      obtain ⟨LB, hLB⟩ : ∃ LB, LA ++ [(key, x)] = LB := ⟨_, rfl⟩
      have eLB : LA.map some ++ [some (key, x)] = LB.map some := by rw [← hLB, List.map_append]; rfl
      rw [eLB] at o6
      have HLE : Hid (gL LB key m m.length = withL m key x) := by show _ = _; rw [gL, fL_all, ← hLB, List.append_assoc]; exact HLA.out
      have HFL2 : Hid (∀ j, j ≤ m.length → (gL LB key m j).length ≤ 4294967296) := fun j hj => by
        have h1 := fL_len (moreKey key) m j
        have h3 : LB.length = LA.length + 1 := by rw [← hLB]; simp
        rw [gL, List.length_append]
        have h4 := HLAL
        omega
      clear hLB eLB o5 g5 e5' t3 o3 hown HK e5 hll hLA HLA bl3 hx3
      go_wp2_with fail
      generalize hW6 : (w5.setCell ⟨M, 5, none⟩ (.slice (some ⟨g, 0, none⟩) (LA.length + 1) cap)) = w6 at *
      clear hW6 e6 e7 t5
      go_loopw [15] (fun e wq => ∃ (j : Nat) (smv : Value) (SM : Nat → Prop), j ≤ m.length ∧ e = .int .i64 (j : Int) ∧ McF wz M (.int .i64 5) (.bool false) (.int .i64 0) (.string ⟨#[]⟩) (.slice none 0 0) smv wq ∧ OwnM false wq (M + 1) SM smv ((gL LB key m j).map some)) (fun e _ => m.length - (RowKit.intOf e).toNat)
      case atStart => exact ⟨0, _, _, by omega, rfl, t6, by rw [gL_zero]; exact o6⟩
      case round =>
        clear t6 o6 HFL Bj BMj
        rename_i wpOld
        rename World => wp
        obtain ⟨j, smv, SM, hj, rfl, rj, oj⟩ := hrel
        have hzp := rj.sz
        have BMj := rj.below
        obtain ⟨Bj, tj, tx, tz⟩ := KB.out wp BMj
        have d5 : wp.cell? ⟨w.heap.size, 5, none⟩ = some (.slice am m.length cm) := by rw [cell_of_block tj]; rfl
        have HFL := HFL2
        by_cases hjl : j < m.length
        · skip
          have y1 : (j : Int) < m.length := by omega
          obtain rfl : am = some ⟨bm, om, none⟩ := ham.at_.resolve_left (by omega)
          obtain ⟨hSb, hks, csj, hrow, hlj⟩ := liesM_get (HM.out wp Bj) j hjl
          have HJ : Hid ((m[j]).2.lies R wp S csj) := hlj
          have hwj := HW.out j hjl
          obtain ⟨ek, eb, ei, es, eal, enl, ecl, eam, enm, ecm, rfl⟩ := V.ten hlj
          have HTy : Hid (moreKey key m[j] = true → (gL LB key m (j + 1)).map some = (gL LB key m j).map some ++ [some m[j]]) := fun h => by rw [gL_yes hjl h, List.map_append]; rfl
          have HTn : Hid (moreKey key m[j] = false → (gL LB key m (j + 1)).map some = (gL LB key m j).map some) := fun h => by rw [gL_no hjl h]
          have hfl : (gL LB key m j).length ≤ 4294967296 := HFL.out j hj
          rcases hxj : m[j] with ⟨ekey, xv⟩
          rw [hxj] at hks hrow hwj HTy HTn HJ
          simp only at hks hrow hwj
          obtain ⟨q, q0, q1, q2, q3, q4, q5⟩ := row7 hrow
          clear hlj hxj
          clear tx
          cases he : ltB key ekey with
            | false =>
              have HT : Hid ((gL LB key m (j + 1)).map some = (gL LB key m j).map some) := HTn.out he
              by_cases hg2 : ekey.toList = key.toList
              · have yk : (ekey.toList == key.toList) = true := by rw [beq_iff_eq]; exact hg2
                have yg : Op.bytesLess ekey.toList key.toList = false := by rw [hg2]; exact ltB_irr key
                clear he hg2
                clear q0 q1 q2 q3 q4 q5 HTy HTn HJ tj tz hrow hfl
                go_wp2_with fail
                go_roundw
                case rel => exact ⟨j + 1, smv, SM, by omega, by go_num, rj, by rw [HT.out]; exact oj⟩
                case measure => simp [RowKit.intOf]; omega
              · have yg : Op.bytesLess ekey.toList key.toList = true := ltB_tri he (fun e => hg2 e.symm)
                have yk : (ekey.toList == key.toList) = false := by rw [beq_eq_false_iff_ne]; exact hg2
                clear he hg2
                clear q0 q1 q2 q3 q4 q5 HTy HTn HJ tj tz hrow hfl
                go_wp2_with fail
                go_roundw
                case rel => exact ⟨j + 1, smv, SM, by omega, by go_num, rj, by rw [HT.out]; exact oj⟩
                case measure => simp [RowKit.intOf]; omega
            | true =>
                have HT : Hid ((gL LB key m (j + 1)).map some = (gL LB key m j).map some ++ [some (ekey, xv)]) := HTy.out he
                have yg : Op.bytesLess ekey.toList key.toList = false := ltB_asym he
                have yk : (ekey.toList == key.toList) = false := by
                  rw [beq_eq_false_iff_ne]
                  intro e
                  rw [ltB_congr rfl e, ltB_irr] at he
                  cases he
                clear he HTy HTn
                obtain ⟨sa, sc, sb, so, rfl, hd, hls⟩ := own_listM oj
                have hll : ((gL LB key m j).map some).length = (gL LB key m j).length := List.length_map ..
                obtain ⟨n, hn⟩ : ∃ n, (gL LB key m j).length = n := ⟨_, rfl⟩
                rw [hn] at rj oj hd hll hfl
                clear hls hd hn tz
                go_wp2_with fail
                refine (rclone_any xv R S _ wp HJ.out (HV.out wp Bj).2 hwj).mono ?_
                rintro e w3 ⟨csu, rfl, hx3, bl3⟩
                obtain ⟨uk, ub, ui, us, ual, unl, ucl, uam, unm, ucm, rfl⟩ := V.ten hx3
                have hz3' := bl3.size
                have t3 := rj.grown (grown_of_below bl3) (fun r e => by cases e)
                have o3 := oj.below (keepM false) bl3
                have hown : ∀ r, (Value.slice sa n sc).ownBlock = some r → M + 1 ≤ r ∧ r < wp.heap.size := fun r hr => oj.lt hr
                have hbm : bm < w.heap.size := hS bm hSb
                have t4 := t3.grown (World.grownBy_alloc w3 (.cells #[.int .i64 uk, .bool ub, .int .i64 ui, .string us, .slice ual unl ucl, .slice uam unm ucm] 25) none) (fun r e => by cases e)
                have o4 := o3.alloc (keepM false) (.cells #[.int .i64 uk, .bool ub, .int .i64 ui, .string us, .slice ual unl ucl, .slice uam unm ucm] 25)
                have nb4 := heap_alloc_new w3 (.cells #[.int .i64 uk, .bool ub, .int .i64 ui, .string us, .slice ual unl ucl, .slice uam unm ucm] 25)
                have hz4 : w3.heap.size < (w3.alloc (.cells #[.int .i64 uk, .bool ub, .int .i64 ui, .string us, .slice ual unl ucl, .slice uam unm ucm] 25)).heap.size := by rw [alloc_size]; exact Nat.lt_succ_self _
                have HW43 : Hid (∀ b, b < w3.heap.size → (w3.alloc (.cells #[.int .i64 uk, .bool ub, .int .i64 ui, .string us, .slice ual unl ucl, .slice uam unm ucm] 25)).heap[b]? = w3.heap[b]?) := fun b hb => Below.heap_alloc w3 (.cells #[.int .i64 uk, .bool ub, .int .i64 ui, .string us, .slice ual unl ucl, .slice uam unm ucm] 25) b hb
                clear q q0 q1 q2 q3 q4 q5 d5 HJ
                go_wp2_with fail
                generalize (w3.alloc (.cells #[.int .i64 uk, .bool ub, .int .i64 ui, .string us, .slice ual unl ucl, .slice uam unm ucm] 25)) = w4 at *
                have R4 : rowAt w4 w3.heap.size 0 [.int .i64 uk, .bool ub, .int .i64 ui, .string us, .slice ual unl ucl, .slice uam unm ucm] := row_of_block nb4
                have D5 : w4.cell? ⟨w.heap.size, 5, none⟩ = some (.slice (some ⟨bm, om, none⟩) m.length cm) := by rw [cell_of_block ((HW43.out _ (by omega)).trans ((bl3.block _ (by omega)).trans tj))]; rfl
                have Q4 : w4.cell? ⟨bm, om + j * 7, none⟩ = some (.string ekey) := (World.cell?_of_block (w := w3) (HW43.out bm (by omega))).trans ((bl3.cell (p := ⟨bm, om + j * 7, none⟩) (by show bm < _; omega)).trans (by have h := hrow 0 _ rfl; rwa [Nat.add_zero] at h))
                have M5 : w4.cell? ⟨M, 5, none⟩ = some (.slice sa n sc) := by rw [cell_of_block t4.b1]; rfl
                have M5a : ∀ o, (w4.alloc o).cell? ⟨M, 5, none⟩ = some (.slice sa n sc) := fun o => (World.cell?_of_block (w := w4) (a := ⟨M, 5, none⟩) (Below.heap_alloc w4 o M (by omega))).trans M5
                have HA : Hid (∀ b, (fun b => b = w.heap.size ∨ b = bm ∨ b = w3.heap.size) b → b < w4.heap.size ∧ b ≠ M ∧ some b ≠ (Value.slice sa n sc).ownBlock) := fun b hb => by
                  rcases hb with rfl | rfl | rfl
                  · exact ⟨by omega, by omega, fun e => by have := (hown _ e.symm).1; omega⟩
                  · exact ⟨by omega, by omega, fun e => by have := (hown _ e.symm).1; omega⟩
                  · exact ⟨by omega, by omega, fun e => by have := (hown _ e.symm).2; omega⟩
                have KA : Hid (KeepB w4 (fun b => b = w.heap.size ∨ b = bm ∨ b = w3.heap.size) (w4.alloc (.cells #[.string ekey, .int .i64 uk, .bool ub, .int .i64 ui, .string us, .slice ual unl ucl, .slice uam unm ucm] 44)).drew) := (KeepB.refl w4 _).alloc (fun b hb => (HA.out b hb).1) _
                have ta := (t4.grown (World.grownBy_alloc w4 (.cells #[.string ekey, .int .i64 uk, .bool ub, .int .i64 ui, .string us, .slice ual unl ucl, .slice uam unm ucm] 44) none) (fun r e => by cases e)).grown (grown_drew _ none) (fun r e => by cases e)
                have oa := (o4.alloc (keepM false) (.cells #[.string ekey, .int .i64 uk, .bool ub, .int .i64 ui, .string us, .slice ual unl ucl, .slice uam unm ucm] 44)).drew (keepM false)
                clear t3 o3 t4 o4 tj hrow rj oj
                refine wp_region_held_drew (S := KeepB w4 (fun b => b = w.heap.size ∨ b = bm ∨ b = w3.heap.size)) (by kernel_rfl) (KeepB.drew _ _) (fun hHeld => ?_)
                (refine wpAnyH_take (i := 0) (v := ?_) rfl (by kernel_rfl) (by kernel_rfl) (by kernel_rfl) (fun _ _ _ h => h) (Or.inl ⟨by rfl, ?_⟩) (by assumption) ?_; rotate_left 1; (intro W0 hSw; (try dsimp only at hSw); go_simp; (try with_reducible rfl)); (try simp only [Act.put, List.setIfInBounds_toArray, List.set_cons_zero, List.set_cons_succ]))
                (refine wpAnyH_take (i := 2) (v := ?_) rfl (by kernel_rfl) (by kernel_rfl) (by kernel_rfl) (fun _ _ _ h => h) (Or.inl ⟨by rfl, ?_⟩) (by assumption) ?_; rotate_left 1; (intro W0 hSw; (try dsimp only at hSw); go_simp; (try with_reducible rfl)); (try simp only [Act.put, List.setIfInBounds_toArray, List.set_cons_zero, List.set_cons_succ]))
                (refine wpAnyH_take (i := 3) (v := ?_) rfl (by kernel_rfl) (by kernel_rfl) (by kernel_rfl) (fun _ _ _ h => h) (Or.inl ⟨by rfl, ?_⟩) (by assumption) ?_; rotate_left 1; (intro W0 hSw; have z := hSw.cell (.inl rfl) D5; go_simp; (try with_reducible rfl)); (try simp only [Act.put, List.setIfInBounds_toArray, List.set_cons_zero, List.set_cons_succ]))
                (refine wpAnyH_take (i := 4) (v := ?_) rfl (by kernel_rfl) (by kernel_rfl) (by kernel_rfl) (fun _ _ _ h => h) (Or.inl ⟨by rfl, ?_⟩) (by assumption) ?_; rotate_left 1; (intro W0 hSw; (try dsimp only at hSw); go_simp; (try with_reducible rfl)); (try simp only [Act.put, List.setIfInBounds_toArray, List.set_cons_zero, List.set_cons_succ]))
                (refine wpAnyH_take (i := 5) (v := ?_) rfl (by kernel_rfl) (by kernel_rfl) (by kernel_rfl) (fun _ _ _ h => h) (Or.inl ⟨by rfl, ?_⟩) (by assumption) ?_; rotate_left 1; (intro W0 hSw; (try dsimp only at hSw); go_simp; (try with_reducible rfl)); (try simp only [Act.put, List.setIfInBounds_toArray, List.set_cons_zero, List.set_cons_succ]))
                (refine wpAnyH_take (i := 6) (v := ?_) rfl (by kernel_rfl) (by kernel_rfl) (by kernel_rfl) (fun _ _ _ h => h) (Or.inl ⟨by rfl, ?_⟩) (by assumption) ?_; rotate_left 1; (intro W0 hSw; (try dsimp only at hSw); go_simp; (try with_reducible rfl)); (try simp only [Act.put, List.setIfInBounds_toArray, List.set_cons_zero, List.set_cons_succ]))
                (refine wpAnyH_take (i := 7) (v := ?_) rfl (by kernel_rfl) (by kernel_rfl) (by kernel_rfl) (fun _ _ _ h => h) (Or.inl ⟨by rfl, ?_⟩) (by assumption) ?_; rotate_left 1; (intro W0 hSw; have z := hSw.cell (.inr (.inl rfl)) Q4; go_simp; (try with_reducible rfl)); (try simp only [Act.put, List.setIfInBounds_toArray, List.set_cons_zero, List.set_cons_succ]))
                (refine wpAnyH_take (i := 8) (v := ?_) rfl (by kernel_rfl) (by kernel_rfl) (by kernel_rfl) (fun _ _ _ h => h) (Or.inl ⟨by rfl, ?_⟩) (by assumption) ?_; rotate_left 1; (intro W0 hSw; obtain ⟨z0, z1, z2, z3, z4, z5⟩ := row6z (hSw.row (.inr (.inr rfl)) R4); go_simp; (try with_reducible rfl)); (try simp only [Act.put, List.setIfInBounds_toArray, List.set_cons_zero, List.set_cons_succ]))
                (refine wpAnyH_take (i := 9) (v := ?_) rfl (by kernel_rfl) (by kernel_rfl) (by kernel_rfl) (fun _ _ _ h => h) (Or.inl ⟨by rfl, ?_⟩) (by assumption) ?_; rotate_left 1; (intro W0 hSw; (try dsimp only at hSw); go_simp; (try with_reducible rfl)); (try simp only [Act.put, List.setIfInBounds_toArray, List.set_cons_zero, List.set_cons_succ]))
                refine wpAnyH_ready (rs := [1, 10]) (by kernel_rfl) (by simp) ?_
                refine AllReadyH.cons rfl (fun K hK => ?_) (AllReadyH.cons rfl (fun K hK => ?_) AllReadyH.nil)
                · go_simp
                  refine hK.out _ _ (KeepB.drew _ _) (fun hHeld => ?_)
                  clear hK K
                  (try simp only [Act.put, List.setIfInBounds_toArray, List.set_cons_zero, List.set_cons_succ])
                  refine wpAnyH_ready (rs := [10]) (by kernel_rfl) (by simp) ?_
                  refine AllReadyH.cons rfl (fun K hK => ?_) AllReadyH.nil
                  go_simp
                  refine hK.out _ _ KA.out (fun hHeld => ?_)
                  clear hK K
                  (try simp only [Act.put, List.setIfInBounds_toArray, List.set_cons_zero, List.set_cons_succ])
                  refine wpAnyH_ready (rs := [11]) (by kernel_rfl) (by simp) ?_
                  refine AllReadyH.cons rfl (fun K hK => ?_) AllReadyH.nil
                  refine step_push (keepM false) rfl (.tmp 109) (.tmp 118) 23 rfl (M + 1) i1 _ 104 Tryd.underlying23 hJ.out.1 hJ.out.2.1 hJ.out.2.2.1 hJ.out.2.2.2 rfl (by decide) (by decide) (.slice sa n sc) (some (ekey, xv)) rfl oa w4.heap.size 1 (0, 0) rfl (heap_alloc_new w4 _) rfl one7 (keepM false _ _ _ _ _ _ (fun b hb => (Below.heap_alloc w4 _ b (by have := hb.2; omega)).trans (HW43.out b hb.2)) (fun _ h => h) ⟨_, rfl, hks, hx3⟩) (fun b hb => ⟨by have := hb.1; omega, by have := hb.2; show b < (w4.alloc _).heap.size; rw [alloc_size]; omega, fun e => by have := (hown b e.symm).2; have := hb.1; omega⟩) (by rw [hll]; omega) (by show M + 1 ≤ (w4.alloc _).heap.size; rw [alloc_size]; omega) ?_
                  intro g cap w5 o5 g5 e5
                  rw [hll] at o5 ⊢
                  have t5 := ta.grown g5 (fun r e => (hown r e).1)
                  have c6 : w5.cell? ⟨M, 5, none⟩ = some (.slice sa n sc) := by rw [cell_of_block t5.b1]; rfl
                  have f6 : w5.frozen? ⟨M, 5, none⟩ = false := frozen_of_block t5.b1 5
                  have K5 : Hid (KeepB w4 (fun b => b = w.heap.size ∨ b = bm ∨ b = w3.heap.size) w5) := KA.out.grown g5 (fun b hb => ⟨by show b < (w4.alloc _).heap.size; rw [alloc_size]; have := (HA.out b hb).1; omega, (HA.out b hb).2.2⟩)
                  have K6 : Hid (∀ u, KeepB w4 (fun b => b = w.heap.size ∨ b = bm ∨ b = w3.heap.size) (w5.setCell ⟨M, 5, none⟩ u)) := fun u => K5.out.set (fun b hb => (HA.out b hb).2.1) 5 u
                  refine hK.out _ _ K5.out (fun hHeld => ?_)
                  clear hK K
                  (try simp only [Act.put, List.setIfInBounds_toArray, List.set_cons_zero, List.set_cons_succ])
                  (refine wpAnyH_take (i := 12) (v := ?_) rfl (by kernel_rfl) (by kernel_rfl) (by kernel_rfl) (fun _ _ _ h => h) (Or.inl ⟨by rfl, ?_⟩) (by assumption) ?_; rotate_left 1; (intro W0 hSw; (try dsimp only at hSw); go_simp; (try with_reducible rfl)); (try simp only [Act.put, List.setIfInBounds_toArray, List.set_cons_zero, List.set_cons_succ]))
                  refine wpAnyH_ready (rs := [13]) (by kernel_rfl) (by simp) ?_
                  refine AllReadyH.cons rfl (fun K hK => ?_) AllReadyH.nil
                  go_simp
                  refine hK.out _ _ (K6.out _) (fun hHeld => ?_)
                  clear hK K
                  (try simp only [Act.put, List.setIfInBounds_toArray, List.set_cons_zero, List.set_cons_succ])
                  refine wpAnyH_done (by kernel_rfl) ?_ _
                  (try dsimp only [Act.put, List.getElem_toArray, List.getElem_cons_succ, List.getElem_cons_zero, List.setIfInBounds_toArray, List.set_cons_zero, List.set_cons_succ])
                  clear hHeld KA K5 K6 HA M5 M5a D5 Q4 R4 c6 f6
                  go_wp2_with fail
                  go_roundw
                  case rel => exact ⟨j + 1, _, _, by omega, by go_num, t5.set _, by rw [HT.out]; exact o5.set (keepM false) (by omega) _ _⟩
                  case measure => simp [RowKit.intOf]; omega
                · go_simp
                  refine hK.out _ _ KA.out (fun hHeld => ?_)
                  clear hK K
                  (try simp only [Act.put, List.setIfInBounds_toArray, List.set_cons_zero, List.set_cons_succ])
                  refine wpAnyH_ready (rs := [1]) (by kernel_rfl) (by simp) ?_
                  refine AllReadyH.cons rfl (fun K hK => ?_) AllReadyH.nil
                  go_simp
                  refine hK.out _ _ KA.out (fun hHeld => ?_)
                  clear hK K
                  (try simp only [Act.put, List.setIfInBounds_toArray, List.set_cons_zero, List.set_cons_succ])
                  refine wpAnyH_ready (rs := [11]) (by kernel_rfl) (by simp) ?_
                  refine AllReadyH.cons rfl (fun K hK => ?_) AllReadyH.nil
                  refine step_push (keepM false) rfl (.tmp 109) (.tmp 118) 23 rfl (M + 1) i1 _ 104 Tryd.underlying23 hJ.out.1 hJ.out.2.1 hJ.out.2.2.1 hJ.out.2.2.2 rfl (by decide) (by decide) (.slice sa n sc) (some (ekey, xv)) rfl oa w4.heap.size 1 (0, 0) rfl (heap_alloc_new w4 _) rfl one7 (keepM false _ _ _ _ _ _ (fun b hb => (Below.heap_alloc w4 _ b (by have := hb.2; omega)).trans (HW43.out b hb.2)) (fun _ h => h) ⟨_, rfl, hks, hx3⟩) (fun b hb => ⟨by have := hb.1; omega, by have := hb.2; show b < (w4.alloc _).heap.size; rw [alloc_size]; omega, fun e => by have := (hown b e.symm).2; have := hb.1; omega⟩) (by rw [hll]; omega) (by show M + 1 ≤ (w4.alloc _).heap.size; rw [alloc_size]; omega) ?_
                  intro g cap w5 o5 g5 e5
                  rw [hll] at o5 ⊢
                  have t5 := ta.grown g5 (fun r e => (hown r e).1)
                  have c6 : w5.cell? ⟨M, 5, none⟩ = some (.slice sa n sc) := by rw [cell_of_block t5.b1]; rfl
                  have f6 : w5.frozen? ⟨M, 5, none⟩ = false := frozen_of_block t5.b1 5
                  have K5 : Hid (KeepB w4 (fun b => b = w.heap.size ∨ b = bm ∨ b = w3.heap.size) w5) := KA.out.grown g5 (fun b hb => ⟨by show b < (w4.alloc _).heap.size; rw [alloc_size]; have := (HA.out b hb).1; omega, (HA.out b hb).2.2⟩)
                  have K6 : Hid (∀ u, KeepB w4 (fun b => b = w.heap.size ∨ b = bm ∨ b = w3.heap.size) (w5.setCell ⟨M, 5, none⟩ u)) := fun u => K5.out.set (fun b hb => (HA.out b hb).2.1) 5 u
                  refine hK.out _ _ K5.out (fun hHeld => ?_)
                  clear hK K
                  (try simp only [Act.put, List.setIfInBounds_toArray, List.set_cons_zero, List.set_cons_succ])
                  (refine wpAnyH_take (i := 12) (v := ?_) rfl (by kernel_rfl) (by kernel_rfl) (by kernel_rfl) (fun _ _ _ h => h) (Or.inl ⟨by rfl, ?_⟩) (by assumption) ?_; rotate_left 1; (intro W0 hSw; (try dsimp only at hSw); go_simp; (try with_reducible rfl)); (try simp only [Act.put, List.setIfInBounds_toArray, List.set_cons_zero, List.set_cons_succ]))
                  refine wpAnyH_ready (rs := [13]) (by kernel_rfl) (by simp) ?_
                  refine AllReadyH.cons rfl (fun K hK => ?_) AllReadyH.nil
                  go_simp
                  refine hK.out _ _ (K6.out _) (fun hHeld => ?_)
                  clear hK K
                  (try simp only [Act.put, List.setIfInBounds_toArray, List.set_cons_zero, List.set_cons_succ])
                  refine wpAnyH_done (by kernel_rfl) ?_ _
                  (try dsimp only [Act.put, List.getElem_toArray, List.getElem_cons_succ, List.getElem_cons_zero, List.setIfInBounds_toArray, List.set_cons_zero, List.set_cons_succ])
                  clear hHeld KA K5 K6 HA M5 M5a D5 Q4 R4 c6 f6
                  go_wp2_with fail
                  go_roundw
                  case rel => exact ⟨j + 1, _, _, by omega, by go_num, t5.set _, by rw [HT.out]; exact o5.set (keepM false) (by omega) _ _⟩
                  case measure => simp [RowKit.intOf]; omega
        · obtain rfl : j = m.length := by omega
          have y1 : ¬ (m.length : Int) < m.length := by omega
          rw [HLE.out] at oj
          have HWL : Hid (wtM (withL m key x) ≤ 281474976000000) := by
            have := wtM_with (key := key) (x := x) HSM.out
            show _ ≤ _
            omega
          clear HLE HFL HFL2 HSM
          generalize withL m key x = L at *
          obtain ⟨sa, sc, sb, so, rfl, hd, hls⟩ := own_listM oj
          have HVL : Hid (∀ W, Below wp.heap.size wp W → (V.mk 5 false 0 ⟨#[]⟩ [] L).lies false W (From (M + 1) wp) [.int .i64 5, .bool false, .int .i64 0, .string ⟨#[]⟩, .slice none 0 0, .slice sa L.length sc]) := fun W hb => lies_S (by constructor <;> omega) (by constructor <;> omega) (by decide) headed_nil hd (by rw [liesL]; trivial) (liesM_keep (fun h => h) (fun x hx => hb.block x hx.2) (fun _ h => h) _ hls)
          have HR : Hid (∀ W, Below wp.heap.size wp W → McF wz M (.int .i64 5) (.bool false) (.int .i64 0) (.string ⟨#[]⟩) (.slice none 0 0) (.slice sa L.length sc) W) := fun W hb => rj.grown (grown_of_below hb) (fun r e => by cases e)
          have hwv : (V.mk 5 false 0 ⟨#[]⟩ [] L).wt ≤ 281474976710656 := by
            have z0 : (⟨#[]⟩ : ByteArray).size = 0 := rfl
            have := HWL.out
            simp only [V.wt, wtL]; omega
          have u1 := rj.b1
          have n0 : wp.cell? ⟨M, 0, none⟩ = some (.int .i64 5) := by rw [cell_of_block u1]; rfl
          have n1 : wp.cell? ⟨M, 1, none⟩ = some (.bool false) := by rw [cell_of_block u1]; rfl
          have n2 : wp.cell? ⟨M, 2, none⟩ = some (.int .i64 0) := by rw [cell_of_block u1]; rfl
          have n3 : wp.cell? ⟨M, 3, none⟩ = some (.string ⟨#[]⟩) := by rw [cell_of_block u1]; rfl
          have n4 : wp.cell? ⟨M, 4, none⟩ = some (.slice none 0 0) := by rw [cell_of_block u1]; rfl
          have n5 : wp.cell? ⟨M, 5, none⟩ = some (.slice sa L.length sc) := by rw [cell_of_block u1]; rfl
          clear u1 rj oj hls tj tx tz
          go_wp2_with fail
          refine (rcheck_wide false (V.mk 5 false 0 ⟨#[]⟩ [] L) 40 (From (M + 1) wp) _ wp (HVL.out wp (Below.refl _ _)) (fun b h => h.2) hwv).mono ?_
          rintro e w3 ⟨rfl, b3⟩
          have rb3 := HR.out w3 b3
          have t1 := rb3.b1
          obtain ⟨B3, _, _, t0⟩ := KB.out w3 rb3.below
          have hlt := rb3.lt
          clear n0 n1 n2 n3 n4 n5 d5
          have r0 : w3.cell? ⟨w.heap.size + 2, 0, none⟩ = some (.int .i64 0) := by rw [cell_of_block t0]; rfl
          have r1 : w3.cell? ⟨w.heap.size + 2, 1, none⟩ = some (.bool false) := by rw [cell_of_block t0]; rfl
          have r2 : w3.cell? ⟨w.heap.size + 2, 2, none⟩ = some (.int .i64 0) := by rw [cell_of_block t0]; rfl
          have r3 : w3.cell? ⟨w.heap.size + 2, 3, none⟩ = some (.string ⟨#[]⟩) := by rw [cell_of_block t0]; rfl
          have r4 : w3.cell? ⟨w.heap.size + 2, 4, none⟩ = some (.slice none 0 0) := by rw [cell_of_block t0]; rfl
          have r5 : w3.cell? ⟨w.heap.size + 2, 5, none⟩ = some (.slice none 0 0) := by rw [cell_of_block t0]; rfl
          have rf : ∀ i, w3.frozen? ⟨w.heap.size + 2, i, none⟩ = false := frozen_of_block t0
          have n0 : w3.cell? ⟨M, 0, none⟩ = some (.int .i64 5) := by rw [cell_of_block t1]; rfl
          have n1 : w3.cell? ⟨M, 1, none⟩ = some (.bool false) := by rw [cell_of_block t1]; rfl
          have n2 : w3.cell? ⟨M, 2, none⟩ = some (.int .i64 0) := by rw [cell_of_block t1]; rfl
          have n3 : w3.cell? ⟨M, 3, none⟩ = some (.string ⟨#[]⟩) := by rw [cell_of_block t1]; rfl
          have n4 : w3.cell? ⟨M, 4, none⟩ = some (.slice none 0 0) := by rw [cell_of_block t1]; rfl
          have n5 : w3.cell? ⟨M, 5, none⟩ = some (.slice sa L.length sc) := by rw [cell_of_block t1]; rfl
          have HE : Hid (mapE L = chkE (V.mk 5 false 0 ⟨#[]⟩ [] L) 40) := rfl
          generalize chkE (V.mk 5 false 0 ⟨#[]⟩ [] L) 40 = r at *
          by_cases hr0 : r = 0
          · subst hr0
            have HFv : Hid (mapV L = (V.mk 5 false 0 ⟨#[]⟩ [] L)) := by show _ = _; rw [mapV, if_pos HE.out]
            have HU : Hid ((V.mk 5 false 0 ⟨#[]⟩ [] L).lies false w3 (From (w.heap.size + 3) w3) [.int .i64 5, .bool false, .int .i64 0, .string ⟨#[]⟩, .slice none 0 0, .slice sa L.length sc]) := V.lies_keep (fun h => h) (fun _ _ => rfl) (fun x hx => ⟨by have := hx.1; omega, by have := hx.2; have := b3.size; omega⟩) _ (HVL.out w3 b3)
            clear t0 t1 rb3
            go_wp2_with fail
            (try simp only [Exit.inBlock, Exit.then])
            refine bodyPost_ret (v := .tuple #[.agg #[.int .i64 5, .bool false, .int .i64 0, .string ⟨#[]⟩, .slice none 0 0, .slice sa L.length sc], .int .i64 0]) ?_ rfl (by rw [HF.out.1, HF.out.2, HFv.out, HE.out]; exact ⟨[.int .i64 5, .bool false, .int .i64 0, .string ⟨#[]⟩, .slice none 0 0, .slice sa L.length sc], rfl, V.lies_keep (fun h => h) (fun _ _ => rfl) (fun x hx => ⟨by have := hx.1; omega, hx.2⟩) _ (lies_set6A HU.out (show w.heap.size + 2 < w.heap.size + 3 by omega) _ _ _ _ _ _ _ _ _ _ _ _), Below.set6 B3 (by omega) _ _ _ _ _ _ _ _ _ _ _ _⟩)
            rw [results_cell_tmp rfl]
            go_simp
          · have HFv : Hid (mapV L = nullV) := by show _ = _; rw [mapV, if_neg (by rw [HE.out]; exact hr0)]
            have y5 : ¬ (r : Int) = 0 := by omega
            clear t0 t1 rb3 n0 n1 n2 n3 n4 n5
            go_wp2_with fail
            (try simp only [Exit.inBlock, Exit.then])
            refine bodyPost_ret (v := .tuple #[.agg #[.int .i64 0, .bool false, .int .i64 0, .string ⟨#[]⟩, .slice none 0 0, .slice none 0 0], .int .i64 (r : Int)]) ?_ rfl (by rw [HF.out.1, HF.out.2, HFv.out, HE.out]; exact ⟨[.int .i64 0, .bool false, .int .i64 0, .string ⟨#[]⟩, .slice none 0 0, .slice none 0 0], rfl, null_lies _ _, Below.set6 B3 (by omega) _ _ _ _ _ _ _ _ _ _ _ _⟩)
            rw [results_cell_tmp rfl]
            go_simp
end Go.Proofs.YtljgofmmihmmfaaDoor
