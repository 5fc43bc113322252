import Derived.Test.YthgfomblodhoaaaDoorMpfX
/- with_ap: the answer's lists and maps, each in a block of its own. -/
set_option linter.unusedSimpArgs false
set_option linter.unusedVariables false
namespace Go.Proofs.YthgfomblodhoaaaDoor
open Go.RowKit Go.Lib
set_option maxHeartbeats 8000000 in
set_option maxRecDepth 100000 in
theorem with_ap (v x : V) (key : ByteArray) (R Q : Bool) (S T : Nat → Prop) (cs cx : List Value) (w : World) (tb : Tb w) (hv : v.lies R w S cs) (hx : x.lies Q w T cx) (hS : ∀ b, S b → b < w.heap.size) (hT : ∀ b, T b → b < w.heap.size) (hkey : key.size ≤ 140737488355328) (hwt : v.wt ≤ 2147483648) (hwx : x.wt ≤ 2147483648) :
    Calls Tryd.prog 15 #[.agg cs.toArray, .string key, .agg cx.toArray] w (VaPost (withV v key x) (withE v key x) w) := by
  obtain ⟨k, b, i, s, l, m⟩ := v
  have hv0 := hv
  rw [V.lies] at hv
  obtain ⟨al, cl, bl, ol, am, cm, bm, om, rfl, hk, hi, hs, hal, ham, hl0, hm, _⟩ := hv
  obtain ⟨xk, xb, xi, xs, xal, xnl, xcl, xam, xnm, xcm, rfl⟩ := V.ten hx
  have hkm : key.size ≤ maxLen := Nat.le_trans hkey (by decide)
  have hz2 : (((w.alloc (.cells #[.int .i64 k, .bool b, .int .i64 i, .string s, .slice al l.length cl, .slice am m.length cm] 25)).alloc (.cells #[.int .i64 xk, .bool xb, .int .i64 xi, .string xs, .slice xal xnl xcl, .slice xam xnm xcm] 25)).alloc (.cells #[.int .i64 0, .bool false, .int .i64 0, .string ⟨#[]⟩, .slice none 0 0, .slice none 0 0] 25)).heap.size = w.heap.size + 3 := by rw [alloc_size, alloc_size, alloc_size]
  have B0 : Below w.heap.size w (((w.alloc (.cells #[.int .i64 k, .bool b, .int .i64 i, .string s, .slice al l.length cl, .slice am m.length cm] 25)).alloc (.cells #[.int .i64 xk, .bool xb, .int .i64 xi, .string xs, .slice xal xnl xcl, .slice xam xnm xcm] 25)).alloc (.cells #[.int .i64 0, .bool false, .int .i64 0, .string ⟨#[]⟩, .slice none 0 0, .slice none 0 0] 25)) := three_below w _ _ _
  have ba : Below (w.heap.size + 2) ((w.alloc (.cells #[.int .i64 k, .bool b, .int .i64 i, .string s, .slice al l.length cl, .slice am m.length cm] 25)).alloc (.cells #[.int .i64 xk, .bool xb, .int .i64 xi, .string xs, .slice xal xnl xcl, .slice xam xnm xcm] 25)) (((w.alloc (.cells #[.int .i64 k, .bool b, .int .i64 i, .string s, .slice al l.length cl, .slice am m.length cm] 25)).alloc (.cells #[.int .i64 xk, .bool xb, .int .i64 xi, .string xs, .slice xal xnl xcl, .slice xam xnm xcm] 25)).alloc (.cells #[.int .i64 0, .bool false, .int .i64 0, .string ⟨#[]⟩, .slice none 0 0, .slice none 0 0] 25)) := (Below.refl _ _).alloc (by rw [alloc_size, alloc_size]; exact Nat.le_refl _) _
  have h0 := (ba.block w.heap.size (by omega)).trans (alloc2_keep1 w (.cells #[.int .i64 k, .bool b, .int .i64 i, .string s, .slice al l.length cl, .slice am m.length cm] 25) (.cells #[.int .i64 xk, .bool xb, .int .i64 xi, .string xs, .slice xal xnl xcl, .slice xam xnm xcm] 25))
  have h1 := (ba.block (w.heap.size + 1) (by omega)).trans (alloc2_new w (.cells #[.int .i64 k, .bool b, .int .i64 i, .string s, .slice al l.length cl, .slice am m.length cm] 25) (.cells #[.int .i64 xk, .bool xb, .int .i64 xi, .string xs, .slice xal xnl xcl, .slice xam xnm xcm] 25))
  have h2 : (((w.alloc (.cells #[.int .i64 k, .bool b, .int .i64 i, .string s, .slice al l.length cl, .slice am m.length cm] 25)).alloc (.cells #[.int .i64 xk, .bool xb, .int .i64 xi, .string xs, .slice xal xnl xcl, .slice xam xnm xcm] 25)).alloc (.cells #[.int .i64 0, .bool false, .int .i64 0, .string ⟨#[]⟩, .slice none 0 0, .slice none 0 0] 25)).heap[w.heap.size + 2]? = some (.cells #[.int .i64 0, .bool false, .int .i64 0, .string ⟨#[]⟩, .slice none 0 0, .slice none 0 0] 25) := by
    have := heap_alloc_new ((w.alloc (.cells #[.int .i64 k, .bool b, .int .i64 i, .string s, .slice al l.length cl, .slice am m.length cm] 25)).alloc (.cells #[.int .i64 xk, .bool xb, .int .i64 xi, .string xs, .slice xal xnl xcl, .slice xam xnm xcm] 25)) (.cells #[.int .i64 0, .bool false, .int .i64 0, .string ⟨#[]⟩, .slice none 0 0, .slice none 0 0] 25)
    rwa [alloc_size, alloc_size] at this
  clear ba
  have HV : Hid (∀ W, Below w.heap.size w W → (V.mk k b i s l m).lies R W S [.int .i64 k, .bool b, .int .i64 i, .string s, .slice al l.length cl, .slice am m.length cm] ∧ (∀ b, S b → b < W.heap.size)) := fun W hb => ⟨V.lies_keep (fun h => h) (fun x hx => hb.block x (hS x hx)) (fun _ h => h) _ hv0, fun x hx => Nat.lt_of_lt_of_le (hS x hx) hb.size⟩
  have HX : Hid (∀ W, Below w.heap.size w W → x.lies Q W T [.int .i64 xk, .bool xb, .int .i64 xi, .string xs, .slice xal xnl xcl, .slice xam xnm xcm] ∧ (∀ b, T b → b < W.heap.size)) := fun W hb => ⟨V.lies_keep (fun h => h) (fun x hx => hb.block x (hT x hx)) (fun _ h => h) _ hx, fun x hx => Nat.lt_of_lt_of_le (hT x hx) hb.size⟩
  have HB : Hid (∀ W, Below w.heap.size w W → Tb W) := fun W hb => tb.below hb tb.z
  have HM : Hid (∀ W, Below w.heap.size w W → liesM R W S m bm om) := fun W hb => liesM_keep (fun h => h) (fun x hx => hb.block x (hS x hx)) (fun _ h => h) _ hm
  have hml : m.length ≤ 2147483648 := by have := wtM_len m; simp only [V.wt] at hwt; omega
  clear hv0 hm hl0 tb hx
  have d0 : (((w.alloc (.cells #[.int .i64 k, .bool b, .int .i64 i, .string s, .slice al l.length cl, .slice am m.length cm] 25)).alloc (.cells #[.int .i64 xk, .bool xb, .int .i64 xi, .string xs, .slice xal xnl xcl, .slice xam xnm xcm] 25)).alloc (.cells #[.int .i64 0, .bool false, .int .i64 0, .string ⟨#[]⟩, .slice none 0 0, .slice none 0 0] 25)).cell? ⟨w.heap.size, 0, none⟩ = some (.int .i64 k) := by rw [cell_of_block h0]; rfl
  have d1 : (((w.alloc (.cells #[.int .i64 k, .bool b, .int .i64 i, .string s, .slice al l.length cl, .slice am m.length cm] 25)).alloc (.cells #[.int .i64 xk, .bool xb, .int .i64 xi, .string xs, .slice xal xnl xcl, .slice xam xnm xcm] 25)).alloc (.cells #[.int .i64 0, .bool false, .int .i64 0, .string ⟨#[]⟩, .slice none 0 0, .slice none 0 0] 25)).cell? ⟨w.heap.size, 1, none⟩ = some (.bool b) := by rw [cell_of_block h0]; rfl
  have d2 : (((w.alloc (.cells #[.int .i64 k, .bool b, .int .i64 i, .string s, .slice al l.length cl, .slice am m.length cm] 25)).alloc (.cells #[.int .i64 xk, .bool xb, .int .i64 xi, .string xs, .slice xal xnl xcl, .slice xam xnm xcm] 25)).alloc (.cells #[.int .i64 0, .bool false, .int .i64 0, .string ⟨#[]⟩, .slice none 0 0, .slice none 0 0] 25)).cell? ⟨w.heap.size, 2, none⟩ = some (.int .i64 i) := by rw [cell_of_block h0]; rfl
  have d3 : (((w.alloc (.cells #[.int .i64 k, .bool b, .int .i64 i, .string s, .slice al l.length cl, .slice am m.length cm] 25)).alloc (.cells #[.int .i64 xk, .bool xb, .int .i64 xi, .string xs, .slice xal xnl xcl, .slice xam xnm xcm] 25)).alloc (.cells #[.int .i64 0, .bool false, .int .i64 0, .string ⟨#[]⟩, .slice none 0 0, .slice none 0 0] 25)).cell? ⟨w.heap.size, 3, none⟩ = some (.string s) := by rw [cell_of_block h0]; rfl
  have d4 : (((w.alloc (.cells #[.int .i64 k, .bool b, .int .i64 i, .string s, .slice al l.length cl, .slice am m.length cm] 25)).alloc (.cells #[.int .i64 xk, .bool xb, .int .i64 xi, .string xs, .slice xal xnl xcl, .slice xam xnm xcm] 25)).alloc (.cells #[.int .i64 0, .bool false, .int .i64 0, .string ⟨#[]⟩, .slice none 0 0, .slice none 0 0] 25)).cell? ⟨w.heap.size, 4, none⟩ = some (.slice al l.length cl) := by rw [cell_of_block h0]; rfl
  have d5 : (((w.alloc (.cells #[.int .i64 k, .bool b, .int .i64 i, .string s, .slice al l.length cl, .slice am m.length cm] 25)).alloc (.cells #[.int .i64 xk, .bool xb, .int .i64 xi, .string xs, .slice xal xnl xcl, .slice xam xnm xcm] 25)).alloc (.cells #[.int .i64 0, .bool false, .int .i64 0, .string ⟨#[]⟩, .slice none 0 0, .slice none 0 0] 25)).cell? ⟨w.heap.size, 5, none⟩ = some (.slice am m.length cm) := by rw [cell_of_block h0]; rfl
  by_cases hk5 : k = 5
  rotate_left 1
  · have HF : Hid (withV (V.mk k b i s l m) key x = nullV ∧ withE (V.mk k b i s l m) key x = 20) := by
      show _ ∧ _
      rw [withV, withE, if_neg (fun h => hk5 h.1), if_neg (fun h => hk5 h.1)]; exact ⟨rfl, rfl⟩
    clear HV HX HB HM d1 d2 d3 d4 d5
    go_enter Tryd.func15, Tryd.ntmps15
    have r0 : (((w.alloc (.cells #[.int .i64 k, .bool b, .int .i64 i, .string s, .slice al l.length cl, .slice am m.length cm] 25)).alloc (.cells #[.int .i64 xk, .bool xb, .int .i64 xi, .string xs, .slice xal xnl xcl, .slice xam xnm xcm] 25)).alloc (.cells #[.int .i64 0, .bool false, .int .i64 0, .string ⟨#[]⟩, .slice none 0 0, .slice none 0 0] 25)).cell? ⟨w.heap.size + 2, 0, none⟩ = some (.int .i64 0) := by rw [cell_of_block h2]; rfl
    have r1 : (((w.alloc (.cells #[.int .i64 k, .bool b, .int .i64 i, .string s, .slice al l.length cl, .slice am m.length cm] 25)).alloc (.cells #[.int .i64 xk, .bool xb, .int .i64 xi, .string xs, .slice xal xnl xcl, .slice xam xnm xcm] 25)).alloc (.cells #[.int .i64 0, .bool false, .int .i64 0, .string ⟨#[]⟩, .slice none 0 0, .slice none 0 0] 25)).cell? ⟨w.heap.size + 2, 1, none⟩ = some (.bool false) := by rw [cell_of_block h2]; rfl
    have r2 : (((w.alloc (.cells #[.int .i64 k, .bool b, .int .i64 i, .string s, .slice al l.length cl, .slice am m.length cm] 25)).alloc (.cells #[.int .i64 xk, .bool xb, .int .i64 xi, .string xs, .slice xal xnl xcl, .slice xam xnm xcm] 25)).alloc (.cells #[.int .i64 0, .bool false, .int .i64 0, .string ⟨#[]⟩, .slice none 0 0, .slice none 0 0] 25)).cell? ⟨w.heap.size + 2, 2, none⟩ = some (.int .i64 0) := by rw [cell_of_block h2]; rfl
    have r3 : (((w.alloc (.cells #[.int .i64 k, .bool b, .int .i64 i, .string s, .slice al l.length cl, .slice am m.length cm] 25)).alloc (.cells #[.int .i64 xk, .bool xb, .int .i64 xi, .string xs, .slice xal xnl xcl, .slice xam xnm xcm] 25)).alloc (.cells #[.int .i64 0, .bool false, .int .i64 0, .string ⟨#[]⟩, .slice none 0 0, .slice none 0 0] 25)).cell? ⟨w.heap.size + 2, 3, none⟩ = some (.string ⟨#[]⟩) := by rw [cell_of_block h2]; rfl
    have r4 : (((w.alloc (.cells #[.int .i64 k, .bool b, .int .i64 i, .string s, .slice al l.length cl, .slice am m.length cm] 25)).alloc (.cells #[.int .i64 xk, .bool xb, .int .i64 xi, .string xs, .slice xal xnl xcl, .slice xam xnm xcm] 25)).alloc (.cells #[.int .i64 0, .bool false, .int .i64 0, .string ⟨#[]⟩, .slice none 0 0, .slice none 0 0] 25)).cell? ⟨w.heap.size + 2, 4, none⟩ = some (.slice none 0 0) := by rw [cell_of_block h2]; rfl
    have r5 : (((w.alloc (.cells #[.int .i64 k, .bool b, .int .i64 i, .string s, .slice al l.length cl, .slice am m.length cm] 25)).alloc (.cells #[.int .i64 xk, .bool xb, .int .i64 xi, .string xs, .slice xal xnl xcl, .slice xam xnm xcm] 25)).alloc (.cells #[.int .i64 0, .bool false, .int .i64 0, .string ⟨#[]⟩, .slice none 0 0, .slice none 0 0] 25)).cell? ⟨w.heap.size + 2, 5, none⟩ = some (.slice none 0 0) := by rw [cell_of_block h2]; rfl
    have rf : ∀ ii, (((w.alloc (.cells #[.int .i64 k, .bool b, .int .i64 i, .string s, .slice al l.length cl, .slice am m.length cm] 25)).alloc (.cells #[.int .i64 xk, .bool xb, .int .i64 xi, .string xs, .slice xal xnl xcl, .slice xam xnm xcm] 25)).alloc (.cells #[.int .i64 0, .bool false, .int .i64 0, .string ⟨#[]⟩, .slice none 0 0, .slice none 0 0] 25)).frozen? ⟨w.heap.size + 2, ii, none⟩ = false := frozen_of_block h2
    go_wp2_with fail
    (try simp only [Exit.inBlock, Exit.then])
    refine bodyPost_ret (v := .tuple #[.agg #[.int .i64 0, .bool false, .int .i64 0, .string ⟨#[]⟩, .slice none 0 0, .slice none 0 0], .int .i64 20]) ?_ rfl (by rw [HF.out.1, HF.out.2]; exact ⟨[.int .i64 0, .bool false, .int .i64 0, .string ⟨#[]⟩, .slice none 0 0, .slice none 0 0], rfl, null_ap _ B0.size, B0⟩)
    rw [results_cell_tmp rfl]
    go_simp
  obtain rfl := hk5
  go_enter Tryd.func15, Tryd.ntmps15
  go_wp2_with fail
  clear d0 d1 d2 d3 d4 d5
  generalize (((w.alloc (.cells #[.int .i64 5, .bool b, .int .i64 i, .string s, .slice al l.length cl, .slice am m.length cm] 25)).alloc (.cells #[.int .i64 xk, .bool xb, .int .i64 xi, .string xs, .slice xal xnl xcl, .slice xam xnm xcm] 25)).alloc (.cells #[.int .i64 0, .bool false, .int .i64 0, .string ⟨#[]⟩, .slice none 0 0, .slice none 0 0] 25)) = w0 at *
  refine (taken_any R (V.mk 5 b i s l m) S _ w0 (HB.out w0 B0) (HV.out w0 B0).1 (HV.out w0 B0).2 (by omega)).mono ?_
  rintro e w1 ⟨rfl, b1⟩
  have hz1 := b1.size
  have B1 := B0.trans (b1.mono (by omega))
  have t0 := (b1.block w.heap.size (by omega)).trans h0
  have t1 := (b1.block (w.heap.size + 1) (by omega)).trans h1
  have t2 := (b1.block (w.heap.size + 2) (by omega)).trans h2
  clear h0 h1 h2 B0 b1
  cases ho : okV (V.mk 5 b i s l m) with
  | false =>
    have HF : Hid (withV (V.mk 5 b i s l m) key x = nullV ∧ withE (V.mk 5 b i s l m) key x = 20) := by
      show _ ∧ _
      rw [withV, withE, if_neg (fun h => by rw [ho] at h; cases h.2.1), if_neg (fun h => by rw [ho] at h; cases h.2.1)]; exact ⟨rfl, rfl⟩
    clear ho
    have r0 : w1.cell? ⟨w.heap.size + 2, 0, none⟩ = some (.int .i64 0) := by rw [cell_of_block t2]; rfl
    have r1 : w1.cell? ⟨w.heap.size + 2, 1, none⟩ = some (.bool false) := by rw [cell_of_block t2]; rfl
    have r2 : w1.cell? ⟨w.heap.size + 2, 2, none⟩ = some (.int .i64 0) := by rw [cell_of_block t2]; rfl
    have r3 : w1.cell? ⟨w.heap.size + 2, 3, none⟩ = some (.string ⟨#[]⟩) := by rw [cell_of_block t2]; rfl
    have r4 : w1.cell? ⟨w.heap.size + 2, 4, none⟩ = some (.slice none 0 0) := by rw [cell_of_block t2]; rfl
    have r5 : w1.cell? ⟨w.heap.size + 2, 5, none⟩ = some (.slice none 0 0) := by rw [cell_of_block t2]; rfl
    have rf : ∀ ii, w1.frozen? ⟨w.heap.size + 2, ii, none⟩ = false := frozen_of_block t2
    go_wp2_with fail
    (try simp only [Exit.inBlock, Exit.then])
    refine bodyPost_ret (v := .tuple #[.agg #[.int .i64 0, .bool false, .int .i64 0, .string ⟨#[]⟩, .slice none 0 0, .slice none 0 0], .int .i64 20]) ?_ rfl (by rw [HF.out.1, HF.out.2]; exact ⟨[.int .i64 0, .bool false, .int .i64 0, .string ⟨#[]⟩, .slice none 0 0, .slice none 0 0], rfl, null_ap _ (by have := B1.size; simp only [size_set1]; omega), Below.set6 B1 (by omega) _ _ _ _ _ _ _ _ _ _ _ _⟩)
    rw [results_cell_tmp rfl]
    go_simp
  | true =>
    have f0 : w1.cell? ⟨w.heap.size + 1, 0, none⟩ = some (.int .i64 xk) := by rw [cell_of_block t1]; rfl
    have f1 : w1.cell? ⟨w.heap.size + 1, 1, none⟩ = some (.bool xb) := by rw [cell_of_block t1]; rfl
    have f2 : w1.cell? ⟨w.heap.size + 1, 2, none⟩ = some (.int .i64 xi) := by rw [cell_of_block t1]; rfl
    have f3 : w1.cell? ⟨w.heap.size + 1, 3, none⟩ = some (.string xs) := by rw [cell_of_block t1]; rfl
    have f4 : w1.cell? ⟨w.heap.size + 1, 4, none⟩ = some (.slice xal xnl xcl) := by rw [cell_of_block t1]; rfl
    have f5 : w1.cell? ⟨w.heap.size + 1, 5, none⟩ = some (.slice xam xnm xcm) := by rw [cell_of_block t1]; rfl
    go_wp2_with fail
    clear f0 f1 f2 f3 f4 f5
    refine (taken_any Q x T _ w1 (HB.out w1 B1) (HX.out w1 B1).1 (HX.out w1 B1).2 (by omega)).mono ?_
    rintro e w5 ⟨rfl, b5⟩
    have hz5 := b5.size
    have B5 := B1.trans (b5.mono (by omega))
    have t0b := (b5.block w.heap.size (by omega)).trans t0
    have t1b := (b5.block (w.heap.size + 1) (by omega)).trans t1
    have t2b := (b5.block (w.heap.size + 2) (by omega)).trans t2
    clear t0 t1 t2 B1 b5
    cases hox : okV x with
    | false =>
      have HF : Hid (withV (V.mk 5 b i s l m) key x = nullV ∧ withE (V.mk 5 b i s l m) key x = 20) := by
        show _ ∧ _
        rw [withV, withE, if_neg (fun h => by rw [hox] at h; cases h.2.2), if_neg (fun h => by rw [hox] at h; cases h.2.2)]; exact ⟨rfl, rfl⟩
      clear ho hox
      have r0 : w5.cell? ⟨w.heap.size + 2, 0, none⟩ = some (.int .i64 0) := by rw [cell_of_block t2b]; rfl
      have r1 : w5.cell? ⟨w.heap.size + 2, 1, none⟩ = some (.bool false) := by rw [cell_of_block t2b]; rfl
      have r2 : w5.cell? ⟨w.heap.size + 2, 2, none⟩ = some (.int .i64 0) := by rw [cell_of_block t2b]; rfl
      have r3 : w5.cell? ⟨w.heap.size + 2, 3, none⟩ = some (.string ⟨#[]⟩) := by rw [cell_of_block t2b]; rfl
      have r4 : w5.cell? ⟨w.heap.size + 2, 4, none⟩ = some (.slice none 0 0) := by rw [cell_of_block t2b]; rfl
      have r5 : w5.cell? ⟨w.heap.size + 2, 5, none⟩ = some (.slice none 0 0) := by rw [cell_of_block t2b]; rfl
      have rf : ∀ ii, w5.frozen? ⟨w.heap.size + 2, ii, none⟩ = false := frozen_of_block t2b
      go_wp2_with fail
      (try simp only [Exit.inBlock, Exit.then])
      refine bodyPost_ret (v := .tuple #[.agg #[.int .i64 0, .bool false, .int .i64 0, .string ⟨#[]⟩, .slice none 0 0, .slice none 0 0], .int .i64 20]) ?_ rfl (by rw [HF.out.1, HF.out.2]; exact ⟨[.int .i64 0, .bool false, .int .i64 0, .string ⟨#[]⟩, .slice none 0 0, .slice none 0 0], rfl, null_ap _ (by have := B5.size; simp only [size_set1]; omega), Below.set6 B5 (by omega) _ _ _ _ _ _ _ _ _ _ _ _⟩)
      rw [results_cell_tmp rfl]
      go_simp
    | true =>
      have HG : Hid (okV (V.mk 5 b i s l m) = true ∧ okV x = true) := ⟨ho, hox⟩
      have HP : Hid (∀ W, Below w.heap.size w W → Calls Tryd.prog 36 #[.slice am m.length cm, .string key] W (fun e w' => e = .returned (.tuple #[.int .i64 (posF m key : Int), .bool (keyIs key m[posF m key]?)]) ∧ Below W.heap.size W w')) := fun W hb => find_any m key R S am cm bm om W ham (HM.out W hb) (HV.out W hb).2 (srt_ok ho) (by omega)
      have q5 : w5.cell? ⟨w.heap.size, 5, none⟩ = some (.slice am m.length cm) := by rw [cell_of_block t0b]; rfl
      clear ho hox
      have hple := pos_le m key
      have HA0 : Hid (withL m key x = m.take (posF m key) ++ (key, x) :: m.drop (if keyIs key m[posF m key]? = true then posF m key + 1 else posF m key)) := rfl
      have HI : Hid (keyIs key m[posF m key]? = true → posF m key < m.length) := fun h => (key_hit h).1
      generalize posF m key = p at *
      generalize keyIs key m[p]? = q at *
      go_wp2_with fail
      refine (HP.out w5 B5).mono ?_
      rintro e w2 ⟨rfl, b2⟩
      have hz4 := b2.size
      have B2 := B5.trans (b2.mono (by omega))
      have t0' := (b2.block w.heap.size (by omega)).trans t0b
      have t1' := (b2.block (w.heap.size + 1) (by omega)).trans t1b
      have t2' := (b2.block (w.heap.size + 2) (by omega)).trans t2b
      have hz2w : w.heap.size + 3 ≤ w2.heap.size := by omega
      clear t0b t1b t2b q5 b2 HP B5 hz1 hz5 hz4
      have hcl := ham.le
      have y6 : (m.length : Int) ≤ cm := by omega
      have y2 : (p : Int) ≤ cm := by omega
      cases q with
      | true =>
        have hpl := HI.out rfl
        rw [if_pos rfl] at HA0
        have y1 : (p : Int) < m.length := by omega
        have y8 : (p : Int) ≤ m.length := by omega
        obtain rfl : am = some ⟨bm, om, none⟩ := ham.at_.resolve_left (by omega)
        have y3 : ((p : Int) + 1) ≤ m.length := by omega
        have y4 : IntKind.i64.wrap ((p : Int) + 1) = ((p + 1 : Nat) : Int) := by simp [IntKind.wrap, IntKind.bits, IntKind.signed]; omega
        have y5 : ((p + 1 : Nat) : Int) ≤ m.length := by omega
        have y7 : (0 : Int) ≤ (p : Int) + 1 := by omega
        obtain ⟨sx, hsx⟩ : ∃ sx, (if cm = p + 1 then some ⟨bm, om, none⟩ else some ⟨bm, om + (p + 1) * 7, none⟩ : Option Addr) = sx := ⟨_, rfl⟩
        have HSX : Hid (Headed sx (m.drop (p + 1)).length (cm - (p + 1)) bm (om + (p + 1) * 7)) := by
          have hmx := ham.max
          refine ⟨by rw [List.length_drop]; omega, by omega, ?_, fun h => ?_⟩
          · by_cases hc : cm = p + 1
            · exact .inl (by rw [List.length_drop]; omega)
            · rw [if_neg hc] at hsx; exact .inr hsx.symm
          · rw [h] at hsx; split at hsx <;> cases hsx
        have HS1 : Hid (Headed (some ⟨bm, om, none⟩) (m.take p).length cm bm om) := ⟨by rw [List.length_take]; omega, ham.max, .inr rfl, fun h => by cases h⟩
        have HTP : Hid ((m.take p).length = p) := by show _ = _; rw [List.length_take]; omega
        have HDP : Hid ((m.drop (p + 1)).length = m.length - (p + 1)) := List.length_drop ..
        obtain ⟨L, hL⟩ : ∃ L, m.take p ++ (key, x) :: m.drop (p + 1) = L := ⟨_, rfl⟩
        have HL : Hid (m.take p ++ (key, x) :: m.drop (p + 1) = L) := hL
        have HWT : Hid (wtM L ≤ 281474976710600) := by
          show _ ≤ _
          have e1 : wtM (m.take p) ≤ wtM m := by have := wtM_app (m.take p) (m.drop p); rw [List.take_append_drop] at this; omega
          have e2 : wtM (m.drop (p + 1)) ≤ wtM m := by have := wtM_app (m.take (p + 1)) (m.drop (p + 1)); rw [List.take_append_drop] at this; omega
          rw [← hL, wtM_app]
          simp only [wtM]
          simp only [V.wt] at hwt
          omega
        obtain ⟨me, hme⟩ : ∃ me, mapE L = me := ⟨_, rfl⟩
        have HME : Hid (mapE L = me) := hme
        have HF : Hid (withV (V.mk 5 b i s l m) key x = mapV L ∧ withE (V.mk 5 b i s l m) key x = me) := by
          have e : withL m key x = L := HA0.out.trans hL
          show _ ∧ _
          rw [withV, withE, if_pos ⟨rfl, HG.out⟩, if_pos ⟨rfl, HG.out⟩, e]
          exact ⟨rfl, hme⟩
        clear hL hme HA0 HG
        have BM : Hid (Below w2.heap.size w2 (w2.drew.alloc (.cells #[.string key, .int .i64 xk, .bool xb, .int .i64 xi, .string xs, .slice xal xnl xcl, .slice xam xnm xcm] 38))) := (((Below.refl w2.heap.size w2).drew).alloc (Nat.le_refl _) _)
        have BW : Hid (Below w2.heap.size w2 ((w2.drew.alloc (.cells #[.string key, .int .i64 xk, .bool xb, .int .i64 xi, .string xs, .slice xal xnl xcl, .slice xam xnm xcm] 38)).alloc (.cells #[.slice (some ⟨bm, om, none⟩) p cm, .slice (some ⟨w2.heap.size, 0, none⟩) 1 1, .slice sx (m.length - (p + 1)) (cm - (p + 1))] 23))) := BM.out.alloc (by rw [alloc_size]; exact Nat.le_succ _) _
        have HC : Hid (∀ W, Below w2.heap.size w2 W → W.heap[w2.heap.size]? = some (.cells #[.string key, .int .i64 xk, .bool xb, .int .i64 xi, .string xs, .slice xal xnl xcl, .slice xam xnm xcm] 38 (0, 0)) → W.cell? ⟨w2.heap.size + 1, 0, none⟩ = some (.slice (some ⟨bm, om, none⟩) p cm) → W.cell? ⟨w2.heap.size + 1, 1, none⟩ = some (.slice (some ⟨w2.heap.size, 0, none⟩) 1 1) → W.cell? ⟨w2.heap.size + 1, 2, none⟩ = some (.slice sx (m.length - (p + 1)) (cm - (p + 1))) → w2.heap.size + 1 < W.heap.size → Calls Tryd.prog 38 #[.slice (some ⟨w2.heap.size + 1, 0, none⟩) 3 3] W (ConPost (fun y => S y ∨ T y ∨ y = w2.heap.size) L W)) := fun W hb hM z0 z1 z2 hlt => by
          have hB := B2.trans (hb.mono B2.size)
          have hmW := liesM_keep (R' := false) (S' := (fun y => S y ∨ T y ∨ y = w2.heap.size)) (fun h => by cases h) (fun _ _ => rfl) (fun _ h => .inl h) _ (HM.out W hB)
          have hxW := V.lies_keep (R' := false) (S' := (fun y => S y ∨ T y ∨ y = w2.heap.size)) (fun h => by cases h) (fun _ _ => rfl) (fun _ h => .inr (.inl h)) _ (HX.out W hB).1
          have hSW : ∀ y, (fun y => S y ∨ T y ∨ y = w2.heap.size) y → y < W.heap.size := fun y hy => by
            rcases hy with h | h | h
            · exact (HV.out W hB).2 y h
            · exact (HX.out W hB).2 y h
            · omega
          have hone : liesM false W (fun y => S y ∨ T y ∨ y = w2.heap.size) [(key, x)] w2.heap.size 0 := by
            rw [liesM, liesM]
            exact ⟨.inr (.inr rfl), ⟨hkm, [.int .i64 xk, .bool xb, .int .i64 xi, .string xs, .slice xal xnl xcl, .slice xam xnm xcm], row_of_block (cs := [.string key, .int .i64 xk, .bool xb, .int .i64 xi, .string xs, .slice xal xnl xcl, .slice xam xnm xcm]) hM, hxW⟩, trivial⟩
          have h := concat_any [⟨(some ⟨bm, om, none⟩), m.take p, cm, bm, om⟩, ⟨some ⟨w2.heap.size, 0, none⟩, [(key, x)], 1, w2.heap.size, 0⟩, ⟨sx, m.drop (p + 1), (cm - (p + 1)), bm, om + (p + 1) * 7⟩] (fun y => S y ∨ T y ∨ y = w2.heap.size) (w2.heap.size + 1) 0 3 W (fun i hi => by
            rcases i with _ | _ | _ | i
            · show W.cell? ⟨w2.heap.size + 1, 0 + 0, none⟩ = some (.slice (some ⟨bm, om, none⟩) (m.take p).length cm)
              rw [HTP.out]; exact z0
            · exact z1
            · show W.cell? ⟨w2.heap.size + 1, 0 + 2, none⟩ = some (.slice sx (m.drop (p + 1)).length (cm - (p + 1)))
              rw [HDP.out]; exact z2
            · exact absurd hi (by simp only [List.length_cons, List.length_nil]; omega)) hlt (by simp) (fun g hg => by
            simp only [List.mem_cons, List.not_mem_nil, or_false] at hg
            rcases hg with rfl | rfl | rfl
            · exact ⟨HS1.out, liesM_take p hmW⟩
            · exact ⟨⟨Nat.le_refl _, by simp [maxLen], .inr rfl, fun h => by cases h⟩, hone⟩
            · exact ⟨HSX.out, liesM_drop (p + 1) hmW⟩) hSW (by simp [catL] <;> omega)
          rw [← HL.out]
          simpa [catL] using h
        have HK : Hid (∀ e w3, ConPost (fun y => S y ∨ T y ∨ y = w2.heap.size) L ((w2.drew.alloc (.cells #[.string key, .int .i64 xk, .bool xb, .int .i64 xi, .string xs, .slice xal xnl xcl, .slice xam xnm xcm] 38)).alloc (.cells #[.slice (some ⟨bm, om, none⟩) p cm, .slice (some ⟨w2.heap.size, 0, none⟩) 1 1, .slice sx (m.length - (p + 1)) (cm - (p + 1))] 23)) e w3 → ∃ ca cc, e = .returned (.slice ca L.length cc) ∧ Below w2.heap.size w2 w3 ∧ Hid (Calls Tryd.prog 35 #[.slice ca L.length cc] w3 (VaPost (mapV L) me w3))) := fun e w3 h => by
          obtain ⟨ca, cc, cb, co, rfl, hdc, hlc, b3⟩ := h
          have hzA : ((w2.drew.alloc (.cells #[.string key, .int .i64 xk, .bool xb, .int .i64 xi, .string xs, .slice xal xnl xcl, .slice xam xnm xcm] 38)).alloc (.cells #[.slice (some ⟨bm, om, none⟩) p cm, .slice (some ⟨w2.heap.size, 0, none⟩) 1 1, .slice sx (m.length - (p + 1)) (cm - (p + 1))] 23)).heap.size = w2.heap.size + 2 := by rw [alloc_size, alloc_size]; rfl
          have c3 : Below w2.heap.size w2 w3 := BW.out.trans (b3.mono (by rw [hzA]; omega))
          have hB := B2.trans (c3.mono B2.size)
          have hz3 := b3.size
          rw [hzA] at hz3
          refine ⟨ca, cc, rfl, c3, ?_⟩
          have h := mapOf_ap L false _ ca cc cb co w3 (HB.out w3 hB) hdc hlc (fun y hy => by
            rcases hy with (h | h | h) | h
            · exact (HV.out w3 hB).2 y h
            · exact (HX.out w3 hB).2 y h
            · omega
            · exact h.2) HWT.out
          rw [HME.out] at h
          exact h
        have HQ : Hid (∀ w3 e w4, Below w2.heap.size w2 w3 → VaPost (mapV L) me w3 e w4 → ∃ uk ub ui us ual unl ucl uam unm ucm, e = .returned (.tuple #[.agg #[.int .i64 uk, .bool ub, .int .i64 ui, .string us, .slice ual unl ucl, .slice uam unm ucm], .int .i64 (me : Int)]) ∧ Below w2.heap.size w2 w4 ∧ Hid ((mapV L).ap w4 (w.heap.size + 3) w4.heap.size [.int .i64 uk, .bool ub, .int .i64 ui, .string us, .slice ual unl ucl, .slice uam unm ucm])) := fun w3 e w4 c3 h => by
          obtain ⟨csu, rfl, hlu, b4⟩ := h
          obtain ⟨uk, ub, ui, us, ual, unl, ucl, uam, unm, ucm, rfl⟩ := V.ten (V.ap_lies _ hlu)
          have hz3 := c3.size
          exact ⟨uk, ub, ui, us, ual, unl, ucl, uam, unm, ucm, rfl, c3.trans (b4.mono hz3), V.ap_wide hlu (by omega) (Nat.le_refl _)⟩
        have q5 : w2.cell? ⟨w.heap.size, 5, none⟩ = some (.slice (some ⟨bm, om, none⟩) m.length cm) := by rw [cell_of_block t0']; rfl
        have RX : rowAt w2 (w.heap.size + 1) 0 [.int .i64 xk, .bool xb, .int .i64 xi, .string xs, .slice xal xnl xcl, .slice xam xnm xcm] := row_of_block t1'
        have HA : Hid (∀ b, (fun b => b = w.heap.size ∨ b = w.heap.size + 1) b → b < w2.heap.size ∧ b ≠ w.heap.size + 2) := fun b hb => by
          rcases hb with rfl | rfl <;> exact ⟨by omega, by omega⟩
        have KP : Hid (∀ W, Below w2.heap.size w2 W → KeepB w2 (fun b => b = w.heap.size ∨ b = w.heap.size + 1) W) := fun W hb => (KeepB.refl w2 _).below hb (fun b h => (HA.out b h).1)
        have HT2 : Hid (∀ W, Below w2.heap.size w2 W → Below w.heap.size w W ∧ W.heap[w.heap.size + 2]? = some (.cells #[.int .i64 0, .bool false, .int .i64 0, .string ⟨#[]⟩, .slice none 0 0, .slice none 0 0] 25 (0, 0))) := fun W hb => ⟨B2.trans (hb.mono (by omega)), (hb.block _ (by omega)).trans t2'⟩
        clear HTP HDP HS1 HSX HL HWT HME t0' t1' t2'
        go_wp2_with fail
        refine wp_region_held_drew (S := KeepB w2 (fun b => b = w.heap.size ∨ b = w.heap.size + 1)) (by kernel_rfl) (KeepB.drew _ _) (fun hHeld => ?_)
        (refine wpAnyH_take (i := 0) (v := ?_) rfl (by kernel_rfl) (by kernel_rfl) (by kernel_rfl) (fun _ _ _ h => h) (Or.inl ⟨by rfl, ?_⟩) (by assumption) ?_; rotate_left 1; (intro W0 hSw; (try dsimp only at hSw); go_simp; (try with_reducible rfl)); (try simp only [Act.put, List.setIfInBounds_toArray, List.set_cons_zero, List.set_cons_succ]))
        (refine wpAnyH_take (i := 1) (v := ?_) rfl (by kernel_rfl) (by kernel_rfl) (by kernel_rfl) (fun _ _ _ h => h) (Or.inl ⟨by rfl, ?_⟩) (by assumption) ?_; rotate_left 1; (intro W0 hSw; have z := hSw.cell (.inl rfl) q5; go_simp; (try with_reducible rfl)); (try simp only [Act.put, List.setIfInBounds_toArray, List.set_cons_zero, List.set_cons_succ]))
        (refine wpAnyH_take (i := 2) (v := ?_) rfl (by kernel_rfl) (by kernel_rfl) (by kernel_rfl) (fun _ _ _ h => h) (Or.inl ⟨by rfl, ?_⟩) (by assumption) ?_; rotate_left 1; (intro W0 hSw; (try dsimp only at hSw); go_simp; (try with_reducible rfl)); (try simp only [Act.put, List.setIfInBounds_toArray, List.set_cons_zero, List.set_cons_succ]))
        (refine wpAnyH_take (i := 3) (v := ?_) rfl (by kernel_rfl) (by kernel_rfl) (by kernel_rfl) (fun _ _ _ h => h) (Or.inl ⟨by rfl, ?_⟩) (by assumption) ?_; rotate_left 1; (intro W0 hSw; (try dsimp only at hSw); go_simp; (try with_reducible rfl)); (try simp only [Act.put, List.setIfInBounds_toArray, List.set_cons_zero, List.set_cons_succ]))
        (refine wpAnyH_take (i := 4) (v := ?_) rfl (by kernel_rfl) (by kernel_rfl) (by kernel_rfl) (fun _ _ _ h => h) (Or.inl ⟨by rfl, ?_⟩) (by assumption) ?_; rotate_left 1; (intro W0 hSw; (try dsimp only at hSw); go_simp; (try with_reducible rfl)); (try simp only [Act.put, List.setIfInBounds_toArray, List.set_cons_zero, List.set_cons_succ]))
        (refine wpAnyH_take (i := 5) (v := ?_) rfl (by kernel_rfl) (by kernel_rfl) (by kernel_rfl) (fun _ _ _ h => h) (Or.inl ⟨by rfl, ?_⟩) (by assumption) ?_; rotate_left 1; (intro W0 hSw; obtain ⟨z0, z1, z2, z3, z4, z5⟩ := row6z (hSw.row (.inr rfl) RX); go_simp; (try with_reducible rfl)); (try simp only [Act.put, List.setIfInBounds_toArray, List.set_cons_zero, List.set_cons_succ]))
        (refine wpAnyH_take (i := 6) (v := ?_) rfl (by kernel_rfl) (by kernel_rfl) (by kernel_rfl) (fun _ _ _ h => h) (Or.inl ⟨by rfl, ?_⟩) (by assumption) ?_; rotate_left 1; (intro W0 hSw; (try dsimp only at hSw); go_simp; (try with_reducible rfl)); (try simp only [Act.put, List.setIfInBounds_toArray, List.set_cons_zero, List.set_cons_succ]))
        (refine wpAnyH_take (i := 8) (v := ?_) rfl (by kernel_rfl) (by kernel_rfl) (by kernel_rfl) (fun _ _ _ h => h) (Or.inl ⟨by rfl, ?_⟩) (by assumption) ?_; rotate_left 1; (intro W0 hSw; (try dsimp only at hSw); go_simp; (try with_reducible rfl)); (try simp only [Act.put, List.setIfInBounds_toArray, List.set_cons_zero, List.set_cons_succ]))
        (refine wpAnyH_take (i := 9) (v := ?_) rfl (by kernel_rfl) (by kernel_rfl) (by kernel_rfl) (fun _ _ _ h => h) (Or.inl ⟨by rfl, ?_⟩) (by assumption) ?_; rotate_left 1; (intro W0 hSw; have z := hSw.cell (.inl rfl) q5; go_simp; (try with_reducible rfl)); (try simp only [Act.put, List.setIfInBounds_toArray, List.set_cons_zero, List.set_cons_succ]))
        (refine wpAnyH_take (i := 10) (v := ?_) rfl (by kernel_rfl) (by kernel_rfl) (by kernel_rfl) (fun _ _ _ h => h) (Or.inl ⟨by rfl, ?_⟩) (by assumption) ?_; rotate_left 1; (intro W0 hSw; (try dsimp only at hSw); go_simp; (try with_reducible rfl)); (try simp only [Act.put, List.setIfInBounds_toArray, List.set_cons_zero, List.set_cons_succ]))
        (refine wpAnyH_take (i := 11) (v := ?_) rfl (by kernel_rfl) (by kernel_rfl) (by kernel_rfl) (fun _ _ _ h => h) (Or.inl ⟨by rfl, ?_⟩) (by assumption) ?_; rotate_left 1; (intro W0 hSw; (try dsimp only at hSw); go_simp; (try with_reducible rfl)); (try simp only [Act.put, List.setIfInBounds_toArray, List.set_cons_zero, List.set_cons_succ]))
        (try rw [hsx])
        refine wpAnyH_ready (rs := [7]) (by kernel_rfl) (by simp) ?_
        refine AllReadyH.cons rfl (fun K hK => ?_) AllReadyH.nil
        go_simp
        refine hK.out _ _ (KP.out _ BM.out) (fun hHeld => ?_)
        clear hK K
        (try simp only [Act.put, List.setIfInBounds_toArray, List.set_cons_zero, List.set_cons_succ])
        refine wpAnyH_ready (rs := [12]) (by kernel_rfl) (by simp) ?_
        refine AllReadyH.cons rfl (fun K hK => ?_) AllReadyH.nil
        go_simp
        refine hK.out _ _ (KP.out _ BW.out) (fun hHeld => ?_)
        clear hK K
        (try simp only [Act.put, List.setIfInBounds_toArray, List.set_cons_zero, List.set_cons_succ])
        refine wpAnyH_ready (rs := [13]) (by kernel_rfl) (by simp) ?_
        refine AllReadyH.cons rfl (fun K hK => ?_) AllReadyH.nil
        go_simp
        refine (HC.out ((w2.drew.alloc (.cells #[.string key, .int .i64 xk, .bool xb, .int .i64 xi, .string xs, .slice xal xnl xcl, .slice xam xnm xcm] 38)).alloc (.cells #[.slice (some ⟨bm, om, none⟩) p cm, .slice (some ⟨w2.heap.size, 0, none⟩) 1 1, .slice sx (m.length - (p + 1)) (cm - (p + 1))] 23)) BW.out (alloc2_keep1 w2.drew _ _) (cell_of_block (b := w2.heap.size + 1) (alloc2_new w2.drew _ _) 0) (cell_of_block (b := w2.heap.size + 1) (alloc2_new w2.drew _ _) 1) (cell_of_block (b := w2.heap.size + 1) (alloc2_new w2.drew _ _) 2) (by rw [alloc_size, alloc_size]; exact Nat.lt_succ_self _)).mono ?_
        rintro e w3 h3
        obtain ⟨ca, cc, rfl, c3, HC3⟩ := HK.out e w3 h3
        clear h3
        go_simp
        refine hK.out _ _ (KP.out _ c3) (fun hHeld => ?_)
        clear hK K
        (try simp only [Act.put, List.setIfInBounds_toArray, List.set_cons_zero, List.set_cons_succ])
        refine wpAnyH_ready (rs := [14]) (by kernel_rfl) (by simp) ?_
        refine AllReadyH.cons rfl (fun K hK => ?_) AllReadyH.nil
        go_simp
        refine HC3.out.mono ?_
        rintro e w4 h4
        obtain ⟨uk, ub, ui, us, ual, unl, ucl, uam, unm, ucm, rfl, c4, HU⟩ := HQ.out w3 e w4 c3 h4
        have B4 := (HT2.out w4 c4).1
        have t4 := (HT2.out w4 c4).2
        have r0 : w4.cell? ⟨w.heap.size + 2, 0, none⟩ = some (.int .i64 0) := by rw [cell_of_block t4]; rfl
        have r1 : w4.cell? ⟨w.heap.size + 2, 1, none⟩ = some (.bool false) := by rw [cell_of_block t4]; rfl
        have r2 : w4.cell? ⟨w.heap.size + 2, 2, none⟩ = some (.int .i64 0) := by rw [cell_of_block t4]; rfl
        have r3 : w4.cell? ⟨w.heap.size + 2, 3, none⟩ = some (.string ⟨#[]⟩) := by rw [cell_of_block t4]; rfl
        have r4 : w4.cell? ⟨w.heap.size + 2, 4, none⟩ = some (.slice none 0 0) := by rw [cell_of_block t4]; rfl
        have r5 : w4.cell? ⟨w.heap.size + 2, 5, none⟩ = some (.slice none 0 0) := by rw [cell_of_block t4]; rfl
        have rf : ∀ ii, w4.frozen? ⟨w.heap.size + 2, ii, none⟩ = false := frozen_of_block t4
        clear h4 t4
        go_simp
        refine hK.out _ _ (KP.out _ c4) (fun hHeld => ?_)
        clear hK K
        (try simp only [Act.put, List.setIfInBounds_toArray, List.set_cons_zero, List.set_cons_succ])
        (refine wpAnyH_take (i := 15) (v := ?_) rfl (by kernel_rfl) (by kernel_rfl) (by kernel_rfl) (fun _ _ _ h => h) (Or.inl ⟨by rfl, ?_⟩) (by assumption) ?_; rotate_left 1; (intro W0 hSw; (try dsimp only at hSw); go_simp; (try with_reducible rfl)); (try simp only [Act.put, List.setIfInBounds_toArray, List.set_cons_zero, List.set_cons_succ]))
        (refine wpAnyH_take (i := 16) (v := ?_) rfl (by kernel_rfl) (by kernel_rfl) (by kernel_rfl) (fun _ _ _ h => h) (Or.inl ⟨by rfl, ?_⟩) (by assumption) ?_; rotate_left 1; (intro W0 hSw; (try dsimp only at hSw); go_simp; (try with_reducible rfl)); (try simp only [Act.put, List.setIfInBounds_toArray, List.set_cons_zero, List.set_cons_succ]))
        refine wpAnyH_ready (rs := [17]) (by kernel_rfl) (by simp) ?_
        refine AllReadyH.cons rfl (fun K hK => ?_) AllReadyH.nil
        go_simp
        refine hK.out _ _ ((KP.out _ c4).set6 (fun b h => (HA.out b h).2) _ _ _ _ _ _ _ _ _ _ _ _) (fun hHeld => ?_)
        clear hK K
        (try simp only [Act.put, List.setIfInBounds_toArray, List.set_cons_zero, List.set_cons_succ])
        (refine wpAnyH_take (i := 18) (v := ?_) rfl (by kernel_rfl) (by kernel_rfl) (by kernel_rfl) (fun _ _ _ h => h) (Or.inl ⟨by rfl, ?_⟩) (by assumption) ?_; rotate_left 1; (intro W0 hSw; (try dsimp only at hSw); go_simp; (try with_reducible rfl)); (try simp only [Act.put, List.setIfInBounds_toArray, List.set_cons_zero, List.set_cons_succ]))
        refine wpAnyH_done (by kernel_rfl) ?_ _
        (try dsimp only [Act.put, List.getElem_toArray, List.getElem_cons_succ, List.getElem_cons_zero, List.setIfInBounds_toArray, List.set_cons_zero, List.set_cons_succ])
        go_wp2_with fail
        (try simp only [Exit.inBlock, Exit.then])
        refine bodyPost_ret (v := .tuple #[.agg #[.int .i64 uk, .bool ub, .int .i64 ui, .string us, .slice ual unl ucl, .slice uam unm ucm], .int .i64 (me : Int)]) ?_ rfl (by rw [HF.out.1, HF.out.2]; exact ⟨[.int .i64 uk, .bool ub, .int .i64 ui, .string us, .slice ual unl ucl, .slice uam unm ucm], rfl, V.ap_wide (ap_set6 HU.out (show w.heap.size + 2 < w.heap.size + 3 by omega) _ _ _ _ _ _ _ _ _ _ _ _) (by omega) (by simp only [size_set1]; exact Nat.le_refl _), Below.set6 B4 (by omega) _ _ _ _ _ _ _ _ _ _ _ _⟩)
        rw [results_cell_tmp rfl]
        go_simp
      | false =>
        rw [if_neg (by simp)] at HA0
        have y1 : (p : Int) ≤ m.length := by omega
        cases am with
        | none =>
          obtain rfl := ham.nil rfl
          obtain rfl : m = [] := List.eq_nil_of_length_eq_zero (by omega)
          obtain rfl : p = 0 := by simpa using hple
          have HSX : Hid (Headed none (([] : List Mem).drop 0).length 0 bm (om + 0 * 7)) := ⟨by simp, by simp [maxLen], .inl (by simp), fun _ => rfl⟩
          have HS1 : Hid (Headed none (([] : List Mem).take 0).length 0 bm om) := ⟨by simp, by simp [maxLen], .inl (by simp), fun _ => rfl⟩
          have HTP : Hid ((([] : List Mem).take 0).length = 0) := by show _ = _; rw [List.length_take]; omega
          have HDP : Hid ((([] : List Mem).drop 0).length = 0) := List.length_drop ..
          obtain ⟨L, hL⟩ : ∃ L, ([] : List Mem).take 0 ++ (key, x) :: ([] : List Mem).drop 0 = L := ⟨_, rfl⟩
          have HL : Hid (([] : List Mem).take 0 ++ (key, x) :: ([] : List Mem).drop 0 = L) := hL
          have HWT : Hid (wtM L ≤ 281474976710600) := by
            show _ ≤ _
            have e1 : wtM (([] : List Mem).take 0) ≤ wtM [] := by have := wtM_app (([] : List Mem).take 0) (([] : List Mem).drop 0); rw [List.take_append_drop] at this; omega
            have e2 : wtM (([] : List Mem).drop 0) ≤ wtM [] := by have := wtM_app (([] : List Mem).take 0) (([] : List Mem).drop 0); rw [List.take_append_drop] at this; omega
            rw [← hL, wtM_app]
            simp only [wtM]
            simp only [V.wt] at hwt
            omega
          obtain ⟨me, hme⟩ : ∃ me, mapE L = me := ⟨_, rfl⟩
          have HME : Hid (mapE L = me) := hme
          have HF : Hid (withV (V.mk 5 b i s l []) key x = mapV L ∧ withE (V.mk 5 b i s l []) key x = me) := by
            have e : withL [] key x = L := HA0.out.trans hL
            show _ ∧ _
            rw [withV, withE, if_pos ⟨rfl, HG.out⟩, if_pos ⟨rfl, HG.out⟩, e]
            exact ⟨rfl, hme⟩
          clear hL hme HA0 HG
          have BM : Hid (Below w2.heap.size w2 (w2.drew.alloc (.cells #[.string key, .int .i64 xk, .bool xb, .int .i64 xi, .string xs, .slice xal xnl xcl, .slice xam xnm xcm] 38))) := (((Below.refl w2.heap.size w2).drew).alloc (Nat.le_refl _) _)
          have BW : Hid (Below w2.heap.size w2 ((w2.drew.alloc (.cells #[.string key, .int .i64 xk, .bool xb, .int .i64 xi, .string xs, .slice xal xnl xcl, .slice xam xnm xcm] 38)).alloc (.cells #[.slice none 0 0, .slice (some ⟨w2.heap.size, 0, none⟩) 1 1, .slice none 0 0] 23))) := BM.out.alloc (by rw [alloc_size]; exact Nat.le_succ _) _
          have HC : Hid (∀ W, Below w2.heap.size w2 W → W.heap[w2.heap.size]? = some (.cells #[.string key, .int .i64 xk, .bool xb, .int .i64 xi, .string xs, .slice xal xnl xcl, .slice xam xnm xcm] 38 (0, 0)) → W.cell? ⟨w2.heap.size + 1, 0, none⟩ = some (.slice none 0 0) → W.cell? ⟨w2.heap.size + 1, 1, none⟩ = some (.slice (some ⟨w2.heap.size, 0, none⟩) 1 1) → W.cell? ⟨w2.heap.size + 1, 2, none⟩ = some (.slice none 0 0) → w2.heap.size + 1 < W.heap.size → Calls Tryd.prog 38 #[.slice (some ⟨w2.heap.size + 1, 0, none⟩) 3 3] W (ConPost (fun y => S y ∨ T y ∨ y = w2.heap.size) L W)) := fun W hb hM z0 z1 z2 hlt => by
            have hB := B2.trans (hb.mono B2.size)
            have hmW := liesM_keep (R' := false) (S' := (fun y => S y ∨ T y ∨ y = w2.heap.size)) (fun h => by cases h) (fun _ _ => rfl) (fun _ h => .inl h) _ (HM.out W hB)
            have hxW := V.lies_keep (R' := false) (S' := (fun y => S y ∨ T y ∨ y = w2.heap.size)) (fun h => by cases h) (fun _ _ => rfl) (fun _ h => .inr (.inl h)) _ (HX.out W hB).1
            have hSW : ∀ y, (fun y => S y ∨ T y ∨ y = w2.heap.size) y → y < W.heap.size := fun y hy => by
              rcases hy with h | h | h
              · exact (HV.out W hB).2 y h
              · exact (HX.out W hB).2 y h
              · omega
            have hone : liesM false W (fun y => S y ∨ T y ∨ y = w2.heap.size) [(key, x)] w2.heap.size 0 := by
              rw [liesM, liesM]
              exact ⟨.inr (.inr rfl), ⟨hkm, [.int .i64 xk, .bool xb, .int .i64 xi, .string xs, .slice xal xnl xcl, .slice xam xnm xcm], row_of_block (cs := [.string key, .int .i64 xk, .bool xb, .int .i64 xi, .string xs, .slice xal xnl xcl, .slice xam xnm xcm]) hM, hxW⟩, trivial⟩
            have h := concat_any [⟨none, ([] : List Mem).take 0, 0, bm, om⟩, ⟨some ⟨w2.heap.size, 0, none⟩, [(key, x)], 1, w2.heap.size, 0⟩, ⟨none, ([] : List Mem).drop 0, 0, bm, om + (0) * 7⟩] (fun y => S y ∨ T y ∨ y = w2.heap.size) (w2.heap.size + 1) 0 3 W (fun i hi => by
              rcases i with _ | _ | _ | i
              · show W.cell? ⟨w2.heap.size + 1, 0 + 0, none⟩ = some (.slice none (([] : List Mem).take 0).length 0)
                rw [HTP.out]; exact z0
              · exact z1
              · show W.cell? ⟨w2.heap.size + 1, 0 + 2, none⟩ = some (.slice none (([] : List Mem).drop 0).length 0)
                rw [HDP.out]; exact z2
              · exact absurd hi (by simp only [List.length_cons, List.length_nil]; omega)) hlt (by simp) (fun g hg => by
              simp only [List.mem_cons, List.not_mem_nil, or_false] at hg
              rcases hg with rfl | rfl | rfl
              · exact ⟨HS1.out, liesM_take 0 hmW⟩
              · exact ⟨⟨Nat.le_refl _, by simp [maxLen], .inr rfl, fun h => by cases h⟩, hone⟩
              · exact ⟨HSX.out, liesM_drop (0) hmW⟩) hSW (by simp [catL] <;> omega)
            rw [← HL.out]
            simpa [catL] using h
          have HK : Hid (∀ e w3, ConPost (fun y => S y ∨ T y ∨ y = w2.heap.size) L ((w2.drew.alloc (.cells #[.string key, .int .i64 xk, .bool xb, .int .i64 xi, .string xs, .slice xal xnl xcl, .slice xam xnm xcm] 38)).alloc (.cells #[.slice none 0 0, .slice (some ⟨w2.heap.size, 0, none⟩) 1 1, .slice none 0 0] 23)) e w3 → ∃ ca cc, e = .returned (.slice ca L.length cc) ∧ Below w2.heap.size w2 w3 ∧ Hid (Calls Tryd.prog 35 #[.slice ca L.length cc] w3 (VaPost (mapV L) me w3))) := fun e w3 h => by
            obtain ⟨ca, cc, cb, co, rfl, hdc, hlc, b3⟩ := h
            have hzA : ((w2.drew.alloc (.cells #[.string key, .int .i64 xk, .bool xb, .int .i64 xi, .string xs, .slice xal xnl xcl, .slice xam xnm xcm] 38)).alloc (.cells #[.slice none 0 0, .slice (some ⟨w2.heap.size, 0, none⟩) 1 1, .slice none 0 0] 23)).heap.size = w2.heap.size + 2 := by rw [alloc_size, alloc_size]; rfl
            have c3 : Below w2.heap.size w2 w3 := BW.out.trans (b3.mono (by rw [hzA]; omega))
            have hB := B2.trans (c3.mono B2.size)
            have hz3 := b3.size
            rw [hzA] at hz3
            refine ⟨ca, cc, rfl, c3, ?_⟩
            have h := mapOf_ap L false _ ca cc cb co w3 (HB.out w3 hB) hdc hlc (fun y hy => by
              rcases hy with (h | h | h) | h
              · exact (HV.out w3 hB).2 y h
              · exact (HX.out w3 hB).2 y h
              · omega
              · exact h.2) HWT.out
            rw [HME.out] at h
            exact h
          have HQ : Hid (∀ w3 e w4, Below w2.heap.size w2 w3 → VaPost (mapV L) me w3 e w4 → ∃ uk ub ui us ual unl ucl uam unm ucm, e = .returned (.tuple #[.agg #[.int .i64 uk, .bool ub, .int .i64 ui, .string us, .slice ual unl ucl, .slice uam unm ucm], .int .i64 (me : Int)]) ∧ Below w2.heap.size w2 w4 ∧ Hid ((mapV L).ap w4 (w.heap.size + 3) w4.heap.size [.int .i64 uk, .bool ub, .int .i64 ui, .string us, .slice ual unl ucl, .slice uam unm ucm])) := fun w3 e w4 c3 h => by
            obtain ⟨csu, rfl, hlu, b4⟩ := h
            obtain ⟨uk, ub, ui, us, ual, unl, ucl, uam, unm, ucm, rfl⟩ := V.ten (V.ap_lies _ hlu)
            have hz3 := c3.size
            exact ⟨uk, ub, ui, us, ual, unl, ucl, uam, unm, ucm, rfl, c3.trans (b4.mono hz3), V.ap_wide hlu (by omega) (Nat.le_refl _)⟩
          have q5 : w2.cell? ⟨w.heap.size, 5, none⟩ = some (.slice none 0 0) := by rw [cell_of_block t0']; rfl
          have RX : rowAt w2 (w.heap.size + 1) 0 [.int .i64 xk, .bool xb, .int .i64 xi, .string xs, .slice xal xnl xcl, .slice xam xnm xcm] := row_of_block t1'
          have HA : Hid (∀ b, (fun b => b = w.heap.size ∨ b = w.heap.size + 1) b → b < w2.heap.size ∧ b ≠ w.heap.size + 2) := fun b hb => by
            rcases hb with rfl | rfl <;> exact ⟨by omega, by omega⟩
          have KP : Hid (∀ W, Below w2.heap.size w2 W → KeepB w2 (fun b => b = w.heap.size ∨ b = w.heap.size + 1) W) := fun W hb => (KeepB.refl w2 _).below hb (fun b h => (HA.out b h).1)
          have HT2 : Hid (∀ W, Below w2.heap.size w2 W → Below w.heap.size w W ∧ W.heap[w.heap.size + 2]? = some (.cells #[.int .i64 0, .bool false, .int .i64 0, .string ⟨#[]⟩, .slice none 0 0, .slice none 0 0] 25 (0, 0))) := fun W hb => ⟨B2.trans (hb.mono (by omega)), (hb.block _ (by omega)).trans t2'⟩
          clear HTP HDP HS1 HSX HL HWT HME t0' t1' t2'
          go_wp2_with fail
          refine wp_region_held_drew (S := KeepB w2 (fun b => b = w.heap.size ∨ b = w.heap.size + 1)) (by kernel_rfl) (KeepB.drew _ _) (fun hHeld => ?_)
          (refine wpAnyH_take (i := 0) (v := ?_) rfl (by kernel_rfl) (by kernel_rfl) (by kernel_rfl) (fun _ _ _ h => h) (Or.inl ⟨by rfl, ?_⟩) (by assumption) ?_; rotate_left 1; (intro W0 hSw; (try dsimp only at hSw); go_simp; (try with_reducible rfl)); (try simp only [Act.put, List.setIfInBounds_toArray, List.set_cons_zero, List.set_cons_succ]))
          (refine wpAnyH_take (i := 1) (v := ?_) rfl (by kernel_rfl) (by kernel_rfl) (by kernel_rfl) (fun _ _ _ h => h) (Or.inl ⟨by rfl, ?_⟩) (by assumption) ?_; rotate_left 1; (intro W0 hSw; have z := hSw.cell (.inl rfl) q5; go_simp; (try with_reducible rfl)); (try simp only [Act.put, List.setIfInBounds_toArray, List.set_cons_zero, List.set_cons_succ]))
          (refine wpAnyH_take (i := 2) (v := ?_) rfl (by kernel_rfl) (by kernel_rfl) (by kernel_rfl) (fun _ _ _ h => h) (Or.inl ⟨by rfl, ?_⟩) (by assumption) ?_; rotate_left 1; (intro W0 hSw; (try dsimp only at hSw); go_simp; (try with_reducible rfl)); (try simp only [Act.put, List.setIfInBounds_toArray, List.set_cons_zero, List.set_cons_succ]))
          (refine wpAnyH_take (i := 3) (v := ?_) rfl (by kernel_rfl) (by kernel_rfl) (by kernel_rfl) (fun _ _ _ h => h) (Or.inl ⟨by rfl, ?_⟩) (by assumption) ?_; rotate_left 1; (intro W0 hSw; (try dsimp only at hSw); go_simp; (try with_reducible rfl)); (try simp only [Act.put, List.setIfInBounds_toArray, List.set_cons_zero, List.set_cons_succ]))
          (refine wpAnyH_take (i := 4) (v := ?_) rfl (by kernel_rfl) (by kernel_rfl) (by kernel_rfl) (fun _ _ _ h => h) (Or.inl ⟨by rfl, ?_⟩) (by assumption) ?_; rotate_left 1; (intro W0 hSw; (try dsimp only at hSw); go_simp; (try with_reducible rfl)); (try simp only [Act.put, List.setIfInBounds_toArray, List.set_cons_zero, List.set_cons_succ]))
          (refine wpAnyH_take (i := 5) (v := ?_) rfl (by kernel_rfl) (by kernel_rfl) (by kernel_rfl) (fun _ _ _ h => h) (Or.inl ⟨by rfl, ?_⟩) (by assumption) ?_; rotate_left 1; (intro W0 hSw; obtain ⟨z0, z1, z2, z3, z4, z5⟩ := row6z (hSw.row (.inr rfl) RX); go_simp; (try with_reducible rfl)); (try simp only [Act.put, List.setIfInBounds_toArray, List.set_cons_zero, List.set_cons_succ]))
          (refine wpAnyH_take (i := 6) (v := ?_) rfl (by kernel_rfl) (by kernel_rfl) (by kernel_rfl) (fun _ _ _ h => h) (Or.inl ⟨by rfl, ?_⟩) (by assumption) ?_; rotate_left 1; (intro W0 hSw; (try dsimp only at hSw); go_simp; (try with_reducible rfl)); (try simp only [Act.put, List.setIfInBounds_toArray, List.set_cons_zero, List.set_cons_succ]))
          (refine wpAnyH_take (i := 8) (v := ?_) rfl (by kernel_rfl) (by kernel_rfl) (by kernel_rfl) (fun _ _ _ h => h) (Or.inl ⟨by rfl, ?_⟩) (by assumption) ?_; rotate_left 1; (intro W0 hSw; (try dsimp only at hSw); go_simp; (try with_reducible rfl)); (try simp only [Act.put, List.setIfInBounds_toArray, List.set_cons_zero, List.set_cons_succ]))
          (refine wpAnyH_take (i := 9) (v := ?_) rfl (by kernel_rfl) (by kernel_rfl) (by kernel_rfl) (fun _ _ _ h => h) (Or.inl ⟨by rfl, ?_⟩) (by assumption) ?_; rotate_left 1; (intro W0 hSw; have z := hSw.cell (.inl rfl) q5; go_simp; (try with_reducible rfl)); (try simp only [Act.put, List.setIfInBounds_toArray, List.set_cons_zero, List.set_cons_succ]))
          (refine wpAnyH_take (i := 10) (v := ?_) rfl (by kernel_rfl) (by kernel_rfl) (by kernel_rfl) (fun _ _ _ h => h) (Or.inl ⟨by rfl, ?_⟩) (by assumption) ?_; rotate_left 1; (intro W0 hSw; (try dsimp only at hSw); go_simp; (try with_reducible rfl)); (try simp only [Act.put, List.setIfInBounds_toArray, List.set_cons_zero, List.set_cons_succ]))
          (refine wpAnyH_take (i := 11) (v := ?_) rfl (by kernel_rfl) (by kernel_rfl) (by kernel_rfl) (fun _ _ _ h => h) (Or.inl ⟨by rfl, ?_⟩) (by assumption) ?_; rotate_left 1; (intro W0 hSw; (try dsimp only at hSw); go_simp; (try with_reducible rfl)); (try simp only [Act.put, List.setIfInBounds_toArray, List.set_cons_zero, List.set_cons_succ]))
          refine wpAnyH_ready (rs := [7]) (by kernel_rfl) (by simp) ?_
          refine AllReadyH.cons rfl (fun K hK => ?_) AllReadyH.nil
          go_simp
          refine hK.out _ _ (KP.out _ BM.out) (fun hHeld => ?_)
          clear hK K
          (try simp only [Act.put, List.setIfInBounds_toArray, List.set_cons_zero, List.set_cons_succ])
          refine wpAnyH_ready (rs := [12]) (by kernel_rfl) (by simp) ?_
          refine AllReadyH.cons rfl (fun K hK => ?_) AllReadyH.nil
          go_simp
          refine hK.out _ _ (KP.out _ BW.out) (fun hHeld => ?_)
          clear hK K
          (try simp only [Act.put, List.setIfInBounds_toArray, List.set_cons_zero, List.set_cons_succ])
          refine wpAnyH_ready (rs := [13]) (by kernel_rfl) (by simp) ?_
          refine AllReadyH.cons rfl (fun K hK => ?_) AllReadyH.nil
          go_simp
          refine (HC.out ((w2.drew.alloc (.cells #[.string key, .int .i64 xk, .bool xb, .int .i64 xi, .string xs, .slice xal xnl xcl, .slice xam xnm xcm] 38)).alloc (.cells #[.slice none 0 0, .slice (some ⟨w2.heap.size, 0, none⟩) 1 1, .slice none 0 0] 23)) BW.out (alloc2_keep1 w2.drew _ _) (cell_of_block (b := w2.heap.size + 1) (alloc2_new w2.drew _ _) 0) (cell_of_block (b := w2.heap.size + 1) (alloc2_new w2.drew _ _) 1) (cell_of_block (b := w2.heap.size + 1) (alloc2_new w2.drew _ _) 2) (by rw [alloc_size, alloc_size]; exact Nat.lt_succ_self _)).mono ?_
          rintro e w3 h3
          obtain ⟨ca, cc, rfl, c3, HC3⟩ := HK.out e w3 h3
          clear h3
          go_simp
          refine hK.out _ _ (KP.out _ c3) (fun hHeld => ?_)
          clear hK K
          (try simp only [Act.put, List.setIfInBounds_toArray, List.set_cons_zero, List.set_cons_succ])
          refine wpAnyH_ready (rs := [14]) (by kernel_rfl) (by simp) ?_
          refine AllReadyH.cons rfl (fun K hK => ?_) AllReadyH.nil
          go_simp
          refine HC3.out.mono ?_
          rintro e w4 h4
          obtain ⟨uk, ub, ui, us, ual, unl, ucl, uam, unm, ucm, rfl, c4, HU⟩ := HQ.out w3 e w4 c3 h4
          have B4 := (HT2.out w4 c4).1
          have t4 := (HT2.out w4 c4).2
          have r0 : w4.cell? ⟨w.heap.size + 2, 0, none⟩ = some (.int .i64 0) := by rw [cell_of_block t4]; rfl
          have r1 : w4.cell? ⟨w.heap.size + 2, 1, none⟩ = some (.bool false) := by rw [cell_of_block t4]; rfl
          have r2 : w4.cell? ⟨w.heap.size + 2, 2, none⟩ = some (.int .i64 0) := by rw [cell_of_block t4]; rfl
          have r3 : w4.cell? ⟨w.heap.size + 2, 3, none⟩ = some (.string ⟨#[]⟩) := by rw [cell_of_block t4]; rfl
          have r4 : w4.cell? ⟨w.heap.size + 2, 4, none⟩ = some (.slice none 0 0) := by rw [cell_of_block t4]; rfl
          have r5 : w4.cell? ⟨w.heap.size + 2, 5, none⟩ = some (.slice none 0 0) := by rw [cell_of_block t4]; rfl
          have rf : ∀ ii, w4.frozen? ⟨w.heap.size + 2, ii, none⟩ = false := frozen_of_block t4
          clear h4 t4
          go_simp
          refine hK.out _ _ (KP.out _ c4) (fun hHeld => ?_)
          clear hK K
          (try simp only [Act.put, List.setIfInBounds_toArray, List.set_cons_zero, List.set_cons_succ])
          (refine wpAnyH_take (i := 15) (v := ?_) rfl (by kernel_rfl) (by kernel_rfl) (by kernel_rfl) (fun _ _ _ h => h) (Or.inl ⟨by rfl, ?_⟩) (by assumption) ?_; rotate_left 1; (intro W0 hSw; (try dsimp only at hSw); go_simp; (try with_reducible rfl)); (try simp only [Act.put, List.setIfInBounds_toArray, List.set_cons_zero, List.set_cons_succ]))
          (refine wpAnyH_take (i := 16) (v := ?_) rfl (by kernel_rfl) (by kernel_rfl) (by kernel_rfl) (fun _ _ _ h => h) (Or.inl ⟨by rfl, ?_⟩) (by assumption) ?_; rotate_left 1; (intro W0 hSw; (try dsimp only at hSw); go_simp; (try with_reducible rfl)); (try simp only [Act.put, List.setIfInBounds_toArray, List.set_cons_zero, List.set_cons_succ]))
          refine wpAnyH_ready (rs := [17]) (by kernel_rfl) (by simp) ?_
          refine AllReadyH.cons rfl (fun K hK => ?_) AllReadyH.nil
          go_simp
          refine hK.out _ _ ((KP.out _ c4).set6 (fun b h => (HA.out b h).2) _ _ _ _ _ _ _ _ _ _ _ _) (fun hHeld => ?_)
          clear hK K
          (try simp only [Act.put, List.setIfInBounds_toArray, List.set_cons_zero, List.set_cons_succ])
          (refine wpAnyH_take (i := 18) (v := ?_) rfl (by kernel_rfl) (by kernel_rfl) (by kernel_rfl) (fun _ _ _ h => h) (Or.inl ⟨by rfl, ?_⟩) (by assumption) ?_; rotate_left 1; (intro W0 hSw; (try dsimp only at hSw); go_simp; (try with_reducible rfl)); (try simp only [Act.put, List.setIfInBounds_toArray, List.set_cons_zero, List.set_cons_succ]))
          refine wpAnyH_done (by kernel_rfl) ?_ _
          (try dsimp only [Act.put, List.getElem_toArray, List.getElem_cons_succ, List.getElem_cons_zero, List.setIfInBounds_toArray, List.set_cons_zero, List.set_cons_succ])
          go_wp2_with fail
          (try simp only [Exit.inBlock, Exit.then])
          refine bodyPost_ret (v := .tuple #[.agg #[.int .i64 uk, .bool ub, .int .i64 ui, .string us, .slice ual unl ucl, .slice uam unm ucm], .int .i64 (me : Int)]) ?_ rfl (by rw [HF.out.1, HF.out.2]; exact ⟨[.int .i64 uk, .bool ub, .int .i64 ui, .string us, .slice ual unl ucl, .slice uam unm ucm], rfl, V.ap_wide (ap_set6 HU.out (show w.heap.size + 2 < w.heap.size + 3 by omega) _ _ _ _ _ _ _ _ _ _ _ _) (by omega) (by simp only [size_set1]; exact Nat.le_refl _), Below.set6 B4 (by omega) _ _ _ _ _ _ _ _ _ _ _ _⟩)
          rw [results_cell_tmp rfl]
          go_simp
        | some ad =>
          obtain ⟨ab, ao, an⟩ := ad
          obtain ⟨sx, hsx⟩ : ∃ sx, (if cm = p then some ⟨ab, ao, an⟩ else some ((⟨ab, ao, an⟩ : Addr).add (p * 7)) : Option Addr) = sx := ⟨_, rfl⟩
          have HSX : Hid (Headed sx (m.drop p).length (cm - p) bm (om + p * 7)) := by
            have hmx := ham.max
            refine ⟨by rw [List.length_drop]; omega, by omega, ?_, fun h => ?_⟩
            · rcases ham.at_ with h0 | h0
              · exact .inl (by rw [List.length_drop]; omega)
              · obtain ⟨rfl, rfl, rfl⟩ := Addr.mk.inj (Option.some.inj h0)
                by_cases hc : cm = p
                · exact .inl (by rw [List.length_drop]; omega)
                · rw [if_neg hc] at hsx; exact .inr (by rw [← hsx]; simp [Addr.add])
            · rw [h] at hsx; split at hsx <;> cases hsx
          have HS1 : Hid (Headed (some ⟨ab, ao, an⟩) (m.take p).length cm bm om) := ⟨by rw [List.length_take]; omega, ham.max, ham.at_.elim (fun h => .inl (by rw [List.length_take]; omega)) .inr, fun h => by cases h⟩
          have HTP : Hid ((m.take p).length = p) := by show _ = _; rw [List.length_take]; omega
          have HDP : Hid ((m.drop (p)).length = m.length - (p)) := List.length_drop ..
          obtain ⟨L, hL⟩ : ∃ L, m.take p ++ (key, x) :: m.drop (p) = L := ⟨_, rfl⟩
          have HL : Hid (m.take p ++ (key, x) :: m.drop (p) = L) := hL
          have HWT : Hid (wtM L ≤ 281474976710600) := by
            show _ ≤ _
            have e1 : wtM (m.take p) ≤ wtM m := by have := wtM_app (m.take p) (m.drop p); rw [List.take_append_drop] at this; omega
            have e2 : wtM (m.drop (p)) ≤ wtM m := by have := wtM_app (m.take (p)) (m.drop (p)); rw [List.take_append_drop] at this; omega
            rw [← hL, wtM_app]
            simp only [wtM]
            simp only [V.wt] at hwt
            omega
          obtain ⟨me, hme⟩ : ∃ me, mapE L = me := ⟨_, rfl⟩
          have HME : Hid (mapE L = me) := hme
          have HF : Hid (withV (V.mk 5 b i s l m) key x = mapV L ∧ withE (V.mk 5 b i s l m) key x = me) := by
            have e : withL m key x = L := HA0.out.trans hL
            show _ ∧ _
            rw [withV, withE, if_pos ⟨rfl, HG.out⟩, if_pos ⟨rfl, HG.out⟩, e]
            exact ⟨rfl, hme⟩
          clear hL hme HA0 HG
          have BM : Hid (Below w2.heap.size w2 (w2.drew.alloc (.cells #[.string key, .int .i64 xk, .bool xb, .int .i64 xi, .string xs, .slice xal xnl xcl, .slice xam xnm xcm] 38))) := (((Below.refl w2.heap.size w2).drew).alloc (Nat.le_refl _) _)
          have BW : Hid (Below w2.heap.size w2 ((w2.drew.alloc (.cells #[.string key, .int .i64 xk, .bool xb, .int .i64 xi, .string xs, .slice xal xnl xcl, .slice xam xnm xcm] 38)).alloc (.cells #[.slice (some ⟨ab, ao, an⟩) p cm, .slice (some ⟨w2.heap.size, 0, none⟩) 1 1, .slice sx (m.length - p) (cm - p)] 23))) := BM.out.alloc (by rw [alloc_size]; exact Nat.le_succ _) _
          have HC : Hid (∀ W, Below w2.heap.size w2 W → W.heap[w2.heap.size]? = some (.cells #[.string key, .int .i64 xk, .bool xb, .int .i64 xi, .string xs, .slice xal xnl xcl, .slice xam xnm xcm] 38 (0, 0)) → W.cell? ⟨w2.heap.size + 1, 0, none⟩ = some (.slice (some ⟨ab, ao, an⟩) p cm) → W.cell? ⟨w2.heap.size + 1, 1, none⟩ = some (.slice (some ⟨w2.heap.size, 0, none⟩) 1 1) → W.cell? ⟨w2.heap.size + 1, 2, none⟩ = some (.slice sx (m.length - p) (cm - p)) → w2.heap.size + 1 < W.heap.size → Calls Tryd.prog 38 #[.slice (some ⟨w2.heap.size + 1, 0, none⟩) 3 3] W (ConPost (fun y => S y ∨ T y ∨ y = w2.heap.size) L W)) := fun W hb hM z0 z1 z2 hlt => by
            have hB := B2.trans (hb.mono B2.size)
            have hmW := liesM_keep (R' := false) (S' := (fun y => S y ∨ T y ∨ y = w2.heap.size)) (fun h => by cases h) (fun _ _ => rfl) (fun _ h => .inl h) _ (HM.out W hB)
            have hxW := V.lies_keep (R' := false) (S' := (fun y => S y ∨ T y ∨ y = w2.heap.size)) (fun h => by cases h) (fun _ _ => rfl) (fun _ h => .inr (.inl h)) _ (HX.out W hB).1
            have hSW : ∀ y, (fun y => S y ∨ T y ∨ y = w2.heap.size) y → y < W.heap.size := fun y hy => by
              rcases hy with h | h | h
              · exact (HV.out W hB).2 y h
              · exact (HX.out W hB).2 y h
              · omega
            have hone : liesM false W (fun y => S y ∨ T y ∨ y = w2.heap.size) [(key, x)] w2.heap.size 0 := by
              rw [liesM, liesM]
              exact ⟨.inr (.inr rfl), ⟨hkm, [.int .i64 xk, .bool xb, .int .i64 xi, .string xs, .slice xal xnl xcl, .slice xam xnm xcm], row_of_block (cs := [.string key, .int .i64 xk, .bool xb, .int .i64 xi, .string xs, .slice xal xnl xcl, .slice xam xnm xcm]) hM, hxW⟩, trivial⟩
            have h := concat_any [⟨(some ⟨ab, ao, an⟩), m.take p, cm, bm, om⟩, ⟨some ⟨w2.heap.size, 0, none⟩, [(key, x)], 1, w2.heap.size, 0⟩, ⟨sx, m.drop (p), (cm - p), bm, om + (p) * 7⟩] (fun y => S y ∨ T y ∨ y = w2.heap.size) (w2.heap.size + 1) 0 3 W (fun i hi => by
              rcases i with _ | _ | _ | i
              · show W.cell? ⟨w2.heap.size + 1, 0 + 0, none⟩ = some (.slice (some ⟨ab, ao, an⟩) (m.take p).length cm)
                rw [HTP.out]; exact z0
              · exact z1
              · show W.cell? ⟨w2.heap.size + 1, 0 + 2, none⟩ = some (.slice sx (m.drop (p)).length (cm - p))
                rw [HDP.out]; exact z2
              · exact absurd hi (by simp only [List.length_cons, List.length_nil]; omega)) hlt (by simp) (fun g hg => by
              simp only [List.mem_cons, List.not_mem_nil, or_false] at hg
              rcases hg with rfl | rfl | rfl
              · exact ⟨HS1.out, liesM_take p hmW⟩
              · exact ⟨⟨Nat.le_refl _, by simp [maxLen], .inr rfl, fun h => by cases h⟩, hone⟩
              · exact ⟨HSX.out, liesM_drop (p) hmW⟩) hSW (by simp [catL] <;> omega)
            rw [← HL.out]
            simpa [catL] using h
          have HK : Hid (∀ e w3, ConPost (fun y => S y ∨ T y ∨ y = w2.heap.size) L ((w2.drew.alloc (.cells #[.string key, .int .i64 xk, .bool xb, .int .i64 xi, .string xs, .slice xal xnl xcl, .slice xam xnm xcm] 38)).alloc (.cells #[.slice (some ⟨ab, ao, an⟩) p cm, .slice (some ⟨w2.heap.size, 0, none⟩) 1 1, .slice sx (m.length - p) (cm - p)] 23)) e w3 → ∃ ca cc, e = .returned (.slice ca L.length cc) ∧ Below w2.heap.size w2 w3 ∧ Hid (Calls Tryd.prog 35 #[.slice ca L.length cc] w3 (VaPost (mapV L) me w3))) := fun e w3 h => by
            obtain ⟨ca, cc, cb, co, rfl, hdc, hlc, b3⟩ := h
            have hzA : ((w2.drew.alloc (.cells #[.string key, .int .i64 xk, .bool xb, .int .i64 xi, .string xs, .slice xal xnl xcl, .slice xam xnm xcm] 38)).alloc (.cells #[.slice (some ⟨ab, ao, an⟩) p cm, .slice (some ⟨w2.heap.size, 0, none⟩) 1 1, .slice sx (m.length - p) (cm - p)] 23)).heap.size = w2.heap.size + 2 := by rw [alloc_size, alloc_size]; rfl
            have c3 : Below w2.heap.size w2 w3 := BW.out.trans (b3.mono (by rw [hzA]; omega))
            have hB := B2.trans (c3.mono B2.size)
            have hz3 := b3.size
            rw [hzA] at hz3
            refine ⟨ca, cc, rfl, c3, ?_⟩
            have h := mapOf_ap L false _ ca cc cb co w3 (HB.out w3 hB) hdc hlc (fun y hy => by
              rcases hy with (h | h | h) | h
              · exact (HV.out w3 hB).2 y h
              · exact (HX.out w3 hB).2 y h
              · omega
              · exact h.2) HWT.out
            rw [HME.out] at h
            exact h
          have HQ : Hid (∀ w3 e w4, Below w2.heap.size w2 w3 → VaPost (mapV L) me w3 e w4 → ∃ uk ub ui us ual unl ucl uam unm ucm, e = .returned (.tuple #[.agg #[.int .i64 uk, .bool ub, .int .i64 ui, .string us, .slice ual unl ucl, .slice uam unm ucm], .int .i64 (me : Int)]) ∧ Below w2.heap.size w2 w4 ∧ Hid ((mapV L).ap w4 (w.heap.size + 3) w4.heap.size [.int .i64 uk, .bool ub, .int .i64 ui, .string us, .slice ual unl ucl, .slice uam unm ucm])) := fun w3 e w4 c3 h => by
            obtain ⟨csu, rfl, hlu, b4⟩ := h
            obtain ⟨uk, ub, ui, us, ual, unl, ucl, uam, unm, ucm, rfl⟩ := V.ten (V.ap_lies _ hlu)
            have hz3 := c3.size
            exact ⟨uk, ub, ui, us, ual, unl, ucl, uam, unm, ucm, rfl, c3.trans (b4.mono hz3), V.ap_wide hlu (by omega) (Nat.le_refl _)⟩
          have q5 : w2.cell? ⟨w.heap.size, 5, none⟩ = some (.slice (some ⟨ab, ao, an⟩) m.length cm) := by rw [cell_of_block t0']; rfl
          have RX : rowAt w2 (w.heap.size + 1) 0 [.int .i64 xk, .bool xb, .int .i64 xi, .string xs, .slice xal xnl xcl, .slice xam xnm xcm] := row_of_block t1'
          have HA : Hid (∀ b, (fun b => b = w.heap.size ∨ b = w.heap.size + 1) b → b < w2.heap.size ∧ b ≠ w.heap.size + 2) := fun b hb => by
            rcases hb with rfl | rfl <;> exact ⟨by omega, by omega⟩
          have KP : Hid (∀ W, Below w2.heap.size w2 W → KeepB w2 (fun b => b = w.heap.size ∨ b = w.heap.size + 1) W) := fun W hb => (KeepB.refl w2 _).below hb (fun b h => (HA.out b h).1)
          have HT2 : Hid (∀ W, Below w2.heap.size w2 W → Below w.heap.size w W ∧ W.heap[w.heap.size + 2]? = some (.cells #[.int .i64 0, .bool false, .int .i64 0, .string ⟨#[]⟩, .slice none 0 0, .slice none 0 0] 25 (0, 0))) := fun W hb => ⟨B2.trans (hb.mono (by omega)), (hb.block _ (by omega)).trans t2'⟩
          clear HTP HDP HS1 HSX HL HWT HME t0' t1' t2'
          go_wp2_with fail
          refine wp_region_held_drew (S := KeepB w2 (fun b => b = w.heap.size ∨ b = w.heap.size + 1)) (by kernel_rfl) (KeepB.drew _ _) (fun hHeld => ?_)
          (refine wpAnyH_take (i := 0) (v := ?_) rfl (by kernel_rfl) (by kernel_rfl) (by kernel_rfl) (fun _ _ _ h => h) (Or.inl ⟨by rfl, ?_⟩) (by assumption) ?_; rotate_left 1; (intro W0 hSw; (try dsimp only at hSw); go_simp; (try with_reducible rfl)); (try simp only [Act.put, List.setIfInBounds_toArray, List.set_cons_zero, List.set_cons_succ]))
          (refine wpAnyH_take (i := 1) (v := ?_) rfl (by kernel_rfl) (by kernel_rfl) (by kernel_rfl) (fun _ _ _ h => h) (Or.inl ⟨by rfl, ?_⟩) (by assumption) ?_; rotate_left 1; (intro W0 hSw; have z := hSw.cell (.inl rfl) q5; go_simp; (try with_reducible rfl)); (try simp only [Act.put, List.setIfInBounds_toArray, List.set_cons_zero, List.set_cons_succ]))
          (refine wpAnyH_take (i := 2) (v := ?_) rfl (by kernel_rfl) (by kernel_rfl) (by kernel_rfl) (fun _ _ _ h => h) (Or.inl ⟨by rfl, ?_⟩) (by assumption) ?_; rotate_left 1; (intro W0 hSw; (try dsimp only at hSw); go_simp; (try with_reducible rfl)); (try simp only [Act.put, List.setIfInBounds_toArray, List.set_cons_zero, List.set_cons_succ]))
          (refine wpAnyH_take (i := 3) (v := ?_) rfl (by kernel_rfl) (by kernel_rfl) (by kernel_rfl) (fun _ _ _ h => h) (Or.inl ⟨by rfl, ?_⟩) (by assumption) ?_; rotate_left 1; (intro W0 hSw; (try dsimp only at hSw); go_simp; (try with_reducible rfl)); (try simp only [Act.put, List.setIfInBounds_toArray, List.set_cons_zero, List.set_cons_succ]))
          (refine wpAnyH_take (i := 4) (v := ?_) rfl (by kernel_rfl) (by kernel_rfl) (by kernel_rfl) (fun _ _ _ h => h) (Or.inl ⟨by rfl, ?_⟩) (by assumption) ?_; rotate_left 1; (intro W0 hSw; (try dsimp only at hSw); go_simp; (try with_reducible rfl)); (try simp only [Act.put, List.setIfInBounds_toArray, List.set_cons_zero, List.set_cons_succ]))
          (refine wpAnyH_take (i := 5) (v := ?_) rfl (by kernel_rfl) (by kernel_rfl) (by kernel_rfl) (fun _ _ _ h => h) (Or.inl ⟨by rfl, ?_⟩) (by assumption) ?_; rotate_left 1; (intro W0 hSw; obtain ⟨z0, z1, z2, z3, z4, z5⟩ := row6z (hSw.row (.inr rfl) RX); go_simp; (try with_reducible rfl)); (try simp only [Act.put, List.setIfInBounds_toArray, List.set_cons_zero, List.set_cons_succ]))
          (refine wpAnyH_take (i := 6) (v := ?_) rfl (by kernel_rfl) (by kernel_rfl) (by kernel_rfl) (fun _ _ _ h => h) (Or.inl ⟨by rfl, ?_⟩) (by assumption) ?_; rotate_left 1; (intro W0 hSw; (try dsimp only at hSw); go_simp; (try with_reducible rfl)); (try simp only [Act.put, List.setIfInBounds_toArray, List.set_cons_zero, List.set_cons_succ]))
          (refine wpAnyH_take (i := 8) (v := ?_) rfl (by kernel_rfl) (by kernel_rfl) (by kernel_rfl) (fun _ _ _ h => h) (Or.inl ⟨by rfl, ?_⟩) (by assumption) ?_; rotate_left 1; (intro W0 hSw; (try dsimp only at hSw); go_simp; (try with_reducible rfl)); (try simp only [Act.put, List.setIfInBounds_toArray, List.set_cons_zero, List.set_cons_succ]))
          (refine wpAnyH_take (i := 9) (v := ?_) rfl (by kernel_rfl) (by kernel_rfl) (by kernel_rfl) (fun _ _ _ h => h) (Or.inl ⟨by rfl, ?_⟩) (by assumption) ?_; rotate_left 1; (intro W0 hSw; have z := hSw.cell (.inl rfl) q5; go_simp; (try with_reducible rfl)); (try simp only [Act.put, List.setIfInBounds_toArray, List.set_cons_zero, List.set_cons_succ]))
          (refine wpAnyH_take (i := 10) (v := ?_) rfl (by kernel_rfl) (by kernel_rfl) (by kernel_rfl) (fun _ _ _ h => h) (Or.inl ⟨by rfl, ?_⟩) (by assumption) ?_; rotate_left 1; (intro W0 hSw; (try dsimp only at hSw); go_simp; (try with_reducible rfl)); (try simp only [Act.put, List.setIfInBounds_toArray, List.set_cons_zero, List.set_cons_succ]))
          (refine wpAnyH_take (i := 11) (v := ?_) rfl (by kernel_rfl) (by kernel_rfl) (by kernel_rfl) (fun _ _ _ h => h) (Or.inl ⟨by rfl, ?_⟩) (by assumption) ?_; rotate_left 1; (intro W0 hSw; (try dsimp only at hSw); go_simp; (try with_reducible rfl)); (try simp only [Act.put, List.setIfInBounds_toArray, List.set_cons_zero, List.set_cons_succ]))
          (try rw [hsx])
          refine wpAnyH_ready (rs := [7]) (by kernel_rfl) (by simp) ?_
          refine AllReadyH.cons rfl (fun K hK => ?_) AllReadyH.nil
          go_simp
          refine hK.out _ _ (KP.out _ BM.out) (fun hHeld => ?_)
          clear hK K
          (try simp only [Act.put, List.setIfInBounds_toArray, List.set_cons_zero, List.set_cons_succ])
          refine wpAnyH_ready (rs := [12]) (by kernel_rfl) (by simp) ?_
          refine AllReadyH.cons rfl (fun K hK => ?_) AllReadyH.nil
          go_simp
          refine hK.out _ _ (KP.out _ BW.out) (fun hHeld => ?_)
          clear hK K
          (try simp only [Act.put, List.setIfInBounds_toArray, List.set_cons_zero, List.set_cons_succ])
          refine wpAnyH_ready (rs := [13]) (by kernel_rfl) (by simp) ?_
          refine AllReadyH.cons rfl (fun K hK => ?_) AllReadyH.nil
          go_simp
          refine (HC.out ((w2.drew.alloc (.cells #[.string key, .int .i64 xk, .bool xb, .int .i64 xi, .string xs, .slice xal xnl xcl, .slice xam xnm xcm] 38)).alloc (.cells #[.slice (some ⟨ab, ao, an⟩) p cm, .slice (some ⟨w2.heap.size, 0, none⟩) 1 1, .slice sx (m.length - p) (cm - p)] 23)) BW.out (alloc2_keep1 w2.drew _ _) (cell_of_block (b := w2.heap.size + 1) (alloc2_new w2.drew _ _) 0) (cell_of_block (b := w2.heap.size + 1) (alloc2_new w2.drew _ _) 1) (cell_of_block (b := w2.heap.size + 1) (alloc2_new w2.drew _ _) 2) (by rw [alloc_size, alloc_size]; exact Nat.lt_succ_self _)).mono ?_
          rintro e w3 h3
          obtain ⟨ca, cc, rfl, c3, HC3⟩ := HK.out e w3 h3
          clear h3
          go_simp
          refine hK.out _ _ (KP.out _ c3) (fun hHeld => ?_)
          clear hK K
          (try simp only [Act.put, List.setIfInBounds_toArray, List.set_cons_zero, List.set_cons_succ])
          refine wpAnyH_ready (rs := [14]) (by kernel_rfl) (by simp) ?_
          refine AllReadyH.cons rfl (fun K hK => ?_) AllReadyH.nil
          go_simp
          refine HC3.out.mono ?_
          rintro e w4 h4
          obtain ⟨uk, ub, ui, us, ual, unl, ucl, uam, unm, ucm, rfl, c4, HU⟩ := HQ.out w3 e w4 c3 h4
          have B4 := (HT2.out w4 c4).1
          have t4 := (HT2.out w4 c4).2
          have r0 : w4.cell? ⟨w.heap.size + 2, 0, none⟩ = some (.int .i64 0) := by rw [cell_of_block t4]; rfl
          have r1 : w4.cell? ⟨w.heap.size + 2, 1, none⟩ = some (.bool false) := by rw [cell_of_block t4]; rfl
          have r2 : w4.cell? ⟨w.heap.size + 2, 2, none⟩ = some (.int .i64 0) := by rw [cell_of_block t4]; rfl
          have r3 : w4.cell? ⟨w.heap.size + 2, 3, none⟩ = some (.string ⟨#[]⟩) := by rw [cell_of_block t4]; rfl
          have r4 : w4.cell? ⟨w.heap.size + 2, 4, none⟩ = some (.slice none 0 0) := by rw [cell_of_block t4]; rfl
          have r5 : w4.cell? ⟨w.heap.size + 2, 5, none⟩ = some (.slice none 0 0) := by rw [cell_of_block t4]; rfl
          have rf : ∀ ii, w4.frozen? ⟨w.heap.size + 2, ii, none⟩ = false := frozen_of_block t4
          clear h4 t4
          go_simp
          refine hK.out _ _ (KP.out _ c4) (fun hHeld => ?_)
          clear hK K
          (try simp only [Act.put, List.setIfInBounds_toArray, List.set_cons_zero, List.set_cons_succ])
          (refine wpAnyH_take (i := 15) (v := ?_) rfl (by kernel_rfl) (by kernel_rfl) (by kernel_rfl) (fun _ _ _ h => h) (Or.inl ⟨by rfl, ?_⟩) (by assumption) ?_; rotate_left 1; (intro W0 hSw; (try dsimp only at hSw); go_simp; (try with_reducible rfl)); (try simp only [Act.put, List.setIfInBounds_toArray, List.set_cons_zero, List.set_cons_succ]))
          (refine wpAnyH_take (i := 16) (v := ?_) rfl (by kernel_rfl) (by kernel_rfl) (by kernel_rfl) (fun _ _ _ h => h) (Or.inl ⟨by rfl, ?_⟩) (by assumption) ?_; rotate_left 1; (intro W0 hSw; (try dsimp only at hSw); go_simp; (try with_reducible rfl)); (try simp only [Act.put, List.setIfInBounds_toArray, List.set_cons_zero, List.set_cons_succ]))
          refine wpAnyH_ready (rs := [17]) (by kernel_rfl) (by simp) ?_
          refine AllReadyH.cons rfl (fun K hK => ?_) AllReadyH.nil
          go_simp
          refine hK.out _ _ ((KP.out _ c4).set6 (fun b h => (HA.out b h).2) _ _ _ _ _ _ _ _ _ _ _ _) (fun hHeld => ?_)
          clear hK K
          (try simp only [Act.put, List.setIfInBounds_toArray, List.set_cons_zero, List.set_cons_succ])
          (refine wpAnyH_take (i := 18) (v := ?_) rfl (by kernel_rfl) (by kernel_rfl) (by kernel_rfl) (fun _ _ _ h => h) (Or.inl ⟨by rfl, ?_⟩) (by assumption) ?_; rotate_left 1; (intro W0 hSw; (try dsimp only at hSw); go_simp; (try with_reducible rfl)); (try simp only [Act.put, List.setIfInBounds_toArray, List.set_cons_zero, List.set_cons_succ]))
          refine wpAnyH_done (by kernel_rfl) ?_ _
          (try dsimp only [Act.put, List.getElem_toArray, List.getElem_cons_succ, List.getElem_cons_zero, List.setIfInBounds_toArray, List.set_cons_zero, List.set_cons_succ])
          go_wp2_with fail
          (try simp only [Exit.inBlock, Exit.then])
          refine bodyPost_ret (v := .tuple #[.agg #[.int .i64 uk, .bool ub, .int .i64 ui, .string us, .slice ual unl ucl, .slice uam unm ucm], .int .i64 (me : Int)]) ?_ rfl (by rw [HF.out.1, HF.out.2]; exact ⟨[.int .i64 uk, .bool ub, .int .i64 ui, .string us, .slice ual unl ucl, .slice uam unm ucm], rfl, V.ap_wide (ap_set6 HU.out (show w.heap.size + 2 < w.heap.size + 3 by omega) _ _ _ _ _ _ _ _ _ _ _ _) (by omega) (by simp only [size_set1]; exact Nat.le_refl _), Below.set6 B4 (by omega) _ _ _ _ _ _ _ _ _ _ _ _⟩)
          rw [results_cell_tmp rfl]
          go_simp
end Go.Proofs.YthgfomblodhoaaaDoor
