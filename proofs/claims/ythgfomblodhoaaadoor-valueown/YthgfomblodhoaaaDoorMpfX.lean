import Derived.Test.YthgfomblodhoaaaDoorClnX
/- mapOf_ap: the answer's lists and maps, each in a block of its own. -/
set_option linter.unusedSimpArgs false
set_option linter.unusedVariables false
namespace Go.Proofs.YthgfomblodhoaaaDoor
open Go.RowKit Go.Lib
def VaPost (v : V) (r : Nat) (w : World) (e : Ending) (w' : World) : Prop := ∃ cs : List Value, e = .returned (.tuple #[.agg cs.toArray, .int .i64 (r : Int)]) ∧ v.ap w' w.heap.size w'.heap.size cs ∧ Below w.heap.size w w'
set_option maxHeartbeats 1600000 in
set_option maxRecDepth 100000 in
theorem mapOf_ap (l : List Mem) (R : Bool) (S : Nat → Prop) (am : Option Addr) (cm bm om : Nat) (w : World) (tb : Tb w) (ham : Headed am l.length cm bm om) (hl : liesM false w S l bm om) (hS : ∀ b, S b → b < w.heap.size) (hwt : wtM l ≤ 281474976710600) :
    Calls Tryd.prog 35 #[.slice am l.length cm] w (VaPost (mapV l) (mapE l) w) := by
  have hz2 : ((w.alloc (.cells #[.int .i64 0, .bool false, .int .i64 0, .string ⟨#[]⟩, .slice none 0 0, .slice none 0 0] 25)).alloc (.cells #[.int .i64 5, .bool false, .int .i64 0, .string ⟨#[]⟩, .slice none 0 0, .slice am l.length cm] 25)).heap.size = w.heap.size + 2 := by rw [alloc_size, alloc_size]
  have B0 : Below w.heap.size w ((w.alloc (.cells #[.int .i64 0, .bool false, .int .i64 0, .string ⟨#[]⟩, .slice none 0 0, .slice none 0 0] 25)).alloc (.cells #[.int .i64 5, .bool false, .int .i64 0, .string ⟨#[]⟩, .slice none 0 0, .slice am l.length cm] 25)) := two_below w _ _
  have h0 := alloc2_keep1 w (.cells #[.int .i64 0, .bool false, .int .i64 0, .string ⟨#[]⟩, .slice none 0 0, .slice none 0 0] 25) (.cells #[.int .i64 5, .bool false, .int .i64 0, .string ⟨#[]⟩, .slice none 0 0, .slice am l.length cm] 25)
  have h1 := alloc2_new w (.cells #[.int .i64 0, .bool false, .int .i64 0, .string ⟨#[]⟩, .slice none 0 0, .slice none 0 0] 25) (.cells #[.int .i64 5, .bool false, .int .i64 0, .string ⟨#[]⟩, .slice none 0 0, .slice am l.length cm] 25)
  have HV : Hid (∀ W, Below w.heap.size w W → (V.mk 5 false 0 ⟨#[]⟩ [] l).lies false W S [.int .i64 5, .bool false, .int .i64 0, .string ⟨#[]⟩, .slice none 0 0, .slice am l.length cm] ∧ (∀ b, S b → b < W.heap.size)) := fun W hb => ⟨lies_S (by constructor <;> omega) (by constructor <;> omega) (by decide) headed_nil ham (by rw [liesL]; trivial) (liesM_keep (fun h => h) (fun x hx => hb.block x (hS x hx)) (fun _ h => h) _ hl), fun x hx => Nat.lt_of_lt_of_le (hS x hx) hb.size⟩
  have HB : Hid (∀ W, Below w.heap.size w W → Tb W) := fun W hb => tb.below hb tb.z
  have hwt' : (V.mk 5 false 0 ⟨#[]⟩ [] l).wt ≤ 281474976710656 := by
    have z0 : (⟨#[]⟩ : ByteArray).size = 0 := rfl
    simp only [V.wt, wtL]; omega
  clear hl
  go_enter Tryd.func35, Tryd.ntmps35
  go_wp2_with fail
  generalize ((w.alloc (.cells #[.int .i64 0, .bool false, .int .i64 0, .string ⟨#[]⟩, .slice none 0 0, .slice none 0 0] 25)).alloc (.cells #[.int .i64 5, .bool false, .int .i64 0, .string ⟨#[]⟩, .slice none 0 0, .slice am l.length cm] 25)) = w0 at *
  refine (check_wide false (V.mk 5 false 0 ⟨#[]⟩ [] l) 40 S _ w0 (HB.out w0 B0) (HV.out w0 B0).1 (HV.out w0 B0).2 hwt').mono ?_
  rintro e w1 ⟨rfl, b1⟩
  have hz1 := b1.size
  have B1 := B0.trans (b1.mono (by omega))
  have t0 := (b1.block w.heap.size (by omega)).trans h0
  have t1 := (b1.block (w.heap.size + 1) (by omega)).trans h1
  have r0 : w1.cell? ⟨w.heap.size, 0, none⟩ = some (.int .i64 0) := by rw [cell_of_block t0]; rfl
  have d0 : w1.cell? ⟨w.heap.size + 1, 0, none⟩ = some (.int .i64 5) := by rw [cell_of_block t1]; rfl
  have r1 : w1.cell? ⟨w.heap.size, 1, none⟩ = some (.bool false) := by rw [cell_of_block t0]; rfl
  have d1 : w1.cell? ⟨w.heap.size + 1, 1, none⟩ = some (.bool false) := by rw [cell_of_block t1]; rfl
  have r2 : w1.cell? ⟨w.heap.size, 2, none⟩ = some (.int .i64 0) := by rw [cell_of_block t0]; rfl
  have d2 : w1.cell? ⟨w.heap.size + 1, 2, none⟩ = some (.int .i64 0) := by rw [cell_of_block t1]; rfl
  have r3 : w1.cell? ⟨w.heap.size, 3, none⟩ = some (.string ⟨#[]⟩) := by rw [cell_of_block t0]; rfl
  have d3 : w1.cell? ⟨w.heap.size + 1, 3, none⟩ = some (.string ⟨#[]⟩) := by rw [cell_of_block t1]; rfl
  have r4 : w1.cell? ⟨w.heap.size, 4, none⟩ = some (.slice none 0 0) := by rw [cell_of_block t0]; rfl
  have d4 : w1.cell? ⟨w.heap.size + 1, 4, none⟩ = some (.slice none 0 0) := by rw [cell_of_block t1]; rfl
  have r5 : w1.cell? ⟨w.heap.size, 5, none⟩ = some (.slice none 0 0) := by rw [cell_of_block t0]; rfl
  have d5 : w1.cell? ⟨w.heap.size + 1, 5, none⟩ = some (.slice am l.length cm) := by rw [cell_of_block t1]; rfl
  have rf : ∀ i, w1.frozen? ⟨w.heap.size, i, none⟩ = false := frozen_of_block t0
  have HE : Hid (mapE l = chkE (V.mk 5 false 0 ⟨#[]⟩ [] l) 40) := rfl
  have HWS : Hid (chkE (V.mk 5 false 0 ⟨#[]⟩ [] l) 40 = 0 → (V.mk 5 false 0 ⟨#[]⟩ [] l).wt ≤ 1099511627776) := fun h => by
    have := wt_of_chk (v := V.mk 5 false 0 ⟨#[]⟩ [] l) (by rw [← chkE40]; exact h)
    omega
  generalize chkE (V.mk 5 false 0 ⟨#[]⟩ [] l) 40 = r at *
  by_cases hr0 : r = 0
  · subst hr0
    have HWQ : Hid ((V.mk 5 false 0 ⟨#[]⟩ [] l).wt ≤ 1099511627776) := HWS.out rfl
    clear HWS
    have HF : Hid (mapV l = (V.mk 5 false 0 ⟨#[]⟩ [] l)) := by show _ = _; rw [mapV, if_pos HE.out]
    go_wp2_with fail
    refine (anew_ap (V.mk 5 false 0 ⟨#[]⟩ [] l) false S _ w1 (HV.out w1 B1).1 (HV.out w1 B1).2 HWQ.out).mono ?_
    rintro e w2 ⟨csu, rfl, hlu, b2⟩
    obtain ⟨uk, ub, ui, us, ual, unl, ucl, uam, unm, ucm, rfl⟩ := V.ten (V.ap_lies _ hlu)
    have hz3 := b2.size
    have B2 := B1.trans (b2.mono (by omega))
    have t0' := (b2.block w.heap.size (by omega)).trans t0
    have HU : Hid ((V.mk 5 false 0 ⟨#[]⟩ [] l).ap w2 (w.heap.size + 2) w2.heap.size [.int .i64 uk, .bool ub, .int .i64 ui, .string us, .slice ual unl ucl, .slice uam unm ucm]) := V.ap_wide hlu (by omega) (Nat.le_refl _)
    clear d0 d1 d2 d3 d4 d5 r0 r1 r2 r3 r4 r5 rf hlu b2 t0 t1 h0 h1
    have r0 : w2.cell? ⟨w.heap.size, 0, none⟩ = some (.int .i64 0) := by rw [cell_of_block t0']; rfl
    have r1 : w2.cell? ⟨w.heap.size, 1, none⟩ = some (.bool false) := by rw [cell_of_block t0']; rfl
    have r2 : w2.cell? ⟨w.heap.size, 2, none⟩ = some (.int .i64 0) := by rw [cell_of_block t0']; rfl
    have r3 : w2.cell? ⟨w.heap.size, 3, none⟩ = some (.string ⟨#[]⟩) := by rw [cell_of_block t0']; rfl
    have r4 : w2.cell? ⟨w.heap.size, 4, none⟩ = some (.slice none 0 0) := by rw [cell_of_block t0']; rfl
    have r5 : w2.cell? ⟨w.heap.size, 5, none⟩ = some (.slice none 0 0) := by rw [cell_of_block t0']; rfl
    have rf : ∀ i, w2.frozen? ⟨w.heap.size, i, none⟩ = false := frozen_of_block t0'
    clear t0'
    go_wp2_with fail
    (try simp only [Exit.inBlock, Exit.then])
    refine bodyPost_ret (v := .tuple #[.agg #[.int .i64 uk, .bool ub, .int .i64 ui, .string us, .slice ual unl ucl, .slice uam unm ucm], .int .i64 0]) ?_ rfl (by rw [HF.out, HE.out]; exact ⟨[.int .i64 uk, .bool ub, .int .i64 ui, .string us, .slice ual unl ucl, .slice uam unm ucm], rfl, V.ap_wide (ap_set6 HU.out (show w.heap.size < w.heap.size + 2 by omega) _ _ _ _ _ _ _ _ _ _ _ _) (by omega) (by simp only [size_set1]; exact Nat.le_refl _), Below.set6 B2 (Nat.le_refl _) _ _ _ _ _ _ _ _ _ _ _ _⟩)
    rw [results_cell_tmp rfl]
    go_simp
  · have HF : Hid (mapV l = nullV) := by show _ = _; rw [mapV, if_neg (by rw [HE.out]; exact hr0)]
    have y1 : ¬ (r : Int) = 0 := by omega
    clear t0 t1 h0 h1
    go_wp2_with fail
    (try simp only [Exit.inBlock, Exit.then])
    refine bodyPost_ret (v := .tuple #[.agg #[.int .i64 0, .bool false, .int .i64 0, .string ⟨#[]⟩, .slice none 0 0, .slice none 0 0], .int .i64 (r : Int)]) ?_ rfl (by rw [HF.out, HE.out]; exact ⟨[.int .i64 0, .bool false, .int .i64 0, .string ⟨#[]⟩, .slice none 0 0, .slice none 0 0], rfl, null_ap _ (by have := B1.size; simp only [size_set1]; omega), Below.set6 B1 (Nat.le_refl _) _ _ _ _ _ _ _ _ _ _ _ _⟩)
    rw [results_cell_tmp rfl]
    go_simp
set_option maxHeartbeats 1600000 in
set_option maxRecDepth 100000 in
theorem mapOf_big (l : List Mem) (R : Bool) (S : Nat → Prop) (am : Option Addr) (cm bm om : Nat) (w : World) (tb : Tb w) (ham : Headed am l.length cm bm om) (hl : liesM false w S l bm om) (hS : ∀ b, S b → b < w.heap.size) (hwt : wtM l ≤ 562949953421300) (hky : ∀ y ∈ l, y.1.size ≤ 281474976710656 ∧ y.2.wt ≤ 281474976710656) :
    Calls Tryd.prog 35 #[.slice am l.length cm] w (VaPost (mapV l) (mapE l) w) := by
  have hz2 : ((w.alloc (.cells #[.int .i64 0, .bool false, .int .i64 0, .string ⟨#[]⟩, .slice none 0 0, .slice none 0 0] 25)).alloc (.cells #[.int .i64 5, .bool false, .int .i64 0, .string ⟨#[]⟩, .slice none 0 0, .slice am l.length cm] 25)).heap.size = w.heap.size + 2 := by rw [alloc_size, alloc_size]
  have B0 : Below w.heap.size w ((w.alloc (.cells #[.int .i64 0, .bool false, .int .i64 0, .string ⟨#[]⟩, .slice none 0 0, .slice none 0 0] 25)).alloc (.cells #[.int .i64 5, .bool false, .int .i64 0, .string ⟨#[]⟩, .slice none 0 0, .slice am l.length cm] 25)) := two_below w _ _
  have h0 := alloc2_keep1 w (.cells #[.int .i64 0, .bool false, .int .i64 0, .string ⟨#[]⟩, .slice none 0 0, .slice none 0 0] 25) (.cells #[.int .i64 5, .bool false, .int .i64 0, .string ⟨#[]⟩, .slice none 0 0, .slice am l.length cm] 25)
  have h1 := alloc2_new w (.cells #[.int .i64 0, .bool false, .int .i64 0, .string ⟨#[]⟩, .slice none 0 0, .slice none 0 0] 25) (.cells #[.int .i64 5, .bool false, .int .i64 0, .string ⟨#[]⟩, .slice none 0 0, .slice am l.length cm] 25)
  have HV : Hid (∀ W, Below w.heap.size w W → (V.mk 5 false 0 ⟨#[]⟩ [] l).lies false W S [.int .i64 5, .bool false, .int .i64 0, .string ⟨#[]⟩, .slice none 0 0, .slice am l.length cm] ∧ (∀ b, S b → b < W.heap.size)) := fun W hb => ⟨lies_S (by constructor <;> omega) (by constructor <;> omega) (by decide) headed_nil ham (by rw [liesL]; trivial) (liesM_keep (fun h => h) (fun x hx => hb.block x (hS x hx)) (fun _ h => h) _ hl), fun x hx => Nat.lt_of_lt_of_le (hS x hx) hb.size⟩
  have HB : Hid (∀ W, Below w.heap.size w W → Tb W) := fun W hb => tb.below hb tb.z
  have hwt' : (V.mk 5 false 0 ⟨#[]⟩ [] l).wt ≤ 562949953421312 := by
    have z0 : (⟨#[]⟩ : ByteArray).size = 0 := rfl
    simp only [V.wt, wtL]; omega
  clear hl
  go_enter Tryd.func35, Tryd.ntmps35
  go_wp2_with fail
  generalize ((w.alloc (.cells #[.int .i64 0, .bool false, .int .i64 0, .string ⟨#[]⟩, .slice none 0 0, .slice none 0 0] 25)).alloc (.cells #[.int .i64 5, .bool false, .int .i64 0, .string ⟨#[]⟩, .slice none 0 0, .slice am l.length cm] 25)) = w0 at *
  refine (check_big false 5 false 0 ⟨#[]⟩ [] l 40 S _ w0 (HB.out w0 B0) (HV.out w0 B0).1 (HV.out w0 B0).2 hwt' (by decide) hky (fun x hx => by cases hx)).mono ?_
  rintro e w1 ⟨rfl, b1⟩
  have hz1 := b1.size
  have B1 := B0.trans (b1.mono (by omega))
  have t0 := (b1.block w.heap.size (by omega)).trans h0
  have t1 := (b1.block (w.heap.size + 1) (by omega)).trans h1
  have r0 : w1.cell? ⟨w.heap.size, 0, none⟩ = some (.int .i64 0) := by rw [cell_of_block t0]; rfl
  have d0 : w1.cell? ⟨w.heap.size + 1, 0, none⟩ = some (.int .i64 5) := by rw [cell_of_block t1]; rfl
  have r1 : w1.cell? ⟨w.heap.size, 1, none⟩ = some (.bool false) := by rw [cell_of_block t0]; rfl
  have d1 : w1.cell? ⟨w.heap.size + 1, 1, none⟩ = some (.bool false) := by rw [cell_of_block t1]; rfl
  have r2 : w1.cell? ⟨w.heap.size, 2, none⟩ = some (.int .i64 0) := by rw [cell_of_block t0]; rfl
  have d2 : w1.cell? ⟨w.heap.size + 1, 2, none⟩ = some (.int .i64 0) := by rw [cell_of_block t1]; rfl
  have r3 : w1.cell? ⟨w.heap.size, 3, none⟩ = some (.string ⟨#[]⟩) := by rw [cell_of_block t0]; rfl
  have d3 : w1.cell? ⟨w.heap.size + 1, 3, none⟩ = some (.string ⟨#[]⟩) := by rw [cell_of_block t1]; rfl
  have r4 : w1.cell? ⟨w.heap.size, 4, none⟩ = some (.slice none 0 0) := by rw [cell_of_block t0]; rfl
  have d4 : w1.cell? ⟨w.heap.size + 1, 4, none⟩ = some (.slice none 0 0) := by rw [cell_of_block t1]; rfl
  have r5 : w1.cell? ⟨w.heap.size, 5, none⟩ = some (.slice none 0 0) := by rw [cell_of_block t0]; rfl
  have d5 : w1.cell? ⟨w.heap.size + 1, 5, none⟩ = some (.slice am l.length cm) := by rw [cell_of_block t1]; rfl
  have rf : ∀ i, w1.frozen? ⟨w.heap.size, i, none⟩ = false := frozen_of_block t0
  have HE : Hid (mapE l = chkE (V.mk 5 false 0 ⟨#[]⟩ [] l) 40) := rfl
  have HWS : Hid (chkE (V.mk 5 false 0 ⟨#[]⟩ [] l) 40 = 0 → (V.mk 5 false 0 ⟨#[]⟩ [] l).wt ≤ 1099511627776) := fun h => by
    have := wt_of_chk (v := V.mk 5 false 0 ⟨#[]⟩ [] l) (by rw [← chkE40]; exact h)
    omega
  generalize chkE (V.mk 5 false 0 ⟨#[]⟩ [] l) 40 = r at *
  by_cases hr0 : r = 0
  · subst hr0
    have HWQ : Hid ((V.mk 5 false 0 ⟨#[]⟩ [] l).wt ≤ 1099511627776) := HWS.out rfl
    clear HWS
    have HF : Hid (mapV l = (V.mk 5 false 0 ⟨#[]⟩ [] l)) := by show _ = _; rw [mapV, if_pos HE.out]
    go_wp2_with fail
    refine (anew_ap (V.mk 5 false 0 ⟨#[]⟩ [] l) false S _ w1 (HV.out w1 B1).1 (HV.out w1 B1).2 HWQ.out).mono ?_
    rintro e w2 ⟨csu, rfl, hlu, b2⟩
    obtain ⟨uk, ub, ui, us, ual, unl, ucl, uam, unm, ucm, rfl⟩ := V.ten (V.ap_lies _ hlu)
    have hz3 := b2.size
    have B2 := B1.trans (b2.mono (by omega))
    have t0' := (b2.block w.heap.size (by omega)).trans t0
    have HU : Hid ((V.mk 5 false 0 ⟨#[]⟩ [] l).ap w2 (w.heap.size + 2) w2.heap.size [.int .i64 uk, .bool ub, .int .i64 ui, .string us, .slice ual unl ucl, .slice uam unm ucm]) := V.ap_wide hlu (by omega) (Nat.le_refl _)
    clear d0 d1 d2 d3 d4 d5 r0 r1 r2 r3 r4 r5 rf hlu b2 t0 t1 h0 h1
    have r0 : w2.cell? ⟨w.heap.size, 0, none⟩ = some (.int .i64 0) := by rw [cell_of_block t0']; rfl
    have r1 : w2.cell? ⟨w.heap.size, 1, none⟩ = some (.bool false) := by rw [cell_of_block t0']; rfl
    have r2 : w2.cell? ⟨w.heap.size, 2, none⟩ = some (.int .i64 0) := by rw [cell_of_block t0']; rfl
    have r3 : w2.cell? ⟨w.heap.size, 3, none⟩ = some (.string ⟨#[]⟩) := by rw [cell_of_block t0']; rfl
    have r4 : w2.cell? ⟨w.heap.size, 4, none⟩ = some (.slice none 0 0) := by rw [cell_of_block t0']; rfl
    have r5 : w2.cell? ⟨w.heap.size, 5, none⟩ = some (.slice none 0 0) := by rw [cell_of_block t0']; rfl
    have rf : ∀ i, w2.frozen? ⟨w.heap.size, i, none⟩ = false := frozen_of_block t0'
    clear t0'
    go_wp2_with fail
    (try simp only [Exit.inBlock, Exit.then])
    refine bodyPost_ret (v := .tuple #[.agg #[.int .i64 uk, .bool ub, .int .i64 ui, .string us, .slice ual unl ucl, .slice uam unm ucm], .int .i64 0]) ?_ rfl (by rw [HF.out, HE.out]; exact ⟨[.int .i64 uk, .bool ub, .int .i64 ui, .string us, .slice ual unl ucl, .slice uam unm ucm], rfl, V.ap_wide (ap_set6 HU.out (show w.heap.size < w.heap.size + 2 by omega) _ _ _ _ _ _ _ _ _ _ _ _) (by omega) (by simp only [size_set1]; exact Nat.le_refl _), Below.set6 B2 (Nat.le_refl _) _ _ _ _ _ _ _ _ _ _ _ _⟩)
    rw [results_cell_tmp rfl]
    go_simp
  · have HF : Hid (mapV l = nullV) := by show _ = _; rw [mapV, if_neg (by rw [HE.out]; exact hr0)]
    have y1 : ¬ (r : Int) = 0 := by omega
    clear t0 t1 h0 h1
    go_wp2_with fail
    (try simp only [Exit.inBlock, Exit.then])
    refine bodyPost_ret (v := .tuple #[.agg #[.int .i64 0, .bool false, .int .i64 0, .string ⟨#[]⟩, .slice none 0 0, .slice none 0 0], .int .i64 (r : Int)]) ?_ rfl (by rw [HF.out, HE.out]; exact ⟨[.int .i64 0, .bool false, .int .i64 0, .string ⟨#[]⟩, .slice none 0 0, .slice none 0 0], rfl, null_ap _ (by have := B1.size; simp only [size_set1]; omega), Below.set6 B1 (Nat.le_refl _) _ _ _ _ _ _ _ _ _ _ _ _⟩)
    rw [results_cell_tmp rfl]
    go_simp
end Go.Proofs.YthgfomblodhoaaaDoor
