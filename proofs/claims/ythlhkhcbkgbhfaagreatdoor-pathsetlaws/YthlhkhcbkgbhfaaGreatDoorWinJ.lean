import Derived.Test.YthlhkhcbkgbhfaaGreatDoorG42
/- pathset.Within. -/
set_option linter.unusedSimpArgs false
set_option linter.unusedVariables false
namespace Go.Proofs.YthlhkhcbkgbhfaaGreatDoor
open Go Go.RowKit Go.Lib Go.Shelf
attribute [local go_sem] Oper.semAt_some
set_option maxHeartbeats 8000000 in
set_option maxRecDepth 100000 in
theorem within_any (a b : List (List El)) (S : Nat → Prop) (aa : Option Addr) (ca ba oa : Nat) (ab : Option Addr) (cb bb ob : Nat) (w : World) (tb : Tb w) (hha : Headed aa a.length ca ba oa) (hla : liesQ w S a ba oa) (hhb : Headed ab b.length cb bb ob) (hlb : liesQ w S b bb ob) (hS : ∀ b, S b → b < w.heap.size) (hwa : BqL a) (hwb : BqL b) :
    Calls Tryz.prog 17 #[.slice aa a.length ca, .slice ab b.length cb] w (WiPost (wiB a b) (errJ a b) w) := by
  have e1 := alloc_size w (.cells #[.bool false] 4)
  have e2 := alloc_size (w.alloc (.cells #[.bool false] 4)) (.cells #[.int .i64 0] 27)
  have B2 : Below w.heap.size w ((w.alloc (.cells #[.bool false] 4)).alloc (.cells #[.int .i64 0] 27)) := ((Below.refl _ w).alloc (Nat.le_refl _) _).alloc (by omega) _
  have bx4 : Boxed ((w.alloc (.cells #[.bool false] 4)).alloc (.cells #[.int .i64 0] 27)) w.heap.size 4 (.bool false) := (Boxed.new w 4 (.bool false)).alloc _
  have bx5 : Boxed ((w.alloc (.cells #[.bool false] 4)).alloc (.cells #[.int .i64 0] 27)) (w.heap.size + 1) 27 (.int .i64 0) := by
    have := Boxed.new (w.alloc (.cells #[.bool false] 4)) 27 (.int .i64 0)
    rwa [e1] at this
  have LA2 : Hid (liesQ ((w.alloc (.cells #[.bool false] 4)).alloc (.cells #[.int .i64 0] 27)) S a ba oa) := liesQ_keep (fun x hx => B2.block x (hS x hx)) (fun _ h => h) hla
  have LB2 : Hid (liesQ ((w.alloc (.cells #[.bool false] 4)).alloc (.cells #[.int .i64 0] 27)) S b bb ob) := liesQ_keep (fun x hx => B2.block x (hS x hx)) (fun _ h => h) hlb
  have hS2 : ∀ x, S x → x < ((w.alloc (.cells #[.bool false] 4)).alloc (.cells #[.int .i64 0] 27)).heap.size := fun x hx => by have := hS x hx; omega
  have c1 := hmk (both_any a b S aa ca ba oa ab cb bb ob ((w.alloc (.cells #[.bool false] 4)).alloc (.cells #[.int .i64 0] 27)) (tb.below B2 tb.z) hha LA2.out hhb LB2.out hS2 hwa hwb)
  have hz2 : ((w.alloc (.cells #[.bool false] 4)).alloc (.cells #[.int .i64 0] 27)).heap.size = w.heap.size + 2 := by omega
  clear LA2 LB2 hS2
  by_cases h0 : errJ a b = 0
  case neg =>
    have y1 : (((errJ a b : Nat) : Int) != 0) = true := by rw [bne_iff_ne]; omega
    have HE : Hid (wiB a b = false) := by show _ = _; rw [wiB, decide_eq_false h0, Bool.false_and]
    clear tb hla hlb
    generalize wiB a b = RB at *
    generalize errJ a b = Es at *
    clear h0
    refine (callsIn_wide (n := 3)).1 ?_
    refine callsIn_of_wp_marks Tryz.func17 rfl trivial ?_ rfl
    simp only [Tryz.ntmps17, List.size_toArray, List.length_cons, List.length_nil, Nat.reduceAdd, Nat.reduceSub, Array.replicate_succ, Array.replicate_zero, List.push_toArray, List.append_toArray, List.nil_append, List.cons_append]
    gi_wp2
    refine ⟨trivial, (callsIn_wide).2 (c1.out.mono ?_)⟩
    generalize ((w.alloc (.cells #[.bool false] 4)).alloc (.cells #[.int .i64 0] 27)) = w2 at *
    rintro e w1 ⟨rfl, b1⟩
    have hz1 := b1.size
    have k4 : Boxed w1 w.heap.size 4 (.bool false) := (b1.block _ (by omega)).trans bx4
    have k5 : Boxed w1 (w.heap.size + 1) 27 (.int .i64 0) := (b1.block _ (by omega)).trans bx5
    have B1 : Below w.heap.size w w1 := B2.trans (b1.mono B2.size)
    have c4 := k4.cell
    have f4 := k4.frozen
    have c5 := k5.cell
    have f5 := k5.frozen
    have k5s : Boxed (w1.setCell ⟨w.heap.size, 0, none⟩ (.bool false)) (w.heap.size + 1) 27 (.int .i64 0) := (set_other (by omega)).trans k5
    have c5s := k5s.cell
    have f5s := k5s.frozen
    have m4 : Boxed ((w1.setCell ⟨w.heap.size, 0, none⟩ (.bool false)).setCell ⟨w.heap.size + 1, 0, none⟩ (.int .i64 (Es : Int))) w.heap.size 4 (.bool false) := (set_other (by omega)).trans (k4.set _)
    have m5 := k5s.set (.int .i64 (Es : Int))
    have d4 := m4.cell
    have d5 := m5.cell
    clear c1
    gi_wp2
    refine ⟨.tuple #[.bool false, .int .i64 (Es : Int)], ?_, ?_⟩
    · simp [results, Tryz.f17, go_sem, d4, d5]
    · exact ⟨by rw [HE.out], (B1.setCell (p := ⟨w.heap.size, 0, none⟩) (by simp) _).setCell (p := ⟨w.heap.size + 1, 0, none⟩) (by simp) _⟩
  have y1 : (((errJ a b : Nat) : Int) != 0) = false := by rw [h0]; rfl
  obtain ⟨zs, hzs, hseq⟩ := seqsN_any a b S aa ca ba oa ab cb bb ob w hha hla hhb hlb hS hwa hwb
  have HE : Hid (errJ a b = 0 ∧ wiB a b = decide (zs.length = 0)) := ⟨h0, by rw [wiB, decide_eq_true h0, Bool.true_and, joL, if_pos h0, ← hzs, List.length_map]⟩
  clear tb hla hlb
  generalize wiB a b = RB at *
  generalize errJ a b = Es at *
  clear h0
  refine (callsIn_wide (n := 3)).1 ?_
  refine callsIn_of_wp_marks Tryz.func17 rfl trivial ?_ rfl
  simp only [Tryz.ntmps17, List.size_toArray, List.length_cons, List.length_nil, Nat.reduceAdd, Nat.reduceSub, Array.replicate_succ, Array.replicate_zero, List.push_toArray, List.append_toArray, List.nil_append, List.cons_append]
  gi_wp2
  refine ⟨trivial, (callsIn_wide).2 (c1.out.mono ?_)⟩
  generalize ((w.alloc (.cells #[.bool false] 4)).alloc (.cells #[.int .i64 0] 27)) = w2 at *
  rintro e w1 ⟨rfl, b1⟩
  have hz1 := b1.size
  have k4 : Boxed w1 w.heap.size 4 (.bool false) := (b1.block _ (by omega)).trans bx4
  have k5 : Boxed w1 (w.heap.size + 1) 27 (.int .i64 0) := (b1.block _ (by omega)).trans bx5
  have B1 : Below w.heap.size w w1 := B2.trans (b1.mono B2.size)
  have HQ := hmk (hseq w1 B1 (3 - 1) (w1.heap.size + 3) (w1.heap.size + 3) (((w1.alloc (.cells #[.slice aa a.length ca] 22)).alloc (.cells #[.slice ab b.length cb] 22)).alloc (.cells #[.func (.func 34) #[] #[]] 52)) (Below.refl _ _) (Nat.le_refl _) (Nat.le_refl _))
  have q1 := alloc_size w1 (.cells #[.slice aa a.length ca] 22)
  have q2 := alloc_size (w1.alloc (.cells #[.slice aa a.length ca] 22)) (.cells #[.slice ab b.length cb] 22)
  have q3 := alloc_size ((w1.alloc (.cells #[.slice aa a.length ca] 22)).alloc (.cells #[.slice ab b.length cb] 22)) (.cells #[.func (.func 34) #[] #[]] 52)
  have hz3 : (((w1.alloc (.cells #[.slice aa a.length ca] 22)).alloc (.cells #[.slice ab b.length cb] 22)).alloc (.cells #[.func (.func 34) #[] #[]] 52)).heap.size = w1.heap.size + 3 := by omega
  have B3 : Below w.heap.size w (((w1.alloc (.cells #[.slice aa a.length ca] 22)).alloc (.cells #[.slice ab b.length cb] 22)).alloc (.cells #[.func (.func 34) #[] #[]] 52)) := ((B1.alloc (by omega) _).alloc (by omega) _).alloc (by omega) _
  have K4 : Boxed (((w1.alloc (.cells #[.slice aa a.length ca] 22)).alloc (.cells #[.slice ab b.length cb] 22)).alloc (.cells #[.func (.func 34) #[] #[]] 52)) w.heap.size 4 (.bool false) := ((k4.alloc _).alloc _).alloc _
  have K5 : Boxed (((w1.alloc (.cells #[.slice aa a.length ca] 22)).alloc (.cells #[.slice ab b.length cb] 22)).alloc (.cells #[.func (.func 34) #[] #[]] 52)) (w.heap.size + 1) 27 (.int .i64 0) := ((k5.alloc _).alloc _).alloc _
  have WK := hmk (walk_any aa a.length ca ab b.length cb 34 w1)
  clear c1 hseq k4 k5 bx4 bx5
  generalize (((w1.alloc (.cells #[.slice aa a.length ca] 22)).alloc (.cells #[.slice ab b.length cb] 22)).alloc (.cells #[.func (.func 34) #[] #[]] 52)) = w3 at *
  gi_wp2
  refine ⟨trivial, (callsIn_wide).2 (WK.out.mono ?_)⟩
  rintro e w9 ⟨rfl, hw9⟩
  subst hw9
  gi_wp2
  have HS := HQ.out (by omega)
  refine wpIn_rangeFunc_ownH rfl (by decide) (gf := 56) (lb := #[.pointer (some ⟨w1.heap.size, 0, none⟩), .pointer (some ⟨w1.heap.size + 1, 0, none⟩), .pointer (some ⟨w1.heap.size + 2, 0, none⟩)]) rfl trivial (enters_of Tryz.func56 (by kernel_rfl) rfl) HS (fun h k => h.trans k) (fun W l o o' hl h h1 h2 => kx_of (belowK_b (w := w9) (by omega) W l o o' hl h h1 h2)) (Below.refl _ _) (fun _ => rfl)
    (fun (pre : List {x : PC w S // x ∈ zs}) (W : World) => ((pre = [] ∧ Boxed W w.heap.size 4 (.bool false)) ∧ Boxed W (w.heap.size + 1) 27 (.int .i64 0)) ∧ Below w.heap.size w W)
    (fun c (pre : List {x : PC w S // x ∈ zs}) (W : World) => (((c = .ret ∧ zs ≠ []) ∧ Boxed W w.heap.size 4 (.bool false)) ∧ Boxed W (w.heap.size + 1) 27 (.int .i64 0)) ∧ Below w.heap.size w W)
    (OwnFrom.and (OwnFrom.and (OwnFrom.and (ownFrom_pure _ _) (Own.from (boxed_own _ _ _) _)) (Own.from (boxed_own _ _ _) _)) (ownFrom_below (Nat.le_refl _) (by omega)))
    (fun c => OwnFrom.and (OwnFrom.and (OwnFrom.and (ownFrom_pure _ _) (Own.from (boxed_own _ _ _) _)) (Own.from (boxed_own _ _ _) _)) (ownFrom_below (Nat.le_refl _) (by omega)))
    ⟨⟨⟨rfl, K4⟩, K5⟩, B3⟩ (fun (x : {x : PC w S // x ∈ zs}) (a' : Act) (_ : World) => a' = { tmps := #[.slice aa a.length ca, .slice ab b.length cb, undef, undef, .pointer (some ⟨w.heap.size, 0, none⟩), .pointer (some ⟨w.heap.size + 1, 0, none⟩), .int .i64 (Es : Int), .slice aa a.length ca, .slice ab b.length cb, .int .i64 (Es : Int), .int .i64 (Es : Int), .bool false, undef, .slice aa a.length ca, .slice ab b.length cb, .func (.func 56) #[] #[.pointer (some ⟨w1.heap.size, 0, none⟩), .pointer (some ⟨w1.heap.size + 1, 0, none⟩), .pointer (some ⟨w1.heap.size + 2, 0, none⟩)], x.1.enc], defers := [] }) (fun _ _ _ _ _ _ h _ _ => h) ?assign ?body ?done ?stop
  case assign =>
    rintro lp pre x W K hI hK
    have hK' := hK _ W (KeepsFrom.refl _ _) (Kx.refl _ _ _) hI rfl
    clear hK
    simp only [PC.enc] at hK' ⊢
    gi_wp2
    first
    | exact hK'
    | simpa using hK'
  case body =>
    rintro lp pre x a' W hlp ⟨r, hr⟩ ⟨⟨⟨rfl, b4⟩, b5⟩, bW⟩ rfl hlt
    have c4 := b4.cell
    have f4 := b4.frozen
    have k5s : Boxed (W.setCell ⟨w.heap.size, 0, none⟩ (.bool false)) (w.heap.size + 1) 27 (.int .i64 0) := (set_other (by omega)).trans b5
    have c5s := k5s.cell
    have f5s := k5s.frozen
    have m4 : Boxed ((W.setCell ⟨w.heap.size, 0, none⟩ (.bool false)).setCell ⟨w.heap.size + 1, 0, none⟩ (.int .i64 0)) w.heap.size 4 (.bool false) := (set_other (by omega)).trans (b4.set _)
    have m5 := k5s.set (.int .i64 0)
    have hne : zs ≠ [] := List.ne_nil_of_mem x.2
    simp only [PC.enc]
    gi_wp2
    exact ⟨((KeepsOthers.setCell _ _ _).from _).trans ((KeepsOthers.setCell _ _ _).from _), ⟨⟨⟨rfl, hne⟩, m4⟩, m5⟩, (bW.setCell (p := ⟨w.heap.size, 0, none⟩) (by simp) _).setCell (p := ⟨w.heap.size + 1, 0, none⟩) (by simp) _⟩
  case done =>
    rintro D ys W hD hys ⟨⟨⟨rfl, b4⟩, b5⟩, bW⟩ hK
    have hz0 : zs = [] := by rw [← hys]; rfl
    have c4 := b4.cell
    have f4 := b4.frozen
    have k5s : Boxed (W.setCell ⟨w.heap.size, 0, none⟩ (.bool true)) (w.heap.size + 1) 27 (.int .i64 0) := (set_other (by omega)).trans b5
    have c5s := k5s.cell
    have f5s := k5s.frozen
    have m4 : Boxed ((W.setCell ⟨w.heap.size, 0, none⟩ (.bool true)).setCell ⟨w.heap.size + 1, 0, none⟩ (.int .i64 0)) w.heap.size 4 (.bool true) := (set_other (by omega)).trans (b4.set _)
    have m5 := k5s.set (.int .i64 0)
    gi_wp2
    have hK' := (KeepsOthers.setCell (W.setCell ⟨w.heap.size, 0, none⟩ (.bool true)) ⟨w.heap.size + 1, 0, none⟩ (.int .i64 0)).same D _ ((KeepsOthers.setCell W ⟨w.heap.size, 0, none⟩ (.bool true)).same D _ hK rfl) rfl
    refine ⟨by simp, .inl ⟨_, _, rfl, run_takeDeferred hK', ?_⟩⟩
    have d4 := cell_kept m4.cell (grownBy_putObj' _ D (.deferred none)) (fun r e => by cases e; exact ⟨_, hK', rfl⟩)
    have d5 := cell_kept m5.cell (grownBy_putObj' _ D (.deferred none)) (fun r e => by cases e; exact ⟨_, hK', rfl⟩)
    refine ⟨.tuple #[.bool true, .int .i64 0], ?_, ?_, ?_⟩
    · simp [results, Tryz.f17, go_sem, d4, d5]
    · rw [HE.out.1, HE.out.2, hz0]; rfl
    · exact ((bW.setCell (p := ⟨w.heap.size, 0, none⟩) (by simp) _).setCell (p := ⟨w.heap.size + 1, 0, none⟩) (by simp) _).trans (belowK_b (w := w) (Nat.le_refl _) _ D _ _ (by omega) hK' rfl rfl)
  case stop =>
    rintro D c pre W hD _ ⟨⟨⟨⟨rfl, hne⟩, b4⟩, b5⟩, bW⟩ hK
    gi_wp2
    refine ⟨by simp, .inl ⟨_, _, rfl, run_takeDeferred hK, ?_⟩⟩
    have d4 := cell_kept b4.cell (grownBy_putObj' _ D (.deferred none)) (fun r e => by cases e; exact ⟨_, hK, rfl⟩)
    have d5 := cell_kept b5.cell (grownBy_putObj' _ D (.deferred none)) (fun r e => by cases e; exact ⟨_, hK, rfl⟩)
    refine ⟨.tuple #[.bool false, .int .i64 0], ?_, ?_, ?_⟩
    · simp [results, Tryz.f17, go_sem, d4, d5]
    · rw [HE.out.1, HE.out.2, decide_eq_false (fun h => hne (List.length_eq_zero_iff.1 h))]; rfl
    · exact bW.trans (belowK_b (w := w) (Nat.le_refl _) W D _ _ (by omega) hK rfl rfl)
end Go.Proofs.YthlhkhcbkgbhfaaGreatDoor
