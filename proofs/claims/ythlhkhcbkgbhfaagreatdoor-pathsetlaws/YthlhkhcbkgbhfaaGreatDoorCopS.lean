import Derived.Test.YthlhkhcbkgbhfaaGreatDoorG31
/- pathset.copied: paths that come one by one, each in memory of its own. -/
set_option linter.unusedSimpArgs false
set_option linter.unusedVariables false
namespace Go.Proofs.YthlhkhcbkgbhfaaGreatDoor
open Go Go.RowKit Go.Lib Go.Shelf
def IsCells (w : World) (b : Nat) : Prop := ∃ o : Obj, w.heap[b]? = some o ∧ o.isCells = true
theorem isCells_row {w : World} {b o : Nat} {u : Value} {cs : List Value} (h : rowAt w b o (u :: cs)) : IsCells w b := by
  have h1 := h 0 u rfl
  exact cells_of_cell h1
mutual
/-- what a value lies in are cells -/
theorem lies_cells {R : Bool} {w : World} {S : Nat → Prop} (hR : R = false) : ∀ (v : V) {cs : List Value}, v.lies R w S cs → v.lies R w (fun b => S b ∧ IsCells w b) cs
  | .mk k b i s l m, cs, h => by
    rw [V.lies] at h ⊢
    obtain ⟨al, cl, bl, ol, am, cm, bm, om, e, h1, h2, h0, h3, h4, h5, h6, h7⟩ := h
    exact ⟨al, cl, bl, ol, am, cm, bm, om, e, h1, h2, h0, h3, h4, liesL_cells hR l h5, liesM_cells hR m h6, fun r => by rw [hR] at r; cases r⟩
theorem liesL_cells {R : Bool} {w : World} {S : Nat → Prop} (hR : R = false) : ∀ (l : List V) {b o : Nat}, liesL R w S l b o → liesL R w (fun b => S b ∧ IsCells w b) l b o
  | [], b, o, h => by rw [liesL]; trivial
  | x :: t, b, o, h => by
    rw [liesL] at h ⊢
    obtain ⟨h1, ⟨cs, h2, h3⟩, h4⟩ := h
    obtain ⟨k, bb, i, s, al, nl, cl, am, nm, cm, e⟩ := V.ten h3
    exact ⟨⟨h1, by rw [e] at h2; exact isCells_row h2⟩, ⟨cs, h2, lies_cells hR x h3⟩, liesL_cells hR t h4⟩
theorem liesM_cells {R : Bool} {w : World} {S : Nat → Prop} (hR : R = false) : ∀ (l : List Mem) {b o : Nat}, liesM R w S l b o → liesM R w (fun b => S b ∧ IsCells w b) l b o
  | [], b, o, h => by rw [liesM]; trivial
  | (k, x) :: t, b, o, h => by
    rw [liesM] at h ⊢
    obtain ⟨h1, ⟨h0, cs, h2, h3⟩, h4⟩ := h
    exact ⟨⟨h1, isCells_row h2⟩, ⟨h0, cs, h2, lies_cells hR x h3⟩, liesM_cells hR t h4⟩
end
theorem el_cells {e : El} {w : World} {S : Nat → Prop} {cs : List Value} (h : e.lies w S cs) : e.lies w (fun b => S b ∧ IsCells w b) cs := by
  obtain ⟨am, cm, bm, om, is, rfl, hk, hnm, ham, hm, hv⟩ := h
  exact ⟨am, cm, bm, om, is, rfl, hk, hnm, ham, liesM_cells rfl _ hm, lies_cells rfl _ hv⟩
theorem liesP_cells {p : List El} {w : World} {S : Nat → Prop} {b o : Nat} (h : liesP w S p b o) : liesP w (fun b => S b ∧ IsCells w b) p b o := fun j hj => by
  obtain ⟨h1, cs, h2, h3⟩ := h j hj
  obtain ⟨k, s, am, nm, cm, vk, vb, vi, vs, val, vnl, vcl, vam, vnm, vcm, e⟩ := El.nine h3
  exact ⟨⟨h1, by rw [e] at h2; exact isCells_row h2⟩, cs, h2, el_cells h3⟩
theorem isCells_cell {w : World} {b o : Nat} {v : Value} (h : w.cell? ⟨b, o, none⟩ = some v) : IsCells w b := isCells_row (o := o) (u := v) (cs := []) (fun i u hi => by
    cases i with
    | zero => simp at hi; subst hi; exact h
    | succ i => simp at hi)
theorem liesQ_cells {w : World} {S : Nat → Prop} {l : List (List El)} {b o : Nat} (h : liesQ w S l b o) : liesQ w (fun b => S b ∧ IsCells w b) l b o := fun j hj => by
  obtain ⟨h1, v, h2, ap, cp, bp, op, e, h3, h4⟩ := h j hj
  exact ⟨⟨h1, isCells_cell h2⟩, v, h2, ap, cp, bp, op, e, h3, liesP_cells h4⟩
theorem isCells_keep {w w' : World} {b : Nat} (h : IsCells w b) (e : w'.heap[b]? = w.heap[b]?) : IsCells w' b := by
  obtain ⟨o, h1, h2⟩ := h
  exact ⟨o, e.trans h1, h2⟩
/-- the copies so far, in the box B -/
def CoI (w : World) (R : List (List El)) (W : World) : Prop := ∃ (pv : Value) (SP : Nat → Prop), W.heap[w.heap.size]? = some (.cells #[pv] 22 (0, 0)) ∧ OwnQ W 0 SP pv R ∧ (∀ r, pv.ownBlock = some r → w.heap.size + 1 ≤ r) ∧ (∀ b, SP b → w.heap.size + 1 ≤ b ∧ IsCells W b) ∧ Below w.heap.size w W
theorem CoI.own {w : World} {R : List (List El)} {W W' : World} {row : Option Nat} (h : CoI w R W) (hg : W.grownBy W' row) (hr : ∀ r, row = some r → w.heap.size + 1 ≤ r ∧ ∃ o : Obj, W.heap[r]? = some o ∧ o.isCells = false) : CoI w R W' := by
  obtain ⟨pv, SP, h1, h2, h3, h4, h5⟩ := h
  have hb : w.heap.size < W.heap.size := (Array.getElem?_eq_some_iff.1 h1).1
  have hnc : ∀ b, IsCells W b → row ≠ some b := fun b hc e => by
    obtain ⟨_, o, e1, e2⟩ := hr b e
    obtain ⟨o', e3, e4⟩ := hc
    rw [e1] at e3; cases e3
    rw [e2] at e4; cases e4
  have hrow : ∀ r, row = some r → ¬ SP r ∧ pv.ownBlock ≠ some r := fun r e => ⟨fun hs => hnc r (h4 r hs).2 e, fun ho => by
    obtain ⟨⟨xs, q1, _⟩, _⟩ := h2
    rcases q1.2 with ⟨rfl, _⟩ | ⟨g, cap, cur, rfl, _, hgg, _⟩
    · simp [Value.ownBlock] at ho
    · simp only [Value.ownBlock, Option.some.injEq] at ho
      subst ho
      exact hnc g ⟨_, hgg, rfl⟩ e⟩
  refine ⟨pv, SP, (hg.block _ hb (fun e => by have := (hr _ e.symm).1; omega)).trans h1, h2.keep keepQ hg hrow, h3, fun b hs => ⟨(h4 b hs).1, isCells_keep (h4 b hs).2 (hg.block b (h2.off b hs).2.1 (fun e => hnc b (h4 b hs).2 e.symm))⟩, h5.grown hg (by omega) (fun r e => by have := (hr r e).1; omega)⟩
def CopPost (R : List (List El)) (w : World) (e : Ending) (w' : World) : Prop := ∃ a c b o, e = .returned (.slice a R.length c) ∧ Headed a R.length c b o ∧ liesQ w' (New w w') R b o ∧ Below w.heap.size w w'
attribute [local go_sem] Oper.semAt_some
set_option maxHeartbeats 8000000 in
set_option maxRecDepth 100000 in
theorem copied_any {w0 : World} {S : Nat → Prop} (hS0 : ∀ b, S b → b < w0.heap.size) (gf : Nat) (lb : Array Value) (xs : List (PC w0 S)) (w : World) (hw : Below w0.heap.size w0 w) (hpb : ∀ x ∈ xs, pathB x.p = true) (hwt : ∀ x ∈ xs, wtP x.p ≤ 2147483647) (hn : xs.length ≤ 17179869184) (eg : ∀ args w, (callFunc gf args).run Tryz.prog w = .ok (.enter gf args) w)
    (hseq : ∀ W, Below w.heap.size w W → w.heap.size + 1 ≤ W.heap.size → SeqStopsK Fence.wide (3 - 1) Tryz.prog gf lb (fun x : {x : PC w0 S // x ∈ xs} => #[x.1.enc]) (Kx (w.heap.size + 1) w.heap.size) (fun ys => ys.map (fun x => x.1) = xs) (fun _ => True) xs.length W) :
    Calls Tryz.prog 44 #[.func (.func gf) #[] lb] w (CopPost (xs.map PC.p) w) := by
  have nb : (w.alloc (.cells #[.slice none 0 0] 22)).heap[w.heap.size]? = some (.cells #[.slice none 0 0] 22 (0, 0)) := heap_alloc_new w _
  have B1 : Below w.heap.size w (w.alloc (.cells #[.slice none 0 0] 22)) := (Below.refl _ _).alloc (Nat.le_refl _) _
  have hz1 : (w.alloc (.cells #[.slice none 0 0] 22)).heap.size = w.heap.size + 1 := alloc_size _ _
  refine (callsIn_wide (n := 3)).1 ?_
  refine callsIn_of_wp_marks Tryz.func44 rfl trivial ?_ rfl
  simp only [Tryz.ntmps44, List.size_toArray, List.length_cons, List.length_nil, Nat.reduceAdd, Nat.reduceSub, Array.replicate_succ, Array.replicate_zero, List.push_toArray, List.append_toArray, List.nil_append, List.cons_append]
  gi_wp2
  generalize (w.alloc (.cells #[.slice none 0 0] 22)) = w1 at *
  have HS := hseq w1 B1 (by omega)
  refine wpIn_rangeFunc_ownH rfl (by decide) (gf := gf) (lb := lb) rfl trivial eg HS (fun h k => h.trans k) (fun W l o o' hl h h1 h2 => kx_of (belowK_b (w := w1) (by omega) W l o o' hl h h1 h2)) (Below.refl _ _) (fun _ => rfl)
    (fun (pre : List {x : PC w0 S // x ∈ xs}) (W : World) => CoI w (pre.map (fun x => x.1.p)) W) (fun _ _ _ => False) ?hI (fun _ _ _ _ _ h _ _ => h) ?h0 (fun (x : {x : PC w0 S // x ∈ xs}) (a : Act) (_ : World) => a = { tmps := #[.func (.func gf) #[] lb, undef, .slice none 0 0, .pointer (some ⟨w.heap.size, 0, none⟩), x.1.enc, .func (.func gf) #[] lb, x.1.enc, undef, undef, undef, undef, undef, undef], defers := [] }) (fun _ _ _ _ _ _ h _ _ => h) ?assign ?body ?done ?stop
  case hI =>
    rintro pre A B row h hg hr
    exact h.own hg (fun r e => ⟨by have := (hr r e).1; omega, (hr r e).2⟩)
  case h0 => exact ⟨_, _, nb, OwnR.nil _ _, fun r h => by simp [Value.ownBlock] at h, fun b (h : False) => h.elim, B1⟩
  case assign =>
    rintro lp pre x W K hI hK
    have hK' := hK _ W (KeepsFrom.refl _ _) (Kx.refl _ _ _) hI rfl
    clear hK
    simp only [PC.enc] at hK' ⊢
    gi_wp2
    exact hK'
  case body =>
    rintro lp pre x a' W hlp ⟨r, hr⟩ ⟨pv, SP, b1, oO, HO, HSP, bW⟩ rfl hlt
    have hzW := bW.size
    have hbx : w.heap.size < W.heap.size := (Array.getElem?_eq_some_iff.1 b1).1
    have hown : ∀ r, pv.ownBlock = some r → w.heap.size + 1 ≤ r ∧ r < W.heap.size := fun r hr => ⟨HO r hr, (oO.lt hr).2⟩
    have hxl := x.2
    have CPY : Hid (∀ W', Below w.heap.size w W' → Calls Tryz.prog 46 #[.slice x.1.ao x.1.p.length x.1.cap] W' (CyPost x.1.p W')) := fun W' hb => by
      have hb' : Below w0.heap.size w0 W' := hw.trans (hb.mono hw.size)
      have := copy_any x.1.p S x.1.ao x.1.cap x.1.b x.1.o W' x.1.hh (liesP_keep (fun b h => hb'.block b (hS0 b h)) (fun _ h => h) x.1.hl) (fun b h => Nat.lt_of_lt_of_le (hS0 b h) hb'.size) (hwt x.1 x.2)
      rwa [anP_same (hpb x.1 x.2)] at this
    obtain ⟨i0, hi0, hq0, hq1, hq2⟩ := info_parts info33
    have hI : Hid (Tryz.prog.info? 32 = some i0 ∧ i0.zero = some (.slice none 0 0) ∧ i0.size = 1 ∧ i0.bytes = 24) := ⟨hi0, hq0, hq1, hq2⟩
    clear hi0 hq0 hq1 hq2
    have c0 : W.drew.cell? ⟨w.heap.size, 0, none⟩ = some pv := by
      show W.cell? _ = _
      rw [cell_of_block b1]; rfl
    have hpl : pre.length < xs.length := hlt
    simp only [PC.enc]
    gi_wp2
    refine round_held_drew (S := fun _ => True) (by kernel_rfl) (by kernel_rfl) (by rintro ⟨_, _, h⟩; exact h) trivial (fun hHeld => ?_)
    (refine wpAnyH_take (i := 1) (v := ?_) rfl (by kernel_rfl) (by kernel_rfl) (by kernel_rfl) (fun _ _ _ h => h) (Or.inl ⟨by kernel_rfl, ?_⟩) (by assumption) ?_; rotate_left 1; (intro W0 hSw; (try dsimp only at hSw); go_simp; (try with_reducible rfl)); (try simp only [Act.put, List.setIfInBounds_toArray, List.set_cons_zero, List.set_cons_succ]))
    refine wpAnyH_ready (rs := [0, 2]) (by kernel_rfl) (by simp) ?_
    refine AllReadyH.cons rfl (fun K hK => ?_) (AllReadyH.cons rfl (fun K hK => ?_) AllReadyH.nil)
    · go_simp
      refine hK.out _ _ trivial (fun hHeld => ?_)
      clear hK K
      (try simp only [Act.put, List.setIfInBounds_toArray, List.set_cons_zero, List.set_cons_succ])
      refine wpAnyH_ready (rs := [2]) (by kernel_rfl) (by simp) ?_
      refine AllReadyH.cons rfl (fun K hK => ?_) AllReadyH.nil
      go_simp
      refine (CPY.out W.drew (bW.drew)).mono ?_
      rintro e w3 ⟨gg, rfl, hlg, b3⟩
      have b3' : Below W.heap.size W w3 := (Below.refl W.heap.size W).drew.trans b3
      have hz3 : W.heap.size ≤ w3.heap.size := b3'.size
      have b13 : w3.heap[w.heap.size]? = some (.cells #[pv] 22 (0, 0)) := (b3'.block _ hbx).trans b1
      have c3 : w3.cell? ⟨w.heap.size, 0, none⟩ = some pv := by rw [cell_of_block b13]; rfl
      have c3a : ∀ o, (w3.alloc o).cell? ⟨w.heap.size, 0, none⟩ = some pv := fun o => (World.cell?_of_block (w := w3) (a := ⟨w.heap.size, 0, none⟩) (Below.heap_alloc w3 o w.heap.size (by omega))).trans c3
      go_wp2_with fail
      refine hK.out _ _ trivial (fun hHeld => ?_)
      clear hK K
      (try simp only [Act.put, List.setIfInBounds_toArray, List.set_cons_zero, List.set_cons_succ])
      refine wpAnyH_ready (rs := [3]) (by kernel_rfl) (by simp) ?_
      refine AllReadyH.cons rfl (fun K hK => ?_) AllReadyH.nil
      go_simp
      refine hK.out _ _ trivial (fun hHeld => ?_)
      clear hK K
      (try simp only [Act.put, List.setIfInBounds_toArray, List.set_cons_zero, List.set_cons_succ])
      have o3 := oO.below keepQ b3'
      have hSx : Pl.lies w3 (fun b => New W.drew w3 b ∧ IsCells w3 b) x.1.p (.slice (some ⟨gg, 0, none⟩) x.1.p.length x.1.p.length) := ⟨_, _, gg, 0, rfl, ⟨Nat.le_refl _, Nat.le_trans x.1.hh.le x.1.hh.max, .inr rfl, fun h => by cases h⟩, liesP_cells hlg⟩
      have HX : Hid (EQ x.1.p w3 (fun b => New W.drew w3 b ∧ IsCells w3 b) [.slice (some ⟨gg, 0, none⟩) x.1.p.length x.1.p.length]) := ⟨_, rfl, hSx⟩
      have HKk : Hid (∀ b, (New W.drew w3 b ∧ IsCells w3 b) → 0 ≤ b ∧ b < w3.heap.size ∧ some b ≠ pv.ownBlock) := fun b hb => ⟨Nat.zero_le _, hb.1.2, fun e => by have := (hown b e.symm).2; have h9 : W.heap.size ≤ b := hb.1.1; omega⟩
      have HO3 := hmk o3
      have hal3 := alloc_size w3 (.cells #[.slice (some ⟨gg, 0, none⟩) x.1.p.length x.1.p.length] 32)
      refine wpAnyH_ready (rs := [4]) (by kernel_rfl) (by simp) ?_
      refine AllReadyH.cons rfl (fun K hK => ?_) AllReadyH.nil
      refine step_push keepQ rfl (.tmp 7) (.tmp 10) 22 rfl 0 i0 _ 24 Tryz.underlying22 hI.out.1 hI.out.2.1 hI.out.2.2.1 hI.out.2.2.2 rfl (by decide) (by decide) pv x.1.p rfl (HO3.out.alloc keepQ _) w3.heap.size 1 (0, 0) rfl (heap_alloc_new w3 _) rfl oneQ (keepQ _ _ _ _ _ _ (fun b hb => Below.heap_alloc w3 _ b (HKk.out b hb).2.1) (fun _ h => h) HX.out) (fun b hb => ⟨(HKk.out b hb).1, by rw [alloc_size]; have := (HKk.out b hb).2.1; omega, (HKk.out b hb).2.2⟩) (by simp; omega) (Nat.zero_le _) ?_
      intro g cap w5 o5 g5 e5
      rw [List.length_map] at o5 ⊢
      have hz5 := g5.size
      have hgB : w.heap.size + 1 ≤ g := by
        rcases e5 with e | e
        · exact (hown g e).1
        · rw [hal3] at e; omega
      have hk5 : ∀ k, k < w3.heap.size → pv.ownBlock ≠ some k → w5.heap[k]? = w3.heap[k]? := fun k hk hne => (g5.block k (by omega) (fun e => hne e.symm)).trans (Below.heap_alloc w3 _ k hk)
      have hpb0 : pv.ownBlock ≠ some w.heap.size := fun e => by have := (hown _ e).1; omega
      have b15 := (hk5 w.heap.size (by omega) hpb0).trans b13
      have c5 : w5.cell? ⟨w.heap.size, 0, none⟩ = some pv := by rw [cell_of_block b15]; rfl
      have f5 := frozen_of_block b15 0
      refine hK.out _ _ trivial (fun hHeld => ?_)
      clear hK K
      (try simp only [Act.put, List.setIfInBounds_toArray, List.set_cons_zero, List.set_cons_succ])
      refine wpAnyH_ready (rs := [5]) (by kernel_rfl) (by simp) ?_
      refine AllReadyH.cons rfl (fun K hK => ?_) AllReadyH.nil
      go_simp
      refine hK.out _ _ trivial (fun hHeld => ?_)
      clear hK K
      (try simp only [Act.put, List.setIfInBounds_toArray, List.set_cons_zero, List.set_cons_succ])
      refine wpAnyH_done (by kernel_rfl) ?_ _
      (try dsimp only [Act.put, List.getElem_toArray, List.getElem_cons_succ, List.getElem_cons_zero, List.setIfInBounds_toArray, List.set_cons_zero, List.set_cons_succ])
      have hset : ∀ k, k ≠ w.heap.size → (w5.setCell ⟨w.heap.size, 0, none⟩ (.slice (some ⟨g, 0, none⟩) (pre.length + 1) cap)).heap[k]? = w5.heap[k]? := fun k hk => set_other hk
      have hsz6 := size_set1 w5 w.heap.size 0 (.slice (some ⟨g, 0, none⟩) (pre.length + 1) cap)
      have hownc : ∀ k, pv.ownBlock = some k → ∃ o : Obj, W.heap[k]? = some o ∧ o.isCells = true := fun k e => by
        obtain ⟨⟨ys, q1, _⟩, _⟩ := oO
        rcases q1.2 with ⟨rfl, _⟩ | ⟨g', cap', cur, rfl, _, hgg, _⟩
        · simp [Value.ownBlock] at e
        · simp only [Value.ownBlock, Option.some.injEq] at e
          subst e
          exact ⟨_, hgg, rfl⟩
      refine ⟨⟨by omega, fun k o hk ho hc => ?_⟩, ⟨?_, ?_, ?_, by omega, fun k hk hne => ?_⟩, ?_⟩
      · have hkW : k < W.heap.size := (Array.getElem?_eq_some_iff.1 ho).1
        rw [hset k (by omega), hk5 k (by omega) (fun e => by obtain ⟨o', h1, h2⟩ := hownc k e; rw [ho] at h1; cases h1; rw [hc] at h2; cases h2), b3'.block k hkW]
        exact ho
      · exact g5.os.trans b3'.os
      · exact g5.tape.trans b3'.tape
      · exact g5.output.trans b3'.output
      · rw [hset k hne, hk5 k (by omega) (fun e => by have := (hown k e).1; omega), b3'.block k (by omega)]
      · have hnS : ¬ (SP w.heap.size ∨ (New W.drew w3 w.heap.size ∧ IsCells w3 w.heap.size)) := fun h => h.elim (fun h => by have := (HSP _ h).1; omega) (fun h => by have h9 : W.heap.size ≤ w.heap.size := h.1.1; omega)
        refine ⟨_, fun b => SP b ∨ (New W.drew w3 b ∧ IsCells w3 b), by rw [set_block b15]; rfl, ?_, fun r e => by (simp [Value.ownBlock] at e; omega), fun b hb => ⟨?_, ?_⟩, ?_⟩
        · have o6 := o5.set0 keepQ hnS (fun e => by simp [Value.ownBlock] at e; omega) 0 (.slice (some ⟨g, 0, none⟩) (pre.length + 1) cap)
          rw [List.map_append]
          exact o6
        · exact hb.elim (fun h => (HSP b h).1) (fun h => by have h9 : W.heap.size ≤ b := h.1.1; omega)
        · rcases hb with h | h
          · have ho := oO.off b h
            exact isCells_keep (HSP b h).2 (by rw [hset b (by have := (HSP b h).1; omega), hk5 b (by omega) (fun e => ho.2.2 e.symm), b3'.block b ho.2.1])
          · have h9 : W.heap.size ≤ b := h.1.1
            exact isCells_keep h.2 (by rw [hset b (by omega), hk5 b h.1.2 (fun e => by have := (hown b e).2; omega)])
        · exact ⟨g5.os.trans (b3'.os.trans bW.os), g5.tape.trans (b3'.tape.trans bW.tape), g5.output.trans (b3'.output.trans bW.output), by omega, fun k hk => by rw [hset k (by omega), hk5 k (by omega) (fun e => by have := (hown k e).1; omega), b3'.block k (by omega), bW.block k hk]⟩
    · go_simp
      refine (CPY.out W.drew (bW.drew)).mono ?_
      rintro e w3 ⟨gg, rfl, hlg, b3⟩
      have b3' : Below W.heap.size W w3 := (Below.refl W.heap.size W).drew.trans b3
      have hz3 : W.heap.size ≤ w3.heap.size := b3'.size
      have b13 : w3.heap[w.heap.size]? = some (.cells #[pv] 22 (0, 0)) := (b3'.block _ hbx).trans b1
      have c3 : w3.cell? ⟨w.heap.size, 0, none⟩ = some pv := by rw [cell_of_block b13]; rfl
      have c3a : ∀ o, (w3.alloc o).cell? ⟨w.heap.size, 0, none⟩ = some pv := fun o => (World.cell?_of_block (w := w3) (a := ⟨w.heap.size, 0, none⟩) (Below.heap_alloc w3 o w.heap.size (by omega))).trans c3
      go_wp2_with fail
      refine hK.out _ _ trivial (fun hHeld => ?_)
      clear hK K
      (try simp only [Act.put, List.setIfInBounds_toArray, List.set_cons_zero, List.set_cons_succ])
      refine wpAnyH_ready (rs := [0, 3]) (by kernel_rfl) (by simp) ?_
      refine AllReadyH.cons rfl (fun K hK => ?_) (AllReadyH.cons rfl (fun K hK => ?_) AllReadyH.nil)
      · go_simp
        refine hK.out _ _ trivial (fun hHeld => ?_)
        clear hK K
        (try simp only [Act.put, List.setIfInBounds_toArray, List.set_cons_zero, List.set_cons_succ])
        refine wpAnyH_ready (rs := [3]) (by kernel_rfl) (by simp) ?_
        refine AllReadyH.cons rfl (fun K hK => ?_) AllReadyH.nil
        go_simp
        refine hK.out _ _ trivial (fun hHeld => ?_)
        clear hK K
        (try simp only [Act.put, List.setIfInBounds_toArray, List.set_cons_zero, List.set_cons_succ])
        have o3 := oO.below keepQ b3'
        have hSx : Pl.lies w3 (fun b => New W.drew w3 b ∧ IsCells w3 b) x.1.p (.slice (some ⟨gg, 0, none⟩) x.1.p.length x.1.p.length) := ⟨_, _, gg, 0, rfl, ⟨Nat.le_refl _, Nat.le_trans x.1.hh.le x.1.hh.max, .inr rfl, fun h => by cases h⟩, liesP_cells hlg⟩
        have HX : Hid (EQ x.1.p w3 (fun b => New W.drew w3 b ∧ IsCells w3 b) [.slice (some ⟨gg, 0, none⟩) x.1.p.length x.1.p.length]) := ⟨_, rfl, hSx⟩
        have HKk : Hid (∀ b, (New W.drew w3 b ∧ IsCells w3 b) → 0 ≤ b ∧ b < w3.heap.size ∧ some b ≠ pv.ownBlock) := fun b hb => ⟨Nat.zero_le _, hb.1.2, fun e => by have := (hown b e.symm).2; have h9 : W.heap.size ≤ b := hb.1.1; omega⟩
        have HO3 := hmk o3
        have hal3 := alloc_size w3 (.cells #[.slice (some ⟨gg, 0, none⟩) x.1.p.length x.1.p.length] 32)
        refine wpAnyH_ready (rs := [4]) (by kernel_rfl) (by simp) ?_
        refine AllReadyH.cons rfl (fun K hK => ?_) AllReadyH.nil
        refine step_push keepQ rfl (.tmp 7) (.tmp 10) 22 rfl 0 i0 _ 24 Tryz.underlying22 hI.out.1 hI.out.2.1 hI.out.2.2.1 hI.out.2.2.2 rfl (by decide) (by decide) pv x.1.p rfl (HO3.out.alloc keepQ _) w3.heap.size 1 (0, 0) rfl (heap_alloc_new w3 _) rfl oneQ (keepQ _ _ _ _ _ _ (fun b hb => Below.heap_alloc w3 _ b (HKk.out b hb).2.1) (fun _ h => h) HX.out) (fun b hb => ⟨(HKk.out b hb).1, by rw [alloc_size]; have := (HKk.out b hb).2.1; omega, (HKk.out b hb).2.2⟩) (by simp; omega) (Nat.zero_le _) ?_
        intro g cap w5 o5 g5 e5
        rw [List.length_map] at o5 ⊢
        have hz5 := g5.size
        have hgB : w.heap.size + 1 ≤ g := by
          rcases e5 with e | e
          · exact (hown g e).1
          · rw [hal3] at e; omega
        have hk5 : ∀ k, k < w3.heap.size → pv.ownBlock ≠ some k → w5.heap[k]? = w3.heap[k]? := fun k hk hne => (g5.block k (by omega) (fun e => hne e.symm)).trans (Below.heap_alloc w3 _ k hk)
        have hpb0 : pv.ownBlock ≠ some w.heap.size := fun e => by have := (hown _ e).1; omega
        have b15 := (hk5 w.heap.size (by omega) hpb0).trans b13
        have c5 : w5.cell? ⟨w.heap.size, 0, none⟩ = some pv := by rw [cell_of_block b15]; rfl
        have f5 := frozen_of_block b15 0
        refine hK.out _ _ trivial (fun hHeld => ?_)
        clear hK K
        (try simp only [Act.put, List.setIfInBounds_toArray, List.set_cons_zero, List.set_cons_succ])
        refine wpAnyH_ready (rs := [5]) (by kernel_rfl) (by simp) ?_
        refine AllReadyH.cons rfl (fun K hK => ?_) AllReadyH.nil
        go_simp
        refine hK.out _ _ trivial (fun hHeld => ?_)
        clear hK K
        (try simp only [Act.put, List.setIfInBounds_toArray, List.set_cons_zero, List.set_cons_succ])
        refine wpAnyH_done (by kernel_rfl) ?_ _
        (try dsimp only [Act.put, List.getElem_toArray, List.getElem_cons_succ, List.getElem_cons_zero, List.setIfInBounds_toArray, List.set_cons_zero, List.set_cons_succ])
        have hset : ∀ k, k ≠ w.heap.size → (w5.setCell ⟨w.heap.size, 0, none⟩ (.slice (some ⟨g, 0, none⟩) (pre.length + 1) cap)).heap[k]? = w5.heap[k]? := fun k hk => set_other hk
        have hsz6 := size_set1 w5 w.heap.size 0 (.slice (some ⟨g, 0, none⟩) (pre.length + 1) cap)
        have hownc : ∀ k, pv.ownBlock = some k → ∃ o : Obj, W.heap[k]? = some o ∧ o.isCells = true := fun k e => by
          obtain ⟨⟨ys, q1, _⟩, _⟩ := oO
          rcases q1.2 with ⟨rfl, _⟩ | ⟨g', cap', cur, rfl, _, hgg, _⟩
          · simp [Value.ownBlock] at e
          · simp only [Value.ownBlock, Option.some.injEq] at e
            subst e
            exact ⟨_, hgg, rfl⟩
        refine ⟨⟨by omega, fun k o hk ho hc => ?_⟩, ⟨?_, ?_, ?_, by omega, fun k hk hne => ?_⟩, ?_⟩
        · have hkW : k < W.heap.size := (Array.getElem?_eq_some_iff.1 ho).1
          rw [hset k (by omega), hk5 k (by omega) (fun e => by obtain ⟨o', h1, h2⟩ := hownc k e; rw [ho] at h1; cases h1; rw [hc] at h2; cases h2), b3'.block k hkW]
          exact ho
        · exact g5.os.trans b3'.os
        · exact g5.tape.trans b3'.tape
        · exact g5.output.trans b3'.output
        · rw [hset k hne, hk5 k (by omega) (fun e => by have := (hown k e).1; omega), b3'.block k (by omega)]
        · have hnS : ¬ (SP w.heap.size ∨ (New W.drew w3 w.heap.size ∧ IsCells w3 w.heap.size)) := fun h => h.elim (fun h => by have := (HSP _ h).1; omega) (fun h => by have h9 : W.heap.size ≤ w.heap.size := h.1.1; omega)
          refine ⟨_, fun b => SP b ∨ (New W.drew w3 b ∧ IsCells w3 b), by rw [set_block b15]; rfl, ?_, fun r e => by (simp [Value.ownBlock] at e; omega), fun b hb => ⟨?_, ?_⟩, ?_⟩
          · have o6 := o5.set0 keepQ hnS (fun e => by simp [Value.ownBlock] at e; omega) 0 (.slice (some ⟨g, 0, none⟩) (pre.length + 1) cap)
            rw [List.map_append]
            exact o6
          · exact hb.elim (fun h => (HSP b h).1) (fun h => by have h9 : W.heap.size ≤ b := h.1.1; omega)
          · rcases hb with h | h
            · have ho := oO.off b h
              exact isCells_keep (HSP b h).2 (by rw [hset b (by have := (HSP b h).1; omega), hk5 b (by omega) (fun e => ho.2.2 e.symm), b3'.block b ho.2.1])
            · have h9 : W.heap.size ≤ b := h.1.1
              exact isCells_keep h.2 (by rw [hset b (by omega), hk5 b h.1.2 (fun e => by have := (hown b e).2; omega)])
          · exact ⟨g5.os.trans (b3'.os.trans bW.os), g5.tape.trans (b3'.tape.trans bW.tape), g5.output.trans (b3'.output.trans bW.output), by omega, fun k hk => by rw [hset k (by omega), hk5 k (by omega) (fun e => by have := (hown k e).1; omega), b3'.block k (by omega), bW.block k hk]⟩
      · go_simp
        refine hK.out _ _ trivial (fun hHeld => ?_)
        clear hK K
        (try simp only [Act.put, List.setIfInBounds_toArray, List.set_cons_zero, List.set_cons_succ])
        refine wpAnyH_ready (rs := [0]) (by kernel_rfl) (by simp) ?_
        refine AllReadyH.cons rfl (fun K hK => ?_) AllReadyH.nil
        go_simp
        refine hK.out _ _ trivial (fun hHeld => ?_)
        clear hK K
        (try simp only [Act.put, List.setIfInBounds_toArray, List.set_cons_zero, List.set_cons_succ])
        have o3 := oO.below keepQ b3'
        have hSx : Pl.lies w3 (fun b => New W.drew w3 b ∧ IsCells w3 b) x.1.p (.slice (some ⟨gg, 0, none⟩) x.1.p.length x.1.p.length) := ⟨_, _, gg, 0, rfl, ⟨Nat.le_refl _, Nat.le_trans x.1.hh.le x.1.hh.max, .inr rfl, fun h => by cases h⟩, liesP_cells hlg⟩
        have HX : Hid (EQ x.1.p w3 (fun b => New W.drew w3 b ∧ IsCells w3 b) [.slice (some ⟨gg, 0, none⟩) x.1.p.length x.1.p.length]) := ⟨_, rfl, hSx⟩
        have HKk : Hid (∀ b, (New W.drew w3 b ∧ IsCells w3 b) → 0 ≤ b ∧ b < w3.heap.size ∧ some b ≠ pv.ownBlock) := fun b hb => ⟨Nat.zero_le _, hb.1.2, fun e => by have := (hown b e.symm).2; have h9 : W.heap.size ≤ b := hb.1.1; omega⟩
        have HO3 := hmk o3
        have hal3 := alloc_size w3 (.cells #[.slice (some ⟨gg, 0, none⟩) x.1.p.length x.1.p.length] 32)
        refine wpAnyH_ready (rs := [4]) (by kernel_rfl) (by simp) ?_
        refine AllReadyH.cons rfl (fun K hK => ?_) AllReadyH.nil
        refine step_push keepQ rfl (.tmp 7) (.tmp 10) 22 rfl 0 i0 _ 24 Tryz.underlying22 hI.out.1 hI.out.2.1 hI.out.2.2.1 hI.out.2.2.2 rfl (by decide) (by decide) pv x.1.p rfl (HO3.out.alloc keepQ _) w3.heap.size 1 (0, 0) rfl (heap_alloc_new w3 _) rfl oneQ (keepQ _ _ _ _ _ _ (fun b hb => Below.heap_alloc w3 _ b (HKk.out b hb).2.1) (fun _ h => h) HX.out) (fun b hb => ⟨(HKk.out b hb).1, by rw [alloc_size]; have := (HKk.out b hb).2.1; omega, (HKk.out b hb).2.2⟩) (by simp; omega) (Nat.zero_le _) ?_
        intro g cap w5 o5 g5 e5
        rw [List.length_map] at o5 ⊢
        have hz5 := g5.size
        have hgB : w.heap.size + 1 ≤ g := by
          rcases e5 with e | e
          · exact (hown g e).1
          · rw [hal3] at e; omega
        have hk5 : ∀ k, k < w3.heap.size → pv.ownBlock ≠ some k → w5.heap[k]? = w3.heap[k]? := fun k hk hne => (g5.block k (by omega) (fun e => hne e.symm)).trans (Below.heap_alloc w3 _ k hk)
        have hpb0 : pv.ownBlock ≠ some w.heap.size := fun e => by have := (hown _ e).1; omega
        have b15 := (hk5 w.heap.size (by omega) hpb0).trans b13
        have c5 : w5.cell? ⟨w.heap.size, 0, none⟩ = some pv := by rw [cell_of_block b15]; rfl
        have f5 := frozen_of_block b15 0
        refine hK.out _ _ trivial (fun hHeld => ?_)
        clear hK K
        (try simp only [Act.put, List.setIfInBounds_toArray, List.set_cons_zero, List.set_cons_succ])
        refine wpAnyH_ready (rs := [5]) (by kernel_rfl) (by simp) ?_
        refine AllReadyH.cons rfl (fun K hK => ?_) AllReadyH.nil
        go_simp
        refine hK.out _ _ trivial (fun hHeld => ?_)
        clear hK K
        (try simp only [Act.put, List.setIfInBounds_toArray, List.set_cons_zero, List.set_cons_succ])
        refine wpAnyH_done (by kernel_rfl) ?_ _
        (try dsimp only [Act.put, List.getElem_toArray, List.getElem_cons_succ, List.getElem_cons_zero, List.setIfInBounds_toArray, List.set_cons_zero, List.set_cons_succ])
        have hset : ∀ k, k ≠ w.heap.size → (w5.setCell ⟨w.heap.size, 0, none⟩ (.slice (some ⟨g, 0, none⟩) (pre.length + 1) cap)).heap[k]? = w5.heap[k]? := fun k hk => set_other hk
        have hsz6 := size_set1 w5 w.heap.size 0 (.slice (some ⟨g, 0, none⟩) (pre.length + 1) cap)
        have hownc : ∀ k, pv.ownBlock = some k → ∃ o : Obj, W.heap[k]? = some o ∧ o.isCells = true := fun k e => by
          obtain ⟨⟨ys, q1, _⟩, _⟩ := oO
          rcases q1.2 with ⟨rfl, _⟩ | ⟨g', cap', cur, rfl, _, hgg, _⟩
          · simp [Value.ownBlock] at e
          · simp only [Value.ownBlock, Option.some.injEq] at e
            subst e
            exact ⟨_, hgg, rfl⟩
        refine ⟨⟨by omega, fun k o hk ho hc => ?_⟩, ⟨?_, ?_, ?_, by omega, fun k hk hne => ?_⟩, ?_⟩
        · have hkW : k < W.heap.size := (Array.getElem?_eq_some_iff.1 ho).1
          rw [hset k (by omega), hk5 k (by omega) (fun e => by obtain ⟨o', h1, h2⟩ := hownc k e; rw [ho] at h1; cases h1; rw [hc] at h2; cases h2), b3'.block k hkW]
          exact ho
        · exact g5.os.trans b3'.os
        · exact g5.tape.trans b3'.tape
        · exact g5.output.trans b3'.output
        · rw [hset k hne, hk5 k (by omega) (fun e => by have := (hown k e).1; omega), b3'.block k (by omega)]
        · have hnS : ¬ (SP w.heap.size ∨ (New W.drew w3 w.heap.size ∧ IsCells w3 w.heap.size)) := fun h => h.elim (fun h => by have := (HSP _ h).1; omega) (fun h => by have h9 : W.heap.size ≤ w.heap.size := h.1.1; omega)
          refine ⟨_, fun b => SP b ∨ (New W.drew w3 b ∧ IsCells w3 b), by rw [set_block b15]; rfl, ?_, fun r e => by (simp [Value.ownBlock] at e; omega), fun b hb => ⟨?_, ?_⟩, ?_⟩
          · have o6 := o5.set0 keepQ hnS (fun e => by simp [Value.ownBlock] at e; omega) 0 (.slice (some ⟨g, 0, none⟩) (pre.length + 1) cap)
            rw [List.map_append]
            exact o6
          · exact hb.elim (fun h => (HSP b h).1) (fun h => by have h9 : W.heap.size ≤ b := h.1.1; omega)
          · rcases hb with h | h
            · have ho := oO.off b h
              exact isCells_keep (HSP b h).2 (by rw [hset b (by have := (HSP b h).1; omega), hk5 b (by omega) (fun e => ho.2.2 e.symm), b3'.block b ho.2.1])
            · have h9 : W.heap.size ≤ b := h.1.1
              exact isCells_keep h.2 (by rw [hset b (by omega), hk5 b h.1.2 (fun e => by have := (hown b e).2; omega)])
          · exact ⟨g5.os.trans (b3'.os.trans bW.os), g5.tape.trans (b3'.tape.trans bW.tape), g5.output.trans (b3'.output.trans bW.output), by omega, fun k hk => by rw [hset k (by omega), hk5 k (by omega) (fun e => by have := (hown k e).1; omega), b3'.block k (by omega), bW.block k hk]⟩
  case done =>
    rintro D ys W hD hys ⟨pv, SP, b1, oO, HO, HSP, bW⟩ hK
    have hRR : ys.map (fun x => x.1.p) = xs.map PC.p := by
      have := congrArg (List.map PC.p) hys
      rw [List.map_map] at this
      exact this
    rw [hRR] at oO
    obtain ⟨sa, sc, sb, so, rfl, hdl, hLs⟩ := own_listQ (T := New w W) oO (fun b hb => ⟨by have := (HSP b hb).1; omega, (oO.off b hb).2.1⟩) (fun g hg => ⟨by have := HO g hg; omega, (oO.lt hg).2⟩)
    have HLs := hmk hLs
    have HHd := hmk hdl
    have c0 : W.cell? ⟨w.heap.size, 0, none⟩ = some (.slice sa (xs.map PC.p).length sc) := by rw [cell_of_block b1]; rfl
    generalize xs.map PC.p = RR at *
    clear hLs hdl oO
    gi_wp2
    refine ⟨by simp, .inl ⟨_, _, rfl, run_takeDeferred hK, ?_⟩⟩
    have hoth : ∀ k, k ≠ D → (W.putObj D (.deferred none)).heap[k]? = W.heap[k]? := fun k hk => World.putObj_heap_other hk
    have c4 : (W.putObj D (.deferred none)).cell? ⟨w.heap.size, 0, none⟩ = some (.slice sa RR.length sc) := (World.cell?_of_block (hoth w.heap.size (by omega))).trans c0
    refine ⟨.slice sa RR.length sc, ?_, ?_⟩
    · simp [results, Tryz.f44, go_sem, c4]
    · refine ⟨sa, sc, sb, so, rfl, HHd.out, liesQ_keep (fun b hb => hoth b ?_) (fun b hb => ⟨hb.1.1, ?_⟩) (liesQ_cells HLs.out), ?_⟩
      · intro e
        obtain ⟨o, h1, h2⟩ := hb.2
        rw [e, hK] at h1
        cases h1
        cases h2
      · exact ⟨bW.os, bW.tape, bW.output, by rw [World.putObj_size]; exact bW.size, fun k hk => (hoth k (by omega)).trans (bW.block k hk)⟩
      · have h9 : b < W.heap.size := hb.1.2
        rw [World.putObj_size]
        exact h9
  case stop =>
    rintro D c pre W _ _ h _
    exact h.elim
end Go.Proofs.YthlhkhcbkgbhfaaGreatDoor
