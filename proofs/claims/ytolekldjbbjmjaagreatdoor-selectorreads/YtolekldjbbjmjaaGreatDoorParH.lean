import Derived.Test.YtolekldjbbjmjaaGreatDoorParG
/- the selector's reader: term. -/
set_option linter.unusedSimpArgs false
set_option linter.unusedVariables false
namespace Go.Proofs.YtolekldjbbjmjaaGreatDoor
open Go.RowKit Go.Lib
def termF (l : List UInt8) (k : Nat) : Option Trm × Nat :=
  match wrdF l 1 (tkN l k [33]) with
  | none => (none, tkN l k [33])
  | some (x, k2) => if tkB l k [33] = true then (some (x, 2, []), k2) else match (condF l k2).1 with
    | some (op, vs) => (some (x, op, vs), (condF l k2).2)
    | none => (none, (condF l k2).2)
theorem termF_none {l : List UInt8} {k : Nat} (h : wrdF l 1 (tkN l k [33]) = none) : termF l k = (none, tkN l k [33]) := by rw [termF, h]
theorem termF_not {l : List UInt8} {k k2 : Nat} {x : ByteArray} (h : wrdF l 1 (tkN l k [33]) = some (x, k2)) (h2 : tkB l k [33] = true) : termF l k = (some (x, 2, []), k2) := by rw [termF, h]; simp only []; rw [if_pos h2]
theorem termF_some {l : List UInt8} {k k2 : Nat} {x : ByteArray} {op : Int} {vs : List ByteArray} (h : wrdF l 1 (tkN l k [33]) = some (x, k2)) (h2 : tkB l k [33] = false) (h3 : (condF l k2).1 = some (op, vs)) : termF l k = (some (x, op, vs), (condF l k2).2) := by rw [termF, h]; simp only []; rw [if_neg (by rw [h2]; decide), h3]
theorem termF_bad {l : List UInt8} {k k2 : Nat} {x : ByteArray} (h : wrdF l 1 (tkN l k [33]) = some (x, k2)) (h2 : tkB l k [33] = false) (h3 : (condF l k2).1 = none) : termF l k = (none, (condF l k2).2) := by rw [termF, h]; simp only []; rw [if_neg (by rw [h2]; decide), h3]
def TmPost (R : Option Trm × Nat) (g : Nat) (s : ByteArray) (w : World) (e : Ending) (w' : World) : Prop :=
  (∃ (key : ByteArray) (op : Int) (vs : List ByteArray) (a : Option Addr) (c b o : Nat), R.1 = some (key, op, vs) ∧ e = .returned (.tuple #[.agg #[.string key, .int .i64 op, .slice a vs.length c], .bool true]) ∧ key.size ≤ 64 ∧ Headed a vs.length c b o ∧ liesS w' (New w w') vs b o ∧ vs.length ≤ s.size + 1 ∧ 1 ≤ op ∧ op ≤ 4 ∧ RdP g s w w' R.2) ∨ (R.1 = none ∧ ∃ (key : ByteArray) (op : Int), e = .returned (.tuple #[.agg #[.string key, .int .i64 op, .slice none 0 0], .bool false]) ∧ RdP g s w w' R.2)
abbrev z35 : Obj := .cells #[.string ⟨#[]⟩, .int .i64 0, .slice none 0 0] 35
theorem st3_grown (W : World) (g : Nat) (v0 v1 v2 : Value) : W.grownBy (((W.setCell ⟨g, 0, none⟩ v0).setCell ⟨g, 1, none⟩ v1).setCell ⟨g, 2, none⟩ v2) (some g) :=
  grown_set (grown_set (grown_set (World.grownBy.refl _ _) _ _) _ _) _ _
theorem RdP.box3 {g : Nat} {s : ByteArray} {w W : World} {k r : Nat} (h : RdP g s w W k) (hr : w.heap.size ≤ r) (hg : g < w.heap.size) (v0 v1 v2 : Value) : RdP g s w (((W.setCell ⟨r, 0, none⟩ v0).setCell ⟨r, 1, none⟩ v1).setCell ⟨r, 2, none⟩ v2) k :=
  h.far (st3_grown W r v0 v1 v2) (fun y hy => by cases hy; exact hr) hg
theorem lies_far {W W' : World} {S : Nat → Prop} {vs : List ByteArray} {b o r : Nat} (h : liesS W S vs b o) (gr : W.grownBy W' (some r)) (hr : ∀ y, S y → y < W.heap.size ∧ y ≠ r) : liesS W' S vs b o :=
  h.keep (fun y hy => gr.block y (hr y hy).1 (fun e => (hr y hy).2 (Option.some.inj e))) (fun _ h => h)
set_option maxHeartbeats 8000000 in
set_option maxRecDepth 100000 in
theorem term_at (g : Nat) (s : ByteArray) (k : Nat) (w : World) (h : PB g s k w) (t : Tp w) (hs : s.size ≤ 1048576) (hk : k ≤ s.size) (hg : 4 < g) :
    Calls Tryz.prog 56 #[.pointer (some ⟨g, 0, none⟩)] w (TmPost (termF s.data.toList k) g s w) := by
  have hlt := h.lt
  have bA : Below w.heap.size w (w.alloc z35) := (Below.refl _ _).alloc (Nat.le_refl _) _
  have nb := heap_alloc_new w z35
  have hbsz : w.heap.size < (w.alloc z35).heap.size := by rw [alloc_size]; omega
  have RA : RdP g s w (w.alloc z35) k := ⟨hk, h.keep bA, grown_below bA⟩
  have HT := hmk t
  have KA : Hid (∀ W k', RdP g s (w.alloc z35) W k' → RdP g s w W k' ∧ W.heap[w.heap.size]? = some z35 ∧ Tp W) := fun W k' r =>
    ⟨RA.trans r, (r.gr.block _ hbsz (fun e => by have := Option.some.inj e; omega)).trans nb, HT.out.grown (RA.trans r).gr hg⟩
  have CT : Hid (∀ W k, RdP g s w W k → Calls Tryz.prog 57 #[.pointer (some ⟨g, 0, none⟩), .string ⟨#[33]⟩] W (TkPost s.data.toList k [33] g s W)) := fun W k r => ptk g s _ k [33] W r.pb (by omega) r.le rfl (by decide) (by decide)
  have CW : Hid (∀ W k, RdP g s w W k → Calls Tryz.prog 73 #[.pointer (some ⟨g, 0, none⟩), .int .i64 1] W (StP (wrdF s.data.toList 1 k) g s k W)) := fun W k r => word_at g s k 1 W r.pb (HT.out.grown r.gr hg) (by omega) r.le hg (by omega)
  have CC : Hid (∀ W k, RdP g s w W k → Calls Tryz.prog 74 #[.pointer (some ⟨g, 0, none⟩)] W (CdPost (condF s.data.toList k) g s W)) := fun W k r => condition_at g s k W r.pb (HT.out.grown r.gr hg) hs r.le hg
  obtain ⟨RES, hRES⟩ : ∃ RES, RES = termF s.data.toList k := ⟨_, rfl⟩
  rw [← hRES]
  have HR : Hid (RES = termF s.data.toList k) := hRES
  have HRA := hmk (RdP.refl RA.pb hk)
  have RA2 := RA
  clear h t hRES bA nb RA
  go_enter Tryz.func56, Tryz.ntmps56
  go_wp2_with fail
  refine (CT.out _ _ RA2).mono ?_
  rintro e w1 (⟨hT, rfl, r1⟩ | ⟨hT, rfl, r1⟩)
  · have r1 : RdP g s (w.alloc z35) w1 (skp s.data.toList (k + 1)) := r1
    have hn : tkN s.data.toList k [33] = skp s.data.toList (k + 1) := by unfold tkN; rw [if_pos hT]; rfl
    obtain ⟨R1, N1, t1⟩ := KA.out w1 _ r1
    have HTT := hmk hT
    clear hT
    go_wp2_with fail
    refine (CW.out _ _ R1).mono ?_
    rintro e w2 (⟨x, k2, hx, hx64, hk2, rfl, r2⟩ | ⟨hx, rfl, r2⟩)
    · obtain ⟨R2, N2, t2⟩ := KA.out w2 _ (r1.trans r2)
      have HX : Hid (RES = (some (x, 2, []), k2)) := by show _ = _; rw [HR.out, termF_not (by rw [hn]; exact hx) HTT.out]
      clear hx R1 N1 t1 r1 r2
      have q0 : w2.cell? ⟨w.heap.size, 0, none⟩ = some (.string ⟨#[]⟩) := cell_of_block N2 0
      have q1 : w2.cell? ⟨w.heap.size, 1, none⟩ = some (.int .i64 0) := cell_of_block N2 1
      have q2 : w2.cell? ⟨w.heap.size, 2, none⟩ = some (.slice none 0 0) := cell_of_block N2 2
      have kf : ∀ ii, w2.frozen? ⟨w.heap.size, ii, none⟩ = false := frozen_of_block N2
      have RF := hmk (R2.box3 (Nat.le_refl _) hlt (.string x) (.int .i64 2) (.slice none 0 0))
      clear N2
      go_wp2_with fail
      (try simp only [Exit.inBlock, Exit.then])
      refine bodyPost_ret (v := .tuple #[.agg #[.string x, .int .i64 2, .slice none 0 0], .bool true]) ?_ rfl (.inl ⟨x, 2, [], none, 0, 0, 0, by rw [HX.out], rfl, hx64, head_nilS, fun j hj => by simp at hj, by simp, by omega, by omega, by rw [HX.out]; exact RF.out⟩)
      rw [results_cell_tmp rfl]
      go_simp
    · obtain ⟨R2, N2, t2⟩ := KA.out w2 _ (r1.trans r2)
      have HX : Hid (RES = (none, skp s.data.toList (k + 1))) := by show _ = _; rw [HR.out, termF_none (by rw [hn]; exact hx), hn]
      clear hx R1 N1 t1 r1 r2
      have q0 : w2.cell? ⟨w.heap.size, 0, none⟩ = some (.string ⟨#[]⟩) := cell_of_block N2 0
      have q1 : w2.cell? ⟨w.heap.size, 1, none⟩ = some (.int .i64 0) := cell_of_block N2 1
      have q2 : w2.cell? ⟨w.heap.size, 2, none⟩ = some (.slice none 0 0) := cell_of_block N2 2
      have kf : ∀ ii, w2.frozen? ⟨w.heap.size, ii, none⟩ = false := frozen_of_block N2
      have RF := hmk (R2.box3 (Nat.le_refl _) hlt (.string ⟨#[]⟩) (.int .i64 0) (.slice none 0 0))
      clear N2
      go_wp2_with fail
      (try simp only [Exit.inBlock, Exit.then])
      refine bodyPost_ret (v := .tuple #[.agg #[.string ⟨#[]⟩, .int .i64 0, .slice none 0 0], .bool false]) ?_ rfl (.inr ⟨by rw [HX.out], ⟨#[]⟩, 0, rfl, by rw [HX.out]; exact RF.out⟩)
      rw [results_cell_tmp rfl]
      go_simp
  · have hn : tkN s.data.toList k [33] = k := by unfold tkN; rw [if_neg (by rw [hT]; decide)]
    obtain ⟨R1, N1, t1⟩ := KA.out w1 _ r1
    have HTT := hmk hT
    clear hT
    go_wp2_with fail
    refine (CW.out _ _ R1).mono ?_
    rintro e w2 (⟨x, k2, hx, hx64, hk2, rfl, r2⟩ | ⟨hx, rfl, r2⟩)
    · have r12 := r1.trans r2
      obtain ⟨R2, N2, t2⟩ := KA.out w2 _ r12
      have hx' := hmk hx
      clear hx R1 N1 t1 r1 r2 N2 t2
      go_wp2_with fail
      refine (CC.out _ _ R2).mono ?_
      rintro e w3 (⟨op, vs, a, c, b, o, h1, rfl, h3, h4, h5, h6, h7, r3⟩ | ⟨h1, op, rfl, r3⟩)
      · have HX : Hid (RES = (some (x, op, vs), (condF s.data.toList k2).2)) := by show _ = _; rw [HR.out, termF_some (by rw [hn]; exact hx'.out) HTT.out h1]
        obtain ⟨R3, N3, t3⟩ := KA.out w3 _ (r12.trans r3)
        have hz2 := r12.gr.size
        clear r3 R2 h1
        generalize (condF s.data.toList k2).2 = k3 at *
        have q0 : w3.cell? ⟨w.heap.size, 0, none⟩ = some (.string ⟨#[]⟩) := cell_of_block N3 0
        have q1 : w3.cell? ⟨w.heap.size, 1, none⟩ = some (.int .i64 0) := cell_of_block N3 1
        have q2 : w3.cell? ⟨w.heap.size, 2, none⟩ = some (.slice none 0 0) := cell_of_block N3 2
        have kf : ∀ ii, w3.frozen? ⟨w.heap.size, ii, none⟩ = false := frozen_of_block N3
        have RF := hmk (R3.box3 (Nat.le_refl _) hlt (.string x) (.int .i64 op) (.slice a vs.length c))
        have hwA : w.heap.size + 1 ≤ w2.heap.size := by rw [alloc_size] at hz2; exact hz2
        have gr3 := st3_grown w3 w.heap.size (.string x) (.int .i64 op) (.slice a vs.length c)
        have HL : Hid (liesS (((w3.setCell ⟨w.heap.size, 0, none⟩ (.string x)).setCell ⟨w.heap.size, 1, none⟩ (.int .i64 op)).setCell ⟨w.heap.size, 2, none⟩ (.slice a vs.length c)) (New w (((w3.setCell ⟨w.heap.size, 0, none⟩ (.string x)).setCell ⟨w.heap.size, 1, none⟩ (.int .i64 op)).setCell ⟨w.heap.size, 2, none⟩ (.slice a vs.length c))) vs b o) :=
          (lies_far h4 gr3 (fun y hy => ⟨hy.2, by have := hy.1; omega⟩)).keep (fun _ _ => rfl) (fun y hy => ⟨by have := hy.1; omega, Nat.lt_of_lt_of_le hy.2 gr3.size⟩)
        clear N3 h4 gr3 hz2
        go_wp2_with fail
        (try simp only [Exit.inBlock, Exit.then])
        refine bodyPost_ret (v := .tuple #[.agg #[.string x, .int .i64 op, .slice a vs.length c], .bool true]) ?_ rfl (.inl ⟨x, op, vs, a, c, b, o, by rw [HX.out], rfl, hx64, h3, HL.out, h5, h6, h7, by rw [HX.out]; exact RF.out⟩)
        rw [results_cell_tmp rfl]
        go_simp
      · have HX : Hid (RES = (none, (condF s.data.toList k2).2)) := by show _ = _; rw [HR.out, termF_bad (by rw [hn]; exact hx'.out) HTT.out h1]
        obtain ⟨R3, N3, t3⟩ := KA.out w3 _ (r12.trans r3)
        clear r3 R2 h1
        generalize (condF s.data.toList k2).2 = k3 at *
        have q0 : w3.cell? ⟨w.heap.size, 0, none⟩ = some (.string ⟨#[]⟩) := cell_of_block N3 0
        have q1 : w3.cell? ⟨w.heap.size, 1, none⟩ = some (.int .i64 0) := cell_of_block N3 1
        have q2 : w3.cell? ⟨w.heap.size, 2, none⟩ = some (.slice none 0 0) := cell_of_block N3 2
        have kf : ∀ ii, w3.frozen? ⟨w.heap.size, ii, none⟩ = false := frozen_of_block N3
        have RF := hmk (R3.box3 (Nat.le_refl _) hlt (.string x) (.int .i64 op) (.slice none 0 0))
        clear N3
        go_wp2_with fail
        (try simp only [Exit.inBlock, Exit.then])
        refine bodyPost_ret (v := .tuple #[.agg #[.string x, .int .i64 op, .slice none 0 0], .bool false]) ?_ rfl (.inr ⟨by rw [HX.out], x, op, rfl, by rw [HX.out]; exact RF.out⟩)
        rw [results_cell_tmp rfl]
        go_simp
    · obtain ⟨R2, N2, t2⟩ := KA.out w2 _ (r1.trans r2)
      have HX : Hid (RES = (none, k)) := by show _ = _; rw [HR.out, termF_none (by rw [hn]; exact hx), hn]
      clear hx R1 N1 t1 r1 r2
      have q0 : w2.cell? ⟨w.heap.size, 0, none⟩ = some (.string ⟨#[]⟩) := cell_of_block N2 0
      have q1 : w2.cell? ⟨w.heap.size, 1, none⟩ = some (.int .i64 0) := cell_of_block N2 1
      have q2 : w2.cell? ⟨w.heap.size, 2, none⟩ = some (.slice none 0 0) := cell_of_block N2 2
      have kf : ∀ ii, w2.frozen? ⟨w.heap.size, ii, none⟩ = false := frozen_of_block N2
      have RF := hmk (R2.box3 (Nat.le_refl _) hlt (.string ⟨#[]⟩) (.int .i64 0) (.slice none 0 0))
      clear N2
      go_wp2_with fail
      (try simp only [Exit.inBlock, Exit.then])
      refine bodyPost_ret (v := .tuple #[.agg #[.string ⟨#[]⟩, .int .i64 0, .slice none 0 0], .bool false]) ?_ rfl (.inr ⟨by rw [HX.out], ⟨#[]⟩, 0, rfl, by rw [HX.out]; exact RF.out⟩)
      rw [results_cell_tmp rfl]
      go_simp
end Go.Proofs.YtolekldjbbjmjaaGreatDoor
