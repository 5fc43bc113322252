import Derived.Test.YtihcggepeadklaaGreatDoorG29
/- path's reader: elem. -/
set_option linter.unusedSimpArgs false
set_option linter.unusedVariables false
namespace Go.Proofs.YtihcggepeadklaaGreatDoor
open Go.RowKit Go.Lib
abbrev z48 : Obj := .cells #[.int .i64 0, .string ⟨#[]⟩, .slice none 0 0, .int .i64 0, .bool false, .int .i64 0, .string ⟨#[]⟩, .slice none 0 0, .slice none 0 0] 48
/-- an element was read, or not -/
def EmP (R : Option (El × Nat)) (g : Nat) (s : ByteArray) (w : World) (e : Ending) (w' : World) : Prop :=
  (∃ x k1 cs, R = some (x, k1) ∧ e = .returned (.tuple #[.agg cs.toArray, .bool true]) ∧ x.lies w' (New w w') cs ∧ RdP g s w w' k1) ∨ (R = none ∧ ∃ ek es ea en ec fk fb fi fs fa fn fc ga gn gc k1, e = .returned (.tuple #[.agg #[.int .i64 ek, .string es, .slice ea en ec, .int .i64 fk, .bool fb, .int .i64 fi, .string fs, .slice fa fn fc, .slice ga gn gc], .bool false]) ∧ RdP g s w w' k1)
theorem st9_grownZ (W : World) (g : Nat) (v0 v1 v2 v3 v4 v5 v6 v7 v8 : Value) : W.grownBy (((((((((W.setCell ⟨g, 0, none⟩ v0).setCell ⟨g, 1, none⟩ v1).setCell ⟨g, 2, none⟩ v2).setCell ⟨g, 3, none⟩ v3).setCell ⟨g, 4, none⟩ v4).setCell ⟨g, 5, none⟩ v5).setCell ⟨g, 6, none⟩ v6).setCell ⟨g, 7, none⟩ v7).setCell ⟨g, 8, none⟩ v8) (some g) :=
  grown_set (grown_set (grown_set (grown_set (grown_set (grown_set (grown_set (grown_set (grown_set (World.grownBy.refl _ _) _ _) _ _) _ _) _ _) _ _) _ _) _ _) _ _) _ _
theorem RdP.box9 {g : Nat} {s : ByteArray} {w W : World} {k r : Nat} (h : RdP g s w W k) (hr : w.heap.size ≤ r) (hg : g < w.heap.size) (v0 v1 v2 v3 v4 v5 v6 v7 v8 : Value) : RdP g s w (((((((((W.setCell ⟨r, 0, none⟩ v0).setCell ⟨r, 1, none⟩ v1).setCell ⟨r, 2, none⟩ v2).setCell ⟨r, 3, none⟩ v3).setCell ⟨r, 4, none⟩ v4).setCell ⟨r, 5, none⟩ v5).setCell ⟨r, 6, none⟩ v6).setCell ⟨r, 7, none⟩ v7).setCell ⟨r, 8, none⟩ v8) k :=
  h.far hr hg (st9_grownZ W r v0 v1 v2 v3 v4 v5 v6 v7 v8)
theorem headN : Headed none 0 0 0 0 := ⟨Nat.le_refl _, Nat.zero_le _, .inl rfl, fun _ => rfl⟩
theorem lies_fld {nm : ByteArray} (h : nm.size ≤ maxLen) (w : World) (S : Nat → Prop) : El.lies w S ⟨1, nm, [], nilW⟩ [.int .i64 1, .string nm, .slice none 0 0, .int .i64 0, .bool false, .int .i64 0, .string ⟨#[]⟩, .slice none 0 0, .slice none 0 0] :=
  ⟨none, 0, 0, 0, _, rfl, ⟨by show (-9223372036854775808 : Int) ≤ 1; omega, by show (1 : Int) ≤ 9223372036854775807; omega⟩, h, headN, by show liesM false w S [] 0 0; rw [liesM]; trivial, lies_sca In64.zero In64.zero (Nat.zero_le _) _ _⟩
theorem lies_itm {vk : Int} {vb : Bool} {vi : Int} {vs : ByteArray} (h1 : In64 vk) (h2 : In64 vi) (h3 : vs.size ≤ maxLen) (w : World) (S : Nat → Prop) : El.lies w S ⟨3, ⟨#[]⟩, [], .mk vk vb vi vs [] []⟩ [.int .i64 3, .string ⟨#[]⟩, .slice none 0 0, .int .i64 vk, .bool vb, .int .i64 vi, .string vs, .slice none 0 0, .slice none 0 0] :=
  ⟨none, 0, 0, 0, _, rfl, ⟨by show (-9223372036854775808 : Int) ≤ 3; omega, by show (3 : Int) ≤ 9223372036854775807; omega⟩, Nat.zero_le _, headN, by show liesM false w S [] 0 0; rw [liesM]; trivial, lies_sca h1 h2 h3 _ _⟩
theorem lies_key {m : List Mem} {am : Option Addr} {cm bm om : Nat} {w : World} {S : Nat → Prop} (h1 : Headed am m.length cm bm om) (h2 : liesM false w S m bm om) : El.lies w S ⟨2, ⟨#[]⟩, m, nilW⟩ [.int .i64 2, .string ⟨#[]⟩, .slice am m.length cm, .int .i64 0, .bool false, .int .i64 0, .string ⟨#[]⟩, .slice none 0 0, .slice none 0 0] :=
  ⟨am, cm, bm, om, _, rfl, ⟨by show (-9223372036854775808 : Int) ≤ 2; omega, by show (2 : Int) ≤ 9223372036854775807; omega⟩, Nat.zero_le _, h1, h2, lies_sca In64.zero In64.zero (Nat.zero_le _) _ _⟩
theorem elm_1 {l : List UInt8} {k : Nat} (h : tkB l k [46] = true) : elmF l k = (namF l (k + 1)).map (fun x => (⟨1, x.1, [], nilW⟩, x.2)) := by rw [elmF, if_pos h]
theorem elm_2 {l : List UInt8} {k : Nat} (h : tkB l k [46] = false) (h2 : tkB l k [91, 61] = true) (h3 : scaF l (k + 2) = none) : elmF l k = none := by rw [elmF, if_neg (by rw [h]; decide), if_pos h2, h3]
theorem elm_3 {l : List UInt8} {k k1 : Nat} {v : V} (h : tkB l k [46] = false) (h2 : tkB l k [91, 61] = true) (h3 : scaF l (k + 2) = some (v, k1)) (h4 : tkB l k1 [93] = true) : elmF l k = some (⟨3, ⟨#[]⟩, [], v⟩, k1 + 1) := by rw [elmF, if_neg (by rw [h]; decide), if_pos h2, h3]; dsimp only; rw [if_pos h4]
theorem elm_4 {l : List UInt8} {k k1 : Nat} {v : V} (h : tkB l k [46] = false) (h2 : tkB l k [91, 61] = true) (h3 : scaF l (k + 2) = some (v, k1)) (h4 : tkB l k1 [93] = false) : elmF l k = none := by rw [elmF, if_neg (by rw [h]; decide), if_pos h2, h3]; dsimp only; rw [if_neg (by rw [h4]; decide)]
theorem elm_5 {l : List UInt8} {k : Nat} (h : tkB l k [46] = false) (h2 : tkB l k [91, 61] = false) (h3 : tkB l k [91] = true) : elmF l k = (keyF l 8 (k + 1) []).map (fun x => (⟨2, ⟨#[]⟩, x.1, nilW⟩, x.2)) := by rw [elmF, if_neg (by rw [h]; decide), if_neg (by rw [h2]; decide), if_pos h3]
theorem elm_6 {l : List UInt8} {k : Nat} (h : tkB l k [46] = false) (h2 : tkB l k [91, 61] = false) (h3 : tkB l k [91] = false) : elmF l k = none := by rw [elmF, if_neg (by rw [h]; decide), if_neg (by rw [h2]; decide), if_neg (by rw [h3]; decide)]
theorem liesM_far {w W : World} {m : List Mem} {bm om : Nat} {w1 W' : World} {r : Nat} (h : liesM false W (New w1 W) m bm om) (h0 : w.heap.size ≤ w1.heap.size) (hr : r < w1.heap.size) (gr : W.grownBy W' (some r)) : liesM false W' (New w W') m bm om :=
  liesM_keep (fun h => h) (fun b hb => gr.block b hb.2 (fun e => by have := Option.some.inj e; have := hb.1; omega)) (fun b hb => ⟨Nat.le_trans h0 hb.1, Nat.lt_of_lt_of_le hb.2 gr.size⟩) _ h
set_option maxHeartbeats 8000000 in
set_option maxRecDepth 100000 in
theorem pelem_any (g : Nat) (s : ByteArray) (k : Nat) (w : World) (h : PB g s k w) (t : Td w) (hs : s.size ≤ 140737488355000) (hk : k ≤ s.size) (hg : 9 < g) :
    Calls Tryz.prog 45 #[.pointer (some ⟨g, 0, none⟩)] w (EmP (elmF s.data.toList k) g s w) := by
  have hlt := h.lt
  have bA : Below w.heap.size w (w.alloc z48) := (Below.refl _ _).alloc (Nat.le_refl _) _
  have nb := heap_alloc_new w z48
  have hbsz : w.heap.size < (w.alloc z48).heap.size := by rw [alloc_size]; omega
  have RA : RdP g s w (w.alloc z48) k := ⟨hk, h.keep bA, grown_belowS bA g⟩
  have HT := hmk t
  have KA : Hid (∀ W k', RdP g s (w.alloc z48) W k' → RdP g s w W k' ∧ W.heap[w.heap.size]? = some z48 ∧ Td W ∧ w.heap.size < W.heap.size) := fun W k' r =>
    ⟨RA.trans r, (r.gr.block _ hbsz (fun e => by have := Option.some.inj e; omega)).trans nb, HT.out.grown (RA.trans r).gr hg, Nat.lt_of_lt_of_le hbsz r.gr.size⟩
  have CD : Hid (∀ W, PB g s k W → Calls Tryz.prog 68 #[.pointer (some ⟨g, 0, none⟩), .string ⟨#[46]⟩] W (TkP s.data.toList k [46] 1 g s W)) := fun W hW => ptk g s _ k _ 1 W hW hs hk rfl rfl (by decide) (by decide)
  have CE : Hid (∀ W, PB g s k W → Calls Tryz.prog 68 #[.pointer (some ⟨g, 0, none⟩), .string ⟨#[91, 61]⟩] W (TkP s.data.toList k [91, 61] 2 g s W)) := fun W hW => ptk g s _ k _ 2 W hW hs hk rfl rfl (by decide) (by decide)
  have CO : Hid (∀ W, PB g s k W → Calls Tryz.prog 68 #[.pointer (some ⟨g, 0, none⟩), .string ⟨#[91]⟩] W (TkP s.data.toList k [91] 1 g s W)) := fun W hW => ptk g s _ k _ 1 W hW hs hk rfl rfl (by decide) (by decide)
  have CB : Hid (∀ W k1, PB g s k1 W → k1 ≤ s.size → Calls Tryz.prog 68 #[.pointer (some ⟨g, 0, none⟩), .string ⟨#[93]⟩] W (TkP s.data.toList k1 [93] 1 g s W)) := fun W k1 hW hk1 => ptk g s _ k1 _ 1 W hW hs hk1 rfl rfl (by decide) (by decide)
  have CN : Hid (∀ W k1, PB g s k1 W → Td W → k1 ≤ s.size → Calls Tryz.prog 69 #[.pointer (some ⟨g, 0, none⟩)] W (StP (namF s.data.toList k1) g s W)) := fun W k1 hW tW hk1 => pname_any g s k1 W hW tW hs hk1 hg
  have CS : Hid (∀ W k1, PB g s k1 W → Td W → k1 ≤ s.size → Calls Tryz.prog 70 #[.pointer (some ⟨g, 0, none⟩)] W (ScP (scaF s.data.toList k1) g s W)) := fun W k1 hW tW hk1 => pscalar_any g s k1 W hW tW hs hk1 hg
  have CK : Hid (∀ W k1, PB g s k1 W → Td W → k1 ≤ s.size → Calls Tryz.prog 71 #[.pointer (some ⟨g, 0, none⟩)] W (KeP (keyF s.data.toList 8 k1 []) g s W)) := fun W k1 hW tW hk1 => pkey_any g s k1 W hW tW hs hk1 hg
  have HNS : Hid (∀ x k0 k1, namF s.data.toList k0 = some (x, k1) → x.size ≤ maxLen) := fun x k0 k1 hx => by have := namF_size hx; unfold maxLen; omega
  have PA := RA.pb
  clear h t bA RA nb hbsz
  go_enter Tryz.func45, Tryz.ntmps45
  go_wp2_with fail
  refine (CD.out _ PA).mono ?_
  rintro e w1 (⟨hT1, rfl, r1⟩ | ⟨hT1, rfl, r1⟩)
  · have H1 := hmk hT1
    obtain ⟨R1, N1, t1, z1⟩ := KA.out w1 _ r1
    have P1 := R1.pb
    have l1 := R1.le
    clear hT1 R1 N1
    go_wp2_with fail
    refine (CN.out _ _ P1 t1 l1).mono ?_
    rintro e w2 (⟨nm, k1, hn, rfl, r2⟩ | ⟨hn, k1, rfl, r2⟩)
    · have HN := hmk hn
      obtain ⟨R2, N2, t2, z2⟩ := KA.out w2 _ (r1.trans r2)
      clear hn r1 r2 P1 t1
      have q0 : w2.cell? ⟨w.heap.size, 0, none⟩ = some (.int .i64 0) := cell_of_block N2 0
      have q1 : w2.cell? ⟨w.heap.size, 1, none⟩ = some (.string ⟨#[]⟩) := cell_of_block N2 1
      have q2 : w2.cell? ⟨w.heap.size, 2, none⟩ = some (.slice none 0 0) := cell_of_block N2 2
      have q3 : w2.cell? ⟨w.heap.size, 3, none⟩ = some (.int .i64 0) := cell_of_block N2 3
      have q4 : w2.cell? ⟨w.heap.size, 4, none⟩ = some (.bool false) := cell_of_block N2 4
      have q5 : w2.cell? ⟨w.heap.size, 5, none⟩ = some (.int .i64 0) := cell_of_block N2 5
      have q6 : w2.cell? ⟨w.heap.size, 6, none⟩ = some (.string ⟨#[]⟩) := cell_of_block N2 6
      have q7 : w2.cell? ⟨w.heap.size, 7, none⟩ = some (.slice none 0 0) := cell_of_block N2 7
      have q8 : w2.cell? ⟨w.heap.size, 8, none⟩ = some (.slice none 0 0) := cell_of_block N2 8
      have kf : ∀ ii, w2.frozen? ⟨w.heap.size, ii, none⟩ = false := frozen_of_block N2
      have RF := hmk (R2.box9 (Nat.le_refl _) hlt (.int .i64 1) (.string nm) (.slice none 0 0) (.int .i64 0) (.bool false) (.int .i64 0) (.string ⟨#[]⟩) (.slice none 0 0) (.slice none 0 0))
      go_wp2_with fail
      (try simp only [Exit.inBlock, Exit.then])
      refine bodyPost_ret (v := .tuple #[.agg #[.int .i64 1, .string nm, .slice none 0 0, .int .i64 0, .bool false, .int .i64 0, .string ⟨#[]⟩, .slice none 0 0, .slice none 0 0], .bool true]) ?_ rfl (.inl ⟨⟨1, nm, [], nilW⟩, k1, [.int .i64 1, .string nm, .slice none 0 0, .int .i64 0, .bool false, .int .i64 0, .string ⟨#[]⟩, .slice none 0 0, .slice none 0 0], by rw [elm_1 H1.out, HN.out]; rfl, rfl, lies_fld (HNS.out nm _ k1 HN.out) _ _, RF.out⟩)
      rw [results_cell_tmp rfl]
      go_simp
    · have HN := hmk hn
      obtain ⟨R2, N2, t2, z2⟩ := KA.out w2 _ (r1.trans r2)
      clear hn r1 r2 P1 t1
      have q0 : w2.cell? ⟨w.heap.size, 0, none⟩ = some (.int .i64 0) := cell_of_block N2 0
      have q1 : w2.cell? ⟨w.heap.size, 1, none⟩ = some (.string ⟨#[]⟩) := cell_of_block N2 1
      have q2 : w2.cell? ⟨w.heap.size, 2, none⟩ = some (.slice none 0 0) := cell_of_block N2 2
      have q3 : w2.cell? ⟨w.heap.size, 3, none⟩ = some (.int .i64 0) := cell_of_block N2 3
      have q4 : w2.cell? ⟨w.heap.size, 4, none⟩ = some (.bool false) := cell_of_block N2 4
      have q5 : w2.cell? ⟨w.heap.size, 5, none⟩ = some (.int .i64 0) := cell_of_block N2 5
      have q6 : w2.cell? ⟨w.heap.size, 6, none⟩ = some (.string ⟨#[]⟩) := cell_of_block N2 6
      have q7 : w2.cell? ⟨w.heap.size, 7, none⟩ = some (.slice none 0 0) := cell_of_block N2 7
      have q8 : w2.cell? ⟨w.heap.size, 8, none⟩ = some (.slice none 0 0) := cell_of_block N2 8
      have kf : ∀ ii, w2.frozen? ⟨w.heap.size, ii, none⟩ = false := frozen_of_block N2
      have RF := hmk (R2.box9 (Nat.le_refl _) hlt (.int .i64 1) (.string ⟨#[]⟩) (.slice none 0 0) (.int .i64 0) (.bool false) (.int .i64 0) (.string ⟨#[]⟩) (.slice none 0 0) (.slice none 0 0))
      go_wp2_with fail
      (try simp only [Exit.inBlock, Exit.then])
      refine bodyPost_ret (v := .tuple #[.agg #[.int .i64 1, .string ⟨#[]⟩, .slice none 0 0, .int .i64 0, .bool false, .int .i64 0, .string ⟨#[]⟩, .slice none 0 0, .slice none 0 0], .bool false]) ?_ rfl (.inr ⟨by rw [elm_1 H1.out, HN.out]; rfl, 1, ⟨#[]⟩, none, 0, 0, 0, false, 0, ⟨#[]⟩, none, 0, 0, none, 0, 0, k1, rfl, RF.out⟩)
      rw [results_cell_tmp rfl]
      go_simp
  have H1 := hmk hT1
  have P1 := r1.pb
  clear hT1 PA
  go_wp2_with fail
  refine (CE.out _ P1).mono ?_
  rintro e w2 (⟨hT2, rfl, r2⟩ | ⟨hT2, rfl, r2⟩)
  · have H2 := hmk hT2
    obtain ⟨R2, N2, t2, z2⟩ := KA.out w2 _ (r1.trans r2)
    have P2 := R2.pb
    have l2 := R2.le
    clear hT2 R2 N2 P1
    go_wp2_with fail
    refine (CS.out _ _ P2 t2 l2).mono ?_
    rintro e w3 (⟨vk, vb, vi, vs, k3, hq, rfl, i1, i2, i3, r3⟩ | ⟨hq, vk, vb, vi, vs, k3, rfl, r3⟩)
    · have HQ := hmk hq
      have HI := hmk (And.intro i1 (And.intro i2 i3))
      have r4 := (r1.trans r2).trans (r3.allo (.cells #[.int .i64 vk, .bool vb, .int .i64 vi, .string vs, .slice none 0 0, .slice none 0 0] 46))
      have nB := heap_alloc_new w3 (.cells #[.int .i64 vk, .bool vb, .int .i64 vi, .string vs, .slice none 0 0, .slice none 0 0] 46)
      have HZ3a := hmk (KA.out _ _ ((r1.trans r2).trans r3)).1.gr.size
      clear hq i1 i2 i3 r1 r2 r3 P2 t2
      go_wp2_with fail
      generalize (w3.alloc (.cells #[.int .i64 vk, .bool vb, .int .i64 vi, .string vs, .slice none 0 0, .slice none 0 0] 46)) = w4 at *
      have hw34 : w3.heap.size < w4.heap.size := by
        rcases Nat.lt_or_ge w3.heap.size w4.heap.size with h | h
        · exact h
        · rw [Array.getElem?_eq_none h] at nB; cases nB
      have HR4 := hmk r4
      have HZ3 : Hid (g < w3.heap.size) := Nat.lt_of_lt_of_le hlt HZ3a.out
      obtain ⟨R4, N4, t4, z4⟩ := KA.out _ _ r4
      have x0 : w4.cell? ⟨w3.heap.size, 0, none⟩ = some (.int .i64 vk) := cell_of_block nB 0
      have x1 : w4.cell? ⟨w3.heap.size, 1, none⟩ = some (.bool vb) := cell_of_block nB 1
      have x2 : w4.cell? ⟨w3.heap.size, 2, none⟩ = some (.int .i64 vi) := cell_of_block nB 2
      have x3 : w4.cell? ⟨w3.heap.size, 3, none⟩ = some (.string vs) := cell_of_block nB 3
      have x4 : w4.cell? ⟨w3.heap.size, 4, none⟩ = some (.slice none 0 0) := cell_of_block nB 4
      have x5 : w4.cell? ⟨w3.heap.size, 5, none⟩ = some (.slice none 0 0) := cell_of_block nB 5
      have q0 : w4.cell? ⟨w.heap.size, 0, none⟩ = some (.int .i64 0) := cell_of_block N4 0
      have q1 : w4.cell? ⟨w.heap.size, 1, none⟩ = some (.string ⟨#[]⟩) := cell_of_block N4 1
      have q2 : w4.cell? ⟨w.heap.size, 2, none⟩ = some (.slice none 0 0) := cell_of_block N4 2
      have q3 : w4.cell? ⟨w.heap.size, 3, none⟩ = some (.int .i64 0) := cell_of_block N4 3
      have q4 : w4.cell? ⟨w.heap.size, 4, none⟩ = some (.bool false) := cell_of_block N4 4
      have q5 : w4.cell? ⟨w.heap.size, 5, none⟩ = some (.int .i64 0) := cell_of_block N4 5
      have q6 : w4.cell? ⟨w.heap.size, 6, none⟩ = some (.string ⟨#[]⟩) := cell_of_block N4 6
      have q7 : w4.cell? ⟨w.heap.size, 7, none⟩ = some (.slice none 0 0) := cell_of_block N4 7
      have q8 : w4.cell? ⟨w.heap.size, 8, none⟩ = some (.slice none 0 0) := cell_of_block N4 8
      have kf : ∀ ii, w4.frozen? ⟨w.heap.size, ii, none⟩ = false := frozen_of_block N4
      clear r4 R4 N4 t4 z4
      cases hT : tkB s.data.toList k3 [93] with
      | true =>
        have HB := hmk hT
        have C5 : Hid (∀ W, PB g s k3 W → Calls Tryz.prog 68 #[.pointer (some ⟨g, 0, none⟩), .string ⟨#[93]⟩] W fun e w' => e = .returned (.bool true) ∧ RdP g s W w' (k3 + 1)) := fun W hW => (CB.out W k3 hW HR4.out.le).mono (by
          rintro e w' (⟨h1, h2, h3⟩ | ⟨h1, h2, h3⟩)
          · exact ⟨h2, h3⟩
          · rw [HB.out] at h1; cases h1)
        clear hT
        go_region_with (go_at_call 68; refine (C5.out _ HR4.out.drew.pb).mono ?_; rintro e w5 ⟨rfl, r5⟩; have hr5 := (HR4.out.drew).trans r5; obtain ⟨R5, N5, t5, z5⟩ := KA.out w5 _ hr5; have n5 : w5.heap[w3.heap.size]? = some (.cells #[.int .i64 vk, .bool vb, .int .i64 vi, .string vs, .slice none 0 0, .slice none 0 0] 46 (0, 0)) := (r5.gr.block _ hw34 (fun e => by have := Option.some.inj e; have := HZ3.out; omega)).trans nB; have y0 : w5.cell? ⟨w3.heap.size, 0, none⟩ = some (.int .i64 vk) := cell_of_block n5 0; have y1 : w5.cell? ⟨w3.heap.size, 1, none⟩ = some (.bool vb) := cell_of_block n5 1; have y2 : w5.cell? ⟨w3.heap.size, 2, none⟩ = some (.int .i64 vi) := cell_of_block n5 2; have y3 : w5.cell? ⟨w3.heap.size, 3, none⟩ = some (.string vs) := cell_of_block n5 3; have y4 : w5.cell? ⟨w3.heap.size, 4, none⟩ = some (.slice none 0 0) := cell_of_block n5 4; have y5 : w5.cell? ⟨w3.heap.size, 5, none⟩ = some (.slice none 0 0) := cell_of_block n5 5; have p0 : w5.cell? ⟨w.heap.size, 0, none⟩ = some (.int .i64 0) := cell_of_block N5 0; have p1 : w5.cell? ⟨w.heap.size, 1, none⟩ = some (.string ⟨#[]⟩) := cell_of_block N5 1; have p2 : w5.cell? ⟨w.heap.size, 2, none⟩ = some (.slice none 0 0) := cell_of_block N5 2; have p3 : w5.cell? ⟨w.heap.size, 3, none⟩ = some (.int .i64 0) := cell_of_block N5 3; have p4 : w5.cell? ⟨w.heap.size, 4, none⟩ = some (.bool false) := cell_of_block N5 4; have p5 : w5.cell? ⟨w.heap.size, 5, none⟩ = some (.int .i64 0) := cell_of_block N5 5; have p6 : w5.cell? ⟨w.heap.size, 6, none⟩ = some (.string ⟨#[]⟩) := cell_of_block N5 6; have p7 : w5.cell? ⟨w.heap.size, 7, none⟩ = some (.slice none 0 0) := cell_of_block N5 7; have p8 : w5.cell? ⟨w.heap.size, 8, none⟩ = some (.slice none 0 0) := cell_of_block N5 8; have kf5 : ∀ ii, w5.frozen? ⟨w.heap.size, ii, none⟩ = false := frozen_of_block N5)
        all_goals
          have RF := hmk (R5.box9 (Nat.le_refl _) hlt (.int .i64 3) (.string ⟨#[]⟩) (.slice none 0 0) (.int .i64 vk) (.bool vb) (.int .i64 vi) (.string vs) (.slice none 0 0) (.slice none 0 0))
          go_wp2_with fail
          (try simp only [Exit.inBlock, Exit.then])
          refine bodyPost_ret (v := .tuple #[.agg #[.int .i64 3, .string ⟨#[]⟩, .slice none 0 0, .int .i64 vk, .bool vb, .int .i64 vi, .string vs, .slice none 0 0, .slice none 0 0], .bool true]) ?_ rfl (.inl ⟨⟨3, ⟨#[]⟩, [], .mk vk vb vi vs [] []⟩, k3 + 1, [.int .i64 3, .string ⟨#[]⟩, .slice none 0 0, .int .i64 vk, .bool vb, .int .i64 vi, .string vs, .slice none 0 0, .slice none 0 0], elm_3 H1.out H2.out HQ.out HB.out, rfl, lies_itm HI.out.1 HI.out.2.1 HI.out.2.2 _ _, RF.out⟩)
          rw [results_cell_tmp rfl]
          go_simp
      | false =>
        have HB := hmk hT
        have C5 : Hid (∀ W, PB g s k3 W → Calls Tryz.prog 68 #[.pointer (some ⟨g, 0, none⟩), .string ⟨#[93]⟩] W fun e w' => e = .returned (.bool false) ∧ RdP g s W w' (k3)) := fun W hW => (CB.out W k3 hW HR4.out.le).mono (by
          rintro e w' (⟨h1, h2, h3⟩ | ⟨h1, h2, h3⟩)
          · rw [HB.out] at h1; cases h1
          · exact ⟨h2, h3⟩)
        clear hT
        go_region_with (go_at_call 68; refine (C5.out _ HR4.out.drew.pb).mono ?_; rintro e w5 ⟨rfl, r5⟩; have hr5 := (HR4.out.drew).trans r5; obtain ⟨R5, N5, t5, z5⟩ := KA.out w5 _ hr5; have n5 : w5.heap[w3.heap.size]? = some (.cells #[.int .i64 vk, .bool vb, .int .i64 vi, .string vs, .slice none 0 0, .slice none 0 0] 46 (0, 0)) := (r5.gr.block _ hw34 (fun e => by have := Option.some.inj e; have := HZ3.out; omega)).trans nB; have y0 : w5.cell? ⟨w3.heap.size, 0, none⟩ = some (.int .i64 vk) := cell_of_block n5 0; have y1 : w5.cell? ⟨w3.heap.size, 1, none⟩ = some (.bool vb) := cell_of_block n5 1; have y2 : w5.cell? ⟨w3.heap.size, 2, none⟩ = some (.int .i64 vi) := cell_of_block n5 2; have y3 : w5.cell? ⟨w3.heap.size, 3, none⟩ = some (.string vs) := cell_of_block n5 3; have y4 : w5.cell? ⟨w3.heap.size, 4, none⟩ = some (.slice none 0 0) := cell_of_block n5 4; have y5 : w5.cell? ⟨w3.heap.size, 5, none⟩ = some (.slice none 0 0) := cell_of_block n5 5; have p0 : w5.cell? ⟨w.heap.size, 0, none⟩ = some (.int .i64 0) := cell_of_block N5 0; have p1 : w5.cell? ⟨w.heap.size, 1, none⟩ = some (.string ⟨#[]⟩) := cell_of_block N5 1; have p2 : w5.cell? ⟨w.heap.size, 2, none⟩ = some (.slice none 0 0) := cell_of_block N5 2; have p3 : w5.cell? ⟨w.heap.size, 3, none⟩ = some (.int .i64 0) := cell_of_block N5 3; have p4 : w5.cell? ⟨w.heap.size, 4, none⟩ = some (.bool false) := cell_of_block N5 4; have p5 : w5.cell? ⟨w.heap.size, 5, none⟩ = some (.int .i64 0) := cell_of_block N5 5; have p6 : w5.cell? ⟨w.heap.size, 6, none⟩ = some (.string ⟨#[]⟩) := cell_of_block N5 6; have p7 : w5.cell? ⟨w.heap.size, 7, none⟩ = some (.slice none 0 0) := cell_of_block N5 7; have p8 : w5.cell? ⟨w.heap.size, 8, none⟩ = some (.slice none 0 0) := cell_of_block N5 8; have kf5 : ∀ ii, w5.frozen? ⟨w.heap.size, ii, none⟩ = false := frozen_of_block N5)
        all_goals
          have RF := hmk (R5.box9 (Nat.le_refl _) hlt (.int .i64 3) (.string ⟨#[]⟩) (.slice none 0 0) (.int .i64 vk) (.bool vb) (.int .i64 vi) (.string vs) (.slice none 0 0) (.slice none 0 0))
          go_wp2_with fail
          (try simp only [Exit.inBlock, Exit.then])
          refine bodyPost_ret (v := .tuple #[.agg #[.int .i64 3, .string ⟨#[]⟩, .slice none 0 0, .int .i64 vk, .bool vb, .int .i64 vi, .string vs, .slice none 0 0, .slice none 0 0], .bool false]) ?_ rfl (.inr ⟨elm_4 H1.out H2.out HQ.out HB.out, 3, ⟨#[]⟩, none, 0, 0, vk, vb, vi, vs, none, 0, 0, none, 0, 0, k3, rfl, RF.out⟩)
          rw [results_cell_tmp rfl]
          go_simp
    · have HQ := hmk hq
      have r4 := (r1.trans r2).trans (r3.allo (.cells #[.int .i64 vk, .bool vb, .int .i64 vi, .string vs, .slice none 0 0, .slice none 0 0] 46))
      obtain ⟨R4, N4, t4, z4⟩ := KA.out _ _ r4
      have nB := heap_alloc_new w3 (.cells #[.int .i64 vk, .bool vb, .int .i64 vi, .string vs, .slice none 0 0, .slice none 0 0] 46)
      clear hq r1 r2 r3 P2 t2
      go_wp2_with fail
      generalize (w3.alloc (.cells #[.int .i64 vk, .bool vb, .int .i64 vi, .string vs, .slice none 0 0, .slice none 0 0] 46)) = w4 at *
      have x0 : w4.cell? ⟨w3.heap.size, 0, none⟩ = some (.int .i64 vk) := cell_of_block nB 0
      have x1 : w4.cell? ⟨w3.heap.size, 1, none⟩ = some (.bool vb) := cell_of_block nB 1
      have x2 : w4.cell? ⟨w3.heap.size, 2, none⟩ = some (.int .i64 vi) := cell_of_block nB 2
      have x3 : w4.cell? ⟨w3.heap.size, 3, none⟩ = some (.string vs) := cell_of_block nB 3
      have x4 : w4.cell? ⟨w3.heap.size, 4, none⟩ = some (.slice none 0 0) := cell_of_block nB 4
      have x5 : w4.cell? ⟨w3.heap.size, 5, none⟩ = some (.slice none 0 0) := cell_of_block nB 5
      have q0 : w4.cell? ⟨w.heap.size, 0, none⟩ = some (.int .i64 0) := cell_of_block N4 0
      have q1 : w4.cell? ⟨w.heap.size, 1, none⟩ = some (.string ⟨#[]⟩) := cell_of_block N4 1
      have q2 : w4.cell? ⟨w.heap.size, 2, none⟩ = some (.slice none 0 0) := cell_of_block N4 2
      have q3 : w4.cell? ⟨w.heap.size, 3, none⟩ = some (.int .i64 0) := cell_of_block N4 3
      have q4 : w4.cell? ⟨w.heap.size, 4, none⟩ = some (.bool false) := cell_of_block N4 4
      have q5 : w4.cell? ⟨w.heap.size, 5, none⟩ = some (.int .i64 0) := cell_of_block N4 5
      have q6 : w4.cell? ⟨w.heap.size, 6, none⟩ = some (.string ⟨#[]⟩) := cell_of_block N4 6
      have q7 : w4.cell? ⟨w.heap.size, 7, none⟩ = some (.slice none 0 0) := cell_of_block N4 7
      have q8 : w4.cell? ⟨w.heap.size, 8, none⟩ = some (.slice none 0 0) := cell_of_block N4 8
      have kf : ∀ ii, w4.frozen? ⟨w.heap.size, ii, none⟩ = false := frozen_of_block N4
      have RF := hmk ((R4.box9 (Nat.le_refl _) hlt (.int .i64 3) (.string ⟨#[]⟩) (.slice none 0 0) (.int .i64 vk) (.bool vb) (.int .i64 vi) (.string vs) (.slice none 0 0) (.slice none 0 0)).drew)
      go_region
      all_goals
        go_wp2_with fail
        (try simp only [Exit.inBlock, Exit.then])
        refine bodyPost_ret (v := .tuple #[.agg #[.int .i64 3, .string ⟨#[]⟩, .slice none 0 0, .int .i64 vk, .bool vb, .int .i64 vi, .string vs, .slice none 0 0, .slice none 0 0], .bool false]) ?_ rfl (.inr ⟨elm_2 H1.out H2.out HQ.out, 3, ⟨#[]⟩, none, 0, 0, vk, vb, vi, vs, none, 0, 0, none, 0, 0, k3, rfl, RF.out⟩)
        rw [results_cell_tmp rfl]
        go_simp
  have H2 := hmk hT2
  have r12 := r1.trans r2
  have P2 := r12.pb
  clear hT2 P1 r1 r2
  go_wp2_with fail
  refine (CO.out _ P2).mono ?_
  rintro e w3 (⟨hT3, rfl, r3⟩ | ⟨hT3, rfl, r3⟩)
  · have H3 := hmk hT3
    obtain ⟨R3, N3, t3, z3⟩ := KA.out w3 _ (r12.trans r3)
    have P3 := R3.pb
    have l3 := R3.le
    have HZ := hmk R3.gr.size
    clear hT3 R3 N3 P2
    go_wp2_with fail
    refine (CK.out _ _ P3 t3 l3).mono ?_
    rintro e w4 (⟨m, k1, am, cm, bm, om, hn, rfl, hd, hm, r4⟩ | ⟨hn, k1, rfl, r4⟩)
    · have HN := hmk hn
      have HD := hmk hd
      have HM := hmk hm
      obtain ⟨R4, N4, t4, z4⟩ := KA.out w4 _ ((r12.trans r3).trans r4)
      clear hn hd hm r12 r3 r4 P3 t3
      have q0 : w4.cell? ⟨w.heap.size, 0, none⟩ = some (.int .i64 0) := cell_of_block N4 0
      have q1 : w4.cell? ⟨w.heap.size, 1, none⟩ = some (.string ⟨#[]⟩) := cell_of_block N4 1
      have q2 : w4.cell? ⟨w.heap.size, 2, none⟩ = some (.slice none 0 0) := cell_of_block N4 2
      have q3 : w4.cell? ⟨w.heap.size, 3, none⟩ = some (.int .i64 0) := cell_of_block N4 3
      have q4 : w4.cell? ⟨w.heap.size, 4, none⟩ = some (.bool false) := cell_of_block N4 4
      have q5 : w4.cell? ⟨w.heap.size, 5, none⟩ = some (.int .i64 0) := cell_of_block N4 5
      have q6 : w4.cell? ⟨w.heap.size, 6, none⟩ = some (.string ⟨#[]⟩) := cell_of_block N4 6
      have q7 : w4.cell? ⟨w.heap.size, 7, none⟩ = some (.slice none 0 0) := cell_of_block N4 7
      have q8 : w4.cell? ⟨w.heap.size, 8, none⟩ = some (.slice none 0 0) := cell_of_block N4 8
      have kf : ∀ ii, w4.frozen? ⟨w.heap.size, ii, none⟩ = false := frozen_of_block N4
      have RF := hmk (R4.box9 (Nat.le_refl _) hlt (.int .i64 2) (.string ⟨#[]⟩) (.slice am m.length cm) (.int .i64 0) (.bool false) (.int .i64 0) (.string ⟨#[]⟩) (.slice none 0 0) (.slice none 0 0))
      go_wp2_with fail
      (try simp only [Exit.inBlock, Exit.then])
      refine bodyPost_ret (v := .tuple #[.agg #[.int .i64 2, .string ⟨#[]⟩, .slice am m.length cm, .int .i64 0, .bool false, .int .i64 0, .string ⟨#[]⟩, .slice none 0 0, .slice none 0 0], .bool true]) ?_ rfl (.inl ⟨⟨2, ⟨#[]⟩, m, nilW⟩, k1, [.int .i64 2, .string ⟨#[]⟩, .slice am m.length cm, .int .i64 0, .bool false, .int .i64 0, .string ⟨#[]⟩, .slice none 0 0, .slice none 0 0], by rw [elm_5 H1.out H2.out H3.out, HN.out]; rfl, rfl, lies_key HD.out (liesM_far HM.out HZ.out z3 (st9_grownZ _ _ (.int .i64 2) (.string ⟨#[]⟩) (.slice am m.length cm) (.int .i64 0) (.bool false) (.int .i64 0) (.string ⟨#[]⟩) (.slice none 0 0) (.slice none 0 0))), RF.out⟩)
      rw [results_cell_tmp rfl]
      go_simp
    · have HN := hmk hn
      obtain ⟨R4, N4, t4, z4⟩ := KA.out w4 _ ((r12.trans r3).trans r4)
      clear hn r12 r3 r4 P3 t3
      have q0 : w4.cell? ⟨w.heap.size, 0, none⟩ = some (.int .i64 0) := cell_of_block N4 0
      have q1 : w4.cell? ⟨w.heap.size, 1, none⟩ = some (.string ⟨#[]⟩) := cell_of_block N4 1
      have q2 : w4.cell? ⟨w.heap.size, 2, none⟩ = some (.slice none 0 0) := cell_of_block N4 2
      have q3 : w4.cell? ⟨w.heap.size, 3, none⟩ = some (.int .i64 0) := cell_of_block N4 3
      have q4 : w4.cell? ⟨w.heap.size, 4, none⟩ = some (.bool false) := cell_of_block N4 4
      have q5 : w4.cell? ⟨w.heap.size, 5, none⟩ = some (.int .i64 0) := cell_of_block N4 5
      have q6 : w4.cell? ⟨w.heap.size, 6, none⟩ = some (.string ⟨#[]⟩) := cell_of_block N4 6
      have q7 : w4.cell? ⟨w.heap.size, 7, none⟩ = some (.slice none 0 0) := cell_of_block N4 7
      have q8 : w4.cell? ⟨w.heap.size, 8, none⟩ = some (.slice none 0 0) := cell_of_block N4 8
      have kf : ∀ ii, w4.frozen? ⟨w.heap.size, ii, none⟩ = false := frozen_of_block N4
      have RF := hmk (R4.box9 (Nat.le_refl _) hlt (.int .i64 2) (.string ⟨#[]⟩) (.slice none 0 0) (.int .i64 0) (.bool false) (.int .i64 0) (.string ⟨#[]⟩) (.slice none 0 0) (.slice none 0 0))
      go_wp2_with fail
      (try simp only [Exit.inBlock, Exit.then])
      refine bodyPost_ret (v := .tuple #[.agg #[.int .i64 2, .string ⟨#[]⟩, .slice none 0 0, .int .i64 0, .bool false, .int .i64 0, .string ⟨#[]⟩, .slice none 0 0, .slice none 0 0], .bool false]) ?_ rfl (.inr ⟨by rw [elm_5 H1.out H2.out H3.out, HN.out]; rfl, 2, ⟨#[]⟩, none, 0, 0, 0, false, 0, ⟨#[]⟩, none, 0, 0, none, 0, 0, k1, rfl, RF.out⟩)
      rw [results_cell_tmp rfl]
      go_simp
  · have H3 := hmk hT3
    obtain ⟨R3, N3, t3, z3⟩ := KA.out w3 _ (r12.trans r3)
    clear hT3 P2 r12 r3
    have q0 : w3.cell? ⟨w.heap.size, 0, none⟩ = some (.int .i64 0) := cell_of_block N3 0
    have q1 : w3.cell? ⟨w.heap.size, 1, none⟩ = some (.string ⟨#[]⟩) := cell_of_block N3 1
    have q2 : w3.cell? ⟨w.heap.size, 2, none⟩ = some (.slice none 0 0) := cell_of_block N3 2
    have q3 : w3.cell? ⟨w.heap.size, 3, none⟩ = some (.int .i64 0) := cell_of_block N3 3
    have q4 : w3.cell? ⟨w.heap.size, 4, none⟩ = some (.bool false) := cell_of_block N3 4
    have q5 : w3.cell? ⟨w.heap.size, 5, none⟩ = some (.int .i64 0) := cell_of_block N3 5
    have q6 : w3.cell? ⟨w.heap.size, 6, none⟩ = some (.string ⟨#[]⟩) := cell_of_block N3 6
    have q7 : w3.cell? ⟨w.heap.size, 7, none⟩ = some (.slice none 0 0) := cell_of_block N3 7
    have q8 : w3.cell? ⟨w.heap.size, 8, none⟩ = some (.slice none 0 0) := cell_of_block N3 8
    have kf : ∀ ii, w3.frozen? ⟨w.heap.size, ii, none⟩ = false := frozen_of_block N3
    have RF := hmk (R3.box9 (Nat.le_refl _) hlt (.int .i64 0) (.string ⟨#[]⟩) (.slice none 0 0) (.int .i64 0) (.bool false) (.int .i64 0) (.string ⟨#[]⟩) (.slice none 0 0) (.slice none 0 0))
    go_wp2_with fail
    (try simp only [Exit.inBlock, Exit.then])
    refine bodyPost_ret (v := .tuple #[.agg #[.int .i64 0, .string ⟨#[]⟩, .slice none 0 0, .int .i64 0, .bool false, .int .i64 0, .string ⟨#[]⟩, .slice none 0 0, .slice none 0 0], .bool false]) ?_ rfl (.inr ⟨elm_6 H1.out H2.out H3.out, 0, ⟨#[]⟩, none, 0, 0, 0, false, 0, ⟨#[]⟩, none, 0, 0, none, 0, 0, k, rfl, RF.out⟩)
    rw [results_cell_tmp rfl]
    go_simp
end Go.Proofs.YtihcggepeadklaaGreatDoor
