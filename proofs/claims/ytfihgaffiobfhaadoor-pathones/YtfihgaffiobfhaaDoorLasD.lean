import Derived.Test.YtfihgaffiobfhaaDoorLasC
import Derived.Test.YtfihgaffiobfhaaDoorLasB
/- path.Last of a good path. -/
set_option linter.unusedSimpArgs false
set_option linter.unusedVariables false
namespace Go.Proofs.YtfihgaffiobfhaaDoor
open Go.RowKit Go.Lib
theorem st9_grown (W : World) (g : Nat) (v0 v1 v2 v3 v4 v5 v6 v7 v8 : Value) : W.grownBy (((((((((W.setCell ⟨g, 0, none⟩ v0).setCell ⟨g, 1, none⟩ v1).setCell ⟨g, 2, none⟩ v2).setCell ⟨g, 3, none⟩ v3).setCell ⟨g, 4, none⟩ v4).setCell ⟨g, 5, none⟩ v5).setCell ⟨g, 6, none⟩ v6).setCell ⟨g, 7, none⟩ v7).setCell ⟨g, 8, none⟩ v8) (some g) := (grown_set (grown_set (grown_set (grown_set (grown_set (grown_set (grown_set (grown_set (grown_set (World.grownBy.refl _ _) _ _) _ _) _ _) _ _) _ _) _ _) _ _) _ _) _ _)
set_option maxHeartbeats 8000000 in
set_option maxRecDepth 100000 in
theorem plast_good (p : List El) (S : Nat → Prop) (ap : Option Addr) (cp bp op : Nat) (w : World) (t : Td w) (hap : Headed ap p.length cp bp op) (hp : liesP w S p bp op) (hS : ∀ b, S b → b < w.heap.size) (hwt : wtP p ≤ 2147483647) (hB : pathB p = true) (n : Nat) (hn : p.length = n + 1) :
    Calls Tryd.prog 8 #[.slice ap p.length cp] w (LaPost p w) := by
  have bA : Below w.heap.size w (w.alloc z34) := (Below.refl _ _).alloc (Nat.le_refl _) _
  have CK := hmk (pcheck_any p S ap cp bp op (w.alloc z34) (t.below bA t.z bA.size).tb hap (liesP_keep (fun x hx => bA.block x (hS x hx)) (fun _ h => h) hp) (fun x hx => Nat.lt_of_lt_of_le (hS x hx) bA.size) hwt)
  have hza := alloc_size w z34
  have nb := heap_alloc_new w z34
  have HX : Hid (∀ W, Below (w.heap.size + 1) (w.alloc z34) W → W.heap[w.heap.size]? = some z34) := fun W hb => (hb.block _ (by omega)).trans nb
  have e1 : errP p = 0 := by rw [errP, hB]; rfl
  rw [e1] at CK
  have hlm := wtP_len p
  obtain rfl : ap = some ⟨bp, op, none⟩ := hap.at_.resolve_left (by omega)
  obtain ⟨hSb, csj, hrow, hlj⟩ := hp n (by omega)
  have hle := hap.le
  have hmx := hap.max
  have hSb' := hS _ hSb
  obtain ⟨k, s, am, nm, cm, vk, vb, vi, vs, val, vnl, vcl, vam, vnm, vcm, rfl⟩ := El.nine hlj
  have hln : (p.take n).length = n := by rw [List.length_take]; omega
  have hwn : wtP (p.take n) ≤ 2147483647 := Nat.le_trans (wtP_take_le p n) hwt
  have C19 : Hid (∀ W, Below w.heap.size w W → Calls Tryd.prog 19 #[.slice (some ⟨bp, op, none⟩) n cp] W fun e w' => ∃ g : Nat, e = .returned (.slice (some ⟨g, 0, none⟩) n n) ∧ liesP w' (New W w') (p.take n) g 0 ∧ Below W.heap.size W w') := fun W hW => by
    have h := copy_any (p.take n) S (some ⟨bp, op, none⟩) cp bp op W ⟨by rw [hln]; omega, hmx, .inr rfl, fun h => by cases h⟩ (liesP_take (liesP_keep (fun x hx => hW.block x (hS x hx)) (fun _ h => h) hp) n) (fun y hy => Nat.lt_of_lt_of_le (hS y hy) hW.size) hwn
    have he : (p.take n).map anE = p.take n := by
      have h2 : ∀ x ∈ p.take n, anE x = id x := fun x hx => anE_same ((pathB_all hB).2 x (List.mem_of_mem_take hx))
      rw [List.map_congr_left h2, List.map_id]
    rw [he, hln] at h
    unfold CyPost at h
    rw [hln] at h
    exact h
  have hlE := hlj
  have hwj : (p[n]'(by omega)).wt ≤ 2147483647 := by have := wtP_mem (List.getElem_mem (l := p) (n := n) (by omega)); omega
  have C20 : Hid (∀ W, Below w.heap.size w W → Calls Tryd.prog 20 #[.agg #[.int .i64 k, .string s, .slice am nm cm, .int .i64 vk, .bool vb, .int .i64 vi, .string vs, .slice val vnl vcl, .slice vam vnm vcm]] W (AePost (p[n]'(by omega)) W)) := fun W hW => by
    have h := anelem_any (p[n]'(by omega)) S _ W (El.lies_keep (fun x hx => hW.block x (hS x hx)) (fun _ h => h) hlj) (fun y hy => Nat.lt_of_lt_of_le (hS y hy) hW.size) hwj
    rw [anE_same ((pathB_all hB).2 _ (List.getElem_mem _))] at h
    exact h
  have HR := hmk hrow
  have HPB := hmk hB
  clear hp hrow hlj hlE hB e1 nb hap hwj hwn hln t
  rw [hn] at CK ⊢
  have y0 : (((n + 1 : Nat) : Int) == 0) = false := by rw [beq_eq_false_iff_ne]; omega
  go_enter Tryd.func8, Tryd.ntmps8
  go_wp2_with fail
  refine CK.out.mono ?_
  rintro e w1 ⟨rfl, b1⟩
  have bw : Below w.heap.size w w1 := bA.trans (b1.mono (by omega))
  have hs1 := b1.size
  have HB := hmk bw
  have hwl : w.heap.size < w1.heap.size := by omega
  have HN := hmk (HX.out w1 (b1.mono (by omega)))
  clear bw b1 bA HX CK hza
  go_wp2_with fail
  have q9 := row9 (HR.out.keep (HB.out.block bp hSb'))
  obtain ⟨q0, q1, q2, q3, q4, q5, q6, q7, q8⟩ := q9
  have c0 : w1.cell? ⟨w.heap.size, 0, none⟩ = some (.int .i64 0) := by rw [cell_of_block HN.out]; rfl
  have c1 : w1.cell? ⟨w.heap.size, 1, none⟩ = some (.string ⟨#[]⟩) := by rw [cell_of_block HN.out]; rfl
  have c2 : w1.cell? ⟨w.heap.size, 2, none⟩ = some (.slice none 0 0) := by rw [cell_of_block HN.out]; rfl
  have c3 : w1.cell? ⟨w.heap.size, 3, none⟩ = some (.int .i64 0) := by rw [cell_of_block HN.out]; rfl
  have c4 : w1.cell? ⟨w.heap.size, 4, none⟩ = some (.bool false) := by rw [cell_of_block HN.out]; rfl
  have c5 : w1.cell? ⟨w.heap.size, 5, none⟩ = some (.int .i64 0) := by rw [cell_of_block HN.out]; rfl
  have c6 : w1.cell? ⟨w.heap.size, 6, none⟩ = some (.string ⟨#[]⟩) := by rw [cell_of_block HN.out]; rfl
  have c7 : w1.cell? ⟨w.heap.size, 7, none⟩ = some (.slice none 0 0) := by rw [cell_of_block HN.out]; rfl
  have c8 : w1.cell? ⟨w.heap.size, 8, none⟩ = some (.slice none 0 0) := by rw [cell_of_block HN.out]; rfl
  have kf : ∀ ii, w1.frozen? ⟨w.heap.size, ii, none⟩ = false := frozen_of_block HN.out
  have HFF : Hid (∀ (w3 w4 w5 : World) (g : Nat) (ds : List Value), liesP w3 (New w1.drew w3) (p.take n) g 0 → Below w1.drew.heap.size w1.drew w3 → (p[n]'(by omega)).lies w4 (fun b => w3.heap.size ≤ b ∧ b < w4.heap.size) ds → Below w3.heap.size w3 w4 → w4.grownBy w5 (some w.heap.size) → Below w.heap.size w w5 → LaPost p w (.returned (.tuple #[.slice (some ⟨g, 0, none⟩) n n, .agg ds.toArray, .bool true])) w5) := fun w3 w4 w5 g ds h3 b3 h4 b4 g5 b5 => by
    obtain ⟨h1, h2, h3'⟩ := las_good HPB.out (by omega)
    have hn1 : p.length - 1 = n := by omega
    have hq : (lasQ p).length = n := by rw [h1, List.length_take]; omega
    have hx : lasX p = p[n]'(by omega) := by rw [h2]; congr 1
    have z3 : w1.heap.size ≤ w3.heap.size := b3.size
    have z4 := b4.size
    have z5 := g5.size
    have kp : ∀ x, w1.heap.size ≤ x → x < w4.heap.size → w5.heap[x]? = w4.heap[x]? := fun x hx1 hx2 => g5.block x hx2 (fun e => by have := Option.some.inj e; omega)
    refine ⟨some ⟨g, 0, none⟩, n, g, 0, ds, fun x => w1.heap.size ≤ x ∧ x < w5.heap.size, by rw [hq, h3'], by rw [hq]; exact ⟨Nat.le_refl _, by omega, .inr rfl, fun h => by cases h⟩, ?_, ?_, fun y hy => hy.2, b5⟩
    · rw [h1, hn1]
      exact liesP_keep (fun x hx => (kp x hx.1 (Nat.lt_of_lt_of_le hx.2 z4)).trans (b4.block x hx.2)) (fun x hx => ⟨hx.1, Nat.lt_of_lt_of_le (Nat.lt_of_lt_of_le hx.2 z4) z5⟩) h3
    · rw [hx]
      exact El.lies_keep (fun x hx => kp x (Nat.le_trans z3 hx.1) hx.2) (fun x hx => ⟨Nat.le_trans z3 hx.1, Nat.lt_of_lt_of_le hx.2 z5⟩) h4
  go_region_with (first
    | (go_at_call 19; go_loud (refine (C19.out _ (by first | exact HB.out.drew | exact B4)).mono ?_; rintro e w3 ⟨g, rfl, l3, b3⟩; have B3 : Below w.heap.size w w3 := (by first | exact HB.out.drew.trans (b3.mono HB.out.size) | exact B4.trans (b3.mono B4.size)); have N3 : w3.heap[w.heap.size]? = some z34 := (by first | exact (b3.block _ hwl).trans HN.out | exact (b3.block _ (Nat.lt_of_lt_of_le hwl hz4)).trans N4); have hz3 : w1.heap.size ≤ w3.heap.size := (by first | exact b3.size | exact Nat.le_trans hz4 b3.size); have r9 := row9 (HR.out.keep (B3.block bp hSb')); obtain ⟨r0, r1, r2, r3, r4, r5, r6, r7, r8⟩ := r9; have x0 : w3.cell? ⟨w.heap.size, 0, none⟩ = some (.int .i64 0) := cell_of_block N3 0; have x1 : w3.cell? ⟨w.heap.size, 1, none⟩ = some (.string ⟨#[]⟩) := cell_of_block N3 1; have x2 : w3.cell? ⟨w.heap.size, 2, none⟩ = some (.slice none 0 0) := cell_of_block N3 2; have x3 : w3.cell? ⟨w.heap.size, 3, none⟩ = some (.int .i64 0) := cell_of_block N3 3; have x4 : w3.cell? ⟨w.heap.size, 4, none⟩ = some (.bool false) := cell_of_block N3 4; have x5 : w3.cell? ⟨w.heap.size, 5, none⟩ = some (.int .i64 0) := cell_of_block N3 5; have x6 : w3.cell? ⟨w.heap.size, 6, none⟩ = some (.string ⟨#[]⟩) := cell_of_block N3 6; have x7 : w3.cell? ⟨w.heap.size, 7, none⟩ = some (.slice none 0 0) := cell_of_block N3 7; have x8 : w3.cell? ⟨w.heap.size, 8, none⟩ = some (.slice none 0 0) := cell_of_block N3 8; have kfx : ∀ ii, w3.frozen? ⟨w.heap.size, ii, none⟩ = false := frozen_of_block N3))
    | (go_at_call 20; refine (C20.out _ (by first | exact HB.out.drew | exact B3)).mono ?_; rintro e w4 ⟨ds, rfl, l4, b4⟩; obtain ⟨k', s', am', nm', cm', vk', vb', vi', vs', val', vnl', vcl', vam', vnm', vcm', rfl⟩ := El.nine l4; have B4 : Below w.heap.size w w4 := (by first | exact HB.out.drew.trans (b4.mono HB.out.size) | exact B3.trans (b4.mono B3.size)); have N4 : w4.heap[w.heap.size]? = some z34 := (by first | exact (b4.block _ hwl).trans HN.out | exact (b4.block _ (Nat.lt_of_lt_of_le hwl hz3)).trans N3); have hz4 : w1.heap.size ≤ w4.heap.size := (by first | exact b4.size | exact Nat.le_trans hz3 b4.size); have u0 : w4.cell? ⟨w.heap.size, 0, none⟩ = some (.int .i64 0) := cell_of_block N4 0; have u1 : w4.cell? ⟨w.heap.size, 1, none⟩ = some (.string ⟨#[]⟩) := cell_of_block N4 1; have u2 : w4.cell? ⟨w.heap.size, 2, none⟩ = some (.slice none 0 0) := cell_of_block N4 2; have u3 : w4.cell? ⟨w.heap.size, 3, none⟩ = some (.int .i64 0) := cell_of_block N4 3; have u4 : w4.cell? ⟨w.heap.size, 4, none⟩ = some (.bool false) := cell_of_block N4 4; have u5 : w4.cell? ⟨w.heap.size, 5, none⟩ = some (.int .i64 0) := cell_of_block N4 5; have u6 : w4.cell? ⟨w.heap.size, 6, none⟩ = some (.string ⟨#[]⟩) := cell_of_block N4 6; have u7 : w4.cell? ⟨w.heap.size, 7, none⟩ = some (.slice none 0 0) := cell_of_block N4 7; have u8 : w4.cell? ⟨w.heap.size, 8, none⟩ = some (.slice none 0 0) := cell_of_block N4 8; have kfu : ∀ ii, w4.frozen? ⟨w.heap.size, ii, none⟩ = false := frozen_of_block N4))
  all_goals
    have gS : w4.grownBy (((((((((w4.setCell ⟨w.heap.size, 0, none⟩ (.int .i64 k')).setCell ⟨w.heap.size, 1, none⟩ (.string s')).setCell ⟨w.heap.size, 2, none⟩ (.slice am' nm' cm')).setCell ⟨w.heap.size, 3, none⟩ (.int .i64 vk')).setCell ⟨w.heap.size, 4, none⟩ (.bool vb')).setCell ⟨w.heap.size, 5, none⟩ (.int .i64 vi')).setCell ⟨w.heap.size, 6, none⟩ (.string vs')).setCell ⟨w.heap.size, 7, none⟩ (.slice val' vnl' vcl')).setCell ⟨w.heap.size, 8, none⟩ (.slice vam' vnm' vcm')) (some w.heap.size) := st9_grown w4 w.heap.size (.int .i64 k') (.string s') (.slice am' nm' cm') (.int .i64 vk') (.bool vb') (.int .i64 vi') (.string vs') (.slice val' vnl' vcl') (.slice vam' vnm' vcm')
    have bS : Below w.heap.size w4 (((((((((w4.setCell ⟨w.heap.size, 0, none⟩ (.int .i64 k')).setCell ⟨w.heap.size, 1, none⟩ (.string s')).setCell ⟨w.heap.size, 2, none⟩ (.slice am' nm' cm')).setCell ⟨w.heap.size, 3, none⟩ (.int .i64 vk')).setCell ⟨w.heap.size, 4, none⟩ (.bool vb')).setCell ⟨w.heap.size, 5, none⟩ (.int .i64 vi')).setCell ⟨w.heap.size, 6, none⟩ (.string vs')).setCell ⟨w.heap.size, 7, none⟩ (.slice val' vnl' vcl')).setCell ⟨w.heap.size, 8, none⟩ (.slice vam' vnm' vcm')) := st9_below (W := w4) (g := w.heap.size) (B := w.heap.size) (Nat.le_refl _) B4.size (.int .i64 k') (.string s') (.slice am' nm' cm') (.int .i64 vk') (.bool vb') (.int .i64 vi') (.string vs') (.slice val' vnl' vcl') (.slice vam' vnm' vcm')
    have nS : (((((((((w4.setCell ⟨w.heap.size, 0, none⟩ (.int .i64 k')).setCell ⟨w.heap.size, 1, none⟩ (.string s')).setCell ⟨w.heap.size, 2, none⟩ (.slice am' nm' cm')).setCell ⟨w.heap.size, 3, none⟩ (.int .i64 vk')).setCell ⟨w.heap.size, 4, none⟩ (.bool vb')).setCell ⟨w.heap.size, 5, none⟩ (.int .i64 vi')).setCell ⟨w.heap.size, 6, none⟩ (.string vs')).setCell ⟨w.heap.size, 7, none⟩ (.slice val' vnl' vcl')).setCell ⟨w.heap.size, 8, none⟩ (.slice vam' vnm' vcm')).heap[w.heap.size]? = some (.cells #[.int .i64 k', .string s', .slice am' nm' cm', .int .i64 vk', .bool vb', .int .i64 vi', .string vs', .slice val' vnl' vcl', .slice vam' vnm' vcm'] 34 (0, 0)) := st9_block N4 (.int .i64 k') (.string s') (.slice am' nm' cm') (.int .i64 vk') (.bool vb') (.int .i64 vi') (.string vs') (.slice val' vnl' vcl') (.slice vam' vnm' vcm')
    have FF := HFF.out w3 w4 (((((((((w4.setCell ⟨w.heap.size, 0, none⟩ (.int .i64 k')).setCell ⟨w.heap.size, 1, none⟩ (.string s')).setCell ⟨w.heap.size, 2, none⟩ (.slice am' nm' cm')).setCell ⟨w.heap.size, 3, none⟩ (.int .i64 vk')).setCell ⟨w.heap.size, 4, none⟩ (.bool vb')).setCell ⟨w.heap.size, 5, none⟩ (.int .i64 vi')).setCell ⟨w.heap.size, 6, none⟩ (.string vs')).setCell ⟨w.heap.size, 7, none⟩ (.slice val' vnl' vcl')).setCell ⟨w.heap.size, 8, none⟩ (.slice vam' vnm' vcm')) g _ l3 b3 l4 b4 gS (B4.trans bS)
    clear gS bS l3 b3 l4 b4 B3 N3 B4 N4 x0 x1 x2 x3 x4 x5 x6 x7 x8 kfx u0 u1 u2 u3 u4 u5 u6 u7 u8 kfu r0 r1 r2 r3 r4 r5 r6 r7 r8 q0 q1 q2 q3 q4 q5 q6 q7 q8 c0 c1 c2 c3 c4 c5 c6 c7 c8 kf
    generalize (((((((((w4.setCell ⟨w.heap.size, 0, none⟩ (.int .i64 k')).setCell ⟨w.heap.size, 1, none⟩ (.string s')).setCell ⟨w.heap.size, 2, none⟩ (.slice am' nm' cm')).setCell ⟨w.heap.size, 3, none⟩ (.int .i64 vk')).setCell ⟨w.heap.size, 4, none⟩ (.bool vb')).setCell ⟨w.heap.size, 5, none⟩ (.int .i64 vi')).setCell ⟨w.heap.size, 6, none⟩ (.string vs')).setCell ⟨w.heap.size, 7, none⟩ (.slice val' vnl' vcl')).setCell ⟨w.heap.size, 8, none⟩ (.slice vam' vnm' vcm')) = w5 at *
    have d0 : w5.cell? ⟨w.heap.size, 0, none⟩ = some (.int .i64 k') := cell_of_block nS 0
    have d1 : w5.cell? ⟨w.heap.size, 1, none⟩ = some (.string s') := cell_of_block nS 1
    have d2 : w5.cell? ⟨w.heap.size, 2, none⟩ = some (.slice am' nm' cm') := cell_of_block nS 2
    have d3 : w5.cell? ⟨w.heap.size, 3, none⟩ = some (.int .i64 vk') := cell_of_block nS 3
    have d4 : w5.cell? ⟨w.heap.size, 4, none⟩ = some (.bool vb') := cell_of_block nS 4
    have d5 : w5.cell? ⟨w.heap.size, 5, none⟩ = some (.int .i64 vi') := cell_of_block nS 5
    have d6 : w5.cell? ⟨w.heap.size, 6, none⟩ = some (.string vs') := cell_of_block nS 6
    have d7 : w5.cell? ⟨w.heap.size, 7, none⟩ = some (.slice val' vnl' vcl') := cell_of_block nS 7
    have d8 : w5.cell? ⟨w.heap.size, 8, none⟩ = some (.slice vam' vnm' vcm') := cell_of_block nS 8
    go_wp2_with fail
    refine bodyPost_ret (v := .tuple #[.slice (some ⟨g, 0, none⟩) n n, .agg #[.int .i64 k', .string s', .slice am' nm' cm', .int .i64 vk', .bool vb', .int .i64 vi', .string vs', .slice val' vnl' vcl', .slice vam' vnm' vcm'], .bool true]) ?_ rfl FF
    rw [results_tct rfl]
    go_simp
end Go.Proofs.YtfihgaffiobfhaaDoor
