/- good: some good value; a list. -/
import Derived.Test.YtljgofmmihmmfaaDoorGodB
set_option linter.unusedSimpArgs false
set_option linter.unusedVariables false
namespace Go.Proofs.YtljgofmmihmmfaaDoor
open Go.RowKit

theorem OwnL.outN {w w0 : World} {S : Nat → Prop} {slv : Value} {l : List V} {B : Nat} (hB : w0.heap.size ≤ B) (h : OwnL false w B S slv (l.map some)) (hs : (slv = .slice none 0 0 ∧ l = []) ∨ ∃ g cap, slv = .slice (some ⟨g, 0, none⟩) l.length cap) :
    ∃ ao cap b o, slv = .slice ao l.length cap ∧ Headed ao l.length cap b o ∧ liesL false w (New w0 w) l b o := by
  rcases hs with ⟨rfl, rfl⟩ | ⟨g, cap, rfl⟩
  · exact ⟨none, 0, 0, 0, rfl, headed_nil, by rw [liesL]; trivial⟩
  have h1 := h.le
  have h2 := h.lt (g := g) rfl
  simp only [List.length_map] at h1
  refine ⟨_, _, g, 0, rfl, ⟨h1.1, h1.2, .inr rfl, fun h => by cases h⟩, liesL_mk fun j hj => ?_⟩
  obtain ⟨cs, r1, r2⟩ := h.at (by simp) j (by simpa using hj)
  rw [List.getElem_map] at r2
  exact ⟨⟨by omega, h2.2⟩, cs, r1, V.lies_keep (fun h => h) (fun _ _ => rfl) (fun b hb => ⟨by have := (h.off b hb).1; omega, (h.off b hb).2.1⟩) _ r2⟩
theorem wtL_le : ∀ {l : List V} {N : Nat}, (∀ u ∈ l, u.wt ≤ N) → wtL l ≤ l.length * N
  | [], N, _ => by simp [wtL]
  | x :: t, N, h => by
    have h1 := h x (List.mem_cons_self ..)
    have h2 := wtL_le (l := t) (N := N) (fun u hu => h u (List.mem_cons_of_mem _ hu))
    simp only [wtL, List.length_cons, Nat.succ_mul]; omega
theorem OwnL.set6 {w : World} {base M : Nat} {S : Nat → Prop} {v : Value} {l : List (Option V)} (h : OwnL false w base S v l) (hM : M < base) (i1 i2 i3 i4 i5 i6 : Nat) (u1 u2 u3 u4 u5 u6 : Value) :
    OwnL false ((((((w.setCell ⟨M, i1, none⟩ u1).setCell ⟨M, i2, none⟩ u2).setCell ⟨M, i3, none⟩ u3).setCell ⟨M, i4, none⟩ u4).setCell ⟨M, i5, none⟩ u5).setCell ⟨M, i6, none⟩ u6) base S v l :=
  (((((h.set (keepL false) hM i1 u1).set (keepL false) hM i2 u2).set (keepL false) hM i3 u3).set (keepL false) hM i4 u4).set (keepL false) hM i5 u5).set (keepL false) hM i6 u6
theorem Below.set6 {B M : Nat} {a w : World} (h : Below B a w) (hM : B ≤ M) (i1 i2 i3 i4 i5 i6 : Nat) (u1 u2 u3 u4 u5 u6 : Value) :
    Below B a ((((((w.setCell ⟨M, i1, none⟩ u1).setCell ⟨M, i2, none⟩ u2).setCell ⟨M, i3, none⟩ u3).setCell ⟨M, i4, none⟩ u4).setCell ⟨M, i5, none⟩ u5).setCell ⟨M, i6, none⟩ u6) := by
  repeat (refine Below.setCell ?_ (by assumption) _)
  exact h
theorem list_fin {w W : World} {B N : Nat} {S : Nat → Prop} {ao : Option Addr} {cap : Nat} {us : List V} (hB : Below w.heap.size w W) (hb : w.heap.size ≤ B) (h : OwnL false W B S (.slice ao us.length cap) (us.map some)) (hs : (Value.slice ao us.length cap = .slice none 0 0 ∧ us = []) ∨ ∃ g c, Value.slice ao us.length cap = .slice (some ⟨g, 0, none⟩) us.length c) (h4 : us.length ≤ 4) (hw : ∀ u ∈ us, u.wt ≤ N) :
    GoodPost (1 + 4 * N) w (.returned (.agg #[.int .i64 4, .bool false, .int .i64 0, .string ⟨#[]⟩, .slice ao us.length cap, .slice none 0 0])) W := by
  obtain ⟨ao', cap', b, o, e, hh, hl⟩ := OwnL.outN hb h hs
  cases e
  refine god_fin (u := V.mk 4 false 0 ⟨#[]⟩ us []) (cs := [.int .i64 4, .bool false, .int .i64 0, .string ⟨#[]⟩, .slice ao us.length cap, .slice none 0 0]) hB (fun _ => lies_S (by constructor <;> omega) (by constructor <;> omega) (by decide) hh headed_nil hl (by rw [liesM]; trivial)) ?_
  have h1 := wtL_le hw
  have h2 : us.length * N ≤ 4 * N := Nat.mul_le_mul_right _ h4
  have z0 : (⟨#[]⟩ : ByteArray).size = 0 := rfl
  simp only [V.wt, wtM]; omega

set_option maxHeartbeats 8000000 in
set_option maxRecDepth 100000 in
theorem good_list (v : V) (lv N : Nat) (cs : List Value) (w : World) (hv : v.lies false w (Old w) cs) (hlv : lv ≤ 3) (hwt : v.wt ≤ 1099511627776) (r : Int) (hr : ∀ k b i s l m, v = V.mk k b i s l m → Int.tmod k 6 = r) (hc : r = 4 ∨ r = -4)
    (ih : ∀ (x : V) (cs : List Value) (W : World), x.lies false W (Old W) cs → x.wt ≤ 1099511627776 → Calls Tryd.prog 14 #[.agg cs.toArray, .int .i64 ((lv : Int) + 1)] W (GoodPost N W)) : Calls Tryd.prog 14 #[.agg cs.toArray, .int .i64 (lv : Int)] w (GoodPost (1 + 4 * N) w) := by
  obtain ⟨k, b, i, s, l, m⟩ := v
  have hr := hr k b i s l m rfl
  rw [V.lies] at hv
  obtain ⟨al, cl, bl, ol, am, cm, bm, om, rfl, hk, hi, hs, hal, ham, hl1, hm1, _⟩ := hv
  have HL : Hid (liesL false w (Old w) l bl ol) := hl1
  clear hl1 hm1
  rw [V.wt] at hwt
  have hlm := wtL_len l
  have IH : Hid (∀ (x : V) (cs : List Value) (W : World), x.lies false W (Old W) cs → x.wt ≤ 1099511627776 → Calls Tryd.prog 14 #[.agg cs.toArray, .int .i64 ((lv : Int) + 1)] W (GoodPost N W)) := ih
  clear ih
  obtain ⟨i0, hi0, hz0, hz1, hz2⟩ := info_parts info25
  have hI : Hid (Tryd.prog.info? 25 = some i0 ∧ i0.zero = some (.agg #[.int .i64 0, .bool false, .int .i64 0, .string ⟨#[]⟩, .slice none 0 0, .slice none 0 0]) ∧ i0.size = 6 ∧ i0.bytes = 88) := ⟨hi0, hz0, hz1, hz2⟩
  clear hi0 hz0 hz1 hz2
  have hwr : IntKind.i64.wrap (Int.tmod k 6) = r := by
    rw [hr]
    rcases hc with rfl | rfl <;> rfl
  have hl3 : ¬ (lv : Int) > 3 := by omega
  have T0 : Hid (TwF w #[.int .i64 k, .bool b, .int .i64 i, .string s, .slice al l.length cl, .slice am m.length cm] #[.int .i64 4, .bool false, .int .i64 0, .string ⟨#[]⟩, .slice none 0 0, .slice none 0 0] (((w.alloc (.cells #[.int .i64 k, .bool b, .int .i64 i, .string s, .slice al l.length cl, .slice am m.length cm] 25)).alloc (.cells #[.int .i64 0, .bool false, .int .i64 0, .string ⟨#[]⟩, .slice none 0 0, .slice none 0 0] 25)).alloc (.cells #[.int .i64 4, .bool false, .int .i64 0, .string ⟨#[]⟩, .slice none 0 0, .slice none 0 0] 25))) := ⟨three_below w _ _ _, (three_allocs w _ _ _).1, (three_allocs w _ _ _).2.1, (three_allocs w _ _ _).2.2⟩
  rcases hc with rfl | rfl
  · go_enter Tryd.func14, Tryd.ntmps14
    go_wp2_with fail
    go_loopw [7] (fun e wr => ∃ (j : Nat) (us : List V) (slv : Value) (SL : Nat → Prop), us.length = j ∧ j ≤ 4 ∧ j ≤ l.length ∧ e = .int .i64 (j : Int) ∧ (∀ u ∈ us, u.wt ≤ N) ∧ Hid ((slv = .slice none 0 0 ∧ us = []) ∨ ∃ g c, slv = .slice (some ⟨g, 0, none⟩) us.length c) ∧ TwF w #[.int .i64 k, .bool b, .int .i64 i, .string s, .slice al l.length cl, .slice am m.length cm] #[.int .i64 4, .bool false, .int .i64 0, .string ⟨#[]⟩, slv, .slice none 0 0] wr ∧ OwnL false wr (w.heap.size + 3) SL slv (us.map some)) (fun e _ => 4 - (RowKit.intOf e).toNat)
    case atStart => exact ⟨0, [], .slice none 0 0, _, rfl, by omega, by omega, rfl, fun u hu => (by cases hu), Or.inl ⟨rfl, rfl⟩, T0.out, by simpa using OwnR.nil _ _⟩
    case round =>
      clear T0
      obtain ⟨j, us, slv, SL, hus, hj4, hj, rfl, hwu, hsh, tj, oj⟩ := hrel
      have d4 : wr.cell? ⟨w.heap.size, 4, none⟩ = some (.slice al l.length cl) := by rw [cell_of_block tj.b0]; rfl
      by_cases hjl : j < l.length
      · have y1 : (j : Int) < l.length := by omega
        by_cases h4 : j < 4
        · have y2 : (j : Int) < 4 := by omega
          obtain ⟨hSb, csj, hrow, hlj⟩ := liesL_get HL.out j hjl
          obtain rfl : al = some ⟨bl, ol, none⟩ := hal.at_.resolve_left (by omega)
          have hkw : ∀ b, Old w b → wr.heap[b]? = w.heap[b]? := fun b hb => tj.below.block b hb
          have hrow' := hrow.keep (hkw _ hSb)
          have hlj' := V.lies_keep (R' := false) (S' := Old wr) (fun h => h) hkw (fun x h => Nat.lt_of_lt_of_le h tj.below.size) _ hlj
          have hc1 := IH.out l[j] csj wr hlj' (by have := wtL_mem (List.getElem_mem hjl); omega)
          obtain ⟨ek, eb, ei, es, eal, enl, ecl, eam, enm, ecm, rfl⟩ := V.ten hlj
          obtain ⟨q0, q1, q2, q3, q4, q5⟩ := row6 hrow'
          clear hlj hlj' hrow hrow'
          go_wp2_with fail
          refine hc1.mono ?_
          rintro e w3 ⟨u, csu, rfl, hlu, hwu1, b3⟩
          obtain ⟨uk, ub, ui, us', ual, unl, ucl, uam, unm, ucm, rfl⟩ := V.ten hlu
          have t3 := tj.grown (grown_of_below b3) (fun r e => by cases e)
          have o3 := oj.below (keepL false) b3
          have e4 : ∀ o, (w3.alloc o).cell? ⟨w.heap.size + 1 + 1, 4, none⟩ = some slv := fun o => by rw [cell_of_block (t3.grown (World.grownBy_alloc w3 o none) (fun r e => by cases e)).b2]; rfl
          have hw3 : w.heap.size + 3 ≤ w3.heap.size := t3.lt
          have hown : ∀ r, slv.ownBlock = some r → w.heap.size + 3 ≤ r ∧ r < wr.heap.size := fun r hr => oj.lt hr
          have HK : Hid (∀ b, New wr w3 b → w.heap.size + 3 ≤ b ∧ b < w3.heap.size ∧ some b ≠ slv.ownBlock) := fun b hb => ⟨by have := tj.lt; have := hb.1; omega, hb.2, fun e => by have := (hown b e.symm).2; have := hb.1; omega⟩
          have hll : (us.map some).length = us.length := by simp
          go_wp2_with (at_builtin; go_loud (refine wpl_push (keepL false) _ rfl (.tmp 65) (.tmp 67) 22 rfl (w.heap.size + 3) i0 _ 88 Tryd.underlying22 hI.out.1 hI.out.2.1 hI.out.2.2.1 hI.out.2.2.2 rfl (by decide) (by decide) slv (some u) rfl ((o3.alloc (keepL false) _).alloc (keepL false) _) (w3.heap.size + 1) 1 (0, 0) rfl (alloc2_new w3 _ _) rfl one6 (keepL false _ _ _ _ _ _ (fun b hb => alloc2_keep w3 _ _ hb.2) (fun _ h => h) hlu) (fun b hb => alloc2_off (HK.out b hb)) (by rw [hll]; omega) (by rw [alloc_size, alloc_size]; omega) ?_))
          intro g cap' w5 o5 g5 e5

          have t5 := ((t3.grown (World.grownBy_alloc w3 _ none) (fun r e => by cases e)).grown (World.grownBy_alloc _ _ none) (fun r e => by cases e)).grown g5 (fun r e => (hown r e).1)
          have e6 : w5.cell? ⟨w.heap.size + 1 + 1, 4, none⟩ = some slv := by rw [cell_of_block t5.b2]; rfl
          have e7 : w5.frozen? ⟨w.heap.size + 1 + 1, 4, none⟩ = false := frozen_of_block t5.b2 4
          go_wp2_with fail
          go_roundw
          case rel => exact ⟨j + 1, us ++ [u], .slice (some ⟨g, 0, none⟩) (j + 1) cap', _, by simp [hus], by omega, by omega, by go_num, fun x hx => (List.mem_append.1 hx).elim (hwu x) (fun h => by rw [List.mem_singleton.1 h]; exact hwu1), Or.inr ⟨g, cap', by simp [hus]⟩, t5.set 4 _ rfl, by rw [List.map_append]; exact o5.set (keepL false) (show w.heap.size + 1 + 1 < w.heap.size + 3 by omega) _ _⟩
          case measure => simp [RowKit.intOf]; omega
        · obtain rfl : j = 4 := by omega
          have y2 : ¬ ((4 : Nat) : Int) < 4 := by omega
          obtain ⟨ao, cap, rfl⟩ : ∃ ao cap, slv = .slice ao us.length cap := by
            rcases hsh.out with ⟨rfl, rfl⟩ | ⟨g, c, rfl⟩
            · exact ⟨_, _, rfl⟩
            · exact ⟨_, _, rfl⟩
          have x0 : wr.cell? ⟨w.heap.size + 1 + 1, 0, none⟩ = some (.int .i64 4) := by rw [cell_of_block tj.b2]; rfl
          have r0 : wr.cell? ⟨w.heap.size + 1, 0, none⟩ = some (.int .i64 0) := by rw [cell_of_block tj.b1]; rfl
          have x1 : wr.cell? ⟨w.heap.size + 1 + 1, 1, none⟩ = some (.bool false) := by rw [cell_of_block tj.b2]; rfl
          have r1 : wr.cell? ⟨w.heap.size + 1, 1, none⟩ = some (.bool false) := by rw [cell_of_block tj.b1]; rfl
          have x2 : wr.cell? ⟨w.heap.size + 1 + 1, 2, none⟩ = some (.int .i64 0) := by rw [cell_of_block tj.b2]; rfl
          have r2 : wr.cell? ⟨w.heap.size + 1, 2, none⟩ = some (.int .i64 0) := by rw [cell_of_block tj.b1]; rfl
          have x3 : wr.cell? ⟨w.heap.size + 1 + 1, 3, none⟩ = some (.string ⟨#[]⟩) := by rw [cell_of_block tj.b2]; rfl
          have r3 : wr.cell? ⟨w.heap.size + 1, 3, none⟩ = some (.string ⟨#[]⟩) := by rw [cell_of_block tj.b1]; rfl
          have x4 : wr.cell? ⟨w.heap.size + 1 + 1, 4, none⟩ = some (.slice ao us.length cap) := by rw [cell_of_block tj.b2]; rfl
          have r4 : wr.cell? ⟨w.heap.size + 1, 4, none⟩ = some (.slice none 0 0) := by rw [cell_of_block tj.b1]; rfl
          have x5 : wr.cell? ⟨w.heap.size + 1 + 1, 5, none⟩ = some (.slice none 0 0) := by rw [cell_of_block tj.b2]; rfl
          have r5 : wr.cell? ⟨w.heap.size + 1, 5, none⟩ = some (.slice none 0 0) := by rw [cell_of_block tj.b1]; rfl
          have rf : ∀ i, wr.frozen? ⟨w.heap.size + 1, i, none⟩ = false := frozen_of_block tj.b1
          have hB7 := tj.below
          have hlt := tj.lt
          have HO : Hid (OwnL false wr (w.heap.size + 3) SL (.slice ao us.length cap) (us.map some)) := oj
          clear oj tj
          go_wp2_with fail
          (try simp only [Exit.inBlock, Exit.then])
          refine bodyPost_ret (v := .agg #[.int .i64 4, .bool false, .int .i64 0, .string ⟨#[]⟩, .slice ao us.length cap, .slice none 0 0]) (by rw [results_cell1 rfl]; go_simp) rfl ?_
          exact list_fin (Below.set6 hB7 (by omega) _ _ _ _ _ _ _ _ _ _ _ _) (by omega) (OwnL.set6 HO.out (by omega) _ _ _ _ _ _ _ _ _ _ _ _) hsh.out (by omega) hwu
      · obtain rfl : j = l.length := by omega
        have y1 : ¬ (l.length : Int) < l.length := by omega
        obtain ⟨ao, cap, rfl⟩ : ∃ ao cap, slv = .slice ao us.length cap := by
          rcases hsh.out with ⟨rfl, rfl⟩ | ⟨g, c, rfl⟩
          · exact ⟨_, _, rfl⟩
          · exact ⟨_, _, rfl⟩
        have x0 : wr.cell? ⟨w.heap.size + 1 + 1, 0, none⟩ = some (.int .i64 4) := by rw [cell_of_block tj.b2]; rfl
        have r0 : wr.cell? ⟨w.heap.size + 1, 0, none⟩ = some (.int .i64 0) := by rw [cell_of_block tj.b1]; rfl
        have x1 : wr.cell? ⟨w.heap.size + 1 + 1, 1, none⟩ = some (.bool false) := by rw [cell_of_block tj.b2]; rfl
        have r1 : wr.cell? ⟨w.heap.size + 1, 1, none⟩ = some (.bool false) := by rw [cell_of_block tj.b1]; rfl
        have x2 : wr.cell? ⟨w.heap.size + 1 + 1, 2, none⟩ = some (.int .i64 0) := by rw [cell_of_block tj.b2]; rfl
        have r2 : wr.cell? ⟨w.heap.size + 1, 2, none⟩ = some (.int .i64 0) := by rw [cell_of_block tj.b1]; rfl
        have x3 : wr.cell? ⟨w.heap.size + 1 + 1, 3, none⟩ = some (.string ⟨#[]⟩) := by rw [cell_of_block tj.b2]; rfl
        have r3 : wr.cell? ⟨w.heap.size + 1, 3, none⟩ = some (.string ⟨#[]⟩) := by rw [cell_of_block tj.b1]; rfl
        have x4 : wr.cell? ⟨w.heap.size + 1 + 1, 4, none⟩ = some (.slice ao us.length cap) := by rw [cell_of_block tj.b2]; rfl
        have r4 : wr.cell? ⟨w.heap.size + 1, 4, none⟩ = some (.slice none 0 0) := by rw [cell_of_block tj.b1]; rfl
        have x5 : wr.cell? ⟨w.heap.size + 1 + 1, 5, none⟩ = some (.slice none 0 0) := by rw [cell_of_block tj.b2]; rfl
        have r5 : wr.cell? ⟨w.heap.size + 1, 5, none⟩ = some (.slice none 0 0) := by rw [cell_of_block tj.b1]; rfl
        have rf : ∀ i, wr.frozen? ⟨w.heap.size + 1, i, none⟩ = false := frozen_of_block tj.b1
        have hB7 := tj.below
        have hlt := tj.lt
        have HO : Hid (OwnL false wr (w.heap.size + 3) SL (.slice ao us.length cap) (us.map some)) := oj
        clear oj tj
        go_wp2_with fail
        (try simp only [Exit.inBlock, Exit.then])
        refine bodyPost_ret (v := .agg #[.int .i64 4, .bool false, .int .i64 0, .string ⟨#[]⟩, .slice ao us.length cap, .slice none 0 0]) (by rw [results_cell1 rfl]; go_simp) rfl ?_
        exact list_fin (Below.set6 hB7 (by omega) _ _ _ _ _ _ _ _ _ _ _ _) (by omega) (OwnL.set6 HO.out (by omega) _ _ _ _ _ _ _ _ _ _ _ _) hsh.out (by omega) hwu
  · go_enter Tryd.func14, Tryd.ntmps14
    go_wp2_with fail
    go_loopw [7] (fun e wr => ∃ (j : Nat) (us : List V) (slv : Value) (SL : Nat → Prop), us.length = j ∧ j ≤ 4 ∧ j ≤ l.length ∧ e = .int .i64 (j : Int) ∧ (∀ u ∈ us, u.wt ≤ N) ∧ Hid ((slv = .slice none 0 0 ∧ us = []) ∨ ∃ g c, slv = .slice (some ⟨g, 0, none⟩) us.length c) ∧ TwF w #[.int .i64 k, .bool b, .int .i64 i, .string s, .slice al l.length cl, .slice am m.length cm] #[.int .i64 4, .bool false, .int .i64 0, .string ⟨#[]⟩, slv, .slice none 0 0] wr ∧ OwnL false wr (w.heap.size + 3) SL slv (us.map some)) (fun e _ => 4 - (RowKit.intOf e).toNat)
    case atStart => exact ⟨0, [], .slice none 0 0, _, rfl, by omega, by omega, rfl, fun u hu => (by cases hu), Or.inl ⟨rfl, rfl⟩, T0.out, by simpa using OwnR.nil _ _⟩
    case round =>
      clear T0
      obtain ⟨j, us, slv, SL, hus, hj4, hj, rfl, hwu, hsh, tj, oj⟩ := hrel
      have d4 : wr.cell? ⟨w.heap.size, 4, none⟩ = some (.slice al l.length cl) := by rw [cell_of_block tj.b0]; rfl
      by_cases hjl : j < l.length
      · have y1 : (j : Int) < l.length := by omega
        by_cases h4 : j < 4
        · have y2 : (j : Int) < 4 := by omega
          obtain ⟨hSb, csj, hrow, hlj⟩ := liesL_get HL.out j hjl
          obtain rfl : al = some ⟨bl, ol, none⟩ := hal.at_.resolve_left (by omega)
          have hkw : ∀ b, Old w b → wr.heap[b]? = w.heap[b]? := fun b hb => tj.below.block b hb
          have hrow' := hrow.keep (hkw _ hSb)
          have hlj' := V.lies_keep (R' := false) (S' := Old wr) (fun h => h) hkw (fun x h => Nat.lt_of_lt_of_le h tj.below.size) _ hlj
          have hc1 := IH.out l[j] csj wr hlj' (by have := wtL_mem (List.getElem_mem hjl); omega)
          obtain ⟨ek, eb, ei, es, eal, enl, ecl, eam, enm, ecm, rfl⟩ := V.ten hlj
          obtain ⟨q0, q1, q2, q3, q4, q5⟩ := row6 hrow'
          clear hlj hlj' hrow hrow'
          go_wp2_with fail
          refine hc1.mono ?_
          rintro e w3 ⟨u, csu, rfl, hlu, hwu1, b3⟩
          obtain ⟨uk, ub, ui, us', ual, unl, ucl, uam, unm, ucm, rfl⟩ := V.ten hlu
          have t3 := tj.grown (grown_of_below b3) (fun r e => by cases e)
          have o3 := oj.below (keepL false) b3
          have e4 : ∀ o, (w3.alloc o).cell? ⟨w.heap.size + 1 + 1, 4, none⟩ = some slv := fun o => by rw [cell_of_block (t3.grown (World.grownBy_alloc w3 o none) (fun r e => by cases e)).b2]; rfl
          have hw3 : w.heap.size + 3 ≤ w3.heap.size := t3.lt
          have hown : ∀ r, slv.ownBlock = some r → w.heap.size + 3 ≤ r ∧ r < wr.heap.size := fun r hr => oj.lt hr
          have HK : Hid (∀ b, New wr w3 b → w.heap.size + 3 ≤ b ∧ b < w3.heap.size ∧ some b ≠ slv.ownBlock) := fun b hb => ⟨by have := tj.lt; have := hb.1; omega, hb.2, fun e => by have := (hown b e.symm).2; have := hb.1; omega⟩
          have hll : (us.map some).length = us.length := by simp
          go_wp2_with (at_builtin; go_loud (refine wpl_push (keepL false) _ rfl (.tmp 65) (.tmp 67) 22 rfl (w.heap.size + 3) i0 _ 88 Tryd.underlying22 hI.out.1 hI.out.2.1 hI.out.2.2.1 hI.out.2.2.2 rfl (by decide) (by decide) slv (some u) rfl ((o3.alloc (keepL false) _).alloc (keepL false) _) (w3.heap.size + 1) 1 (0, 0) rfl (alloc2_new w3 _ _) rfl one6 (keepL false _ _ _ _ _ _ (fun b hb => alloc2_keep w3 _ _ hb.2) (fun _ h => h) hlu) (fun b hb => alloc2_off (HK.out b hb)) (by rw [hll]; omega) (by rw [alloc_size, alloc_size]; omega) ?_))
          intro g cap' w5 o5 g5 e5

          have t5 := ((t3.grown (World.grownBy_alloc w3 _ none) (fun r e => by cases e)).grown (World.grownBy_alloc _ _ none) (fun r e => by cases e)).grown g5 (fun r e => (hown r e).1)
          have e6 : w5.cell? ⟨w.heap.size + 1 + 1, 4, none⟩ = some slv := by rw [cell_of_block t5.b2]; rfl
          have e7 : w5.frozen? ⟨w.heap.size + 1 + 1, 4, none⟩ = false := frozen_of_block t5.b2 4
          go_wp2_with fail
          go_roundw
          case rel => exact ⟨j + 1, us ++ [u], .slice (some ⟨g, 0, none⟩) (j + 1) cap', _, by simp [hus], by omega, by omega, by go_num, fun x hx => (List.mem_append.1 hx).elim (hwu x) (fun h => by rw [List.mem_singleton.1 h]; exact hwu1), Or.inr ⟨g, cap', by simp [hus]⟩, t5.set 4 _ rfl, by rw [List.map_append]; exact o5.set (keepL false) (show w.heap.size + 1 + 1 < w.heap.size + 3 by omega) _ _⟩
          case measure => simp [RowKit.intOf]; omega
        · obtain rfl : j = 4 := by omega
          have y2 : ¬ ((4 : Nat) : Int) < 4 := by omega
          obtain ⟨ao, cap, rfl⟩ : ∃ ao cap, slv = .slice ao us.length cap := by
            rcases hsh.out with ⟨rfl, rfl⟩ | ⟨g, c, rfl⟩
            · exact ⟨_, _, rfl⟩
            · exact ⟨_, _, rfl⟩
          have x0 : wr.cell? ⟨w.heap.size + 1 + 1, 0, none⟩ = some (.int .i64 4) := by rw [cell_of_block tj.b2]; rfl
          have r0 : wr.cell? ⟨w.heap.size + 1, 0, none⟩ = some (.int .i64 0) := by rw [cell_of_block tj.b1]; rfl
          have x1 : wr.cell? ⟨w.heap.size + 1 + 1, 1, none⟩ = some (.bool false) := by rw [cell_of_block tj.b2]; rfl
          have r1 : wr.cell? ⟨w.heap.size + 1, 1, none⟩ = some (.bool false) := by rw [cell_of_block tj.b1]; rfl
          have x2 : wr.cell? ⟨w.heap.size + 1 + 1, 2, none⟩ = some (.int .i64 0) := by rw [cell_of_block tj.b2]; rfl
          have r2 : wr.cell? ⟨w.heap.size + 1, 2, none⟩ = some (.int .i64 0) := by rw [cell_of_block tj.b1]; rfl
          have x3 : wr.cell? ⟨w.heap.size + 1 + 1, 3, none⟩ = some (.string ⟨#[]⟩) := by rw [cell_of_block tj.b2]; rfl
          have r3 : wr.cell? ⟨w.heap.size + 1, 3, none⟩ = some (.string ⟨#[]⟩) := by rw [cell_of_block tj.b1]; rfl
          have x4 : wr.cell? ⟨w.heap.size + 1 + 1, 4, none⟩ = some (.slice ao us.length cap) := by rw [cell_of_block tj.b2]; rfl
          have r4 : wr.cell? ⟨w.heap.size + 1, 4, none⟩ = some (.slice none 0 0) := by rw [cell_of_block tj.b1]; rfl
          have x5 : wr.cell? ⟨w.heap.size + 1 + 1, 5, none⟩ = some (.slice none 0 0) := by rw [cell_of_block tj.b2]; rfl
          have r5 : wr.cell? ⟨w.heap.size + 1, 5, none⟩ = some (.slice none 0 0) := by rw [cell_of_block tj.b1]; rfl
          have rf : ∀ i, wr.frozen? ⟨w.heap.size + 1, i, none⟩ = false := frozen_of_block tj.b1
          have hB7 := tj.below
          have hlt := tj.lt
          have HO : Hid (OwnL false wr (w.heap.size + 3) SL (.slice ao us.length cap) (us.map some)) := oj
          clear oj tj
          go_wp2_with fail
          (try simp only [Exit.inBlock, Exit.then])
          refine bodyPost_ret (v := .agg #[.int .i64 4, .bool false, .int .i64 0, .string ⟨#[]⟩, .slice ao us.length cap, .slice none 0 0]) (by rw [results_cell1 rfl]; go_simp) rfl ?_
          exact list_fin (Below.set6 hB7 (by omega) _ _ _ _ _ _ _ _ _ _ _ _) (by omega) (OwnL.set6 HO.out (by omega) _ _ _ _ _ _ _ _ _ _ _ _) hsh.out (by omega) hwu
      · obtain rfl : j = l.length := by omega
        have y1 : ¬ (l.length : Int) < l.length := by omega
        obtain ⟨ao, cap, rfl⟩ : ∃ ao cap, slv = .slice ao us.length cap := by
          rcases hsh.out with ⟨rfl, rfl⟩ | ⟨g, c, rfl⟩
          · exact ⟨_, _, rfl⟩
          · exact ⟨_, _, rfl⟩
        have x0 : wr.cell? ⟨w.heap.size + 1 + 1, 0, none⟩ = some (.int .i64 4) := by rw [cell_of_block tj.b2]; rfl
        have r0 : wr.cell? ⟨w.heap.size + 1, 0, none⟩ = some (.int .i64 0) := by rw [cell_of_block tj.b1]; rfl
        have x1 : wr.cell? ⟨w.heap.size + 1 + 1, 1, none⟩ = some (.bool false) := by rw [cell_of_block tj.b2]; rfl
        have r1 : wr.cell? ⟨w.heap.size + 1, 1, none⟩ = some (.bool false) := by rw [cell_of_block tj.b1]; rfl
        have x2 : wr.cell? ⟨w.heap.size + 1 + 1, 2, none⟩ = some (.int .i64 0) := by rw [cell_of_block tj.b2]; rfl
        have r2 : wr.cell? ⟨w.heap.size + 1, 2, none⟩ = some (.int .i64 0) := by rw [cell_of_block tj.b1]; rfl
        have x3 : wr.cell? ⟨w.heap.size + 1 + 1, 3, none⟩ = some (.string ⟨#[]⟩) := by rw [cell_of_block tj.b2]; rfl
        have r3 : wr.cell? ⟨w.heap.size + 1, 3, none⟩ = some (.string ⟨#[]⟩) := by rw [cell_of_block tj.b1]; rfl
        have x4 : wr.cell? ⟨w.heap.size + 1 + 1, 4, none⟩ = some (.slice ao us.length cap) := by rw [cell_of_block tj.b2]; rfl
        have r4 : wr.cell? ⟨w.heap.size + 1, 4, none⟩ = some (.slice none 0 0) := by rw [cell_of_block tj.b1]; rfl
        have x5 : wr.cell? ⟨w.heap.size + 1 + 1, 5, none⟩ = some (.slice none 0 0) := by rw [cell_of_block tj.b2]; rfl
        have r5 : wr.cell? ⟨w.heap.size + 1, 5, none⟩ = some (.slice none 0 0) := by rw [cell_of_block tj.b1]; rfl
        have rf : ∀ i, wr.frozen? ⟨w.heap.size + 1, i, none⟩ = false := frozen_of_block tj.b1
        have hB7 := tj.below
        have hlt := tj.lt
        have HO : Hid (OwnL false wr (w.heap.size + 3) SL (.slice ao us.length cap) (us.map some)) := oj
        clear oj tj
        go_wp2_with fail
        (try simp only [Exit.inBlock, Exit.then])
        refine bodyPost_ret (v := .agg #[.int .i64 4, .bool false, .int .i64 0, .string ⟨#[]⟩, .slice ao us.length cap, .slice none 0 0]) (by rw [results_cell1 rfl]; go_simp) rfl ?_
        exact list_fin (Below.set6 hB7 (by omega) _ _ _ _ _ _ _ _ _ _ _ _) (by omega) (OwnL.set6 HO.out (by omega) _ _ _ _ _ _ _ _ _ _ _ _) hsh.out (by omega) hwu
end Go.Proofs.YtljgofmmihmmfaaDoor
