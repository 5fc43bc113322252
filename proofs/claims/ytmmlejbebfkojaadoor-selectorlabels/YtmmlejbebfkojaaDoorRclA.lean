import Derived.Test.YtmmlejbebfkojaaDoorClnA
/- the document's clone. -/
set_option linter.unusedSimpArgs false
set_option linter.unusedVariables false
namespace Go.Proofs.YtmmlejbebfkojaaDoor
open Go.RowKit
/-- a row of one's own, as a list -/
theorem own_listL {w : World} {N : Nat} {S : Nat → Prop} {v : Value} {l : List V} (h : OwnL false w N S v (l.map some)) : ∃ a c b o, v = .slice a l.length c ∧ Headed a l.length c b o ∧ liesL false w (From N w) l b o := by
  have h' := h
  obtain ⟨⟨xs, h1, h2⟩, h3⟩ := h'
  rcases h1.2 with ⟨rfl, e⟩ | ⟨g, cap, cur, rfl, _⟩
  · have e0 : l.length = 0 := by simpa using e
    have : l = [] := List.length_eq_zero_iff.1 e0
    subst this
    exact ⟨none, 0, 0, 0, rfl, headed_nil, by rw [liesL]; trivial⟩
  · have hle := h.le
    have hlt := h.lt (g := g) rfl
    simp only [List.length_map] at hle ⊢
    refine ⟨_, cap, g, 0, rfl, ⟨hle.1, hle.2, .inr rfl, fun h => by cases h⟩, liesL_mk fun j hj => ⟨hlt, ?_⟩⟩
    obtain ⟨cs, k1, k2⟩ := h.at (by simp) j (by simpa using hj)
    rw [List.getElem_map] at k2
    exact ⟨cs, k1, V.lies_keep (fun h => h) (fun _ _ => rfl) (fun b hb => ⟨(h.off b hb).1, (h.off b hb).2.1⟩) _ k2⟩
theorem own_listM {w : World} {N : Nat} {S : Nat → Prop} {v : Value} {l : List Mem} (h : OwnM false w N S v (l.map some)) : ∃ a c b o, v = .slice a l.length c ∧ Headed a l.length c b o ∧ liesM false w (From N w) l b o := by
  have h' := h
  obtain ⟨⟨xs, h1, h2⟩, h3⟩ := h'
  rcases h1.2 with ⟨rfl, e⟩ | ⟨g, cap, cur, rfl, _⟩
  · have e0 : l.length = 0 := by simpa using e
    have : l = [] := List.length_eq_zero_iff.1 e0
    subst this
    exact ⟨none, 0, 0, 0, rfl, headed_nil, by rw [liesM]; trivial⟩
  · have hle := h.le
    have hlt := h.lt (g := g) rfl
    simp only [List.length_map] at hle ⊢
    refine ⟨_, cap, g, 0, rfl, ⟨hle.1, hle.2, .inr rfl, fun h => by cases h⟩, liesM_mk fun j hj => ?_⟩
    obtain ⟨cs, k1, k2⟩ := h.at (by simp) j (by simpa using hj)
    rw [List.getElem_map] at k2
    obtain ⟨cs', rfl, hks, k3⟩ := k2
    exact ⟨hlt, hks, cs', k1, V.lies_keep (fun h => h) (fun _ _ => rfl) (fun b hb => ⟨(h.off b hb).1, (h.off b hb).2.1⟩) _ k3⟩
set_option maxHeartbeats 4000000 in
set_option maxRecDepth 100000 in
theorem rcl_any (v : V) : ∀ (S : Nat → Prop) (cs : List Value) (w : World), v.lies false w S cs → (∀ b, S b → b < w.heap.size) → v.wt ≤ 2147483648 →
    Calls Tryd.prog 22 #[.agg cs.toArray] w (AnPost v w) := by
  induction v using V.ind_v with
  | h k b i s l m ihl ihm =>
  intro S cs w hl hS hwt
  rw [V.lies] at hl
  obtain ⟨al, cl, bl, ol, am, cm, bm, om, rfl, hk, hi, hs, hal, ham, hl1, hm1, _⟩ := hl
  have HL : Hid (liesL false w S l bl ol) := hl1
  have HM : Hid (liesM false w S m bm om) := hm1
  clear hl1 hm1
  rw [V.wt] at hwt
  have hlm := wtL_len l
  have hmm := wtM_len m
  obtain ⟨i0, hi0, hz0, hz1, hz2⟩ := info_parts info25
  obtain ⟨i1, hi1, hy0, hy1, hy2⟩ := info_parts info44
  have hI : Hid (Tryd.prog.info? 25 = some i0 ∧ i0.zero = some (.agg #[.int .i64 0, .bool false, .int .i64 0, .string ⟨#[]⟩, .slice none 0 0, .slice none 0 0]) ∧ i0.size = 6 ∧ i0.bytes = 88) := ⟨hi0, hz0, hz1, hz2⟩
  have hJ : Hid (Tryd.prog.info? 32 = some i1 ∧ i1.zero = some (.agg #[.string ⟨#[]⟩, .int .i64 0, .bool false, .int .i64 0, .string ⟨#[]⟩, .slice none 0 0, .slice none 0 0]) ∧ i1.size = 7 ∧ i1.bytes = 104) := ⟨hi1, hy0, hy1, hy2⟩
  clear hi0 hz0 hz1 hz2 hi1 hy0 hy1 hy2
  have t0 : TwF w #[.int .i64 k, .bool b, .int .i64 i, .string s, .slice al l.length cl, .slice am m.length cm] #[.int .i64 k, .bool b, .int .i64 i, .string s, .slice none 0 0, .slice none 0 0]
      (((w.alloc (.cells #[.int .i64 k, .bool b, .int .i64 i, .string s, .slice al l.length cl, .slice am m.length cm] 25)).alloc (.cells #[.int .i64 0, .bool false, .int .i64 0, .string ⟨#[]⟩, .slice none 0 0, .slice none 0 0] 25)).alloc (.cells #[.int .i64 k, .bool b, .int .i64 i, .string s, .slice none 0 0, .slice none 0 0] 25)) := by
    exact ⟨three_below w _ _ _, (three_allocs w _ _ _).1, (three_allocs w _ _ _).2.1, (three_allocs w _ _ _).2.2⟩
  go_enter Tryd.func22, Tryd.ntmps22
  go_wp2_with fail
  go_loopw [4] (fun e wr => ∃ (j : Nat) (slv : Value) (SL : Nat → Prop), j ≤ l.length ∧ e = .int .i64 (j : Int) ∧ TwF w #[.int .i64 k, .bool b, .int .i64 i, .string s, .slice al l.length cl, .slice am m.length cm] #[.int .i64 k, .bool b, .int .i64 i, .string s, slv, .slice none 0 0] wr ∧ OwnL false wr (w.heap.size + 3) SL slv ((l.map some).take j)) (fun e _ => l.length - (RowKit.intOf e).toNat)
  case atStart => exact ⟨0, _, _, by omega, rfl, t0, by simpa using OwnR.nil _ _⟩
  case round =>
    clear t0
    obtain ⟨j, slv, SL, hj, rfl, tj, oj⟩ := hrel
    have d4 : wr.cell? ⟨w.heap.size, 4, none⟩ = some (.slice al l.length cl) := by rw [cell_of_block tj.b0]; rfl
    have d5 : wr.cell? ⟨w.heap.size, 5, none⟩ = some (.slice am m.length cm) := by rw [cell_of_block tj.b0]; rfl
    by_cases hjl : j < l.length
    · have y1 : (j : Int) < l.length := by omega
      obtain ⟨hSb, csj, hrow, hlj⟩ := liesL_get HL.out j hjl
      obtain rfl : al = some ⟨bl, ol, none⟩ := hal.at_.resolve_left (by omega)
      have hkw : ∀ b, S b → wr.heap[b]? = w.heap[b]? := fun b hb => tj.below.block b (hS b hb)
      have hrow' := hrow.keep (hkw _ hSb)
      have hlj' := V.lies_keep (R' := false) (S' := S) (fun h => h) hkw (fun _ h => h) _ hlj
      have hwj : (l[j]).wt ≤ 2147483648 := by have := wtL_mem (List.getElem_mem hjl); omega
      have ih := ihl l[j] (List.getElem_mem hjl) S csj wr hlj' (fun b hb => Nat.lt_of_lt_of_le (hS b hb) tj.below.size) hwj
      have HT : Hid ((l.map some).take (j + 1) = (l.map some).take j ++ [some l[j]]) := by show _ = _; rw [List.take_succ_eq_append_getElem (by simpa using hjl), List.getElem_map]
      obtain ⟨ek, eb, ei, es, eal, enl, ecl, eam, enm, ecm, rfl⟩ := V.ten hlj'
      obtain ⟨q0, q1, q2, q3, q4, q5⟩ := row6 hrow'
      have hll : ((l.map some).take j).length = j := by simp; omega
      obtain ⟨xv, hxv⟩ : ∃ xv, l[j] = xv := ⟨_, rfl⟩
      rw [hxv] at ih HT
      clear hlj hrow hrow' hlj' hxv hwj
      go_wp2_with fail
      refine ih.mono ?_
      rintro e w3 ⟨csu, rfl, hx3, bl3⟩
      obtain ⟨uk, ub, ui, us, ual, unl, ucl, uam, unm, ucm, rfl⟩ := V.ten hx3
      have t3 := tj.grown (grown_of_below bl3) (fun r e => by cases e)
      have o3 := oj.below (keepL false) bl3
      have e4 : ∀ o, (w3.alloc o).cell? ⟨w.heap.size + 1 + 1, 4, none⟩ = some slv := fun o => by rw [cell_of_block (t3.grown (World.grownBy_alloc w3 o none) (fun r e => by cases e)).b2]; rfl
      have hw3 : w.heap.size + 3 ≤ w3.heap.size := t3.lt
      have hown : ∀ r, slv.ownBlock = some r → w.heap.size + 3 ≤ r ∧ r < wr.heap.size := fun r hr => oj.lt hr
      have HK : Hid (∀ b, wr.heap.size ≤ b ∧ b < w3.heap.size → w.heap.size + 3 ≤ b ∧ b < w3.heap.size ∧ some b ≠ slv.ownBlock) := fun b hb => ⟨by have := tj.lt; omega, hb.2, fun e => by have := (hown b e.symm).2; omega⟩
      go_wp2_with (at_builtin; go_loud (refine wpl_push (keepL false) _ rfl (.tmp 31) (.tmp 33) 22 rfl (w.heap.size + 3) i0 _ 88 Tryd.underlying22 hI.out.1 hI.out.2.1 hI.out.2.2.1 hI.out.2.2.2 rfl (by decide) (by decide) slv (some xv) rfl ((o3.alloc (keepL false) _).alloc (keepL false) _) (w3.heap.size + 1) 1 (0, 0) rfl (alloc2_new w3 _ _) rfl one6 (keepL false _ _ _ _ _ _ (fun b hb => alloc2_keep w3 _ _ hb.2) (fun _ h => h) hx3) (fun b hb => alloc2_off (HK.out b hb)) (by rw [hll]; omega) (by rw [alloc_size, alloc_size]; omega) ?_))
      intro g cap w5 o5 g5 e5
      have t5 := ((t3.grown (World.grownBy_alloc w3 _ none) (fun r e => by cases e)).grown (World.grownBy_alloc _ _ none) (fun r e => by cases e)).grown g5 (fun r e => (hown r e).1)
      have e6 : w5.cell? ⟨w.heap.size + 1 + 1, 4, none⟩ = some slv := by rw [cell_of_block t5.b2]; rfl
      have e7 : w5.frozen? ⟨w.heap.size + 1 + 1, 4, none⟩ = false := frozen_of_block t5.b2 4
      go_wp2_with fail
      go_roundw
      case rel => exact ⟨j + 1, _, _, by omega, by go_num, t5.set 4 _ rfl, by rw [HT.out]; exact o5.set (keepL false) (by omega) _ _⟩
      case measure => simp [RowKit.intOf]; omega
    · obtain rfl : j = l.length := by omega
      have hlt : (l.map some).take l.length = l.map some := by rw [List.take_of_length_le (by simp)]
      rw [hlt] at oj
      clear hlt
      have y1 : ¬ (l.length : Int) < l.length := by omega
      rename World => wA
      have hownl : ∀ r, slv.ownBlock = some r → w.heap.size + 3 ≤ r ∧ r < wA.heap.size := fun r hr => oj.lt hr
      have hSl := oj.off
      have hA := tj.lt
      have bA := tj.below
      go_wp2_with fail
      go_loopw [6] (fun e wq => ∃ (j : Nat) (smv : Value) (SM : Nat → Prop), j ≤ m.length ∧ e = .int .i64 (j : Int) ∧ TwF w #[.int .i64 k, .bool b, .int .i64 i, .string s, .slice al l.length cl, .slice am m.length cm] #[.int .i64 k, .bool b, .int .i64 i, .string s, slv, smv] wq ∧ wA.heap.size ≤ wq.heap.size ∧ OwnL false wq (w.heap.size + 3) SL slv (l.map some) ∧ OwnM false wq wA.heap.size SM smv ((m.map some).take j)) (fun e _ => m.length - (RowKit.intOf e).toNat)
      case atStart => exact ⟨0, _, _, by omega, rfl, tj, Nat.le_refl _, oj, by simpa using OwnR.nil _ _⟩
      case round =>
        clear tj oj d4 d5
        obtain ⟨j, smv, SM, hj, rfl, tj, bq, oL, oj⟩ := hrel
        have d4 : wr.cell? ⟨w.heap.size, 4, none⟩ = some (.slice al l.length cl) := by rw [cell_of_block tj.b0]; rfl
        have d5 : wr.cell? ⟨w.heap.size, 5, none⟩ = some (.slice am m.length cm) := by rw [cell_of_block tj.b0]; rfl
        by_cases hjl : j < m.length
        · have y1 : (j : Int) < m.length := by omega
          obtain ⟨hSb, hks, csj, hrow, hlj⟩ := liesM_get HM.out j hjl
          obtain rfl : am = some ⟨bm, om, none⟩ := ham.at_.resolve_left (by omega)
          have hkw : ∀ b, S b → wr.heap[b]? = w.heap[b]? := fun b hb => tj.below.block b (hS b hb)
          have hrow' := hrow.keep (hkw _ hSb)
          have hlj' := V.lies_keep (R' := false) (S' := S) (fun h => h) hkw (fun _ h => h) _ hlj
          have hwj : (m[j]).2.wt ≤ 2147483648 := by have := wtM_mem (List.getElem_mem hjl); omega
          have ih := ihm m[j] (List.getElem_mem hjl) S csj wr hlj' (fun b hb => Nat.lt_of_lt_of_le (hS b hb) tj.below.size) hwj
          have HT : Hid ((m.map some).take (j + 1) = (m.map some).take j ++ [some m[j]]) := by show _ = _; rw [List.take_succ_eq_append_getElem (by simpa using hjl), List.getElem_map]
          obtain ⟨ek, eb, ei, es, eal, enl, ecl, eam, enm, ecm, rfl⟩ := V.ten hlj'
          rcases hxj : m[j] with ⟨key, xv⟩
          rw [hxj] at ih HT hks hrow'
          obtain ⟨q, q0, q1, q2, q3, q4, q5⟩ := row7 hrow'
          have hll : ((m.map some).take j).length = j := by simp; omega
          have hbS := hS _ hSb
          clear hlj hrow hrow' hxj hlj' hwj
          go_wp2_with fail
          refine ih.mono ?_
          rintro e w3 ⟨csu, rfl, hx3, bl3⟩
          obtain ⟨uk, ub, ui, us, ual, unl, ucl, uam, unm, ucm, rfl⟩ := V.ten hx3
          have t3 := tj.grown (grown_of_below bl3) (fun r e => by cases e)
          have o3 := oj.below (keepM false) bl3
          have p3 := oL.below (keepL false) bl3
          have hw3 : w.heap.size + 3 ≤ w3.heap.size := t3.lt
          have hown : ∀ r, smv.ownBlock = some r → wA.heap.size ≤ r ∧ r < wr.heap.size := fun r hr => oj.lt hr
          have HK : Hid (∀ b, wr.heap.size ≤ b ∧ b < w3.heap.size → wA.heap.size ≤ b ∧ b < w3.heap.size ∧ some b ≠ smv.ownBlock) := fun b hb => ⟨by omega, hb.2, fun e => by have := (hown b e.symm).2; omega⟩
          have tw : ∀ o, TwF w _ _ (w3.alloc o) := fun o => t3.grown (World.grownBy_alloc w3 o none) (fun r e => by cases e)
          have e5 : ∀ o, (w3.alloc o).cell? ⟨w.heap.size + 1 + 1, 5, none⟩ = some smv := fun o => by rw [cell_of_block (tw o).b2]; rfl
          have e5c : ∀ o o', ((w3.alloc o).alloc o').cell? ⟨w.heap.size + 1 + 1, 5, none⟩ = some smv := fun o o' => by rw [cell_of_block ((tw o).grown (World.grownBy_alloc _ o' none) (fun r e => by cases e)).b2]; rfl
          have e5b : ∀ o, (w3.alloc o).cell? ⟨w.heap.size, 5, none⟩ = some (.slice (some ⟨bm, om, none⟩) m.length cm) := fun o => by rw [cell_of_block (tw o).b0]; rfl
          have hq : ∀ (o : Obj) {u : Value} {p : Nat}, wr.cell? ⟨bm, p, none⟩ = some u → (w3.alloc o).cell? ⟨bm, p, none⟩ = some u := fun o u p h => ((grown_of_below bl3).trans' o).cell h (by simp)
          have q' := fun o => hq o q
          go_wp2_with fail
          have T5 : ∀ (o o' : Obj) (w5 : World), ((w3.alloc o).alloc o').drew.grownBy w5 smv.ownBlock → TwF w _ _ w5 ∧ OwnL false w5 (w.heap.size + 3) SL slv (l.map some) ∧ wA.heap.size ≤ w5.heap.size := fun o o' w5 g5 =>
            ⟨(((tw o).grown (World.grownBy_alloc _ o' none) (fun r e => by cases e)).grown (grown_drew _ none) (fun r e => by cases e)).grown g5 (fun r e => by have := (hown r e).1; omega),
              (((p3.alloc (keepL false) o).alloc (keepL false) o').drew (keepL false)).keep (keepL false) g5 (fun r e => ⟨fun h => by have := (hSl r h).2.1; have := (hown r e).1; omega, fun h => by have := (hownl r h).2; have := (hown r e).1; omega⟩),
              by have := g5.size; have e : ((w3.alloc o).alloc o').drew.heap.size = w3.heap.size + 1 + 1 := by show ((w3.alloc o).alloc o').heap.size = _; rw [alloc_size, alloc_size]
                 have := bl3.size; omega⟩
          go_region_law (refine step_push (keepM false) rfl (.tmp 51) (.tmp 60) 23 rfl wA.heap.size i1 _ 104 Tryd.underlying23 hJ.out.1 hJ.out.2.1 hJ.out.2.2.1 hJ.out.2.2.2 rfl (by decide) (by decide) smv (some (key, xv)) rfl (((o3.alloc (keepM false) _).alloc (keepM false) _).drew (keepM false)) (w3.heap.size + 1) 1 (0, 0) rfl (alloc2_new w3 _ _) rfl one7 (keepM false _ _ _ _ _ _ (fun b hb => alloc2_keep w3 _ _ hb.2) (fun _ h => h) ⟨_, rfl, hks, hx3⟩) (fun b hb => alloc2_off (HK.out b hb)) (by rw [hll]; omega) (by show wA.heap.size ≤ ((w3.alloc _).alloc _).heap.size; rw [alloc_size, alloc_size]; have := bl3.size; omega) ?_; intro g cap w5 o5 g5 e5; rw [hll] at o5 ⊢; obtain ⟨t5, p5, z5⟩ := T5 _ _ w5 g5; have e6 : w5.cell? ⟨w.heap.size + 1 + 1, 5, none⟩ = some smv := by { rw [cell_of_block t5.b2]; rfl }; have e7 : w5.frozen? ⟨w.heap.size + 1 + 1, 5, none⟩ = false := frozen_of_block t5.b2 5)
          all_goals go_wp2_with fail
          all_goals go_roundw
          all_goals first
            | exact ⟨j + 1, _, _, by omega, by go_num, t5.set 5 _ rfl, by simpa using z5, p5.set (keepL false) (by omega) _ _, by rw [HT.out]; exact o5.set (keepM false) (by omega) _ _⟩
            | (simp [RowKit.intOf]; omega)
        · obtain rfl : j = m.length := by omega
          have hlt : (m.map some).take m.length = m.map some := by rw [List.take_of_length_le (by simp)]
          rw [hlt] at oj
          clear hlt
          have y1 : ¬ (m.length : Int) < m.length := by omega
          have hown : ∀ r, smv.ownBlock = some r → wA.heap.size ≤ r ∧ r < wr.heap.size := fun r hr => oj.lt hr
          have hw3 := tj.lt
          obtain ⟨sa, sc, sb, so, rfl, hdl, hLs⟩ := own_listL oL
          obtain ⟨ta, tc, tb', tq, rfl, hdm, hMs⟩ := own_listM oj
          have HLs : Hid (liesL false wr (From (w.heap.size + 3) wr) l sb so) := hLs
          have HMs : Hid (liesM false wr (From (w.heap.size + 3) wr) m tb' tq) := liesM_keep (fun h => h) (fun _ _ => rfl) (fun x hx => ⟨by have := hx.1; omega, hx.2⟩) _ hMs
          have x0 : wr.cell? ⟨w.heap.size + 1 + 1, 0, none⟩ = some (.int .i64 k) := by rw [cell_of_block tj.b2]; rfl
          have x1 : wr.cell? ⟨w.heap.size + 1 + 1, 1, none⟩ = some (.bool b) := by rw [cell_of_block tj.b2]; rfl
          have x2 : wr.cell? ⟨w.heap.size + 1 + 1, 2, none⟩ = some (.int .i64 i) := by rw [cell_of_block tj.b2]; rfl
          have x3 : wr.cell? ⟨w.heap.size + 1 + 1, 3, none⟩ = some (.string s) := by rw [cell_of_block tj.b2]; rfl
          have x4 : wr.cell? ⟨w.heap.size + 1 + 1, 4, none⟩ = some (.slice sa l.length sc) := by rw [cell_of_block tj.b2]; rfl
          have x5 : wr.cell? ⟨w.heap.size + 1 + 1, 5, none⟩ = some (.slice ta m.length tc) := by rw [cell_of_block tj.b2]; rfl
          have r0 : wr.cell? ⟨w.heap.size + 1, 0, none⟩ = some (.int .i64 0) := by rw [cell_of_block tj.b1]; rfl
          have r1 : wr.cell? ⟨w.heap.size + 1, 1, none⟩ = some (.bool false) := by rw [cell_of_block tj.b1]; rfl
          have r2 : wr.cell? ⟨w.heap.size + 1, 2, none⟩ = some (.int .i64 0) := by rw [cell_of_block tj.b1]; rfl
          have r3 : wr.cell? ⟨w.heap.size + 1, 3, none⟩ = some (.string ⟨#[]⟩) := by rw [cell_of_block tj.b1]; rfl
          have r4 : wr.cell? ⟨w.heap.size + 1, 4, none⟩ = some (.slice none 0 0) := by rw [cell_of_block tj.b1]; rfl
          have r5 : wr.cell? ⟨w.heap.size + 1, 5, none⟩ = some (.slice none 0 0) := by rw [cell_of_block tj.b1]; rfl
          have rf : ∀ i, wr.frozen? ⟨w.heap.size + 1, i, none⟩ = false := frozen_of_block tj.b1
          have hB7 := tj.below
          clear oL oj tj hLs hMs hownl hSl hown HL HM ihl ihm
          go_wp2_with fail
          (try simp only [Exit.inBlock, Exit.then])
          refine bodyPost_ret (v := .agg #[.int .i64 k, .bool b, .int .i64 i, .string s, .slice sa l.length sc, .slice ta m.length tc]) ?_ rfl ?_
          · rw [results_cell1 rfl]
            go_simp
          · refine ⟨[.int .i64 k, .bool b, .int .i64 i, .string s, .slice sa l.length sc, .slice ta m.length tc], rfl, ?_, Below.set6 hB7 (by omega) _ _ _ _ _ _ _ _ _ _ _ _⟩
            have hf := lies_S (b := b) hk hi hs hdl hdm HLs.out HMs.out
            exact V.lies_keep (fun h => h) (fun _ _ => rfl) (fun x hx => ⟨by have := hx.1; omega, hx.2⟩) _ (lies_set6A hf (show w.heap.size + 1 < w.heap.size + 3 by omega) _ _ _ _ _ _ _ _ _ _ _ _)
theorem rclone_any (v : V) (R : Bool) (S : Nat → Prop) (cs : List Value) (w : World) (hv : v.lies R w S cs) (hS : ∀ b, S b → b < w.heap.size) (hwt : v.wt ≤ 2147483648) : Calls Tryd.prog 22 #[.agg cs.toArray] w (AnPost v w) :=
  rcl_any v S cs w (V.lies_keep (fun h => by cases h) (fun _ _ => rfl) (fun _ h => h) _ hv) hS hwt
end Go.Proofs.YtmmlejbebfkojaaDoor
