import Derived.Test.YtolekldjbbjmjaaGreatDoorSimJ
/- and: a demand with one term more (layer 20). -/
set_option linter.unusedSimpArgs false
set_option linter.unusedVariables false
namespace Go.Proofs.YtolekldjbbjmjaaGreatDoor
open Go.RowKit Go.Lib
abbrev encD (d : Pd) (sv nv : Value) : Value := .agg #[.bool d.h, .bool d.hn, .bool d.i, sv, nv]
def AndPost (d : Pd) (t : Trm) (sv nv : Value) (base : Nat) (w : World) (e : Ending) (w' : World) : Prop := ∃ sv' nv', e = .returned (encD (d.add t) sv' nv') ∧ OwnSt w' base (fun _ => False) sv' (d.add t).s ∧ OwnSt w' base (fun _ => False) nv' (d.add t).n ∧ w.grownBy w' nv.ownBlock ∧ (sv' = sv ∨ ∀ r, sv'.ownBlock = some r → w.heap.size ≤ r) ∧ (nv'.ownBlock = nv.ownBlock ∨ ∀ r, nv'.ownBlock = some r → w.heap.size ≤ r) ∧ ∀ r, nv'.ownBlock = some r → sv'.ownBlock ≠ some r
theorem own_setN {W : World} {base N i : Nat} {u v : Value} {l : List ByteArray} (h : OwnSt W base (fun _ => False) v l) (hv : v.ownBlock ≠ some N) : OwnSt (W.setCell ⟨N, i, none⟩ u) base (fun _ => False) v l := h.keep keepS (grown_set1 W N i u) (fun r hr => ⟨fun h => h, fun e => hv (by rw [e]; exact hr.symm)⟩)
theorem grown_setN {a b : World} {row : Option Nat} {N i : Nat} {u : Value} (h : a.grownBy b row) (hN : a.heap.size ≤ N) : a.grownBy (b.setCell ⟨N, i, none⟩ u) row := by
  have hs : (b.setCell ⟨N, i, none⟩ u).heap.size = b.heap.size := by simp [World.setCell]
  refine ⟨h.os, h.tape, h.output, by rw [hs]; exact h.size, fun k hk hn => ?_⟩
  rw [set_other7 (by omega)]
  exact h.block k hk hn
theorem wpl_catF (w : World) {ops : Array Oper} {rest : List Oper} {o : Oper} {act : Act} {Q : Exit → Act → World → Prop} (hgd : o.guard = none) (s x : Operand)
    (ho : o.op = .call { callee := .builtin .append, args := #[s, x], argTypes := #[33, 33] }) (base : Nat) {v : Value} {l0 r : List ByteArray} (hs : act.eval s = v) (hown : OwnSt w base (fun _ => False) v l0)
    (ad : Addr) (n c' : Nat) (hx : act.eval x = .slice (some ad) n c') (hn : n = r.length) (hc : ∀ k (h : k < r.length), w.cell? (ad.add k) = some (.string r[k])) (h0 : 0 < r.length) (hlen : l0.length + r.length ≤ 4294967296) (hbase : base ≤ w.heap.size)
    (h : ∀ g cap w', OwnSt w' base (fun _ => False) (.slice (some ⟨g, 0, none⟩) (l0.length + r.length) cap) (l0 ++ r) → w.grownBy w' v.ownBlock → (v.ownBlock = some g ∨ w.heap.size ≤ g) → wpList Tryz.prog ops Q rest (act.put o.dst (.slice (some ⟨g, 0, none⟩) (l0.length + r.length) cap)) w') : wpList Tryz.prog ops Q (o :: rest) act w := by
  subst hn
  refine wpList_plain hgd fun K' hK' => ?_
  obtain ⟨i, hi, hz⟩ := Option.map_eq_some_iff.1 info9
  simp only [Prod.mk.injEq] at hz
  obtain ⟨z1, z2, z3⟩ := hz
  obtain ⟨g, cap, w', hrun, r1, r2, r3⟩ := run_append_new (P := Tryz.prog) w base 33 o.type 9 i _ 1 16 Tryz.underlying33 hi z1 z2 z3 rfl (by decide) v l0.length _ (own_xs hown) ad r.length c' (r.map Value.string) (by simp) (fun j u hu => by
    have hj : j < r.length := by have := (List.getElem?_eq_some_iff.1 hu).1; simpa using this
    rw [List.getElem?_map, List.getElem?_eq_getElem hj] at hu
    rw [hc j hj]; simpa using hu) (fun u hu => by
    obtain ⟨s, _, rfl⟩ := List.mem_map.1 hu
    rfl) (by unfold maxLen; omega) (by omega) hbase h0
  unfold Oper.wp
  simp [execOp, ho, resolve, invoke, builtin, hs, hx, hrun, Result.andThen]
  exact hK' _ _ (h g cap w' (own_strs (by rw [List.length_append, List.map_append]; exact r1)) r2 r3)
theorem add1 (p1 p2 p3 : Bool) (sl nl : List ByteArray) (key : ByteArray) (vs : List ByteArray) : (Pd.mk p1 p2 p3 sl nl).add (key, 1, vs) = ⟨true, p2, p3, sl, nl⟩ := rfl
theorem add2 (p1 p2 p3 : Bool) (sl nl : List ByteArray) (key : ByteArray) (vs : List ByteArray) : (Pd.mk p1 p2 p3 sl nl).add (key, 2, vs) = ⟨p1, true, p3, sl, nl⟩ := rfl
theorem add3 (p1 p2 p3 : Bool) (sl nl : List ByteArray) (key : ByteArray) (vs : List ByteArray) : (Pd.mk p1 p2 p3 sl nl).add (key, 3, vs) = ⟨p1, p2, true, if p3 then sl.filter (amongB vs) else vs, nl⟩ := rfl
theorem add4 (p1 p2 p3 : Bool) (sl nl : List ByteArray) (key : ByteArray) (vs : List ByteArray) : (Pd.mk p1 p2 p3 sl nl).add (key, 4, vs) = ⟨p1, p2, p3, sl, nl ++ vs⟩ := rfl
theorem good_op {key : ByteArray} {op : Int} {vs : List ByteArray} (h : goodB (key, op, vs) = true) : op = 1 ∨ op = 2 ∨ ((op = 3 ∨ op = 4) ∧ 0 < vs.length) := by
  rw [goodB_is] at h
  simp only [Bool.and_eq_true] at h
  have h2 := h.2
  unfold opB at h2
  split at h2
  · rename_i h; rcases h with h | h
    · exact .inl h
    · exact .inr (.inl h)
  · split at h2
    · rename_i h
      rw [Bool.and_eq_true, decide_eq_true_eq] at h2
      exact .inr (.inr ⟨h, h2.1⟩)
    · cases h2
set_option maxHeartbeats 8000000 in
set_option maxRecDepth 100000 in
theorem and_any (d : Pd) (t : Trm) (S : Nat → Prop) (sv nv : Value) (base : Nat) (a : Option Addr) (c b o : Nat) (w : World) (hs : OwnSt w base (fun _ => False) sv d.s) (hn : OwnSt w base (fun _ => False) nv d.n) (hbase : base ≤ w.heap.size) (hss : SmallS d.s) (hsl : d.s.length ≤ 2147483647) (hnl : d.n.length ≤ 2147483647) (hh : Headed a t.2.2.length c b o) (hl : liesS w S t.2.2 b o) (hS : ∀ y, S y → y < w.heap.size) (hm : t.2.2.length ≤ 2147483647) (hg : goodB t = true) (hsep : ∀ r, nv.ownBlock = some r → sv.ownBlock ≠ some r) :
    Calls Tryz.prog 28 #[encD d sv nv, .agg #[.string t.1, .int .i64 t.2.1, .slice a t.2.2.length c]] w (AndPost d t sv nv base w) := by
  obtain ⟨p1, p2, p3, sl, nl⟩ := d
  obtain ⟨key, op, vs⟩ := t
  have hvals : valsB vs = true := good_vals hg
  have hslt : ∀ r, sv.ownBlock = some r → r < w.heap.size := fun r hr => (hs.lt hr).2
  have hnlt : ∀ r, nv.ownBlock = some r → r < w.heap.size := fun r hr => (hn.lt hr).2
  obtain ⟨sa, sc, rfl⟩ := own_slice hs
  obtain ⟨na, nc, rfl⟩ := own_slice hn
  dsimp only at hs hn hss hsl hnl hh hl hm
  have HS := hmk hs
  have HN := hmk hn
  have HSN := hmk hsep
  clear hsep
  rcases good_op hg with h1 | h1 | ⟨h1 | h1, h0⟩
  · subst h1
    clear hh hl hS hg hss hs hn hslt hnlt hvals
    go_enter Tryz.func28, Tryz.ntmps28
    go_wp2_with fail
    (try simp only [Exit.inBlock, Exit.then])
    refine bodyPost_ret (v := .agg #[.bool true, .bool p2, .bool p3, .slice sa sl.length sc, .slice na nl.length nc]) ?_ rfl ?_
    · rw [results_cell1 rfl]
      go_simp
    · refine ⟨.slice sa sl.length sc, .slice na nl.length nc, rfl, ?_, ?_, ?_, .inl rfl, .inl rfl, HSN.out⟩
      · rw [add1]; exact ((HS.out.alloc keepS _).alloc keepS _).alloc keepS _
      · rw [add1]; exact ((HN.out.alloc keepS _).alloc keepS _).alloc keepS _
      · exact grown_alloc (grown_alloc (World.grownBy_alloc w _ _) _) _
  · subst h1
    clear hh hl hS hg hss hs hn hslt hnlt hvals
    go_enter Tryz.func28, Tryz.ntmps28
    go_wp2_with fail
    (try simp only [Exit.inBlock, Exit.then])
    refine bodyPost_ret (v := .agg #[.bool p1, .bool true, .bool p3, .slice sa sl.length sc, .slice na nl.length nc]) ?_ rfl ?_
    · rw [results_cell1 rfl]
      go_simp
    · refine ⟨.slice sa sl.length sc, .slice na nl.length nc, rfl, ?_, ?_, ?_, .inl rfl, .inl rfl, HSN.out⟩
      · rw [add2]; exact ((HS.out.alloc keepS _).alloc keepS _).alloc keepS _
      · rw [add2]; exact ((HN.out.alloc keepS _).alloc keepS _).alloc keepS _
      · exact grown_alloc (grown_alloc (World.grownBy_alloc w _ _) _) _
  · subst h1
    obtain ⟨w1, hw1⟩ : ∃ w1, w.alloc (.cells #[.bool p1, .bool p2, .bool p3, .slice sa sl.length sc, .slice na nl.length nc] 70) = w1 := ⟨_, rfl⟩
    obtain ⟨w2, hw2⟩ : ∃ w2, w1.alloc (.cells #[.string key, .int .i64 3, .slice a vs.length c] 35) = w2 := ⟨_, rfl⟩
    obtain ⟨w3, hw3⟩ : ∃ w3, w2.alloc (.cells #[.bool false, .bool false, .bool false, .slice none 0 0, .slice none 0 0] 70) = w3 := ⟨_, rfl⟩
    have hz1 : w1.heap.size = w.heap.size + 1 := by rw [← hw1]; simp
    have hz2 : w2.heap.size = w.heap.size + 2 := by rw [← hw2]; simp [hz1]
    have hz3 : w3.heap.size = w.heap.size + 3 := by rw [← hw3]; simp [hz2]
    have B1 : Below w.heap.size w w1 := by rw [← hw1]; exact (Below.refl _ _).alloc (Nat.le_refl _) _
    have B2 : Below w.heap.size w w2 := by rw [← hw2]; exact B1.alloc (by omega) _
    have B3 : Below w.heap.size w w3 := by rw [← hw3]; exact B2.alloc (by omega) _
    have b12 : Below w1.heap.size w1 w2 := by rw [← hw2]; exact (Below.refl _ _).alloc (Nat.le_refl _) _
    have b23 : Below w2.heap.size w2 w3 := by rw [← hw3]; exact (Below.refl _ _).alloc (Nat.le_refl _) _
    have hX0 : w3.heap[w.heap.size]? = some (.cells #[.bool p1, .bool p2, .bool p3, .slice sa sl.length sc, .slice na nl.length nc] 70) := by
      rw [b23.block _ (by omega), b12.block _ (by omega), ← hw1]; exact heap_alloc_new _ _
    have hX1 : w3.heap[w.heap.size + 1]? = some (.cells #[.string key, .int .i64 3, .slice a vs.length c] 35) := by
      rw [b23.block _ (by omega), ← hw2, ← hz1]; exact heap_alloc_new _ _
    have hX2 : w3.heap[w.heap.size + 2]? = some (.cells #[.bool false, .bool false, .bool false, .slice none 0 0, .slice none 0 0] 70) := by
      rw [← hw3, ← hz2]; exact heap_alloc_new _ _
    have hd : ∀ W : World, W.heap[w.heap.size]? = some (.cells #[.bool p1, .bool p2, .bool p3, .slice sa sl.length sc, .slice na nl.length nc] 70) → W.cell? ⟨w.heap.size, 0, none⟩ = some (.bool p1) ∧ W.cell? ⟨w.heap.size, 1, none⟩ = some (.bool p2) ∧ W.cell? ⟨w.heap.size, 2, none⟩ = some (.bool p3) ∧ W.cell? ⟨w.heap.size, 3, none⟩ = some (.slice sa sl.length sc) ∧ W.cell? ⟨w.heap.size, 4, none⟩ = some (.slice na nl.length nc) := fun W h => by
      refine ⟨?_, ?_, ?_, ?_, ?_⟩ <;> (rw [cell_of_block h]; rfl)
    obtain ⟨c0, c1, c2, c3, c4⟩ := hd w3 hX0
    have t0 : w3.cell? ⟨w.heap.size + 1, 1, none⟩ = some (.int .i64 3) := by rw [cell_of_block hX1]; rfl
    have t1 : w3.cell? ⟨w.heap.size + 1, 2, none⟩ = some (.slice a vs.length c) := by rw [cell_of_block hX1]; rfl
    have CC := hmk (common_any p1 p2 p3 sl nl vs S (.slice sa sl.length sc) (.slice na nl.length nc) base a c b o w3 (hs.below keepS B3) (hn.below keepS B3) hss hsl hh (hl.keep (fun y hy => B3.block y (hS y hy)) (fun _ h => h)) (fun y hy => by have := hS y hy; omega) hm h0 (ris_vals hvals))
    have HX := hmk (And.intro hX0 hX2)
    have HZ3 := hmk hz3
    have HB3 := hmk B3
    have HD := hmk hd
    have HSL := hmk hslt
    have HNL := hmk hnlt
    clear hX0 hX1 hX2 B1 B2 B3 b12 b23 hh hl hS hg hss hs hn hslt hnlt hd hz3 hvals
    go_enter Tryz.func28, Tryz.ntmps28
    go_wp2_with fail
    simp only [hw1, hw2, hw3, hz1, hz2] at *
    go_wp2_with fail
    refine CC.out.mono ?_
    rintro e w4 ⟨v, rfl, o4, b4⟩
    obtain ⟨va, vc, rfl⟩ := own_slice o4
    have hq0 := (b4.block _ (by have := HZ3.out; omega)).trans HX.out.1
    have hq2 := (b4.block _ (by have := HZ3.out; omega)).trans HX.out.2
    obtain ⟨e0, e1, e2, e3, e4⟩ := HD.out w4 hq0
    have f0 : ∀ i, w4.frozen? ⟨w.heap.size, i, none⟩ = false := frozen_of_block hq0
    have f2 : ∀ i, w4.frozen? ⟨w.heap.size + 2, i, none⟩ = false := frozen_of_block hq2
    have r0 : w4.cell? ⟨w.heap.size + 2, 0, none⟩ = some (.bool false) := by rw [cell_of_block hq2]; rfl
    have r1 : w4.cell? ⟨w.heap.size + 2, 1, none⟩ = some (.bool false) := by rw [cell_of_block hq2]; rfl
    have r2 : w4.cell? ⟨w.heap.size + 2, 2, none⟩ = some (.bool false) := by rw [cell_of_block hq2]; rfl
    have r3 : w4.cell? ⟨w.heap.size + 2, 3, none⟩ = some (.slice none 0 0) := by rw [cell_of_block hq2]; rfl
    have r4 : w4.cell? ⟨w.heap.size + 2, 4, none⟩ = some (.slice none 0 0) := by rw [cell_of_block hq2]; rfl
    have O4 := hmk o4
    have B4 := hmk b4
    have HQ2 := hmk hq2
    have HQ0 := hmk hq0
    clear o4 b4 hq0 hq2 c0 c1 c2 c3 c4 t0 t1 CC hw1 hw2 hw3 hz1 hz2
    generalize hvf : (if p3 = true then sl.filter (amongB vs) else vs) = vf at *
    have HVF := hmk hvf
    clear hvf
    go_wp2_with fail
    (try simp only [Exit.inBlock, Exit.then])
    refine bodyPost_ret (v := .agg #[.bool p1, .bool p2, .bool true, .slice va vf.length vc, .slice na nl.length nc]) ?_ rfl ?_
    · rw [results_cell1 rfl]
      go_simp
    · have hne4 : ∀ N, N < w.heap.size + 3 → (Value.slice va vf.length vc).ownBlock ≠ some N := fun N hN e => by have := (O4.out.lt e).1; have := HZ3.out; omega
      have hneN : ∀ N, w.heap.size ≤ N → (Value.slice na nl.length nc).ownBlock ≠ some N := fun N hN e => by have := HNL.out N e; omega
      have B04 := HB3.out.trans (B4.out.mono (by have := HZ3.out; omega))
      refine ⟨.slice va vf.length vc, .slice na nl.length nc, by rw [add3, HVF.out], ?_, ?_, ?_, .inr (fun r hr => ?_), .inl rfl, fun r hr e => ?_⟩
      · rw [add3]
        show OwnSt _ _ _ _ (if p3 = true then sl.filter (amongB vs) else vs)
        rw [HVF.out]
        iterate 7 (refine own_setN ?_ (hne4 _ (by omega)))
        exact O4.out.base (by have := HZ3.out; omega)
      · rw [add3]
        iterate 7 (refine own_setN ?_ (hneN _ (by omega)))
        exact HN.out.below keepS B04
      · iterate 7 (refine grown_setN ?_ (by omega))
        exact grown_below B04
      · have := (O4.out.lt hr).1; have := HZ3.out; omega
      · have := (O4.out.lt e).1; have := HNL.out r hr; have := HZ3.out; omega
  · subst h1
    obtain ⟨w1, hw1⟩ : ∃ w1, w.alloc (.cells #[.bool p1, .bool p2, .bool p3, .slice sa sl.length sc, .slice na nl.length nc] 70) = w1 := ⟨_, rfl⟩
    obtain ⟨w2, hw2⟩ : ∃ w2, w1.alloc (.cells #[.string key, .int .i64 4, .slice a vs.length c] 35) = w2 := ⟨_, rfl⟩
    obtain ⟨w3, hw3⟩ : ∃ w3, w2.alloc (.cells #[.bool false, .bool false, .bool false, .slice none 0 0, .slice none 0 0] 70) = w3 := ⟨_, rfl⟩
    have hz1 : w1.heap.size = w.heap.size + 1 := by rw [← hw1]; simp
    have hz2 : w2.heap.size = w.heap.size + 2 := by rw [← hw2]; simp [hz1]
    have hz3 : w3.heap.size = w.heap.size + 3 := by rw [← hw3]; simp [hz2]
    have B1 : Below w.heap.size w w1 := by rw [← hw1]; exact (Below.refl _ _).alloc (Nat.le_refl _) _
    have B2 : Below w.heap.size w w2 := by rw [← hw2]; exact B1.alloc (by omega) _
    have B3 : Below w.heap.size w w3 := by rw [← hw3]; exact B2.alloc (by omega) _
    have b12 : Below w1.heap.size w1 w2 := by rw [← hw2]; exact (Below.refl _ _).alloc (Nat.le_refl _) _
    have b23 : Below w2.heap.size w2 w3 := by rw [← hw3]; exact (Below.refl _ _).alloc (Nat.le_refl _) _
    have hX0 : w3.heap[w.heap.size]? = some (.cells #[.bool p1, .bool p2, .bool p3, .slice sa sl.length sc, .slice na nl.length nc] 70) := by
      rw [b23.block _ (by omega), b12.block _ (by omega), ← hw1]; exact heap_alloc_new _ _
    have hX1 : w3.heap[w.heap.size + 1]? = some (.cells #[.string key, .int .i64 4, .slice a vs.length c] 35) := by
      rw [b23.block _ (by omega), ← hw2, ← hz1]; exact heap_alloc_new _ _
    have hX2 : w3.heap[w.heap.size + 2]? = some (.cells #[.bool false, .bool false, .bool false, .slice none 0 0, .slice none 0 0] 70) := by
      rw [← hw3, ← hz2]; exact heap_alloc_new _ _
    have hd : ∀ W : World, W.heap[w.heap.size]? = some (.cells #[.bool p1, .bool p2, .bool p3, .slice sa sl.length sc, .slice na nl.length nc] 70) → W.cell? ⟨w.heap.size, 0, none⟩ = some (.bool p1) ∧ W.cell? ⟨w.heap.size, 1, none⟩ = some (.bool p2) ∧ W.cell? ⟨w.heap.size, 2, none⟩ = some (.bool p3) ∧ W.cell? ⟨w.heap.size, 3, none⟩ = some (.slice sa sl.length sc) ∧ W.cell? ⟨w.heap.size, 4, none⟩ = some (.slice na nl.length nc) := fun W h => by
      refine ⟨?_, ?_, ?_, ?_, ?_⟩ <;> (rw [cell_of_block h]; rfl)
    obtain ⟨c0, c1, c2, c3, c4⟩ := hd w3 hX0
    have t0 : w3.cell? ⟨w.heap.size + 1, 1, none⟩ = some (.int .i64 4) := by rw [cell_of_block hX1]; rfl
    have t1 : w3.cell? ⟨w.heap.size + 1, 2, none⟩ = some (.slice a vs.length c) := by rw [cell_of_block hX1]; rfl
    have HX := hmk (And.intro hX0 hX2)
    have HZ3 := hmk hz3
    have HB3 := hmk B3
    have HD := hmk hd
    have HSL := hmk hslt
    have HNL := hmk hnlt
    obtain rfl : a = some ⟨b, o, none⟩ := hh.at_.resolve_left (by omega)
    have HQ : Hid (∀ k (h : k < vs.length), w3.cell? ((⟨b, o, none⟩ : Addr).add k) = some (.string vs[k])) := fun k hk => by
      obtain ⟨h1, _, h3⟩ := hl k hk
      rw [Go.WideShapes.add_plain]; exact (B3.cell (p := ⟨b, o + k, none⟩) (hS _ h1)).trans h3
    have HN3 : Hid (OwnSt w3 base (fun _ => False) (.slice na nl.length nc) nl) := hn.below keepS B3
    have HLN : Hid (nl.length + vs.length ≤ 4294967296) := by show _ ≤ _; omega
    have HBS : Hid (base ≤ w3.heap.size) := by show _ ≤ _; omega
    have H0 : Hid (0 < vs.length) := h0
    clear hX0 hX1 hX2 B1 B2 B3 b12 b23 hh hl hS hg hss hs hn hslt hnlt hd hz3 hvals
    go_enter Tryz.func28, Tryz.ntmps28
    go_upto_region 10 with fail
    simp only [hw1, hw2, hw3, hz1, hz2] at *
    go_wp2_with (at_builtin; go_loud (refine wpl_catF _ rfl (.tmp 24) (.tmp 26) rfl base (r := vs) rfl HN3.out ⟨b, o, none⟩ _ _ rfl rfl HQ.out H0.out HLN.out HBS.out ?_))
    intro g5 vc w4 o4 g4 hg5
    obtain ⟨va, hva⟩ : ∃ va, some (⟨g5, 0, none⟩ : Addr) = va := ⟨_, rfl⟩
    have hO : (Value.slice va (nl.length + vs.length) vc).ownBlock = (Value.slice na nl.length nc).ownBlock ∨ ∀ r, (Value.slice va (nl.length + vs.length) vc).ownBlock = some r → w3.heap.size ≤ r := by
      rw [← hva]
      rcases hg5 with h | h
      · exact .inl (by rw [h]; rfl)
      · exact .inr (fun r hr => by have e : g5 = r := Option.some.inj hr; omega)
    rw [hva] at o4 ⊢
    clear hva hg5
    have hneN : ∀ N, w.heap.size ≤ N → some N ≠ (Value.slice na nl.length nc).ownBlock := fun N hN e => by have := HNL.out N e.symm; omega
    have hq0 := (g4.block _ (by have := HZ3.out; omega) (hneN _ (Nat.le_refl _))).trans HX.out.1
    have hq2 := (g4.block _ (by have := HZ3.out; omega) (hneN (w.heap.size + 2) (by omega))).trans HX.out.2
    obtain ⟨e0, e1, e2, e3, e4⟩ := HD.out w4 hq0
    have f0 : ∀ i, w4.frozen? ⟨w.heap.size, i, none⟩ = false := frozen_of_block hq0
    have f2 : ∀ i, w4.frozen? ⟨w.heap.size + 2, i, none⟩ = false := frozen_of_block hq2
    have r0 : w4.cell? ⟨w.heap.size + 2, 0, none⟩ = some (.bool false) := by rw [cell_of_block hq2]; rfl
    have r1 : w4.cell? ⟨w.heap.size + 2, 1, none⟩ = some (.bool false) := by rw [cell_of_block hq2]; rfl
    have r2 : w4.cell? ⟨w.heap.size + 2, 2, none⟩ = some (.bool false) := by rw [cell_of_block hq2]; rfl
    have r3 : w4.cell? ⟨w.heap.size + 2, 3, none⟩ = some (.slice none 0 0) := by rw [cell_of_block hq2]; rfl
    have r4 : w4.cell? ⟨w.heap.size + 2, 4, none⟩ = some (.slice none 0 0) := by rw [cell_of_block hq2]; rfl
    have O4 := hmk o4
    have G4 := hmk g4
    have HO4 := hmk hO
    have HNE := hmk hneN
    generalize nl.length + vs.length = vm at *
    obtain ⟨vl, hvl⟩ : ∃ vl, nl ++ vs = vl := ⟨_, rfl⟩
    rw [hvl] at O4
    have HVL := hmk hvl
    clear o4 g4 hq0 hq2 hO hneN c0 c1 c2 c3 c4 t0 t1 hw1 hw2 hw3 hz1 hz2 hvl
    go_wp2_with fail
    (try simp only [Exit.inBlock, Exit.then])
    refine bodyPost_ret (v := .agg #[.bool p1, .bool p2, .bool p3, .slice sa sl.length sc, .slice va vm vc]) ?_ rfl ?_
    · rw [results_cell1 rfl]
      go_simp
    · have hne4 : ∀ N, w.heap.size ≤ N → N < w.heap.size + 3 → (Value.slice va vm vc).ownBlock ≠ some N := fun N hN hN2 e => by
        rcases HO4.out with h | h
        · exact HNE.out N hN (by rw [← h, e])
        · have := h N e; have := HZ3.out; omega
      have hneS : ∀ N, w.heap.size ≤ N → (Value.slice sa sl.length sc).ownBlock ≠ some N := fun N hN e => by have := HSL.out N e; omega
      have G04 := grown_trans (grown_below (row := (Value.slice na nl.length nc).ownBlock) HB3.out) G4.out
      refine ⟨.slice sa sl.length sc, .slice va vm vc, by rw [add4, HVL.out], ?_, ?_, ?_, .inl rfl, ?_, fun r hr e => ?_⟩
      · rw [add4]
        iterate 6 (refine own_setN ?_ (hneS _ (by omega)))
        exact HS.out.keep keepS G04 (fun r hr => ⟨fun h => h, fun e => HSN.out r hr e⟩)
      · rw [add4]
        show OwnSt _ _ _ _ (nl ++ vs)
        rw [HVL.out]
        iterate 6 (refine own_setN ?_ (hne4 _ (by omega) (by omega)))
        exact O4.out
      · iterate 6 (refine grown_setN ?_ (by omega))
        exact G04
      · exact HO4.out.imp id (fun h r hr => by have := h r hr; have := HZ3.out; omega)
      · rcases HO4.out with h | h
        · exact HSN.out r (by rw [← h]; exact hr) e
        · have := h r hr; have := HSL.out r e; have := HZ3.out; omega
end Go.Proofs.YtolekldjbbjmjaaGreatDoor
