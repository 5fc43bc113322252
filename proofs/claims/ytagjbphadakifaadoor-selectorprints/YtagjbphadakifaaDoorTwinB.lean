/- twin: the walk. -/
import Derived.Test.YtagjbphadakifaaDoorTwinA
import Derived.Deep.QuietTactic
import Derived.BigQuiet
set_option linter.unusedSimpArgs false
set_option linter.unusedVariables false
namespace Go.Proofs.YtagjbphadakifaaDoor
open Go.RowKit
theorem cell_of_block {w : World} {b : Nat} {c : Array Value} {t : TypeId} {f : Nat × Nat} (h : w.heap[b]? = some (.cells c t f)) (i : Nat) : w.cell? ⟨b, i, none⟩ = c[i]? := by simp [World.cell?, h]
theorem frozen_of_block {w : World} {b : Nat} {c : Array Value} {t : TypeId} (h : w.heap[b]? = some (.cells c t (0, 0))) (i : Nat) : w.frozen? ⟨b, i, none⟩ = false := by simp [World.frozen?, h]
theorem _root_.Go.World.grownBy.trans' {a b : World} {row : Option Nat} (h : a.grownBy b row) (o : Obj) : a.grownBy (b.alloc o) row := grown_trans h (World.grownBy_alloc _ _ _)
/-- the three blocks of the call: the argument, the answer, the value that is made -/
structure TwF (w : World) (box loc : Array Value) (wr : World) : Prop where
  below : Below w.heap.size w wr
  b0 : wr.heap[w.heap.size]? = some (.cells box 32 (0, 0))
  b1 : wr.heap[w.heap.size + 1]? = some (.cells #[.int .i64 0, .bool false, .int .i64 0, .string ⟨#[]⟩, .slice none 0 0, .slice none 0 0] 32 (0, 0))
  b2 : wr.heap[w.heap.size + 1 + 1]? = some (.cells loc 32 (0, 0))
theorem TwF.lt {w : World} {box loc : Array Value} {wr : World} (h : TwF w box loc wr) : w.heap.size + 3 ≤ wr.heap.size := (Array.getElem?_eq_some_iff.1 h.b2).1
theorem TwF.grown {w : World} {box loc : Array Value} {wr wr' : World} (h : TwF w box loc wr) {row : Option Nat} (g : wr.grownBy wr' row) (hr : ∀ r, row = some r → w.heap.size + 3 ≤ r) : TwF w box loc wr' := by
  have hs := h.lt
  have hn : ∀ q, q < w.heap.size + 3 → some q ≠ row := fun q hq e => by have := hr q e.symm; omega
  exact ⟨h.below.grown g (by omega) (fun r e => by have := hr r e; omega), (g.block _ (by omega) (hn _ (by omega))).trans h.b0, (g.block _ (by omega) (hn _ (by omega))).trans h.b1, (g.block _ (by omega) (hn _ (by omega))).trans h.b2⟩
theorem TwF.set {w : World} {box loc loc' : Array Value} {wr : World} (h : TwF w box loc wr) (i : Nat) (u : Value) (e : loc.setIfInBounds i u = loc') : TwF w box loc' (wr.setCell ⟨w.heap.size + 1 + 1, i, none⟩ u) := by
  have hs := h.lt
  have g := grown_set1 wr (w.heap.size + 1 + 1) i u
  have hn : ∀ q, q < w.heap.size + 2 → some q ≠ some (w.heap.size + 1 + 1) := fun q hq e => by have := Option.some.inj e; omega
  refine ⟨h.below.grown g (by omega) (fun r e => by cases e; omega), (g.block _ (by omega) (hn _ (by omega))).trans h.b0, (g.block _ (by omega) (hn _ (by omega))).trans h.b1, ?_⟩
  rw [set_block h.b2, e]
theorem alloc_size (w : World) (o : Obj) : (w.alloc o).heap.size = w.heap.size + 1 := by simp
theorem three_allocs (w : World) (o0 o1 o2 : Obj) : (((w.alloc o0).alloc o1).alloc o2).heap[w.heap.size]? = some o0 ∧ (((w.alloc o0).alloc o1).alloc o2).heap[w.heap.size + 1]? = some o1 ∧ (((w.alloc o0).alloc o1).alloc o2).heap[w.heap.size + 1 + 1]? = some o2 := by
  refine ⟨?_, ?_, ?_⟩
  · rw [Below.heap_alloc _ _ _ (by rw [alloc_size, alloc_size]; omega), Below.heap_alloc _ _ _ (by rw [alloc_size]; omega)]
    exact heap_alloc_new w o0
  · rw [Below.heap_alloc _ _ _ (by rw [alloc_size, alloc_size]; omega)]
    have := heap_alloc_new (w.alloc o0) o1
    rwa [alloc_size] at this
  · have := heap_alloc_new ((w.alloc o0).alloc o1) o2
    rwa [alloc_size, alloc_size] at this
theorem three_below (w : World) (o0 o1 o2 : Obj) : Below w.heap.size w (((w.alloc o0).alloc o1).alloc o2) :=
  (((Below.refl w.heap.size w).alloc (Nat.le_refl _) _).alloc (by rw [alloc_size]; omega) _).alloc (by rw [alloc_size, alloc_size]; omega) _
theorem alloc2_keep (w : World) (o o' : Obj) {b : Nat} (h : b < w.heap.size) : ((w.alloc o).alloc o').heap[b]? = w.heap[b]? := by
  rw [Below.heap_alloc _ _ _ (by rw [alloc_size]; omega), Below.heap_alloc _ _ _ h]
theorem alloc2_new (w : World) (o o' : Obj) : ((w.alloc o).alloc o').heap[w.heap.size + 1]? = some o' := by
  have := heap_alloc_new (w.alloc o) o'
  rwa [alloc_size] at this
theorem alloc2_off {w : World} {o o' : Obj} {b N : Nat} {v : Value} (h : N ≤ b ∧ b < w.heap.size ∧ some b ≠ v.ownBlock) : N ≤ b ∧ b < ((w.alloc o).alloc o').heap.size ∧ some b ≠ v.ownBlock :=
  ⟨h.1, by rw [alloc_size, alloc_size]; omega, h.2.2⟩
theorem grown_drew (w : World) (row : Option Nat) : w.grownBy w.drew row := ⟨rfl, rfl, rfl, Nat.le_refl _, fun _ _ _ => rfl⟩
theorem OwnR.drew {α : Type} {E : α → World → (Nat → Prop) → List Value → Prop} {ty sz : Nat} (K : KeepE E) {w : World} {base : Nat} {S : Nat → Prop} {v : Value} {l : List α} (h : OwnR E ty sz w base S v l) : OwnR E ty sz w.drew base S v l :=
  h.keep K (grown_drew w none) (fun r e => by cases e)
theorem results_cell1 {fn : Func} {p : Tmp} {ty : TypeId} (h : fn.results = #[.cell p ty]) (tmps : Array Value) (P : Program) (w : World) :
    (results fn tmps).run P w = ((asAddr (tmps.getD p undef)).run P w).andThen fun a w₁ => (loadVar ty a).run P w₁ := by
  simp only [results, h]
  simp [Sem.run_bind, Result.andThen]
theorem below_set9 {B N M : Nat} {a w : World} (h : Below B a w) (hN : B ≤ N) (hM : B ≤ M) (i1 i2 i3 i4 i5 i6 i7 i8 i9 : Nat) (u1 u2 u3 u4 u5 u6 u7 u8 u9 : Value) :
    Below B a (((((((((w.setCell ⟨N, i1, none⟩ u1).setCell ⟨N, i2, none⟩ u2).setCell ⟨N, i3, none⟩ u3).setCell ⟨M, i4, none⟩ u4).setCell ⟨M, i5, none⟩ u5).setCell ⟨M, i6, none⟩ u6).setCell ⟨M, i7, none⟩ u7).setCell ⟨M, i8, none⟩ u8).setCell ⟨M, i9, none⟩ u9) :=
  ((((((((h.setCell (p := ⟨N, i1, none⟩) hN u1).setCell (p := ⟨N, i2, none⟩) hN u2).setCell (p := ⟨N, i3, none⟩) hN u3).setCell (p := ⟨M, i4, none⟩) hM u4).setCell (p := ⟨M, i5, none⟩) hM u5).setCell (p := ⟨M, i6, none⟩) hM u6).setCell (p := ⟨M, i7, none⟩) hM u7).setCell (p := ⟨M, i8, none⟩) hM u8).setCell (p := ⟨M, i9, none⟩) hM u9
theorem OwnR.set9 {α : Type} {E : α → World → (Nat → Prop) → List Value → Prop} {ty sz : Nat} (K : KeepE E) {w : World} {base N M : Nat} {S : Nat → Prop} {v : Value} {l : List α} (h : OwnR E ty sz w base S v l) (hN : N < base) (hM : M < base) (i1 i2 i3 i4 i5 i6 i7 i8 i9 : Nat) (u1 u2 u3 u4 u5 u6 u7 u8 u9 : Value) :
    OwnR E ty sz (((((((((w.setCell ⟨N, i1, none⟩ u1).setCell ⟨N, i2, none⟩ u2).setCell ⟨N, i3, none⟩ u3).setCell ⟨M, i4, none⟩ u4).setCell ⟨M, i5, none⟩ u5).setCell ⟨M, i6, none⟩ u6).setCell ⟨M, i7, none⟩ u7).setCell ⟨M, i8, none⟩ u8).setCell ⟨M, i9, none⟩ u9) base S v l :=
  ((((((((h.set K hN i1 u1).set K hN i2 u2).set K hN i3 u3).set K hM i4 u4).set K hM i5 u5).set K hM i6 u6).set K hM i7 u7).set K hM i8 u8).set K hM i9 u9
theorem one6 {k i : Int} {b : Bool} {s : ByteArray} {p q : Option Addr} {n c n' c' : Nat} : ∀ u ∈ [Value.int .i64 k, .bool b, .int .i64 i, .string s, .slice p n c, .slice q n' c'], u.oneCell' = true := by
  intro u hu
  simp at hu
  rcases hu with rfl | rfl | rfl | rfl | rfl | rfl <;> rfl
theorem one7 {r : ByteArray} {k i : Int} {b : Bool} {s : ByteArray} {p q : Option Addr} {n c n' c' : Nat} : ∀ u ∈ [Value.string r, .int .i64 k, .bool b, .int .i64 i, .string s, .slice p n c, .slice q n' c'], u.oneCell' = true := by
  intro u hu
  simp at hu
  rcases hu with rfl | rfl | rfl | rfl | rfl | rfl | rfl <;> rfl
set_option maxHeartbeats 4000000 in
set_option maxRecDepth 100000 in
theorem twin_any (v : V) : ∀ (S : Nat → Prop) (cs : List Value) (w : World), v.lies false w S cs → (∀ b, S b → b < w.heap.size) → v.wt ≤ 2147483648 →
    Calls Tryd.prog 15 #[.agg cs.toArray] w (v.twinPost w) := by
  induction v using V.ind_v with
  | h k b i s l m ihl ihm =>
  intro S cs w hl hS hwt
  rw [V.lies] at hl
  obtain ⟨al, cl, bl, ol, am, cm, bm, om, rfl, hk, hi, hs, hal, ham, hl1, hm1, _⟩ := hl
  have HL : Hid (liesL false w S l bl ol) := hl1
  have HM : Hid (liesM false w S m bm om) := hm1
  clear hl1 hm1
  rw [V.wt] at hwt
  have hlm := wtL_len l
  have hmm := wtM_len m
  obtain ⟨i0, hi0, hz0, hz1, hz2⟩ := info_parts info25
  obtain ⟨i1, hi1, hy0, hy1, hy2⟩ := info_parts info44
  have hI : Hid (Tryd.prog.info? 32 = some i0 ∧ i0.zero = some (.agg #[.int .i64 0, .bool false, .int .i64 0, .string ⟨#[]⟩, .slice none 0 0, .slice none 0 0]) ∧ i0.size = 6 ∧ i0.bytes = 88) := ⟨hi0, hz0, hz1, hz2⟩
  have hJ : Hid (Tryd.prog.info? 34 = some i1 ∧ i1.zero = some (.agg #[.string ⟨#[]⟩, .int .i64 0, .bool false, .int .i64 0, .string ⟨#[]⟩, .slice none 0 0, .slice none 0 0]) ∧ i1.size = 7 ∧ i1.bytes = 104) := ⟨hi1, hy0, hy1, hy2⟩
  clear hi0 hz0 hz1 hz2 hi1 hy0 hy1 hy2
  have t0 : TwF w #[.int .i64 k, .bool b, .int .i64 i, .string s, .slice al l.length cl, .slice am m.length cm] #[.int .i64 k, .bool b, .int .i64 i, .string s, .slice none 0 0, .slice none 0 0]
      (((w.alloc (.cells #[.int .i64 k, .bool b, .int .i64 i, .string s, .slice al l.length cl, .slice am m.length cm] 32)).alloc (.cells #[.int .i64 0, .bool false, .int .i64 0, .string ⟨#[]⟩, .slice none 0 0, .slice none 0 0] 32)).alloc (.cells #[.int .i64 k, .bool b, .int .i64 i, .string s, .slice none 0 0, .slice none 0 0] 32)) := by
    exact ⟨three_below w _ _ _, (three_allocs w _ _ _).1, (three_allocs w _ _ _).2.1, (three_allocs w _ _ _).2.2⟩
  go_enter Tryd.func15, Tryd.ntmps15
  go_wp2_with fail
  go_loopw [4] (fun e wr => ∃ (j : Nat) (slv : Value) (SL : Nat → Prop), j ≤ l.length ∧ e = .int .i64 (j : Int) ∧ TwF w #[.int .i64 k, .bool b, .int .i64 i, .string s, .slice al l.length cl, .slice am m.length cm] #[.int .i64 k, .bool b, .int .i64 i, .string s, slv, .slice none 0 0] wr ∧ OwnL true wr (w.heap.size + 3) SL slv ((l.map some).take j)) (fun e _ => l.length - (RowKit.intOf e).toNat)
  case atStart => exact ⟨0, _, _, by omega, rfl, t0, by simpa using OwnR.nil _ _⟩
  case round =>
    clear t0
    obtain ⟨j, slv, SL, hj, rfl, tj, oj⟩ := hrel
    have d4 : wr.cell? ⟨w.heap.size, 4, none⟩ = some (.slice al l.length cl) := by rw [cell_of_block tj.b0]; rfl
    have d5 : wr.cell? ⟨w.heap.size, 5, none⟩ = some (.slice am m.length cm) := by rw [cell_of_block tj.b0]; rfl
    by_cases hjl : j < l.length
    · have y1 : (j : Int) < l.length := by omega
      obtain ⟨hSb, csj, hrow, hlj⟩ := liesL_get HL.out j hjl
      obtain rfl : al = some ⟨bl, ol, none⟩ := hal.at_.resolve_left (by omega)
      have hkw : ∀ b, S b → wr.heap[b]? = w.heap[b]? := fun b hb => tj.below.block b (hS b hb)
      have hrow' := hrow.keep (hkw _ hSb)
      have hlj' := V.lies_keep (R' := false) (S' := S) (fun h => h) hkw (fun _ h => h) _ hlj
      have hwj : (l[j]).wt ≤ 2147483648 := by have := wtL_mem (List.getElem_mem hjl); omega
      have ih := ihl l[j] (List.getElem_mem hjl) S csj wr hlj' (fun b hb => Nat.lt_of_lt_of_le (hS b hb) tj.below.size) hwj
      have HT : Hid ((l.map some).take (j + 1) = (l.map some).take j ++ [some l[j]]) := by show _ = _; rw [List.take_succ_eq_append_getElem (by simpa using hjl), List.getElem_map]
      rcases hxj : l[j] with ⟨k', b', i', s', l', m'⟩
      rw [hxj] at ih HT hlj'
      rw [V.lies] at hlj'
      obtain ⟨al', cl', bl', ol', am', cm', bm', om', rfl, hk', hi', hs', _⟩ := hlj'
      obtain ⟨q0, q1, q2, q3, q4, q5⟩ := row6 hrow'
      have hll : ((l.map some).take j).length = j := by simp; omega
      clear hlj hrow hrow' hxj
      go_wp2_with fail
      refine ih.mono ?_
      rintro e w3 ⟨gl, xl, gm, xm, XL, XM, rfl, bl3, oL, oM, n1, n2, n3⟩
      have t3 := tj.grown (grown_of_below bl3) (fun r e => by cases e)
      have o3 := oj.below (keepL true) bl3
      have hx3 := TwinPost.lies (b := b') hk' hi' hs' oL oM
      have e4 : ∀ o, (w3.alloc o).cell? ⟨w.heap.size + 1 + 1, 4, none⟩ = some slv := fun o => by rw [cell_of_block (t3.grown (World.grownBy_alloc w3 o none) (fun r e => by cases e)).b2]; rfl
      have hw3 : w.heap.size + 3 ≤ w3.heap.size := t3.lt
      have hown : ∀ r, slv.ownBlock = some r → w.heap.size + 3 ≤ r ∧ r < wr.heap.size := fun r hr => oj.lt hr
      have HK : Hid (∀ b, wr.heap.size ≤ b ∧ b < w3.heap.size → w.heap.size + 3 ≤ b ∧ b < w3.heap.size ∧ some b ≠ slv.ownBlock) := fun b hb => ⟨by have := tj.lt; omega, hb.2, fun e => by have := (hown b e.symm).2; omega⟩
      go_wp2_with (at_builtin; go_loud (refine wpl_push (keepL true) _ rfl (.tmp 31) (.tmp 33) 30 rfl (w.heap.size + 3) i0 _ 88 Tryd.underlying30 hI.out.1 hI.out.2.1 hI.out.2.2.1 hI.out.2.2.2 rfl (by decide) (by decide) slv (some (V.mk k' b' i' s' l' m')) rfl ((o3.alloc (keepL true) _).alloc (keepL true) _) (w3.heap.size + 1) 1 (0, 0) rfl (alloc2_new w3 _ _) rfl one6 (keepL true _ _ _ _ _ _ (fun b hb => alloc2_keep w3 _ _ hb.2) (fun _ h => h) hx3) (fun b hb => alloc2_off (HK.out b hb)) (by rw [hll]; omega) (by rw [alloc_size, alloc_size]; omega) ?_))
      intro g cap w5 o5 g5 e5
      have t5 := ((t3.grown (World.grownBy_alloc w3 _ none) (fun r e => by cases e)).grown (World.grownBy_alloc _ _ none) (fun r e => by cases e)).grown g5 (fun r e => (hown r e).1)
      have e6 : w5.cell? ⟨w.heap.size + 1 + 1, 4, none⟩ = some slv := by rw [cell_of_block t5.b2]; rfl
      have e7 : w5.frozen? ⟨w.heap.size + 1 + 1, 4, none⟩ = false := frozen_of_block t5.b2 4
      go_wp2_with fail
      go_roundw
      case rel => exact ⟨j + 1, _, _, by omega, by go_num, t5.set 4 _ rfl, by rw [HT.out]; exact o5.set (keepL true) (by omega) _ _⟩
      case measure => simp [RowKit.intOf]; omega
    · obtain rfl : j = l.length := by omega
      have hlt : (l.map some).take l.length = l.map some := by rw [List.take_of_length_le (by simp)]
      rw [hlt] at oj
      clear hlt
      have y1 : ¬ (l.length : Int) < l.length := by omega
      rename World => wA
      have hownl : ∀ r, slv.ownBlock = some r → w.heap.size + 3 ≤ r ∧ r < wA.heap.size := fun r hr => oj.lt hr
      have hSl := oj.off
      have hA := tj.lt
      have bA := tj.below
      go_wp2_with fail
      go_loopw [6] (fun e wq => ∃ (j : Nat) (smv : Value) (SM : Nat → Prop), j ≤ m.length ∧ e = .int .i64 (j : Int) ∧ TwF w #[.int .i64 k, .bool b, .int .i64 i, .string s, .slice al l.length cl, .slice am m.length cm] #[.int .i64 k, .bool b, .int .i64 i, .string s, slv, smv] wq ∧ wA.heap.size ≤ wq.heap.size ∧ OwnL true wq (w.heap.size + 3) SL slv (l.map some) ∧ OwnM true wq wA.heap.size SM smv ((m.map some).take j)) (fun e _ => m.length - (RowKit.intOf e).toNat)
      case atStart => exact ⟨0, _, _, by omega, rfl, tj, Nat.le_refl _, oj, by simpa using OwnR.nil _ _⟩
      case round =>
        clear tj oj d4 d5
        obtain ⟨j, smv, SM, hj, rfl, tj, bq, oL, oj⟩ := hrel
        have d4 : wr.cell? ⟨w.heap.size, 4, none⟩ = some (.slice al l.length cl) := by rw [cell_of_block tj.b0]; rfl
        have d5 : wr.cell? ⟨w.heap.size, 5, none⟩ = some (.slice am m.length cm) := by rw [cell_of_block tj.b0]; rfl
        by_cases hjl : j < m.length
        · have y1 : (j : Int) < m.length := by omega
          obtain ⟨hSb, hks, csj, hrow, hlj⟩ := liesM_get HM.out j hjl
          obtain rfl : am = some ⟨bm, om, none⟩ := ham.at_.resolve_left (by omega)
          have hkw : ∀ b, S b → wr.heap[b]? = w.heap[b]? := fun b hb => tj.below.block b (hS b hb)
          have hrow' := hrow.keep (hkw _ hSb)
          have hlj' := V.lies_keep (R' := false) (S' := S) (fun h => h) hkw (fun _ h => h) _ hlj
          have hwj : (m[j]).2.wt ≤ 2147483648 := by have := wtM_mem (List.getElem_mem hjl); omega
          have ih := ihm m[j] (List.getElem_mem hjl) S csj wr hlj' (fun b hb => Nat.lt_of_lt_of_le (hS b hb) tj.below.size) hwj
          have HT : Hid ((m.map some).take (j + 1) = (m.map some).take j ++ [some m[j]]) := by show _ = _; rw [List.take_succ_eq_append_getElem (by simpa using hjl), List.getElem_map]
          rcases hxj : m[j] with ⟨key, k', b', i', s', l', m'⟩
          rw [hxj] at ih HT hlj' hks hrow'
          rw [V.lies] at hlj'
          obtain ⟨al', cl', bl', ol', am', cm', bm', om', rfl, hk', hi', hs', _⟩ := hlj'
          obtain ⟨q, q0, q1, q2, q3, q4, q5⟩ := row7 hrow'
          have hll : ((m.map some).take j).length = j := by simp; omega
          have hbS := hS _ hSb
          clear hlj hrow hrow' hxj
          go_wp2_with fail
          refine ih.mono ?_
          rintro e w3 ⟨gl, xl, gm, xm, XL, XM, rfl, bl3, oL3, oM3, n1, n2, n3⟩
          have t3 := tj.grown (grown_of_below bl3) (fun r e => by cases e)
          have o3 := oj.below (keepM true) bl3
          have p3 := oL.below (keepL true) bl3
          have hx3 := TwinPost.lies (b := b') hk' hi' hs' oL3 oM3
          clear oL3 oM3 n1 n2 n3
          have hw3 : w.heap.size + 3 ≤ w3.heap.size := t3.lt
          have hown : ∀ r, smv.ownBlock = some r → wA.heap.size ≤ r ∧ r < wr.heap.size := fun r hr => oj.lt hr
          have HK : Hid (∀ b, wr.heap.size ≤ b ∧ b < w3.heap.size → wA.heap.size ≤ b ∧ b < w3.heap.size ∧ some b ≠ smv.ownBlock) := fun b hb => ⟨by omega, hb.2, fun e => by have := (hown b e.symm).2; omega⟩
          have tw : ∀ o, TwF w _ _ (w3.alloc o) := fun o => t3.grown (World.grownBy_alloc w3 o none) (fun r e => by cases e)
          have e5 : ∀ o, (w3.alloc o).cell? ⟨w.heap.size + 1 + 1, 5, none⟩ = some smv := fun o => by rw [cell_of_block (tw o).b2]; rfl
          have e5c : ∀ o o', ((w3.alloc o).alloc o').cell? ⟨w.heap.size + 1 + 1, 5, none⟩ = some smv := fun o o' => by rw [cell_of_block ((tw o).grown (World.grownBy_alloc _ o' none) (fun r e => by cases e)).b2]; rfl
          have e5b : ∀ o, (w3.alloc o).cell? ⟨w.heap.size, 5, none⟩ = some (.slice (some ⟨bm, om, none⟩) m.length cm) := fun o => by rw [cell_of_block (tw o).b0]; rfl
          have hq : ∀ (o : Obj) {u : Value} {p : Nat}, wr.cell? ⟨bm, p, none⟩ = some u → (w3.alloc o).cell? ⟨bm, p, none⟩ = some u := fun o u p h => ((grown_of_below bl3).trans' o).cell h (by simp)
          have q' := fun o => hq o q
          go_wp2_with fail
          have T5 : ∀ (o o' : Obj) (w5 : World), ((w3.alloc o).alloc o').drew.grownBy w5 smv.ownBlock → TwF w _ _ w5 ∧ OwnL true w5 (w.heap.size + 3) SL slv (l.map some) ∧ wA.heap.size ≤ w5.heap.size := fun o o' w5 g5 =>
            ⟨(((tw o).grown (World.grownBy_alloc _ o' none) (fun r e => by cases e)).grown (grown_drew _ none) (fun r e => by cases e)).grown g5 (fun r e => by have := (hown r e).1; omega),
              (((p3.alloc (keepL true) o).alloc (keepL true) o').drew (keepL true)).keep (keepL true) g5 (fun r e => ⟨fun h => by have := (hSl r h).2.1; have := (hown r e).1; omega, fun h => by have := (hownl r h).2; have := (hown r e).1; omega⟩),
              by have := g5.size; have e : ((w3.alloc o).alloc o').drew.heap.size = w3.heap.size + 1 + 1 := by show ((w3.alloc o).alloc o').heap.size = _; rw [alloc_size, alloc_size]
                 have := bl3.size; omega⟩
          go_region_law (refine step_push (keepM true) rfl (.tmp 51) (.tmp 60) 28 rfl wA.heap.size i1 _ 104 Tryd.underlying28 hJ.out.1 hJ.out.2.1 hJ.out.2.2.1 hJ.out.2.2.2 rfl (by decide) (by decide) smv (some (key, V.mk k' b' i' s' l' m')) rfl (((o3.alloc (keepM true) _).alloc (keepM true) _).drew (keepM true)) (w3.heap.size + 1) 1 (0, 0) rfl (alloc2_new w3 _ _) rfl one7 (keepM true _ _ _ _ _ _ (fun b hb => alloc2_keep w3 _ _ hb.2) (fun _ h => h) ⟨_, rfl, hks, hx3⟩) (fun b hb => alloc2_off (HK.out b hb)) (by rw [hll]; omega) (by show wA.heap.size ≤ ((w3.alloc _).alloc _).heap.size; rw [alloc_size, alloc_size]; have := bl3.size; omega) ?_; intro g cap w5 o5 g5 e5; rw [hll] at o5 ⊢; obtain ⟨t5, p5, z5⟩ := T5 _ _ w5 g5; have e6 : w5.cell? ⟨w.heap.size + 1 + 1, 5, none⟩ = some smv := by { rw [cell_of_block t5.b2]; rfl }; have e7 : w5.frozen? ⟨w.heap.size + 1 + 1, 5, none⟩ = false := frozen_of_block t5.b2 5)
          all_goals go_wp2_with fail
          all_goals go_roundw
          all_goals first
            | exact ⟨j + 1, _, _, by omega, by go_num, t5.set 5 _ rfl, by simpa using z5, p5.set (keepL true) (by omega) _ _, by rw [HT.out]; exact o5.set (keepM true) (by omega) _ _⟩
            | (simp [RowKit.intOf]; omega)
        · obtain rfl : j = m.length := by omega
          have hlt : (m.map some).take m.length = m.map some := by rw [List.take_of_length_le (by simp)]
          rw [hlt] at oj
          clear hlt
          have y1 : ¬ (m.length : Int) < m.length := by omega
          have hown : ∀ r, smv.ownBlock = some r → wA.heap.size ≤ r ∧ r < wr.heap.size := fun r hr => oj.lt hr
          have hw3 := tj.lt
          have f4 : wr.cell? ⟨w.heap.size + 1 + 1, 4, none⟩ = some slv := by rw [cell_of_block tj.b2]; rfl
          go_wp2_with (at_builtin; go_loud (refine wpl_push (keepL true) _ rfl (.tmp 64) (.tmp 66) 30 rfl (w.heap.size + 3) i0 _ 88 Tryd.underlying30 hI.out.1 hI.out.2.1 hI.out.2.2.1 hI.out.2.2.2 rfl (by decide) (by decide) slv Option.none (Sx := fun _ => False) rfl (oL.alloc (keepL true) _) wr.heap.size 1 (0, 0) rfl (heap_alloc_new wr _) rfl one6 rfl (fun b hb => hb.elim) (by simp; omega) (by rw [alloc_size]; omega) ?_))
          intro g1 c1 w5 o5 g5 e5
          have t5 := (tj.grown (World.grownBy_alloc wr _ none) (fun r e => by cases e)).grown g5 (fun r e => (hownl r e).1)
          have oM5 := (oj.alloc (keepM true) _).keep (keepM true) g5 (fun r e => ⟨fun h => by have := (oj.off r h).1; have := (hownl r e).2; omega, fun h => by have := (hown r h).1; have := (hownl r e).2; omega⟩)
          have e6 : w5.cell? ⟨w.heap.size + 1 + 1, 4, none⟩ = some slv := by rw [cell_of_block t5.b2]; rfl
          have e6b : w5.cell? ⟨w.heap.size + 1 + 1, 5, none⟩ = some smv := by rw [cell_of_block t5.b2]; rfl
          have e7 : ∀ i, w5.frozen? ⟨w.heap.size + 1 + 1, i, none⟩ = false := frozen_of_block t5.b2
          have t6 := t5.set 4 (.slice (some ⟨g1, 0, none⟩) (l.length + 1) c1) rfl
          have o6 := o5.set (keepL true) (show w.heap.size + 1 + 1 < w.heap.size + 3 by omega) 4 (.slice (some ⟨g1, 0, none⟩) (l.length + 1) c1)
          have oM6 := oM5.set (keepM true) (show w.heap.size + 1 + 1 < wA.heap.size by omega) 4 (.slice (some ⟨g1, 0, none⟩) (l.length + 1) c1)
          have hg1 : w.heap.size + 3 ≤ g1 ∧ g1 < w5.heap.size := o5.lt rfl
          have hz5 : wr.heap.size + 1 ≤ w5.heap.size := by have := g5.size; rwa [alloc_size] at this
          have hz6 : (w5.setCell ⟨w.heap.size + 1 + 1, 4, none⟩ (.slice (some ⟨g1, 0, none⟩) (l.length + 1) c1)).heap.size = w5.heap.size := by simp
          have e6c : ∀ o, ((w5.setCell ⟨w.heap.size + 1 + 1, 4, none⟩ (.slice (some ⟨g1, 0, none⟩) (l.length + 1) c1)).alloc o).cell? ⟨w.heap.size + 1 + 1, 5, none⟩ = some smv := fun o => by rw [cell_of_block (t6.grown (World.grownBy_alloc _ o none) (fun r e => by cases e)).b2]; rfl
          go_wp2_with (at_builtin; go_loud (refine wpl_push (keepM true) _ rfl (.tmp 70) (.tmp 72) 28 rfl wA.heap.size i1 _ 104 Tryd.underlying28 hJ.out.1 hJ.out.2.1 hJ.out.2.2.1 hJ.out.2.2.2 rfl (by decide) (by decide) smv Option.none (Sx := fun _ => False) rfl (oM6.alloc (keepM true) _) w5.heap.size 1 (0, 0) rfl (by rw [← hz6]; exact heap_alloc_new _ _) rfl one7 rfl (fun b hb => hb.elim) (by simp; omega) (by rw [alloc_size, hz6]; omega) ?_))
          intro g2 c2 w7 o7 g7 e8
          have t7 := (t6.grown (World.grownBy_alloc _ _ none) (fun r e => by cases e)).grown g7 (fun r e => by have := (hown r e).1; omega)
          have oL7 := (o6.alloc (keepL true) _).keep (keepL true) g7 (fun r e => ⟨fun h => by have := (hSl r h).2.1; have := (hown r e).1; omega, fun h => by
            have h1 := hown r e
            have h2 : g1 = r := Option.some.inj h
            rcases e5 with h3 | h3
            · have := (hownl g1 h3).2; omega
            · omega⟩)
          have hg2 : wA.heap.size ≤ g2 ∧ g2 < w7.heap.size := o7.lt rfl
          have n1 : ¬ SL g2 := fun h => by have := (hSl g2 h).2.1; omega
          have n2 : ¬ SM g1 := fun h => by
            have h1 := oj.off g1 h
            rcases e5 with h3 | h3
            · have := (hownl g1 h3).2; omega
            · omega
          have n3 : g1 ≠ g2 := by
            rcases e8 with h3 | h3
            · have h4 := hown g2 h3
              rcases e5 with h5 | h5
              · have := (hownl g1 h5).2; omega
              · omega
            · omega
          have HE : Hid (OwnL true w7 (w.heap.size + 3) SL (.slice (some ⟨g1, 0, none⟩) (l.length + 1) c1) (l.map some ++ [none]) ∧ OwnM true w7 wA.heap.size SM (.slice (some ⟨g2, 0, none⟩) (m.length + 1) c2) (m.map some ++ [none])) := ⟨oL7, o7⟩
          have hc1 : (l.length : Int) ≤ c1 := by have := oL7.le.1; simp at this; omega
          have hc2 : (m.length : Int) ≤ c2 := by have := o7.le.1; simp at this; omega
          have a4 : w7.cell? ⟨w.heap.size, 4, none⟩ = some (.slice al l.length cl) := by rw [cell_of_block t7.b0]; rfl
          have a5 : w7.cell? ⟨w.heap.size, 5, none⟩ = some (.slice am m.length cm) := by rw [cell_of_block t7.b0]; rfl
          have x0 : w7.cell? ⟨w.heap.size + 1 + 1, 0, none⟩ = some (.int .i64 k) := by rw [cell_of_block t7.b2]; rfl
          have x1 : w7.cell? ⟨w.heap.size + 1 + 1, 1, none⟩ = some (.bool b) := by rw [cell_of_block t7.b2]; rfl
          have x2 : w7.cell? ⟨w.heap.size + 1 + 1, 2, none⟩ = some (.int .i64 i) := by rw [cell_of_block t7.b2]; rfl
          have x3 : w7.cell? ⟨w.heap.size + 1 + 1, 3, none⟩ = some (.string s) := by rw [cell_of_block t7.b2]; rfl
          have x4 : w7.cell? ⟨w.heap.size + 1 + 1, 4, none⟩ = some (.slice (some ⟨g1, 0, none⟩) (l.length + 1) c1) := by rw [cell_of_block t7.b2]; rfl
          have x5 : w7.cell? ⟨w.heap.size + 1 + 1, 5, none⟩ = some smv := by rw [cell_of_block t7.b2]; rfl
          have xf : ∀ i, w7.frozen? ⟨w.heap.size + 1 + 1, i, none⟩ = false := frozen_of_block t7.b2
          have r0 : w7.cell? ⟨w.heap.size + 1, 0, none⟩ = some (.int .i64 0) := by rw [cell_of_block t7.b1]; rfl
          have r1 : w7.cell? ⟨w.heap.size + 1, 1, none⟩ = some (.bool false) := by rw [cell_of_block t7.b1]; rfl
          have r2 : w7.cell? ⟨w.heap.size + 1, 2, none⟩ = some (.int .i64 0) := by rw [cell_of_block t7.b1]; rfl
          have r3 : w7.cell? ⟨w.heap.size + 1, 3, none⟩ = some (.string ⟨#[]⟩) := by rw [cell_of_block t7.b1]; rfl
          have r4 : w7.cell? ⟨w.heap.size + 1, 4, none⟩ = some (.slice none 0 0) := by rw [cell_of_block t7.b1]; rfl
          have r5 : w7.cell? ⟨w.heap.size + 1, 5, none⟩ = some (.slice none 0 0) := by rw [cell_of_block t7.b1]; rfl
          have rf : ∀ i, w7.frozen? ⟨w.heap.size + 1, i, none⟩ = false := frozen_of_block t7.b1
          have hB7 := t7.below
          clear t5 t6 t7 o5 o6 oM5 oM6 oL7 o7 g5 g7 e5 e8 e6 e6b e6c e7 hz6 oL oj tj d4 d5 f4
          go_wp2_with fail
          (try simp only [Exit.inBlock, Exit.then])
          refine bodyPost_ret (v := .agg #[.int .i64 k, .bool b, .int .i64 i, .string s, .slice (some ⟨g1, 0, none⟩) l.length c1, .slice (some ⟨g2, 0, none⟩) m.length c2]) ?_ rfl ?_
          · rw [results_cell1 rfl]
            go_simp
          · refine ⟨g1, c1, g2, c2, SL, SM, rfl, ?_, ?_, ?_, n1, n2, n3⟩
            · exact below_set9 hB7 (by omega) (by omega) _ _ _ _ _ _ _ _ _ _ _ _ _ _ _ _ _ _
            · exact (HE.out.1.set9 (keepL true) (by omega) (by omega) _ _ _ _ _ _ _ _ _ _ _ _ _ _ _ _ _ _).base (by omega)
            · exact (HE.out.2.set9 (keepM true) (by omega) (by omega) _ _ _ _ _ _ _ _ _ _ _ _ _ _ _ _ _ _).base (by omega)
end Go.Proofs.YtagjbphadakifaaDoor
