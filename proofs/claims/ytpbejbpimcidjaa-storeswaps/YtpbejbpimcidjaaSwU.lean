/- same: a list is that of a state. -/
import Derived.Test.YtpbejbpimcidjaaSwT
set_option linter.unusedSimpArgs false
set_option linter.unusedVariables false
namespace Go.Proofs.Ytpbejbpimcidjaa
open Go Go.Lib Go.RowKit Go.Maps Go.Sort

/-- how many of the first k are there -/
def pc (A : An) (k : Nat) : Nat := ((List.range k).filter (fun j => (A j).isSome)).length
theorem pc_succ (A : An) (k : Nat) : pc A (k + 1) = pc A k + one (A k) := by
  unfold pc one
  rw [List.range_succ, List.filter_append, List.length_append]
  cases h : (A k).isSome <;> simp [h]
theorem pc_all (A : An) : (nms A).length = pc A 5 := by unfold nms pc; rw [List.length_map]
theorem pc_cnt (A : An) : pc A 5 = cnt A := by
  rw [pc_succ, pc_succ, pc_succ, pc_succ, pc_succ]
  unfold cnt
  have : pc A 0 = 0 := rfl
  omega
theorem pc_at (A : An) (k : Nat) (hk : k < 5) (hs : (A k).isSome = true) : (nms A)[pc A k]? = some (nm k).data.toList := by
  have e : (List.range 5).filter (fun j => (A j).isSome) = (List.range k).filter (fun j => (A j).isSome) ++ ((List.range (5 - k)).map (k + ·)).filter (fun j => (A j).isSome) := by
    rw [← List.filter_append, ← List.range_add, show k + (5 - k) = 5 by omega]
  obtain ⟨m, hm⟩ : ∃ m, 5 - k = m + 1 := ⟨4 - k, by omega⟩
  unfold nms
  rw [e, List.map_append, List.getElem?_append_right (by rw [List.length_map]; exact Nat.le_refl _), List.length_map]
  show (List.map _ _)[pc A k - pc A k]? = _
  rw [Nat.sub_self, hm, List.range_succ_eq_map, List.map_cons, List.filter_cons]
  simp [hs]
theorem its_at {l : List Itm} {k : Nat} {x : Itm} (h : l[k]? = some x) : (its l)[k * 3]? = some (encStr x.key) ∧ (its l)[k * 3 + 1]? = some (.int .i64 x.r) ∧ (its l)[k * 3 + 2]? = some (.slice (some ⟨x.g, 0, none⟩) x.d.size x.c) := by
  induction l generalizing k with
  | nil => simp at h
  | cons y t ih =>
    have hc : its (y :: t) = itc y ++ its t := by unfold its; rw [List.flatMap_cons]
    have hl : (itc y).length = 3 := rfl
    rw [hc]
    rcases k with _ | k
    · simp only [List.getElem?_cons_zero, Option.some.injEq] at h
      subst h
      exact ⟨rfl, rfl, rfl⟩
    · rw [List.getElem?_cons_succ] at h
      obtain ⟨h1, h2, h3⟩ := ih h
      refine ⟨?_, ?_, ?_⟩
      · rw [List.getElem?_append_right (by omega), hl, show (k + 1) * 3 - 3 = k * 3 by omega]; exact h1
      · rw [List.getElem?_append_right (by omega), hl, show (k + 1) * 3 + 1 - 3 = k * 3 + 1 by omega]; exact h2
      · rw [List.getElem?_append_right (by omega), hl, show (k + 1) * 3 + 2 - 3 = k * 3 + 2 by omega]; exact h3
theorem enc_nm (k : Nat) : encStr (nm k).data.toList = .string (nm k) := rfl
set_option maxHeartbeats 8000000 in
set_option maxRecDepth 100000 in
theorem same_any (A : An) (D : DataW Unit) (cs : List Value) (v : Value) (l : List Itm) (N : Nat) (w : World) (hA : Agr D A) (hrow : Row15 w A cs) (hk : l.map Itm.key = nms A) (hit : Its w N D (nms A) v l) :
    Calls Try.prog 28 #[v, .agg cs.toArray] w fun e w' => e = .returned (.bool true) ∧ Below w.heap.size w w' := by
  have hll : l.length = pc A 5 := by rw [← pc_all, ← hk, List.length_map]
  have hl5 : l.length ≤ 5 := by rw [hll, ← pc_all]; exact nms_le A
  obtain ⟨av, cv, rfl⟩ : ∃ av cv, v = .slice av l.length cv := by
    rcases hit.row.2 with ⟨rfl, h0⟩ | ⟨g, cap, cur, rfl, _⟩
    · exact ⟨_, _, by rw [h0]⟩
    · exact ⟨_, _, rfl⟩
  have b1 := one_belowG w (.cells cs.toArray 33)
  have hX := heap_alloc_new w (.cells cs.toArray 33)
  have HA := hmk hA
  have HROW := hmk hrow
  have HK := hmk hk
  have HIT := hmk hit
  have HLL := hmk hll
  have B1 := hmk b1
  have HX := hmk hX
  have hzX : w.heap.size < (w.alloc (.cells cs.toArray 33)).heap.size := by rw [alloc_size]; omega
  clear hA hrow hk hit hll b1 hX
  go_enter Try.func28, Try.ntmps28
  go_wp2_with fail
  generalize (w.alloc (.cells cs.toArray 33)) = W1 at *
  go_loopw [5, 6] (fun e5 e6 wr => ∃ k : Nat, e5 = .int .i64 (pc A k : Int) ∧ e6 = .int .i64 (k : Int) ∧ k ≤ 5 ∧ Hid (Below W1.heap.size W1 wr)) (fun _ e6 _ => 5 - (RowKit.intOf e6).toNat)
  case atStart => exact ⟨0, rfl, rfl, by omega, Below.refl _ _⟩
  case round =>
    obtain ⟨k, rfl, rfl, hk5, HI⟩ := hrel
    by_cases hlt : (k : Int) < 5
    · have hk5' : k < 5 := by omega
      have hBw := B1.out.trans (HI.out.mono B1.out.size)
      obtain ⟨va, vb, vc, q1, q2, q3, hsn⟩ := HROW.out.2 k hk5'
      have hXw := (HI.out.block _ hzX).trans HX.out
      have x0 : wr.cell? ⟨w.heap.size, k * 3, none⟩ = some va := by rw [cell_of_block hXw]; simpa using q1
      have x1 : wr.cell? ⟨w.heap.size, k * 3 + 1, none⟩ = some vb := by rw [cell_of_block hXw]; simpa using q2
      have x2 : wr.cell? ⟨w.heap.size, k * 3 + 2, none⟩ = some vc := by rw [cell_of_block hXw]; simpa using q3
      have hsn2 := hsn.keep (fun y c fr e => hBw.block y (lt_of_block e))
      clear q1 q2 q3 hsn
      have hps := pc_succ A k
      cases hs : A k with
      | none =>
        rw [hs] at hsn2
        obtain ⟨rfl, rfl, rfl⟩ := hsn2
        have hps2 : pc A (k + 1) = pc A k := by rw [hps, hs]; rfl
        clear hps
        go_wp2_with fail
        refine ⟨⟨k + 1, by rw [hps2], congrArg (Value.int .i64) (by omega), by omega, HI⟩, ?_⟩
        simp only [RowKit.intOf]
        omega
      | some sx =>
        obtain ⟨r, d⟩ := sx
        rw [hs] at hsn2
        obtain ⟨rfl, rfl, hby, hd⟩ := hsn2
        have hps2 : pc A (k + 1) = pc A k + 1 := by rw [hps, hs]; rfl
        have hat := pc_at A k hk5' (by rw [hs]; rfl)
        have hlk : pc A k < l.length := by
          rw [HLL.out, ← pc_all]
          rcases Nat.lt_or_ge (pc A k) (nms A).length with q | q
          · exact q
          · rw [List.getElem?_eq_none q] at hat; cases hat
        obtain ⟨x, hx⟩ : ∃ x, l[pc A k]? = some x := ⟨l[pc A k], List.getElem?_eq_getElem hlk⟩
        have hxk : x.key = (nm k).data.toList := by
          have e := HK.out
          have e2 : (l.map Itm.key)[pc A k]? = some x.key := by rw [List.getElem?_map, hx]; rfl
          rw [e, hat] at e2
          exact (Option.some.inj e2).symm
        have hxm := List.mem_of_getElem? hx
        have hxa := HIT.out.at_ x hxm (dat 0 ⟨#[]⟩)
        have hda := HA.out.at_ k hk5' r d hs (dat 0 ⟨#[]⟩)
        rw [hxk] at hxa
        obtain ⟨hxr, hxd⟩ := dat_inj (hxa.symm.trans hda)
        obtain ⟨_, fr, hdb, _⟩ := HIT.out.dt x hxm
        obtain ⟨t0, t1, t2⟩ := its_at hx
        rw [hxk, enc_nm] at t0
        rw [hxr] at t1
        rw [hxd] at t2 hdb
        obtain ⟨g, hav, hgl, hgc⟩ : ∃ g, av = some ⟨g, 0, none⟩ ∧ g < w.heap.size ∧ ∀ j u, (its l)[j]? = some u → w.cell? ⟨g, j, none⟩ = some u := by
          rcases HIT.out.row.2 with ⟨_, h0⟩ | ⟨g, cap, cur, e, p1, p2, p3⟩
          · omega
          · simp only [Value.slice.injEq] at e
            refine ⟨g, e.1, lt_of_block p2, fun j u hj => ?_⟩
            have := HIT.out.row.cells (g := g) (by rw [e.1]; simp [Value.ownBlock]) j u hj
            rwa [Go.WideShapes.add_plain, Nat.zero_add] at this
        subst hav
        have hgw : g < wr.heap.size := Nat.lt_of_lt_of_le hgl hBw.size
        have hcw : ∀ j u, (its l)[j]? = some u → wr.cell? ⟨g, j, none⟩ = some u := fun j u hj => (World.cell?_of_block (w := w) (a := ⟨g, j, none⟩) (hBw.block g hgl)).trans (hgc j u hj)
        have hxl : w.heap.size < wr.heap.size := lt_of_block hXw
        have y0 : ∀ y : Sub wr.heap.size wr, _ := sub_cell (hcw _ _ t0) hgw
        have y1 : ∀ y : Sub wr.heap.size wr, _ := sub_cell (hcw _ _ t1) hgw
        have y2 : ∀ y : Sub wr.heap.size wr, _ := sub_cell (hcw _ _ t2) hgw
        have z1 : ∀ y : Sub wr.heap.size wr, _ := sub_cell x1 hxl
        have z2 : ∀ y : Sub wr.heap.size wr, _ := sub_cell x2 hxl
        have hge : ¬ ((l.length : Int) ≤ (pc A k : Int)) := by omega
        have hlt2 : (pc A k : Int) < (l.length : Int) := by omega
        have hgd : decide (l.length ≤ pc A k) = false := decide_eq_false (by omega)
        have hd2 : d.size ≤ 4096 := hd
        have CN : Hid (∀ y : Sub wr.heap.size wr, Calls Try.prog 21 #[.int .i64 (k : Int)] y.w fun e w'' => e = .returned (.string (nm k)) ∧ ∃ z : Sub wr.heap.size wr, w'' = z.w) :=
          sub_call fun w' hb => (name_any k w' hk5').mono (by rintro e w'' ⟨rfl, h2⟩; exact ⟨rfl, hb.trans (h2.mono hb.size)⟩)
        have hB1 : BytA wr (.slice (some ⟨x.g, 0, none⟩) d.size x.c) d := (byt_of_conv hdb).below hBw
        have CS : Hid (∀ y : Sub wr.heap.size wr, Calls Try.prog 25 #[.slice (some ⟨x.g, 0, none⟩) d.size x.c, vc] y.w fun e w'' => e = .returned (.bool true) ∧ ∃ z : Sub wr.heap.size wr, w'' = z.w) :=
          sub_call fun w' hb => (same_bytes _ _ d w' (hB1.below hb) (hby.read.below hb) (by omega)).mono (by rintro e w'' ⟨rfl, h2⟩; exact ⟨rfl, hb.trans (h2.mono hb.size)⟩)
        clear hB1 hby hcw hgc t0 t1 t2 hdb hxa hda hxm hx hxk hat x1 x2 hXw hps hs
        go_wp2_with fail
        refine wp_region_sub wr.heap.size (by kernel_rfl) (by kernel_rfl) ?_
        repeat (go_big_quiet_step (first | exact CN.out _ | exact CS.out _))
        refine wpQuiet_nil ?_
        rintro _ ⟨⟨wq, bq⟩, rfl⟩
        have BQ := hmk (HI.out.trans (bq.mono HI.out.size))
        clear bq HI y0 y1 y2 z1 z2 CN CS x0
        go_wp2_with fail
        refine ⟨⟨k + 1, by rw [hps2]; exact congrArg (Value.int .i64) (by omega), congrArg (Value.int .i64) (by omega), by omega, BQ⟩, ?_⟩
        simp only [RowKit.intOf]
        omega
    · obtain rfl : k = 5 := by omega
      have hpl : (pc A 5 : Int) = (l.length : Int) := by rw [HLL.out]
      go_wp2_with fail
      (try simp only [Exit.inBlock, Exit.then])
      go_ret
      exact ⟨by simp [hpl], B1.out.trans (HI.out.mono B1.out.size)⟩
end Go.Proofs.Ytpbejbpimcidjaa
