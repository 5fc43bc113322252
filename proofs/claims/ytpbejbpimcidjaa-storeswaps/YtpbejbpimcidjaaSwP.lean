/- Bytes in memory: copied, sameBytes; names. -/
import Derived.Test.YtpbejbpimcidjaaSwM
set_option linter.unusedSimpArgs false
set_option linter.unusedVariables false
namespace Go.Proofs.Ytpbejbpimcidjaa
open Go Go.Lib Go.RowKit Go.Maps Go.Sort

/-- these bytes can be read there -/
def BytA (w : World) (v : Value) (d : ByteArray) : Prop := (∃ a c, v = .slice a 0 c ∧ d.size = 0) ∨ ∃ ad c, v = .slice (some ad) d.size c ∧ True ∧ ∀ j (hj : j < d.size), w.cell? (ad.add j) = some (.int .u8 ((d[j]).toNat : Int))
/-- these bytes lie in a block of bytes -/
def Byt (w : World) (v : Value) (d : ByteArray) : Prop := (v = .slice none 0 0 ∧ d.size = 0) ∨ ∃ g c cur fr, v = .slice (some ⟨g, 0, none⟩) d.size c ∧ d.size ≤ c ∧ w.heap[g]? = some (.cells cur 5 fr) ∧ ∀ j (hj : j < d.size), cur[j]? = some (.int .u8 ((d[j]).toNat : Int))
theorem Byt.read {w : World} {v : Value} {d : ByteArray} (h : Byt w v d) : BytA w v d := by
  rcases h with ⟨rfl, h⟩ | ⟨g, c, cur, fr, rfl, hc, hb, h⟩
  · exact .inl ⟨_, _, rfl, h⟩
  · exact .inr ⟨_, c, rfl, trivial, fun j hj => by rw [Go.WideShapes.add_plain, Nat.zero_add, cell_of_block hb]; exact h j hj⟩
theorem Byt.keep {w w' : World} {v : Value} {d : ByteArray} (h : Byt w v d) (q : ∀ (y : Nat) (c : Array Value) (fr : Nat × Nat), w.heap[y]? = some (Obj.cells c 5 fr) → w'.heap[y]? = w.heap[y]?) : Byt w' v d := by
  rcases h with h | ⟨g, c, cur, fr, rfl, hc, hb, h⟩
  · exact .inl h
  · exact .inr ⟨g, c, cur, fr, rfl, hc, (q g cur fr hb).trans hb, h⟩
theorem Byt.below {w w' : World} {v : Value} {d : ByteArray} (h : Byt w v d) (b : Below w.heap.size w w') : Byt w' v d := h.keep (fun y c fr e => b.block y (lt_of_block e))
theorem cell_lt {w : World} {a : Addr} {v : Value} (h : w.cell? a = some v) : a.block < w.heap.size := by
  rcases hh : w.heap[a.block]? with _ | o
  · simp [World.cell?, hh] at h
  · exact (Array.getElem?_eq_some_iff.1 hh).1
theorem BytA.below {w w' : World} {v : Value} {d : ByteArray} (h : BytA w v d) (b : Below w.heap.size w w') : BytA w' v d := by
  rcases h with h | ⟨ad, c, rfl, hc, h⟩
  · exact .inl h
  · refine .inr ⟨ad, c, rfl, hc, fun j hj => ?_⟩
    have h1 := h j hj
    have hlt : (ad.add j).block < w.heap.size := by
      rcases hh : w.heap[(ad.add j).block]? with _ | o
      · simp [World.cell?, hh] at h1
      · exact (Array.getElem?_eq_some_iff.1 hh).1
    exact (b.cell (p := ad.add j) hlt).trans h1
/-- what a conversion to a string reads -/
theorem BytA.conv {w : World} {v : Value} {d : ByteArray} (h : BytA w v d) : (convert 30 9 v).run Try.prog w = .ok (.string d) w := by
  have hd : (⟨d.data.toList.toArray⟩ : ByteArray) = d := by cases d; simp
  rcases h with ⟨a, c, rfl, h0⟩ | ⟨ad, c, rfl, hc, h⟩
  · have e : d = ByteArray.empty := by
      cases d with | mk arr => have : arr.size = 0 := h0; have : arr = #[] := Array.eq_empty_of_size_eq_zero this; subst this; rfl
    rw [e]
    cases a with
    | none => exact run_convert_bytes_nil (P := Try.prog) w 30 5 Try.underlying30 Try.underlying5 0 c 9 Try.underlying9
    | some ad => exact run_convert_bytes_back (P := Try.prog) w 30 9 5 ad c [] Try.underlying30 Try.underlying5 Try.underlying9 (fun j hj => by simp at hj)
  · have hcv := run_convert_bytes_back (P := Try.prog) w 30 9 5 ad c d.data.toList Try.underlying30 Try.underlying5 Try.underlying9 (fun j hj => by
      have hj2 : j < d.size := by simpa using hj
      rw [h j hj2]
      rfl)
    rw [hd] at hcv
    have hl : d.data.toList.length = d.size := by simp
    rw [hl] at hcv
    exact hcv
theorem info5 : (Try.prog.info? 5).map (fun i => (i.zero, i.size, i.bytes)) = some (some (.int .u8 0), 1, 1) := by kernel_rfl
def bvs (d : ByteArray) : List Value := d.data.toList.map (fun b => Value.int .u8 (b.toNat : Int))
theorem bvs_len (d : ByteArray) : (bvs d).length = d.size := by simp [bvs]
theorem bvs_at (d : ByteArray) {j : Nat} (hj : j < d.size) : (bvs d)[j]? = some (.int .u8 ((d[j]).toNat : Int)) := by
  have hj2 : j < d.data.toList.length := by simpa using hj
  rw [bvs, List.getElem?_map, List.getElem?_eq_getElem hj2]
  rfl
theorem byt_of_row {w : World} {N : Nat} {v : Value} {d : ByteArray} (h : w.ownsRow N 5 1 v d.size (bvs d)) : Byt w v d := by
  rcases h.2 with ⟨rfl, h0⟩ | ⟨g, cap, cur, rfl, hb, hg, h1, h2, h3, h4⟩
  · exact .inl ⟨rfl, h0⟩
  · refine .inr ⟨g, cap, cur, (0, 0), rfl, h1, hg, fun j hj => ?_⟩
    have e := bvs_at d hj
    rw [← h4, List.getElem?_take] at e
    split at e
    · simpa using e
    · cases e
set_option maxHeartbeats 8000000 in
set_option maxRecDepth 100000 in
theorem copied_any (v : Value) (d : ByteArray) (w : World) (h : BytA w v d) (hd : d.size ≤ 140737488351232) : Calls Try.prog 19 #[v] w fun e w' => (∃ v', e = .returned v' ∧ Byt w' v' d) ∧ Below w.heap.size w w' := by
  obtain ⟨i, hi, hz⟩ := Option.map_eq_some_iff.1 info5
  simp only [Prod.mk.injEq] at hz
  obtain ⟨hz0, hz1, hz2⟩ := hz
  rcases h with ⟨a, c, rfl, h0⟩ | ⟨ad, c, rfl, hc, h⟩
  · go_enter Try.func19, Try.ntmps19
    go_wp2_with fail
    refine wp_loop_rounds 1 ?_
    rw [rounds_succ]
    go_wp2_with fail
    go_ret
    exact ⟨⟨_, rfl, .inl ⟨rfl, h0⟩⟩, Below.refl _ _⟩
  · have HC := hmk (fun (w' : World) (b : Below w.heap.size w w') => (BytA.below (.inr ⟨ad, c, rfl, hc, h⟩ : BytA w (.slice (some ad) d.size c) d) b))
    clear h
    go_enter Try.func19, Try.ntmps19
    go_wp2_with fail
    go_loopw [3, 4] (fun e3 e4 wr => ∃ k : Nat, e4 = .int .i64 (k : Int) ∧ k ≤ d.size ∧ Hid (wr.ownsRow w.heap.size 5 1 e3 k ((bvs d).take k) ∧ Below w.heap.size w wr)) (fun _ e4 _ => d.size - (RowKit.intOf e4).toNat)
    case atStart => exact ⟨0, rfl, by omega, World.ownsRow_nil _ _ 5 1, Below.refl _ _⟩
    case round =>
      obtain ⟨k, rfl, hk, HI⟩ := hrel
      by_cases hlt : (k : Int) < (d.size : Int)
      · have hkd : k < d.size := by omega
        have hx : wr.cell? (ad.add k) = some (.int .u8 ((d[k]).toNat : Int)) := by
          rcases HC.out wr HI.out.2 with ⟨a', c', e, h0⟩ | ⟨ad', c', e, hc', h⟩
          · omega
          · simp only [Value.slice.injEq, Option.some.injEq] at e
            rw [e.1]
            exact h k hkd
        have hbk := bvs_at d hkd
        generalize ((d[k]).toNat : Int) = x at hx hbk
        have HB := hmk hbk
        have HW := hmk HI.out.1
        have HN := hmk HI.out.2
        clear HI hbk
        go_wp2_with (at_builtin; refine wpList_append_own _ rfl _ _ 30 rfl w.heap.size 5 i _ 1 1 Try.underlying30 hi hz0 hz1 hz2 rfl (by decide) u3 k ((bvs d).take k) rfl (HW.out.alloc _) ⟨_, 0, none⟩ 1 1 [.int .u8 x] rfl rfl (cell_one_new _ _ _) (by simp [Value.oneCell']) (by unfold maxLen at *; omega) (by omega) (by have := HN.out.size; simp; omega) ?_; intro v' w3 hown' hg3 hnil3)
        refine ⟨⟨k + 1, congrArg (Value.int .i64) (by omega), by omega, ?_, ?_⟩, ?_⟩
        · rw [List.take_add_one, HB.out]
          exact hown'
        · exact (HN.out.alloc HN.out.size _).grown hg3 (by have := HN.out.size; simp; omega) (fun j hj => (HW.out.lt j hj).1)
        · simp only [RowKit.intOf]
          omega
      · obtain rfl : k = d.size := by omega
        have HQ := HI
        rw [List.take_of_length_le (by rw [bvs_len]; exact Nat.le_refl _)] at HQ
        clear HI
        go_wp2_with fail
        (try simp only [Exit.inBlock, Exit.then])
        go_ret
        exact ⟨⟨_, rfl, byt_of_row HQ.out.1⟩, HQ.out.2⟩
set_option maxHeartbeats 8000000 in
set_option maxRecDepth 100000 in
theorem same_bytes (v v2 : Value) (d : ByteArray) (w : World) (h : BytA w v d) (h2 : BytA w v2 d) (hd : d.size ≤ 140737488351232) : Calls Try.prog 25 #[v, v2] w fun e w' => e = .returned (.bool true) ∧ Below w.heap.size w w' := by
  obtain ⟨a, c, rfl⟩ : ∃ a c, v = .slice a d.size c := by
    rcases h with ⟨a, c, rfl, h0⟩ | ⟨ad, c, rfl, hc, h⟩
    · exact ⟨a, c, by rw [h0]⟩
    · exact ⟨_, _, rfl⟩
  obtain ⟨a2, c2, rfl⟩ : ∃ a c, v2 = .slice a d.size c := by
    rcases h2 with ⟨a, c, rfl, h0⟩ | ⟨ad, c, rfl, hc, h⟩
    · exact ⟨a, c, by rw [h0]⟩
    · exact ⟨_, _, rfl⟩
  have H1 := hmk h
  have H2 := hmk h2
  clear h h2
  go_enter Try.func25, Try.ntmps25
  go_wp2_with fail
  go_loopw [5] (fun e5 wr => ∃ k : Nat, e5 = .int .i64 (k : Int) ∧ k ≤ d.size ∧ Hid (Below w.heap.size w wr)) (fun e5 _ => d.size - (RowKit.intOf e5).toNat)
  case atStart => exact ⟨0, rfl, by omega, Below.refl _ _⟩
  case round =>
    obtain ⟨k, rfl, hk, HI⟩ := hrel
    by_cases hlt : (k : Int) < (d.size : Int)
    · have hkd : k < d.size := by omega
      obtain ⟨ad, rfl, hx⟩ : ∃ ad, a = some ad ∧ wr.cell? (ad.add k) = some (.int .u8 ((d[k]).toNat : Int)) := by
        rcases H1.out.below HI.out with ⟨a', c', e, h0⟩ | ⟨ad', c', e, hc', h⟩
        · omega
        · simp only [Value.slice.injEq] at e
          exact ⟨ad', e.1, h k hkd⟩
      obtain ⟨ad2, rfl, hx2⟩ : ∃ ad, a2 = some ad ∧ wr.cell? (ad.add k) = some (.int .u8 ((d[k]).toNat : Int)) := by
        rcases H2.out.below HI.out with ⟨a', c', e, h0⟩ | ⟨ad', c', e, hc', h⟩
        · omega
        · simp only [Value.slice.injEq] at e
          exact ⟨ad', e.1, h k hkd⟩
      generalize ((d[k]).toNat : Int) = x at hx hx2
      clear H1 H2
      have hs1 : ∀ y : Sub wr.heap.size wr, y.w.cell? (ad.add k) = some (.int .u8 x) := fun y => (y.b.cell (p := ad.add k) (cell_lt hx)).trans hx
      have hs2 : ∀ y : Sub wr.heap.size wr, y.w.cell? (ad2.add k) = some (.int .u8 x) := fun y => (y.b.cell (p := ad2.add k) (cell_lt hx2)).trans hx2
      clear hx hx2
      go_wp2_with fail
      refine wp_region_sub wr.heap.size (by kernel_rfl) (by kernel_rfl) ?_
      repeat (go_big_quiet_step (fail))
      refine wpQuiet_nil ?_
      rintro _ ⟨⟨wq, bq⟩, rfl⟩
      have BQ := hmk (HI.out.trans (bq.mono HI.out.size))
      clear bq HI hs1 hs2
      go_wp2_with fail
      refine ⟨⟨k + 1, congrArg (Value.int .i64) (by omega), by omega, BQ⟩, ?_⟩
      simp only [RowKit.intOf]
      omega
    · go_wp2_with fail
      (try simp only [Exit.inBlock, Exit.then])
      go_ret
      exact ⟨rfl, HI.out⟩
/-- the names of the keys -/
def nm (k : Nat) : ByteArray := ⟨#[107, UInt8.ofNat (97 + k)]⟩
theorem nm_size (k : Nat) : (nm k).size = 2 := rfl
theorem within_at (k : Nat) (n : Int) (w : World) (hk : (k : Int) < n) (hn : n ≤ 1000000) : Calls Try.prog 11 #[.int .i64 (k : Int), .int .i64 n] w fun e w' => e = .returned (.int .i64 (k : Int)) ∧ w' = w := by
  have hn0 : ¬ n = 0 := by omega
  have hn1 : ¬ n = -1 := by omega
  have hm : (k : Int).tmod n = (k : Int) := Int.tmod_eq_of_lt (by omega) hk
  have y : ¬ (k : Int) < 0 := by omega
  have hwk : IntKind.i64.wrap (k : Int) = (k : Int) := wrap_small _ (by omega) (by omega)
  go_enter Try.func11, Try.ntmps11
  go_wp2_with fail
  go_ret
  exact ⟨rfl, rfl⟩
set_option maxHeartbeats 4000000 in
theorem name_any (k : Nat) (w : World) (hk : k < 5) : Calls Try.prog 21 #[.int .i64 (k : Int)] w fun e w' => e = .returned (.string (nm k)) ∧ Below w.heap.size w w' := by
  have C1 := hmk (within_at k 5 w (by omega) (by omega))
  have hT := heap_alloc_new w (.cells #[.int .u8 107, .int .u8 (97 + (k : Int))] 5)
  have hcv := run_convert_bytes_back (P := Try.prog) (w.alloc (.cells #[.int .u8 107, .int .u8 (97 + (k : Int))] 5)) 30 9 5 ⟨w.heap.size, 0, none⟩ 2 [107, UInt8.ofNat (97 + k)] Try.underlying30 Try.underlying5 Try.underlying9 (fun j hj => by
    rw [Go.WideShapes.add_plain, Nat.zero_add, cell_of_block hT]
    have hj4 : j < 2 := hj
    rcases j with _ | _ | j
    · rfl
    · show some (Value.int .u8 (97 + (k : Int))) = some (Value.int .u8 ((UInt8.ofNat (97 + k)).toNat : Int))
      rw [UInt8.toNat_ofNat']
      congr 2
      omega
    · omega)
  have hcv2 : (convert 30 9 (.slice (some ⟨w.heap.size, 0, none⟩) 2 2)).run Try.prog (w.alloc (.cells #[.int .u8 107, .int .u8 (97 + (k : Int))] 5)) = .ok (.string (nm k)) (w.alloc (.cells #[.int .u8 107, .int .u8 (97 + (k : Int))] 5)) := hcv
  clear hT hcv
  go_enter Try.func21, Try.ntmps21
  go_wp2_with fail
  refine C1.out.mono ?_
  rintro e w1 ⟨rfl, rfl⟩
  go_wp2_with fail
  go_ret
  exact ⟨rfl, one_belowG _ _⟩
end Go.Proofs.Ytpbejbpimcidjaa
