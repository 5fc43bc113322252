import Derived.Test.YtolekldjbbjmjaaGreatDoorG46
import Derived.Laws.MakeOwn
/- SelectorReads: the greatest text: the walk. -/
set_option linter.unusedSimpArgs false
set_option linter.unusedVariables false
namespace Go.Proofs.YtolekldjbbjmjaaGreatDoor
open Go.RowKit Go.Lib
theorem num_anyR (z : Int) (w : World) : Calls Tryz.prog 12 #[.int .i64 z] w (fun e w' => e = .returned (.int .i64 z) ∧ w' = w) := by
  go_enter Tryz.func12, Tryz.ntmps12
  go_wp2_with fail
  go_ret
  exact ⟨rfl, rfl⟩
theorem eq_litR {X : ByteArray} {l : List UInt8} (h : X = ⟨l.toArray⟩) : (X.toList == l) = true := by
  subst h
  rw [ByteArray.toList_eq]
  simp
theorem make_u8 (n : Nat) (hn : n ≤ 281474976710656) : ∃ cs : Array Value, cs.size = n ∧ ∀ W : World, (Instr.makeSlice 55 (.int .i64 (n : Int)) (.int .i64 (n : Int))).run Tryz.prog W = .ok (.slice (some ⟨W.heap.size, 0, none⟩) n n) (W.alloc (.cells cs 5)) := by
  obtain ⟨i, hi, hz⟩ := Option.map_eq_some_iff.1 info5
  simp only [Prod.mk.injEq] at hz
  refine ⟨madeCells (Value.cells (.int .u8 0)) ((n : Int).toNat * i.size), ?_, fun W => ?_⟩
  · rw [hz.2.1]
    simp [madeCells, Value.cells]
  · rw [run_make (P := Tryz.prog) W 55 5 i (.int .u8 0) Tryz.underlying55 hi hz.1 .i64 .i64 (n : Int) (n : Int) (by omega) (Int.le_refl _) (by rw [hz.2.2]; omega) (by omega)]
    simp
/-- the first i cells are blanks -/
structure Fil (W : World) (b N i : Nat) (cs : Array Value) : Prop where
  blk : W.heap[b]? = some (.cells cs 5 (0, 0))
  len : cs.size = N
  is : ∀ j, j < i → cs[j]? = some (.int .u8 32)
theorem Fil.cell {W : World} {b N i : Nat} {cs : Array Value} (h : Fil W b N i cs) (j : Nat) (hj : j < N) : ∃ v, W.cell? ⟨b, j, none⟩ = some v := by
  refine ⟨cs[j]'(by rw [h.len]; exact hj), ?_⟩
  rw [cell_of_block h.blk]
  exact Array.getElem?_eq_getElem _
theorem Fil.next {W : World} {b N i : Nat} {cs : Array Value} (h : Fil W b N i cs) (hi : i < N) : Fil (W.setCell ⟨b, i, none⟩ (.int .u8 32)) b N (i + 1) (cs.setIfInBounds i (.int .u8 32)) :=
  ⟨set_block h.blk i _, by rw [Array.size_setIfInBounds]; exact h.len, fun j hj => by
    rw [Array.getElem?_setIfInBounds]
    by_cases e : i = j
    · rw [if_pos e, if_pos (by rw [h.len]; omega)]
    · rw [if_neg e]; exact h.is j (by omega)⟩
theorem cell_below {W W' : World} (b : Below W.heap.size W W') {bb : Nat} (h : bb < W.heap.size) (o : Nat) : W'.cell? ⟨bb, o, none⟩ = W.cell? ⟨bb, o, none⟩ := by
  unfold World.cell?
  simp only [b.block bb h]
/-- an a, then blanks -/
theorem conv_fil {W : World} {b N : Nat} {cr : Array Value} (hb : W.heap[b]? = some (.cells cr 5 (0, 0))) (h0 : cr[0]? = some (.int .u8 97)) (h1 : ∀ j, 0 < j → j < N → cr[j]? = some (.int .u8 32)) (n cap : Nat) (hn : n + 1 ≤ N) :
    (convert 55 9 (.slice (some ⟨b, 0, none⟩) (n + 1) cap)).run Tryz.prog W = .ok (.string ⟨((97 : UInt8) :: List.replicate n 32).toArray⟩) W := by
  have := run_convert_bytes_back (P := Tryz.prog) W 55 9 5 ⟨b, 0, none⟩ cap ((97 : UInt8) :: List.replicate n 32) Tryz.underlying55 Tryz.underlying5 Tryz.underlying9 (fun j hj => by
    have e : (⟨b, 0, none⟩ : Addr).add j = ⟨b, j, none⟩ := by simp [Addr.add]; try omega
    rw [e, cell_of_block hb]
    cases j with
    | zero => exact h0
    | succ j =>
      have hj' : j + 1 < n + 1 := by simpa using hj
      rw [h1 (j + 1) (by omega) (by omega)]
      simp)
  simpa using this
theorem sl55 (b N : Nat) (hN : 1048576 ≤ N) (W : World) : (Instr.slice 55 (.slice (some ⟨b, 0, none⟩) N N) none (some (.int .i64 1048576)) none).run Tryz.prog W = .ok (.slice (some ⟨b, 0, none⟩) 1048576 N) W := by
  have h2 : (1048576 : Int) ≤ N := by omega
  have e2 : ¬ (N = 0) := by omega
  go_simp
set_option maxHeartbeats 8000000 in
set_option maxRecDepth 100000 in
theorem greatest_any (w : World) (t : Tp w) : Calls Tryz.prog 18 #[] w (BPost true w) := by
  obtain ⟨N, hN⟩ : ∃ N : Nat, N = 1048577 := ⟨_, rfl⟩
  obtain ⟨cs, hcs, hmk_⟩ := make_u8 N (by omega)
  have hmk2 : ∀ W : World, (Instr.makeSlice 55 (.int .i64 1048577) (.int .i64 1048577)).run Tryz.prog W = .ok (.slice (some ⟨W.heap.size, 0, none⟩) N N) (W.alloc (.cells cs 5)) := fun W => by
    have := hmk_ W
    rw [show ((N : Nat) : Int) = 1048577 by omega] at this
    exact this
  have CN : ∀ (z : Int) (W : World), Calls Tryz.prog 12 #[.int .i64 z] W (fun e w' => e = .returned (.int .i64 z) ∧ W = w') := fun z W => (num_anyR z W).mono (by rintro e w' ⟨h1, h2⟩; exact ⟨h1, h2.symm⟩)
  have HTQ : Hid (∀ W, Below w.heap.size w W → Tp W) := fun W b => t.below b t.z
  have F0 : Fil (w.alloc (.cells cs 5)) w.heap.size N 0 cs := ⟨heap_alloc_new _ _, hcs, fun j hj => by omega⟩
  have bA : Below w.heap.size w (w.alloc (.cells cs 5)) := (Below.refl _ _).alloc (Nat.le_refl _) _
  have HN := hmk hN
  clear hN hmk_ t
  go_enter Tryz.func18, Tryz.ntmps18
  go_wp2_with fail
  clear hmk2
  have hNb : N ≤ 281474976710656 := by have := HN.out; omega
  go_loopw [2] (fun e2 wr => ∃ (i : Nat) (cr : Array Value), i ≤ N ∧ e2 = .int .i64 (i : Int) ∧ Fil wr w.heap.size N i cr ∧ Below w.heap.size w wr) (fun e2 _ => N - (RowKit.intOf e2).toNat)
  case atStart => exact ⟨0, cs, by omega, rfl, F0, bA⟩
  case round =>
    obtain ⟨i, cr, hi, rfl, F, b⟩ := hrel
    by_cases hl : i < N
    · have y : (i : Int) < N := by omega
      obtain ⟨v, hv⟩ := F.cell i hl
      have fz : ∀ ii, wr.frozen? ⟨w.heap.size, ii, none⟩ = false := frozen_of_block F.blk
      have F2 := hmk (F.next hl)
      have b2 := hmk (b.grown (grown_set1 wr w.heap.size i (.int .u8 32)) b.size (fun r hr => by cases hr; exact Nat.le_refl _))
      clear F b
      go_wp2_with fail
      go_roundw
      case rel => exact ⟨i + 1, _, by omega, by go_num, F2.out, b2.out⟩
      case measure => simp [RowKit.intOf]; omega
    · obtain rfl : i = N := by omega
      have y : ¬ (i : Int) < i := by omega
      have hN := HN.out
      obtain ⟨v, hv⟩ := F.cell 0 (by omega)
      have fz : ∀ ii, wr.frozen? ⟨w.heap.size, ii, none⟩ = false := frozen_of_block F.blk
      have k0 : (0 : Int) < i := by omega
      obtain ⟨w2, hw2⟩ : ∃ w2, wr.setCell ⟨w.heap.size, 0, none⟩ (.int .u8 97) = w2 := ⟨_, rfl⟩
      have b2 : Below w.heap.size w w2 := by rw [← hw2]; exact b.grown (grown_set1 wr w.heap.size 0 (.int .u8 97)) b.size (fun r hr => by cases hr; exact Nat.le_refl _)
      have K2 : w2.heap[w.heap.size]? = some (.cells (cr.setIfInBounds 0 (.int .u8 97)) 5 (0, 0)) := by rw [← hw2]; exact set_block F.blk 0 _
      have hc0 : (cr.setIfInBounds 0 (.int .u8 97))[0]? = some (.int .u8 97) := by
        rw [Array.getElem?_setIfInBounds, if_pos rfl, if_pos (by rw [F.len]; omega)]
      have hc1 : ∀ j, 0 < j → j < i → (cr.setIfInBounds 0 (.int .u8 97))[j]? = some (.int .u8 32) := fun j h1 h2 => by
        rw [Array.getElem?_setIfInBounds, if_neg (by omega)]
        exact F.is j h2
      obtain ⟨n1, hn1⟩ : ∃ n1, n1 + 1 = 1048576 := ⟨1048575, rfl⟩
      obtain ⟨n2, hn2⟩ : ∃ n2, n2 + 1 = i := ⟨i - 1, by omega⟩
      have hp1 := par_spaces n1 (by omega)
      have hp2 : parF ((97 : UInt8) :: List.replicate n2 32) = (none, 1048576) := by unfold parF; rw [if_pos (by simp; omega)]
      obtain ⟨A1, hA1⟩ : ∃ A1, A1 = (⟨((97 : UInt8) :: List.replicate n1 32).toArray⟩ : ByteArray) := ⟨_, rfl⟩
      obtain ⟨A2, hA2⟩ : ∃ A2, A2 = (⟨((97 : UInt8) :: List.replicate n2 32).toArray⟩ : ByteArray) := ⟨_, rfl⟩
      have hl1 : A1.data.toList = (97 : UInt8) :: List.replicate n1 32 := by rw [hA1]
      have hl2 : A2.data.toList = (97 : UInt8) :: List.replicate n2 32 := by rw [hA2]
      have hz1 : A1.size = n1 + 1 := by
        have e : A1.size = A1.data.toList.length := by simp
        rw [e, hl1]; simp
      have hz2 : A2.size = n2 + 1 := by
        have e : A2.size = A2.data.toList.length := by simp
        rw [e, hl2]; simp
      have V1 : ∀ W : World, W.heap[w.heap.size]? = some (.cells (cr.setIfInBounds 0 (.int .u8 97)) 5 (0, 0)) → (convert 55 9 (.slice (some ⟨w.heap.size, 0, none⟩) 1048576 i)).run Tryz.prog W = .ok (.string A1) W := fun W hW => by
        have := conv_fil hW hc0 hc1 n1 i (by omega)
        rw [hn1, ← hA1] at this
        exact this
      have V2 : ∀ W : World, W.heap[w.heap.size]? = some (.cells (cr.setIfInBounds 0 (.int .u8 97)) 5 (0, 0)) → (convert 55 9 (.slice (some ⟨w.heap.size, 0, none⟩) i i)).run Tryz.prog W = .ok (.string A2) W := fun W hW => by
        have := conv_fil hW hc0 hc1 n2 i (by omega)
        rw [hn2, ← hA2] at this
        exact this
      have hsl := fun W => sl55 w.heap.size i (by omega) W
      have CP1 : Hid (Calls Tryz.prog 17 #[.string A1] w2 (fun e w' => ∃ (K : ByteArray) (bb oo c : Nat), e = .returned (.tuple #[.slice (some ⟨bb, oo, none⟩) 1 c, .int .i64 (-1), .int .i64 0]) ∧ (K.toList == [97]) = true ∧ 1 ≤ c ∧ bb < w'.heap.size ∧ w'.cell? ⟨bb, oo, none⟩ = some (.string K) ∧ w'.cell? ⟨bb, oo + 1, none⟩ = some (.int .i64 1) ∧ Below w2.heap.size w2 w')) := by
        refine (parse_any A1 w2 (HTQ.out _ b2) (by omega)).mono ?_
        rw [hl1]
        rintro e w' (⟨l, u, S, h1, rfl, h3, _, h5⟩ | ⟨h1, _⟩)
        · obtain rfl : [(⟨#[97]⟩, 1, [])] = l := Option.some.inj (hp1.symm.trans h1)
          obtain ⟨a, c, bb, oo, rfl, h6, h7⟩ := own_terms h3
          have h6 : Headed a 1 c bb oo := h6
          obtain rfl : a = some ⟨bb, oo, none⟩ := h6.at_.resolve_left (by decide)
          obtain ⟨hS, cs, hr, h8⟩ := h7 0 (by decide)
          obtain ⟨a2, c2, b3, o3, e3, _⟩ := h8
          subst e3
          exact ⟨_, bb, oo, c, rfl, eq_litR rfl, h6.le, hS.2, hr 0 _ rfl, hr 1 _ rfl, h5⟩
        · rw [hp1] at h1; cases h1
      have CP2 : Hid (∀ W, Below w.heap.size w W → Calls Tryz.prog 17 #[.string A2] W (fun e w' => e = .returned (.tuple #[.slice none 0 0, .int .i64 1048576, .int .i64 200]) ∧ Below W.heap.size W w')) := fun W hW => by
        refine (parse_any A2 W (HTQ.out _ hW) (by omega)).mono ?_
        rw [hl2, hp2]
        rintro e w' (⟨l, u, S, h1, _⟩ | ⟨_, rfl, h⟩)
        · cases h1
        · exact ⟨rfl, h⟩
      have HB2 := hmk b2
      have HK2 := hmk K2
      have hblt : w.heap.size < w2.heap.size := by
        rcases Nat.lt_or_ge w.heap.size w2.heap.size with h' | h'
        · exact h'
        · rw [Array.getElem?_eq_none h'] at K2; cases K2
      have VA := V1 w2 K2
      clear hp1 hp2 hA1 hA2 hl1 hl2 hz1 hz2 V1 F b b2 hc0 hc1 hn1 hn2 K2 HN hN
      generalize cr.setIfInBounds 0 (.int .u8 97) = cr2 at *
      go_wp2_with fail
      refine CP1.out.mono ?_
      rintro e w3 ⟨K, bb, oo, c, rfl, hK, hc, hbb, q0, q1, b3⟩
      have B3 := hmk (HB2.out.trans (b3.mono HB2.out.size))
      have VB := V2 w3 ((b3.block _ hblt).trans HK2.out)
      have CP2' := hmk (CP2.out w3 B3.out)
      clear V2 CP2 CP1 VA hsl
      go_wp2_with fail
      refine CP2'.out.mono ?_
      rintro e w4 ⟨rfl, b4⟩
      have p0 : w4.cell? ⟨bb, oo, none⟩ = some (.string K) := (cell_below b4 hbb oo).trans q0
      have p1 : w4.cell? ⟨bb, oo + 1, none⟩ = some (.int .i64 1) := (cell_below b4 hbb (oo + 1)).trans q1
      have B4 := hmk (B3.out.trans (b4.mono B3.out.size))
      clear q0 q1 b4 b3 VB CP2'
      go_wp2_with (first | (go_at_call 12; refine (CN _ _).mono ?_; rintro e wn ⟨rfl, rfl⟩) | fail)
      (try simp only [Exit.inBlock, Exit.then])
      go_ret
      exact ⟨rfl, B4.out⟩
end Go.Proofs.YtolekldjbbjmjaaGreatDoor
