import Derived.Test.YtolekldjbbjmjaaGreatDoorG8
import Derived.Lib.Builder
/- quote's reader: a struct of four cells (text, place, the builder's two); the builder's methods at it. -/
set_option linter.unusedSimpArgs false
set_option linter.unusedVariables false
set_option maxRecDepth 100000
namespace Go.Proofs.YtolekldjbbjmjaaGreatDoor
open Go.RowKit
/-- the reader in block b: its text, its place, its builder's address cell, its buffer -/
def RdAt (b : Nat) (s : ByteArray) (k : Nat) (p v : Value) (w : World) : Prop := w.heap[b]? = some (.cells #[.string s, .int .i64 k, p, v] 161 (0, 0))
/-- the builder's own address -/
def self (b : Nat) : Value := .pointer (some ⟨b, 2, none⟩)
/-- the reader in block b (of the call's own, from B on), at the place k, having read the bytes l -/
def Rd (B b : Nat) (s : ByteArray) (k : Nat) (l : List UInt8) (w : World) : Prop :=
  B ≤ b ∧ ∃ p v, (p = .pointer none ∨ p = self b) ∧ RdAt b s k p v w ∧ w.ownsRowF B 5 1 v l.length (Lib.byteCells l) ∧ (l = [] → v = .slice none 0 0)
theorem RdAt.lt {b : Nat} {s : ByteArray} {k : Nat} {p v : Value} {w : World} (h : RdAt b s k p v w) : b < w.heap.size := by
  rcases Nat.lt_or_ge b w.heap.size with h' | h'
  · exact h'
  · unfold RdAt at h; simp [Array.getElem?_eq_none h'] at h
theorem RdAt.c0 {b : Nat} {s : ByteArray} {k : Nat} {p v : Value} {w : World} (h : RdAt b s k p v w) : w.cell? ⟨b, 0, none⟩ = some (.string s) := by rw [Lib.cell_of_heap h]; rfl
theorem RdAt.c1 {b : Nat} {s : ByteArray} {k : Nat} {p v : Value} {w : World} (h : RdAt b s k p v w) : w.cell? ⟨b, 1, none⟩ = some (.int .i64 k) := by rw [Lib.cell_of_heap h]; rfl
theorem RdAt.c2 {b : Nat} {s : ByteArray} {k : Nat} {p v : Value} {w : World} (h : RdAt b s k p v w) : w.cell? ⟨b, 2, none⟩ = some p := by rw [Lib.cell_of_heap h]; rfl
theorem RdAt.c3 {b : Nat} {s : ByteArray} {k : Nat} {p v : Value} {w : World} (h : RdAt b s k p v w) : w.cell? ⟨b, 3, none⟩ = some v := by rw [Lib.cell_of_heap h]; rfl
theorem RdAt.fz {b : Nat} {s : ByteArray} {k : Nat} {p v : Value} {w : World} (h : RdAt b s k p v w) (o : Nat) : w.frozen? ⟨b, o, none⟩ = false := Lib.frozen_of_heap h o
theorem RdAt.put1 {b : Nat} {s : ByteArray} {k : Nat} {p v : Value} {w : World} (h : RdAt b s k p v w) (n : Nat) : RdAt b s n p v (w.setCell ⟨b, 1, none⟩ (.int .i64 n)) := by
  unfold RdAt at h ⊢
  simp [World.setCell, Array.getElem?_modify, h]
theorem RdAt.put2 {b : Nat} {s : ByteArray} {k : Nat} {p v : Value} {w : World} (h : RdAt b s k p v w) (q : Value) : RdAt b s k q v (w.setCell ⟨b, 2, none⟩ q) := by
  unfold RdAt at h ⊢
  simp [World.setCell, Array.getElem?_modify, h]
theorem RdAt.put3 {b : Nat} {s : ByteArray} {k : Nat} {p v : Value} {w : World} (h : RdAt b s k p v w) (u : Value) : RdAt b s k p u (w.setCell ⟨b, 3, none⟩ u) := by
  unfold RdAt at h ⊢
  simp [World.setCell, Array.getElem?_modify, h]
theorem RdAt.keep {b : Nat} {s : ByteArray} {k : Nat} {p v : Value} {w w' : World} (h : RdAt b s k p v w) (e : w'.heap[b]? = w.heap[b]?) : RdAt b s k p v w' := e.trans h
/-- a row of bytes is another block than the reader -/
theorem RdAt.ne {B b : Nat} {s : ByteArray} {k : Nat} {p v u : Value} {w : World} {n : Nat} {xs : List Value} (h : RdAt b s k p v w) (ho : w.ownsRowF B 5 1 u n xs) : u.ownBlock ≠ some b := by
  intro e
  rcases ho.2 with ⟨rfl, _⟩ | ⟨g, cap, cur, fz, rfl, hb, hg, _⟩
  · cases e
  · have : g = b := by simpa [Value.ownBlock] using e
    subst this
    unfold RdAt at h
    rw [h] at hg
    cases hg
/-- a row stays owned behind a store into the reader -/
theorem ownF_set {B b o : Nat} {v u : Value} {n : Nat} {xs : List Value} {w : World} (h : w.ownsRowF B 5 1 v n xs) (hne : v.ownBlock ≠ some b) : (w.setCell ⟨b, o, none⟩ u).ownsRowF B 5 1 v n xs := by
  refine ⟨h.1, ?_⟩
  rcases h.2 with hn | ⟨g, cap, cur, fz, hv, hb, hg, rest⟩
  · exact .inl hn
  · refine .inr ⟨g, cap, cur, fz, hv, hb, ?_, rest⟩
    rw [Below.heap_setCell _ _ _ _ (fun e => hne (by rw [hv, e]; rfl))]
    exact hg
theorem size42 : (Tryz.prog.info? 57).map (·.size) = some 2 := by kernel_rfl
theorem lies42 : liesAt Tryz.prog Tryz.prog.depth 161 (4 / Tryz.prog.cellsOf 160) 2 57 1 = true := by kernel_rfl
set_option maxHeartbeats 1000000 in
set_option maxRecDepth 100000 in
theorem copyCheck_used (b : Nat) (w : World) (h0 : w.cell? ⟨b, 2, none⟩ = some (.pointer (some ⟨b, 2, none⟩))) :
    Calls Tryz.prog 42 #[.pointer (some ⟨b, 2, none⟩)] w fun e w' => e = .returned (.tuple #[]) ∧ w' = w := by
  obtain ⟨j, hj, _⟩ := Option.map_eq_some_iff.1 size42
  go_enter Tryz.func42, Tryz.ntmps42
  go_wp2
  rw [Lib.run_neq_ptr_same w _ Tryz.underlying54 hj]
  go_wp2
  go_end0
  exact ⟨rfl, rfl⟩
set_option maxHeartbeats 1000000 in
set_option maxRecDepth 100000 in
theorem copyCheck_fresh (b : Nat) (w : World) (h0 : w.cell? ⟨b, 2, none⟩ = some (.pointer none)) (hsh : w.shape? b = some (161, 4)) (hfz : w.frozen? ⟨b, 2, none⟩ = false) :
    Calls Tryz.prog 42 #[.pointer (some ⟨b, 2, none⟩)] w fun e w' => e = .returned (.tuple #[]) ∧ w' = w.setCell ⟨b, 2, none⟩ (.pointer (some ⟨b, 2, none⟩)) := by
  obtain ⟨j, hj, hjs⟩ := Option.map_eq_some_iff.1 size42
  go_enter Tryz.func42, Tryz.ntmps42
  go_wp2
  rw [Lib.run_to_unsafe w ⟨b, 2, none⟩ Tryz.underlying54 Tryz.underlying103 hj (by rw [hjs]; decide) hsh (by show 2 < 4; omega)]
  simp only [Result.andThen]
  rw [Oper.upon_value]
  go_wp2
  rw [run_callFunc_extern Tryz.func63 (by kernel_rfl) (by kernel_rfl) (by kernel_rfl) (e := Extern.AbiNoEscape.same) (by kernel_rfl)]
  rw [Lib.run_noEscape]
  simp only [Result.andThen]
  rw [Oper.upon_value]
  go_wp2
  rw [Lib.run_from_unsafe w ⟨b, 2, none⟩ Tryz.underlying103 Tryz.underlying54 hj hsh lies42]
  simp only [Result.andThen]
  rw [Oper.upon_value]
  go_wp2
  go_end0
  exact ⟨rfl, rfl⟩
theorem copyCheck_rd (B b : Nat) (s : ByteArray) (k : Nat) (l : List UInt8) (w : World) (h : Rd B b s k l w) :
    Calls Tryz.prog 42 #[.pointer (some ⟨b, 2, none⟩)] w fun e w' => e = .returned (.tuple #[]) ∧ (∃ v, RdAt b s k (self b) v w' ∧ w'.ownsRowF B 5 1 v l.length (Lib.byteCells l)) ∧ Below B w w' := by
  obtain ⟨hB, p, v, hp, hr, ho, -⟩ := h
  rcases hp with rfl | rfl
  · refine (copyCheck_fresh b w hr.c2 (by unfold RdAt at hr; simp [World.shape?, hr]) (hr.fz 2)).mono ?_
    rintro e w' ⟨rfl, rfl⟩
    exact ⟨rfl, ⟨v, hr.put2 _, ownF_set ho (hr.ne ho)⟩, (Below.refl B w).setCell (p := ⟨b, 2, none⟩) hB _⟩
  · refine (copyCheck_used b w hr.c2).mono ?_
    rintro e w' ⟨rfl, rfl⟩
    exact ⟨rfl, ⟨v, hr, ho⟩, Below.refl B _⟩
theorem enc_ne (l : List UInt8) (r : Int) : l ++ Lib.encodeRune r ≠ [] := by
  intro e
  have h := Lib.runeCells_le r
  rw [Lib.runeCells_length] at h
  have := (List.append_eq_nil_iff.1 e).2
  rw [this] at h
  simp at h
/-- what an append onto the buffer, stored back, leaves -/
theorem rd_put {B b : Nat} {s : ByteArray} {k : Nat} {v v' : Value} {l : List UInt8} {w1 w2 : World} {o : Obj} (hB : B ≤ b) (hBw : B ≤ w1.heap.size) (hr : RdAt b s k (self b) v w1) (n : Nat) (xs : List Value) (ho : w1.ownsRowF B 5 1 v n xs)
    (hg : (w1.alloc o).grownBy w2 v.ownBlock) (ho' : w2.ownsRowF B 5 1 v' l.length (Lib.byteCells l)) (hne : l ≠ []) :
    RdAt b s k (self b) v w2 ∧ Rd B b s k l (w2.setCell ⟨b, 3, none⟩ v') ∧ Below B w1 (w2.setCell ⟨b, 3, none⟩ v') := by
  have hlt := hr.lt
  have hb2 : w2.heap[b]? = w1.heap[b]? := by
    rw [hg.block b (by simp; omega) (fun e => hr.ne ho e.symm)]
    exact Lib.alloc_old w1 _ b hlt
  have hr2 := hr.keep hb2
  refine ⟨hr2, ⟨hB, self b, v', .inr rfl, hr2.put3 v', ownF_set ho' (hr2.ne ho'), fun e => absurd e hne⟩, ?_⟩
  exact ((((Below.refl B w1).alloc hBw o).grown hg (by simp; omega) (fun k hk => (ho.lt k hk).1)).setCell (p := ⟨b, 3, none⟩) hB _)
set_option maxHeartbeats 2000000 in
set_option maxRecDepth 100000 in
theorem writeByte_rd (B b : Nat) (s : ByteArray) (k : Nat) (l : List UInt8) (c : UInt8) (w : World) (h : Rd B b s k l w) (hlen : l.length + 1 ≤ 140737488355328) (hBw : B ≤ w.heap.size) :
    Calls Tryz.prog 23 #[.pointer (some ⟨b, 2, none⟩), .int .u8 c.toNat] w fun e w' => e = .returned .nilIface ∧ Rd B b s k (l ++ [c]) w' ∧ Below B w w' := by
  obtain ⟨i0, hi, hz0, hz1, hz2⟩ := info_parts info5
  have hB := h.1
  go_enter Tryz.func23, Tryz.ntmps23
  go_wp2_with (go_at_call 42; refine (copyCheck_rd B b s k l _ h).mono ?_)
  rintro e w1 ⟨rfl, ⟨v, hr, ho⟩, hb1⟩
  have hs1 := hb1.size
  have c3 := hr.c3
  go_wp2_with (at_builtin; refine wpList_append_ownF _ rfl _ _ 55 rfl B 5 i0 (.int .u8 0) 1 1 Tryz.underlying55 hi hz0 hz1 hz2 rfl (by decide) _ _ _ rfl (ho.alloc _) ⟨w1.heap.size, 0, none⟩ 1 1 [.int .u8 c.toNat] rfl rfl ?c1 ?c2 ?c3 ?c4 ?c5 ?_)
  case c1 =>
    intro j u hj
    match j, hj with
    | 0, hj => simp at hj; subst hj; simp [Addr.add]
  case c2 => intro u hu; simp at hu; subst hu; rfl
  case c3 => unfold maxLen; omega
  case c4 => omega
  case c5 => simp; omega
  intro v' w2 hown' hgrow _
  have hown2 : w2.ownsRowF B 5 1 v' (l ++ [c]).length (Lib.byteCells (l ++ [c])) := by
    have e : Lib.byteCells (l ++ [c]) = Lib.byteCells l ++ [Value.int .u8 c.toNat] := by simp [Lib.byteCells]
    rw [e, List.length_append]
    exact hown'
  obtain ⟨hr2, hR, hbb⟩ := rd_put hB (by omega) hr _ _ ho hgrow hown2 (by simp)
  have d3 := hr2.c3
  have f3 := hr2.fz 3
  obtain ⟨g, cap, rfl⟩ : ∃ g cap, v' = .slice (some ⟨g, 0, none⟩) (l.length + 1) cap := by
    rcases hown'.2 with ⟨_, h0⟩ | ⟨g, cap, cur, fz, hv, _⟩
    · omega
    · exact ⟨g, cap, hv⟩
  clear hown' hgrow ho hr hown2
  go_wp2
  go_ret
  exact ⟨rfl, hR, hb1.trans hbb⟩
set_option maxHeartbeats 2000000 in
set_option maxRecDepth 100000 in
theorem writeRune_rd (B b : Nat) (s : ByteArray) (k : Nat) (l : List UInt8) (r : Int) (hr0 : -2147483648 ≤ r) (hr1 : r ≤ 2147483647) (w : World) (h : Rd B b s k l w) (hlen : l.length + 4 ≤ 140737488355328) (hBw : B ≤ w.heap.size) :
    Calls Tryz.prog 145 #[.pointer (some ⟨b, 2, none⟩), .int .i32 r] w fun e w' => (∃ m : Int, e = .returned (.tuple #[.int .i64 m, .nilIface])) ∧ Rd B b s k (l ++ Lib.encodeRune r) w' ∧ Below B w w' := by
  have hB := h.1
  have hk4 := Lib.runeCells_le r
  go_enter Tryz.func145, Tryz.ntmps145
  go_wp2_with (go_at_call 42; refine (copyCheck_rd B b s k l _ h).mono ?_)
  rintro e w1 ⟨rfl, ⟨v, hr, ho⟩, hb1⟩
  have hs1 := hb1.size
  obtain ⟨ao, cap, rfl⟩ : ∃ ao cap, v = .slice ao l.length cap := by
    rcases ho.2 with ⟨hv, h0⟩ | ⟨g, cap, cur, fz, hv, _⟩
    · exact ⟨none, 0, by rw [hv, h0]⟩
    · exact ⟨_, _, hv⟩
  have c3 := hr.c3
  go_wp2_with (go_at_call 149; refine (Any.utf8_AppendRune_own { Tryz.lays168 with } Tryz.lays168X B _ l.length (Lib.byteCells l) r hr0 hr1 _ ho hlen (by omega)).mono ?_)
  rintro e w2 ⟨v', rfl, hown', o, hgrow⟩
  have hown2 : w2.ownsRowF B 5 1 v' (l ++ Lib.encodeRune r).length (Lib.byteCells (l ++ Lib.encodeRune r)) := by
    have e : Lib.byteCells (l ++ Lib.encodeRune r) = Lib.byteCells l ++ Lib.runeCells r := by rw [← Lib.byteCells_encodeRune]; simp [Lib.byteCells]
    rw [e, List.length_append, ← Lib.runeCells_length]
    exact hown'
  obtain ⟨hr2, hR, hbb⟩ := rd_put hB (by omega) hr _ _ ho hgrow hown2 (enc_ne l r)
  have d3 := hr2.c3
  have f3 := hr2.fz 3
  obtain ⟨ao', cap', rfl⟩ : ∃ ao' cap', v' = .slice ao' (l.length + (Lib.runeCells r).length) cap' := by
    rcases hown'.2 with ⟨hv, h0⟩ | ⟨g, cap, cur, fz, hv, _⟩
    · exact ⟨none, 0, by rw [hv]; congr 1; omega⟩
    · exact ⟨_, _, hv⟩
  clear hown' hgrow ho hr hown2
  generalize (Lib.runeCells r).length = M at *
  go_wp2
  go_ret2
  exact ⟨⟨_, rfl⟩, hR, hb1.trans hbb⟩
set_option maxHeartbeats 2000000 in
set_option maxRecDepth 100000 in
theorem string_some (B b : Nat) (s : ByteArray) (k : Nat) (l : List UInt8) (w : World) (h : Rd B b s k l w) (h0 : l ≠ []) :
    Calls Tryz.prog 25 #[.pointer (some ⟨b, 2, none⟩)] w fun e w' => e = .returned (.string ⟨l.toArray⟩) ∧ w'.heap[b]? = w.heap[b]? ∧ Below B w w' := by
  obtain ⟨hB, p, v, hp, hr, ho, -⟩ := h
  have hl0 : l.length ≠ 0 := by simpa using h0
  have hne := hr.ne ho
  obtain ⟨g, cap, cur, fz, rfl, hbg, hg, hfz, hnc, hcm, hcs, htake⟩ : ∃ g cap cur fz, v = .slice (some ⟨g, 0, none⟩) l.length cap ∧ B ≤ g ∧ w.heap[g]? = some (.cells cur 5 fz) ∧ fz.2 ≤ l.length * 1 ∧ l.length ≤ cap ∧ cap ≤ maxLen ∧ cur.size = cap * 1 ∧ cur.toList.take (l.length * 1) = Lib.byteCells l := by
    rcases ho.2 with ⟨_, hz⟩ | ⟨g, cap, cur, fz, hv, r⟩
    · exact absurd hz hl0
    · exact ⟨g, cap, cur, fz, hv, r⟩
  have c3 : w.drew.cell? ⟨b, 3, none⟩ = some (.slice (some ⟨g, 0, none⟩) l.length cap) := hr.c3
  have hSD : (Builtin.unsafeSliceData_ #[55] 93 #[.slice (some ⟨g, 0, none⟩) l.length cap]).run Tryz.prog w.drew = .ok (.pointer (some ⟨g, 0, none⟩)) w.drew :=
    Lib.run_unsafeSliceData_row _ _ _ _ _ _ (by omega)
  have hUS : (Builtin.unsafeString_ #[93, 3] 9 #[.pointer (some ⟨g, 0, none⟩), .int .i64 l.length]).run Tryz.prog w.drew = .ok (.string ⟨l.toArray⟩) (w.drew.freeze ⟨g, 0, none⟩ l.length) := by
    refine Lib.run_unsafeString_row w.drew 93 3 9 5 Tryz.underlying93 (by kernel_rfl) g cur.size (by have hg' : w.drew.heap[g]? = some (.cells cur 5 fz) := hg; simp [World.shape?, hg']) l h0 (by omega) (by unfold maxLen at hcm; omega) ?_
    intro j x hx
    have := ho.cells (g := g) rfl j (.int .u8 x.toNat) (by simp [Lib.byteCells, hx])
    exact this
  have hgb : g ≠ b := fun e => hne (by rw [e]; rfl)
  have hkeep : (w.drew.freeze ⟨g, 0, none⟩ l.length).heap[b]? = w.heap[b]? := by
    simp only [World.freeze]
    split
    · rfl
    · rw [Array.getElem?_modify, if_neg hgb]; rfl
  have hbel := Lib.below_freeze (Below.drew (Below.refl B w)) (p := ⟨g, 0, none⟩) hbg l.length
  clear hr ho hg htake hcs hcm hne
  go_enter Tryz.func25, Tryz.ntmps25
  go_wp2
  go_region
  all_goals (go_wp2; go_ret; exact ⟨rfl, hkeep, hbel⟩)
set_option maxHeartbeats 2000000 in
set_option maxRecDepth 100000 in
theorem string_none (B b : Nat) (s : ByteArray) (k : Nat) (w : World) (h : Rd B b s k [] w) :
    Calls Tryz.prog 25 #[.pointer (some ⟨b, 2, none⟩)] w fun e w' => e = .returned (.string ⟨#[]⟩) ∧ w'.heap[b]? = w.heap[b]? ∧ Below B w w' := by
  obtain ⟨hB, p, v, hp, hr, ho, hv⟩ := h
  obtain rfl := hv rfl
  have c3 : w.drew.cell? ⟨b, 3, none⟩ = some (.slice none 0 0) := hr.c3
  have hUS : ∀ W : World, (Builtin.unsafeString_ #[93, 3] 9 #[.pointer none, .int .i64 0]).run Tryz.prog W = .ok (.string ⟨#[]⟩) W := fun W => Any.unsafeString_none Tryz.lays169 Tryz.lays169X W none
  have hSD : (Builtin.unsafeSliceData_ #[55] 93 #[.slice none 0 0]).run Tryz.prog w.drew = .ok (.pointer none) w.drew := rfl
  clear hr ho hv
  go_enter Tryz.func25, Tryz.ntmps25
  go_wp2
  go_region
  all_goals (go_wp2; go_ret; exact ⟨rfl, rfl, (Below.refl B w).drew⟩)
theorem string_rd (B b : Nat) (s : ByteArray) (k : Nat) (l : List UInt8) (w : World) (h : Rd B b s k l w) :
    Calls Tryz.prog 25 #[.pointer (some ⟨b, 2, none⟩)] w fun e w' => e = .returned (.string ⟨l.toArray⟩) ∧ w'.heap[b]? = w.heap[b]? ∧ Below B w w' := by
  cases l with
  | nil => exact string_none B b s k w h
  | cons x r => exact string_some B b s k (x :: r) w h (by simp)
end Go.Proofs.YtolekldjbbjmjaaGreatDoor
