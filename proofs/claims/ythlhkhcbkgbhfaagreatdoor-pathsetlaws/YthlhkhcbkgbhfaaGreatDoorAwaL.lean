import Derived.Test.YthlhkhcbkgbhfaaGreatDoorG25
/- The law's field; a new tree; a search among no children; one child put in. -/
set_option linter.unusedSimpArgs false
set_option linter.unusedVariables false
namespace Go.Proofs.YthlhkhcbkgbhfaaGreatDoor
open Go Go.RowKit Go.Lib Go.Shelf
/-- a field of that name -/
def fldE (nm : ByteArray) : El := ⟨1, nm, [], .mk 0 false 0 ⟨#[]⟩ [] []⟩
theorem field_any (nm : ByteArray) (w : World) : Calls Tryz.prog 27 #[.string nm] w fun e w' => e = .returned (.slice (some ⟨w.heap.size, 0, none⟩) 1 1) ∧ w' = w.alloc (.cells #[.int .i64 1, .string nm, .slice none 0 0, .int .i64 0, .bool false, .int .i64 0, .string ⟨#[]⟩, .slice none 0 0, .slice none 0 0] 66) := by
  go_enter Tryz.func27, Tryz.ntmps27
  go_wp2_with fail
  go_ret
  exact ⟨rfl, rfl⟩
theorem zeroV_lies (w : World) (S : Nat → Prop) : (V.mk 0 false 0 ⟨#[]⟩ [] []).lies false w S [.int .i64 0, .bool false, .int .i64 0, .string ⟨#[]⟩, .slice none 0 0, .slice none 0 0] := by
  rw [V.lies]
  exact ⟨none, 0, 0, 0, none, 0, 0, 0, rfl, by simp [In64], by simp [In64], by simp [maxLen, ByteArray.size], ⟨Nat.le_refl _, by simp [maxLen], .inl rfl, fun _ => rfl⟩, ⟨Nat.le_refl _, by simp [maxLen], .inl rfl, fun _ => rfl⟩, by rw [liesL]; trivial, by rw [liesM]; trivial, fun h => by cases h⟩
theorem fld_lies (nm : ByteArray) (h : nm.size ≤ maxLen) (w : World) (S : Nat → Prop) : (fldE nm).lies w S [.int .i64 1, .string nm, .slice none 0 0, .int .i64 0, .bool false, .int .i64 0, .string ⟨#[]⟩, .slice none 0 0, .slice none 0 0] :=
  ⟨none, 0, 0, 0, _, rfl, by simp [fldE, In64], h, ⟨Nat.le_refl _, by simp [maxLen], .inl rfl, fun _ => rfl⟩, by rw [fldE, liesM]; trivial, zeroV_lies w S⟩
theorem row_block {w : World} {b : Nat} {t : TypeId} {cs : List Value} (h : w.heap[b]? = some (.cells cs.toArray t (0, 0))) : rowAt w b 0 cs := fun i u hi => by
  rw [Nat.zero_add, cell_of_block h, ← hi]
  exact Array.getElem?_toList.symm
theorem fld_path {w : World} {b : Nat} {S : Nat → Prop} (nm : ByteArray) (h : nm.size ≤ maxLen) (hb : w.heap[b]? = some (.cells #[.int .i64 1, .string nm, .slice none 0 0, .int .i64 0, .bool false, .int .i64 0, .string ⟨#[]⟩, .slice none 0 0, .slice none 0 0] 66 (0, 0))) (hS : S b) : liesP w S [fldE nm] b 0 := fun j hj => by
  obtain rfl : j = 0 := by simp at hj; omega
  exact ⟨hS, _, row_block (cs := [.int .i64 1, .string nm, .slice none 0 0, .int .i64 0, .bool false, .int .i64 0, .string ⟨#[]⟩, .slice none 0 0, .slice none 0 0]) hb, fld_lies nm h w S⟩
theorem new_any (w : World) : Calls Tryz.prog 28 #[] w fun e w' => e = .returned (.pointer (some ⟨w.heap.size, 0, none⟩)) ∧ w' = w.alloc (.cells #[.int .i64 0, .string ⟨#[]⟩, .slice none 0 0, .int .i64 0, .bool false, .int .i64 0, .string ⟨#[]⟩, .slice none 0 0, .slice none 0 0, .bool false, .slice none 0 0, .int .i64 0] 78) := by
  go_enter Tryz.func28, Tryz.ntmps28
  go_wp2_with fail
  go_ret
  exact ⟨rfl, rfl⟩
theorem ready_any (T : Addr) (p : List El) (S : Nat → Prop) (ap : Option Addr) (cp bp op : Nat) (w : World) (t : Tb w) (hap : Headed ap p.length cp bp op) (hp : liesP w S p bp op) (hS : ∀ b, S b → b < w.heap.size) (hwt : wtP p ≤ 2147483647) :
    Calls Tryz.prog 50 #[.pointer (some T), .slice ap p.length cp] w (NPost (errP p) w) := by
  have c := hmk (pcheck_any p S ap cp bp op w t hap hp hS hwt)
  clear hp t
  generalize errP p = Ep at *
  go_enter Tryz.func50, Tryz.ntmps50
  go_wp2_with fail
  refine c.out.mono ?_
  rintro e w1 ⟨rfl, b1⟩
  go_wp2_with fail
  go_ret
  exact ⟨rfl, b1⟩
set_option maxHeartbeats 4000000 in
set_option maxRecDepth 100000 in
theorem bsn_any (ek : Int) (en : ByteArray) (ea : Option Addr) (el ec : Nat) (vk : Int) (vb : Bool) (vi : Int) (vs : ByteArray) (al : Option Addr) (ln lc : Nat) (am : Option Addr) (mn mc : Nat) (w : World) :
    Calls Tryz.prog 84 #[.slice none 0 0, .agg #[.int .i64 ek, .string en, .slice ea el ec, .int .i64 vk, .bool vb, .int .i64 vi, .string vs, .slice al ln lc, .slice am mn mc], .func (.func 85) #[] #[]] w fun e w' => e = .returned (.tuple #[.int .i64 0, .bool false]) ∧ Below w.heap.size w w' := by
  have B1 : Below w.heap.size w (w.alloc (.cells #[.int .i64 ek, .string en, .slice ea el ec, .int .i64 vk, .bool vb, .int .i64 vi, .string vs, .slice al ln lc, .slice am mn mc] 66)) := (Below.refl _ w).alloc (Nat.le_refl _) _
  go_enter Tryz.func84, Tryz.ntmps84
  go_wp2_with fail
  go_loopw [9, 10] (fun e9 e10 wr => e9 = .int .i64 0 ∧ e10 = .int .i64 0 ∧ Below w.heap.size w wr) (fun _ _ _ => 0)
  case atStart => exact ⟨rfl, by first | rfl | simp, B1⟩
  case round =>
    obtain ⟨rfl, rfl, bj⟩ := hrel
    clear B1
    go_wp2_with fail
    refine wp_region_sub wr.heap.size (by kernel_rfl) (by kernel_rfl) ?_
    repeat (go_big_quiet_step (fail))
    refine wpQuiet_nil ?_
    rintro wq ⟨⟨wq', bq⟩, hq⟩
    have hq' : wq = wq' := hq
    subst hq'
    go_wp2_with fail
    go_ret2
    exact ⟨rfl, bj.trans (bq.mono bj.size)⟩
set_option maxHeartbeats 4000000 in
set_option maxRecDepth 100000 in
theorem findn_any (T : Nat) (ek : Int) (en : ByteArray) (ea : Option Addr) (el ec : Nat) (vk : Int) (vb : Bool) (vi : Int) (vs : ByteArray) (al : Option Addr) (ln lc : Nat) (am : Option Addr) (mn mc : Nat) (w : World) (hk : w.cell? ⟨T, 10, none⟩ = some (.slice none 0 0)) :
    Calls Tryz.prog 70 #[.pointer (some ⟨T, 0, none⟩), .agg #[.int .i64 ek, .string en, .slice ea el ec, .int .i64 vk, .bool vb, .int .i64 vi, .string vs, .slice al ln lc, .slice am mn mc]] w fun e w' => e = .returned (.tuple #[.int .i64 0, .bool false]) ∧ Below w.heap.size w w' := by
  have hT : T < w.heap.size := World.block_lt_of_cell? w _ hk
  have B1 : Below w.heap.size w (w.alloc (.cells #[.int .i64 ek, .string en, .slice ea el ec, .int .i64 vk, .bool vb, .int .i64 vi, .string vs, .slice al ln lc, .slice am mn mc] 66)) := (Below.refl _ w).alloc (Nat.le_refl _) _
  have nb := heap_alloc_new w (.cells #[.int .i64 ek, .string en, .slice ea el ec, .int .i64 vk, .bool vb, .int .i64 vi, .string vs, .slice al ln lc, .slice am mn mc] 66)
  have hz := alloc_size w (.cells #[.int .i64 ek, .string en, .slice ea el ec, .int .i64 vk, .bool vb, .int .i64 vi, .string vs, .slice al ln lc, .slice am mn mc] 66)
  have k1 := (B1.cell (p := ⟨T, 10, none⟩) hT).trans hk
  obtain ⟨r0, r1, r2, r3, r4, r5, r6, r7, r8⟩ := row9z (row_block (cs := [.int .i64 ek, .string en, .slice ea el ec, .int .i64 vk, .bool vb, .int .i64 vi, .string vs, .slice al ln lc, .slice am mn mc]) nb)
  go_enter Tryz.func70, Tryz.ntmps70
  go_wp2_with fail
  generalize w.alloc (.cells #[.int .i64 ek, .string en, .slice ea el ec, .int .i64 vk, .bool vb, .int .i64 vi, .string vs, .slice al ln lc, .slice am mn mc] 66) = w1 at *
  have p0 : ∀ z : Sub w1.heap.size w1, _ := sub_cell k1 (by show T < _; omega)
  have q0 : ∀ z : Sub w1.heap.size w1, _ := sub_cell r0 (by show w.heap.size < _; omega)
  have q1 : ∀ z : Sub w1.heap.size w1, _ := sub_cell r1 (by show w.heap.size < _; omega)
  have q2 : ∀ z : Sub w1.heap.size w1, _ := sub_cell r2 (by show w.heap.size < _; omega)
  have q3 : ∀ z : Sub w1.heap.size w1, _ := sub_cell r3 (by show w.heap.size < _; omega)
  have q4 : ∀ z : Sub w1.heap.size w1, _ := sub_cell r4 (by show w.heap.size < _; omega)
  have q5 : ∀ z : Sub w1.heap.size w1, _ := sub_cell r5 (by show w.heap.size < _; omega)
  have q6 : ∀ z : Sub w1.heap.size w1, _ := sub_cell r6 (by show w.heap.size < _; omega)
  have q7 : ∀ z : Sub w1.heap.size w1, _ := sub_cell r7 (by show w.heap.size < _; omega)
  have q8 : ∀ z : Sub w1.heap.size w1, _ := sub_cell r8 (by show w.heap.size < _; omega)
  have CI : Hid (∀ z : Sub w1.heap.size w1, Calls Tryz.prog 84 #[.slice none 0 0, .agg #[.int .i64 ek, .string en, .slice ea el ec, .int .i64 vk, .bool vb, .int .i64 vi, .string vs, .slice al ln lc, .slice am mn mc], .func (.func 85) #[] #[]] z.w fun e w'' => e = .returned (.tuple #[.int .i64 0, .bool false]) ∧ ∃ q : Sub w1.heap.size w1, w'' = q.w) := sub_call fun w' hb => (bsn_any ek en ea el ec vk vb vi vs al ln lc am mn mc w').mono fun e w'' h => ⟨h.1, hb.trans (h.2.mono hb.size)⟩
  clear k1 r0 r1 r2 r3 r4 r5 r6 r7 r8 nb hk
  refine wp_region_sub w1.heap.size (by kernel_rfl) (by kernel_rfl) ?_
  repeat (go_big_quiet_step (exact CI.out _))
  refine wpQuiet_nil ?_
  rintro wq ⟨⟨wq', bq⟩, hq⟩
  have hq' : wq = wq' := hq
  subst hq'
  go_wp2_with fail
  go_ret2
  exact ⟨rfl, B1.trans (bq.mono B1.size)⟩
theorem info79 : (Tryz.prog.info? 79).map (fun i => (i.zero, i.size, i.bytes)) = some (some (.pointer none), 1, 8) := by kernel_rfl
set_option maxHeartbeats 4000000 in
set_option maxRecDepth 100000 in
theorem insertn_any (v : Value) (h1 : v.oneCell' = true) (g : Nat) (w : World) (hg : w.cell? ⟨g, 0, none⟩ = some v) :
    Calls Tryz.prog 71 #[.slice none 0 0, .int .i64 0, .slice (some ⟨g, 0, none⟩) 1 1] w fun e w' => ∃ r, e = .returned r ∧ w'.ownsRow w.heap.size 79 1 r 1 [v] ∧ Below w.heap.size w w' := by
  obtain ⟨i0, hi0, hz0, hz1, hz2⟩ := info_parts info79
  have CL : Hid (∀ j u, [v][j]? = some u → w.cell? ⟨g, 0 + j, none⟩ = some u) := fun j u hu => by
    cases j with
    | zero => simp at hu; subst hu; exact hg
    | succ j => simp at hu
  have ONE : Hid (∀ u ∈ [v], u.oneCell' = true) := fun u hu => by rw [List.mem_singleton.1 hu]; exact h1
  clear hg
  go_enter Tryz.func71, Tryz.ntmps71
  go_wp2_with (at_builtin; go_loud (refine wpl_catP rfl (.tmp 23) (.tmp 24) 74 rfl w.heap.size 79 i0 _ 1 8 Tryz.underlying74 hi0 hz0 hz1 hz2 rfl (by decide) (by decide) (.slice none 0 0) 0 [] rfl (World.ownsRow_nil w _ 79 1) (some ⟨g, 0, none⟩) 1 1 g 0 rfl ⟨Nat.le_refl _, by simp [maxLen], .inr rfl, fun h => by cases h⟩ [v] rfl CL.out ONE.out (by omega) (Nat.le_refl _) ?_))
  intro v1 w1 o1 g1
  have O1 := hmk o1
  have B1 : Below w.heap.size w w1 := (Below.refl _ w).grown g1 (by omega) (fun r e => by simp [Value.ownBlock] at e)
  clear o1 g1
  go_wp2_with fail
  go_ret
  exact ⟨_, rfl, O1.out, B1⟩
end Go.Proofs.YthlhkhcbkgbhfaaGreatDoor
