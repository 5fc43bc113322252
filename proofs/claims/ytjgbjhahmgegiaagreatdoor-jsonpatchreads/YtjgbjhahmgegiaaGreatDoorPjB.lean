import Derived.Test.YtjgbjhahmgegiaaGreatDoorPjA
import Derived.Test.YtjgbjhahmgegiaaGreatDoorRgtA
import Derived.Test.YtjgbjhahmgegiaaGreatDoorSamV
/- word, text; is, from, val; null, zero. -/
set_option linter.unusedSimpArgs false
set_option linter.unusedVariables false
set_option maxRecDepth 100000
namespace Go.Proofs.YtjgbjhahmgegiaaGreatDoor
open Go.RowKit Go.Lib
theorem hmk {p : Prop} (h : p) : Hid p := h
def strOf : V → ByteArray
  | .mk _ _ _ s _ _ => s
def kndOf : V → Int
  | .mk k _ _ _ _ _ => k
theorem lies_fields {R : Bool} {w : World} {S : Nat → Prop} {v : V} {k : Int} {b : Bool} {i : Int} {s : ByteArray} {cs : List Value} (h : v.lies R w S (.int .i64 k :: .bool b :: .int .i64 i :: .string s :: cs)) : kndOf v = k ∧ strOf v = s := by
  cases v
  rw [V.lies] at h
  obtain ⟨al, cl, bl, ol, am, cm, bm, om, e, _⟩ := h
  injection e with e1 e
  injection e with e2 e
  injection e with e3 e
  injection e with e4 e
  injection e1 with _ e1
  injection e4 with e4
  exact ⟨e1.symm, e4.symm⟩
/-- the string that a map has for a key -/
def wrdF (v : V) (key : ByteArray) : ByteArray × Bool := (strOf (getV v key).1, (getV v key).2 && decide (kndOf (getV v key).1 = 3))
def WrP (p : ByteArray × Bool) (w : World) (e : Ending) (w' : World) : Prop := e = .returned (.tuple #[.string p.1, .bool p.2]) ∧ Below w.heap.size w w'
set_option maxHeartbeats 8000000 in
theorem word_any (v : V) (key : ByteArray) (R : Bool) (S : Nat → Prop) (cs : List Value) (w : World) (tb : Tb w) (hv : v.lies R w S cs) (hS : ∀ b, S b → b < w.heap.size) (hwt : v.wt ≤ 2147483648) : Calls Tryz.prog 39 #[.agg cs.toArray, .string key] w (WrP (wrdF v key) w) := by
  obtain ⟨vk, vb, vi, vs, val, vnl, vcl, vam, vnm, vcm, rfl⟩ := V.ten hv
  have B0 : Below w.heap.size w (w.alloc (.cells #[.int .i64 vk, .bool vb, .int .i64 vi, .string vs, .slice val vnl vcl, .slice vam vnm vcm] 25)) := (Below.refl _ _).alloc (Nat.le_refl _) _
  have z0 := alloc_size w (.cells #[.int .i64 vk, .bool vb, .int .i64 vi, .string vs, .slice val vnl vcl, .slice vam vnm vcm] 25)
  have N0 := heap_alloc_new w (.cells #[.int .i64 vk, .bool vb, .int .i64 vi, .string vs, .slice val vnl vcl, .slice vam vnm vcm] 25)
  have L0 := V.lies_keep (R := R) (R' := R) (S := S) (S' := S) (fun h => h) (fun x hx => B0.block x (hS x hx)) (fun _ h => h) v hv
  have TB : Tb (w.alloc (.cells #[.int .i64 vk, .bool vb, .int .i64 vi, .string vs, .slice val vnl vcl, .slice vam vnm vcm] 25)) := tb.below B0 tb.z
  obtain ⟨W0, hW0⟩ : ∃ W0, W0 = w.alloc (.cells #[.int .i64 vk, .bool vb, .int .i64 vi, .string vs, .slice val vnl vcl, .slice vam vnm vcm] 25) := ⟨_, rfl⟩
  rw [← hW0] at B0 z0 N0 L0 TB
  have C1 := vget_any v key R S _ W0 TB L0 (fun x hx => by have := hS x hx; omega) (by omega)
  unfold GtPost at C1
  have C1H := hmk C1
  obtain ⟨gv, hgv⟩ : ∃ g, getV v key = g := ⟨_, rfl⟩
  rw [wrdF, hgv]
  rw [hgv] at C1H
  have a0 := cell_of_block N0 0
  have a1 := cell_of_block N0 1
  have a2 := cell_of_block N0 2
  have a3 := cell_of_block N0 3
  have a4 := cell_of_block N0 4
  have a5 := cell_of_block N0 5
  simp only [List.getElem?_toArray, List.getElem?_cons_zero, List.getElem?_cons_succ] at a0 a1 a2 a3 a4 a5
  clear L0 C1 hgv TB tb hv
  go_enter Tryz.func39, Tryz.ntmps39
  go_wp2_with fail
  (try rw [← hW0])
  refine C1H.out.mono ?_
  rintro e w1 ⟨xs, rfl, hl1, b1⟩
  obtain ⟨xk, xb, xi, xs, xal, xnl, xcl, xam, xnm, xcm, rfl⟩ := V.ten hl1
  obtain ⟨hk, hs⟩ := lies_fields hl1
  obtain ⟨x, there⟩ := gv
  dsimp only at hk hs
  have HKS : Hid (kndOf x = xk ∧ strOf x = xs) := ⟨hk, hs⟩
  have z1 := b1.size
  have bX : Below w1.heap.size w1 (w1.alloc (.cells #[.int .i64 xk, .bool xb, .int .i64 xi, .string xs, .slice xal xnl xcl, .slice xam xnm xcm] 25)) := (Below.refl _ _).alloc (Nat.le_refl _) _
  have zX := alloc_size w1 (.cells #[.int .i64 xk, .bool xb, .int .i64 xi, .string xs, .slice xal xnl xcl, .slice xam xnm xcm] 25)
  have NX := heap_alloc_new w1 (.cells #[.int .i64 xk, .bool xb, .int .i64 xi, .string xs, .slice xal xnl xcl, .slice xam xnm xcm] 25)
  obtain ⟨w2, hw2⟩ : ∃ w2, w2 = w1.alloc (.cells #[.int .i64 xk, .bool xb, .int .i64 xi, .string xs, .slice xal xnl xcl, .slice xam xnm xcm] 25) := ⟨_, rfl⟩
  rw [← hw2] at bX zX NX
  have BF := (B0.trans (b1.mono (by omega))).trans (bX.mono (by have := B0.size; omega))
  have d0 := cell_of_block NX 0
  have d1 := cell_of_block NX 1
  have d2 := cell_of_block NX 2
  have d3 := cell_of_block NX 3
  have d4 := cell_of_block NX 4
  have d5 := cell_of_block NX 5
  simp only [List.getElem?_toArray, List.getElem?_cons_zero, List.getElem?_cons_succ] at d0 d1 d2 d3 d4 d5
  have p0 : ∀ x : Sub w2.heap.size w2, _ := sub_cell d0 (by omega)
  have p3 : ∀ x : Sub w2.heap.size w2, _ := sub_cell d3 (by omega)
  clear C1H hl1 a0 a1 a2 a3 a4 a5 N0 NX hk hs d0 d1 d2 d3 d4 d5
  cases there with
  | true =>
    by_cases h3 : xk = 3
    · subst h3
      go_wp2_with fail
      (try rw [← hw2])
      refine wp_region_sub w2.heap.size (by kernel_rfl) (by kernel_rfl) ?_
      repeat (go_big_quiet_step (fail))
      refine wpQuiet_nil ?_
      rintro _ ⟨⟨wq, bq⟩, rfl⟩
      go_wp2_with fail
      go_ret2
      refine ⟨?_, BF.trans (bq.mono (by have := BF.size; omega))⟩
      dsimp only
      rw [HKS.out.1, HKS.out.2]
      rfl
    · have y3 : (xk == 3) = false := by rw [beq_eq_false_iff_ne]; exact h3
      have HYE : Hid ((true && decide (kndOf x = 3)) = false) := by show _ = _; rw [HKS.out.1]; simp [h3]
      clear h3
      go_wp2_with fail
      (try rw [← hw2])
      refine wp_region_sub w2.heap.size (by kernel_rfl) (by kernel_rfl) ?_
      repeat (go_big_quiet_step (fail))
      refine wpQuiet_nil ?_
      rintro _ ⟨⟨wq, bq⟩, rfl⟩
      go_wp2_with fail
      go_ret2
      refine ⟨?_, BF.trans (bq.mono (by have := BF.size; omega))⟩
      dsimp only
      rw [HYE.out, HKS.out.2]
      rfl
  | false =>
    go_wp2_with fail
    (try rw [← hw2])
    refine wp_region_sub w2.heap.size (by kernel_rfl) (by kernel_rfl) ?_
    repeat (go_big_quiet_step (fail))
    refine wpQuiet_nil ?_
    rintro _ ⟨⟨wq, bq⟩, rfl⟩
    go_wp2_with fail
    go_ret2
    refine ⟨?_, BF.trans (bq.mono (by have := BF.size; omega))⟩
    dsimp only
    rw [HKS.out.2]
    rfl
set_option maxHeartbeats 8000000 in
theorem text_any (v : V) (key : ByteArray) (R : Bool) (S : Nat → Prop) (cs : List Value) (w : World) (hv : v.lies R w S cs) (hS : ∀ b, S b → b < w.heap.size) (hwt : v.wt ≤ 2147483648) : Calls Tryz.prog 42 #[.agg cs.toArray, .string key] w (WrP (wrdF v key) w) := by
  obtain ⟨vk, vb, vi, vs, val, vnl, vcl, vam, vnm, vcm, rfl⟩ := V.ten hv
  have B0 : Below w.heap.size w (w.alloc (.cells #[.int .i64 vk, .bool vb, .int .i64 vi, .string vs, .slice val vnl vcl, .slice vam vnm vcm] 25)) := (Below.refl _ _).alloc (Nat.le_refl _) _
  have z0 := alloc_size w (.cells #[.int .i64 vk, .bool vb, .int .i64 vi, .string vs, .slice val vnl vcl, .slice vam vnm vcm] 25)
  have N0 := heap_alloc_new w (.cells #[.int .i64 vk, .bool vb, .int .i64 vi, .string vs, .slice val vnl vcl, .slice vam vnm vcm] 25)
  have L0 := V.lies_keep (R := R) (R' := R) (S := S) (S' := S) (fun h => h) (fun x hx => B0.block x (hS x hx)) (fun _ h => h) v hv
  obtain ⟨W0, hW0⟩ : ∃ W0, W0 = w.alloc (.cells #[.int .i64 vk, .bool vb, .int .i64 vi, .string vs, .slice val vnl vcl, .slice vam vnm vcm] 25) := ⟨_, rfl⟩
  rw [← hW0] at B0 z0 N0 L0
  have C1 := rget_any v key R S _ W0 L0 (fun x hx => by have := hS x hx; omega) (by omega)
  unfold GtPost at C1
  have C1H := hmk C1
  obtain ⟨gv, hgv⟩ : ∃ g, getV v key = g := ⟨_, rfl⟩
  rw [wrdF, hgv]
  rw [hgv] at C1H
  have a0 := cell_of_block N0 0
  have a1 := cell_of_block N0 1
  have a2 := cell_of_block N0 2
  have a3 := cell_of_block N0 3
  have a4 := cell_of_block N0 4
  have a5 := cell_of_block N0 5
  simp only [List.getElem?_toArray, List.getElem?_cons_zero, List.getElem?_cons_succ] at a0 a1 a2 a3 a4 a5
  clear L0 C1 hgv hv
  go_enter Tryz.func42, Tryz.ntmps42
  go_wp2_with fail
  (try rw [← hW0])
  refine C1H.out.mono ?_
  rintro e w1 ⟨xs, rfl, hl1, b1⟩
  obtain ⟨xk, xb, xi, xs, xal, xnl, xcl, xam, xnm, xcm, rfl⟩ := V.ten hl1
  obtain ⟨hk, hs⟩ := lies_fields hl1
  obtain ⟨x, there⟩ := gv
  dsimp only at hk hs
  have HKS : Hid (kndOf x = xk ∧ strOf x = xs) := ⟨hk, hs⟩
  have z1 := b1.size
  have bX : Below w1.heap.size w1 (w1.alloc (.cells #[.int .i64 xk, .bool xb, .int .i64 xi, .string xs, .slice xal xnl xcl, .slice xam xnm xcm] 25)) := (Below.refl _ _).alloc (Nat.le_refl _) _
  have zX := alloc_size w1 (.cells #[.int .i64 xk, .bool xb, .int .i64 xi, .string xs, .slice xal xnl xcl, .slice xam xnm xcm] 25)
  have NX := heap_alloc_new w1 (.cells #[.int .i64 xk, .bool xb, .int .i64 xi, .string xs, .slice xal xnl xcl, .slice xam xnm xcm] 25)
  obtain ⟨w2, hw2⟩ : ∃ w2, w2 = w1.alloc (.cells #[.int .i64 xk, .bool xb, .int .i64 xi, .string xs, .slice xal xnl xcl, .slice xam xnm xcm] 25) := ⟨_, rfl⟩
  rw [← hw2] at bX zX NX
  have BF := (B0.trans (b1.mono (by omega))).trans (bX.mono (by have := B0.size; omega))
  have d0 := cell_of_block NX 0
  have d1 := cell_of_block NX 1
  have d2 := cell_of_block NX 2
  have d3 := cell_of_block NX 3
  have d4 := cell_of_block NX 4
  have d5 := cell_of_block NX 5
  simp only [List.getElem?_toArray, List.getElem?_cons_zero, List.getElem?_cons_succ] at d0 d1 d2 d3 d4 d5
  have p0 : ∀ x : Sub w2.heap.size w2, _ := sub_cell d0 (by omega)
  have p3 : ∀ x : Sub w2.heap.size w2, _ := sub_cell d3 (by omega)
  clear C1H hl1 a0 a1 a2 a3 a4 a5 N0 NX hk hs d0 d1 d2 d3 d4 d5
  cases there with
  | true =>
    by_cases h3 : xk = 3
    · subst h3
      go_wp2_with fail
      (try rw [← hw2])
      refine wp_region_sub w2.heap.size (by kernel_rfl) (by kernel_rfl) ?_
      repeat (go_big_quiet_step (fail))
      refine wpQuiet_nil ?_
      rintro _ ⟨⟨wq, bq⟩, rfl⟩
      go_wp2_with fail
      go_ret2
      refine ⟨?_, BF.trans (bq.mono (by have := BF.size; omega))⟩
      dsimp only
      rw [HKS.out.1, HKS.out.2]
      rfl
    · have y3 : (xk == 3) = false := by rw [beq_eq_false_iff_ne]; exact h3
      have HYE : Hid ((true && decide (kndOf x = 3)) = false) := by show _ = _; rw [HKS.out.1]; simp [h3]
      clear h3
      go_wp2_with fail
      (try rw [← hw2])
      refine wp_region_sub w2.heap.size (by kernel_rfl) (by kernel_rfl) ?_
      repeat (go_big_quiet_step (fail))
      refine wpQuiet_nil ?_
      rintro _ ⟨⟨wq, bq⟩, rfl⟩
      go_wp2_with fail
      go_ret2
      refine ⟨?_, BF.trans (bq.mono (by have := BF.size; omega))⟩
      dsimp only
      rw [HYE.out, HKS.out.2]
      rfl
  | false =>
    go_wp2_with fail
    (try rw [← hw2])
    refine wp_region_sub w2.heap.size (by kernel_rfl) (by kernel_rfl) ?_
    repeat (go_big_quiet_step (fail))
    refine wpQuiet_nil ?_
    rintro _ ⟨⟨wq, bq⟩, rfl⟩
    go_wp2_with fail
    go_ret2
    refine ⟨?_, BF.trans (bq.mono (by have := BF.size; omega))⟩
    dsimp only
    rw [HKS.out.2]
    rfl
def isF (s : ByteArray) : Bool := (opOf s).isSome
def fromF (s : ByteArray) : Bool := match opOf s with | some (f, _, _) => f | none => false
def valF (s : ByteArray) : Bool := match opOf s with | some (_, x, _) => x | none => false
theorem ba_eq {a b : ByteArray} (h : a.data.toList = b.data.toList) : a = b := by
  cases a; cases b; congr 1; exact Array.ext' h
theorem op_none {s : ByteArray} (h : ∀ x ∈ [sAdd, sRem, sRep, sMov, sCop, sTst], s ≠ x) : opOf s = none := by
  unfold opOf
  rw [if_neg (fun e => h sAdd (by simp) (ba_eq e)), if_neg (fun e => h sRem (by simp) (ba_eq e)), if_neg (fun e => h sRep (by simp) (ba_eq e)), if_neg (fun e => h sMov (by simp) (ba_eq e)), if_neg (fun e => h sCop (by simp) (ba_eq e)), if_neg (fun e => h sTst (by simp) (ba_eq e))]
set_option maxHeartbeats 4000000 in
theorem is_any (s : ByteArray) (w : World) : Calls Tryz.prog 43 #[.string s] w (BPost (isF s) w) := by
  by_cases hsAdd : s = sAdd
  · subst hsAdd
    go_enter Tryz.func43, Tryz.ntmps43
    go_wp2_with fail
    go_ret
    exact ⟨rfl, Below.refl _ _⟩
  · skip
    by_cases hsRem : s = sRem
    · subst hsRem
      go_enter Tryz.func43, Tryz.ntmps43
      go_wp2_with fail
      go_ret
      exact ⟨rfl, Below.refl _ _⟩
    · skip
      by_cases hsRep : s = sRep
      · subst hsRep
        go_enter Tryz.func43, Tryz.ntmps43
        go_wp2_with fail
        go_ret
        exact ⟨rfl, Below.refl _ _⟩
      · skip
        by_cases hsMov : s = sMov
        · subst hsMov
          go_enter Tryz.func43, Tryz.ntmps43
          go_wp2_with fail
          go_ret
          exact ⟨rfl, Below.refl _ _⟩
        · skip
          by_cases hsCop : s = sCop
          · subst hsCop
            go_enter Tryz.func43, Tryz.ntmps43
            go_wp2_with fail
            go_ret
            exact ⟨rfl, Below.refl _ _⟩
          · skip
            by_cases hsTst : s = sTst
            · subst hsTst
              go_enter Tryz.func43, Tryz.ntmps43
              go_wp2_with fail
              go_ret
              exact ⟨rfl, Below.refl _ _⟩
            · skip
              have hn : opOf s = none := op_none (fun x hx => by simp only [List.mem_cons, List.mem_nil_iff, or_false] at hx; rcases hx with rfl | rfl | rfl | rfl | rfl | rfl <;> assumption)
              have HF : Hid (isF s = false) := by show _ = _; simp [isF, hn]
              have ysAdd : ¬ s.toList = [97, 100, 100] := fun e => hsAdd (ba_eq ((toList_data s).symm.trans e))
              have zsAdd : (s.toList == [97, 100, 100]) = false := by rw [beq_eq_false_iff_ne]; exact ysAdd
              have ysRem : ¬ s.toList = [114, 101, 109, 111, 118, 101] := fun e => hsRem (ba_eq ((toList_data s).symm.trans e))
              have zsRem : (s.toList == [114, 101, 109, 111, 118, 101]) = false := by rw [beq_eq_false_iff_ne]; exact ysRem
              have ysRep : ¬ s.toList = [114, 101, 112, 108, 97, 99, 101] := fun e => hsRep (ba_eq ((toList_data s).symm.trans e))
              have zsRep : (s.toList == [114, 101, 112, 108, 97, 99, 101]) = false := by rw [beq_eq_false_iff_ne]; exact ysRep
              have ysMov : ¬ s.toList = [109, 111, 118, 101] := fun e => hsMov (ba_eq ((toList_data s).symm.trans e))
              have zsMov : (s.toList == [109, 111, 118, 101]) = false := by rw [beq_eq_false_iff_ne]; exact ysMov
              have ysCop : ¬ s.toList = [99, 111, 112, 121] := fun e => hsCop (ba_eq ((toList_data s).symm.trans e))
              have zsCop : (s.toList == [99, 111, 112, 121]) = false := by rw [beq_eq_false_iff_ne]; exact ysCop
              have ysTst : ¬ s.toList = [116, 101, 115, 116] := fun e => hsTst (ba_eq ((toList_data s).symm.trans e))
              have zsTst : (s.toList == [116, 101, 115, 116]) = false := by rw [beq_eq_false_iff_ne]; exact ysTst
              clear hn hsAdd hsRem hsRep hsMov hsCop hsTst
              go_enter Tryz.func43, Tryz.ntmps43
              go_wp2_with fail
              go_ret
              exact ⟨by rw [HF.out]; rfl, Below.refl _ _⟩
set_option maxHeartbeats 4000000 in
theorem from_any (s : ByteArray) (w : World) : Calls Tryz.prog 44 #[.string s] w (BPost (fromF s) w) := by
  by_cases hsAdd : s = sAdd
  · subst hsAdd
    go_enter Tryz.func44, Tryz.ntmps44
    go_wp2_with fail
    go_ret
    exact ⟨rfl, Below.refl _ _⟩
  · skip
    by_cases hsRem : s = sRem
    · subst hsRem
      go_enter Tryz.func44, Tryz.ntmps44
      go_wp2_with fail
      go_ret
      exact ⟨rfl, Below.refl _ _⟩
    · skip
      by_cases hsRep : s = sRep
      · subst hsRep
        go_enter Tryz.func44, Tryz.ntmps44
        go_wp2_with fail
        go_ret
        exact ⟨rfl, Below.refl _ _⟩
      · skip
        by_cases hsMov : s = sMov
        · subst hsMov
          go_enter Tryz.func44, Tryz.ntmps44
          go_wp2_with fail
          go_ret
          exact ⟨rfl, Below.refl _ _⟩
        · skip
          by_cases hsCop : s = sCop
          · subst hsCop
            go_enter Tryz.func44, Tryz.ntmps44
            go_wp2_with fail
            go_ret
            exact ⟨rfl, Below.refl _ _⟩
          · skip
            by_cases hsTst : s = sTst
            · subst hsTst
              go_enter Tryz.func44, Tryz.ntmps44
              go_wp2_with fail
              go_ret
              exact ⟨rfl, Below.refl _ _⟩
            · skip
              have hn : opOf s = none := op_none (fun x hx => by simp only [List.mem_cons, List.mem_nil_iff, or_false] at hx; rcases hx with rfl | rfl | rfl | rfl | rfl | rfl <;> assumption)
              have HF : Hid (fromF s = false) := by show _ = _; simp [fromF, hn]
              have ysMov : ¬ s.toList = [109, 111, 118, 101] := fun e => hsMov (ba_eq ((toList_data s).symm.trans e))
              have zsMov : (s.toList == [109, 111, 118, 101]) = false := by rw [beq_eq_false_iff_ne]; exact ysMov
              have ysCop : ¬ s.toList = [99, 111, 112, 121] := fun e => hsCop (ba_eq ((toList_data s).symm.trans e))
              have zsCop : (s.toList == [99, 111, 112, 121]) = false := by rw [beq_eq_false_iff_ne]; exact ysCop
              clear hn hsAdd hsRem hsRep hsMov hsCop hsTst
              go_enter Tryz.func44, Tryz.ntmps44
              go_wp2_with fail
              go_ret
              exact ⟨by rw [HF.out]; rfl, Below.refl _ _⟩
set_option maxHeartbeats 4000000 in
theorem val_any (s : ByteArray) (w : World) : Calls Tryz.prog 45 #[.string s] w (BPost (valF s) w) := by
  by_cases hsAdd : s = sAdd
  · subst hsAdd
    go_enter Tryz.func45, Tryz.ntmps45
    go_wp2_with fail
    go_ret
    exact ⟨rfl, Below.refl _ _⟩
  · skip
    by_cases hsRem : s = sRem
    · subst hsRem
      go_enter Tryz.func45, Tryz.ntmps45
      go_wp2_with fail
      go_ret
      exact ⟨rfl, Below.refl _ _⟩
    · skip
      by_cases hsRep : s = sRep
      · subst hsRep
        go_enter Tryz.func45, Tryz.ntmps45
        go_wp2_with fail
        go_ret
        exact ⟨rfl, Below.refl _ _⟩
      · skip
        by_cases hsMov : s = sMov
        · subst hsMov
          go_enter Tryz.func45, Tryz.ntmps45
          go_wp2_with fail
          go_ret
          exact ⟨rfl, Below.refl _ _⟩
        · skip
          by_cases hsCop : s = sCop
          · subst hsCop
            go_enter Tryz.func45, Tryz.ntmps45
            go_wp2_with fail
            go_ret
            exact ⟨rfl, Below.refl _ _⟩
          · skip
            by_cases hsTst : s = sTst
            · subst hsTst
              go_enter Tryz.func45, Tryz.ntmps45
              go_wp2_with fail
              go_ret
              exact ⟨rfl, Below.refl _ _⟩
            · skip
              have hn : opOf s = none := op_none (fun x hx => by simp only [List.mem_cons, List.mem_nil_iff, or_false] at hx; rcases hx with rfl | rfl | rfl | rfl | rfl | rfl <;> assumption)
              have HF : Hid (valF s = false) := by show _ = _; simp [valF, hn]
              have ysAdd : ¬ s.toList = [97, 100, 100] := fun e => hsAdd (ba_eq ((toList_data s).symm.trans e))
              have zsAdd : (s.toList == [97, 100, 100]) = false := by rw [beq_eq_false_iff_ne]; exact ysAdd
              have ysRep : ¬ s.toList = [114, 101, 112, 108, 97, 99, 101] := fun e => hsRep (ba_eq ((toList_data s).symm.trans e))
              have zsRep : (s.toList == [114, 101, 112, 108, 97, 99, 101]) = false := by rw [beq_eq_false_iff_ne]; exact ysRep
              have ysTst : ¬ s.toList = [116, 101, 115, 116] := fun e => hsTst (ba_eq ((toList_data s).symm.trans e))
              have zsTst : (s.toList == [116, 101, 115, 116]) = false := by rw [beq_eq_false_iff_ne]; exact ysTst
              clear hn hsAdd hsRem hsRep hsMov hsCop hsTst
              go_enter Tryz.func45, Tryz.ntmps45
              go_wp2_with fail
              go_ret
              exact ⟨by rw [HF.out]; rfl, Below.refl _ _⟩
end Go.Proofs.YtjgbjhahmgegiaaGreatDoor
