import Derived.Test.YtolekldjbbjmjaaGreatDoorG24
/- the selector's reader: operator, one. -/
set_option linter.unusedSimpArgs false
set_option linter.unusedVariables false
namespace Go.Proofs.YtolekldjbbjmjaaGreatDoor
open Go.RowKit Go.Lib
theorem ix0 (W : World) : (Instr.index 163 (.agg #[.string ⟨#[61, 61]⟩, .string ⟨#[61]⟩, .string ⟨#[33, 61]⟩]) (.int .i64 0)).run Tryz.prog W = .ok (.string ⟨#[61, 61]⟩) W := by
  simp [Instr.index, run_underlying Tryz.underlying163, asIntOf, go_sem, Tryz.sizeOf9, Tryz.isAgg9]
theorem ix1 (W : World) : (Instr.index 163 (.agg #[.string ⟨#[61, 61]⟩, .string ⟨#[61]⟩, .string ⟨#[33, 61]⟩]) (.int .i64 1)).run Tryz.prog W = .ok (.string ⟨#[61]⟩) W := by
  simp [Instr.index, run_underlying Tryz.underlying163, asIntOf, go_sem, Tryz.sizeOf9, Tryz.isAgg9]
theorem ix2 (W : World) : (Instr.index 163 (.agg #[.string ⟨#[61, 61]⟩, .string ⟨#[61]⟩, .string ⟨#[33, 61]⟩]) (.int .i64 2)).run Tryz.prog W = .ok (.string ⟨#[33, 61]⟩) W := by
  simp [Instr.index, run_underlying Tryz.underlying163, asIntOf, go_sem, Tryz.sizeOf9, Tryz.isAgg9]
/-- the operator that stands here, or the plain word -/
def opS (l : List UInt8) (k : Nat) : ByteArray :=
  if tkB l k [61, 61] = true then ⟨#[61, 61]⟩ else if tkB l k [61] = true then ⟨#[61]⟩ else if tkB l k [33, 61] = true then ⟨#[33, 61]⟩ else ⟨(plnT l k).toArray⟩
set_option maxHeartbeats 4000000 in
set_option maxRecDepth 100000 in
theorem operator_at (g : Nat) (s : ByteArray) (k : Nat) (w : World) (h : PB g s k w) (hs : s.size ≤ 140737488355000) (hk : k ≤ s.size) :
    Calls Tryz.prog 103 #[.pointer (some ⟨g, 0, none⟩)] w (fun e w' => e = .returned (.string (opS s.data.toList k)) ∧ RdP g s w w' k) := by
  have CR : Hid (∀ W, RdP g s w W k → Calls Tryz.prog 55 #[.pointer (some ⟨g, 0, none⟩)] W fun e w' => e = .returned (.string (s.extract k s.size)) ∧ RdP g s w w' k) := fun W r => by
    refine (rest_any g s k W r.pb hk).mono ?_
    rintro e w' ⟨rfl, q, rfl⟩
    exact ⟨rfl, hk, r.pb.drewN _, grown_drewN r.gr _⟩
  have CP : Hid (∀ (p : ByteArray) (pl : List UInt8), p.data.toList = pl → ∀ W, Calls Tryz.prog 75 #[.string (s.extract k s.size), .string p] W fun e w' => e = .returned (.bool (tkB s.data.toList k pl)) ∧ w' = W) := fun p pl hp W => by
    have := pre_any (s.extract k s.size) p W
    rw [ext_list s k, hp] at this
    exact this
  have CA : Hid (∀ W, Calls Tryz.prog 64 #[.string (s.extract k s.size)] W fun e w' => e = .returned (.string ⟨(plnT s.data.toList k).toArray⟩) ∧ w' = W) := fun W => by
    have c := plainpre_any (s.extract k s.size) (by have := ext_size s k; omega) W
    have e1 : plnT (s.extract k s.size).data.toList 0 = plnT s.data.toList k := by unfold plnT; rw [ext_list s k, List.drop_zero]
    rw [e1] at c
    exact c
  have R0 : RdP g s w w k := RdP.refl h hk
  have HOP : Hid (opS s.data.toList k = if tkB s.data.toList k [61, 61] = true then ⟨#[61, 61]⟩ else if tkB s.data.toList k [61] = true then ⟨#[61]⟩ else if tkB s.data.toList k [33, 61] = true then ⟨#[33, 61]⟩ else ⟨(plnT s.data.toList k).toArray⟩) := rfl
  have I0 := ix0
  have I1 := ix1
  have I2 := ix2
  have C0 := hmk (CP.out ⟨#[61, 61]⟩ [61, 61] rfl)
  have C1 := hmk (CP.out ⟨#[61]⟩ [61] rfl)
  have C2 := hmk (CP.out ⟨#[33, 61]⟩ [33, 61] rfl)
  clear h CP
  generalize tkB s.data.toList k [61, 61] = t0 at *
  generalize tkB s.data.toList k [61] = t1 at *
  generalize tkB s.data.toList k [33, 61] = t2 at *
  go_enter Tryz.func103, Tryz.ntmps103
  go_wp2_with fail
  go_loopw [6] (fun e6 wr => ∃ j : Nat, j ≤ 3 ∧ e6 = .int .i64 (j : Int) ∧ RdP g s w wr k ∧ (0 < j → t0 = false) ∧ (1 < j → t1 = false) ∧ (2 < j → t2 = false)) (fun e6 _ => 3 - (RowKit.intOf e6).toNat)
  case atStart => exact ⟨0, by omega, rfl, R0, fun h => by omega, fun h => by omega, fun h => by omega⟩
  case round =>
    obtain ⟨j, hj, rfl, R, H0, H1, H2⟩ := hrel
    have h0' := hmk H0
    have h1' := hmk H1
    have h2' := hmk H2
    clear H0 H1 H2
    by_cases hj3 : j = 3
    · subst hj3
      have e0 := h0'.out (by omega)
      have e1 := h1'.out (by omega)
      have e2 := h2'.out (by omega)
      subst e0 e1 e2
      have HX : Hid (opS s.data.toList k = ⟨(plnT s.data.toList k).toArray⟩) := HOP.out
      clear HOP
      go_wp2_with fail
      refine (CR.out _ R).mono ?_
      rintro e w1 ⟨rfl, r1⟩
      go_wp2_with (go_at_call 64; refine (CA.out _).mono ?_; rintro e w2 ⟨rfl, rfl⟩)
      go_ret
      exact ⟨congrArg (fun r => Ending.returned (.string r)) HX.out.symm, r1⟩
    by_cases hj0 : j = 0
    · subst hj0
      clear I1 I2
      cases t0 with
      | true =>
        have HX : Hid (opS s.data.toList k = ⟨#[61, 61]⟩) := HOP.out
        clear HOP
        go_wp2_with fail
        refine (CR.out _ R).mono ?_
        rintro e w1 ⟨rfl, r1⟩
        go_wp2_with (go_at_call 75; refine (C0.out _).mono ?_; rintro e w2 ⟨rfl, rfl⟩)
        go_ret
        exact ⟨congrArg (fun r => Ending.returned (.string r)) HX.out.symm, r1⟩
      | false =>
        go_wp2_with fail
        refine (CR.out _ R).mono ?_
        rintro e w1 ⟨rfl, r1⟩
        go_wp2_with (go_at_call 75; refine (C0.out _).mono ?_; rintro e w2 ⟨rfl, rfl⟩)
        go_roundw
        case rel => exact ⟨1, by omega, by go_num, r1, fun h => trivial, fun h => by first | trivial | omega, fun h => by first | trivial | omega⟩
        case measure => simp [RowKit.intOf]
    by_cases hj1 : j = 1
    · subst hj1
      clear I0 I2
      have e0 := h0'.out (by omega)
      subst e0
      cases t1 with
      | true =>
        have HX : Hid (opS s.data.toList k = ⟨#[61]⟩) := HOP.out
        clear HOP
        go_wp2_with fail
        refine (CR.out _ R).mono ?_
        rintro e w1 ⟨rfl, r1⟩
        go_wp2_with (go_at_call 75; refine (C1.out _).mono ?_; rintro e w2 ⟨rfl, rfl⟩)
        go_ret
        exact ⟨congrArg (fun r => Ending.returned (.string r)) HX.out.symm, r1⟩
      | false =>
        go_wp2_with fail
        refine (CR.out _ R).mono ?_
        rintro e w1 ⟨rfl, r1⟩
        go_wp2_with (go_at_call 75; refine (C1.out _).mono ?_; rintro e w2 ⟨rfl, rfl⟩)
        go_roundw
        case rel => exact ⟨2, by omega, by go_num, r1, fun h => by first | trivial | omega, fun h => trivial, fun h => by first | trivial | omega⟩
        case measure => simp [RowKit.intOf]
    by_cases hj2 : j = 2
    · subst hj2
      clear I0 I1
      have e0 := h0'.out (by omega)
      subst e0
      have e1 := h1'.out (by omega)
      subst e1
      cases t2 with
      | true =>
        have HX : Hid (opS s.data.toList k = ⟨#[33, 61]⟩) := HOP.out
        clear HOP
        go_wp2_with fail
        refine (CR.out _ R).mono ?_
        rintro e w1 ⟨rfl, r1⟩
        go_wp2_with (go_at_call 75; refine (C2.out _).mono ?_; rintro e w2 ⟨rfl, rfl⟩)
        go_ret
        exact ⟨congrArg (fun r => Ending.returned (.string r)) HX.out.symm, r1⟩
      | false =>
        go_wp2_with fail
        refine (CR.out _ R).mono ?_
        rintro e w1 ⟨rfl, r1⟩
        go_wp2_with (go_at_call 75; refine (C2.out _).mono ?_; rintro e w2 ⟨rfl, rfl⟩)
        go_roundw
        case rel => exact ⟨3, by omega, by go_num, r1, fun h => by first | trivial | omega, fun h => by first | trivial | omega, fun h => trivial⟩
        case measure => simp [RowKit.intOf]
    exfalso; omega
/-- one value -/
def MnPost (R : Option (List ByteArray) × Nat) (g : Nat) (s : ByteArray) (w : World) (e : Ending) (w' : World) : Prop :=
  (∃ l a c b o, R.1 = some l ∧ e = .returned (.tuple #[.slice a l.length c, .bool true]) ∧ Headed a l.length c b o ∧ liesS w' (New w w') l b o ∧ l.length ≤ s.size + 1 ∧ RdP g s w w' R.2) ∨ (R.1 = none ∧ e = .returned (.tuple #[.slice none 0 0, .bool false]) ∧ RdP g s w w' R.2)
def oneF (l : List UInt8) (k : Nat) : Option (List ByteArray) × Nat := match wrdF l 0 k with
  | some (x, k1) => (some [x], k1)
  | none => (none, k)
set_option maxHeartbeats 4000000 in
set_option maxRecDepth 100000 in
theorem one_at (g : Nat) (s : ByteArray) (k : Nat) (w : World) (h : PB g s k w) (t : Tq w) (hs : s.size ≤ 140737488355000) (hk : k ≤ s.size) (hg : 4 < g) :
    Calls Tryz.prog 104 #[.pointer (some ⟨g, 0, none⟩)] w (MnPost (oneF s.data.toList k) g s w) := by
  have CW := hmk (word_at g s k 0 w h t hs hk hg (by omega))
  have HO : Hid (oneF s.data.toList k = match wrdF s.data.toList 0 k with | some (x, k1) => (some [x], k1) | none => (none, k)) := rfl
  generalize oneF s.data.toList k = R at *
  clear h t
  go_enter Tryz.func104, Tryz.ntmps104
  go_wp2_with fail
  refine CW.out.mono ?_
  rintro e w1 (⟨x, k1, hx, hx64, hk1, rfl, r1⟩ | ⟨hx, rfl, r1⟩)
  · have HX : Hid (R = (some [x], k1)) := by show _ = _; rw [HO.out, hx]
    clear HO hx
    have hT1 := heap_alloc_new w1 (.cells #[.string x] 9)
    have b1 : Below w1.heap.size w1 (w1.alloc (.cells #[.string x] 9)) := (Below.refl _ _).alloc (Nat.le_refl _) _
    have HF : Hid (MnPost R g s w (.returned (.tuple #[.slice (some ⟨w1.heap.size, 0, none⟩) 1 1, .bool true])) (w1.alloc (.cells #[.string x] 9))) := by
      refine .inl ⟨[x], some ⟨w1.heap.size, 0, none⟩, 1, w1.heap.size, 0, by rw [HX.out], rfl, ⟨Nat.le_refl _, by decide, .inr rfl, fun h => by cases h⟩, fun j hj => ?_, by simp only [List.length_singleton]; omega, ?_⟩
      · obtain rfl : j = 0 := by simp at hj; exact hj
        refine ⟨⟨r1.gr.size, by rw [alloc_size]; omega⟩, by show x.size ≤ _; omega, ?_⟩
        rw [cell_of_block hT1]; rfl
      · rw [HX.out]; exact r1.below b1
    clear hT1 b1 r1
    go_wp2_with fail
    go_ret2
    exact HF.out
  · have HX : Hid (R = (none, k)) := by show _ = _; rw [HO.out, hx]
    clear HO hx
    go_wp2_with fail
    go_ret2
    exact .inr ⟨by rw [HX.out], rfl, by rw [HX.out]; exact r1⟩
end Go.Proofs.YtolekldjbbjmjaaGreatDoor
