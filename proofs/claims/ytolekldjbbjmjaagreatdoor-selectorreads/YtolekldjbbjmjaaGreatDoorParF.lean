import Derived.Test.YtolekldjbbjmjaaGreatDoorSimH
/- the selector's reader: many. -/
set_option linter.unusedSimpArgs false
set_option linter.unusedVariables false
namespace Go.Proofs.YtolekldjbbjmjaaGreatDoor
open Go.RowKit Go.Lib
def manF : Nat → List UInt8 → Nat → List ByteArray → Option (List ByteArray) × Nat
  | 0, _, k, _ => (none, k)
  | f + 1, l, k, acc => match wrdF l 0 k with
    | some (x, k1) => if tkB l k1 [41] = true then (some (compB (sortB (acc ++ [x]))), skp l (k1 + 1)) else if tkB l k1 [44] = true then manF f l (skp l (k1 + 1)) (acc ++ [x]) else (none, k1)
    | none => (none, k)
def manyF (l : List UInt8) (k : Nat) : Option (List ByteArray) × Nat := if tkB l k [40] = true then manF (l.length + 1) l (skp l (k + 1)) [] else (none, k)
theorem manF_no {f : Nat} {l : List UInt8} {k : Nat} {acc : List ByteArray} (h : wrdF l 0 k = none) : manF (f + 1) l k acc = (none, k) := by rw [manF, h]
theorem manF_end {f : Nat} {l : List UInt8} {k k1 : Nat} {x : ByteArray} {acc : List ByteArray} (h : wrdF l 0 k = some (x, k1)) (h2 : tkB l k1 [41] = true) : manF (f + 1) l k acc = (some (compB (sortB (acc ++ [x]))), skp l (k1 + 1)) := by rw [manF, h]; simp only []; rw [if_pos h2]
theorem manF_next {f : Nat} {l : List UInt8} {k k1 : Nat} {x : ByteArray} {acc : List ByteArray} (h : wrdF l 0 k = some (x, k1)) (h2 : tkB l k1 [41] = false) (h3 : tkB l k1 [44] = true) : manF (f + 1) l k acc = manF f l (skp l (k1 + 1)) (acc ++ [x]) := by rw [manF, h]; simp only []; rw [if_neg (by rw [h2]; decide), if_pos h3]
theorem manF_stop {f : Nat} {l : List UInt8} {k k1 : Nat} {x : ByteArray} {acc : List ByteArray} (h : wrdF l 0 k = some (x, k1)) (h2 : tkB l k1 [41] = false) (h3 : tkB l k1 [44] = false) : manF (f + 1) l k acc = (none, k1) := by rw [manF, h]; simp only []; rw [if_neg (by rw [h2]; decide), if_neg (by rw [h3]; decide)]
theorem RdP.far {g : Nat} {s : ByteArray} {w W W' : World} {k : Nat} {row : Option Nat} (h : RdP g s w W k) (gr : W.grownBy W' row) (hr : ∀ r, row = some r → w.heap.size ≤ r) (hg : g < w.heap.size) : RdP g s w W' k :=
  ⟨h.le, (gr.block g h.pb.lt (fun e => by have := hr g e.symm; omega)).trans h.pb, gr.os.trans h.gr.os, gr.tape.trans h.gr.tape, gr.output.trans h.gr.output, Nat.le_trans h.gr.size gr.size, fun i hi hne => (gr.block i (Nat.lt_of_lt_of_le hi h.gr.size) (fun e => by have := hr i e.symm; omega)).trans (h.gr.block i hi hne)⟩
def at_ (g : Nat) (w : World) : Nat := match w.cell? ⟨g, 1, none⟩ with
  | some v => (RowKit.intOf v).toNat
  | none => 0
theorem PB.at_ {g : Nat} {s : ByteArray} {k : Nat} {w : World} (h : PB g s k w) : at_ g w = k := by
  unfold Go.Proofs.YtolekldjbbjmjaaGreatDoor.at_
  rw [h.c1]
  simp [RowKit.intOf]
theorem small64 {l : List ByteArray} {x : ByteArray} (h : ∀ y ∈ l, y.size ≤ 64) (hx : x.size ≤ 64) : ∀ y ∈ l ++ [x], y.size ≤ 64 := fun y hy => by
  rcases List.mem_append.1 hy with h1 | h1
  · exact h y h1
  · have : y = x := by simpa using h1
    rw [this]; exact hx
theorem comp_sort_len (l : List ByteArray) : (compB (sortB l)).length ≤ l.length := by
  unfold compB
  rw [List.length_map]
  have := comp_le ((sortB l).map bs).toArray (sortB l).length
  rw [sortB_len] at this
  rw [sortB_len]
  exact this
set_option maxHeartbeats 8000000 in
set_option maxRecDepth 100000 in
theorem many_at (g : Nat) (s : ByteArray) (k0 : Nat) (w : World) (h : PB g s k0 w) (t : Tp w) (hs : s.size ≤ 1048576) (hk : k0 ≤ s.size) (hg : 4 < g) :
    Calls Tryz.prog 105 #[.pointer (some ⟨g, 0, none⟩)] w (MnPost (manyF s.data.toList k0) g s w) := by
  have hlt := h.lt
  have hll : s.data.toList.length = s.size := by simp
  have R0 : RdP g s w w k0 := RdP.refl h hk
  have HT := hmk t
  have CW : Hid (∀ W k, RdP g s w W k → Calls Tryz.prog 73 #[.pointer (some ⟨g, 0, none⟩), .int .i64 0] W (StP (wrdF s.data.toList 0 k) g s k W)) := fun W k r => word_at g s k 0 W r.pb (HT.out.grown r.gr hg) (by omega) r.le hg (by omega)
  have CO : Hid (∀ W k, RdP g s w W k → Calls Tryz.prog 57 #[.pointer (some ⟨g, 0, none⟩), .string ⟨#[40]⟩] W (TkPost s.data.toList k [40] g s W)) := fun W k r => ptk g s _ k [40] W r.pb (by omega) r.le rfl (by decide) (by decide)
  have CC : Hid (∀ W k, RdP g s w W k → Calls Tryz.prog 57 #[.pointer (some ⟨g, 0, none⟩), .string ⟨#[41]⟩] W (TkPost s.data.toList k [41] g s W)) := fun W k r => ptk g s _ k [41] W r.pb (by omega) r.le rfl (by decide) (by decide)
  have CM : Hid (∀ W k, RdP g s w W k → Calls Tryz.prog 57 #[.pointer (some ⟨g, 0, none⟩), .string ⟨#[44]⟩] W (TkPost s.data.toList k [44] g s W)) := fun W k r => ptk g s _ k [44] W r.pb (by omega) r.le rfl (by decide) (by decide)
  have HM : Hid (manyF s.data.toList k0 = if tkB s.data.toList k0 [40] = true then manF (s.data.toList.length + 1) s.data.toList (skp s.data.toList (k0 + 1)) [] else (none, k0)) := rfl
  obtain ⟨i9, hi9, hz9⟩ := Option.map_eq_some_iff.1 info9
  simp only [Prod.mk.injEq] at hz9
  have hI := hmk (And.intro hi9 hz9)
  clear h t hi9 hz9
  generalize manyF s.data.toList k0 = RES at *
  go_enter Tryz.func105, Tryz.ntmps105
  go_wp2_with fail
  refine (CO.out _ _ R0).mono ?_
  rintro e w1 (⟨hT, rfl, r1⟩ | ⟨hT, rfl, r1⟩)
  case inr =>
    have HX : Hid (RES = (none, k0)) := by show _ = _; rw [HM.out, if_neg (by rw [hT]; decide)]
    clear hT HM
    go_wp2_with fail
    go_ret2
    exact .inr ⟨by rw [HX.out], rfl, by rw [HX.out]; exact r1⟩
  case inl =>
    have r1 : RdP g s w w1 (skp s.data.toList (k0 + 1)) := r1
    have HX : Hid (RES = manF (s.size + 1) s.data.toList (skp s.data.toList (k0 + 1)) []) := by show _ = _; rw [HM.out, if_pos hT, hll]
    have hsk := skp_ge s.data.toList (k0 + 1)
    clear hT HM R0
    go_wp2_with fail
    go_loopw [4] (fun e4 wr => ∃ (f k : Nat) (acc : List ByteArray), s.size < f + k ∧ RdP g s w wr k ∧ acc.length ≤ k ∧ Hid (RES = manF f s.data.toList k acc) ∧ Hid (OwnSt wr w.heap.size (fun _ => False) e4 acc) ∧ Hid (∀ y ∈ acc, y.size ≤ 64)) (fun _ wr => s.size - at_ g wr)
    case atStart => exact ⟨s.size + 1, _, [], by omega, r1, by simp, HX.out, OwnR.nil _ _, fun y hy => by cases hy⟩
    case round =>
      obtain ⟨f, k, acc, hf, R, hac, HR, HO, HS⟩ := hrel
      have hkle := R.le
      obtain ⟨f, rfl⟩ : ∃ f', f = f' + 1 := ⟨f - 1, by omega⟩
      have hkat := hmk R.pb.at_
      go_wp2_with fail
      refine (CW.out _ _ R).mono ?_
      rintro e w2 (⟨x, k1, hx, hx64, hk1, rfl, r2⟩ | ⟨hx, rfl, r2⟩)
      case inr =>
        have HX2 : Hid (RES = (none, k)) := by show _ = _; rw [HR.out, manF_no hx]
        clear hx
        have R2 := R.trans r2
        go_wp2_with fail
        go_ret2
        exact .inr ⟨by rw [HX2.out], rfl, by rw [HX2.out]; exact R2⟩
      case inl =>
        have HWX := hmk hx
        clear hx
        have R2 := R.trans r2
        have hob : ∀ r, u4.ownBlock = some r → w.heap.size ≤ r := fun r hr => (HO.out.lt hr).1
        have HO2 : Hid (OwnSt w2 w.heap.size (fun _ => False) u4 acc) := HO.out.keep keepS r2.gr (fun r hr => ⟨fun h => h, fun e => by have := hob r e; cases hr; omega⟩)
        have hT1 := heap_alloc_new w2 (.cells #[.string x] 9)
        have HAL1 : Hid (OwnSt (w2.alloc (.cells #[.string x] 9)) w.heap.size (fun _ => False) u4 acc) := HO2.out.alloc keepS _
        have HLN1 : Hid (acc.length ≤ 4294967296) := by show _ ≤ _; omega
        have hwz := R2.gr.size
        have HBS1 : Hid (w.heap.size ≤ (w2.alloc (.cells #[.string x] 9)).heap.size) := by show _ ≤ _; rw [alloc_size]; omega
        clear r2
        go_wp2_with (at_builtin; go_loud (refine wpl_push keepS _ rfl (.tmp 17) (.tmp 19) 33 rfl w.heap.size i9 _ 16 Tryz.underlying33 hI.out.1 hI.out.2.1 hI.out.2.2.1 hI.out.2.2.2 rfl (by decide) (by decide) (Sx := fun _ => False) _ x rfl HAL1.out w2.heap.size 1 (0, 0) rfl hT1 rfl oneS (es_mk _ _ _) (fun b hb => hb.elim) HLN1.out HBS1.out ?_))
        intro g1 cap1 w3 o1 gr1 e1
        have R3 : RdP g s w w3 k1 := (R2.below ((Below.refl _ _).alloc (Nat.le_refl _) _)).far gr1 hob hlt
        have HO3 : Hid (OwnSt w3 w.heap.size (fun _ => False) (.slice (some ⟨g1, 0, none⟩) (acc.length + 1) cap1) (acc ++ [x])) := by show OwnSt _ _ _ _ _; simpa using o1
        have hg1 : w.heap.size ≤ g1 := by have := (HO3.out.lt (g := g1) rfl).1; exact this
        have HS3 := hmk (small64 HS.out hx64)
        clear HAL1 hT1 o1 HO gr1 e1
        have hk1le := R3.le
        go_wp2_with fail
        refine (CC.out _ _ R3).mono ?_
        rintro e w4 (⟨hT4, rfl, r4⟩ | ⟨hT4, rfl, r4⟩)
        · have R4 := R3.trans r4
          have HX2 : Hid (RES = (some (compB (sortB (acc ++ [x]))), skp s.data.toList (k1 + 1))) := by show _ = _; rw [HR.out, manF_end HWX.out hT4]
          have hle1 := tkB_le hT4 (by decide)
          have HO4 : Hid (OwnSt w4 w.heap.size (fun _ => False) (.slice (some ⟨g1, 0, none⟩) (acc.length + 1) cap1) (acc ++ [x])) := HO3.out.keep keepS r4.gr (fun r hr => ⟨fun h => h, fun e => by cases hr; have e2 : g1 = g := (by simpa [Value.ownBlock] using e); omega⟩)
          have hal : (acc ++ [x]).length ≤ 2147483647 := by rw [List.length_append]; simp only [List.length_singleton]; omega
          have CS := hmk (sort_any _ _ _ _ HO4.out hal)
          have HCL : Hid ((compB (sortB (acc ++ [x]))).length ≤ s.size + 1) := by
            have := comp_sort_len (acc ++ [x])
            rw [List.length_append] at this
            simp only [List.length_singleton] at this hle1
            show _ ≤ _
            omega
          have CK : Hid (∀ W, OwnSt W w.heap.size (fun _ => False) (.slice (some ⟨g1, 0, none⟩) (acc.length + 1) cap1) (sortB (acc ++ [x])) → Calls Tryz.prog 51 #[.slice (some ⟨g1, 0, none⟩) (acc.length + 1) cap1] W (fun e w' => ∃ a c b o, e = .returned (.slice a (compB (sortB (acc ++ [x]))).length c) ∧ Headed a (compB (sortB (acc ++ [x]))).length c b o ∧ liesS w' (fun y => g1 = y) (compB (sortB (acc ++ [x]))) b o ∧ W.grownBy w' (some g1))) := fun W hW => by
            refine (compact_any _ _ _ _ hW (fun y hy => by have := HS3.out y ((comp_sort_mem _ _).1 hy); omega) (by rw [sortB_len]; exact hal)).mono ?_
            rintro e w' ⟨a, c, b, o, h1, h2, h3, h4⟩
            exact ⟨a, c, b, o, h1, h2, h3.keep (fun _ _ => rfl) (fun y hy => by simpa [Value.ownBlock] using hy), h4⟩
          clear hT4 r4 HO4 HO3 hal HWX HR HS HS3 HO2
          generalize compB (sortB (acc ++ [x])) = L at *
          generalize sortB (acc ++ [x]) = L2 at *
          go_wp2_with fail
          refine CS.out.mono ?_
          rintro e w5 ⟨rfl, o5, gr5⟩
          have R5 := R4.far gr5 (fun r hr => by cases hr; exact hg1) hlt
          clear gr5 CS
          go_wp2_with fail
          refine (CK.out _ o5).mono ?_
          rintro e w6 ⟨a, c, b, o, rfl, hd6, hl6, gr6⟩
          have R6 := R5.far gr6 (fun r hr => by cases hr; exact hg1) hlt
          have hg6 : g1 < w6.heap.size := Nat.lt_of_lt_of_le (o5.lt (g := g1) rfl).2 gr6.size
          have HF : Hid (MnPost RES g s w (.returned (.tuple #[.slice a L.length c, .bool true])) w6) := by
            refine .inl ⟨L, a, c, b, o, by rw [HX2.out], rfl, hd6, hl6.keep (fun _ _ => rfl) (fun y hy => ?_), HCL.out, by rw [HX2.out]; exact R6⟩
            rw [← hy]
            exact ⟨hg1, hg6⟩
          clear hd6 hl6 gr6 o5
          go_wp2_with fail
          go_ret2
          exact HF.out
        · have R4 := R3.trans r4
          have HO4 : Hid (OwnSt w4 w.heap.size (fun _ => False) (.slice (some ⟨g1, 0, none⟩) (acc.length + 1) cap1) (acc ++ [x])) := HO3.out.keep keepS r4.gr (fun r hr => ⟨fun h => h, fun e => by cases hr; have e2 : g1 = g := (by simpa [Value.ownBlock] using e); omega⟩)
          have HT4 := hmk hT4
          clear hT4 r4
          go_wp2_with fail
          refine (CM.out _ _ R4).mono ?_
          rintro e w5 (⟨hT5, rfl, r5⟩ | ⟨hT5, rfl, r5⟩)
          · have R5 : RdP g s w w5 (skp s.data.toList (k1 + 1)) := R4.trans r5
            have HX2 : Hid (RES = manF f s.data.toList (skp s.data.toList (k1 + 1)) (acc ++ [x])) := by show _ = _; rw [HR.out, manF_next HWX.out HT4.out hT5]
            have hle1 := tkB_le hT5 (by decide)
            have HO5 : Hid (OwnSt w5 w.heap.size (fun _ => False) (.slice (some ⟨g1, 0, none⟩) (acc.length + 1) cap1) (acc ++ [x])) := HO4.out.keep keepS r5.gr (fun r hr => ⟨fun h => h, fun e => by cases hr; have e2 : g1 = g := (by simpa [Value.ownBlock] using e); omega⟩)
            have hsk1 := skp_ge s.data.toList (k1 + 1)
            have hat5 := hmk R5.pb.at_
            clear hT5 r5 HO4 HO3 HO2
            go_wp2_with fail
            go_roundw
            case rel => exact ⟨f, _, acc ++ [x], by omega, R5, by rw [List.length_append]; simp only [List.length_singleton]; omega, HX2.out, HO5.out, HS3.out⟩
            case measure =>
              rw [hat5.out, hkat.out]
              simp only [List.length_singleton] at hle1
              omega
          · have R5 := R4.trans r5
            have HX2 : Hid (RES = (none, k1)) := by show _ = _; rw [HR.out, manF_stop HWX.out HT4.out hT5]
            clear hT5 r5
            go_wp2_with fail
            go_ret2
            exact .inr ⟨by rw [HX2.out], rfl, by rw [HX2.out]; exact R5⟩
end Go.Proofs.YtolekldjbbjmjaaGreatDoor
