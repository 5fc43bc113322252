import Derived.Test.YtjgbjhahmgegiaaGreatDoorPjC
import Derived.Test.YtjgbjhahmgegiaaGreatDoorPtrE
import Derived.Deep.DeepCutAuto
/- the document's fault. -/
set_option linter.unusedSimpArgs false
set_option linter.unusedVariables false
set_option maxRecDepth 100000
namespace Go.Proofs.YtjgbjhahmgegiaaGreatDoor
open Go.RowKit Go.Lib
/-- does a pointer's text say one -/
def parE (p : ByteArray) : Nat := if (parF p.data.toList).isSome then 0 else 40
/-- is a step's shape wrong -/
def shpB (op fr : ByteArray) (v : V) : Bool := !isF op || (!fromF op && decide (¬ fr.toList = [])) || (!valF op && !nulB v)
/-- why a step may not be -/
def fltF (op pa fr : ByteArray) (v : V) : Nat := if shpB op fr v = true then 60 else if parE pa ≠ 0 then parE pa else if parE fr ≠ 0 then parE fr else chkE v 32
set_option maxHeartbeats 8000000 in
theorem fault_any (op pa fr : ByteArray) (v : V) (R : Bool) (S : Nat → Prop) (cs : List Value) (w : World) (hv : v.lies R w S cs) (hS : ∀ b, S b → b < w.heap.size) (hwt : v.wt ≤ 2147483648) (hpa : pa.size ≤ 2147483648) (hfr : fr.size ≤ 2147483648) :
    Calls Tryz.prog 28 #[.agg (.string op :: .string pa :: .string fr :: cs).toArray] w (NPost (fltF op pa fr v) w) := by
  obtain ⟨vk, vb, vi, vs, val, vnl, vcl, vam, vnm, vcm, rfl⟩ := V.ten hv
  have HV := hmk hv
  have B0 : Below w.heap.size w (w.alloc (.cells #[.string op, .string pa, .string fr, .int .i64 vk, .bool vb, .int .i64 vi, .string vs, .slice val vnl vcl, .slice vam vnm vcm] 51)) := (Below.refl _ _).alloc (Nat.le_refl _) _
  have z0 := alloc_size w (.cells #[.string op, .string pa, .string fr, .int .i64 vk, .bool vb, .int .i64 vi, .string vs, .slice val vnl vcl, .slice vam vnm vcm] 51)
  have N0 := heap_alloc_new w (.cells #[.string op, .string pa, .string fr, .int .i64 vk, .bool vb, .int .i64 vi, .string vs, .slice val vnl vcl, .slice vam vnm vcm] 51)
  have HK : Hid (∀ W, Below (w.alloc (.cells #[.string op, .string pa, .string fr, .int .i64 vk, .bool vb, .int .i64 vi, .string vs, .slice val vnl vcl, .slice vam vnm vcm] 51)).heap.size (w.alloc (.cells #[.string op, .string pa, .string fr, .int .i64 vk, .bool vb, .int .i64 vi, .string vs, .slice val vnl vcl, .slice vam vnm vcm] 51)) W → W.heap[w.heap.size]? = some (.cells #[.string op, .string pa, .string fr, .int .i64 vk, .bool vb, .int .i64 vi, .string vs, .slice val vnl vcl, .slice vam vnm vcm] 51) ∧ v.lies R W S [.int .i64 vk, .bool vb, .int .i64 vi, .string vs, .slice val vnl vcl, .slice vam vnm vcm] ∧ Below w.heap.size w W) := fun W h => by
    have bW := B0.trans (h.mono (by omega))
    exact ⟨(h.block _ (by omega)).trans N0, V.lies_keep (fun h => h) (fun x hx => bW.block x (hS x hx)) (fun _ h => h) _ HV.out, bW⟩
  clear hv HV N0
  obtain ⟨W0, hW0⟩ : ∃ W0, W0 = w.alloc (.cells #[.string op, .string pa, .string fr, .int .i64 vk, .bool vb, .int .i64 vi, .string vs, .slice val vnl vcl, .slice vam vnm vcm] 51) := ⟨_, rfl⟩
  rw [← hW0] at B0 z0 HK
  obtain ⟨N0, _, _⟩ := HK.out W0 (Below.refl _ _)
  obtain ⟨bad, HBAD⟩ : ∃ b, Hid (shpB op fr v = b) := ⟨_, rfl⟩
  have C1 := hmk (is_any op W0)
  have a0 := cell_of_block N0 0
  have a1 := cell_of_block N0 1
  have a2 := cell_of_block N0 2
  have a3 := cell_of_block N0 3
  have a4 := cell_of_block N0 4
  have a5 := cell_of_block N0 5
  have a6 := cell_of_block N0 6
  have a7 := cell_of_block N0 7
  have a8 := cell_of_block N0 8
  simp only [List.getElem?_toArray, List.getElem?_cons_zero, List.getElem?_cons_succ] at a0 a1 a2 a3 a4 a5 a6 a7 a8
  clear N0
  go_enter Tryz.func28, Tryz.ntmps28
  go_upto_region 1 with fail
  (try rw [← hW0])
  go_cut [33] (fun e33 wx => e33 = .bool bad ∧ Below W0.heap.size W0 wx)
  case first =>
    go_wp2_with fail
    (try rw [← hW0])
    refine C1.out.mono ?_
    rintro e w1 ⟨rfl, b1⟩
    have z1 := b1.size
    obtain ⟨N1, _, _⟩ := HK.out w1 b1
    clear C1 a0 a1 a2 a3 a4 a5 a6 a7 a8 hW0
    cases hi : isF op with
    | false =>
      have HYE : Hid (bad = true) := by show _ = _; rw [← HBAD.out, shpB, hi]; rfl
      clear hi N1
      go_wp2_with fail
      go_meet
      exact ⟨congrArg Value.bool HYE.out.symm, b1⟩
    | true =>
      have C2 := hmk (from_any op w1)
      have HI := hmk hi
      have a0 := cell_of_block N1 0
      have a1 := cell_of_block N1 1
      have a2 := cell_of_block N1 2
      have a3 := cell_of_block N1 3
      have a4 := cell_of_block N1 4
      have a5 := cell_of_block N1 5
      have a6 := cell_of_block N1 6
      have a7 := cell_of_block N1 7
      have a8 := cell_of_block N1 8
      simp only [List.getElem?_toArray, List.getElem?_cons_zero, List.getElem?_cons_succ] at a0 a1 a2 a3 a4 a5 a6 a7 a8
      clear N1 hi
      go_wp2_with fail
      refine C2.out.mono ?_
      rintro e w2 ⟨rfl, b2⟩
      have z2 := b2.size
      have D2 := b1.trans (b2.mono (by omega))
      obtain ⟨N2, _, _⟩ := HK.out w2 D2
      clear C2 a0 a1 a2 a3 a4 a5 a6 a7 a8 b2
      have HV3 : Hid (∀ W, Below W0.heap.size W0 W → Calls Tryz.prog 45 #[.string op] W (BPost (valF op) W)) := fun W _ => val_any op W
      have HN4 : Hid (∀ W, Below W0.heap.size W0 W → Calls Tryz.prog 52 #[.agg [.int .i64 vk, .bool vb, .int .i64 vi, .string vs, .slice val vnl vcl, .slice vam vnm vcm].toArray] W (BPost (nulB v) W)) := fun W h => null_any v R S _ W (HK.out W h).2.1
      cases hf : fromF op with
      | false =>
        by_cases he : fr.toList = []
        · have HSB : Hid (bad = (!valF op && !nulB v)) := by show _ = _; rw [← HBAD.out, shpB, HI.out, hf]; simp [he]
          have ye : (fr.toList == []) = true := by rw [beq_iff_eq]; exact he
          have ye2 : (fr.toList != []) = false := by simp [he]
          have C3 := hmk (HV3.out w2 D2)
          have a0 := cell_of_block N2 0
          have a1 := cell_of_block N2 1
          have a2 := cell_of_block N2 2
          have a3 := cell_of_block N2 3
          have a4 := cell_of_block N2 4
          have a5 := cell_of_block N2 5
          have a6 := cell_of_block N2 6
          have a7 := cell_of_block N2 7
          have a8 := cell_of_block N2 8
          simp only [List.getElem?_toArray, List.getElem?_cons_zero, List.getElem?_cons_succ] at a0 a1 a2 a3 a4 a5 a6 a7 a8
          clear N2 hf HI
          go_wp2_with fail
          refine C3.out.mono ?_
          rintro e w3 ⟨rfl, b3⟩
          have z3 := b3.size
          have D3 := D2.trans (b3.mono (by omega))
          obtain ⟨N3, _, _⟩ := HK.out w3 D3
          clear C3 a0 a1 a2 a3 a4 a5 a6 a7 a8 b3
          cases hx : valF op with
          | true =>
            have HYE : Hid (bad = false) := by show _ = _; rw [HSB.out, hx]; rfl
            clear hx N3
            go_wp2_with fail
            go_meet
            exact ⟨congrArg Value.bool HYE.out.symm, D3⟩
          | false =>
            have HYE : Hid (bad = !nulB v) := by show _ = _; rw [HSB.out, hx]; rfl
            have C4 := hmk (HN4.out w3 D3)
            have a0 := cell_of_block N3 0
            have a1 := cell_of_block N3 1
            have a2 := cell_of_block N3 2
            have a3 := cell_of_block N3 3
            have a4 := cell_of_block N3 4
            have a5 := cell_of_block N3 5
            have a6 := cell_of_block N3 6
            have a7 := cell_of_block N3 7
            have a8 := cell_of_block N3 8
            simp only [List.getElem?_toArray, List.getElem?_cons_zero, List.getElem?_cons_succ] at a0 a1 a2 a3 a4 a5 a6 a7 a8
            clear N3 hx
            go_wp2_with fail
            refine C4.out.mono ?_
            rintro e w4 ⟨rfl, b4⟩
            have D4 := D3.trans (b4.mono (by omega))
            clear C4 a0 a1 a2 a3 a4 a5 a6 a7 a8
            go_wp2_with fail
            go_meet
            exact ⟨congrArg Value.bool HYE.out.symm, D4⟩
        · have HYE : Hid (bad = true) := by show _ = _; rw [← HBAD.out, shpB, HI.out, hf]; simp [he]
          have ye : (fr.toList == []) = false := by rw [beq_eq_false_iff_ne]; exact he
          have ye2 : (fr.toList != []) = true := by simp [he]
          have a0 := cell_of_block N2 0
          have a1 := cell_of_block N2 1
          have a2 := cell_of_block N2 2
          have a3 := cell_of_block N2 3
          have a4 := cell_of_block N2 4
          have a5 := cell_of_block N2 5
          have a6 := cell_of_block N2 6
          have a7 := cell_of_block N2 7
          have a8 := cell_of_block N2 8
          simp only [List.getElem?_toArray, List.getElem?_cons_zero, List.getElem?_cons_succ] at a0 a1 a2 a3 a4 a5 a6 a7 a8
          clear N2 hf HI
          go_wp2_with fail
          go_meet
          exact ⟨congrArg Value.bool HYE.out.symm, D2⟩
      | true =>
        have HSB : Hid (bad = (!valF op && !nulB v)) := by show _ = _; rw [← HBAD.out, shpB, HI.out, hf]; simp
        have C3 := hmk (HV3.out w2 D2)
        have a0 := cell_of_block N2 0
        have a1 := cell_of_block N2 1
        have a2 := cell_of_block N2 2
        have a3 := cell_of_block N2 3
        have a4 := cell_of_block N2 4
        have a5 := cell_of_block N2 5
        have a6 := cell_of_block N2 6
        have a7 := cell_of_block N2 7
        have a8 := cell_of_block N2 8
        simp only [List.getElem?_toArray, List.getElem?_cons_zero, List.getElem?_cons_succ] at a0 a1 a2 a3 a4 a5 a6 a7 a8
        clear N2 hf HI
        go_wp2_with fail
        refine C3.out.mono ?_
        rintro e w3 ⟨rfl, b3⟩
        have z3 := b3.size
        have D3 := D2.trans (b3.mono (by omega))
        obtain ⟨N3, _, _⟩ := HK.out w3 D3
        clear C3 a0 a1 a2 a3 a4 a5 a6 a7 a8 b3
        cases hx : valF op with
        | true =>
          have HYE : Hid (bad = false) := by show _ = _; rw [HSB.out, hx]; rfl
          clear hx N3
          go_wp2_with fail
          go_meet
          exact ⟨congrArg Value.bool HYE.out.symm, D3⟩
        | false =>
          have HYE : Hid (bad = !nulB v) := by show _ = _; rw [HSB.out, hx]; rfl
          have C4 := hmk (HN4.out w3 D3)
          have a0 := cell_of_block N3 0
          have a1 := cell_of_block N3 1
          have a2 := cell_of_block N3 2
          have a3 := cell_of_block N3 3
          have a4 := cell_of_block N3 4
          have a5 := cell_of_block N3 5
          have a6 := cell_of_block N3 6
          have a7 := cell_of_block N3 7
          have a8 := cell_of_block N3 8
          simp only [List.getElem?_toArray, List.getElem?_cons_zero, List.getElem?_cons_succ] at a0 a1 a2 a3 a4 a5 a6 a7 a8
          clear N3 hx
          go_wp2_with fail
          refine C4.out.mono ?_
          rintro e w4 ⟨rfl, b4⟩
          have D4 := D3.trans (b4.mono (by omega))
          clear C4 a0 a1 a2 a3 a4 a5 a6 a7 a8
          go_wp2_with fail
          go_meet
          exact ⟨congrArg Value.bool HYE.out.symm, D4⟩
  case rest =>
    rename World => w5
    obtain ⟨rfl, b5⟩ := hcut
    have z5 := b5.size
    obtain ⟨N5, _, B5⟩ := HK.out w5 b5
    cases bad with
    | true =>
      have HF : Hid (fltF op pa fr v = 60) := by show _ = _; rw [fltF, if_pos HBAD.out]
      go_wp2_with fail
      go_ret
      exact ⟨by rw [HF.out]; rfl, B5⟩
    | false =>
      have C6 := rparse_any pa w5 hpa
      unfold PaPost at C6
      have HPA : Hid ((if (parF pa.data.toList).isSome then 0 else 40 : Int) = ((parE pa : Nat) : Int)) := by show _ = _; rw [parE]; split <;> rfl
      rw [HPA.out] at C6
      have C6H := hmk C6
      obtain ⟨e1, HE1⟩ : ∃ e, Hid (parE pa = e) := ⟨_, rfl⟩
      rw [HE1.out] at C6H
      have a0 := cell_of_block N5 0
      have a1 := cell_of_block N5 1
      have a2 := cell_of_block N5 2
      have a3 := cell_of_block N5 3
      have a4 := cell_of_block N5 4
      have a5 := cell_of_block N5 5
      have a6 := cell_of_block N5 6
      have a7 := cell_of_block N5 7
      have a8 := cell_of_block N5 8
      simp only [List.getElem?_toArray, List.getElem?_cons_zero, List.getElem?_cons_succ] at a0 a1 a2 a3 a4 a5 a6 a7 a8
      clear N5 C6
      go_wp2_with fail
      refine C6H.out.mono ?_
      rintro e w6 ⟨x6, l6, rfl, _, _, b6⟩
      have z6 := b6.size
      have D6 := b5.trans (b6.mono (by omega))
      obtain ⟨N6, _, B6⟩ := HK.out w6 D6
      clear C6H a0 a1 a2 a3 a4 a5 a6 a7 a8
      by_cases h1 : e1 = 0
      · subst h1
        have C7 := rparse_any fr w6 hfr
        unfold PaPost at C7
        have HPB : Hid ((if (parF fr.data.toList).isSome then 0 else 40 : Int) = ((parE fr : Nat) : Int)) := by show _ = _; rw [parE]; split <;> rfl
        rw [HPB.out] at C7
        have C7H := hmk C7
        obtain ⟨e2, HE2⟩ : ∃ e, Hid (parE fr = e) := ⟨_, rfl⟩
        rw [HE2.out] at C7H
        have a0 := cell_of_block N6 0
        have a1 := cell_of_block N6 1
        have a2 := cell_of_block N6 2
        have a3 := cell_of_block N6 3
        have a4 := cell_of_block N6 4
        have a5 := cell_of_block N6 5
        have a6 := cell_of_block N6 6
        have a7 := cell_of_block N6 7
        have a8 := cell_of_block N6 8
        simp only [List.getElem?_toArray, List.getElem?_cons_zero, List.getElem?_cons_succ] at a0 a1 a2 a3 a4 a5 a6 a7 a8
        clear N6 C7
        go_wp2_with fail
        refine C7H.out.mono ?_
        rintro e w7 ⟨x7, l7, rfl, _, _, b7⟩
        have z7 := b7.size
        have D7 := D6.trans (b7.mono (by omega))
        obtain ⟨N7, L7, B7⟩ := HK.out w7 D7
        clear C7H a0 a1 a2 a3 a4 a5 a6 a7 a8
        by_cases h2 : e2 = 0
        · subst h2
          have HF : Hid (fltF op pa fr v = chkE v 32) := by show _ = _; rw [fltF, if_neg (by rw [HBAD.out]; simp), if_neg (by rw [HE1.out]; simp), if_neg (by rw [HE2.out]; simp)]
          have C8 := hmk (rcheck_any R v 32 S _ w7 L7 (fun x hx => by have := hS x hx; omega) (by omega))
          have a0 := cell_of_block N7 0
          have a1 := cell_of_block N7 1
          have a2 := cell_of_block N7 2
          have a3 := cell_of_block N7 3
          have a4 := cell_of_block N7 4
          have a5 := cell_of_block N7 5
          have a6 := cell_of_block N7 6
          have a7 := cell_of_block N7 7
          have a8 := cell_of_block N7 8
          simp only [List.getElem?_toArray, List.getElem?_cons_zero, List.getElem?_cons_succ] at a0 a1 a2 a3 a4 a5 a6 a7 a8
          clear N7 L7
          go_wp2_with fail
          refine C8.out.mono ?_
          rintro e w8 ⟨rfl, b8⟩
          have BF := (HK.out w8 (D7.trans (b8.mono (by omega)))).2.2
          clear C8 a0 a1 a2 a3 a4 a5 a6 a7 a8
          go_wp2_with fail
          go_ret
          exact ⟨by rw [HF.out]; rfl, BF⟩
        · have y2 : ((e2 : Int) != 0) = true := by rw [bne_iff_ne]; omega
          have HF : Hid (fltF op pa fr v = e2) := by show _ = _; rw [fltF, if_neg (by rw [HBAD.out]; simp), if_neg (by rw [HE1.out]; simp), if_pos (by rw [HE2.out]; exact h2)]; exact HE2.out
          clear N7 L7
          go_wp2_with fail
          go_ret
          exact ⟨by rw [HF.out]; rfl, B7⟩
      · have y1 : ((e1 : Int) != 0) = true := by rw [bne_iff_ne]; omega
        have HF : Hid (fltF op pa fr v = e1) := by show _ = _; rw [fltF, if_neg (by rw [HBAD.out]; simp), if_pos (by rw [HE1.out]; exact h1)]; exact HE1.out
        clear N6
        go_wp2_with fail
        go_ret
        exact ⟨by rw [HF.out]; rfl, B6⟩
end Go.Proofs.YtjgbjhahmgegiaaGreatDoor
