/- past. -/
import Derived.Test.YtpbejbpimcidjaaSwW
set_option linter.unusedSimpArgs false
set_option linter.unusedVariables false
namespace Go.Proofs.Ytpbejbpimcidjaa
open Go Go.Lib Go.RowKit Go.Maps Go.Sort

theorem fifteen {cs : List Value} (h : cs.length = 15) : ∃ v0 v1 v2 v3 v4 v5 v6 v7 v8 v9 v10 v11 v12 v13 v14, cs = [v0, v1, v2, v3, v4, v5, v6, v7, v8, v9, v10, v11, v12, v13, v14] := by
  match cs, h with
  | [v0, v1, v2, v3, v4, v5, v6, v7, v8, v9, v10, v11, v12, v13, v14], _ => exact ⟨_, _, _, _, _, _, _, _, _, _, _, _, _, _, _, rfl⟩
theorem flat_at {R : List (List Value)} {i j : Nat} {rw : List Value} {v : Value} (hl : ∀ (i : Nat) (rw : List Value), R[i]? = some rw → rw.length = 15) (h : R[i]? = some rw) (hv : rw[j]? = some v) : R.flatten[i * 15 + j]? = some v := by
  induction R generalizing i with
  | nil => simp at h
  | cons x t ih =>
    have hx : x.length = 15 := hl 0 x rfl
    have hj : j < 15 := by
      have := (List.getElem?_eq_some_iff.1 hv).1
      rw [hl i rw h] at this
      exact this
    rw [List.flatten_cons]
    rcases i with _ | i
    · simp only [List.getElem?_cons_zero, Option.some.injEq] at h
      subst h
      rw [List.getElem?_append_left (by omega), Nat.zero_mul, Nat.zero_add]
      exact hv
    · rw [List.getElem?_cons_succ] at h
      rw [List.getElem?_append_right (by omega), hx, show (i + 1) * 15 + j - 15 = i * 15 + j by omega]
      exact ih (fun i rw h => hl (i + 1) rw h) h
/-- the book's events from a place on -/
theorem Bok.cut {w0 W : World} {B : Nat} {at_ first : Int} {hh : List He} {row : List Value} {sv evv : Value} (h : Bok w0 W B at_ first hh row sv evv) (i : Nat) (hi : i ≤ hh.length) (hl : hh.length ≤ 1000) : ∃ ev2, (∀ W', (Instr.slice 35 evv (some (.int .i64 (i : Int))) none none).run Try.prog W' = .ok ev2 W') ∧ EvA W ev2 (first + (i : Int)) (hh.drop i) := by
  obtain ⟨L, l1, l2, l3⟩ := h.events
  have hLl : L.length = hh.length := by rw [← l1, List.length_map]
  have hwi : IntKind.i64.wrap (i : Int) = (i : Int) := wrap_small _ (by omega) (by omega)
  have hi0 : (0 : Int) ≤ (i : Int) := by omega
  rcases l2.2 with ⟨rfl, h0⟩ | ⟨g, cap, cur, rfl, p1, p2, p3, p4, p5⟩
  · obtain rfl : i = 0 := by omega
    refine ⟨.slice none 0 0, fun W' => by kernel_rfl, none, 0, by rw [List.length_drop]; rw [h0], fun j e hj => ?_⟩
    have : j < (hh.drop 0).length := (List.getElem?_eq_some_iff.1 hj).1
    rw [List.length_drop] at this
    omega
  · have hc : ∀ a u, (ebs first L)[a]? = some u → W.cell? ⟨g, a, none⟩ = some u := fun a u ha => by
      have := l2.cells (g := g) (by simp [Value.ownBlock]) a u ha
      rwa [Go.WideShapes.add_plain, Nat.zero_add] at this
    by_cases hci : cap = i
    · subst hci
      have hhl : hh.length = cap := by omega
      refine ⟨.slice (some ⟨g, 0, none⟩) 0 0, fun W' => ?_, _, 0, by rw [List.length_drop]; rw [show hh.length - cap = 0 by omega], fun j e hj => ?_⟩
      · have hlc : (cap : Int) ≤ (hh.length : Int) := by omega
        go_simp
      · have : j < (hh.drop cap).length := (List.getElem?_eq_some_iff.1 hj).1
        rw [List.length_drop] at this
        omega
    · refine ⟨.slice (some ⟨g, i * 4, none⟩) (hh.length - i) (cap - i), fun W' => ?_, _, cap - i, by rw [List.length_drop], fun j e hj => ?_⟩
      · have hlc : (i : Int) ≤ (hh.length : Int) := by omega
        go_simp
      · rw [List.getElem?_drop] at hj
        obtain ⟨x, hx⟩ : ∃ x, L[i + j]? = some x := by
          have : i + j < L.length := by rw [hLl]; exact (List.getElem?_eq_some_iff.1 hj).1
          exact ⟨L[i + j], List.getElem?_eq_getElem this⟩
        have hxe : x.1 = e := by
          have e1 : (L.map Prod.fst)[i + j]? = some x.1 := by rw [List.getElem?_map, hx]; rfl
          rw [l1, hj] at e1
          exact (Option.some.inj e1).symm
        obtain ⟨t0, t1, t2, t3⟩ := ebs_at (r := first) hx
        rw [hxe] at t1 t2
        have hby := l3 x (List.mem_of_getElem? hx)
        rw [hxe] at hby
        refine ⟨g, i * 4, x.2, rfl, ?_, ?_, ?_, ?_, hby.read, (h.ok e (List.mem_of_getElem? hj)).2.2⟩
        · rw [show i * 4 + j * 4 = (i + j) * 4 by omega, show first + (i : Int) + 1 + (j : Int) = first + 1 + ((i + j : Nat) : Int) by omega]; exact hc _ _ t0
        · rw [show i * 4 + j * 4 + 1 = (i + j) * 4 + 1 by omega]; exact hc _ _ t1
        · rw [show i * 4 + j * 4 + 2 = (i + j) * 4 + 2 by omega]; exact hc _ _ t2
        · rw [show i * 4 + j * 4 + 3 = (i + j) * 4 + 3 by omega]; exact hc _ _ t3
theorem Bok.evlen {w0 W : World} {B : Nat} {at_ first : Int} {hh : List He} {row : List Value} {sv evv : Value} (h : Bok w0 W B at_ first hh row sv evv) (W' : World) (ty : TypeId) : (Builtin.len_ #[35] ty #[evv]).run Try.prog W' = .ok (.int .i64 (hh.length : Int)) W' := by
  obtain ⟨L, l1, l2, l3⟩ := h.events
  obtain ⟨a, c, rfl⟩ : ∃ a c, evv = .slice a hh.length c := by
    rcases l2.2 with ⟨rfl, h0⟩ | ⟨g, cap, cur, rfl, _⟩
    · exact ⟨_, _, by rw [h0]⟩
    · exact ⟨_, _, rfl⟩
  go_simp
theorem Bok.state {w0 W : World} {B : Nat} {at_ first : Int} {hh : List He} {row : List Value} {sv evv : Value} (h : Bok w0 W B at_ first hh row sv evv) (i : Nat) (hi : i ≤ hh.length) : ∃ g cap rw, sv = .slice (some ⟨g, 0, none⟩) (hh.length + 1) cap ∧ Row15 W (runA A0 first (hh.take i)) rw ∧ ∀ j v, rw[j]? = some v → W.cell? ⟨g, i * 15 + j, none⟩ = some v := by
  obtain ⟨R, r1, r2, r3⟩ := h.states
  obtain ⟨rw, hrw⟩ : ∃ rw, R[i]? = some rw := ⟨R[i]'(by omega), List.getElem?_eq_getElem (by omega)⟩
  rcases r2.2 with ⟨_, h0⟩ | ⟨g, cap, cur, rfl, p1, p2, p3⟩
  · omega
  · refine ⟨g, cap, rw, rfl, r3 i rw hrw, fun j v hv => ?_⟩
    have := r2.cells (g := g) (by simp [Value.ownBlock]) (i * 15 + j) v (flat_at (fun i rw h => (r3 i rw h).1) hrw hv)
    rwa [Go.WideShapes.add_plain, Nat.zero_add] at this
set_option maxHeartbeats 8000000 in
set_option maxRecDepth 100000 in
theorem past_any (w0 W : World) (S B : Nat) (first : Int) (hh : List He) (fl : Nat) (row : List Value) (sv evv : Value) (hs : StX w0 W S first hh fl) (hb : Bok w0 W B (first + (hh.length : Int)) first hh row sv evv) (hfl : fl ≤ hh.length) (hlen : hh.length ≤ 400) (h0 : 0 ≤ first) (hr : first + (hh.length : Int) ≤ mx) :
    Calls Try.prog 10 #[.pointer (some ⟨B, 0, none⟩), .pointer (some ⟨S, 0, none⟩)] W fun e w' => e = .returned (.bool true) ∧ Below W.heap.size W w' := by
  have HS := hmk hs
  have HB := hmk hb
  have hBl := lt_of_block hb.box
  have c0 : ∀ y : Sub W.heap.size W, _ := sub_cell hb.c0 hBl
  have c17 : ∀ y : Sub W.heap.size W, _ := sub_cell hb.c17 hBl
  have hel := hb.evlen
  have hsub : first + (hh.length : Int) - (hh.length : Int) = first := by omega
  have hwf : IntKind.i64.wrap first = first := wrap_small _ h0 (by have : mx = 9007199254740991 := rfl; omega)
  have hw64 : wrap64 first = first := by unfold wrap64; have : mx = 9007199254740991 := rfl; omega
  clear hs hb
  go_enter Try.func10, Try.ntmps10
  go_wp2_with fail
  refine wp_region_sub W.heap.size (by kernel_rfl) (by kernel_rfl) ?_
  repeat (go_big_quiet_step (fail))
  refine wpQuiet_nil ?_
  rintro _ ⟨⟨wq, bq⟩, rfl⟩
  have BQ := hmk bq
  have CF := hmk (floor_op w0 _ S first hh fl (HS.out.below bq))
  clear bq c0 c17
  go_wp2_with fail
  refine CF.out.mono ?_
  rintro e wq ⟨rfl, rfl⟩
  clear CF
  have c0 := (HB.out.keep (Kb.of_below BQ.out)).c0
  have y1 : ¬ first + (fl : Int) < first := by omega
  have y2 : ¬ first + (hh.length : Int) < first + (fl : Int) := by omega
  have yd1 : decide (first + (fl : Int) < first) = false := decide_eq_false y1
  have yd2 : decide (hh.length < fl) = false := decide_eq_false (by omega)
  go_wp2_with fail
  clear c0
  go_loopw [7] (fun e7 wr => ∃ i : Nat, e7 = .int .i64 (first + (i : Int)) ∧ fl ≤ i ∧ i ≤ hh.length + 1 ∧ Hid (Below W.heap.size W wr)) (fun e7 _ => (first + (hh.length : Int) + 1 - RowKit.intOf e7).toNat)
  case atStart => exact ⟨fl, rfl, Nat.le_refl _, by omega, BQ⟩
  case round =>
    obtain ⟨i, rfl, hi, hi2, HI⟩ := hrel
    clear BQ
    have hBw := HB.out.keep (Kb.of_below HI.out)
    have hSw := HS.out.below HI.out
    have c0 := hBw.c0
    by_cases hlt : first + (i : Int) ≤ first + (hh.length : Int)
    · have hil : i ≤ hh.length := by omega
      have CL := hmk (list_op w0 wr S first hh fl hSw HB.out.ok hfl hlen h0 hr i hi hil)
      clear hBw hSw
      go_wp2_with fail
      refine CL.out.mono ?_
      rintro e W2 ⟨v, l, rfl, hkeys, hits, b2⟩
      have B2 := hmk (HI.out.trans (b2.mono HI.out.size))
      have hB2 := HB.out.keep (Kb.of_below B2.out)
      have hS2 := HS.out.below B2.out
      obtain ⟨g, cap, rw15, rfl, hrow, hcs⟩ := hB2.state i hil
      have hA := Agr.empty.fol (hh.take i) (fun e he => evts_ok HB.out.ok e (List.mem_of_mem_take he)) first
      have CS := hmk (same_any (runA A0 first (hh.take i)) _ rw15 v l wr.heap.size W2 hA hrow hkeys hits)
      obtain ⟨v0, v1, v2, v3, v4, v5, v6, v7, v8, v9, v10, v11, v12, v13, v14, rfl⟩ := fifteen hrow.1
      have x0 : W2.cell? ⟨g, i * 15, none⟩ = some v0 := hcs 0 v0 rfl
      have x1 : W2.cell? ⟨g, i * 15 + 1, none⟩ = some v1 := hcs 1 v1 rfl
      have x2 : W2.cell? ⟨g, i * 15 + 2, none⟩ = some v2 := hcs 2 v2 rfl
      have x3 : W2.cell? ⟨g, i * 15 + 3, none⟩ = some v3 := hcs 3 v3 rfl
      have x4 : W2.cell? ⟨g, i * 15 + 4, none⟩ = some v4 := hcs 4 v4 rfl
      have x5 : W2.cell? ⟨g, i * 15 + 5, none⟩ = some v5 := hcs 5 v5 rfl
      have x6 : W2.cell? ⟨g, i * 15 + 6, none⟩ = some v6 := hcs 6 v6 rfl
      have x7 : W2.cell? ⟨g, i * 15 + 7, none⟩ = some v7 := hcs 7 v7 rfl
      have x8 : W2.cell? ⟨g, i * 15 + 8, none⟩ = some v8 := hcs 8 v8 rfl
      have x9 : W2.cell? ⟨g, i * 15 + 9, none⟩ = some v9 := hcs 9 v9 rfl
      have x10 : W2.cell? ⟨g, i * 15 + 10, none⟩ = some v10 := hcs 10 v10 rfl
      have x11 : W2.cell? ⟨g, i * 15 + 11, none⟩ = some v11 := hcs 11 v11 rfl
      have x12 : W2.cell? ⟨g, i * 15 + 12, none⟩ = some v12 := hcs 12 v12 rfl
      have x13 : W2.cell? ⟨g, i * 15 + 13, none⟩ = some v13 := hcs 13 v13 rfl
      have x14 : W2.cell? ⟨g, i * 15 + 14, none⟩ = some v14 := hcs 14 v14 rfl
      have c0 := hB2.c0
      have c16 := hB2.c16
      have hsub2 : first + (i : Int) - first = (i : Int) := by omega
      have hwi : IntKind.i64.wrap (i : Int) = (i : Int) := wrap_small _ (by omega) (by omega)
      have hwi1 : wrap64 (first + (i : Int) + 1) = first + (i : Int) + 1 := by unfold wrap64; have : mx = 9007199254740991 := rfl; omega
      have hi3 : (i : Int) < (hh.length : Int) + 1 := by omega
      clear CL b2 hcs hrow hA hkeys hits hB2 hS2 HI
      go_wp2_with fail
      refine CS.out.mono ?_
      rintro e W3 ⟨rfl, b3⟩
      have B3 := hmk (B2.out.trans (b3.mono B2.out.size))
      have hB3 := HB.out.keep (Kb.of_below B3.out)
      have CE := hmk (events_op w0 W3 S first hh fl (HS.out.below B3.out) HB.out.ok hfl hlen h0 hr i hi hil)
      have c0 := hB3.c0
      have c17 := hB3.c17
      clear CS b3 B2 x0 x1 x2 x3 x4 x5 x6 x7 x8 x9 x10 x11 x12 x13 x14 c16 hB3 hi3
      go_wp2_with fail
      refine CE.out.mono ?_
      rintro e W4 ⟨v2, l2, rfl, hle, hev, b4⟩
      have B4 := hmk (B3.out.trans (b4.mono B3.out.size))
      have hB4 := HB.out.keep (Kb.of_below B4.out)
      obtain ⟨ev2, hsl, hea⟩ := hB4.cut i hil (by omega)
      have CV := hmk (same_events v2 ev2 (first + (i : Int)) (hh.drop i) W4 (hev.eva hle (fun e he => HB.out.ok e (List.mem_of_mem_drop he))) hea (by rw [List.length_drop]; omega))
      have c0 := hB4.c0
      have c17 := hB4.c17
      clear CE b4 B3 hle hev hea hB4
      go_wp2_with fail
      refine CV.out.mono ?_
      rintro e W5 ⟨rfl, b5⟩
      have B5 := hmk (B4.out.trans (b5.mono B4.out.size))
      clear CV b5 B4 c0 c17 hsl
      go_wp2_with fail
      go_roundw
      case rel => exact ⟨i + 1, by first | (rw [hwi1]; exact congrArg (Value.int .i64) (by omega)) | exact congrArg (Value.int .i64) (by omega), by omega, by omega, B5⟩
      case measure =>
        simp only [RowKit.intOf, hwi1]
        omega
    · obtain rfl : i = hh.length + 1 := by omega
      have CL0 := list_out w0 wr S first hh fl hSw h0 9 (by decide)
      have CE := hmk (events_out w0 wr S first hh fl hSw hfl h0 9 (by decide))
      have hnl : ¬ first + ((hh.length + 1 : Nat) : Int) ≤ first + (hh.length : Int) := by omega
      have hwr : wrap64 (first + (hh.length : Int) + 1) = first + (hh.length : Int) + 1 := by unfold wrap64; have : mx = 9007199254740991 := rfl; omega
      have hwl : wrap64 (first + (fl : Int) - 1) = first + (fl : Int) - 1 := by unfold wrap64; have : mx = 9007199254740991 := rfl; omega
      clear hBw hSw
      by_cases hz : first + (fl : Int) = 0
      · rw [if_pos hz] at CL0
        have CL := hmk CL0
        have HZ := hmk hz
        clear CL0 hz
        go_wp2_with fail
        refine CL.out.mono ?_
        rintro e W2 ⟨rfl, rfl⟩
        go_wp2_with fail
        refine CE.out.mono ?_
        rintro e W3 ⟨rfl, rfl⟩
        clear CL CE
        have hzb : (first + (fl : Int) == 0) = true := by simp [HZ.out]
        go_wp2_with fail
        (try simp only [Exit.inBlock, Exit.then])
        go_ret
        exact ⟨rfl, HI.out⟩
      · rw [if_neg hz] at CL0
        have CL := hmk CL0
        clear CL0
        go_wp2_with fail
        refine CL.out.mono ?_
        rintro e W2 ⟨rfl, rfl⟩
        go_wp2_with fail
        refine CE.out.mono ?_
        rintro e W3 ⟨rfl, rfl⟩
        clear CL CE
        go_wp2_with fail
        (try simp only [Exit.inBlock, Exit.then])
        go_ret
        exact ⟨rfl, HI.out⟩
end Go.Proofs.Ytpbejbpimcidjaa
