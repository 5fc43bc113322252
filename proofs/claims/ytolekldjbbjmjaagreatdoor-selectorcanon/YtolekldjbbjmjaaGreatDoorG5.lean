/- joined: TrmQ TrmR -/
import Derived.Test.YtolekldjbbjmjaaGreatDoorG4
/- a term that may be; a selector. -/
set_option linter.unusedSimpArgs false
set_option linter.unusedVariables false
namespace Go.Proofs.YtolekldjbbjmjaaGreatDoor
open Go.RowKit Go.Lib
theorem nil_eq {s : ByteArray} : (s.toList == []) = decide (s.size = 0) := by
  rw [Bool.eq_iff_iff, beq_iff_eq, decide_eq_true_eq]
  constructor
  · intro h
    rw [ByteArray.toList_eq] at h
    have : s.data.toList.length = 0 := by rw [h]; rfl
    simpa using this
  · intro h
    rw [ByteArray.toList_eq]
    apply List.length_eq_zero_iff.1
    simpa using h
theorem wordB_size {s : ByteArray} (h : wordB s = true) : s.size ≤ 64 := by
  unfold wordB at h
  rw [Bool.and_eq_true, decide_eq_true_eq] at h
  exact h.1
def opB (op : Int) (l : List ByteArray) : Bool := if op = 1 ∨ op = 2 then decide (l.length = 0) else if op = 3 ∨ op = 4 then decide (0 < l.length) && valsB l else false
theorem goodB_is (key : ByteArray) (op : Int) (l : List ByteArray) : goodB (key, op, l) = (decide (0 < key.size) && wordB key && opB op l) := rfl
set_option maxHeartbeats 8000000 in
set_option maxRecDepth 100000 in
theorem maybe_any (key : ByteArray) (op : Int) (l : List ByteArray) (S : Nat → Prop) (a : Option Addr) (c b o : Nat) (w : World) (hh : Headed a l.length c b o) (hl : liesS w S l b o) (hS : ∀ y, S y → y < w.heap.size) (hk : key.size ≤ 140737488355328) (hT : Tb w) :
    Calls Tryz.prog 41 #[.agg #[.string key, .int .i64 op, .slice a l.length c]] w (BPost (goodB (key, op, l)) w) := by
  have HKW : Hid (∀ W : World, Below w.heap.size w W → Calls Tryz.prog 61 #[.string key] W (BPost (wordB key) W)) := fun W hW => word_any _ W hk (hT.below hW hT.z)
  have HVS0 : Hid (∀ W : World, Below w.heap.size w W → Calls Tryz.prog 62 #[.slice a l.length c] W (BPost (valsB l) W)) := fun W hW => values_any l S a c b o W hh (hl.keep (fun y hy => hW.block y (hS y hy)) (fun _ h => h)) (fun y hy => Nat.lt_of_lt_of_le (hS y hy) hW.size) (hT.below hW hT.z)
  have HG : Hid (goodB (key, op, l) = (decide (0 < key.size) && wordB key && opB op l)) := rfl
  obtain ⟨g, hg⟩ : ∃ g, goodB (key, op, l) = g := ⟨_, rfl⟩
  rw [hg] at HG ⊢
  have hn := @nil_eq key
  have b0 : Below w.heap.size w (w.alloc (.cells #[.string key, .int .i64 op, .slice a l.length c] 35)) := (Below.refl _ _).alloc (Nat.le_refl _) _
  have hx0 := heap_alloc_new w (.cells #[.string key, .int .i64 op, .slice a l.length c] 35)
  have hw0 : (w.alloc (.cells #[.string key, .int .i64 op, .slice a l.length c] 35)).heap.size = w.heap.size + 1 := alloc_size _ _
  have HR := hmk (HKW.out _ b0)
  have HVS : Hid (∀ W : World, Below (w.alloc (.cells #[.string key, .int .i64 op, .slice a l.length c] 35)).heap.size (w.alloc (.cells #[.string key, .int .i64 op, .slice a l.length c] 35)) W → Calls Tryz.prog 62 #[.slice a l.length c] W (BPost (valsB l) W)) := fun W hW => HVS0.out W (b0.trans (hW.mono (by omega)))
  have X0 : Hid (∀ W : World, Below (w.alloc (.cells #[.string key, .int .i64 op, .slice a l.length c] 35)).heap.size (w.alloc (.cells #[.string key, .int .i64 op, .slice a l.length c] 35)) W → W.cell? ⟨w.heap.size, 0, none⟩ = some (.string key) ∧ W.cell? ⟨w.heap.size, 1, none⟩ = some (.int .i64 op) ∧ W.cell? ⟨w.heap.size, 2, none⟩ = some (.slice a l.length c)) := fun W hW => by
    have hx := (hW.block w.heap.size (by omega)).trans hx0
    exact ⟨by rw [cell_of_block hx]; rfl, by rw [cell_of_block hx]; rfl, by rw [cell_of_block hx]; rfl⟩
  have hlm : l.length ≤ 9223372036854775807 := Nat.le_trans hh.le hh.max
  clear hg hh hl hS hk hT HKW HVS0 hx0
  obtain ⟨x0, x1, x2⟩ := X0.out _ (Below.refl _ _)
  by_cases hz : key.size = 0
  · have y0 : (key.toList == []) = true := by rw [hn, decide_eq_true hz]
    have HB : Hid (g = false) := by show _ = _; rw [HG.out, hz]; rfl
    clear hn hz
    have HB1 := hmk b0
    clear b0
    go_enter Tryz.func41, Tryz.ntmps41
    go_wp2_with fail
    go_ret
    exact ⟨congrArg (fun r => Ending.returned (.bool r)) HB.out.symm, HB1.out⟩
  · have y0 : (key.toList == []) = false := by rw [hn, decide_eq_false hz]
    obtain ⟨t, ht⟩ : ∃ t, wordB key = t := ⟨_, rfl⟩
    rw [ht] at HR HG
    have hz2 : decide (0 < key.size) = true := decide_eq_true (by omega)
    rw [hz2, Bool.true_and] at HG
    clear hn hz hz2 ht
    have HB0 := hmk b0
    clear b0
    cases t with
    | false =>
      have HB : Hid (g = false) := by show _ = _; rw [HG.out]; rfl
      go_enter Tryz.func41, Tryz.ntmps41
      go_wp2_with (first | (go_at_call 61; refine HR.out.mono ?_; rintro e w1 ⟨rfl, B1⟩))
      go_ret
      exact ⟨congrArg (fun r => Ending.returned (.bool r)) HB.out.symm, HB0.out.trans (B1.mono (by omega))⟩
    | true =>
      rw [Bool.true_and] at HG
      have HF : Hid (∀ w1 : World, Below (w.alloc (.cells #[.string key, .int .i64 op, .slice a l.length c] 35)).heap.size (w.alloc (.cells #[.string key, .int .i64 op, .slice a l.length c] 35)) w1 → Below w.heap.size w w1) := fun w1 h => HB0.out.trans (h.mono (by omega))
      go_enter Tryz.func41, Tryz.ntmps41
      have hop : op = 1 ∨ op = 2 ∨ op = 3 ∨ op = 4 ∨ (op ≠ 1 ∧ op ≠ 2 ∧ op ≠ 3 ∧ op ≠ 4) := by omega
      have hlen : ((l.length : Int) == 0) = decide (l.length = 0) := by rw [Bool.eq_iff_iff, beq_iff_eq, decide_eq_true_eq]; omega
      rcases hop with rfl | rfl | rfl | rfl | ⟨e1, e2, e3, e4⟩
      · have HB : Hid (g = decide (l.length = 0)) := HG.out
        skip
        go_wp2_with (first | (go_at_call 61; refine HR.out.mono ?_; rintro e w1 ⟨rfl, B1⟩; obtain ⟨z0, z1, z2⟩ := X0.out _ B1) | (go_at_call 62; refine (HVS.out _ B1).mono ?_; rintro e w2 ⟨rfl, B2⟩))
        go_ret
        exact ⟨congrArg (fun r => Ending.returned (.bool r)) (by rw [HB.out]; first | rfl | exact hlen.symm | simp), HF.out _ B1⟩
      · have HB : Hid (g = decide (l.length = 0)) := HG.out
        skip
        go_wp2_with (first | (go_at_call 61; refine HR.out.mono ?_; rintro e w1 ⟨rfl, B1⟩; obtain ⟨z0, z1, z2⟩ := X0.out _ B1) | (go_at_call 62; refine (HVS.out _ B1).mono ?_; rintro e w2 ⟨rfl, B2⟩))
        go_ret
        exact ⟨congrArg (fun r => Ending.returned (.bool r)) (by rw [HB.out]; first | rfl | exact hlen.symm | simp), HF.out _ B1⟩
      · have HB : Hid (g = (decide (0 < l.length) && valsB l)) := HG.out
        clear hlen
        by_cases hp : 0 < l.length
        · have y1 : (0 : Int) < l.length := by omega
          have HB2 : Hid (g = valsB l) := by show _ = _; rw [HB.out, decide_eq_true hp, Bool.true_and]
          clear hp
          skip
          go_wp2_with (first | (go_at_call 61; refine HR.out.mono ?_; rintro e w1 ⟨rfl, B1⟩; obtain ⟨z0, z1, z2⟩ := X0.out _ B1) | (go_at_call 62; refine (HVS.out _ B1).mono ?_; rintro e w2 ⟨rfl, B2⟩))
          go_ret
          exact ⟨congrArg (fun r => Ending.returned (.bool r)) HB2.out.symm, HF.out _ (B1.trans (B2.mono B1.size))⟩
        · have y1 : ¬ (0 : Int) < l.length := by omega
          have HB2 : Hid (g = false) := by show _ = _; rw [HB.out, decide_eq_false hp, Bool.false_and]
          clear hp
          skip
          go_wp2_with (first | (go_at_call 61; refine HR.out.mono ?_; rintro e w1 ⟨rfl, B1⟩; obtain ⟨z0, z1, z2⟩ := X0.out _ B1) | (go_at_call 62; refine (HVS.out _ B1).mono ?_; rintro e w2 ⟨rfl, B2⟩))
          go_ret
          exact ⟨congrArg (fun r => Ending.returned (.bool r)) HB2.out.symm, HF.out _ B1⟩
      · have HB : Hid (g = (decide (0 < l.length) && valsB l)) := HG.out
        clear hlen
        by_cases hp : 0 < l.length
        · have y1 : (0 : Int) < l.length := by omega
          have HB2 : Hid (g = valsB l) := by show _ = _; rw [HB.out, decide_eq_true hp, Bool.true_and]
          clear hp
          skip
          go_wp2_with (first | (go_at_call 61; refine HR.out.mono ?_; rintro e w1 ⟨rfl, B1⟩; obtain ⟨z0, z1, z2⟩ := X0.out _ B1) | (go_at_call 62; refine (HVS.out _ B1).mono ?_; rintro e w2 ⟨rfl, B2⟩))
          go_ret
          exact ⟨congrArg (fun r => Ending.returned (.bool r)) HB2.out.symm, HF.out _ (B1.trans (B2.mono B1.size))⟩
        · have y1 : ¬ (0 : Int) < l.length := by omega
          have HB2 : Hid (g = false) := by show _ = _; rw [HB.out, decide_eq_false hp, Bool.false_and]
          clear hp
          skip
          go_wp2_with (first | (go_at_call 61; refine HR.out.mono ?_; rintro e w1 ⟨rfl, B1⟩; obtain ⟨z0, z1, z2⟩ := X0.out _ B1) | (go_at_call 62; refine (HVS.out _ B1).mono ?_; rintro e w2 ⟨rfl, B2⟩))
          go_ret
          exact ⟨congrArg (fun r => Ending.returned (.bool r)) HB2.out.symm, HF.out _ B1⟩
      · have HB : Hid (g = false) := by
          show _ = _
          rw [HG.out]
          unfold opB
          rw [if_neg (by omega), if_neg (by omega)]
        have f1 : (op == 1) = false := by rw [beq_eq_false_iff_ne]; exact e1
        have f2 : (op == 2) = false := by rw [beq_eq_false_iff_ne]; exact e2
        have f3 : (op == 3) = false := by rw [beq_eq_false_iff_ne]; exact e3
        have f4 : (op == 4) = false := by rw [beq_eq_false_iff_ne]; exact e4
        clear e1 e2 e3 e4 hlen
        skip
        go_wp2_with (first | (go_at_call 61; refine HR.out.mono ?_; rintro e w1 ⟨rfl, B1⟩; obtain ⟨z0, z1, z2⟩ := X0.out _ B1) | (go_at_call 62; refine (HVS.out _ B1).mono ?_; rintro e w2 ⟨rfl, B2⟩))
        go_ret
        exact ⟨congrArg (fun r => Ending.returned (.bool r)) HB.out.symm, HF.out _ B1⟩
end Go.Proofs.YtolekldjbbjmjaaGreatDoor
/- the program's isSelector. -/
namespace Go.Proofs.YtolekldjbbjmjaaGreatDoor
open Go.RowKit Go.Lib
set_option maxHeartbeats 8000000 in
set_option maxRecDepth 100000 in
theorem issel_any (l : List Trm) (R : Bool) (S : Nat → Prop) (al : Option Addr) (cl bl ol : Nat) (w : World)
    (hh : Headed al l.length cl bl ol) (hl : liesT R w S l bl ol) (hS : ∀ y, S y → y < w.heap.size) (hT : Tb w) :
    Calls Tryz.prog 22 #[.slice al l.length cl] w (BPost (l.all goodB) w) := by
  have HH := hmk hh
  have HL := hmk hl
  have hm : l.length ≤ 9223372036854775807 := Nat.le_trans hh.le hh.max
  have HTT := hmk (fun (W : World) (hW : Below w.heap.size w W) (j : Nat) (hj : j < l.length) (a : Option Addr) (c b o : Nat) (h1 : Headed a (l[j]).2.2.length c b o) (h2 : liesS W S (l[j]).2.2 b o) (h3 : (l[j]).1.size ≤ 140737488355328) =>
    maybe_any (l[j]).1 (l[j]).2.1 (l[j]).2.2 S a c b o W h1 h2 (fun y hy => Nat.lt_of_lt_of_le (hS y hy) hW.size) h3 (hT.below hW hT.z))
  clear hh hl hT
  go_enter Tryz.func22, Tryz.ntmps22
  go_wp2_with fail
  go_loopw [7] (fun e3 wr => ∃ j : Nat, j ≤ l.length ∧ e3 = .int .i64 (j : Int) ∧ Below w.heap.size w wr ∧ Hid (∀ k (h : k < l.length), k < j → goodB l[k] = true)) (fun e3 _ => l.length - (RowKit.intOf e3).toNat)
  case atStart => exact ⟨0, by omega, rfl, Below.refl _ _, fun k _ h => by omega⟩
  case round =>
    obtain ⟨j, hj, rfl, Bj, HN⟩ := hrel
    have hzr := Bj.size
    by_cases hjl : j < l.length
    · have y1 : (j : Int) < l.length := by omega
      obtain rfl : al = some ⟨bl, ol, none⟩ := HH.out.at_.resolve_left (by omega)
      obtain ⟨s1, cs, row1, t1⟩ := HL.out j hjl
      obtain ⟨ta, tc, tb, to', rfl, _, hks, hd1, ts1, _⟩ := t1
      obtain ⟨q, q0, q1⟩ := row3 (row1.keep (Bj.block _ (hS _ s1)))
      have a1 : Below wr.heap.size wr (wr.alloc (.cells #[.string (l[j]).1, .int .i64 (l[j]).2.1, .slice ta (l[j]).2.2.length tc] 35)) := (Below.refl _ _).alloc (Nat.le_refl _) _
      have b1 := Bj.trans (a1.mono hzr)
      have HR := hmk (HTT.out _ b1 j hjl ta tc tb to' hd1 (ts1.keep (fun y hy => b1.block y (hS y hy)) (fun _ h => h)) hks)
      have hx := heap_alloc_new wr (.cells #[.string (l[j]).1, .int .i64 (l[j]).2.1, .slice ta (l[j]).2.2.length tc] 35)
      have x0 : (wr.alloc (.cells #[.string (l[j]).1, .int .i64 (l[j]).2.1, .slice ta (l[j]).2.2.length tc] 35)).cell? ⟨wr.heap.size, 0, none⟩ = some (.string (l[j]).1) := by rw [cell_of_block hx]; rfl
      have x1 : (wr.alloc (.cells #[.string (l[j]).1, .int .i64 (l[j]).2.1, .slice ta (l[j]).2.2.length tc] 35)).cell? ⟨wr.heap.size, 1, none⟩ = some (.int .i64 (l[j]).2.1) := by rw [cell_of_block hx]; rfl
      have x2 : (wr.alloc (.cells #[.string (l[j]).1, .int .i64 (l[j]).2.1, .slice ta (l[j]).2.2.length tc] 35)).cell? ⟨wr.heap.size, 2, none⟩ = some (.slice ta (l[j]).2.2.length tc) := by rw [cell_of_block hx]; rfl
      have hzA : (wr.alloc (.cells #[.string (l[j]).1, .int .i64 (l[j]).2.1, .slice ta (l[j]).2.2.length tc] 35)).heap.size = wr.heap.size + 1 := alloc_size _ _
      have hge : goodB ((l[j]).1, (l[j]).2.1, (l[j]).2.2) = goodB l[j] := rfl
      rw [hge] at HR
      obtain ⟨r, hr⟩ : ∃ r, goodB l[j] = r := ⟨_, rfl⟩
      rw [hr] at HR
      have HNO : Hid (r = false → l.all goodB = false) := fun h => allf_no hjl (hr.trans h)
      have HYE : Hid (r = true → ∀ k (h : k < l.length), k < j + 1 → goodB l[k] = true) := fun h k hk hk2 => by
        by_cases e : k = j
        · subst e; exact hr.trans h
        · exact HN.out k hk (by omega)
      have HB1 : Hid (∀ W : World, Below (wr.alloc (.cells #[.string (l[j]).1, .int .i64 (l[j]).2.1, .slice ta (l[j]).2.2.length tc] 35)).heap.size (wr.alloc (.cells #[.string (l[j]).1, .int .i64 (l[j]).2.1, .slice ta (l[j]).2.2.length tc] 35)) W → Below w.heap.size w W) := fun W hW => b1.trans (hW.mono (by omega))
      clear hr HN row1 hd1 ts1 hge hx b1 a1 hzA hks
      generalize l[j] = t at *
      cases r with
      | false =>
        have HA := hmk (HNO.out rfl)
        go_wp2_with (first | (go_at_call 41; refine HR.out.mono ?_; rintro e w2 ⟨rfl, B2⟩))
        go_ret
        exact ⟨congrArg (fun r => Ending.returned (.bool r)) HA.out.symm, HB1.out _ B2⟩
      | true =>
        have HY := hmk (HYE.out rfl)
        go_wp2_with (first | (go_at_call 41; refine HR.out.mono ?_; rintro e w2 ⟨rfl, B2⟩))
        go_roundw
        case rel => exact ⟨j + 1, by omega, by go_num, HB1.out _ B2, HY.out⟩
        case measure => simp [RowKit.intOf]; omega
    · obtain rfl : j = l.length := by omega
      have y1 : ¬ (l.length : Int) < l.length := by omega
      have HA := hmk (allf_yes fun k hk => HN.out k hk hk)
      go_wp2_with fail
      (try simp only [Exit.inBlock, Exit.then])
      go_ret
      exact ⟨congrArg (fun r => Ending.returned (.bool r)) HA.out.symm, Bj⟩
end Go.Proofs.YtolekldjbbjmjaaGreatDoor
