import Derived.Test.YtagjbphadakifaaDoorTrmQ
/- the program's isSelector. -/
set_option linter.unusedSimpArgs false
set_option linter.unusedVariables false
namespace Go.Proofs.YtagjbphadakifaaDoor
open Go.RowKit Go.Lib
set_option maxHeartbeats 8000000 in
set_option maxRecDepth 100000 in
theorem issel_any (l : List Trm) (R : Bool) (S : Nat → Prop) (al : Option Addr) (cl bl ol : Nat) (w : World)
    (hh : Headed al l.length cl bl ol) (hl : liesT R w S l bl ol) (hS : ∀ y, S y → y < w.heap.size) (hT : Tb w) :
    Calls Tryd.prog 24 #[.slice al l.length cl] w (BPost (l.all goodB) w) := by
  have HH := hmk hh
  have HL := hmk hl
  have hm : l.length ≤ 9223372036854775807 := Nat.le_trans hh.le hh.max
  have HTT := hmk (fun (W : World) (hW : Below w.heap.size w W) (j : Nat) (hj : j < l.length) (a : Option Addr) (c b o : Nat) (h1 : Headed a (l[j]).2.2.length c b o) (h2 : liesS W S (l[j]).2.2 b o) (h3 : (l[j]).1.size ≤ 140737488355328) =>
    maybe_any (l[j]).1 (l[j]).2.1 (l[j]).2.2 S a c b o W h1 h2 (fun y hy => Nat.lt_of_lt_of_le (hS y hy) hW.size) h3 (hT.below hW hT.z))
  clear hh hl hT
  go_enter Tryd.func24, Tryd.ntmps24
  go_wp2_with fail
  go_loopw [7] (fun e3 wr => ∃ j : Nat, j ≤ l.length ∧ e3 = .int .i64 (j : Int) ∧ Below w.heap.size w wr ∧ Hid (∀ k (h : k < l.length), k < j → goodB l[k] = true)) (fun e3 _ => l.length - (RowKit.intOf e3).toNat)
  case atStart => exact ⟨0, by omega, rfl, Below.refl _ _, fun k _ h => by omega⟩
  case round =>
    obtain ⟨j, hj, rfl, Bj, HN⟩ := hrel
    have hzr := Bj.size
    by_cases hjl : j < l.length
    · have y1 : (j : Int) < l.length := by omega
      obtain rfl : al = some ⟨bl, ol, none⟩ := HH.out.at_.resolve_left (by omega)
      obtain ⟨s1, cs, row1, t1⟩ := HL.out j hjl
      obtain ⟨ta, tc, tb, to', rfl, _, hks, hd1, ts1, _⟩ := t1
      obtain ⟨q, q0, q1⟩ := row3 (row1.keep (Bj.block _ (hS _ s1)))
      have a1 : Below wr.heap.size wr (wr.alloc (.cells #[.string (l[j]).1, .int .i64 (l[j]).2.1, .slice ta (l[j]).2.2.length tc] 50)) := (Below.refl _ _).alloc (Nat.le_refl _) _
      have b1 := Bj.trans (a1.mono hzr)
      have HR := hmk (HTT.out _ b1 j hjl ta tc tb to' hd1 (ts1.keep (fun y hy => b1.block y (hS y hy)) (fun _ h => h)) hks)
      have hx := heap_alloc_new wr (.cells #[.string (l[j]).1, .int .i64 (l[j]).2.1, .slice ta (l[j]).2.2.length tc] 50)
      have x0 : (wr.alloc (.cells #[.string (l[j]).1, .int .i64 (l[j]).2.1, .slice ta (l[j]).2.2.length tc] 50)).cell? ⟨wr.heap.size, 0, none⟩ = some (.string (l[j]).1) := by rw [cell_of_block hx]; rfl
      have x1 : (wr.alloc (.cells #[.string (l[j]).1, .int .i64 (l[j]).2.1, .slice ta (l[j]).2.2.length tc] 50)).cell? ⟨wr.heap.size, 1, none⟩ = some (.int .i64 (l[j]).2.1) := by rw [cell_of_block hx]; rfl
      have x2 : (wr.alloc (.cells #[.string (l[j]).1, .int .i64 (l[j]).2.1, .slice ta (l[j]).2.2.length tc] 50)).cell? ⟨wr.heap.size, 2, none⟩ = some (.slice ta (l[j]).2.2.length tc) := by rw [cell_of_block hx]; rfl
      have hzA : (wr.alloc (.cells #[.string (l[j]).1, .int .i64 (l[j]).2.1, .slice ta (l[j]).2.2.length tc] 50)).heap.size = wr.heap.size + 1 := alloc_size _ _
      have hge : goodB ((l[j]).1, (l[j]).2.1, (l[j]).2.2) = goodB l[j] := rfl
      rw [hge] at HR
      obtain ⟨r, hr⟩ : ∃ r, goodB l[j] = r := ⟨_, rfl⟩
      rw [hr] at HR
      have HNO : Hid (r = false → l.all goodB = false) := fun h => allf_no hjl (hr.trans h)
      have HYE : Hid (r = true → ∀ k (h : k < l.length), k < j + 1 → goodB l[k] = true) := fun h k hk hk2 => by
        by_cases e : k = j
        · subst e; exact hr.trans h
        · exact HN.out k hk (by omega)
      have HB1 : Hid (∀ W : World, Below (wr.alloc (.cells #[.string (l[j]).1, .int .i64 (l[j]).2.1, .slice ta (l[j]).2.2.length tc] 50)).heap.size (wr.alloc (.cells #[.string (l[j]).1, .int .i64 (l[j]).2.1, .slice ta (l[j]).2.2.length tc] 50)) W → Below w.heap.size w W) := fun W hW => b1.trans (hW.mono (by omega))
      clear hr HN row1 hd1 ts1 hge hx b1 a1 hzA hks
      generalize l[j] = t at *
      cases r with
      | false =>
        have HA := hmk (HNO.out rfl)
        go_wp2_with (first | (go_at_call 44; refine HR.out.mono ?_; rintro e w2 ⟨rfl, B2⟩))
        go_ret
        exact ⟨congrArg (fun r => Ending.returned (.bool r)) HA.out.symm, HB1.out _ B2⟩
      | true =>
        have HY := hmk (HYE.out rfl)
        go_wp2_with (first | (go_at_call 44; refine HR.out.mono ?_; rintro e w2 ⟨rfl, B2⟩))
        go_roundw
        case rel => exact ⟨j + 1, by omega, by go_num, HB1.out _ B2, HY.out⟩
        case measure => simp [RowKit.intOf]; omega
    · obtain rfl : j = l.length := by omega
      have y1 : ¬ (l.length : Int) < l.length := by omega
      have HA := hmk (allf_yes fun k hk => HN.out k hk hk)
      go_wp2_with fail
      (try simp only [Exit.inBlock, Exit.then])
      go_ret
      exact ⟨congrArg (fun r => Ending.returned (.bool r)) HA.out.symm, Bj⟩
end Go.Proofs.YtagjbphadakifaaDoor
