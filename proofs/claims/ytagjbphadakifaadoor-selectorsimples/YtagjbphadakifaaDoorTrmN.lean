import Derived.Test.YtagjbphadakifaaDoorTrmK
/- the document's Good, of what good says of a term. -/
set_option linter.unusedSimpArgs false
set_option linter.unusedVariables false
namespace Go.Proofs.YtagjbphadakifaaDoor
open Go.RowKit Go.Lib
theorem allf_no {f : Trm → Bool} {l : List Trm} {j : Nat} (hj : j < l.length) (h : f l[j] = false) : l.all f = false := by
  rw [List.all_eq_false]
  exact ⟨_, List.getElem_mem hj, by rw [h]; simp⟩
theorem allf_yes {f : Trm → Bool} {l : List Trm} (h : ∀ k (hk : k < l.length), f l[k] = true) : l.all f = true := by
  rw [List.all_eq_true]
  intro t ht
  obtain ⟨k, hk, rfl⟩ := List.mem_iff_getElem.1 ht
  exact h k hk
set_option maxHeartbeats 8000000 in
set_option maxRecDepth 100000 in
theorem rgood_of (f : Trm → Bool) (l : List Trm) (R : Bool) (S : Nat → Prop) (al : Option Addr) (cl bl ol : Nat) (w : World)
    (hh : Headed al l.length cl bl ol) (hl : liesT R w S l bl ol) (hS : ∀ y, S y → y < w.heap.size)
    (hf : ∀ (W : World), Below w.heap.size w W → ∀ (t : Trm) (a : Option Addr) (c b o : Nat), t ∈ l → Headed a t.2.2.length c b o → liesS W S t.2.2 b o → Calls Tryd.prog 46 #[.agg #[.string t.1, .int .i64 t.2.1, .slice a t.2.2.length c]] W (BPost (f t) W)) :
    Calls Tryd.prog 27 #[.slice al l.length cl] w (BPost (l.all f) w) := by
  have HH := hmk hh
  have HL := hmk hl
  have hm : l.length ≤ 9223372036854775807 := Nat.le_trans hh.le hh.max
  have HT := hmk hf
  clear hh hl hf
  go_enter Tryd.func27, Tryd.ntmps27
  go_wp2_with fail
  go_loopw [3] (fun e3 wr => ∃ j : Nat, j ≤ l.length ∧ e3 = .int .i64 (j : Int) ∧ Below w.heap.size w wr ∧ Hid (∀ k (h : k < l.length), k < j → f l[k] = true)) (fun e3 _ => l.length - (RowKit.intOf e3).toNat)
  case atStart => exact ⟨0, by omega, rfl, Below.refl _ _, fun k _ h => by omega⟩
  case round =>
    obtain ⟨j, hj, rfl, Bj, HN⟩ := hrel
    have hzr := Bj.size
    by_cases hjl : j < l.length
    · have y1 : (j : Int) < l.length := by omega
      obtain rfl : al = some ⟨bl, ol, none⟩ := HH.out.at_.resolve_left (by omega)
      obtain ⟨s1, cs, row1, t1⟩ := HL.out j hjl
      obtain ⟨ta, tc, tb, to', rfl, _, _, hd1, ts1, _⟩ := t1
      obtain ⟨q, q0, q1⟩ := row3 (row1.keep (Bj.block _ (hS _ s1)))
      have HR := hmk (HT.out wr Bj l[j] ta tc tb to' (List.getElem_mem hjl) hd1 (ts1.keep (fun y hy => Bj.block y (hS y hy)) (fun _ h => h)))
      obtain ⟨r, hr⟩ : ∃ r, f l[j] = r := ⟨_, rfl⟩
      rw [hr] at HR
      have HNO : Hid (r = false → l.all f = false) := fun h => allf_no hjl (hr.trans h)
      have HYE : Hid (r = true → ∀ k (h : k < l.length), k < j + 1 → f l[k] = true) := fun h k hk hk2 => by
        by_cases e : k = j
        · subst e; exact hr.trans h
        · exact HN.out k hk (by omega)
      clear hr HN row1 hd1 ts1
      generalize l[j] = t at *
      cases r with
      | false =>
        have HA := hmk (HNO.out rfl)
        go_wp2_with (first | (go_at_call 46; refine HR.out.mono ?_; rintro e w2 ⟨rfl, B2⟩))
        go_ret
        exact ⟨congrArg (fun r => Ending.returned (.bool r)) HA.out.symm, Bj.trans (B2.mono hzr)⟩
      | true =>
        have HY := hmk (HYE.out rfl)
        go_wp2_with (first | (go_at_call 46; refine HR.out.mono ?_; rintro e w2 ⟨rfl, B2⟩))
        go_roundw
        case rel => exact ⟨j + 1, by omega, by go_num, Bj.trans (B2.mono hzr), HY.out⟩
        case measure => simp [RowKit.intOf]; omega
    · obtain rfl : j = l.length := by omega
      have y1 : ¬ (l.length : Int) < l.length := by omega
      have HA := hmk (allf_yes fun k hk => HN.out k hk hk)
      go_wp2_with fail
      (try simp only [Exit.inBlock, Exit.then])
      go_ret
      exact ⟨congrArg (fun r => Ending.returned (.bool r)) HA.out.symm, Bj⟩
end Go.Proofs.YtagjbphadakifaaDoor
