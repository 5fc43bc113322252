import Derived.Test.YtfekgeaopchilaaGreatDoorRelP
/- Check. -/
set_option linter.unusedSimpArgs false
set_option linter.unusedVariables false
namespace Go.Proofs.YtfekgeaopchilaaGreatDoor
open Go.RowKit Go.Lib
/-- is it a path? -/
def pathB (p : List El) : Bool := decide (p.length ≤ 32) && p.all elB
def errP (p : List El) : Nat := if pathB p = true then 0 else 90
theorem pathB_true {p : List El} (h : p.length ≤ 32) (h' : ∀ (q : Nat) (h : q < p.length), elB p[q] = true) : pathB p = true := by
  rw [pathB, decide_eq_true h, Bool.true_and, List.all_eq_true]
  intro x hx
  obtain ⟨q, hq, rfl⟩ := List.getElem_of_mem hx
  exact h' q hq
theorem pathB_all {p : List El} (h : pathB p = true) : p.length ≤ 32 ∧ ∀ x ∈ p, elB x = true := by
  simpa [pathB] using h
theorem errP_ok {p : List El} (h : p.length ≤ 32) (h' : ∀ (q : Nat) (h : q < p.length), elB p[q] = true) : errP p = 0 := by rw [errP, if_pos (pathB_true h h')]
theorem errP_len {p : List El} (h : ¬ p.length ≤ 32) : errP p = 90 := by rw [errP, if_neg]; rw [pathB, decide_eq_false h]; simp
theorem errP_bad {p : List El} {j : Nat} (hj : j < p.length) (h : elB p[j] = false) : errP p = 90 := by
  rw [errP, if_neg]
  intro hp
  have := (pathB_all hp).2 _ (List.getElem_mem hj)
  rw [h] at this
  cases this
set_option maxHeartbeats 4000000 in
set_option maxRecDepth 100000 in
theorem pcheck_any (p : List El) (S : Nat → Prop) (ap : Option Addr) (cp bp op : Nat) (w : World) (t : Tb w) (hap : Headed ap p.length cp bp op) (hp : liesP w S p bp op) (hS : ∀ b, S b → b < w.heap.size) (hwt : wtP p ≤ 2147483647) :
    Calls Tryz.prog 30 #[.slice ap p.length cp] w (NPost (errP p) w) := by
  have HP := hmk hp
  clear hp
  by_cases h32 : p.length ≤ 32
  case neg =>
    have HF := hmk (errP_len h32)
    have y0 : (32 : Int) < p.length := by omega
    go_enter Tryz.func30, Tryz.ntmps30
    go_wp2_with fail
    go_ret
    exact ⟨by rw [HF.out]; rfl, Below.refl _ _⟩
  have y0 : ¬ (32 : Int) < p.length := by omega
  have H32 := hmk h32
  have hlm := wtP_len p
  clear h32
  go_enter Tryz.func30, Tryz.ntmps30
  go_wp2_with fail
  go_loopw [10] (fun e wr => ∃ j : Nat, j ≤ p.length ∧ e = .int .i64 (j : Int) ∧ Below w.heap.size w wr ∧ Hid (∀ (q : Nat) (h : q < j) (h' : q < p.length), elB p[q] = true)) (fun e _ => p.length - (RowKit.intOf e).toNat)
  case atStart => exact ⟨0, by omega, rfl, Below.refl _ _, fun q hq _ => by omega⟩
  case round =>
    obtain ⟨j, hj, rfl, bj, ok⟩ := hrel
    by_cases hjl : j < p.length
    · have y1 : (j : Int) < p.length := by omega
      obtain ⟨hSb, csj, hrow, hlj⟩ := HP.out j hjl
      obtain rfl : ap = some ⟨bp, op, none⟩ := hap.at_.resolve_left (by omega)
      have hwj : (p[j]).wt ≤ 2147483647 := by have := wtP_mem (List.getElem_mem hjl); omega
      obtain ⟨k, s, am, nm, cm, vk, vb, vi, vs, val, vnl, vcl, vam, vnm, vcm, rfl⟩ := El.nine hlj
      obtain ⟨q0, q1, q2, q3, q4, q5, q6, q7, q8⟩ := row9 (hrow.keep (bj.block bp (hS _ hSb)))
      have bA : Below w.heap.size w (wr.alloc (.cells #[.int .i64 k, .string s, .slice am nm cm, .int .i64 vk, .bool vb, .int .i64 vi, .string vs, .slice val vnl vcl, .slice vam vnm vcm] 60)) := bj.alloc bj.size _
      have c := hmk (maybe_any p[j] S _ (wr.alloc (.cells #[.int .i64 k, .string s, .slice am nm cm, .int .i64 vk, .bool vb, .int .i64 vi, .string vs, .slice val vnl vcl, .slice vam vnm vcm] 60)) (t.below bA t.z) (El.lies_keep (fun b hb => bA.block b (hS b hb)) (fun _ h => h) hlj) (fun b hb => Nat.lt_of_lt_of_le (hS b hb) bA.size) hwj)
      have HB := hmk bA
      clear hlj hrow bA hwj
      cases hx : elB p[j] with
      | false =>
        have HF := hmk (errP_bad hjl hx)
        rw [hx] at c
        clear hx
        go_wp2_with fail
        refine c.out.mono ?_
        rintro e w1 ⟨rfl, b1⟩
        go_wp2_with fail
        go_ret
        exact ⟨by rw [HF.out]; rfl, HB.out.trans (b1.mono HB.out.size)⟩
      | true =>
        have HO : Hid (∀ (q : Nat) (h : q < j + 1) (h' : q < p.length), elB p[q] = true) := fun q hq hq' => by
          by_cases hqj : q < j
          · exact ok.out q hqj hq'
          · obtain rfl : q = j := by omega
            exact hx
        rw [hx] at c
        clear hx
        go_wp2_with fail
        refine c.out.mono ?_
        rintro e w1 ⟨rfl, b1⟩
        have HB2 := hmk (HB.out.trans (b1.mono HB.out.size))
        go_wp2_with fail
        go_roundw
        case rel => exact ⟨j + 1, by omega, by go_num, HB2.out, HO⟩
        case measure => simp [RowKit.intOf]; omega
    · obtain rfl : j = p.length := by omega
      have y1 : ¬ (p.length : Int) < p.length := by omega
      have HF := hmk (errP_ok H32.out (fun q hq => ok.out q hq hq))
      have HB := hmk bj
      go_wp2_with fail
      go_ret
      exact ⟨by rw [HF.out]; rfl, HB.out⟩
set_option maxHeartbeats 4000000 in
set_option maxRecDepth 100000 in
theorem rpcheck_any (p : List El) (S : Nat → Prop) (ap : Option Addr) (cp bp op : Nat) (w : World) (hap : Headed ap p.length cp bp op) (hp : liesP w S p bp op) (hS : ∀ b, S b → b < w.heap.size) (hwt : wtP p ≤ 2147483647) :
    Calls Tryz.prog 27 #[.slice ap p.length cp] w (NPost (errP p) w) := by
  have HP := hmk hp
  clear hp
  by_cases h32 : p.length ≤ 32
  case neg =>
    have HF := hmk (errP_len h32)
    have y0 : (32 : Int) < p.length := by omega
    go_enter Tryz.func27, Tryz.ntmps27
    go_wp2_with fail
    go_ret
    exact ⟨by rw [HF.out]; rfl, Below.refl _ _⟩
  have y0 : ¬ (32 : Int) < p.length := by omega
  have H32 := hmk h32
  have hlm := wtP_len p
  clear h32
  go_enter Tryz.func27, Tryz.ntmps27
  go_wp2_with fail
  go_loopw [3] (fun e wr => ∃ j : Nat, j ≤ p.length ∧ e = .int .i64 (j : Int) ∧ Below w.heap.size w wr ∧ Hid (∀ (q : Nat) (h : q < j) (h' : q < p.length), elB p[q] = true)) (fun e _ => p.length - (RowKit.intOf e).toNat)
  case atStart => exact ⟨0, by omega, rfl, Below.refl _ _, fun q hq _ => by omega⟩
  case round =>
    obtain ⟨j, hj, rfl, bj, ok⟩ := hrel
    by_cases hjl : j < p.length
    · have y1 : (j : Int) < p.length := by omega
      obtain ⟨hSb, csj, hrow, hlj⟩ := HP.out j hjl
      obtain rfl : ap = some ⟨bp, op, none⟩ := hap.at_.resolve_left (by omega)
      have hwj : (p[j]).wt ≤ 2147483647 := by have := wtP_mem (List.getElem_mem hjl); omega
      obtain ⟨k, s, am, nm, cm, vk, vb, vi, vs, val, vnl, vcl, vam, vnm, vcm, rfl⟩ := El.nine hlj
      obtain ⟨q0, q1, q2, q3, q4, q5, q6, q7, q8⟩ := row9 (hrow.keep (bj.block bp (hS _ hSb)))
      have bA := bj
      have c := hmk (relem_any p[j] S _ wr (El.lies_keep (fun b hb => bA.block b (hS b hb)) (fun _ h => h) hlj) (fun b hb => Nat.lt_of_lt_of_le (hS b hb) bA.size) hwj)
      have HB := hmk bA
      clear hlj hrow bA hwj
      cases hx : elB p[j] with
      | false =>
        have HF := hmk (errP_bad hjl hx)
        rw [hx] at c
        clear hx
        go_wp2_with fail
        refine c.out.mono ?_
        rintro e w1 ⟨rfl, b1⟩
        go_wp2_with fail
        go_ret
        exact ⟨by rw [HF.out]; rfl, HB.out.trans (b1.mono HB.out.size)⟩
      | true =>
        have HO : Hid (∀ (q : Nat) (h : q < j + 1) (h' : q < p.length), elB p[q] = true) := fun q hq hq' => by
          by_cases hqj : q < j
          · exact ok.out q hqj hq'
          · obtain rfl : q = j := by omega
            exact hx
        rw [hx] at c
        clear hx
        go_wp2_with fail
        refine c.out.mono ?_
        rintro e w1 ⟨rfl, b1⟩
        have HB2 := hmk (HB.out.trans (b1.mono HB.out.size))
        go_wp2_with fail
        go_roundw
        case rel => exact ⟨j + 1, by omega, by go_num, HB2.out, HO⟩
        case measure => simp [RowKit.intOf]; omega
    · obtain rfl : j = p.length := by omega
      have y1 : ¬ (p.length : Int) < p.length := by omega
      have HF := hmk (errP_ok H32.out (fun q hq => ok.out q hq hq))
      have HB := hmk bj
      go_wp2_with fail
      go_ret
      exact ⟨by rw [HF.out]; rfl, HB.out⟩
end Go.Proofs.YtfekgeaopchilaaGreatDoor
