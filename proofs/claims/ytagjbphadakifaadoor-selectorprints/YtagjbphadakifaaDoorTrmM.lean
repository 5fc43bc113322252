/- the document's Match, of what its Good says. -/
import Derived.Test.YtagjbphadakifaaDoorTrmL
set_option linter.unusedSimpArgs false
set_option linter.unusedVariables false
namespace Go.Proofs.YtagjbphadakifaaDoor
open Go.RowKit Go.Lib
def termB (m : List Mem) (t : Trm) : Bool := holdsB t.2.1 (labF m t.1).2 (amongB t.2.2 (labF m t.1).1)
theorem all_no {m : List Mem} {l : List Trm} {j : Nat} (hj : j < l.length) (h : termB m l[j] = false) : l.all (termB m) = false := by
  rw [List.all_eq_false]
  exact ⟨_, List.getElem_mem hj, by rw [h]; simp⟩
theorem all_yes {m : List Mem} {l : List Trm} (h : ∀ k (hk : k < l.length), termB m l[k] = true) : l.all (termB m) = true := by
  rw [List.all_eq_true]
  intro t ht
  obtain ⟨k, hk, rfl⟩ := List.mem_iff_getElem.1 ht
  exact h k hk
set_option maxHeartbeats 8000000 in
set_option maxRecDepth 100000 in
theorem rmatch_of (l : List Trm) (m : List Mem) (R R2 : Bool) (S S2 : Nat → Prop) (al : Option Addr) (cl bl ol : Nat) (am : Option Addr) (cm bm om : Nat) (w : World) (g : Bool)
    (hh : Headed al l.length cl bl ol) (hl : liesT R w S l bl ol) (hS : ∀ y, S y → y < w.heap.size) (hh2 : Headed am m.length cm bm om) (hl2 : liesM R2 w S2 m bm om) (hS2 : ∀ y, S2 y → y < w.heap.size)
    (hG : ∀ W : World, Below w.heap.size w W → Calls Tryd.prog 27 #[.slice al l.length cl] W (BPost g W)) :
    Calls Tryd.prog 11 #[.slice al l.length cl, .slice am m.length cm] w (BPost (g && l.all (termB m)) w) := by
  have HH := hmk hh
  have HL := hmk hl
  have HG := hmk (hG w (Below.refl _ _))
  have hm : l.length ≤ 9223372036854775807 := Nat.le_trans hh.le hh.max
  have HT := hmk (fun (W : World) (hW : Below w.heap.size w W) (j : Nat) (hj : j < l.length) (a : Option Addr) (c b o : Nat) (h1 : Headed a (l[j]).2.2.length c b o) (h2 : liesS W S (l[j]).2.2 b o) =>
    rholds_any (l[j]).1 (l[j]).2.1 (l[j]).2.2 m R2 S S2 a c b o am cm bm om W h1 h2 (fun y hy => by have := hS y hy; have := hW.size; omega) hh2 (liesM_keep (fun h => h) (fun y hy => hW.block y (hS2 y hy)) (fun _ h => h) _ hl2) (fun y hy => by have := hS2 y hy; have := hW.size; omega))
  clear hh hl hh2 hl2 hG hS2
  cases g with
  | false =>
    go_enter Tryd.func11, Tryd.ntmps11
    go_wp2_with (first | (go_at_call 27; refine HG.out.mono ?_; rintro e w1 ⟨rfl, B1⟩))
    go_ret
    exact ⟨rfl, B1⟩
  | true =>
    rw [Bool.true_and]
    go_enter Tryd.func11, Tryd.ntmps11
    go_wp2_with (first | (go_at_call 27; refine HG.out.mono ?_; rintro e w1 ⟨rfl, B1⟩))
    go_loopw [6] (fun e6 wr => ∃ j : Nat, j ≤ l.length ∧ e6 = .int .i64 (j : Int) ∧ Below w.heap.size w wr ∧ Hid (∀ k (h : k < l.length), k < j → termB m l[k] = true)) (fun e6 _ => l.length - (RowKit.intOf e6).toNat)
    case atStart => exact ⟨0, by omega, rfl, B1, fun k _ h => by omega⟩
    case round =>
      clear B1
      obtain ⟨j, hj, rfl, Bj, HN⟩ := hrel
      have hzr := Bj.size
      by_cases hjl : j < l.length
      · have y1 : (j : Int) < l.length := by omega
        obtain rfl : al = some ⟨bl, ol, none⟩ := HH.out.at_.resolve_left (by omega)
        obtain ⟨s1, cs, row1, t1⟩ := HL.out j hjl
        obtain ⟨ta, tc, tb, to', rfl, _, _, hd1, ts1, _⟩ := t1
        obtain ⟨q, q0, q1⟩ := row3 (row1.keep (Bj.block _ (hS _ s1)))
        have HR := hmk (HT.out wr Bj j hjl ta tc tb to' hd1 (ts1.keep (fun y hy => Bj.block y (hS y hy)) (fun _ h => h)))
        obtain ⟨r, hr⟩ : ∃ r, termB m l[j] = r := ⟨_, rfl⟩
        have HRR : Hid (Calls Tryd.prog 28 #[.agg #[.string (l[j]).1, .int .i64 (l[j]).2.1, .slice ta (l[j]).2.2.length tc], .slice am m.length cm] wr (BPost r wr)) := by rw [← hr]; exact HR.out
        have HNO : Hid (r = false → l.all (termB m) = false) := fun h => all_no hjl (hr.trans h)
        have HYE : Hid (r = true → ∀ k (h : k < l.length), k < j + 1 → termB m l[k] = true) := fun h k hk hk2 => by
          by_cases e : k = j
          · subst e; exact hr.trans h
          · exact HN.out k hk (by omega)
        clear HR hr HN row1 hd1 ts1
        generalize l[j] = t at *
        cases r with
        | false =>
          have HA := hmk (HNO.out rfl)
          go_wp2_with (first | (go_at_call 28; refine HRR.out.mono ?_; rintro e w2 ⟨rfl, B2⟩))
          go_ret
          exact ⟨congrArg (fun r => Ending.returned (.bool r)) HA.out.symm, Bj.trans (B2.mono hzr)⟩
        | true =>
          have HY := hmk (HYE.out rfl)
          go_wp2_with (first | (go_at_call 28; refine HRR.out.mono ?_; rintro e w2 ⟨rfl, B2⟩))
          go_roundw
          case rel => exact ⟨j + 1, by omega, by go_num, Bj.trans (B2.mono hzr), HY.out⟩
          case measure => simp [RowKit.intOf]; omega
      · obtain rfl : j = l.length := by omega
        have y1 : ¬ (l.length : Int) < l.length := by omega
        have HA := hmk (all_yes fun k hk => HN.out k hk hk)
        go_wp2_with fail
        (try simp only [Exit.inBlock, Exit.then])
        go_ret
        exact ⟨congrArg (fun r => Ending.returned (.bool r)) HA.out.symm, Bj⟩
end Go.Proofs.YtagjbphadakifaaDoor
