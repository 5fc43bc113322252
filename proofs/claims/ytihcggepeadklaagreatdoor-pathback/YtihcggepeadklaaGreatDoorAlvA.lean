import Derived.Test.YtihcggepeadklaaGreatDoorG45
/- The law's alive is true. -/
set_option linter.unusedSimpArgs false
set_option linter.unusedVariables false
namespace Go.Proofs.YtihcggepeadklaaGreatDoor
open Go.RowKit Go.Lib
theorem row_blk {w : World} {b o : Nat} {c : Array Value} {t : TypeId} {fz : Nat × Nat} {cs : List Value} (h : w.heap[b]? = some (.cells c t fz)) (hc : (c.toList.drop o).take cs.length = cs) : rowAt w b o cs := by
  intro j u hu
  have hj : j < cs.length := by
    rcases Nat.lt_or_ge j cs.length with h | h
    · exact h
    · rw [List.getElem?_eq_none h] at hu; cases hu
  rw [← hc, List.getElem?_take_of_lt hj, List.getElem?_drop] at hu
  show w.cell? ⟨b, o + j, none⟩ = some u
  rw [cell_of_block h, ← Array.getElem?_toList]
  exact hu
abbrev alO1 : Obj := .cells #[.string ⟨#[105, 100]⟩, .int .i64 2, .bool false, .int .i64 1, .string ⟨#[]⟩, .slice none 0 0, .slice none 0 0] 50
abbrev alO2 (g : Nat) : Obj := .cells #[.int .i64 1, .string ⟨#[115, 112, 101, 99]⟩, .slice none 0 0, .int .i64 0, .bool false, .int .i64 0, .string ⟨#[]⟩, .slice none 0 0, .slice none 0 0,
  .int .i64 1, .string ⟨#[97, 32, 98]⟩, .slice none 0 0, .int .i64 0, .bool false, .int .i64 0, .string ⟨#[]⟩, .slice none 0 0, .slice none 0 0,
  .int .i64 2, .string ⟨#[]⟩, .slice (some ⟨g, 0, none⟩) 1 1, .int .i64 0, .bool false, .int .i64 0, .string ⟨#[]⟩, .slice none 0 0, .slice none 0 0,
  .int .i64 3, .string ⟨#[]⟩, .slice none 0 0, .int .i64 3, .bool false, .int .i64 0, .string ⟨#[113]⟩, .slice none 0 0, .slice none 0 0] 48
theorem al_lies {w : World} {S : Nat → Prop} {g g2 : Nat} (h1 : w.heap[g]? = some alO1) (h2 : w.heap[g2]? = some (alO2 g)) (hg : S g) (hg2 : S g2) : liesP w S alP g2 0 := by
  have hin : ∀ n : Int, 0 ≤ n → n ≤ 3 → In64 n := fun n a b => ⟨by omega, by omega⟩
  have hm : ∀ n : Nat, n ≤ 100 → n ≤ maxLen := fun n h => by unfold maxLen; omega
  intro j hj
  refine ⟨hg2, ?_⟩
  match j, hj with
  | 0, _ => exact ⟨_, row_blk (cs := [.int .i64 1, .string ⟨#[115, 112, 101, 99]⟩, .slice none 0 0, .int .i64 0, .bool false, .int .i64 0, .string ⟨#[]⟩, .slice none 0 0, .slice none 0 0]) h2 rfl, lies_fld (hm _ (by decide)) _ _⟩
  | 1, _ => exact ⟨_, row_blk (cs := [.int .i64 1, .string ⟨#[97, 32, 98]⟩, .slice none 0 0, .int .i64 0, .bool false, .int .i64 0, .string ⟨#[]⟩, .slice none 0 0, .slice none 0 0]) h2 rfl, lies_fld (hm _ (by decide)) _ _⟩
  | 2, _ =>
    refine ⟨_, row_blk (cs := [.int .i64 2, .string ⟨#[]⟩, .slice (some ⟨g, 0, none⟩) 1 1, .int .i64 0, .bool false, .int .i64 0, .string ⟨#[]⟩, .slice none 0 0, .slice none 0 0]) h2 rfl, lies_key (bm := g) (om := 0) ⟨Nat.le_refl _, hm _ (by decide), .inr rfl, fun h => by cases h⟩ ?_⟩
    refine liesM_mk (fun i hi => ?_)
    match i, hi with
    | 0, _ => exact ⟨hg, hm 2 (by decide), _, row_blk (cs := .string ⟨#[105, 100]⟩ :: [.int .i64 2, .bool false, .int .i64 1, .string ⟨#[]⟩, .slice none 0 0, .slice none 0 0]) h1 rfl, lies_sca (hin _ (by omega) (by omega)) (hin _ (by omega) (by omega)) (hm _ (by decide)) _ _⟩
  | 3, _ => exact ⟨_, row_blk (cs := [.int .i64 3, .string ⟨#[]⟩, .slice none 0 0, .int .i64 3, .bool false, .int .i64 0, .string ⟨#[113]⟩, .slice none 0 0, .slice none 0 0]) h2 rfl, lies_itm (hin _ (by omega) (by omega)) (hin _ (by omega) (by omega)) (hm _ (by decide)) _ _⟩
set_option maxHeartbeats 8000000 in
set_option maxRecDepth 100000 in
theorem alive_any (w : World) (t : Td w) : Calls Tryz.prog 8 #[] w (BPost true w) := by
  have b2 : Below w.heap.size w ((w.alloc alO1).alloc (alO2 w.heap.size)) := ((Below.refl _ w).alloc (Nat.le_refl _) _).alloc (by rw [alloc_size]; omega) _
  have n1 : ((w.alloc alO1).alloc (alO2 w.heap.size)).heap[w.heap.size]? = some alO1 := (Below.heap_alloc _ _ _ (by rw [alloc_size]; omega)).trans (heap_alloc_new w _)
  have n2 : ((w.alloc alO1).alloc (alO2 w.heap.size)).heap[w.heap.size + 1]? = some (alO2 w.heap.size) := alloc2_new w _ _
  have hz2 : w.heap.size + 1 < ((w.alloc alO1).alloc (alO2 w.heap.size)).heap.size := by rw [alloc_size, alloc_size]; omega
  have HT := hmk t
  clear t
  have hx1 : w.heap.size + 1 = w.heap.size + 1 := rfl
  go_enter Tryz.func8, Tryz.ntmps8
  go_wp2_with fail
  generalize ((w.alloc alO1).alloc (alO2 w.heap.size)) = w2 at *
  have hS2 : ∀ b, New w w2 b → b < w2.heap.size := fun b hb => hb.2
  have HL : Hid (∀ W, Below w2.heap.size w2 W → liesP W (New w w2) alP (w.heap.size + 1) 0 ∧ (∀ b, New w w2 b → b < W.heap.size) ∧ Td W ∧ Below w.heap.size w W) := fun W h => by
    have hb := b2.trans (h.mono b2.size)
    exact ⟨liesP_keep (fun x hx => h.block x hx.2) (fun _ h => h) (al_lies n1 n2 ⟨Nat.le_refl _, by omega⟩ ⟨by omega, hz2⟩), fun b hb => Nat.lt_of_lt_of_le hb.2 h.size, HT.out.below hb HT.out.z hb.size, hb⟩
  have hh : ∀ n : Nat, n ≤ 4 → Headed (some ⟨w.heap.size + 1, 0, none⟩) n 4 (w.heap.size + 1) 0 := fun n h => ⟨h, by unfold maxLen; omega, .inr rfl, fun h => by cases h⟩
  have HH := hmk hh
  clear n1 n2 hz2 hS2 HT b2 hh hx1
  have C1 : Hid (∀ W, Below w2.heap.size w2 W → Calls Tryz.prog 9 #[.slice (some ⟨w.heap.size + 1, 0, none⟩) 4 4] W (fun e w' => e = .returned (.tuple #[.string ⟨#[46, 115, 112, 101, 99, 46, 34, 97, 32, 98, 34, 91, 105, 100, 61, 49, 93, 91, 61, 34, 113, 34, 93]⟩, .int .i64 0]) ∧ Below W.heap.size W w')) := fun W h => by
    obtain ⟨l1, l2, l3, l4⟩ := HL.out W h
    have c := text_any alP (New w w2) (some ⟨w.heap.size + 1, 0, none⟩) 4 (w.heap.size + 1) 0 W l3 (HH.out 4 (by decide)) l1 l2 al_wt
    unfold TPost at c
    rw [al_text, al_err] at c
    exact c
  have C2 : Hid (∀ W, Td W → Calls Tryz.prog 11 #[.string ⟨#[46, 115, 112, 101, 99, 46, 34, 97, 32, 98, 34, 91, 105, 100, 61, 49, 93, 91, 61, 34, 113, 34, 93]⟩] W (fun e w' => ∃ ap cp bp op, e = .returned (.tuple #[.slice ap 4 cp, .int .i64 (-1), .int .i64 0]) ∧ Headed ap alP.length cp bp op ∧ liesP w' (New W w') alP bp op ∧ Below W.heap.size W w')) := fun W h => by
    have c := parse_any ⟨#[46, 115, 112, 101, 99, 46, 34, 97, 32, 98, 34, 91, 105, 100, 61, 49, 93, 91, 61, 34, 113, 34, 93]⟩ W h (by decide)
    have e : parF ((⟨#[46, 115, 112, 101, 99, 46, 34, 97, 32, 98, 34, 91, 105, 100, 61, 49, 93, 91, 61, 34, 113, 34, 93]⟩ : ByteArray)).data.toList 33 0 [] = (alP, -1, 0) := al_read
    rw [e] at c
    exact c
  have C3 : Hid (∀ W, Td W → Calls Tryz.prog 11 #[.string ⟨#[46, 97, 46]⟩] W (fun e w' => ∃ ap cp, e = .returned (.tuple #[.slice ap 0 cp, .int .i64 2, .int .i64 90]) ∧ Below W.heap.size W w')) := fun W h => by
    have c := parse_any ⟨#[46, 97, 46]⟩ W h (by decide)
    have e : parF ((⟨#[46, 97, 46]⟩ : ByteArray)).data.toList 33 0 [] = ([], 2, 90) := al_bad
    rw [e] at c
    refine c.mono ?_
    rintro e w' ⟨ap, cp, bp, op, rfl, _, _, b⟩
    exact ⟨ap, cp, rfl, b⟩
  refine (C1.out w2 (Below.refl _ _)).mono ?_
  rintro e w3 ⟨rfl, b3⟩
  have t3 := (HL.out w3 b3).2.2.1
  go_wp2_with fail
  refine (C2.out w3 t3).mono ?_
  rintro e w4 ⟨ap, cp, bp, op, rfl, hap, hp, b4⟩
  have B4 := b3.trans (b4.mono b3.size)
  have HAP := hmk hap
  have HP := hmk hp
  have t4 := (HL.out w4 B4).2.2.1
  have z34 := b4.size
  clear hap hp t3
  go_wp2_with fail
  refine (C3.out w4 t4).mono ?_
  rintro e w5 ⟨aq, cq, rfl, b5⟩
  have B5 := B4.trans (b5.mono B4.size)
  obtain ⟨l1, l2, l3, l4⟩ := HL.out w5 B5
  have c6 : Hid (Calls Tryz.prog 12 #[.slice (some ⟨w.heap.size + 1, 0, none⟩) 4 4, .slice ap 4 cp] w5 (BPost true w5)) := psame_any alP (New w w2) (New w3 w4) (some ⟨w.heap.size + 1, 0, none⟩) 4 (w.heap.size + 1) 0 ap cp bp op w5 (HH.out 4 (by decide)) l1 HAP.out (liesP_keep (fun x hx => b5.block x hx.2) (fun _ h => h) HP.out) l2 (fun x hx => Nat.lt_of_lt_of_le hx.2 b5.size)
  clear l1 l2 l3 l4 t4 b4 b5 B4 b3
  go_wp2_with fail
  refine c6.out.mono ?_
  rintro e w6 ⟨rfl, b6⟩
  have B6 := B5.trans (b6.mono B5.size)
  obtain ⟨l1, l2, l3, l4⟩ := HL.out w6 B6
  have c7 : Hid (Calls Tryz.prog 13 #[.slice (some ⟨w.heap.size + 1, 0, none⟩) 1 4, .slice (some ⟨w.heap.size + 1, 0, none⟩) 4 4] w6 (JPost (-1) w6)) := by
    have c := cmpP_any (alP.take 1) alP (New w w2) (New w w2) (some ⟨w.heap.size + 1, 0, none⟩) 4 (w.heap.size + 1) 0 (some ⟨w.heap.size + 1, 0, none⟩) 4 (w.heap.size + 1) 0 w6 l3.tb (HH.out 1 (by decide)) (liesP_sub l1 1) (HH.out 4 (by decide)) l1 l2 l2 (Nat.le_trans (wtP_take_le alP 1) al_wt) al_wt
    rw [al_cmp] at c
    exact c
  clear l1 l2 l3 l4 b6 B5 c6
  go_wp2_with fail
  refine c7.out.mono ?_
  rintro e w7 ⟨rfl, b7⟩
  have B7 := B6.trans (b7.mono B6.size)
  obtain ⟨l1, l2, l3, l4⟩ := HL.out w7 B7
  have c8 : Hid (Calls Tryz.prog 14 #[.slice (some ⟨w.heap.size + 1, 0, none⟩) 2 4, .slice (some ⟨w.heap.size + 1, 0, none⟩) 4 4] w7 (BPost true w7)) := by
    have c := abvP_any (alP.take 2) alP (New w w2) (New w w2) (some ⟨w.heap.size + 1, 0, none⟩) 4 (w.heap.size + 1) 0 (some ⟨w.heap.size + 1, 0, none⟩) 4 (w.heap.size + 1) 0 w7 l3.tb (HH.out 2 (by decide)) (liesP_sub l1 2) (HH.out 4 (by decide)) l1 l2 l2 (Nat.le_trans (wtP_take_le alP 2) al_wt) al_wt
    rw [al_abv] at c
    exact c
  have HB := hmk l4
  clear l1 l2 l3 l4 b7 B6 c7
  go_wp2_with fail
  refine c8.out.mono ?_
  rintro e w8 ⟨rfl, b8⟩
  go_wp2_with fail
  go_ret
  exact ⟨rfl, HB.out.trans (b8.mono HB.out.size)⟩
end Go.Proofs.YtihcggepeadklaaGreatDoor
