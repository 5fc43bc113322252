import Derived.Test.YtolekldjbbjmjaaGreatDoorG8
/- members. -/
set_option linter.unusedSimpArgs false
set_option linter.unusedVariables false
namespace Go.Proofs.YtolekldjbbjmjaaGreatDoor
open Go.RowKit Go.Lib
def memV (x : Lab) : Mem := (x.1, if x.2.2 = 0 then .mk 3 false 0 x.2.1 [] [] else .mk 2 false x.2.2 ⟨#[]⟩ [] [])
def MbPost (l : List Lab) (w : World) (e : Ending) (w' : World) : Prop := ∃ v, e = .returned v ∧ OwnM false w' w.heap.size (fun _ => False) v ((l.map memV).map some) ∧ Below w.heap.size w w'
theorem plain_lies {k i : Int} {s : ByteArray} (hk : In64 k) (hi : In64 i) (hs : s.size ≤ 140737488355328) (w : World) (S : Nat → Prop) : V.lies false w S (.mk k false i s [] []) [.int .i64 k, .bool false, .int .i64 i, .string s, .slice none 0 0, .slice none 0 0] := by
  rw [V.lies]
  exact ⟨none, 0, 0, 0, none, 0, 0, 0, rfl, hk, hi, by unfold maxLen; omega, head_nilS, head_nilS, by rw [liesL]; trivial, by rw [liesM]; trivial, fun h => by cases h⟩
theorem one7b {k : ByteArray} {a i : Int} {b : Bool} {s : ByteArray} : ∀ u ∈ [Value.string k, .int .i64 a, .bool b, .int .i64 i, .string s, .slice none 0 0, .slice none 0 0], u.oneCell' = true := fun u hu => by
  simp only [List.mem_cons, List.mem_nil_iff, or_false] at hu
  rcases hu with rfl | rfl | rfl | rfl | rfl | rfl | rfl <;> rfl
set_option maxHeartbeats 8000000 in
set_option maxRecDepth 100000 in
theorem members_any (l : List Lab) (S : Nat → Prop) (a : Option Addr) (c b o : Nat) (w : World) (hh : Headed a l.length c b o) (hl : liesB w S l b o) (hS : ∀ y, S y → y < w.heap.size) (hlm : l.length ≤ 2147483647) :
    Calls Tryz.prog 11 #[.slice a l.length c] w (MbPost l w) := by
  have HH := hmk hh
  have HL := hmk hl
  obtain ⟨i5, hi5, hz5⟩ := Option.map_eq_some_iff.1 info44
  simp only [Prod.mk.injEq] at hz5
  have hJ := hmk (And.intro hi5 hz5)
  clear hh hl hi5 hz5
  go_enter Tryz.func11, Tryz.ntmps11
  go_wp2_with fail
  go_loopw [3, 4] (fun e3 e4 wr => ∃ (j : Nat), j ≤ l.length ∧ e4 = .int .i64 (j : Int) ∧ Below w.heap.size w wr ∧ Hid (OwnM false wr w.heap.size (fun _ => False) e3 ((l.take j).map (some ∘ memV)))) (fun e3 e4 _ => l.length - (RowKit.intOf e4).toNat)
  case atStart => exact ⟨0, by omega, rfl, Below.refl _ _, (by show OwnM _ _ _ _ _ _; simpa using OwnR.nil _ _)⟩
  case round =>
    obtain ⟨j, hj, rfl, Bj, HO⟩ := hrel
    have hzr := Bj.size
    by_cases hjl : j < l.length
    · have y1 : (j : Int) < l.length := by omega
      obtain ⟨hSb, hrow, hok⟩ := HL.out j hjl
      obtain rfl : a = some ⟨b, o, none⟩ := HH.out.at_.resolve_left (by omega)
      obtain ⟨q, q0, q1⟩ := row3 (hrow.keep (Bj.block _ (hS _ hSb)))
      have hbl := hS _ hSb
      have HT : Hid ((l.map (some ∘ memV)).take (j + 1) = (l.map (some ∘ memV)).take j ++ [some (memV l[j])]) := by show _ = _; rw [List.take_succ_eq_append_getElem (by simpa using hjl), List.getElem_map]; rfl
      obtain ⟨⟨key, x, ot⟩, hx⟩ : ∃ x, l[j] = x := ⟨_, rfl⟩
      rw [hx] at q q0 q1 HT hok
      simp only at q q0 q1
      have hks : key.size ≤ 140737488355328 := hok.1
      have hxs : x.size ≤ 140737488355328 := hok.2.1
      have hot : In64 ot := hok.2.2
      have HOT := hmk hot
      have aB : Below wr.heap.size wr (wr.alloc (.cells #[.int .i64 3, .bool false, .int .i64 0, .string x, .slice none 0 0, .slice none 0 0] 51)) := (Below.refl _ _).alloc (Nat.le_refl _) _
      have p1 := (aB.cell (p := ⟨b, o + j * 3 + 2, none⟩) (by show b < _; omega)).trans q1
      have p0 := (aB.cell (p := ⟨b, o + j * 3, none⟩) (by show b < _; omega)).trans q
      have hX := heap_alloc_new wr (.cells #[.int .i64 3, .bool false, .int .i64 0, .string x, .slice none 0 0, .slice none 0 0] 51)
      clear hx hrow hok hot
      by_cases h0 : ot = 0
      · subst h0
        have HTV : Hid (memV (key, x, 0) = (key, .mk 3 false 0 x [] [])) := by show _ = _; rfl
        have HPL : Hid (∀ (W : World), V.lies false W (fun _ => False) (.mk 3 false 0 x [] []) [.int .i64 3, .bool false, .int .i64 0, .string x, .slice none 0 0, .slice none 0 0]) := fun W => plain_lies (by unfold In64; omega) (by unfold In64; omega) hxs W _
        go_wp2_with fail
        have aX : Below wr.heap.size wr (wr.alloc (.cells #[.int .i64 3, .bool false, .int .i64 0, .string x, .slice none 0 0, .slice none 0 0] 51)) := (Below.refl _ _).alloc (Nat.le_refl _) _
        have hX2 : (wr.alloc (.cells #[.int .i64 3, .bool false, .int .i64 0, .string x, .slice none 0 0, .slice none 0 0] 51)).heap[wr.heap.size]? = some (.cells #[.int .i64 3, .bool false, .int .i64 0, .string x, .slice none 0 0, .slice none 0 0] 51) := heap_alloc_new wr (.cells #[.int .i64 3, .bool false, .int .i64 0, .string x, .slice none 0 0, .slice none 0 0] 51)
        have qk := (aX.cell (p := ⟨b, o + j * 3, none⟩) (by show b < _; omega)).trans q
        have hzX : (wr.alloc (.cells #[.int .i64 3, .bool false, .int .i64 0, .string x, .slice none 0 0, .slice none 0 0] 51)).heap.size = wr.heap.size + 1 := alloc_size wr (.cells #[.int .i64 3, .bool false, .int .i64 0, .string x, .slice none 0 0, .slice none 0 0] 51)
        have HAX : Hid (OwnM false (wr.alloc (.cells #[.int .i64 3, .bool false, .int .i64 0, .string x, .slice none 0 0, .slice none 0 0] 51)) w.heap.size (fun _ => False) u3 ((l.take j).map (some ∘ memV))) := HO.out.alloc (keepM false) _
        have hob : ∀ r, u3.ownBlock = some r → w.heap.size ≤ r ∧ r < wr.heap.size := fun r hr => HO.out.lt hr
        have BX1 : Below w.heap.size w (wr.alloc (.cells #[.int .i64 3, .bool false, .int .i64 0, .string x, .slice none 0 0, .slice none 0 0] 51)) := Bj.alloc hzr _
        have hXn : wr.heap.size ≠ b := by omega
        have HZX := hmk hzX
        clear q q0 q1 p0 p1 hX aB aX HO hzX
        generalize (wr.alloc (.cells #[.int .i64 3, .bool false, .int .i64 0, .string x, .slice none 0 0, .slice none 0 0] 51)) = wa at *
        generalize wr.heap.size = X at *
        refine wp_region_held_drew (S := fun Y => Y.cell? ⟨b, o + j * 3, none⟩ = some (.string key) ∧ Y.heap[X]? = some (.cells #[.int .i64 3, .bool false, .int .i64 0, .string x, .slice none 0 0, .slice none 0 0] 51)) (by kernel_rfl) ⟨qk, hX2⟩ (fun hHeld => ?_)
        (refine wpAnyH_take (i := 0) (v := ?_) rfl (by kernel_rfl) (by kernel_rfl) (by kernel_rfl) (fun _ _ _ h => h) (Or.inl ⟨by kernel_rfl, ?_⟩) (by assumption) ?_; rotate_left 1; (intro W0 hSw; (obtain ⟨hA, hB⟩ := hSw; have v0 : W0.cell? ⟨X, 0, none⟩ = some (.int .i64 3) := (by rw [cell_of_block hB]; rfl); have v1 : W0.cell? ⟨X, 1, none⟩ = some (.bool false) := (by rw [cell_of_block hB]; rfl); have v2 : W0.cell? ⟨X, 2, none⟩ = some (.int .i64 0) := (by rw [cell_of_block hB]; rfl); have v3 : W0.cell? ⟨X, 3, none⟩ = some (.string x) := (by rw [cell_of_block hB]; rfl); have v4 : W0.cell? ⟨X, 4, none⟩ = some (.slice none 0 0) := (by rw [cell_of_block hB]; rfl); have v5 : W0.cell? ⟨X, 5, none⟩ = some (.slice none 0 0) := (by rw [cell_of_block hB]; rfl)); go_simp; (try with_reducible rfl)); (try simp only [Act.put, List.setIfInBounds_toArray, List.set_cons_zero, List.set_cons_succ]))
        (refine wpAnyH_take (i := 1) (v := ?_) rfl (by kernel_rfl) (by kernel_rfl) (by kernel_rfl) (fun _ _ _ h => h) (Or.inl ⟨by kernel_rfl, ?_⟩) (by assumption) ?_; rotate_left 1; (intro W0 hSw; (obtain ⟨hA, hB⟩ := hSw; have v0 : W0.cell? ⟨X, 0, none⟩ = some (.int .i64 3) := (by rw [cell_of_block hB]; rfl); have v1 : W0.cell? ⟨X, 1, none⟩ = some (.bool false) := (by rw [cell_of_block hB]; rfl); have v2 : W0.cell? ⟨X, 2, none⟩ = some (.int .i64 0) := (by rw [cell_of_block hB]; rfl); have v3 : W0.cell? ⟨X, 3, none⟩ = some (.string x) := (by rw [cell_of_block hB]; rfl); have v4 : W0.cell? ⟨X, 4, none⟩ = some (.slice none 0 0) := (by rw [cell_of_block hB]; rfl); have v5 : W0.cell? ⟨X, 5, none⟩ = some (.slice none 0 0) := (by rw [cell_of_block hB]; rfl)); go_simp; (try with_reducible rfl)); (try simp only [Act.put, List.setIfInBounds_toArray, List.set_cons_zero, List.set_cons_succ]))
        (refine wpAnyH_take (i := 2) (v := ?_) rfl (by kernel_rfl) (by kernel_rfl) (by kernel_rfl) (fun _ _ _ h => h) (Or.inl ⟨by kernel_rfl, ?_⟩) (by assumption) ?_; rotate_left 1; (intro W0 hSw; (obtain ⟨hA, hB⟩ := hSw; have v0 : W0.cell? ⟨X, 0, none⟩ = some (.int .i64 3) := (by rw [cell_of_block hB]; rfl); have v1 : W0.cell? ⟨X, 1, none⟩ = some (.bool false) := (by rw [cell_of_block hB]; rfl); have v2 : W0.cell? ⟨X, 2, none⟩ = some (.int .i64 0) := (by rw [cell_of_block hB]; rfl); have v3 : W0.cell? ⟨X, 3, none⟩ = some (.string x) := (by rw [cell_of_block hB]; rfl); have v4 : W0.cell? ⟨X, 4, none⟩ = some (.slice none 0 0) := (by rw [cell_of_block hB]; rfl); have v5 : W0.cell? ⟨X, 5, none⟩ = some (.slice none 0 0) := (by rw [cell_of_block hB]; rfl)); go_simp; (try with_reducible rfl)); (try simp only [Act.put, List.setIfInBounds_toArray, List.set_cons_zero, List.set_cons_succ]))
        (refine wpAnyH_take (i := 3) (v := ?_) rfl (by kernel_rfl) (by kernel_rfl) (by kernel_rfl) (fun _ _ _ h => h) (Or.inl ⟨by kernel_rfl, ?_⟩) (by assumption) ?_; rotate_left 1; (intro W0 hSw; (obtain ⟨hA, hB⟩ := hSw; have v0 : W0.cell? ⟨X, 0, none⟩ = some (.int .i64 3) := (by rw [cell_of_block hB]; rfl); have v1 : W0.cell? ⟨X, 1, none⟩ = some (.bool false) := (by rw [cell_of_block hB]; rfl); have v2 : W0.cell? ⟨X, 2, none⟩ = some (.int .i64 0) := (by rw [cell_of_block hB]; rfl); have v3 : W0.cell? ⟨X, 3, none⟩ = some (.string x) := (by rw [cell_of_block hB]; rfl); have v4 : W0.cell? ⟨X, 4, none⟩ = some (.slice none 0 0) := (by rw [cell_of_block hB]; rfl); have v5 : W0.cell? ⟨X, 5, none⟩ = some (.slice none 0 0) := (by rw [cell_of_block hB]; rfl)); go_simp; (try with_reducible rfl)); (try simp only [Act.put, List.setIfInBounds_toArray, List.set_cons_zero, List.set_cons_succ]))
        (refine wpAnyH_take (i := 4) (v := ?_) rfl (by kernel_rfl) (by kernel_rfl) (by kernel_rfl) (fun _ _ _ h => h) (Or.inl ⟨by kernel_rfl, ?_⟩) (by assumption) ?_; rotate_left 1; (intro W0 hSw; (obtain ⟨hA, hB⟩ := hSw; have v0 : W0.cell? ⟨X, 0, none⟩ = some (.int .i64 3) := (by rw [cell_of_block hB]; rfl); have v1 : W0.cell? ⟨X, 1, none⟩ = some (.bool false) := (by rw [cell_of_block hB]; rfl); have v2 : W0.cell? ⟨X, 2, none⟩ = some (.int .i64 0) := (by rw [cell_of_block hB]; rfl); have v3 : W0.cell? ⟨X, 3, none⟩ = some (.string x) := (by rw [cell_of_block hB]; rfl); have v4 : W0.cell? ⟨X, 4, none⟩ = some (.slice none 0 0) := (by rw [cell_of_block hB]; rfl); have v5 : W0.cell? ⟨X, 5, none⟩ = some (.slice none 0 0) := (by rw [cell_of_block hB]; rfl)); go_simp; (try with_reducible rfl)); (try simp only [Act.put, List.setIfInBounds_toArray, List.set_cons_zero, List.set_cons_succ]))
        (refine wpAnyH_take (i := 5) (v := ?_) rfl (by kernel_rfl) (by kernel_rfl) (by kernel_rfl) (fun _ _ _ h => h) (Or.inl ⟨by kernel_rfl, ?_⟩) (by assumption) ?_; rotate_left 1; (intro W0 hSw; (obtain ⟨hA, hB⟩ := hSw; have v0 : W0.cell? ⟨X, 0, none⟩ = some (.int .i64 3) := (by rw [cell_of_block hB]; rfl); have v1 : W0.cell? ⟨X, 1, none⟩ = some (.bool false) := (by rw [cell_of_block hB]; rfl); have v2 : W0.cell? ⟨X, 2, none⟩ = some (.int .i64 0) := (by rw [cell_of_block hB]; rfl); have v3 : W0.cell? ⟨X, 3, none⟩ = some (.string x) := (by rw [cell_of_block hB]; rfl); have v4 : W0.cell? ⟨X, 4, none⟩ = some (.slice none 0 0) := (by rw [cell_of_block hB]; rfl); have v5 : W0.cell? ⟨X, 5, none⟩ = some (.slice none 0 0) := (by rw [cell_of_block hB]; rfl)); go_simp; (try with_reducible rfl)); (try simp only [Act.put, List.setIfInBounds_toArray, List.set_cons_zero, List.set_cons_succ]))
        (refine wpAnyH_take (i := 6) (v := ?_) rfl (by kernel_rfl) (by kernel_rfl) (by kernel_rfl) (fun _ _ _ h => h) (Or.inl ⟨by kernel_rfl, ?_⟩) (by assumption) ?_; rotate_left 1; (intro W0 hSw; (obtain ⟨hA, hB⟩ := hSw; have v0 : W0.cell? ⟨X, 0, none⟩ = some (.int .i64 3) := (by rw [cell_of_block hB]; rfl); have v1 : W0.cell? ⟨X, 1, none⟩ = some (.bool false) := (by rw [cell_of_block hB]; rfl); have v2 : W0.cell? ⟨X, 2, none⟩ = some (.int .i64 0) := (by rw [cell_of_block hB]; rfl); have v3 : W0.cell? ⟨X, 3, none⟩ = some (.string x) := (by rw [cell_of_block hB]; rfl); have v4 : W0.cell? ⟨X, 4, none⟩ = some (.slice none 0 0) := (by rw [cell_of_block hB]; rfl); have v5 : W0.cell? ⟨X, 5, none⟩ = some (.slice none 0 0) := (by rw [cell_of_block hB]; rfl)); go_simp; (try with_reducible rfl)); (try simp only [Act.put, List.setIfInBounds_toArray, List.set_cons_zero, List.set_cons_succ]))
        (refine wpAnyH_take (i := 7) (v := ?_) rfl (by kernel_rfl) (by kernel_rfl) (by kernel_rfl) (fun _ _ _ h => h) (Or.inl ⟨by kernel_rfl, ?_⟩) (by assumption) ?_; rotate_left 1; (intro W0 hSw; (obtain ⟨hA, hB⟩ := hSw; have v0 : W0.cell? ⟨X, 0, none⟩ = some (.int .i64 3) := (by rw [cell_of_block hB]; rfl); have v1 : W0.cell? ⟨X, 1, none⟩ = some (.bool false) := (by rw [cell_of_block hB]; rfl); have v2 : W0.cell? ⟨X, 2, none⟩ = some (.int .i64 0) := (by rw [cell_of_block hB]; rfl); have v3 : W0.cell? ⟨X, 3, none⟩ = some (.string x) := (by rw [cell_of_block hB]; rfl); have v4 : W0.cell? ⟨X, 4, none⟩ = some (.slice none 0 0) := (by rw [cell_of_block hB]; rfl); have v5 : W0.cell? ⟨X, 5, none⟩ = some (.slice none 0 0) := (by rw [cell_of_block hB]; rfl)); go_simp; (try with_reducible rfl)); (try simp only [Act.put, List.setIfInBounds_toArray, List.set_cons_zero, List.set_cons_succ]))
        refine wpAnyH_ready (rs := [8]) (by kernel_rfl) (by simp) ?_
        refine AllReadyH.cons rfl (fun K hK => ?_) AllReadyH.nil
        go_simp
        have hzX := HZX.out
        have aA : Below wa.heap.size wa (wa.alloc (.cells #[.string key, .int .i64 3, .bool false, .int .i64 0, .string x, .slice none 0 0, .slice none 0 0] 53)).drew := ((Below.refl _ _).alloc (Nat.le_refl _) _).drew
        have hT : (wa.alloc (.cells #[.string key, .int .i64 3, .bool false, .int .i64 0, .string x, .slice none 0 0, .slice none 0 0] 53)).drew.heap[wa.heap.size]? = some (.cells #[.string key, .int .i64 3, .bool false, .int .i64 0, .string x, .slice none 0 0, .slice none 0 0] 53) := heap_alloc_new wa (.cells #[.string key, .int .i64 3, .bool false, .int .i64 0, .string x, .slice none 0 0, .slice none 0 0] 53)
        have hzA : (wa.alloc (.cells #[.string key, .int .i64 3, .bool false, .int .i64 0, .string x, .slice none 0 0, .slice none 0 0] 53)).drew.heap.size = wa.heap.size + 1 := alloc_size wa (.cells #[.string key, .int .i64 3, .bool false, .int .i64 0, .string x, .slice none 0 0, .slice none 0 0] 53)
        have HAL : Hid (OwnM false (wa.alloc (.cells #[.string key, .int .i64 3, .bool false, .int .i64 0, .string x, .slice none 0 0, .slice none 0 0] 53)).drew w.heap.size (fun _ => False) u3 ((l.take j).map (some ∘ memV))) := HAX.out.below (keepM false) aA
        have qa := (aA.cell (p := ⟨b, o + j * 3, none⟩) (by show b < _; omega)).trans qk
        have xa := (aA.block X (by omega)).trans hX2
        refine hK.out _ _ ⟨qa, xa⟩ (fun _ => ?_)
        clear hK K
        (try simp only [Act.put, List.setIfInBounds_toArray, List.set_cons_zero, List.set_cons_succ])
        refine wpAnyH_ready (rs := [9]) (by kernel_rfl) (by simp) ?_
        refine AllReadyH.cons rfl (fun K hK => ?_) AllReadyH.nil
        refine step_push (keepM false) rfl (.tmp 30) (.tmp 38) 29 rfl w.heap.size i5 _ 104 Tryz.underlying29 hJ.out.1 hJ.out.2.1 hJ.out.2.2.1 hJ.out.2.2.2 rfl (by decide) (by decide) (Sx := fun _ => False) u3 (some (memV (key, x, 0))) rfl HAL.out wa.heap.size 1 (0, 0) rfl hT rfl one7b (by rw [HTV.out]; exact ⟨_, rfl, (by show key.size ≤ maxLen; unfold maxLen; omega), HPL.out _⟩) (fun b hb => hb.elim) (by simp; omega) (by omega) ?_
        intro g cap w5 o5 g5 e5
        have kb := g5.block b (by omega) (fun e => by have := (hob b e.symm).1; omega)
        have kx := g5.block X (by omega) (fun e => by have := (hob X e.symm).2; omega)
        have B5 : Below w.heap.size w w5 := (BX1.trans (aA.mono (by omega))).grown g5 (by omega) (fun r hr => (hob r hr).1)
        refine hK.out _ _ ⟨(World.cell?_of_block (w := (wa.alloc (.cells #[.string key, .int .i64 3, .bool false, .int .i64 0, .string x, .slice none 0 0, .slice none 0 0] 53)).drew) (a := ⟨b, o + j * 3, none⟩) kb).trans qa, kx.trans xa⟩ (fun _ => ?_)
        clear hK K
        (try simp only [Act.put, List.setIfInBounds_toArray, List.set_cons_zero, List.set_cons_succ])
        (refine wpAnyH_take (i := 10) (v := ?_) rfl (by kernel_rfl) (by kernel_rfl) (by kernel_rfl) (fun _ _ _ h => h) (Or.inl ⟨by kernel_rfl, ?_⟩) (by assumption) ?_; rotate_left 1; (intro W0 hSw; skip; go_simp; (try with_reducible rfl)); (try simp only [Act.put, List.setIfInBounds_toArray, List.set_cons_zero, List.set_cons_succ]))
        refine wpAnyH_done (by kernel_rfl) ?_ _
        (try dsimp only [Act.put, List.getElem_toArray, List.getElem_cons_succ, List.getElem_cons_zero, List.setIfInBounds_toArray, List.set_cons_zero, List.set_cons_succ])
        have HO5 : Hid (OwnM false w5 w.heap.size (fun _ => False) (.slice (some ⟨g, 0, none⟩) (j + 1) cap) ((l.take (j + 1)).map (some ∘ memV))) := by
          show OwnM _ _ _ _ _ _
          rw [List.map_take, HT.out, ← List.map_take]
          have hlj : ((l.take j).map (some ∘ memV)).length = j := by simp; omega
          have := o5
          rw [hlj] at this
          simpa using this
        clear hHeld aA hT HAL qa qk g5 o5 kb kx xa hX2 HAX
        go_wp2_with fail
        go_roundw
        case rel => exact ⟨j + 1, by omega, by go_num, B5, HO5⟩
        case measure => simp [RowKit.intOf]; omega
      · have h0' : (ot == 0) = false := by rw [beq_eq_false_iff_ne]; exact h0
        have HTV : Hid (memV (key, x, ot) = (key, .mk 2 false ot ⟨#[]⟩ [] [])) := by show _ = _; unfold memV; simp only; rw [if_neg h0]
        have HPL : Hid (∀ (W : World), V.lies false W (fun _ => False) (.mk 2 false ot ⟨#[]⟩ [] []) [.int .i64 2, .bool false, .int .i64 ot, .string ⟨#[]⟩, .slice none 0 0, .slice none 0 0]) := fun W => plain_lies (by unfold In64; omega) HOT.out (by decide) W _
        clear h0
        go_wp2_with fail
        have aX : Below wr.heap.size wr (wr.alloc (.cells #[.int .i64 2, .bool false, .int .i64 ot, .string ⟨#[]⟩, .slice none 0 0, .slice none 0 0] 51)) := (Below.refl _ _).alloc (Nat.le_refl _) _
        have hX2 : (wr.alloc (.cells #[.int .i64 2, .bool false, .int .i64 ot, .string ⟨#[]⟩, .slice none 0 0, .slice none 0 0] 51)).heap[wr.heap.size]? = some (.cells #[.int .i64 2, .bool false, .int .i64 ot, .string ⟨#[]⟩, .slice none 0 0, .slice none 0 0] 51) := heap_alloc_new wr (.cells #[.int .i64 2, .bool false, .int .i64 ot, .string ⟨#[]⟩, .slice none 0 0, .slice none 0 0] 51)
        have qk := (aX.cell (p := ⟨b, o + j * 3, none⟩) (by show b < _; omega)).trans q
        have hzX : (wr.alloc (.cells #[.int .i64 2, .bool false, .int .i64 ot, .string ⟨#[]⟩, .slice none 0 0, .slice none 0 0] 51)).heap.size = wr.heap.size + 1 := alloc_size wr (.cells #[.int .i64 2, .bool false, .int .i64 ot, .string ⟨#[]⟩, .slice none 0 0, .slice none 0 0] 51)
        have HAX : Hid (OwnM false (wr.alloc (.cells #[.int .i64 2, .bool false, .int .i64 ot, .string ⟨#[]⟩, .slice none 0 0, .slice none 0 0] 51)) w.heap.size (fun _ => False) u3 ((l.take j).map (some ∘ memV))) := HO.out.alloc (keepM false) _
        have hob : ∀ r, u3.ownBlock = some r → w.heap.size ≤ r ∧ r < wr.heap.size := fun r hr => HO.out.lt hr
        have BX1 : Below w.heap.size w (wr.alloc (.cells #[.int .i64 2, .bool false, .int .i64 ot, .string ⟨#[]⟩, .slice none 0 0, .slice none 0 0] 51)) := Bj.alloc hzr _
        have hXn : wr.heap.size ≠ b := by omega
        have HZX := hmk hzX
        clear q q0 q1 p0 p1 hX aB aX HO hzX
        generalize (wr.alloc (.cells #[.int .i64 2, .bool false, .int .i64 ot, .string ⟨#[]⟩, .slice none 0 0, .slice none 0 0] 51)) = wa at *
        generalize wr.heap.size = X at *
        refine wp_region_held_drew (S := fun Y => Y.cell? ⟨b, o + j * 3, none⟩ = some (.string key) ∧ Y.heap[X]? = some (.cells #[.int .i64 2, .bool false, .int .i64 ot, .string ⟨#[]⟩, .slice none 0 0, .slice none 0 0] 51)) (by kernel_rfl) ⟨qk, hX2⟩ (fun hHeld => ?_)
        (refine wpAnyH_take (i := 0) (v := ?_) rfl (by kernel_rfl) (by kernel_rfl) (by kernel_rfl) (fun _ _ _ h => h) (Or.inl ⟨by kernel_rfl, ?_⟩) (by assumption) ?_; rotate_left 1; (intro W0 hSw; (obtain ⟨hA, hB⟩ := hSw; have v0 : W0.cell? ⟨X, 0, none⟩ = some (.int .i64 2) := (by rw [cell_of_block hB]; rfl); have v1 : W0.cell? ⟨X, 1, none⟩ = some (.bool false) := (by rw [cell_of_block hB]; rfl); have v2 : W0.cell? ⟨X, 2, none⟩ = some (.int .i64 ot) := (by rw [cell_of_block hB]; rfl); have v3 : W0.cell? ⟨X, 3, none⟩ = some (.string ⟨#[]⟩) := (by rw [cell_of_block hB]; rfl); have v4 : W0.cell? ⟨X, 4, none⟩ = some (.slice none 0 0) := (by rw [cell_of_block hB]; rfl); have v5 : W0.cell? ⟨X, 5, none⟩ = some (.slice none 0 0) := (by rw [cell_of_block hB]; rfl)); go_simp; (try with_reducible rfl)); (try simp only [Act.put, List.setIfInBounds_toArray, List.set_cons_zero, List.set_cons_succ]))
        (refine wpAnyH_take (i := 1) (v := ?_) rfl (by kernel_rfl) (by kernel_rfl) (by kernel_rfl) (fun _ _ _ h => h) (Or.inl ⟨by kernel_rfl, ?_⟩) (by assumption) ?_; rotate_left 1; (intro W0 hSw; (obtain ⟨hA, hB⟩ := hSw; have v0 : W0.cell? ⟨X, 0, none⟩ = some (.int .i64 2) := (by rw [cell_of_block hB]; rfl); have v1 : W0.cell? ⟨X, 1, none⟩ = some (.bool false) := (by rw [cell_of_block hB]; rfl); have v2 : W0.cell? ⟨X, 2, none⟩ = some (.int .i64 ot) := (by rw [cell_of_block hB]; rfl); have v3 : W0.cell? ⟨X, 3, none⟩ = some (.string ⟨#[]⟩) := (by rw [cell_of_block hB]; rfl); have v4 : W0.cell? ⟨X, 4, none⟩ = some (.slice none 0 0) := (by rw [cell_of_block hB]; rfl); have v5 : W0.cell? ⟨X, 5, none⟩ = some (.slice none 0 0) := (by rw [cell_of_block hB]; rfl)); go_simp; (try with_reducible rfl)); (try simp only [Act.put, List.setIfInBounds_toArray, List.set_cons_zero, List.set_cons_succ]))
        (refine wpAnyH_take (i := 2) (v := ?_) rfl (by kernel_rfl) (by kernel_rfl) (by kernel_rfl) (fun _ _ _ h => h) (Or.inl ⟨by kernel_rfl, ?_⟩) (by assumption) ?_; rotate_left 1; (intro W0 hSw; (obtain ⟨hA, hB⟩ := hSw; have v0 : W0.cell? ⟨X, 0, none⟩ = some (.int .i64 2) := (by rw [cell_of_block hB]; rfl); have v1 : W0.cell? ⟨X, 1, none⟩ = some (.bool false) := (by rw [cell_of_block hB]; rfl); have v2 : W0.cell? ⟨X, 2, none⟩ = some (.int .i64 ot) := (by rw [cell_of_block hB]; rfl); have v3 : W0.cell? ⟨X, 3, none⟩ = some (.string ⟨#[]⟩) := (by rw [cell_of_block hB]; rfl); have v4 : W0.cell? ⟨X, 4, none⟩ = some (.slice none 0 0) := (by rw [cell_of_block hB]; rfl); have v5 : W0.cell? ⟨X, 5, none⟩ = some (.slice none 0 0) := (by rw [cell_of_block hB]; rfl)); go_simp; (try with_reducible rfl)); (try simp only [Act.put, List.setIfInBounds_toArray, List.set_cons_zero, List.set_cons_succ]))
        (refine wpAnyH_take (i := 3) (v := ?_) rfl (by kernel_rfl) (by kernel_rfl) (by kernel_rfl) (fun _ _ _ h => h) (Or.inl ⟨by kernel_rfl, ?_⟩) (by assumption) ?_; rotate_left 1; (intro W0 hSw; (obtain ⟨hA, hB⟩ := hSw; have v0 : W0.cell? ⟨X, 0, none⟩ = some (.int .i64 2) := (by rw [cell_of_block hB]; rfl); have v1 : W0.cell? ⟨X, 1, none⟩ = some (.bool false) := (by rw [cell_of_block hB]; rfl); have v2 : W0.cell? ⟨X, 2, none⟩ = some (.int .i64 ot) := (by rw [cell_of_block hB]; rfl); have v3 : W0.cell? ⟨X, 3, none⟩ = some (.string ⟨#[]⟩) := (by rw [cell_of_block hB]; rfl); have v4 : W0.cell? ⟨X, 4, none⟩ = some (.slice none 0 0) := (by rw [cell_of_block hB]; rfl); have v5 : W0.cell? ⟨X, 5, none⟩ = some (.slice none 0 0) := (by rw [cell_of_block hB]; rfl)); go_simp; (try with_reducible rfl)); (try simp only [Act.put, List.setIfInBounds_toArray, List.set_cons_zero, List.set_cons_succ]))
        (refine wpAnyH_take (i := 4) (v := ?_) rfl (by kernel_rfl) (by kernel_rfl) (by kernel_rfl) (fun _ _ _ h => h) (Or.inl ⟨by kernel_rfl, ?_⟩) (by assumption) ?_; rotate_left 1; (intro W0 hSw; (obtain ⟨hA, hB⟩ := hSw; have v0 : W0.cell? ⟨X, 0, none⟩ = some (.int .i64 2) := (by rw [cell_of_block hB]; rfl); have v1 : W0.cell? ⟨X, 1, none⟩ = some (.bool false) := (by rw [cell_of_block hB]; rfl); have v2 : W0.cell? ⟨X, 2, none⟩ = some (.int .i64 ot) := (by rw [cell_of_block hB]; rfl); have v3 : W0.cell? ⟨X, 3, none⟩ = some (.string ⟨#[]⟩) := (by rw [cell_of_block hB]; rfl); have v4 : W0.cell? ⟨X, 4, none⟩ = some (.slice none 0 0) := (by rw [cell_of_block hB]; rfl); have v5 : W0.cell? ⟨X, 5, none⟩ = some (.slice none 0 0) := (by rw [cell_of_block hB]; rfl)); go_simp; (try with_reducible rfl)); (try simp only [Act.put, List.setIfInBounds_toArray, List.set_cons_zero, List.set_cons_succ]))
        (refine wpAnyH_take (i := 5) (v := ?_) rfl (by kernel_rfl) (by kernel_rfl) (by kernel_rfl) (fun _ _ _ h => h) (Or.inl ⟨by kernel_rfl, ?_⟩) (by assumption) ?_; rotate_left 1; (intro W0 hSw; (obtain ⟨hA, hB⟩ := hSw; have v0 : W0.cell? ⟨X, 0, none⟩ = some (.int .i64 2) := (by rw [cell_of_block hB]; rfl); have v1 : W0.cell? ⟨X, 1, none⟩ = some (.bool false) := (by rw [cell_of_block hB]; rfl); have v2 : W0.cell? ⟨X, 2, none⟩ = some (.int .i64 ot) := (by rw [cell_of_block hB]; rfl); have v3 : W0.cell? ⟨X, 3, none⟩ = some (.string ⟨#[]⟩) := (by rw [cell_of_block hB]; rfl); have v4 : W0.cell? ⟨X, 4, none⟩ = some (.slice none 0 0) := (by rw [cell_of_block hB]; rfl); have v5 : W0.cell? ⟨X, 5, none⟩ = some (.slice none 0 0) := (by rw [cell_of_block hB]; rfl)); go_simp; (try with_reducible rfl)); (try simp only [Act.put, List.setIfInBounds_toArray, List.set_cons_zero, List.set_cons_succ]))
        (refine wpAnyH_take (i := 6) (v := ?_) rfl (by kernel_rfl) (by kernel_rfl) (by kernel_rfl) (fun _ _ _ h => h) (Or.inl ⟨by kernel_rfl, ?_⟩) (by assumption) ?_; rotate_left 1; (intro W0 hSw; (obtain ⟨hA, hB⟩ := hSw; have v0 : W0.cell? ⟨X, 0, none⟩ = some (.int .i64 2) := (by rw [cell_of_block hB]; rfl); have v1 : W0.cell? ⟨X, 1, none⟩ = some (.bool false) := (by rw [cell_of_block hB]; rfl); have v2 : W0.cell? ⟨X, 2, none⟩ = some (.int .i64 ot) := (by rw [cell_of_block hB]; rfl); have v3 : W0.cell? ⟨X, 3, none⟩ = some (.string ⟨#[]⟩) := (by rw [cell_of_block hB]; rfl); have v4 : W0.cell? ⟨X, 4, none⟩ = some (.slice none 0 0) := (by rw [cell_of_block hB]; rfl); have v5 : W0.cell? ⟨X, 5, none⟩ = some (.slice none 0 0) := (by rw [cell_of_block hB]; rfl)); go_simp; (try with_reducible rfl)); (try simp only [Act.put, List.setIfInBounds_toArray, List.set_cons_zero, List.set_cons_succ]))
        (refine wpAnyH_take (i := 7) (v := ?_) rfl (by kernel_rfl) (by kernel_rfl) (by kernel_rfl) (fun _ _ _ h => h) (Or.inl ⟨by kernel_rfl, ?_⟩) (by assumption) ?_; rotate_left 1; (intro W0 hSw; (obtain ⟨hA, hB⟩ := hSw; have v0 : W0.cell? ⟨X, 0, none⟩ = some (.int .i64 2) := (by rw [cell_of_block hB]; rfl); have v1 : W0.cell? ⟨X, 1, none⟩ = some (.bool false) := (by rw [cell_of_block hB]; rfl); have v2 : W0.cell? ⟨X, 2, none⟩ = some (.int .i64 ot) := (by rw [cell_of_block hB]; rfl); have v3 : W0.cell? ⟨X, 3, none⟩ = some (.string ⟨#[]⟩) := (by rw [cell_of_block hB]; rfl); have v4 : W0.cell? ⟨X, 4, none⟩ = some (.slice none 0 0) := (by rw [cell_of_block hB]; rfl); have v5 : W0.cell? ⟨X, 5, none⟩ = some (.slice none 0 0) := (by rw [cell_of_block hB]; rfl)); go_simp; (try with_reducible rfl)); (try simp only [Act.put, List.setIfInBounds_toArray, List.set_cons_zero, List.set_cons_succ]))
        refine wpAnyH_ready (rs := [8]) (by kernel_rfl) (by simp) ?_
        refine AllReadyH.cons rfl (fun K hK => ?_) AllReadyH.nil
        go_simp
        have hzX := HZX.out
        have aA : Below wa.heap.size wa (wa.alloc (.cells #[.string key, .int .i64 2, .bool false, .int .i64 ot, .string ⟨#[]⟩, .slice none 0 0, .slice none 0 0] 53)).drew := ((Below.refl _ _).alloc (Nat.le_refl _) _).drew
        have hT : (wa.alloc (.cells #[.string key, .int .i64 2, .bool false, .int .i64 ot, .string ⟨#[]⟩, .slice none 0 0, .slice none 0 0] 53)).drew.heap[wa.heap.size]? = some (.cells #[.string key, .int .i64 2, .bool false, .int .i64 ot, .string ⟨#[]⟩, .slice none 0 0, .slice none 0 0] 53) := heap_alloc_new wa (.cells #[.string key, .int .i64 2, .bool false, .int .i64 ot, .string ⟨#[]⟩, .slice none 0 0, .slice none 0 0] 53)
        have hzA : (wa.alloc (.cells #[.string key, .int .i64 2, .bool false, .int .i64 ot, .string ⟨#[]⟩, .slice none 0 0, .slice none 0 0] 53)).drew.heap.size = wa.heap.size + 1 := alloc_size wa (.cells #[.string key, .int .i64 2, .bool false, .int .i64 ot, .string ⟨#[]⟩, .slice none 0 0, .slice none 0 0] 53)
        have HAL : Hid (OwnM false (wa.alloc (.cells #[.string key, .int .i64 2, .bool false, .int .i64 ot, .string ⟨#[]⟩, .slice none 0 0, .slice none 0 0] 53)).drew w.heap.size (fun _ => False) u3 ((l.take j).map (some ∘ memV))) := HAX.out.below (keepM false) aA
        have qa := (aA.cell (p := ⟨b, o + j * 3, none⟩) (by show b < _; omega)).trans qk
        have xa := (aA.block X (by omega)).trans hX2
        refine hK.out _ _ ⟨qa, xa⟩ (fun _ => ?_)
        clear hK K
        (try simp only [Act.put, List.setIfInBounds_toArray, List.set_cons_zero, List.set_cons_succ])
        refine wpAnyH_ready (rs := [9]) (by kernel_rfl) (by simp) ?_
        refine AllReadyH.cons rfl (fun K hK => ?_) AllReadyH.nil
        refine step_push (keepM false) rfl (.tmp 30) (.tmp 38) 29 rfl w.heap.size i5 _ 104 Tryz.underlying29 hJ.out.1 hJ.out.2.1 hJ.out.2.2.1 hJ.out.2.2.2 rfl (by decide) (by decide) (Sx := fun _ => False) u3 (some (memV (key, x, ot))) rfl HAL.out wa.heap.size 1 (0, 0) rfl hT rfl one7b (by rw [HTV.out]; exact ⟨_, rfl, (by show key.size ≤ maxLen; unfold maxLen; omega), HPL.out _⟩) (fun b hb => hb.elim) (by simp; omega) (by omega) ?_
        intro g cap w5 o5 g5 e5
        have kb := g5.block b (by omega) (fun e => by have := (hob b e.symm).1; omega)
        have kx := g5.block X (by omega) (fun e => by have := (hob X e.symm).2; omega)
        have B5 : Below w.heap.size w w5 := (BX1.trans (aA.mono (by omega))).grown g5 (by omega) (fun r hr => (hob r hr).1)
        refine hK.out _ _ ⟨(World.cell?_of_block (w := (wa.alloc (.cells #[.string key, .int .i64 2, .bool false, .int .i64 ot, .string ⟨#[]⟩, .slice none 0 0, .slice none 0 0] 53)).drew) (a := ⟨b, o + j * 3, none⟩) kb).trans qa, kx.trans xa⟩ (fun _ => ?_)
        clear hK K
        (try simp only [Act.put, List.setIfInBounds_toArray, List.set_cons_zero, List.set_cons_succ])
        (refine wpAnyH_take (i := 10) (v := ?_) rfl (by kernel_rfl) (by kernel_rfl) (by kernel_rfl) (fun _ _ _ h => h) (Or.inl ⟨by kernel_rfl, ?_⟩) (by assumption) ?_; rotate_left 1; (intro W0 hSw; skip; go_simp; (try with_reducible rfl)); (try simp only [Act.put, List.setIfInBounds_toArray, List.set_cons_zero, List.set_cons_succ]))
        refine wpAnyH_done (by kernel_rfl) ?_ _
        (try dsimp only [Act.put, List.getElem_toArray, List.getElem_cons_succ, List.getElem_cons_zero, List.setIfInBounds_toArray, List.set_cons_zero, List.set_cons_succ])
        have HO5 : Hid (OwnM false w5 w.heap.size (fun _ => False) (.slice (some ⟨g, 0, none⟩) (j + 1) cap) ((l.take (j + 1)).map (some ∘ memV))) := by
          show OwnM _ _ _ _ _ _
          rw [List.map_take, HT.out, ← List.map_take]
          have hlj : ((l.take j).map (some ∘ memV)).length = j := by simp; omega
          have := o5
          rw [hlj] at this
          simpa using this
        clear hHeld aA hT HAL qa qk g5 o5 kb kx xa hX2 HAX
        go_wp2_with fail
        go_roundw
        case rel => exact ⟨j + 1, by omega, by go_num, B5, HO5⟩
        case measure => simp [RowKit.intOf]; omega
    · obtain rfl : j = l.length := by omega
      have y1 : ¬ (l.length : Int) < l.length := by omega
      rw [List.take_length] at HO
      go_wp2_with fail
      (try simp only [Exit.inBlock, Exit.then])
      go_ret
      exact ⟨_, rfl, by rw [List.map_map]; exact HO.out, Bj⟩
end Go.Proofs.YtolekldjbbjmjaaGreatDoor
