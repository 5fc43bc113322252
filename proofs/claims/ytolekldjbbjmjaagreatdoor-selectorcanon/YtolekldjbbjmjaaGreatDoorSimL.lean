import Derived.Test.YtolekldjbbjmjaaGreatDoorSimK
/- settled (layer 20). -/
set_option linter.unusedSimpArgs false
set_option linter.unusedVariables false
namespace Go.Proofs.YtolekldjbbjmjaaGreatDoor
open Go.RowKit Go.Lib
def noneB (l : List ByteArray) : List ByteArray := compB (sortB l)
theorem noneB_len (l : List ByteArray) : (noneB l).length ≤ l.length := by
  have h := comp_le ((sortB l).map bs).toArray (sortB l).length
  unfold noneB compB
  rw [List.length_map]
  rw [sortB_len] at h ⊢
  exact h
theorem noneB_small {l : List ByteArray} (h : SmallS l) : SmallS (noneB l) := fun s hs => h s ((comp_sort_mem l s).1 hs)
def StPost (p1 p2 p3 : Bool) (sl nl : List ByteArray) (nv : Value) (w : World) (e : Ending) (w' : World) : Prop := ∃ sv' a c b o, e = .returned (.agg #[.bool p1, .bool p2, .bool p3, sv', .slice a (noneB nl).length c]) ∧ Headed a (noneB nl).length c b o ∧ liesS w' (fun y => nv.ownBlock = some y) (noneB nl) b o ∧ OwnSt w' w.heap.size (fun _ => False) sv' (sl.filter (fun x => !(amongB (noneB nl) x))) ∧ w.grownBy w' nv.ownBlock
set_option maxHeartbeats 8000000 in
set_option maxRecDepth 100000 in
theorem settled_any (p1 p2 p3 : Bool) (sl nl : List ByteArray) (sv nv : Value) (base : Nat) (w : World) (hs : OwnSt w base (fun _ => False) sv sl) (hn : OwnSt w base (fun _ => False) nv nl) (hss : SmallS sl) (hns : SmallS nl) (hsl : sl.length ≤ 2147483647) (hnl : nl.length ≤ 2147483647) (hsep : ∀ r, nv.ownBlock = some r → sv.ownBlock ≠ some r) :
    Calls Tryz.prog 31 #[.agg #[.bool p1, .bool p2, .bool p3, sv, nv]] w (StPost p1 p2 p3 sl nl nv w) := by
  have hslt : ∀ r, sv.ownBlock = some r → r < w.heap.size := fun r hr => (hs.lt hr).2
  have hnlt : ∀ r, nv.ownBlock = some r → r < w.heap.size := fun r hr => (hn.lt hr).2
  obtain ⟨sa, sc, sb, so, rfl, hsh, hsr⟩ := own_read1 hs hss
  obtain ⟨na, nc, rfl⟩ := own_slice hn
  obtain ⟨w1, hw1⟩ : ∃ w1, w.alloc (.cells #[.bool p1, .bool p2, .bool p3, .slice sa sl.length sc, .slice na nl.length nc] 70) = w1 := ⟨_, rfl⟩
  obtain ⟨w2, hw2⟩ : ∃ w2, w1.alloc (.cells #[.bool false, .bool false, .bool false, .slice none 0 0, .slice none 0 0] 70) = w2 := ⟨_, rfl⟩
  have hz1 : w1.heap.size = w.heap.size + 1 := by rw [← hw1]; simp
  have hz2 : w2.heap.size = w.heap.size + 2 := by rw [← hw2]; simp [hz1]
  have B1 : Below w.heap.size w w1 := by rw [← hw1]; exact (Below.refl _ _).alloc (Nat.le_refl _) _
  have B2 : Below w.heap.size w w2 := by rw [← hw2]; exact B1.alloc (by omega) _
  have hX0 : w2.heap[w.heap.size]? = some (.cells #[.bool p1, .bool p2, .bool p3, .slice sa sl.length sc, .slice na nl.length nc] 70) := by
    have h1 : Below w1.heap.size w1 w2 := by rw [← hw2]; exact (Below.refl _ _).alloc (Nat.le_refl _) _
    rw [h1.block _ (by omega), ← hw1]; exact heap_alloc_new _ _
  have hX1 : w2.heap[w.heap.size + 1]? = some (.cells #[.bool false, .bool false, .bool false, .slice none 0 0, .slice none 0 0] 70) := by
    rw [← hw2, ← hz1]; exact heap_alloc_new _ _
  have hneN : ∀ N, w.heap.size ≤ N → some N ≠ (Value.slice na nl.length nc).ownBlock := fun N hN e => by have := hnlt N e.symm; omega
  have hneS : ∀ N, w.heap.size ≤ N → (Value.slice sa sl.length sc).ownBlock ≠ some N := fun N hN e => by have := hslt N e; omega
  have HD : Hid (∀ W : World, ∀ (v : Value), W.heap[w.heap.size]? = some (.cells #[.bool p1, .bool p2, .bool p3, .slice sa sl.length sc, v] 70) → W.cell? ⟨w.heap.size, 0, none⟩ = some (.bool p1) ∧ W.cell? ⟨w.heap.size, 1, none⟩ = some (.bool p2) ∧ W.cell? ⟨w.heap.size, 2, none⟩ = some (.bool p3) ∧ W.cell? ⟨w.heap.size, 3, none⟩ = some (.slice sa sl.length sc) ∧ W.cell? ⟨w.heap.size, 4, none⟩ = some v) := fun W v h => by
    refine ⟨?_, ?_, ?_, ?_, ?_⟩ <;> (rw [cell_of_block h]; rfl)
  have C1 := hmk (sort_any (.slice na nl.length nc) base nl w2 (hn.below keepS B2) hnl)
  have HSR : Hid (∀ W, w.grownBy W (Value.slice na nl.length nc).ownBlock → liesS W (fun y => (Value.slice sa sl.length sc).ownBlock = some y) sl sb so) := fun W hW => hsr.keep (fun y hy => hW.block y (hslt y hy) (fun e => hsep y e.symm hy)) (fun _ h => h)
  have HSH := hmk hsh
  have HSS := hmk hslt
  have HNS := hmk (noneB_small hns)
  have HNE := hmk hneN
  have HNES := hmk hneS
  have hnb := noneB_len nl
  have HX := hmk (And.intro hX0 hX1)
  have HB2 := hmk B2
  have HZ2 := hmk hz2
  have HRI : Hid (Ris (noneB nl)) := comp_sort_ris nl
  obtain ⟨c0, c1, c2, c3, c4⟩ := HD.out w2 _ hX0
  clear hs hn hss hns hsep hslt hnlt hsh hsr B1 B2 hX0 hX1 hneN hneS
  go_enter Tryz.func31, Tryz.ntmps31
  go_wp2_with fail
  simp only [hw1, hw2, hz1] at *
  go_wp2_with fail
  refine C1.out.mono ?_
  rintro e w3 ⟨rfl, o3, g3⟩
  have HZ3 : Hid (w2.heap.size ≤ w3.heap.size) := g3.size
  have hq3 := (g3.block _ (by have := HZ2.out; omega) (HNE.out _ (Nat.le_refl _))).trans HX.out.1
  have hr3 := (g3.block _ (by have := HZ2.out; omega) (HNE.out (w.heap.size + 1) (by omega))).trans HX.out.2
  have HG3 := hmk (grown_trans (grown_below (row := (Value.slice na nl.length nc).ownBlock) HB2.out) g3)
  have hcs : SmallS (compB (sortB nl)) := HNS.out
  have C2 := hmk (compact_any (.slice na nl.length nc) base (sortB nl) w3 o3 hcs (by rw [sortB_len]; exact hnl))
  have HQ3 := hmk (And.intro hq3 hr3)
  clear g3 o3 hcs c0 c1 c2 c3 c4 C1
  obtain ⟨c0, c1, c2, c3, c4⟩ := HD.out w3 _ hq3
  clear hq3 hr3
  rw [show compB (sortB nl) = noneB nl from rfl] at C2
  go_wp2_with fail
  refine C2.out.mono ?_
  rintro e w4 ⟨va, vc, vb, vo, rfl, hd4, hl4, g4⟩
  have hq4 := (g4.block _ (by have := HZ2.out; have := HZ3.out; omega) (HNE.out _ (Nat.le_refl _))).trans HQ3.out.1
  have hr4 := (g4.block _ (by have := HZ2.out; have := HZ3.out; omega) (HNE.out (w.heap.size + 1) (by omega))).trans HQ3.out.2
  have HG4 := hmk (grown_trans HG3.out g4)
  have HZ4 : Hid (w3.heap.size ≤ w4.heap.size) := g4.size
  have hf4 : ∀ i, w4.frozen? ⟨w.heap.size, i, none⟩ = false := frozen_of_block hq4
  clear c0 c1 c2 c3 c4 C2 g4
  obtain ⟨c0, c1, c2, c3, c4⟩ := HD.out w4 _ hq4
  obtain ⟨w5, hw5⟩ : ∃ w5, w4.setCell ⟨w.heap.size, 4, none⟩ (.slice va (noneB nl).length vc) = w5 := ⟨_, rfl⟩
  have hs5 : w5.heap.size = w4.heap.size := by rw [← hw5]; simp [World.setCell]
  have hq5 : w5.heap[w.heap.size]? = some (.cells #[.bool p1, .bool p2, .bool p3, .slice sa sl.length sc, .slice va (noneB nl).length vc] 70) := by rw [← hw5]; exact set_block hq4 4 _
  have hr5 : w5.heap[w.heap.size + 1]? = some (.cells #[.bool false, .bool false, .bool false, .slice none 0 0, .slice none 0 0] 70) := by rw [← hw5, set_other7 (by omega)]; exact hr4
  have HG5 : Hid (w.grownBy w5 (Value.slice na nl.length nc).ownBlock) := by show World.grownBy _ _ _; rw [← hw5]; exact grown_setN HG4.out (Nat.le_refl _)
  have hl5 : liesS w5 (fun y => (Value.slice na nl.length nc).ownBlock = some y) (noneB nl) vb vo := hl4.keep (fun y hy => by rw [← hw5]; exact set_other7 (fun e => HNE.out y (by omega) hy.symm)) (fun _ h => h)
  have hlt5 : ∀ y, (Value.slice na nl.length nc).ownBlock = some y → y < w5.heap.size := fun y hy => by
    have h1 : ¬ w.heap.size ≤ y := fun h => HNE.out y h hy.symm
    have := HZ2.out; have := HZ3.out; have := HZ4.out; omega
  have CP := hmk (picked60_any sl (fun x => !(amongB (noneB nl) x)) w.heap.size (fun y => (Value.slice sa sl.length sc).ownBlock = some y) sa sc sb so w5 HSH.out (HSR.out w5 HG5.out) (fun y hy => by have := HSS.out y hy; have := HZ2.out; have := HZ3.out; have := HZ4.out; omega) hsl (fun W hW s =>
    clo60_any (noneB nl) s w.heap.size (fun y => (Value.slice na nl.length nc).ownBlock = some y) p1 p2 p3 (.slice sa sl.length sc) va vc vb vo W ((hW.block _ (by have := HZ2.out; have := HZ3.out; have := HZ4.out; omega)).trans hq5) hd4 (hl5.keep (fun y hy => hW.block y (hlt5 y hy)) (fun _ h => h)) (by omega) HRI.out))
  have HL5 := hmk (And.intro hl5 hlt5)
  have HQ5 := hmk (And.intro hq5 hr5)
  have HS5 := hmk hs5
  have HD4 := hmk hd4
  clear hl4 hd4 hq4 hr4 hl5 hlt5 hs5
  obtain ⟨d0, d1, d2, d3, d4⟩ := HD.out w5 _ hq5
  clear hq5 hr5
  go_wp2_with fail
  refine CP.out.mono ?_
  rintro e w6 ⟨v, rfl, o6, b6⟩
  obtain ⟨ta, tc, rfl⟩ := own_slice o6
  have hZ5 : w.heap.size + 2 ≤ w5.heap.size := by have := HZ2.out; have := HZ3.out; have := HZ4.out; have := HS5.out; omega
  have hq6 := (b6.block _ (by omega)).trans HQ5.out.1
  have hr6 := (b6.block _ (by omega)).trans HQ5.out.2
  clear c0 c1 c2 c3 c4 d0 d1 d2 d3 d4 hf4 hw5 CP
  obtain ⟨c0, c1, c2, c3, c4⟩ := HD.out w6 _ hq6
  have hf6 : ∀ i, w6.frozen? ⟨w.heap.size, i, none⟩ = false := frozen_of_block hq6
  have hf7 : ∀ i, w6.frozen? ⟨w.heap.size + 1, i, none⟩ = false := frozen_of_block hr6
  have r0 : w6.cell? ⟨w.heap.size + 1, 0, none⟩ = some (.bool false) := by rw [cell_of_block hr6]; rfl
  have r1 : w6.cell? ⟨w.heap.size + 1, 1, none⟩ = some (.bool false) := by rw [cell_of_block hr6]; rfl
  have r2 : w6.cell? ⟨w.heap.size + 1, 2, none⟩ = some (.bool false) := by rw [cell_of_block hr6]; rfl
  have r3 : w6.cell? ⟨w.heap.size + 1, 3, none⟩ = some (.slice none 0 0) := by rw [cell_of_block hr6]; rfl
  have r4 : w6.cell? ⟨w.heap.size + 1, 4, none⟩ = some (.slice none 0 0) := by rw [cell_of_block hr6]; rfl
  have O6 := hmk o6
  have B6 := hmk b6
  have HZ5 := hmk hZ5
  clear o6 b6 hq6 hr6 hZ5
  generalize hnn : noneB nl = nn at *
  generalize hff : sl.filter (fun x => !(amongB nn x)) = ff at *
  have HNN := hmk hnn
  have HFF := hmk hff
  clear hnn hff
  go_wp2_with fail
  (try simp only [Exit.inBlock, Exit.then])
  refine bodyPost_ret (v := .agg #[.bool p1, .bool p2, .bool p3, .slice ta ff.length tc, .slice va nn.length vc]) ?_ rfl ?_
  · rw [results_cell1 rfl]
    go_simp
  · unfold StPost
    rw [HNN.out, HFF.out]
    refine ⟨.slice ta ff.length tc, va, vc, vb, vo, rfl, HD4.out, ?_, ?_, ?_⟩
    · refine HL5.out.1.keep (fun y hy => ?_) (fun _ h => h)
      have h1 : ¬ w.heap.size ≤ y := fun h => HNE.out y h hy.symm
      iterate 6 (rw [set_other7 (by omega)])
      exact B6.out.block y (HL5.out.2 y hy)
    · iterate 6 (refine own_setN ?_ (fun e => by have := (O6.out.lt e).1; have := HZ5.out; omega))
      exact O6.out.base (by have := HZ5.out; omega)
    · iterate 6 (refine grown_setN ?_ (by omega))
      exact grown_trans HG5.out (grown_below B6.out)
end Go.Proofs.YtolekldjbbjmjaaGreatDoor
