import Derived.Test.YtolekldjbbjmjaaGreatDoorSimI
/- common, and: a demand with one term more (layer 20). -/
set_option linter.unusedSimpArgs false
set_option linter.unusedVariables false
namespace Go.Proofs.YtolekldjbbjmjaaGreatDoor
open Go.RowKit Go.Lib
set_option maxHeartbeats 8000000 in
set_option maxRecDepth 100000 in
theorem common_any (p1 p2 p3 : Bool) (sl nl vs : List ByteArray) (S : Nat → Prop) (sv nv : Value) (base : Nat) (a : Option Addr) (c b o : Nat) (w : World) (hs : OwnSt w base (fun _ => False) sv sl) (hn : OwnSt w base (fun _ => False) nv nl) (hss : SmallS sl) (hsl : sl.length ≤ 2147483647) (hh : Headed a vs.length c b o) (hl : liesS w S vs b o) (hS : ∀ y, S y → y < w.heap.size) (hm : vs.length ≤ 2147483647) (h0 : 0 < vs.length) (hr : Ris vs) :
    Calls Tryz.prog 47 #[.agg #[.bool p1, .bool p2, .bool p3, sv, nv], .slice a vs.length c] w (fun e w' => ∃ v, e = .returned v ∧ OwnSt w' w.heap.size (fun _ => False) v (if p3 then sl.filter (amongB vs) else vs) ∧ Below w.heap.size w w') := by
  have hslt : ∀ r, sv.ownBlock = some r → r < w.heap.size := fun r hr => (hs.lt hr).2
  obtain ⟨sa, sc, sb, so, rfl, hsh, hsr⟩ := own_read1 hs hss
  obtain ⟨na, nc, rfl⟩ := own_slice hn
  obtain ⟨w1, hw1⟩ : ∃ w1, w.alloc (.cells #[.bool p1, .bool p2, .bool p3, .slice sa sl.length sc, .slice na nl.length nc] 70) = w1 := ⟨_, rfl⟩
  obtain ⟨w2, hw2⟩ : ∃ w2, w1.alloc (.cells #[.slice a vs.length c] 33) = w2 := ⟨_, rfl⟩
  have hz1 : w1.heap.size = w.heap.size + 1 := by rw [← hw1]; simp
  have hz2 : w2.heap.size = w.heap.size + 2 := by rw [← hw2]; simp [hz1]
  have B1 : Below w.heap.size w w1 := by rw [← hw1]; exact (Below.refl _ _).alloc (Nat.le_refl _) _
  have B2 : Below w.heap.size w w2 := by rw [← hw2]; exact B1.alloc (by omega) _
  have hX0 : w2.heap[w.heap.size]? = some (.cells #[.bool p1, .bool p2, .bool p3, .slice sa sl.length sc, .slice na nl.length nc] 70) := by
    have h1 : Below w1.heap.size w1 w2 := by rw [← hw2]; exact (Below.refl _ _).alloc (Nat.le_refl _) _
    rw [h1.block _ (by omega), ← hw1]; exact heap_alloc_new _ _
  have hX1 : w2.heap[w.heap.size + 1]? = some (.cells #[.slice a vs.length c] 33) := by
    rw [← hw2, ← hz1]; exact heap_alloc_new _ _
  have c2 : w2.cell? ⟨w.heap.size, 2, none⟩ = some (.bool p3) := by rw [cell_of_block hX0]; rfl
  have c3 : w2.cell? ⟨w.heap.size, 3, none⟩ = some (.slice sa sl.length sc) := by rw [cell_of_block hX0]; rfl
  have d0 : w2.cell? ⟨w.heap.size + 1, 0, none⟩ = some (.slice a vs.length c) := by rw [cell_of_block hX1]; rfl
  have CC := hmk (clone_any vs S a c b o w2 hh (hl.keep (fun y hy => B2.block y (hS y hy)) (fun _ h => h)) hm h0)
  have CP := hmk (picked71_any sl (amongB vs) (w.heap.size + 1) (fun y => (Value.slice sa sl.length sc).ownBlock = some y) sa sc sb so w2 hsh (hsr.keep (fun y hy => B2.block y (hslt y hy)) (fun _ h => h)) (fun y hy => by have := hslt y hy; omega) hsl (fun W hW s =>
    clo71_any vs s (w.heap.size + 1) S a c b o W ((hW.block _ (by omega)).trans hX1) hh (hl.keep (fun y hy => (hW.block y (by have := hS y hy; omega)).trans (B2.block y (hS y hy))) (fun _ h => h)) hm hr))
  have BB := hmk B2
  have HZ : Hid (w.heap.size ≤ w2.heap.size) := by show _ ≤ _; omega
  have HZ1 := hmk hz1
  clear hs hn hss hsh hsr hh hl hX0 hX1 B1 B2 hz2 hr h0
  cases p3 with
  | false =>
    go_enter Tryz.func47, Tryz.ntmps47
    go_wp2_with fail
    simp only [hw1, hw2, hz1] at *
    go_wp2_with fail
    refine CC.out.mono ?_
    rintro e w3 ⟨v, rfl, o3, b3⟩
    have O3 := hmk (o3.base HZ.out)
    have B3 := hmk (BB.out.trans (b3.mono HZ.out))
    clear o3 b3 CC CP
    go_wp2_with fail
    go_ret
    exact ⟨v, rfl, O3.out, B3.out⟩
  | true =>
    go_enter Tryz.func47, Tryz.ntmps47
    go_wp2_with fail
    simp only [hw1, hw2, hz1] at *
    go_wp2_with fail
    refine CP.out.mono ?_
    rintro e w3 ⟨v, rfl, o3, b3⟩
    have O3 := hmk (o3.base HZ.out)
    have B3 := hmk (BB.out.trans (b3.mono HZ.out))
    clear o3 b3 CC CP
    go_wp2_with fail
    go_ret
    exact ⟨v, rfl, O3.out, B3.out⟩
end Go.Proofs.YtolekldjbbjmjaaGreatDoor
