import Derived.Test.YtgnofbigggmilaaGreatDoorGetA
import Derived.Test.YtgnofbigggmilaaGreatDoorAddP
import Derived.Test.YtgnofbigggmilaaGreatDoorG37
set_option linter.unusedSimpArgs false
set_option linter.unusedVariables false
namespace Go.Proofs.YtgnofbigggmilaaGreatDoor
open Go.RowKit Go.Lib
def aw7 : V := .mk 2 false 7 ⟨#[]⟩ [] []
def awL : V := .mk 4 false 0 ⟨#[]⟩ [aw7] []
def aw0 : V := .mk 5 false 0 ⟨#[]⟩ [] [(⟨#[97]⟩, awL)]
def aw1 : V := .mk 5 false 0 ⟨#[]⟩ [] [(⟨#[97]⟩, .mk 4 false 0 ⟨#[]⟩ [aw7, aw7] [])]
theorem aw_get0 : getF aw0 ⟨#[47, 97, 47, 48]⟩ = (aw7, 0) := by kernel_rfl
theorem aw_add : addPF aw0 ⟨#[47, 97, 47, 45]⟩ aw7 = (aw1, 0) := by kernel_rfl
theorem aw_get1 : getF aw1 ⟨#[47, 97, 47, 49]⟩ = (aw7, 0) := by kernel_rfl
theorem aw_hn : Headed none 0 0 0 0 := ⟨Nat.le_refl _, by unfold maxLen; omega, .inl rfl, fun _ => rfl⟩
theorem aw_h1 (g : Nat) : Headed (some ⟨g, 0, none⟩) 1 1 g 0 := ⟨Nat.le_refl _, by unfold maxLen; omega, .inr rfl, fun h => by cases h⟩
theorem aw_row {W : World} {g : Nat} {cs : List Value} {t : TypeId} (h : W.heap[g]? = some (.cells cs.toArray t)) : rowAt W g 0 cs := by
 intro j u hj
 rw [Nat.zero_add, cell_of_block h]
 simpa using hj
theorem aw7_lies (W : World) (S : Nat → Prop) : aw7.lies false W S [.int .i64 2, .bool false, .int .i64 7, .string ⟨#[]⟩, .slice none 0 0, .slice none 0 0] := by
 rw [aw7, V.lies]
 exact ⟨none, 0, 0, 0, none, 0, 0, 0, rfl, ⟨by decide, by decide⟩, ⟨by decide, by decide⟩, by simp [maxLen, ByteArray.size], aw_hn, aw_hn, by rw [liesL]; trivial, by rw [liesM]; trivial, fun h => by cases h⟩
theorem aw7_any {al : Option Addr} {cl bl ol : Nat} {am : Option Addr} {cm bm om : Nat} (e1 : Headed al 0 cl bl ol) (e2 : Headed am 0 cm bm om) (W : World) (S : Nat → Prop) : aw7.lies false W S [.int .i64 2, .bool false, .int .i64 7, .string ⟨#[]⟩, .slice al 0 cl, .slice am 0 cm] := by
 rw [aw7, V.lies]
 exact ⟨al, cl, bl, ol, am, cm, bm, om, rfl, ⟨by decide, by decide⟩, ⟨by decide, by decide⟩, by simp [maxLen, ByteArray.size], e1, e2, by rw [liesL]; trivial, by rw [liesM]; trivial, fun h => by cases h⟩
theorem aw0_lies {W w : World} (h0 : W.heap[w.heap.size]? = some (.cells #[.int .i64 2, .bool false, .int .i64 7, .string ⟨#[]⟩, .slice none 0 0, .slice none 0 0] 25)) (h1 : W.heap[w.heap.size + 1]? = some (.cells #[.string ⟨#[97]⟩, .int .i64 4, .bool false, .int .i64 0, .string ⟨#[]⟩, .slice (some ⟨w.heap.size, 0, none⟩) 1 1, .slice none 0 0] 64)) :
 aw0.lies false W (fun b => b = w.heap.size ∨ b = w.heap.size + 1) [.int .i64 5, .bool false, .int .i64 0, .string ⟨#[]⟩, .slice none 0 0, .slice (some ⟨w.heap.size + 1, 0, none⟩) 1 1] := by
 rw [aw0, V.lies]
 refine ⟨none, 0, 0, 0, some ⟨w.heap.size + 1, 0, none⟩, 1, w.heap.size + 1, 0, rfl, ⟨by decide, by decide⟩, ⟨by decide, by decide⟩, by simp [maxLen, ByteArray.size], aw_hn, aw_h1 _, by rw [liesL]; trivial, ?_, fun h => by cases h⟩
 rw [liesM]
 refine ⟨.inr rfl, ⟨by simp [maxLen, ByteArray.size], [.int .i64 4, .bool false, .int .i64 0, .string ⟨#[]⟩, .slice (some ⟨w.heap.size, 0, none⟩) 1 1, .slice none 0 0], aw_row h1, ?_⟩, by rw [liesM]; trivial⟩
 rw [awL, V.lies]
 refine ⟨some ⟨w.heap.size, 0, none⟩, 1, w.heap.size, 0, none, 0, 0, 0, rfl, ⟨by decide, by decide⟩, ⟨by decide, by decide⟩, by simp [maxLen, ByteArray.size], aw_h1 _, aw_hn, ?_, by rw [liesM]; trivial, fun h => by cases h⟩
 rw [liesL]
 exact ⟨.inl rfl, ⟨_, aw_row (cs := [.int .i64 2, .bool false, .int .i64 7, .string ⟨#[]⟩, .slice none 0 0, .slice none 0 0]) h0, aw7_lies _ _⟩, by rw [liesL]; trivial⟩
set_option maxHeartbeats 8000000 in
set_option maxRecDepth 100000 in
theorem awake_any (w : World) (tg : Tg w) : Calls Tryz.prog 8 #[] w (BPost true w) := by
 have hz0 : (((w.alloc (.cells #[.int .i64 2, .bool false, .int .i64 7, .string ⟨#[]⟩, .slice none 0 0, .slice none 0 0] 25)).alloc (.cells #[.string ⟨#[97]⟩, .int .i64 4, .bool false, .int .i64 0, .string ⟨#[]⟩, .slice (some ⟨w.heap.size, 0, none⟩) 1 1, .slice none 0 0] 64)).alloc (.cells #[.int .i64 5, .bool false, .int .i64 0, .string ⟨#[]⟩, .slice none 0 0, .slice (some ⟨w.heap.size + 1, 0, none⟩) 1 1] 25)).heap.size = w.heap.size + 3 := by simp only [alloc_size]
 have B0 : Below w.heap.size w (((w.alloc (.cells #[.int .i64 2, .bool false, .int .i64 7, .string ⟨#[]⟩, .slice none 0 0, .slice none 0 0] 25)).alloc (.cells #[.string ⟨#[97]⟩, .int .i64 4, .bool false, .int .i64 0, .string ⟨#[]⟩, .slice (some ⟨w.heap.size, 0, none⟩) 1 1, .slice none 0 0] 64)).alloc (.cells #[.int .i64 5, .bool false, .int .i64 0, .string ⟨#[]⟩, .slice none 0 0, .slice (some ⟨w.heap.size + 1, 0, none⟩) 1 1] 25)) := (two_below w _ _).alloc (by simp only [alloc_size]; omega) _
 have HT : Hid (∀ W, Below w.heap.size w W → Tg W) := fun W hb => tg.below hb tg.z
 have b3 : Below ((w.alloc (.cells #[.int .i64 2, .bool false, .int .i64 7, .string ⟨#[]⟩, .slice none 0 0, .slice none 0 0] 25)).alloc (.cells #[.string ⟨#[97]⟩, .int .i64 4, .bool false, .int .i64 0, .string ⟨#[]⟩, .slice (some ⟨w.heap.size, 0, none⟩) 1 1, .slice none 0 0] 64)).heap.size ((w.alloc (.cells #[.int .i64 2, .bool false, .int .i64 7, .string ⟨#[]⟩, .slice none 0 0, .slice none 0 0] 25)).alloc (.cells #[.string ⟨#[97]⟩, .int .i64 4, .bool false, .int .i64 0, .string ⟨#[]⟩, .slice (some ⟨w.heap.size, 0, none⟩) 1 1, .slice none 0 0] 64)) (((w.alloc (.cells #[.int .i64 2, .bool false, .int .i64 7, .string ⟨#[]⟩, .slice none 0 0, .slice none 0 0] 25)).alloc (.cells #[.string ⟨#[97]⟩, .int .i64 4, .bool false, .int .i64 0, .string ⟨#[]⟩, .slice (some ⟨w.heap.size, 0, none⟩) 1 1, .slice none 0 0] 64)).alloc (.cells #[.int .i64 5, .bool false, .int .i64 0, .string ⟨#[]⟩, .slice none 0 0, .slice (some ⟨w.heap.size + 1, 0, none⟩) 1 1] 25)) := one_belowG _ _
 have hzA : ((w.alloc (.cells #[.int .i64 2, .bool false, .int .i64 7, .string ⟨#[]⟩, .slice none 0 0, .slice none 0 0] 25)).alloc (.cells #[.string ⟨#[97]⟩, .int .i64 4, .bool false, .int .i64 0, .string ⟨#[]⟩, .slice (some ⟨w.heap.size, 0, none⟩) 1 1, .slice none 0 0] 64)).heap.size = w.heap.size + 2 := by simp only [alloc_size]
 have h0 := (b3.block w.heap.size (by omega)).trans (alloc2_keep1 w _ _)
 have h1 := (b3.block (w.heap.size + 1) (by omega)).trans (alloc2_new w _ _)
 have h2 : (((w.alloc (.cells #[.int .i64 2, .bool false, .int .i64 7, .string ⟨#[]⟩, .slice none 0 0, .slice none 0 0] 25)).alloc (.cells #[.string ⟨#[97]⟩, .int .i64 4, .bool false, .int .i64 0, .string ⟨#[]⟩, .slice (some ⟨w.heap.size, 0, none⟩) 1 1, .slice none 0 0] 64)).alloc (.cells #[.int .i64 5, .bool false, .int .i64 0, .string ⟨#[]⟩, .slice none 0 0, .slice (some ⟨w.heap.size + 1, 0, none⟩) 1 1] 25)).heap[w.heap.size + 2]? = some (.cells #[.int .i64 5, .bool false, .int .i64 0, .string ⟨#[]⟩, .slice none 0 0, .slice (some ⟨w.heap.size + 1, 0, none⟩) 1 1] 25) := by
  have := heap_alloc_new ((w.alloc (.cells #[.int .i64 2, .bool false, .int .i64 7, .string ⟨#[]⟩, .slice none 0 0, .slice none 0 0] 25)).alloc (.cells #[.string ⟨#[97]⟩, .int .i64 4, .bool false, .int .i64 0, .string ⟨#[]⟩, .slice (some ⟨w.heap.size, 0, none⟩) 1 1, .slice none 0 0] 64)) (.cells #[.int .i64 5, .bool false, .int .i64 0, .string ⟨#[]⟩, .slice none 0 0, .slice (some ⟨w.heap.size + 1, 0, none⟩) 1 1] 25)
  rw [hzA] at this
  exact this
 have HL := hmk (aw0_lies h0 h1)
 have CG := get_any aw0 ⟨#[47, 97, 47, 48]⟩ _ _ (((w.alloc (.cells #[.int .i64 2, .bool false, .int .i64 7, .string ⟨#[]⟩, .slice none 0 0, .slice none 0 0] 25)).alloc (.cells #[.string ⟨#[97]⟩, .int .i64 4, .bool false, .int .i64 0, .string ⟨#[]⟩, .slice (some ⟨w.heap.size, 0, none⟩) 1 1, .slice none 0 0] 64)).alloc (.cells #[.int .i64 5, .bool false, .int .i64 0, .string ⟨#[]⟩, .slice none 0 0, .slice (some ⟨w.heap.size + 1, 0, none⟩) 1 1] 25)) (HT.out _ B0) HL.out (fun b hb => by rcases hb with rfl | rfl <;> omega) (of_decide_eq_true (by kernel_rfl)) (by decide)
 rw [aw_get0] at CG
 have CG := hmk CG
 have HL0 : Hid (∀ W, Below (((w.alloc (.cells #[.int .i64 2, .bool false, .int .i64 7, .string ⟨#[]⟩, .slice none 0 0, .slice none 0 0] 25)).alloc (.cells #[.string ⟨#[97]⟩, .int .i64 4, .bool false, .int .i64 0, .string ⟨#[]⟩, .slice (some ⟨w.heap.size, 0, none⟩) 1 1, .slice none 0 0] 64)).alloc (.cells #[.int .i64 5, .bool false, .int .i64 0, .string ⟨#[]⟩, .slice none 0 0, .slice (some ⟨w.heap.size + 1, 0, none⟩) 1 1] 25)).heap.size (((w.alloc (.cells #[.int .i64 2, .bool false, .int .i64 7, .string ⟨#[]⟩, .slice none 0 0, .slice none 0 0] 25)).alloc (.cells #[.string ⟨#[97]⟩, .int .i64 4, .bool false, .int .i64 0, .string ⟨#[]⟩, .slice (some ⟨w.heap.size, 0, none⟩) 1 1, .slice none 0 0] 64)).alloc (.cells #[.int .i64 5, .bool false, .int .i64 0, .string ⟨#[]⟩, .slice none 0 0, .slice (some ⟨w.heap.size + 1, 0, none⟩) 1 1] 25)) W → aw0.lies false W (fun b => b = w.heap.size ∨ b = w.heap.size + 1) [.int .i64 5, .bool false, .int .i64 0, .string ⟨#[]⟩, .slice none 0 0, .slice (some ⟨w.heap.size + 1, 0, none⟩) 1 1]) := fun W hb => V.lies_keep (fun h => h) (fun x hx => hb.block x (by rcases hx with rfl | rfl <;> omega)) (fun x hx => hx) _ HL.out
 clear HL b3 hzA h0 h1 tg
 go_enter Tryz.func8, Tryz.ntmps8
 go_wp2_with fail
 generalize (((w.alloc (.cells #[.int .i64 2, .bool false, .int .i64 7, .string ⟨#[]⟩, .slice none 0 0, .slice none 0 0] 25)).alloc (.cells #[.string ⟨#[97]⟩, .int .i64 4, .bool false, .int .i64 0, .string ⟨#[]⟩, .slice (some ⟨w.heap.size, 0, none⟩) 1 1, .slice none 0 0] 64)).alloc (.cells #[.int .i64 5, .bool false, .int .i64 0, .string ⟨#[]⟩, .slice none 0 0, .slice (some ⟨w.heap.size + 1, 0, none⟩) 1 1] 25)) = W0 at *
 refine CG.out.mono ?_
 rintro e w1 ⟨cs, rfl, l1, b1⟩
 rw [aw7, V.lies] at l1
 obtain ⟨al, cl, bl, ol, am, cm, bm, om, rfl, -, -, -, e1, e2, -, -, -⟩ := l1
 clear CG
 have hz1 := b1.size
 have B1 := B0.trans (b1.mono (by omega))
 have k2 := (b1.block (w.heap.size + 2) (by omega)).trans h2
 have b1' : Below w1.heap.size w1 (w1.alloc (.cells #[.int .i64 2, .bool false, .int .i64 7, .string ⟨#[]⟩, .slice al 0 cl, .slice am 0 cm] 25)) := one_belowG _ _
 have hz1' : (w1.alloc (.cells #[.int .i64 2, .bool false, .int .i64 7, .string ⟨#[]⟩, .slice al 0 cl, .slice am 0 cm] 25)).heap.size = w1.heap.size + 1 := alloc_size _ _
 have B1' := B1.trans (b1'.mono (by omega))
 have k3 : (w1.alloc (.cells #[.int .i64 2, .bool false, .int .i64 7, .string ⟨#[]⟩, .slice al 0 cl, .slice am 0 cm] 25)).heap[w.heap.size + 1 + 1]? = some (.cells #[.int .i64 5, .bool false, .int .i64 0, .string ⟨#[]⟩, .slice none 0 0, .slice (some ⟨w.heap.size + 1, 0, none⟩) 1 1] 25) := (b1'.block (w.heap.size + 1 + 1) (by omega)).trans k2
 have o3 := heap_alloc_new w1 (.cells #[.int .i64 2, .bool false, .int .i64 7, .string ⟨#[]⟩, .slice al 0 cl, .slice am 0 cm] 25)
 obtain ⟨c0, c1, c2, c3, c4, c5⟩ := sixC k3
 have hW : Below W0.heap.size W0 (w1.alloc (.cells #[.int .i64 2, .bool false, .int .i64 7, .string ⟨#[]⟩, .slice al 0 cl, .slice am 0 cm] 25)) := b1.trans (b1'.mono (by omega))
 have CA := add_any aw0 ⟨#[47, 97, 47, 45]⟩ aw7 _ _ _ (w1.alloc (.cells #[.int .i64 2, .bool false, .int .i64 7, .string ⟨#[]⟩, .slice al 0 cl, .slice am 0 cm] 25)) (HT.out _ B1') (HL0.out _ hW) (aw7_any e1 e2 _ _) (fun b hb => by rcases hb with rfl | rfl <;> omega) (of_decide_eq_true (by kernel_rfl)) (of_decide_eq_true (by kernel_rfl)) (by decide)
 rw [aw_add] at CA
 have CA := hmk CA
 clear HL0 k2 h2
 go_wp2_with fail
 clear c0 c1 c2 c3 c4 c5 k3
 generalize (w1.alloc (.cells #[.int .i64 2, .bool false, .int .i64 7, .string ⟨#[]⟩, .slice al 0 cl, .slice am 0 cm] 25)) = W1 at *
 refine CA.out.mono ?_
 rintro e w2 ⟨cs2, rfl, l2, b2⟩
 clear CA
 have hz2 := b2.size
 have B2 := B1'.trans (b2.mono (by omega))
 obtain ⟨gk, gb, gi, gs, gal, gnl, gcl, gam, gnm, gcm, rfl⟩ := V.ten l2
 have b2' : Below w2.heap.size w2 (w2.alloc (.cells #[.int .i64 gk, .bool gb, .int .i64 gi, .string gs, .slice gal gnl gcl, .slice gam gnm gcm] 25)) := one_belowG _ _
 have hz2' : (w2.alloc (.cells #[.int .i64 gk, .bool gb, .int .i64 gi, .string gs, .slice gal gnl gcl, .slice gam gnm gcm] 25)).heap.size = w2.heap.size + 1 := alloc_size _ _
 have B2' := B2.trans (b2'.mono (by omega))
 have CG := get_any aw1 ⟨#[47, 97, 47, 49]⟩ _ _ (w2.alloc (.cells #[.int .i64 gk, .bool gb, .int .i64 gi, .string gs, .slice gal gnl gcl, .slice gam gnm gcm] 25)) (HT.out _ B2') (V.lies_keep (S' := New W1 w2) (fun h => h) (fun x hx => b2'.block x hx.2) (fun x hx => hx) _ l2) (fun b hb => by have := hb.2; omega) (of_decide_eq_true (by kernel_rfl)) (by decide)
 rw [aw_get1] at CG
 have CG := hmk CG
 have o4 := (b2'.block w1.heap.size (by omega)).trans ((b2.block w1.heap.size (by omega)).trans o3)
 clear l2 o3
 go_wp2_with fail
 generalize (w2.alloc (.cells #[.int .i64 gk, .bool gb, .int .i64 gi, .string gs, .slice gal gnl gcl, .slice gam gnm gcm] 25)) = W2 at *
 refine CG.out.mono ?_
 rintro e w3 ⟨cs3, rfl, l3, b3⟩
 rw [aw7, V.lies] at l3
 obtain ⟨yal, ycl, ybl, yol, yam, ycm, ybm, yom, rfl, -, -, -, -, -, -, -, -⟩ := l3
 clear CG
 have hz3 := b3.size
 have B3 := B2'.trans (b3.mono (by omega))
 have b3' : Below w3.heap.size w3 (w3.alloc (.cells #[.int .i64 2, .bool false, .int .i64 7, .string ⟨#[]⟩, .slice yal 0 ycl, .slice yam 0 ycm] 25)) := one_belowG _ _
 have B3' := B3.trans (b3'.mono (by omega))
 have o5 := (b3'.block w1.heap.size (by omega)).trans ((b3.block w1.heap.size (by omega)).trans o4)
 obtain ⟨-, -, x2, -, -, -⟩ := sixC o5
 clear o4 o5
 go_wp2_with fail
 go_ret
 exact ⟨rfl, B3'⟩
end Go.Proofs.YtgnofbigggmilaaGreatDoor
