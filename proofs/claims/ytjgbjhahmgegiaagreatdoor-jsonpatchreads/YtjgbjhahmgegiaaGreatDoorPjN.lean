import Derived.Test.YtjgbjhahmgegiaaGreatDoorPjL
import Derived.Test.YtjgbjhahmgegiaaGreatDoorPjM
import Derived.Test.YtjgbjhahmgegiaaGreatDoorTwvA
/- JsonpatchReads: the law's walk. -/
set_option linter.unusedSimpArgs false
set_option linter.unusedVariables false
set_option maxRecDepth 100000
namespace Go.Proofs.YtjgbjhahmgegiaaGreatDoor
open Go.RowKit Go.Lib
theorem prs_len : ∀ (l : List V) (i : Nat) (acc : List Stp), (prsL l i acc).1.length ≤ acc.length + l.length
  | [], i, acc => by rw [prsL]; simp
  | x :: l, i, acc => by
    rw [prsL]
    split
    · have := prs_len l (i + 1) (acc ++ [(rdF x).2])
      simp only [List.length_append, List.length_cons, List.length_nil] at this ⊢
      omega
    · simp
theorem par_len (v : V) : (parR v).1.length ≤ 256 := by
  unfold parR
  split
  · simp
  split
  · simp
  split
  · simp
  · rename_i h
    have := prs_len (lstOf v) 0 []
    simp only [List.length_nil] at this
    omega
set_option maxHeartbeats 8000000 in
theorem reads_walk (v : V) (cs : List Value) (w : World) (tp : Tp w) (hv : v.lies false w (Old w) cs) : Calls Tryz.prog 3 #[.agg cs.toArray] w (BPost true w) := by
  obtain ⟨k, b, i, s, al, nl, cl, am, nm, cm, rfl⟩ := V.ten hv
  have hb0 := box_row w [.int .i64 k, .bool b, .int .i64 i, .string s, .slice al nl cl, .slice am nm cm] 25
  have hz0 := alloc_size w (.cells #[.int .i64 k, .bool b, .int .i64 i, .string s, .slice al nl cl, .slice am nm cm] 25)
  have B0 : Below w.heap.size w (w.alloc (.cells #[.int .i64 k, .bool b, .int .i64 i, .string s, .slice al nl cl, .slice am nm cm] 25)) := (Below.refl _ _).alloc (Nat.le_refl _) _
  have HL : Hid (∀ W, Below w.heap.size w W → v.lies false W (Old W) [.int .i64 k, .bool b, .int .i64 i, .string s, .slice al nl cl, .slice am nm cm] ∧ Tp W) := fun W hB => ⟨V.lies_keep (fun h => h) (fun x hx => hB.block x hx) (fun x hx => Nat.lt_of_lt_of_le hx hB.size) _ hv, tp.below hB tp.z⟩
  clear hv tp
  go_enter Tryz.func3, Tryz.ntmps3
  go_wp2_with fail
  generalize (w.alloc (.cells #[.int .i64 k, .bool b, .int .i64 i, .string s, .slice al nl cl, .slice am nm cm] 25)) = w0 at *
  refine (beyondN_any v (Old w0) _ w0 (HL.out w0 B0).1 (fun x hx => hx)).mono ?_
  rintro e w1 ⟨r, rfl, hr, b1⟩
  have hz1 := b1.size
  have B1 := B0.trans (b1.mono (by omega))
  have hb1 := hb0.keep (b1.block _ (by omega))
  obtain ⟨d0, d1, d2, d3, d4, d5⟩ := row6z hb1
  cases r with
  | true =>
    go_wp2_with fail
    go_ret
    exact ⟨rfl, B1⟩
  | false =>
    have hwt := hr rfl
    clear hr hb0 b1
    go_wp2_with fail
    refine (twv_any v 0 (Old w1) _ w1 (by omega) (by omega) (HL.out w1 B1).1 (fun x hx => hx) (by omega)).mono ?_
    rintro e w2 ⟨csu, rfl, hlu, b2⟩
    have hz2 := b2.size
    have B2 := B1.trans (b2.mono (by omega))
    clear d0 d1 d2 d3 d4 d5
    obtain ⟨uk, ub, ui, us, ual, unl, ucl, uam, unm, ucm, rfl⟩ := V.ten hlu
    have hz3 := alloc_size w2 (.cells #[.int .i64 uk, .bool ub, .int .i64 ui, .string us, .slice ual unl ucl, .slice uam unm ucm] 25)
    have hn3 := box_row w2 [.int .i64 uk, .bool ub, .int .i64 ui, .string us, .slice ual unl ucl, .slice uam unm ucm] 25
    have b23 : Below w2.heap.size w2 (w2.alloc (.cells #[.int .i64 uk, .bool ub, .int .i64 ui, .string us, .slice ual unl ucl, .slice uam unm ucm] 25)) := (Below.refl _ _).alloc (Nat.le_refl _) _
    have B3 := B2.trans (b23.mono (by omega))
    have hb3 := (hb1.keep (b2.block _ (by omega))).keep (b23.block _ (by omega))
    have HU : Hid (∀ W, Below w2.heap.size w2 W → v.lies false W (Old W) [.int .i64 uk, .bool ub, .int .i64 ui, .string us, .slice ual unl ucl, .slice uam unm ucm]) := fun W hb => V.lies_keep (fun h => h) (fun x hx => hb.block x (by rcases hx with h | h; (exact Nat.lt_of_lt_of_le h hz2); exact h.2)) (fun x hx => by rcases hx with h | h; (exact Nat.lt_of_lt_of_le h (Nat.le_trans hz2 hb.size)); exact Nat.lt_of_lt_of_le h.2 hb.size) _ hlu
    obtain ⟨d0, d1, d2, d3, d4, d5⟩ := row6z hb3
    clear hlu hb1 B1 b2
    go_wp2_with fail
    generalize (w2.alloc (.cells #[.int .i64 uk, .bool ub, .int .i64 ui, .string us, .slice ual unl ucl, .slice uam unm ucm] 25)) = w3 at *
    have CP := jparse_any v (Old w3) _ w3 (HL.out w3 B3).2 (HL.out w3 B3).1 (fun x hx => hx) (by omega)
    have CD : Hid (∀ W, Below w2.heap.size w2 W → Calls Tryz.prog 9 #[.agg [.int .i64 uk, .bool ub, .int .i64 ui, .string us, .slice ual unl ucl, .slice uam unm ucm].toArray] W (PrT (parR v) W)) := fun W hb => dparse_any v (Old W) _ W (HU.out W hb) (fun x hx => hx) (by omega)
    have hlen := par_len v
    obtain ⟨⟨T, at_, er⟩, hp⟩ : ∃ p, parR v = p := ⟨_, rfl⟩
    rw [hp] at CP CD hlen
    unfold PrT at CP CD
    dsimp only at CP CD hlen
    clear hp
    refine CP.mono ?_
    rintro e w4 ⟨al4, cap4, b4_, o4_, rfl, hd4, hT4, b4⟩
    have hz4 := b4.size
    have B4 := B3.trans (b4.mono (by omega))
    have hb4 := hb3.keep (b4.block _ (by omega))
    have hn4 := hn3.keep (b4.block _ (by omega))
    have b24 := b23.trans (b4.mono (by omega))
    have HT4 := hmk hT4
    clear d0 d1 d2 d3 d4 d5 hT4 CP
    obtain ⟨d0, d1, d2, d3, d4, d5⟩ := row6z hb4
    obtain ⟨n0, n1, n2, n3, n4, n5⟩ := row6z hn4
    clear hb3 hn3 B3 b4 b23
    go_wp2_with fail
    refine (CD.out w4 b24).mono ?_
    rintro e w5 ⟨al5, cap5, b5_, o5_, rfl, hd5, hT5, b5⟩
    have hz5 := b5.size
    have B5 := B4.trans (b5.mono (by omega))
    have hb5 := hb4.keep (b5.block _ (by omega))
    have hn5 := hn4.keep (b5.block _ (by omega))
    have b25 := b24.trans (b5.mono (by omega))
    clear d0 d1 d2 d3 d4 d5 n0 n1 n2 n3 n4 n5
    obtain ⟨d0, d1, d2, d3, d4, d5⟩ := row6z hb5
    obtain ⟨n0, n1, n2, n3, n4, n5⟩ := row6z hn5
    have CS := hmk (steps_same T (New w3 w4) (New w4 w5) al4 al5 cap4 cap5 b4_ b5_ o4_ o5_ w5 hd4 hd5 (liesT_keep (fun x hx => b5.block x hx.2) (fun _ h => h) HT4.out) hT5 (fun x hx => by have := hx.2; omega) (fun x hx => hx.2) (by omega))
    generalize ((er : Nat) : Int) = erz at *
    generalize T.length = tn at *
    clear hb4 hn4 B4 b5 b24 HT4 hT5 hd4 hd5 CD hlen
    go_wp2_with fail
    refine CS.out.mono ?_
    rintro e w6 ⟨rfl, b6⟩
    have hz6 := b6.size
    have B6 := B5.trans (b6.mono (by omega))
    have hb6 := hb5.keep (b6.block _ (by omega))
    have hn6 := hn5.keep (b6.block _ (by omega))
    have b26 := b25.trans (b6.mono (by omega))
    clear d0 d1 d2 d3 d4 d5 n0 n1 n2 n3 n4 n5 CS
    obtain ⟨d0, d1, d2, d3, d4, d5⟩ := row6z hb6
    obtain ⟨n0, n1, n2, n3, n4, n5⟩ := row6z hn6
    go_wp2_with fail
    refine (samv_any v 0 (Old w6) (Old w6) _ _ w6 (by omega) (by omega) (HL.out w6 B6).1 (HU.out w6 b26) (fun x hx => hx) (fun x hx => hx)).mono ?_
    rintro e w7 ⟨rfl, b7⟩
    have B7 := B6.trans (b7.mono (by omega))
    go_wp2_with fail
    go_ret
    exact ⟨rfl, B7⟩
end Go.Proofs.YtjgbjhahmgegiaaGreatDoor
