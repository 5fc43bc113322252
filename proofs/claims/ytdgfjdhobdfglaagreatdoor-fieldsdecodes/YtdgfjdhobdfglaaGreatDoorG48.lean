/- joined: RdcK DecK NstK SamP -/
import Derived.Test.YtdgfjdhobdfglaaGreatDoorG46
import Derived.Test.YtdgfjdhobdfglaaGreatDoorRsrR
import Derived.Test.YtdgfjdhobdfglaaGreatDoorRatK
set_option linter.unusedSimpArgs false
set_option linter.unusedVariables false
set_option maxRecDepth 100000
namespace Go.Proofs.YtdgfjdhobdfglaaGreatDoor
open Go.RowKit Go.Lib
def DcPost (v : V) (S : Nat -> Prop) (w : World) (e : Ending) (w' : World) : Prop :=
 Below w.heap.size w w' /\ ((chkE v 32 ≠ 0 /\ e = .returned (.tuple #[.slice none 0 0, .int .i64 (chkE v 32 : Nat)])) \/ (chkE v 32 = 0 /\ dpV true [] v = none /\ e = .returned (.tuple #[.slice none 0 0, .int .i64 110])) \/
  ∃ D R a c b o, chkE v 32 = 0 /\ dpV true [] v = some D /\ Rs D R /\ e = .returned (.tuple #[.slice a R.length c, .int .i64 0]) /\ Headed a R.length c b o /\ liesQ w' (Tw S w w') R b o)
theorem chkE32 (v : V) : chkE v 32 = (chkV 32 v 0 (0, 0, 0)).1 := by rw [chkE, if_neg (by omega)]; rfl
set_option maxHeartbeats 8000000 in
theorem rdec_any (v : V) (S : Nat -> Prop) (cs : List Value) (w : World) (hl : v.lies false w S cs) (hS : ∀ b, S b -> b < w.heap.size) (hwt : v.wt <= 2147483647) :
 Calls Tryz.prog 7 #[.agg cs.toArray] w (DcPost v S w) := by
 obtain ⟨k, b, i, s, al, nl, cl, am, nm, cm, rfl⟩ := V.ten hl
 have B0 : Below w.heap.size w (w.alloc (.cells #[.int .i64 k, .bool b, .int .i64 i, .string s, .slice al nl cl, .slice am nm cm] 25)) := (Below.refl _ _).alloc (Nat.le_refl _) _
 have hb0 := box_row w [.int .i64 k, .bool b, .int .i64 i, .string s, .slice al nl cl, .slice am nm cm] 25
 have hz0 := alloc_size w (.cells #[.int .i64 k, .bool b, .int .i64 i, .string s, .slice al nl cl, .slice am nm cm] 25)
 have HL := hmk hl
 have HKE := hmk (chkE32 v)
 have HS := hmk hS
 have kb : Hid (∀ W, Below w.heap.size w W -> v.lies false W S [.int .i64 k, .bool b, .int .i64 i, .string s, .slice al nl cl, .slice am nm cm]) := fun W hb => V.lies_keep (fun h => h) (fun x hx => hb.block x (hS x hx)) (fun _ h => h) _ hl
 have c1 := hmk (rcheck_any false v 32 S _ _ (kb.out _ B0) (fun b hb => Nat.lt_of_lt_of_le (hS b hb) B0.size) (by omega))
 clear hl
 obtain ⟨e0, e1, e2, e3, e4, e5⟩ := row6z hb0
 go_enter Tryz.func7, Tryz.ntmps7
 go_wp2_with fail
 generalize (w.alloc (.cells #[.int .i64 k, .bool b, .int .i64 i, .string s, .slice al nl cl, .slice am nm cm] 25)) = w0 at *
 refine c1.out.mono ?_
 rintro e w1 ⟨rfl, b1⟩
 have hz1 := b1.size
 have B1 := hmk (B0.trans (b1.mono (by omega)))
 clear c1 e0 e1 e2 e3 e4 e5
 by_cases hk : chkE v 32 = 0
 case neg =>
  obtain ⟨n, hnE⟩ : ∃ n : Nat, n = chkE v 32 := ⟨_, rfl⟩
  have HNE := hmk hnE
  rw [<- hnE] at hk ⊢
  clear hnE
  have y1 : ¬ (n : Int) = 0 := by omega
  go_wp2_with fail
  go_ret2
  exact ⟨B1.out, .inl ⟨by rw [<- HNE.out]; exact hk, by rw [<- HNE.out]; rfl⟩⟩
 have hc : (chkV 32 v 0 (0, 0, 0)).1 = 0 := by rw [<- HKE.out]; exact hk
 have HC := hmk hc
 have HK := hmk hk
 rw [hk]
 have hbb := hb0.keep (b1.block _ (by omega))
 obtain ⟨e0, e1, e2, e3, e4, e5⟩ := row6z hbb
 have c2 := hmk (rpthsT_any v [] S none 0 0 0 _ w1 ⟨Nat.le_refl _, by simp [maxLen], .inl rfl, fun _ => rfl⟩ (fun j h => by simp at h) (kb.out w1 B1.out) (fun b hb => by have := hS b hb; omega) (by simp; omega) hwt (chkV_ks 32 v 0 (0, 0, 0) (by simp) hc))
 clear hc hk hb0
 go_wp2_with fail
 refine c2.out.mono ?_
 clear c2
 rintro e w2 ⟨b2, ⟨hn, rfl⟩ | ⟨D, a, c, b', o, hD, rfl, hh, hq⟩⟩
 ·have HN := hmk hn
  have B2 := hmk (B1.out.trans (b2.mono (by omega)))
  go_wp2_with fail
  go_ret2
  exact ⟨B2.out, .inr (.inl ⟨HK.out, HN.out, rfl⟩)⟩
 ·have HD := hmk hD
  have hz2 := b2.size
  obtain ⟨hp1, hp2⟩ := dp_paths HC.out hD
  have HP := hmk hp1
  have hlen := dpV_len v _ _ _ hD
  have c3 := hmk (rsort_any D (Tw S w1 w2) a c b' o w2 hh hq (fun b hb => hb.elim (fun h => by have := HS.out b h; omega) (fun h => h.2)) (by omega) hp2)
  have B2 := hmk (B1.out.trans (b2.mono (by omega)))
  clear hq hD hp1 hp2
  go_wp2_with fail
  refine c3.out.mono ?_
  clear c3
  rintro e w3 ⟨b3, ⟨_, R, a3, c3, b3', o3, hR, rfl, hh3, hq3⟩ | ⟨hx, rfl⟩⟩
  ·have HR := hmk hR
   have hz3 := b3.size
   have HQ : Hid (liesQ w3 (Tw S w w3) R b3' o3) := liesQ_keep (fun _ _ => rfl) (fun b hb => by
    rcases hb with (h | h) | h
    ·exact .inl h
    ·exact .inr ⟨by have := h.1; omega, by have := h.2; omega⟩
    ·exact .inr ⟨by have := h.1; omega, h.2⟩) hq3
   have B3 := hmk (B2.out.trans (b3.mono (by omega)))
   clear hq3 hR
   go_wp2_with fail
   go_ret2
   exact ⟨B3.out, .inr (.inr ⟨D, R, a3, c3, b3', o3, HK.out, HD.out, HR.out, rfl, hh3, HQ.out⟩)⟩
  ·exact (hx HP.out).elim
end Go.Proofs.YtdgfjdhobdfglaaGreatDoor
set_option maxRecDepth 100000
namespace Go.Proofs.YtdgfjdhobdfglaaGreatDoor
open Go.RowKit Go.Lib
set_option maxHeartbeats 8000000 in
theorem dec_any (R : Bool) (v : V) (S : Nat -> Prop) (cs : List Value) (w : World) (tb : Td w) (hl : v.lies R w S cs) (hS : ∀ b, S b -> b < w.heap.size) (hwt : v.wt <= 2147483647) :
 Calls Tryz.prog 6 #[.agg cs.toArray] w (DcPost v S w) := by
 have hl0 : v.lies false w S cs := V.lies_keep (fun h => by cases h) (fun _ _ => rfl) (fun _ h => h) _ hl
 obtain ⟨k, b, i, s, al, nl, cl, am, nm, cm, rfl⟩ := V.ten hl
 have B0 : Below w.heap.size w (w.alloc (.cells #[.int .i64 k, .bool b, .int .i64 i, .string s, .slice al nl cl, .slice am nm cm] 25)) := (Below.refl _ _).alloc (Nat.le_refl _) _
 have hb0 : (w.alloc (.cells #[.int .i64 k, .bool b, .int .i64 i, .string s, .slice al nl cl, .slice am nm cm] 25)).heap[w.heap.size]? = some (.cells #[.int .i64 k, .bool b, .int .i64 i, .string s, .slice al nl cl, .slice am nm cm] 25 (0, 0)) := heap_alloc_new w _
 have hz0 := alloc_size w (.cells #[.int .i64 k, .bool b, .int .i64 i, .string s, .slice al nl cl, .slice am nm cm] 25)
 have HKE := hmk (chkE32 v)
 have HS := hmk hS
 have HTD := hmk tb
 have hz := tb.z
 have kb : Hid (∀ W, Below w.heap.size w W -> v.lies false W S [.int .i64 k, .bool b, .int .i64 i, .string s, .slice al nl cl, .slice am nm cm]) := fun W hb => V.lies_keep (fun h => h) (fun x hx => hb.block x (hS x hx)) (fun _ h => h) _ hl0
 have c1 := hmk (check_any false v 32 S _ _ ⟨(HTD.out.below B0 HTD.out.z B0.size).u, by have := B0.size; omega⟩ (kb.out _ B0) (fun b hb => Nat.lt_of_lt_of_le (hS b hb) B0.size) (by omega))
 clear hl hl0 tb
 obtain ⟨e0, e1, e2, e3, e4, e5⟩ := cN6 hb0
 go_enter Tryz.func6, Tryz.ntmps6
 go_wp2_with fail
 generalize (w.alloc (.cells #[.int .i64 k, .bool b, .int .i64 i, .string s, .slice al nl cl, .slice am nm cm] 25)) = w0 at *
 refine c1.out.mono ?_
 rintro e w1 ⟨rfl, b1⟩
 have hz1 := b1.size
 have B1 := hmk (B0.trans (b1.mono (by omega)))
 clear c1 e0 e1 e2 e3 e4 e5
 by_cases hk : chkE v 32 = 0
 case neg =>
  obtain ⟨n, hnE⟩ : ∃ n : Nat, n = chkE v 32 := ⟨_, rfl⟩
  have HNE := hmk hnE
  rw [<- hnE] at hk ⊢
  clear hnE
  have y1 : ¬ (n : Int) = 0 := by omega
  go_wp2_with fail
  go_ret2
  exact ⟨B1.out, .inl ⟨by rw [<- HNE.out]; exact hk, by rw [<- HNE.out]; rfl⟩⟩
 have hc : (chkV 32 v 0 (0, 0, 0)).1 = 0 := by rw [<- HKE.out]; exact hk
 have HC := hmk hc
 have HK := hmk hk
 rw [hk]
 have hb1 : w1.heap[w.heap.size]? = some (.cells #[.int .i64 k, .bool b, .int .i64 i, .string s, .slice al nl cl, .slice am nm cm] 25 (0, 0)) := (b1.block _ (by omega)).trans hb0
 have hB2 : Below w1.heap.size w1 (w1.alloc (.cells #[.slice none 0 0] 43)) := (Below.refl _ _).alloc (Nat.le_refl _) _
 have hn2 : (w1.alloc (.cells #[.slice none 0 0] 43)).heap[w1.heap.size]? = some (.cells #[.slice none 0 0] 43 (0, 0)) := heap_alloc_new w1 _
 have hz2 := alloc_size w1 (.cells #[.slice none 0 0] 43)
 clear hc hk hb0 B0 b1
 go_wp2_with fail
 generalize w1.alloc (.cells #[.slice none 0 0] 43) = w2 at *
 have hz2' : w1.heap.size < w2.heap.size := by omega
 clear hz2
 have hb2 : w2.heap[w.heap.size]? = some (.cells #[.int .i64 k, .bool b, .int .i64 i, .string s, .slice al nl cl, .slice am nm cm] 25 (0, 0)) := (hB2.block _ (by omega)).trans hb1
 have B2 := hmk (B1.out.trans (hB2.mono (by omega)))
 obtain ⟨i0, hi0, hzz0, hzz1, hzz2⟩ := info_parts info35
 have hmkq : ∀ W, (Instr.makeSlice 46 (.int .i64 0) (.int .i64 32)).run Tryz.prog W = .ok (.slice (some ⟨W.heap.size, 0, none⟩) 0 32) (W.alloc (.cells (madeCells #[.int .i64 0, .string ⟨#[]⟩, .slice none 0 0, .int .i64 0, .bool false, .int .i64 0, .string ⟨#[]⟩, .slice none 0 0, .slice none 0 0] 288) 52)) := fun W => by
  have h := run_make (P := Tryz.prog) W 46 52 i0 _ Tryz.underlying46 hi0 hzz0 .i64 .i64 0 32 (by omega) (by omega) (by rw [hzz2]; omega) (by omega)
  rw [hzz1] at h
  simpa [Value.cells] using h
 clear hi0 hzz0 hzz1 hzz2
 have BD : Hid (Below w2.heap.size w2 w2.drew) := (Below.refl _ _).drew
 have HX2 := hmk hb2
 have HN2 := hmk hn2
 clear hb1 hb2 hn2 hB2
 refine wp_region_held_drew (S := fun W => W.heap[w.heap.size]? = some (.cells #[.int .i64 k, .bool b, .int .i64 i, .string s, .slice al nl cl, .slice am nm cm] 25 (0, 0))) (by kernel_rfl) HX2.out (fun hHeld => ?_)
 (refine tkA 1 ?_ ?_ ?_; rotate_left 1; (intro W0 hSw; obtain ⟨z0, z1, z2, z3, z4, z5⟩ := cN6 hSw; go_simp; (try with_reducible rfl)); (try simp only [Act.put, zA, zB, zC]))
 refine ryA [0] ?_
 refine rA1 fun K hK => ?_
 go_simp
 have b3 : Below w2.heap.size w2 (w2.alloc (.cells (madeCells #[.int .i64 0, .string ⟨#[]⟩, .slice none 0 0, .int .i64 0, .bool false, .int .i64 0, .string ⟨#[]⟩, .slice none 0 0, .slice none 0 0] 288) 52)).drew := ((Below.refl _ _).alloc (Nat.le_refl _) _).drew
 refine hK.out _ _ ((b3.block _ (by omega)).trans HX2.out) (fun hHeld => ?_)
 clear hK K
 (try simp only [Act.put, zA, zB, zC])
 have HOM : Hid ((w2.alloc (.cells (madeCells #[.int .i64 0, .string ⟨#[]⟩, .slice none 0 0, .int .i64 0, .bool false, .int .i64 0, .string ⟨#[]⟩, .slice none 0 0, .slice none 0 0] 288) 52)).drew.ownsRow 0 52 9 (pvOf w2.heap.size 0) 0 []) := World.ownsRow_made w2 _ 32 (Nat.zero_le _) (by simp [maxLen]) (size_madeCells _ _)
 have hz3 : w2.heap.size < (w2.alloc (.cells (madeCells #[.int .i64 0, .string ⟨#[]⟩, .slice none 0 0, .int .i64 0, .bool false, .int .i64 0, .string ⟨#[]⟩, .slice none 0 0, .slice none 0 0] 288) 52)).drew.heap.size := by have h := alloc_size w2 (.cells (madeCells #[.int .i64 0, .string ⟨#[]⟩, .slice none 0 0, .int .i64 0, .bool false, .int .i64 0, .string ⟨#[]⟩, .slice none 0 0, .slice none 0 0] 288) 52); show _ < (w2.alloc _).heap.size; omega
 clear hmkq
 generalize hw3 : (w2.alloc (.cells (madeCells #[.int .i64 0, .string ⟨#[]⟩, .slice none 0 0, .int .i64 0, .bool false, .int .i64 0, .string ⟨#[]⟩, .slice none 0 0, .slice none 0 0] 288) 52)).drew = w3 at *
 have B3 := hmk (B2.out.trans (b3.mono (by omega)))
 have RS : Hid (RdS S (fun _ => False) (fun _ => False) w1.heap.size w2.heap.size (.slice none 0 0) [] [] w3) :=
  ⟨HTD.out.below B3.out HTD.out.z B3.out.size, (b3.block _ (by omega)).trans HN2.out, ⟨⟨[], HOM.out, fun j hj => by simp at hj⟩, fun b hb => hb.elim⟩, OwnR.nil _ _, ⟨by omega, by omega, by omega, fun r e => by simp [Value.ownBlock] at e⟩, fun b hb => hb.elim, fun b hb => hb.elim, fun b hb => ⟨by have := HS.out b hb; omega, by have := HS.out b hb; omega, by have := HS.out b hb; omega, fun e => by simp [Value.ownBlock] at e⟩⟩
 have HC3 : Hid (Calls Tryz.prog 13 #[.pointer (some ⟨w1.heap.size, 0, none⟩), .slice (some ⟨w2.heap.size, 0, none⟩) 0 32, .agg #[.int .i64 k, .bool b, .int .i64 i, .string s, .slice al nl cl, .slice am nm cm]] w3 (RtPost v (dpV true [] v) (fun _ => False) w1.heap.size w2.heap.size (.slice none 0 0) [] [] w3)) :=
  at_any v S _ _ _ _ _ [] [] _ w3 (0, 0, 0) RS.out (kb.out w3 B3.out) (by simp) HC.out (fun e he => by cases he) (by simp; omega) hwt
 clear RS HOM
 refine ryA [2] ?_
 refine rA1 fun K hK => ?_
 go_simp
 refine HC3.out.mono ?_
 rintro e w7 ⟨f7, hcase⟩
 have hz7 := f7.size
 have B7 : Hid (Below w.heap.size w w7) := B3.out.trans ⟨f7.os, f7.tape, f7.output, f7.size, fun b hb => f7.block b (by omega) (by omega) (by omega) (fun e => by simp [Value.ownBlock] at e)⟩
 have HB7 : Hid (w7.heap[w.heap.size]? = some (.cells #[.int .i64 k, .bool b, .int .i64 i, .string s, .slice al nl cl, .slice am nm cm] 25 (0, 0))) := (f7.block _ (by omega) (by omega) (by omega) (fun e => by simp [Value.ownBlock] at e)).trans ((b3.block _ (by omega)).trans HX2.out)
 clear HC3
 rcases hcase with ⟨hn, rfl⟩ | ⟨D, Lx, sv7, SS7, hD, hR, hL, rfl, hb7, hq7, hv7, hss7⟩
 ·have HN := hmk hn
  clear hn f7 b3
  go_wp2_with fail
  refine hK.out _ _ HB7.out (fun hHeld => ?_)
  clear hK K
  (try simp only [Act.put, zA, zB, zC])
  (refine tjA 3 ?_; (try simp only [Act.put, zA, zB, zC]))
  refine wpAnyH_done (by kernel_rfl) ?_ _
  (try dsimp only [Act.put, List.getElem_toArray, List.getElem_cons_succ, List.getElem_cons_zero, List.setIfInBounds_toArray, List.set_cons_zero, List.set_cons_succ])
  clear hHeld
  go_wp2_with fail
  go_ret2
  exact ⟨B7.out, .inr (.inl ⟨HK.out, HN.out, rfl⟩)⟩
 ·rw [List.nil_append] at hq7
  obtain ⟨a, c, b', o, rfl, hh, hq⟩ := own_listQ (T := Tw S w w7) hq7 (fun b hb => .inr ⟨by rcases hss7 b hb with h | h; exact h.elim; omega, (hq7.off b hb).2.1⟩) (fun g hg => .inr ⟨by
   rcases hv7 with e | e
   ·rw [hg] at e; simp [Value.ownBlock] at e
   ·have := e g hg; omega, (hq7.lt hg).2⟩)
  have HD := hmk hD
  have HR := hmk hR
  have HQ := hmk hq
  have z0 : w7.cell? ⟨w1.heap.size, 0, none⟩ = some (.slice a Lx.length c) := by rw [cell_of_block hb7]; rfl
  clear hD hR hq hb7 hq7 hv7 hss7 f7 b3
  go_wp2_with fail
  refine hK.out _ _ HB7.out (fun hHeld => ?_)
  clear hK K
  (try simp only [Act.put, zA, zB, zC])
  (refine tjA 3 ?_; (try simp only [Act.put, zA, zB, zC]))
  refine wpAnyH_done (by kernel_rfl) ?_ _
  (try dsimp only [Act.put, List.getElem_toArray, List.getElem_cons_succ, List.getElem_cons_zero, List.setIfInBounds_toArray, List.set_cons_zero, List.set_cons_succ])
  clear hHeld
  go_wp2_with fail
  go_ret2
  exact ⟨B7.out, .inr (.inr ⟨D, Lx, a, c, b', o, HK.out, HD.out, HR.out, rfl, hh, HQ.out⟩)⟩
end Go.Proofs.YtdgfjdhobdfglaaGreatDoor
set_option maxRecDepth 100000
namespace Go.Proofs.YtdgfjdhobdfglaaGreatDoor
open Go.RowKit Go.Lib
def nestV (key : ByteArray) : Nat -> V
 | 0 => .mk 5 false 0 ⟨#[]⟩ [] []
 | n + 1 => .mk 5 false 0 ⟨#[]⟩ [] [(key, nestV key n)]
theorem nestV_wt (key : ByteArray) : ∀ n, (nestV key n).wt <= 1 + n * (key.size + 2)
 | 0 => by
  have e : (⟨#[]⟩ : ByteArray).size = 0 := rfl
  rw [nestV, V.wt]; simp only [wtL, wtM]; omega
 | n + 1 => by
  have := nestV_wt key n
  rw [nestV, V.wt]
  simp only [wtL, wtM]
  rw [Nat.succ_mul]
  have e : (⟨#[]⟩ : ByteArray).size = 0 := rfl
  omega
def NsPost (v : V) (w : World) (e : Ending) (w' : World) : Prop := ∃ cs : List Value, e = .returned (.agg cs.toArray) /\ v.lies false w' (New w w') cs /\ Below w.heap.size w w'
structure NsI (key : ByteArray) (w : World) (i : Nat) (wr : World) : Prop where
 b : Below w.heap.size w wr
 z : w.heap.size + 2 <= wr.heap.size
 r : wr.heap[w.heap.size]? = some (.cells #[.int .i64 0, .bool false, .int .i64 0, .string ⟨#[]⟩, .slice none 0 0, .slice none 0 0] 25 (0, 0))
 v : ∃ am nm cm, wr.heap[w.heap.size + 1]? = some (.cells #[.int .i64 5, .bool false, .int .i64 0, .string ⟨#[]⟩, .slice none 0 0, .slice am nm cm] 25 (0, 0)) /\ (nestV key i).lies false wr (fun b => w.heap.size + 2 <= b /\ b < wr.heap.size) [.int .i64 5, .bool false, .int .i64 0, .string ⟨#[]⟩, .slice none 0 0, .slice am nm cm]
theorem set6_all {w : World} {g : Nat} {a0 a1 a2 a3 a4 a5 : Value} {ty : TypeId} (h : w.heap[g]? = some (.cells #[a0, a1, a2, a3, a4, a5] ty (0, 0))) (c0 c1 c2 c3 c4 c5 : Value) :
 ((((((w.setCell ⟨g, 0, none⟩ c0).setCell ⟨g, 1, none⟩ c1).setCell ⟨g, 2, none⟩ c2).setCell ⟨g, 3, none⟩ c3).setCell ⟨g, 4, none⟩ c4).setCell ⟨g, 5, none⟩ c5).heap[g]? = some (.cells #[c0, c1, c2, c3, c4, c5] ty (0, 0)) := by
 have h0 := set_block h 0 c0
 have h1 := set_block h0 1 c1
 have h2 := set_block h1 2 c2
 have h3 := set_block h2 3 c3
 have h4 := set_block h3 4 c4
 have h5 := set_block h4 5 c5
 rw [h5]
 rfl
theorem set6_grown (w : World) (g : Nat) (c0 c1 c2 c3 c4 c5 : Value) :
 w.grownBy ((((((w.setCell ⟨g, 0, none⟩ c0).setCell ⟨g, 1, none⟩ c1).setCell ⟨g, 2, none⟩ c2).setCell ⟨g, 3, none⟩ c3).setCell ⟨g, 4, none⟩ c4).setCell ⟨g, 5, none⟩ c5) (some g) :=
 grown_set (grown_set (grown_set (grown_set (grown_set (grown_set (World.grownBy.refl w (some g)) 0 c0) 1 c1) 2 c2) 3 c3) 4 c4) 5 c5
set_option maxHeartbeats 8000000 in
theorem nest_any (key : ByteArray) (n : Nat) (w : World) (hn : 1 <= n) (hn2 : n <= 1000) (hk : key.size <= maxLen) :
 Calls Tryz.prog 10 #[.string key, .int .i64 (n : Int)] w (NsPost (nestV key (n - 1)) w) := by
 have I0 : NsI key w 0 ((w.alloc (.cells #[.int .i64 0, .bool false, .int .i64 0, .string ⟨#[]⟩, .slice none 0 0, .slice none 0 0] 25)).alloc (.cells #[.int .i64 5, .bool false, .int .i64 0, .string ⟨#[]⟩, .slice none 0 0, .slice none 0 0] 25)) := by
  refine ⟨two_below _ _ _, by rw [alloc_size, alloc_size]; omega, ?_, none, 0, 0, ?_, ?_⟩
  ·rw [Below.heap_alloc _ _ _ (by rw [alloc_size]; omega)]; exact heap_alloc_new _ _
  ·have := heap_alloc_new (w.alloc (.cells #[.int .i64 0, .bool false, .int .i64 0, .string ⟨#[]⟩, .slice none 0 0, .slice none 0 0] 25)) (.cells #[.int .i64 5, .bool false, .int .i64 0, .string ⟨#[]⟩, .slice none 0 0, .slice none 0 0] 25)
   rwa [alloc_size] at this
  ·rw [nestV, V.lies]
   exact ⟨none, 0, 0, 0, none, 0, 0, 0, rfl, ⟨by omega, by omega⟩, ⟨by omega, by omega⟩, by simp [maxLen, ByteArray.size], ⟨Nat.le_refl _, by simp [maxLen], .inl rfl, fun _ => rfl⟩, ⟨Nat.le_refl _, by simp [maxLen], .inl rfl, fun _ => rfl⟩, trivial, trivial, fun h => by cases h⟩
 have HI := hmk I0
 clear I0
 go_enter Tryz.func10, Tryz.ntmps10
 go_wp2_with fail
 go_loopw [6] (fun e wr => ∃ i : Nat, i + 1 <= n /\ e = .int .i64 ((i + 1 : Nat) : Int) /\ NsI key w i wr) (fun e _ => n - (RowKit.intOf e).toNat)
 case atStart => exact ⟨0, hn, rfl, HI.out⟩
 case round =>
  clear HI
  obtain ⟨i, hi, rfl, oj⟩ := hrel
  obtain ⟨am, nm, cm, hb, hl⟩ := oj.v
  have HL := hmk hl
  have hzr := oj.z
  have f0 : ∀ j, wr.frozen? ⟨w.heap.size + 1, j, none⟩ = false := fun j => frozen_of_block hb j
  obtain ⟨c0, c1, c2, c3, c4, c5⟩ := cN6 hb
  have f1 := f0 0
  have f2 := f0 1
  have f3 := f0 2
  have f4 := f0 3
  have f5 := f0 4
  have f6 := f0 5
  by_cases hin : i + 1 < n
  ·have y1 : (i : Int) + 1 < n := by omega
   have B1 : Below wr.heap.size wr (wr.alloc (.cells #[.string key, .int .i64 5, .bool false, .int .i64 0, .string ⟨#[]⟩, .slice none 0 0, .slice am nm cm] 40)) := (Below.refl _ _).alloc (Nat.le_refl _) _
   have hb1 : (wr.alloc (.cells #[.string key, .int .i64 5, .bool false, .int .i64 0, .string ⟨#[]⟩, .slice none 0 0, .slice am nm cm] 40)).heap[w.heap.size + 1]? = some (.cells #[.int .i64 5, .bool false, .int .i64 0, .string ⟨#[]⟩, .slice none 0 0, .slice am nm cm] 25 (0, 0)) := (B1.block _ (by omega)).trans hb
   have hz1 := alloc_size wr (.cells #[.string key, .int .i64 5, .bool false, .int .i64 0, .string ⟨#[]⟩, .slice none 0 0, .slice am nm cm] 40)
   have hn1 := heap_alloc_new wr (.cells #[.string key, .int .i64 5, .bool false, .int .i64 0, .string ⟨#[]⟩, .slice none 0 0, .slice am nm cm] 40)
   obtain ⟨d0, d1, d2, d3, d4, d5⟩ := cN6 hb1
   have g0 : (wr.alloc (.cells #[.string key, .int .i64 5, .bool false, .int .i64 0, .string ⟨#[]⟩, .slice none 0 0, .slice am nm cm] 40)).frozen? ⟨w.heap.size + 1, 0, none⟩ = false := frozen_of_block hb1 _
   have g1 : (wr.alloc (.cells #[.string key, .int .i64 5, .bool false, .int .i64 0, .string ⟨#[]⟩, .slice none 0 0, .slice am nm cm] 40)).frozen? ⟨w.heap.size + 1, 1, none⟩ = false := frozen_of_block hb1 _
   have g2 : (wr.alloc (.cells #[.string key, .int .i64 5, .bool false, .int .i64 0, .string ⟨#[]⟩, .slice none 0 0, .slice am nm cm] 40)).frozen? ⟨w.heap.size + 1, 2, none⟩ = false := frozen_of_block hb1 _
   have g3 : (wr.alloc (.cells #[.string key, .int .i64 5, .bool false, .int .i64 0, .string ⟨#[]⟩, .slice none 0 0, .slice am nm cm] 40)).frozen? ⟨w.heap.size + 1, 3, none⟩ = false := frozen_of_block hb1 _
   have g4 : (wr.alloc (.cells #[.string key, .int .i64 5, .bool false, .int .i64 0, .string ⟨#[]⟩, .slice none 0 0, .slice am nm cm] 40)).frozen? ⟨w.heap.size + 1, 4, none⟩ = false := frozen_of_block hb1 _
   have g5 : (wr.alloc (.cells #[.string key, .int .i64 5, .bool false, .int .i64 0, .string ⟨#[]⟩, .slice none 0 0, .slice am nm cm] 40)).frozen? ⟨w.heap.size + 1, 5, none⟩ = false := frozen_of_block hb1 _
   have HR := hmk ((B1.block _ (by omega)).trans oj.r)
   have HB := hmk (oj.b.trans (B1.mono oj.b.size))
   have HL1 : Hid ((nestV key i).lies false (wr.alloc (.cells #[.string key, .int .i64 5, .bool false, .int .i64 0, .string ⟨#[]⟩, .slice none 0 0, .slice am nm cm] 40)) (fun b => w.heap.size + 2 <= b /\ b < wr.heap.size) [.int .i64 5, .bool false, .int .i64 0, .string ⟨#[]⟩, .slice none 0 0, .slice am nm cm]) := V.lies_keep (fun h => h) (fun b hb => B1.block b hb.2) (fun _ h => h) _ HL.out
   have HS6 := hmk (set6_all hb1 (.int .i64 5) (.bool false) (.int .i64 0) (.string ⟨#[]⟩) (.slice none 0 0) (.slice (some ⟨wr.heap.size, 0, none⟩) 1 1))
   have HG6 := hmk (set6_grown (wr.alloc (.cells #[.string key, .int .i64 5, .bool false, .int .i64 0, .string ⟨#[]⟩, .slice none 0 0, .slice am nm cm] 40)) (w.heap.size + 1) (.int .i64 5) (.bool false) (.int .i64 0) (.string ⟨#[]⟩) (.slice none 0 0) (.slice (some ⟨wr.heap.size, 0, none⟩) 1 1))
   have HN1 := hmk hn1
   clear hl f0 oj hb hb1 B1 hn1
   go_wp2_with fail
   generalize (wr.alloc (.cells #[.string key, .int .i64 5, .bool false, .int .i64 0, .string ⟨#[]⟩, .slice none 0 0, .slice am nm cm] 40)) = w1 at *
   generalize ((((((w1).setCell ⟨w.heap.size + 1, 0, none⟩ (.int .i64 5)).setCell ⟨w.heap.size + 1, 1, none⟩ (.bool false)).setCell ⟨w.heap.size + 1, 2, none⟩ (.int .i64 0)).setCell ⟨w.heap.size + 1, 3, none⟩ (.string ⟨#[]⟩)).setCell ⟨w.heap.size + 1, 4, none⟩ (.slice none 0 0)).setCell ⟨w.heap.size + 1, 5, none⟩ (.slice (some ⟨wr.heap.size, 0, none⟩) 1 1) = w6 at *
   have hz2 := HG6.out.size
   have HBB : ∀ x, x < w1.heap.size -> x ≠ w.heap.size + 1 -> w6.heap[x]? = w1.heap[x]? := fun x hx hne => HG6.out.block x hx (fun e => hne (by injection e))
   have NI : Hid (NsI key w (i + 1) w6) := by
    refine ⟨HB.out.grown HG6.out (by omega) (fun k e => by injection e with e; omega), by omega, (HBB _ (by omega) (by omega)).trans HR.out, _, _, _, HS6.out, ?_⟩
    rw [nestV, V.lies]
    refine ⟨none, 0, 0, 0, some ⟨wr.heap.size, 0, none⟩, 1, wr.heap.size, 0, rfl, ⟨by omega, by omega⟩, ⟨by omega, by omega⟩, by simp [maxLen, ByteArray.size], ⟨Nat.le_refl _, by simp [maxLen], .inl rfl, fun _ => rfl⟩, ⟨by simp, by simp [maxLen], .inr rfl, fun e => by cases e⟩, trivial, ?_, fun h => by cases h⟩
    refine liesM_mk fun j hj => ?_
    obtain rfl : j = 0 := by simpa using hj
    refine ⟨⟨by omega, by omega⟩, hk, [.int .i64 5, .bool false, .int .i64 0, .string ⟨#[]⟩, .slice none 0 0, .slice am nm cm], ?_, ?_⟩
    ·intro q u hu
     rw [cell_of_block ((HBB _ (by omega) (by omega)).trans HN1.out), Nat.zero_mul, Nat.zero_add]
     rw [<- Array.getElem?_toList]
     exact hu
    ·exact V.lies_keep (fun h => h) (fun b hb => HBB b (by omega) (by omega)) (fun b hb => ⟨hb.1, by omega⟩) _ HL1.out
   go_roundw
   case rel => exact ⟨i + 1, by omega, by go_num, NI.out⟩
   case measure => simp [RowKit.intOf]; omega
  ·have y1 : ¬ (i : Int) + 1 < n := by omega
   obtain rfl : n = i + 1 := by omega
   obtain ⟨d0, d1, d2, d3, d4, d5⟩ := cN6 oj.r
   have g0 : wr.frozen? ⟨w.heap.size, 0, none⟩ = false := frozen_of_block oj.r _
   have g1 : wr.frozen? ⟨w.heap.size, 1, none⟩ = false := frozen_of_block oj.r _
   have g2 : wr.frozen? ⟨w.heap.size, 2, none⟩ = false := frozen_of_block oj.r _
   have g3 : wr.frozen? ⟨w.heap.size, 3, none⟩ = false := frozen_of_block oj.r _
   have g4 : wr.frozen? ⟨w.heap.size, 4, none⟩ = false := frozen_of_block oj.r _
   have g5 : wr.frozen? ⟨w.heap.size, 5, none⟩ = false := frozen_of_block oj.r _
   have HG6 := hmk (set6_grown wr w.heap.size (.int .i64 5) (.bool false) (.int .i64 0) (.string ⟨#[]⟩) (.slice none 0 0) (.slice am nm cm))
   have HS6 := hmk (set6_all oj.r (.int .i64 5) (.bool false) (.int .i64 0) (.string ⟨#[]⟩) (.slice none 0 0) (.slice am nm cm))
   have HB := hmk oj.b
   clear hl f0 oj hb
   go_wp2_with fail
   generalize ((((((wr).setCell ⟨w.heap.size, 0, none⟩ (.int .i64 5)).setCell ⟨w.heap.size, 1, none⟩ (.bool false)).setCell ⟨w.heap.size, 2, none⟩ (.int .i64 0)).setCell ⟨w.heap.size, 3, none⟩ (.string ⟨#[]⟩)).setCell ⟨w.heap.size, 4, none⟩ (.slice none 0 0)).setCell ⟨w.heap.size, 5, none⟩ (.slice am nm cm) = w6 at *
   have HB6 : Hid (Below w.heap.size w w6) := HB.out.grown HG6.out (by omega) (fun k e => by injection e with e; omega)
   have HL6 : Hid ((nestV key i).lies false w6 (New w w6) [.int .i64 5, .bool false, .int .i64 0, .string ⟨#[]⟩, .slice none 0 0, .slice am nm cm]) := V.lies_keep (fun h => h) (fun b hb => HG6.out.block b hb.2 (fun e => absurd (Option.some.inj e) (by omega))) (fun b hb => ⟨by omega, by have := HG6.out.size; omega⟩) _ HL.out
   obtain ⟨k0, k1, k2, k3, k4, k5⟩ := cN6 HS6.out
   (try simp only [Exit.inBlock, Exit.then])
   refine bodyPost_ret (v := .agg #[.int .i64 5, .bool false, .int .i64 0, .string ⟨#[]⟩, .slice none 0 0, .slice am nm cm]) ?_ rfl ?_
   ·rw [results_cell1 rfl]
    go_simp
   ·exact ⟨_, rfl, HL6.out, HB6.out⟩
end Go.Proofs.YtdgfjdhobdfglaaGreatDoor
set_option maxRecDepth 100000
namespace Go.Proofs.YtdgfjdhobdfglaaGreatDoor
open Go.RowKit Go.Lib
theorem vsame_any (v : V) (lv : Int) (S S' : Nat -> Prop) (cs ds : List Value) (w : World) (_ : 0 <= lv) (_ : lv <= 3) (h : v.lies false w S cs) (h' : v.lies false w S' ds) (hS : ∀ x, S x -> x < w.heap.size) (hS' : ∀ x, S' x -> x < w.heap.size) :
 Calls Tryz.prog 27 #[.agg cs.toArray, .agg ds.toArray] w (BPost true w) := by
 have := same_any v false false v S S' cs ds w h h' hS hS'
 rwa [V.eqB_refl] at this
end Go.Proofs.YtdgfjdhobdfglaaGreatDoor
