/- joined: DifP DifX -/
import Derived.Test.YtjfldbmopjojdaaDoorG28
import Derived.Test.YtjfldbmopjojdaaDoorG36
set_option linter.unusedSimpArgs false
set_option linter.unusedVariables false
namespace Go.Proofs.YtjfldbmopjojdaaDoor
open Go Go.RowKit Go.Lib Go.Shelf
def dffF (a b : V) : V × Bool × Int :=
 if bothE a b = 0 then
  match btwV 41 a b with
  | none => (nullV, false, 0)
  | some d => ((finF d).1, ((finF d).2 == 0), (finF d).2)
 else (nullV, false, (bothE a b : Int))
def DgPost (r : V × Bool × Int) (w : World) (e : Ending) (w' : World) : Prop := ∃ cs : List Value, e = .returned (.tuple #[.agg cs.toArray, .bool r.2.1, .int .i64 r.2.2]) ∧ r.1.lies false w' (New w w') cs ∧ Below w.heap.size w w'
theorem nullV_wt : nullV.wt = 1 := by rw [nullV, V.wt, wtL, wtM]; rfl
theorem mapV_wt (m : List Mem) : (mapV m).wt = 1 + wtM m := by rw [mapV, V.wt, wtL]; show 1 + 0 + 0 + _ = _; omega
def prW (x : Pr) : Nat := x.key.size + (if x.f = true then x.va.wt else 0) + (if x.g = true then x.vb.wt else 0)
def prsW : List Pr → Nat
 | [] => 0
 | x :: t => prW x + prsW t
theorem stD_wt {f : List Mem → List Mem → Option (List Mem)} (hf : ∀ a b ms, f a b = some ms → wtM ms ≤ wtM a + wtM b) {x : Pr} (hx : x.f = true ∨ (x.g = true ∧ x.va = nullV)) {r : List Mem} (h : stD f x = some r) : wtM r ≤ prW x := by
 unfold prW
 unfold stD at h
 by_cases hg : x.g = false
 ·rw [if_pos hg] at h
  cases h
  have hf1 : x.f = true := by rcases hx with h | h; exact h; rw [hg] at h; cases h.1
  rw [wtM, wtM, nullV_wt, if_pos hf1]
  have := V.wt_pos x.va
  show x.key.size + 1 + 0 ≤ _
  omega
 ·have hg1 : x.g = true := by simpa using hg
  rw [if_neg hg] at h
  rw [if_pos hg1]
  by_cases hk : kindOf x.va = 5 ∧ kindOf x.vb = 5
  ·rw [if_pos hk] at h
   have hf1 : x.f = true := by
    rcases hx with h | h
    ·exact h
    ·rw [h.2] at hk; exact absurd hk.1 (by decide)
   rw [if_pos hf1]
   cases hr : f (memsOf x.va) (memsOf x.vb) with
   | none => rw [hr] at h; cases h
   | some l =>
    rw [hr] at h
    have h1 := hf _ _ _ hr
    have h2 := mems_wt x.va
    have h3 := mems_wt x.vb
    cases l with
    | nil => cases h; rw [wtM]; omega
    | cons y t => cases h; rw [wtM, wtM, mapV_wt]; show x.key.size + _ + 0 ≤ _; omega
  ·rw [if_neg hk] at h
   by_cases he : x.f = true ∧ eqlV x.va x.vb = true
   ·rw [if_pos he] at h; cases h; rw [wtM]; omega
   ·rw [if_neg he] at h
    by_cases hc : clnB x.vb = true
    ·rw [if_pos hc] at h; cases h; rw [wtM, wtM]; show x.key.size + _ + 0 ≤ _; omega
    ·rw [if_neg hc] at h; cases h
theorem stDs_wt {f : List Mem → List Mem → Option (List Mem)} (hf : ∀ a b ms, f a b = some ms → wtM ms ≤ wtM a + wtM b) : ∀ {l : List Pr} {ms : List Mem}, (∀ x ∈ l, x.f = true ∨ (x.g = true ∧ x.va = nullV)) → stDs f l = some ms → wtM ms ≤ prsW l
 | [], ms, _, h => by rw [stDs] at h; cases h; rw [wtM, prsW]; omega
 | x :: t, ms, hl, h => by
  rw [stDs] at h
  cases hx : stD f x with
  | none => rw [hx] at h; cases h
  | some a =>
   rw [hx] at h
   simp only at h
   cases ht : stDs f t with
   | none => rw [ht] at h; cases h
   | some b =>
    rw [ht] at h
    simp only at h
    cases h
    have h1 := stD_wt hf (hl x (List.mem_cons_self ..)) hx
    have h2 := stDs_wt hf (fun y hy => hl y (List.mem_cons_of_mem _ hy)) ht
    rw [wtM_apq, prsW]
    omega
theorem tg_flags : ∀ (a b : List (Mem × List Value)), ∀ x ∈ tgR a b, x.f = true ∨ (x.g = true ∧ x.va = nullV)
 | [], [], x, hx => by rw [tgR] at hx; cases hx
 | y :: s, [], x, hx => by
  rw [tgR] at hx
  rcases List.mem_cons.1 hx with rfl | hx
  ·exact .inl rfl
  ·exact tg_flags s [] x hx
 | [], z :: t, x, hx => by
  rw [tgR] at hx
  rcases List.mem_cons.1 hx with rfl | hx
  ·exact .inr ⟨rfl, rfl⟩
  ·exact tg_flags [] t x hx
 | y :: s, z :: t, x, hx => by
  rw [tgR] at hx
  split at hx
  ·rcases List.mem_cons.1 hx with rfl | hx
   ·exact .inl rfl
   ·exact tg_flags s (z :: t) x hx
  ·split at hx
   ·rcases List.mem_cons.1 hx with rfl | hx
    ·exact .inr ⟨rfl, rfl⟩
    ·exact tg_flags (y :: s) t x hx
   ·rcases List.mem_cons.1 hx with rfl | hx
    ·exact .inl rfl
    ·exact tg_flags s t x hx
termination_by a b => a.length + b.length
theorem tg_wt : ∀ (a b : List (Mem × List Value)), prsW (tgR a b) ≤ wtM (a.map (fun q => q.1)) + wtM (b.map (fun q => q.1))
 | [], [] => by rw [tgR, prsW]; omega
 | y :: s, [] => by
  have ih := tg_wt s []
  rw [List.map_nil, wtM] at ih
  rw [tgR, prsW, List.map_cons, wtM, List.map_nil, wtM]
  show y.1.1.size + y.1.2.wt + 0 + _ ≤ y.1.1.size + y.1.2.wt + _ + 0
  omega
 | [], z :: t => by
  have ih := tg_wt [] t
  rw [List.map_nil, wtM] at ih
  rw [tgR, prsW, List.map_cons, wtM, List.map_nil, wtM]
  show z.1.1.size + 0 + z.1.2.wt + _ ≤ 0 + (z.1.1.size + z.1.2.wt + _)
  omega
 | y :: s, z :: t => by
  have i1 := tg_wt s (z :: t)
  have i2 := tg_wt (y :: s) t
  have i3 := tg_wt s t
  obtain ⟨⟨ka, xa⟩, ca⟩ := y
  obtain ⟨⟨kb, xb⟩, cb⟩ := z
  simp only [List.map_cons, wtM] at i1 i2 ⊢
  rw [tgR]
  split
  ·rw [prsW]
   show ka.size + xa.wt + 0 + _ ≤ _
   omega
  ·split
   ·rw [prsW]
    show kb.size + 0 + xb.wt + _ ≤ _
    omega
   ·rw [prsW]
    show kb.size + xa.wt + xb.wt + _ ≤ _
    omega
termination_by a b => a.length + b.length
theorem bare_map (m : List Mem) : (bare m).map (fun q => q.1) = m := by rw [bare, List.map_map]; exact List.map_id' m
theorem btwM_wt : ∀ (n : Nat) (a b ms : List Mem), btwM n a b = some ms → wtM ms ≤ wtM a + wtM b
 | 0, a, b, ms, h => by rw [btwM] at h; cases h
 | n + 1, a, b, ms, h => by
  rw [btwM] at h
  have h1 := stDs_wt (btwM_wt n) (tg_flags _ _) h
  have h2 := tg_wt (bare a) (bare b)
  rw [bare_map, bare_map] at h2
  omega
theorem btw_wt {n : Nat} {a b d : V} (h : btwV n a b = some d) : d.wt ≤ a.wt + b.wt := by
 unfold btwV at h
 split at h
 ·cases hm : btwM n (memsOf a) (memsOf b) with
  | none => rw [hm] at h; cases h
  | some ms =>
   rw [hm] at h
   cases h
   have := btwM_wt n _ _ _ hm
   have := mems_wt a
   have := mems_wt b
   rw [mapV_wt]
   omega
 ·split at h
  ·cases h; omega
  ·split at h
   ·cases h; omega
   ·cases h
end Go.Proofs.YtjfldbmopjojdaaDoor
namespace Go.Proofs.YtjfldbmopjojdaaDoor
open Go.RowKit Go.Lib
def DaPost (r : V × Bool × Int) (w : World) (e : Ending) (w' : World) : Prop := ∃ cs : List Value, e = .returned (.tuple #[.agg cs.toArray, .bool r.2.1, .int .i64 r.2.2]) ∧ r.1.ap w' w.heap.size w'.heap.size cs ∧ Below w.heap.size w w'
set_option maxHeartbeats 8000000 in
set_option maxRecDepth 100000 in
theorem diff_ap (low : Addr) (a b : V) (S : Nat → Prop) (cs ds : List Value) (w : World) (hT : Tb w) (hE : ErrAt low w) (hv : a.lies false w S cs) (hx : b.lies false w S ds) (hS : ∀ b, S b → b < w.heap.size) (hwt : a.wt ≤ 2147483648) (hwp : b.wt ≤ 2147483648) :
 Calls Tryd.prog 20 #[.agg cs.toArray, .agg ds.toArray] w (DaPost (dffF a b) w) := by
 obtain ⟨tk, tb, ti, ts, tal, tnl, tcl, tam, tnm, tcm, rfl⟩ := V.ten hv
 obtain ⟨pk, pb, pi, ps, pal, pnl, pcl, pam, pnm, pcm, rfl⟩ := V.ten hx
 have HL : Hid (∀ W, Below w.heap.size w W → a.lies false W S [.int .i64 tk, .bool tb, .int .i64 ti, .string ts, .slice tal tnl tcl, .slice tam tnm tcm] ∧ b.lies false W S [.int .i64 pk, .bool pb, .int .i64 pi, .string ps, .slice pal pnl pcl, .slice pam pnm pcm] ∧ (∀ b, S b → b < W.heap.size)) := fun W hB => ⟨V.lies_keep (fun h => h) (fun x hx => hB.block x (hS x hx)) (fun x hx => hx) _ hv, V.lies_keep (fun h => h) (fun x hx => hB.block x (hS x hx)) (fun x hx => hx) _ hx, fun b hb => Nat.lt_of_lt_of_le (hS b hb) hB.size⟩
 have HT : Hid (∀ W, Below w.heap.size w W → Tb W) := fun W hb => hT.below hb hT.z
 have HE0 : Hid (∀ W, Below w.heap.size w W → ErrAt low W) := fun W hb => hE.below hb hE.z
 have Bww3 : Below w.heap.size w (((w.alloc (.cells #[.int .i64 tk, .bool tb, .int .i64 ti, .string ts, .slice tal tnl tcl, .slice tam tnm tcm] 25)).alloc (.cells #[.int .i64 pk, .bool pb, .int .i64 pi, .string ps, .slice pal pnl pcl, .slice pam pnm pcm] 25)).alloc (.cells #[.int .i64 0, .bool false, .int .i64 0, .string ⟨#[]⟩, .slice none 0 0, .slice none 0 0] 25)) := three_below w _ _ _
 have hz3 : (((w.alloc (.cells #[.int .i64 tk, .bool tb, .int .i64 ti, .string ts, .slice tal tnl tcl, .slice tam tnm tcm] 25)).alloc (.cells #[.int .i64 pk, .bool pb, .int .i64 pi, .string ps, .slice pal pnl pcl, .slice pam pnm pcm] 25)).alloc (.cells #[.int .i64 0, .bool false, .int .i64 0, .string ⟨#[]⟩, .slice none 0 0, .slice none 0 0] 25)).heap.size = w.heap.size + 3 := by rw [alloc_size, alloc_size, alloc_size]
 obtain ⟨htw3, hpw3, hzw3⟩ := three_allocs w (.cells #[.int .i64 tk, .bool tb, .int .i64 ti, .string ts, .slice tal tnl tcl, .slice tam tnm tcm] 25) (.cells #[.int .i64 pk, .bool pb, .int .i64 pi, .string ps, .slice pal pnl pcl, .slice pam pnm pcm] 25) (.cells #[.int .i64 0, .bool false, .int .i64 0, .string ⟨#[]⟩, .slice none 0 0, .slice none 0 0] 25)
 have C1 : Hid (∀ W, Below w.heap.size w W → Calls Tryd.prog 32 #[.agg #[.int .i64 tk, .bool tb, .int .i64 ti, .string ts, .slice tal tnl tcl, .slice tam tnm tcm], .agg #[.int .i64 pk, .bool pb, .int .i64 pi, .string ps, .slice pal pnl pcl, .slice pam pnm pcm]] W (NPost (bothE a b) W)) := fun W hb => both_any a b S _ _ W (HT.out W hb) (HL.out W hb).1 (HL.out W hb).2.1 (HL.out W hb).2.2 hwt hwp
 clear hv hx hT hE
 by_cases h1 : bothE a b = 0
 rotate_left
 ·have HF : Hid (dffF a b = (nullV, false, (bothE a b : Int))) := by show _ = _; rw [dffF, if_neg h1]
  generalize bothE a b = c1 at *
  have y1 : ¬ (c1 : Int) = 0 := by omega
  have yb1 : ((c1 : Int) != 0) = true := by simp; omega
  obtain ⟨ck0, ck1, ck2, ck3, ck4, ck5⟩ := sixC htw3
  obtain ⟨cl0, cl1, cl2, cl3, cl4, cl5⟩ := sixC hpw3
  go_enter_defers Tryd.func20, Tryd.ntmps20
  go_wp2_with fail
  clear ck0 ck1 ck2 ck3 ck4 ck5 cl0 cl1 cl2 cl3 cl4 cl5
  generalize (((w.alloc (.cells #[.int .i64 tk, .bool tb, .int .i64 ti, .string ts, .slice tal tnl tcl, .slice tam tnm tcm] 25)).alloc (.cells #[.int .i64 pk, .bool pb, .int .i64 pi, .string ps, .slice pal pnl pcl, .slice pam pnm pcm] 25)).alloc (.cells #[.int .i64 0, .bool false, .int .i64 0, .string ⟨#[]⟩, .slice none 0 0, .slice none 0 0] 25)) = w3 at *
  refine (C1.out w3 Bww3).mono ?_
  rintro e w4 ⟨rfl, b4⟩
  have hzw4 := b4.size
  have htw4 := (b4.block (w.heap.size) (by omega)).trans htw3
  have hpw4 := (b4.block (w.heap.size + 1) (by omega)).trans hpw3
  have hzw4 := (b4.block (w.heap.size + 2) (by omega)).trans hzw3
  have Bww4 := Bww3.trans (b4.mono (by omega))
  obtain ⟨cz0, cz1, cz2, cz3, cz4, cz5⟩ := sixC hzw4
  have fz := frozen_of_block hzw4
  have hz7 := box_six hzw4 (.int .i64 0) (.bool false) (.int .i64 0) (.string ⟨#[]⟩) (.slice none 0 0) (.slice none 0 0)
  have B7 := hmk (Below.set6 Bww4 (M := w.heap.size + 2) (by omega) 0 1 2 3 4 5 (.int .i64 0) (.bool false) (.int .i64 0) (.string ⟨#[]⟩) (.slice none 0 0) (.slice none 0 0))
  obtain ⟨cy0, cy1, cy2, cy3, cy4, cy5⟩ := sixC hz7
  clear HL HT HE0 C1 htw3 hpw3 hzw3 Bww3 b4
  go_wp2_with fail
  have EE : DaPost (dffF a b) w (.returned (.tuple #[.agg #[.int .i64 0, .bool false, .int .i64 0, .string ⟨#[]⟩, .slice none 0 0, .slice none 0 0], .bool false, .int .i64 (c1 : Int)])) ((((((w4.setCell ⟨w.heap.size + 2, 0, none⟩ (.int .i64 0)).setCell ⟨w.heap.size + 2, 1, none⟩ (.bool false)).setCell ⟨w.heap.size + 2, 2, none⟩ (.int .i64 0)).setCell ⟨w.heap.size + 2, 3, none⟩ (.string ⟨#[]⟩)).setCell ⟨w.heap.size + 2, 4, none⟩ (.slice none 0 0)).setCell ⟨w.heap.size + 2, 5, none⟩ (.slice none 0 0)) := by
   rw [HF.out]
   exact ⟨[.int .i64 0, .bool false, .int .i64 0, .string ⟨#[]⟩, .slice none 0 0, .slice none 0 0], rfl, null_ap _ B7.out.size, B7.out⟩
  first
  | (simp [Leaves, settle, results, Tryd.results20, go_sem, cy0, cy1, cy2, cy3, cy4, cy5]; exact EE)
  | (refine ⟨.tuple #[.agg #[.int .i64 0, .bool false, .int .i64 0, .string ⟨#[]⟩, .slice none 0 0, .slice none 0 0], .bool false, .int .i64 (c1 : Int)], ?_, EE⟩; simp [results, Tryd.results20, go_sem, cy0, cy1, cy2, cy3, cy4, cy5])
 obtain ⟨k1, k2⟩ := both_two h1
 have ot : Ok a := ok_chk (D := 32) (by omega) k1
 have op : Ok b := ok_chk (D := 32) (by omega) k2
 have CB : Hid (∀ W, Below w.heap.size w W → Calls Tryd.prog 41 #[.agg #[.int .i64 tk, .bool tb, .int .i64 ti, .string ts, .slice tal tnl tcl, .slice tam tnm tcm], .agg #[.int .i64 pk, .bool pb, .int .i64 pi, .string ps, .slice pal pnl pcl, .slice pam pnm pcm]] W (BvPost low (btwV 41 a b) S W)) := fun W hb => between_any low a b S _ _ W (HT.out W hb) (HE0.out W hb) ot op (HL.out W hb).1 (HL.out W hb).2.1 (HL.out W hb).2.2
 have HS : Hid (∀ W, Below w.heap.size w W → (∀ b, S b → b < W.heap.size)) := fun W hb => (HL.out W hb).2.2
 cases hb : btwV 41 a b with
 | none =>
  have HF : Hid (dffF a b = (nullV, false, 0)) := by show _ = _; rw [dffF, if_pos h1, hb]
  rw [hb] at CB
  rw [h1] at C1
  clear h1 k1 k2 hb ot op HL HT
  obtain ⟨ck0, ck1, ck2, ck3, ck4, ck5⟩ := sixC htw3
  obtain ⟨cl0, cl1, cl2, cl3, cl4, cl5⟩ := sixC hpw3
  go_enter_defers Tryd.func20, Tryd.ntmps20
  go_wp2_with fail
  clear ck0 ck1 ck2 ck3 ck4 ck5 cl0 cl1 cl2 cl3 cl4 cl5
  generalize (((w.alloc (.cells #[.int .i64 tk, .bool tb, .int .i64 ti, .string ts, .slice tal tnl tcl, .slice tam tnm tcm] 25)).alloc (.cells #[.int .i64 pk, .bool pb, .int .i64 pi, .string ps, .slice pal pnl pcl, .slice pam pnm pcm] 25)).alloc (.cells #[.int .i64 0, .bool false, .int .i64 0, .string ⟨#[]⟩, .slice none 0 0, .slice none 0 0] 25)) = w3 at *
  refine (C1.out w3 Bww3).mono ?_
  rintro e w4 ⟨rfl, b4⟩
  have hzw4 := b4.size
  have htw4 := (b4.block (w.heap.size) (by omega)).trans htw3
  have hpw4 := (b4.block (w.heap.size + 1) (by omega)).trans hpw3
  have hzw4 := (b4.block (w.heap.size + 2) (by omega)).trans hzw3
  have Bww4 := Bww3.trans (b4.mono (by omega))
  obtain ⟨ct0, ct1, ct2, ct3, ct4, ct5⟩ := sixC htw4
  obtain ⟨cp0, cp1, cp2, cp3, cp4, cp5⟩ := sixC hpw4
  go_wp2_with fail
  clear ct0 ct1 ct2 ct3 ct4 ct5 cp0 cp1 cp2 cp3 cp4 cp5
  refine (CB.out w4 Bww4).mono ?_
  rintro e w5 ⟨he, b5⟩
  subst he
  have hzw5 := b5.size
  have htw5 := (b5.block (w.heap.size) (by omega)).trans htw4
  have hpw5 := (b5.block (w.heap.size + 1) (by omega)).trans hpw4
  have hzw5 := (b5.block (w.heap.size + 2) (by omega)).trans hzw4
  have Bww5 := Bww4.trans (b5.mono (by omega))
  have hE5 := HE0.out w5 Bww5
  obtain ⟨cz0, cz1, cz2, cz3, cz4, cz5⟩ := sixC hzw5
  have HB5 := hmk Bww5
  clear CB C1 HE0 HS htw3 hpw3 hzw3 Bww3 Bww4 Bww5 b4 b5 htw4 hpw4 hzw4 htw5 hpw5 hzw5
  unfold errV
  go_wp2_with fail
  refine leaves_cons (f := 40) (args := #[]) (by simp) (by simp [go_sem]) ?_
  refine (diff_catch low w5 hE5).mono ?_
  rintro e u' w6 ⟨rfl, rfl, hw6⟩
  rw [hw6]
  clear hw6
  have EE : DaPost (dffF a b) w (.returned (.tuple #[.agg #[.int .i64 0, .bool false, .int .i64 0, .string ⟨#[]⟩, .slice none 0 0, .slice none 0 0], .bool false, .int .i64 0])) w5 := by
   rw [HF.out]
   exact ⟨[.int .i64 0, .bool false, .int .i64 0, .string ⟨#[]⟩, .slice none 0 0, .slice none 0 0], rfl, null_ap _ HB5.out.size, HB5.out⟩
  simp [Leaves, settle, results, Tryd.results20, go_sem, cz0, cz1, cz2, cz3, cz4, cz5]
  exact EE
 | some d =>
  have hwd : d.wt ≤ 2147483648 := by have := btw_wt hb; have := ot.wt; have := op.wt; omega
  have HF : Hid (dffF a b = ((finF d).1, ((finF d).2 == 0), (finF d).2)) := by show _ = _; rw [dffF, if_pos h1, hb]
  rw [hb] at CB
  rw [h1] at C1
  clear h1 k1 k2 hb ot op HL
  obtain ⟨ck0, ck1, ck2, ck3, ck4, ck5⟩ := sixC htw3
  obtain ⟨cl0, cl1, cl2, cl3, cl4, cl5⟩ := sixC hpw3
  go_enter_defers Tryd.func20, Tryd.ntmps20
  go_wp2_with fail
  clear ck0 ck1 ck2 ck3 ck4 ck5 cl0 cl1 cl2 cl3 cl4 cl5
  generalize (((w.alloc (.cells #[.int .i64 tk, .bool tb, .int .i64 ti, .string ts, .slice tal tnl tcl, .slice tam tnm tcm] 25)).alloc (.cells #[.int .i64 pk, .bool pb, .int .i64 pi, .string ps, .slice pal pnl pcl, .slice pam pnm pcm] 25)).alloc (.cells #[.int .i64 0, .bool false, .int .i64 0, .string ⟨#[]⟩, .slice none 0 0, .slice none 0 0] 25)) = w3 at *
  refine (C1.out w3 Bww3).mono ?_
  rintro e w4 ⟨rfl, b4⟩
  have hzw4 := b4.size
  have htw4 := (b4.block (w.heap.size) (by omega)).trans htw3
  have hpw4 := (b4.block (w.heap.size + 1) (by omega)).trans hpw3
  have hzw4 := (b4.block (w.heap.size + 2) (by omega)).trans hzw3
  have Bww4 := Bww3.trans (b4.mono (by omega))
  obtain ⟨ct0, ct1, ct2, ct3, ct4, ct5⟩ := sixC htw4
  obtain ⟨cp0, cp1, cp2, cp3, cp4, cp5⟩ := sixC hpw4
  go_wp2_with fail
  clear ct0 ct1 ct2 ct3 ct4 ct5 cp0 cp1 cp2 cp3 cp4 cp5
  refine (CB.out w4 Bww4).mono ?_
  rintro e w5 ⟨csr, rfl, hlr, b5⟩
  obtain ⟨rk, rb, ri, rs, ral, rnl, rcl, ram, rnm, rcm, rfl⟩ := V.ten hlr
  have hS4 := HS.out w4 Bww4
  have hzw5 := b5.size
  have htw5 := (b5.block (w.heap.size) (by omega)).trans htw4
  have hpw5 := (b5.block (w.heap.size + 1) (by omega)).trans hpw4
  have hzw5 := (b5.block (w.heap.size + 2) (by omega)).trans hzw4
  have Bww5 := Bww4.trans (b5.mono (by omega))
  have CF := finished_ap d _ _ w5 (HT.out w5 Bww5) hlr (fun y hy => by rcases hy with h | h <;> first | exact h.2 | (have := hS4 y h; omega)) hwd
  obtain ⟨⟨fv, fe⟩, hF⟩ : ∃ q, finF d = q := ⟨_, rfl⟩
  rw [hF] at CF
  rw [hF] at HF
  clear hlr hF CB C1 HE0 HS HT
  go_wp2_with fail
  refine CF.mono ?_
  rintro e w6 ⟨csn, rfl, hln, b6⟩
  clear CF
  simp only at hln
  obtain ⟨nk, nb, ni, ns, nal, nnl, ncl, nam, nnm, ncm, rfl⟩ := V.ten (V.ap_lies _ hln)
  have hzw6 := b6.size
  have htw6 := (b6.block (w.heap.size) (by omega)).trans htw5
  have hpw6 := (b6.block (w.heap.size + 1) (by omega)).trans hpw5
  have hzw6 := (b6.block (w.heap.size + 2) (by omega)).trans hzw5
  have Bww6 := Bww5.trans (b6.mono (by omega))
  obtain ⟨cz0, cz1, cz2, cz3, cz4, cz5⟩ := sixC hzw6
  have fz := frozen_of_block hzw6
  have hz7 := box_six hzw6 (.int .i64 nk) (.bool nb) (.int .i64 ni) (.string ns) (.slice nal nnl ncl) (.slice nam nnm ncm)
  have B7 := Below.set6 Bww6 (M := w.heap.size + 2) (by omega) 0 1 2 3 4 5 (.int .i64 nk) (.bool nb) (.int .i64 ni) (.string ns) (.slice nal nnl ncl) (.slice nam nnm ncm)
  obtain ⟨cy0, cy1, cy2, cy3, cy4, cy5⟩ := sixC hz7
  have fy := frozen_of_block hz7
  have L7 : fv.ap ((((((w6.setCell ⟨w.heap.size + 2, 0, none⟩ (.int .i64 nk)).setCell ⟨w.heap.size + 2, 1, none⟩ (.bool nb)).setCell ⟨w.heap.size + 2, 2, none⟩ (.int .i64 ni)).setCell ⟨w.heap.size + 2, 3, none⟩ (.string ns)).setCell ⟨w.heap.size + 2, 4, none⟩ (.slice nal nnl ncl)).setCell ⟨w.heap.size + 2, 5, none⟩ (.slice nam nnm ncm)) (w.heap.size + 3) (((((((w6.setCell ⟨w.heap.size + 2, 0, none⟩ (.int .i64 nk)).setCell ⟨w.heap.size + 2, 1, none⟩ (.bool nb)).setCell ⟨w.heap.size + 2, 2, none⟩ (.int .i64 ni)).setCell ⟨w.heap.size + 2, 3, none⟩ (.string ns)).setCell ⟨w.heap.size + 2, 4, none⟩ (.slice nal nnl ncl)).setCell ⟨w.heap.size + 2, 5, none⟩ (.slice nam nnm ncm))).heap.size [.int .i64 nk, .bool nb, .int .i64 ni, .string ns, .slice nal nnl ncl, .slice nam nnm ncm] := V.ap_wide (ap_set6 (V.ap_wide hln (lo' := w.heap.size + 3) (by have := b5.size; omega) (Nat.le_refl _)) (by omega) _ _ _ _ _ _ _ _ _ _ _ _) (Nat.le_refl _) (by simp only [size_set1]; exact Nat.le_refl _)
  have HE2 := hmk (ap_fin (M := w.heap.size + 2) (lo := w.heap.size + 3) (by omega) (by omega) B7 L7)
  have hz8 := box_six hz7 (.int .i64 nk) (.bool nb) (.int .i64 ni) (.string ns) (.slice nal nnl ncl) (.slice nam nnm ncm)
  obtain ⟨cw0, cw1, cw2, cw3, cw4, cw5⟩ := sixC hz8
  clear L7
  go_wp2_with fail
  refine leaves_cons (f := 40) (args := #[]) (by simp) (by simp [go_sem]) ?_
  refine (diff_idle _).mono ?_
  rintro e u' w'' ⟨rfl, rfl, rfl⟩
  refine ⟨.tuple #[.agg #[.int .i64 nk, .bool nb, .int .i64 ni, .string ns, .slice nal nnl ncl, .slice nam nnm ncm], .bool (fe == 0), .int .i64 fe], ?_, ?_⟩
  ·simp [results, Tryd.results20, go_sem, cw0, cw1, cw2, cw3, cw4, cw5]
  ·rw [HF.out]
   exact ⟨[.int .i64 nk, .bool nb, .int .i64 ni, .string ns, .slice nal nnl ncl, .slice nam nnm ncm], rfl, HE2.out.1, HE2.out.2⟩
end Go.Proofs.YtjfldbmopjojdaaDoor
