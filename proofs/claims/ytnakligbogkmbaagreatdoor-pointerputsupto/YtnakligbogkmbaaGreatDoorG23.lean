/- joined: RclA NweA RdyA -/
import Derived.Test.YtnakligbogkmbaaGreatDoorG22
import Derived.LoopN
set_option linter.unusedSimpArgs false
set_option linter.unusedVariables false
namespace Go.Proofs.YtnakligbogkmbaaGreatDoor
open Go.RowKit
theorem own_listL {w : World} {N : Nat} {S : Nat → Prop} {v : Value} {l : List V} (h : OwnL false w N S v (l.map some)) : ∃ a c b o, v = .slice a l.length c ∧ Headed a l.length c b o ∧ liesL false w (From N w) l b o := by
 have h' := h
 obtain ⟨⟨xs, h1, h2⟩, h3⟩ := h'
 rcases h1.2 with ⟨rfl, e⟩ | ⟨g, cap, cur, rfl, _⟩
 ·have e0 : l.length = 0 := by simpa using e
  have : l = [] := List.length_eq_zero_iff.1 e0
  subst this
  exact ⟨none, 0, 0, 0, rfl, headed_nil, by rw [liesL]; trivial⟩
 ·have hle := h.le
  have hlt := h.lt (g := g) rfl
  simp only [List.length_map] at hle ⊢
  refine ⟨_, cap, g, 0, rfl, ⟨hle.1, hle.2, .inr rfl, fun h => by cases h⟩, liesL_mk fun j hj => ⟨hlt, ?_⟩⟩
  obtain ⟨cs, k1, k2⟩ := h.at (by simp) j (by simpa using hj)
  rw [List.getElem_map] at k2
  exact ⟨cs, k1, V.lies_keep (fun h => h) (fun _ _ => rfl) (fun b hb => ⟨(h.off b hb).1, (h.off b hb).2.1⟩) _ k2⟩
theorem own_listM {w : World} {N : Nat} {S : Nat → Prop} {v : Value} {l : List Mem} (h : OwnM false w N S v (l.map some)) : ∃ a c b o, v = .slice a l.length c ∧ Headed a l.length c b o ∧ liesM false w (From N w) l b o := by
 have h' := h
 obtain ⟨⟨xs, h1, h2⟩, h3⟩ := h'
 rcases h1.2 with ⟨rfl, e⟩ | ⟨g, cap, cur, rfl, _⟩
 ·have e0 : l.length = 0 := by simpa using e
  have : l = [] := List.length_eq_zero_iff.1 e0
  subst this
  exact ⟨none, 0, 0, 0, rfl, headed_nil, by rw [liesM]; trivial⟩
 ·have hle := h.le
  have hlt := h.lt (g := g) rfl
  simp only [List.length_map] at hle ⊢
  refine ⟨_, cap, g, 0, rfl, ⟨hle.1, hle.2, .inr rfl, fun h => by cases h⟩, liesM_mk fun j hj => ?_⟩
  obtain ⟨cs, k1, k2⟩ := h.at (by simp) j (by simpa using hj)
  rw [List.getElem_map] at k2
  obtain ⟨cs', rfl, hks, k3⟩ := k2
  exact ⟨hlt, hks, cs', k1, V.lies_keep (fun h => h) (fun _ _ => rfl) (fun b hb => ⟨(h.off b hb).1, (h.off b hb).2.1⟩) _ k3⟩
set_option maxHeartbeats 8000000 in
set_option maxRecDepth 100000 in
theorem rcl_any (v : V) : ∀ (S : Nat → Prop) (cs : List Value) (w : World), v.lies false w S cs → (∀ b, S b → b < w.heap.size) → v.wt ≤ 2147483648 →
 Calls Tryz.prog 5 #[.agg cs.toArray] w (AnPost v w) := by
 induction v using V.ind_v with
 | h k b i s l m ihl ihm =>
 intro S cs w hl hS hwt
 rw [V.lies] at hl
 obtain ⟨al, cl, bl, ol, am, cm, bm, om, rfl, hk, hi, hs, hal, ham, hl1, hm1, _⟩ := hl
 have HL : Hid (liesL false w S l bl ol) := hl1
 have HM : Hid (liesM false w S m bm om) := hm1
 clear hl1 hm1
 rw [V.wt] at hwt
 have hlm := wtL_len l
 have hmm := wtM_len m
 obtain ⟨i0, hi0, hz0, hz1, hz2⟩ := info_parts info25
 obtain ⟨i1, hi1, hy0, hy1, hy2⟩ := info_parts info44
 have hI : Hid (Tryz.prog.info? 25 = some i0 ∧ i0.zero = some (.agg #[.int .i64 0, .bool false, .int .i64 0, .string ⟨#[]⟩, .slice none 0 0, .slice none 0 0]) ∧ i0.size = 6 ∧ i0.bytes = 88) := ⟨hi0, hz0, hz1, hz2⟩
 have hJ : Hid (Tryz.prog.info? 39 = some i1 ∧ i1.zero = some (.agg #[.string ⟨#[]⟩, .int .i64 0, .bool false, .int .i64 0, .string ⟨#[]⟩, .slice none 0 0, .slice none 0 0]) ∧ i1.size = 7 ∧ i1.bytes = 104) := ⟨hi1, hy0, hy1, hy2⟩
 clear hi0 hz0 hz1 hz2 hi1 hy0 hy1 hy2
 have t0 : TwF w #[.int .i64 k, .bool b, .int .i64 i, .string s, .slice al l.length cl, .slice am m.length cm] #[.int .i64 k, .bool b, .int .i64 i, .string s, .slice none 0 0, .slice none 0 0]
  (((w.alloc (oV k b i s al l.length cl am m.length cm)).alloc oN).alloc (oV k b i s none 0 0 none 0 0)) := by
  exact ⟨three_below w _ _ _, (three_allocs w _ _ _).1, (three_allocs w _ _ _).2.1, (three_allocs w _ _ _).2.2⟩
 go_enter Tryz.func5, Tryz.ntmps5
 go_wp2_with fail
 go_loopw [4] (fun e wr => ∃ (j : Nat) (slv : Value) (SL : Nat → Prop), j ≤ l.length ∧ e = .int .i64 (j : Int) ∧ TwF w #[.int .i64 k, .bool b, .int .i64 i, .string s, .slice al l.length cl, .slice am m.length cm] #[.int .i64 k, .bool b, .int .i64 i, .string s, slv, .slice none 0 0] wr ∧ OwnL false wr (w.heap.size + 3) SL slv ((l.map some).take j)) (fun e _ => l.length - (RowKit.intOf e).toNat)
 case atStart => exact ⟨0, _, _, by omega, rfl, t0, by simpa using OwnR.nil _ _⟩
 case round =>
  clear t0
  obtain ⟨j, slv, SL, hj, rfl, tj, oj⟩ := hrel
  have d4 : wr.cell? ⟨w.heap.size, 4, none⟩ = some (.slice al l.length cl) := by rw [cBk tj.b0]; rfl
  have d5 : wr.cell? ⟨w.heap.size, 5, none⟩ = some (.slice am m.length cm) := by rw [cBk tj.b0]; rfl
  by_cases hjl : j < l.length
  ·have y1 : (j : Int) < l.length := by omega
   obtain ⟨hSb, csj, hrow, hlj⟩ := liesL_get HL.out j hjl
   obtain rfl : al = some ⟨bl, ol, none⟩ := hal.at_.resolve_left (by omega)
   have hkw : ∀ b, S b → wr.heap[b]? = w.heap[b]? := fun b hb => tj.below.block b (hS b hb)
   have hrow' := hrow.keep (hkw _ hSb)
   have hlj' := V.lies_keep (R' := false) (S' := S) (fun h => h) hkw (fun _ h => h) _ hlj
   have hwj : (l[j]).wt ≤ 2147483648 := by have := wtL_mem (List.getElem_mem hjl); omega
   have ih := ihl l[j] (List.getElem_mem hjl) S csj wr hlj' (fun b hb => Nat.lt_of_lt_of_le (hS b hb) tj.below.size) hwj
   have HT : Hid ((l.map some).take (j + 1) = (l.map some).take j ++ [some l[j]]) := by show _ = _; rw [List.take_succ_eq_append_getElem (by simpa using hjl), List.getElem_map]
   obtain ⟨ek, eb, ei, es, eal, enl, ecl, eam, enm, ecm, rfl⟩ := V.ten hlj'
   obtain ⟨q0, q1, q2, q3, q4, q5⟩ := row6 hrow'
   have hll : ((l.map some).take j).length = j := by simp; omega
   obtain ⟨xv, hxv⟩ : ∃ xv, l[j] = xv := ⟨_, rfl⟩
   rw [hxv] at ih HT
   clear hlj hrow hrow' hlj' hxv hwj
   go_wp2_with fail
   refine ih.mono ?_
   rintro e w3 ⟨csu, rfl, hx3, bl3⟩
   obtain ⟨uk, ub, ui, us, ual, unl, ucl, uam, unm, ucm, rfl⟩ := V.ten hx3
   have t3 := tj.grown (grown_of_below bl3) (fun r e => by cases e)
   have o3 := oj.below (keepL false) bl3
   have e4 : ∀ o, (w3.alloc o).cell? ⟨w.heap.size + 1 + 1, 4, none⟩ = some slv := fun o => by rw [cBk (t3.grown (World.grownBy_alloc w3 o none) (fun r e => by cases e)).b2]; rfl
   have hw3 : w.heap.size + 3 ≤ w3.heap.size := t3.lt
   have hown : ∀ r, slv.ownBlock = some r → w.heap.size + 3 ≤ r ∧ r < wr.heap.size := fun r hr => oj.lt hr
   have HK : Hid (∀ b, wr.heap.size ≤ b ∧ b < w3.heap.size → w.heap.size + 3 ≤ b ∧ b < w3.heap.size ∧ some b ≠ slv.ownBlock) := fun b hb => ⟨by have := tj.lt; omega, hb.2, fun e => by have := (hown b e.symm).2; omega⟩
   go_wp2_with (at_builtin; go_loud (refine wpl_push (keepL false) _ rfl (.tmp 31) (.tmp 33) 22 rfl (w.heap.size + 3) i0 _ 88 Tryz.underlying22 hI.out.1 hI.out.2.1 hI.out.2.2.1 hI.out.2.2.2 rfl (by decide) (by decide) slv (some xv) rfl ((o3.alloc (keepL false) _).alloc (keepL false) _) (w3.heap.size + 1) 1 (0, 0) rfl (a2n w3 _ _) rfl one6 (keepL false _ _ _ _ _ _ (fun b hb => alloc2_keep w3 _ _ hb.2) (fun _ h => h) hx3) (fun b hb => alloc2_off (HK.out b hb)) (by rw [hll]; omega) (by rw [aSz, aSz]; omega) ?_))
   intro g cap w5 o5 g5 e5
   have t5 := ((t3.grown (World.grownBy_alloc w3 _ none) (fun r e => by cases e)).grown (World.grownBy_alloc _ _ none) (fun r e => by cases e)).grown g5 (fun r e => (hown r e).1)
   have e6 : w5.cell? ⟨w.heap.size + 1 + 1, 4, none⟩ = some slv := by rw [cBk t5.b2]; rfl
   have e7 : w5.frozen? ⟨w.heap.size + 1 + 1, 4, none⟩ = false := fBk t5.b2 4
   go_wp2_with fail
   go_roundw
   case rel => exact ⟨j + 1, _, _, by omega, by go_num, t5.set 4 _ rfl, by rw [HT.out]; exact o5.set (keepL false) (by omega) _ _⟩
   case measure => simp [RowKit.intOf]; omega
  ·obtain rfl : j = l.length := by omega
   have hlt : (l.map some).take l.length = l.map some := by rw [List.take_of_length_le (by simp)]
   rw [hlt] at oj
   clear hlt
   have y1 : ¬ (l.length : Int) < l.length := by omega
   rename World => wA
   have hownl : ∀ r, slv.ownBlock = some r → w.heap.size + 3 ≤ r ∧ r < wA.heap.size := fun r hr => oj.lt hr
   have hSl := oj.off
   have hA := tj.lt
   have bA := tj.below
   go_wp2_with fail
   go_loopw [6] (fun e wq => ∃ (j : Nat) (smv : Value) (SM : Nat → Prop), j ≤ m.length ∧ e = .int .i64 (j : Int) ∧ TwF w #[.int .i64 k, .bool b, .int .i64 i, .string s, .slice al l.length cl, .slice am m.length cm] #[.int .i64 k, .bool b, .int .i64 i, .string s, slv, smv] wq ∧ wA.heap.size ≤ wq.heap.size ∧ OwnL false wq (w.heap.size + 3) SL slv (l.map some) ∧ OwnM false wq wA.heap.size SM smv ((m.map some).take j)) (fun e _ => m.length - (RowKit.intOf e).toNat)
   case atStart => exact ⟨0, _, _, by omega, rfl, tj, Nat.le_refl _, oj, by simpa using OwnR.nil _ _⟩
   case round =>
    clear tj oj d4 d5
    obtain ⟨j, smv, SM, hj, rfl, tj, bq, oL, oj⟩ := hrel
    have d4 : wr.cell? ⟨w.heap.size, 4, none⟩ = some (.slice al l.length cl) := by rw [cBk tj.b0]; rfl
    have d5 : wr.cell? ⟨w.heap.size, 5, none⟩ = some (.slice am m.length cm) := by rw [cBk tj.b0]; rfl
    by_cases hjl : j < m.length
    ·have y1 : (j : Int) < m.length := by omega
     obtain ⟨hSb, hks, csj, hrow, hlj⟩ := liesM_get HM.out j hjl
     obtain rfl : am = some ⟨bm, om, none⟩ := ham.at_.resolve_left (by omega)
     have hkw : ∀ b, S b → wr.heap[b]? = w.heap[b]? := fun b hb => tj.below.block b (hS b hb)
     have hrow' := hrow.keep (hkw _ hSb)
     have hlj' := V.lies_keep (R' := false) (S' := S) (fun h => h) hkw (fun _ h => h) _ hlj
     have hwj : (m[j]).2.wt ≤ 2147483648 := by have := wtM_mem (List.getElem_mem hjl); omega
     have ih := ihm m[j] (List.getElem_mem hjl) S csj wr hlj' (fun b hb => Nat.lt_of_lt_of_le (hS b hb) tj.below.size) hwj
     have HT : Hid ((m.map some).take (j + 1) = (m.map some).take j ++ [some m[j]]) := by show _ = _; rw [List.take_succ_eq_append_getElem (by simpa using hjl), List.getElem_map]
     obtain ⟨ek, eb, ei, es, eal, enl, ecl, eam, enm, ecm, rfl⟩ := V.ten hlj'
     rcases hxj : m[j] with ⟨key, xv⟩
     rw [hxj] at ih HT hks hrow'
     obtain ⟨q, q0, q1, q2, q3, q4, q5⟩ := row7 hrow'
     have hll : ((m.map some).take j).length = j := by simp; omega
     have hbS := hS _ hSb
     clear hlj hrow hrow' hxj hlj' hwj
     go_wp2_with fail
     refine ih.mono ?_
     rintro e w3 ⟨csu, rfl, hx3, bl3⟩
     obtain ⟨uk, ub, ui, us, ual, unl, ucl, uam, unm, ucm, rfl⟩ := V.ten hx3
     have t3 := tj.grown (grown_of_below bl3) (fun r e => by cases e)
     have o3 := oj.below (keepM false) bl3
     have p3 := oL.below (keepL false) bl3
     have hw3 : w.heap.size + 3 ≤ w3.heap.size := t3.lt
     have hown : ∀ r, smv.ownBlock = some r → wA.heap.size ≤ r ∧ r < wr.heap.size := fun r hr => oj.lt hr
     have HK : Hid (∀ b, wr.heap.size ≤ b ∧ b < w3.heap.size → wA.heap.size ≤ b ∧ b < w3.heap.size ∧ some b ≠ smv.ownBlock) := fun b hb => ⟨by omega, hb.2, fun e => by have := (hown b e.symm).2; omega⟩
     have tw : ∀ o, TwF w _ _ (w3.alloc o) := fun o => t3.grown (World.grownBy_alloc w3 o none) (fun r e => by cases e)
     have e5 : ∀ o, (w3.alloc o).cell? ⟨w.heap.size + 1 + 1, 5, none⟩ = some smv := fun o => by rw [cBk (tw o).b2]; rfl
     have e5c : ∀ o o', ((w3.alloc o).alloc o').cell? ⟨w.heap.size + 1 + 1, 5, none⟩ = some smv := fun o o' => by rw [cBk ((tw o).grown (World.grownBy_alloc _ o' none) (fun r e => by cases e)).b2]; rfl
     have e5b : ∀ o, (w3.alloc o).cell? ⟨w.heap.size, 5, none⟩ = some (.slice (some ⟨bm, om, none⟩) m.length cm) := fun o => by rw [cBk (tw o).b0]; rfl
     have hq : ∀ (o : Obj) {u : Value} {p : Nat}, wr.cell? ⟨bm, p, none⟩ = some u → (w3.alloc o).cell? ⟨bm, p, none⟩ = some u := fun o u p h => ((grown_of_below bl3).trans' o).cell h (by simp)
     have q' := fun o => hq o q
     go_wp2_with fail
     have T5 : ∀ (o o' : Obj) (w5 : World), ((w3.alloc o).alloc o').drew.grownBy w5 smv.ownBlock → TwF w _ _ w5 ∧ OwnL false w5 (w.heap.size + 3) SL slv (l.map some) ∧ wA.heap.size ≤ w5.heap.size := fun o o' w5 g5 =>
      ⟨(((tw o).grown (World.grownBy_alloc _ o' none) (fun r e => by cases e)).grown (grown_drew _ none) (fun r e => by cases e)).grown g5 (fun r e => by have := (hown r e).1; omega),
        (((p3.alloc (keepL false) o).alloc (keepL false) o').drew (keepL false)).keep (keepL false) g5 (fun r e => ⟨fun h => by have := (hSl r h).2.1; have := (hown r e).1; omega, fun h => by have := (hownl r h).2; have := (hown r e).1; omega⟩),
        by have := g5.size; have e : ((w3.alloc o).alloc o').drew.heap.size = w3.heap.size + 1 + 1 := by show ((w3.alloc o).alloc o').heap.size = _; rw [aSz, aSz]
           have := bl3.size; omega⟩
     go_region_law (refine step_push (keepM false) rfl (.tmp 51) (.tmp 60) 23 rfl wA.heap.size i1 _ 104 Tryz.underlying23 hJ.out.1 hJ.out.2.1 hJ.out.2.2.1 hJ.out.2.2.2 rfl (by decide) (by decide) smv (some (key, xv)) rfl (((o3.alloc (keepM false) _).alloc (keepM false) _).drew (keepM false)) (w3.heap.size + 1) 1 (0, 0) rfl (a2n w3 _ _) rfl one7 (keepM false _ _ _ _ _ _ (fun b hb => alloc2_keep w3 _ _ hb.2) (fun _ h => h) ⟨_, rfl, hks, hx3⟩) (fun b hb => alloc2_off (HK.out b hb)) (by rw [hll]; omega) (by show wA.heap.size ≤ ((w3.alloc _).alloc _).heap.size; rw [aSz, aSz]; have := bl3.size; omega) ?_; intro g cap w5 o5 g5 e5; rw [hll] at o5 ⊢; obtain ⟨t5, p5, z5⟩ := T5 _ _ w5 g5; have e6 : w5.cell? ⟨w.heap.size + 1 + 1, 5, none⟩ = some smv := by { rw [cBk t5.b2]; rfl }; have e7 : w5.frozen? ⟨w.heap.size + 1 + 1, 5, none⟩ = false := fBk t5.b2 5)
     all_goals go_wp2_with fail
     all_goals go_roundw
     all_goals first
      | exact ⟨j + 1, _, _, by omega, by go_num, t5.set 5 _ rfl, by simpa using z5, p5.set (keepL false) (by omega) _ _, by rw [HT.out]; exact o5.set (keepM false) (by omega) _ _⟩
      | (simp [RowKit.intOf]; omega)
    ·obtain rfl : j = m.length := by omega
     have hlt : (m.map some).take m.length = m.map some := by rw [List.take_of_length_le (by simp)]
     rw [hlt] at oj
     clear hlt
     have y1 : ¬ (m.length : Int) < m.length := by omega
     have hown : ∀ r, smv.ownBlock = some r → wA.heap.size ≤ r ∧ r < wr.heap.size := fun r hr => oj.lt hr
     have hw3 := tj.lt
     obtain ⟨sa, sc, sb, so, rfl, hdl, hLs⟩ := own_listL oL
     obtain ⟨ta, tc, tb', tq, rfl, hdm, hMs⟩ := own_listM oj
     have HLs : Hid (liesL false wr (From (w.heap.size + 3) wr) l sb so) := hLs
     have HMs : Hid (liesM false wr (From (w.heap.size + 3) wr) m tb' tq) := lMk (fun h => h) (fun _ _ => rfl) (fun x hx => ⟨by have := hx.1; omega, hx.2⟩) _ hMs
     obtain ⟨x0, x1, x2, x3, x4, x5⟩ := sixC tj.b2
     obtain ⟨r0, r1, r2, r3, r4, r5⟩ := sixC tj.b1
     have rf : ∀ i, wr.frozen? ⟨w.heap.size + 1, i, none⟩ = false := fBk tj.b1
     have hB7 := tj.below
     clear oL oj tj hLs hMs hownl hSl hown HL HM ihl ihm
     go_wp2_with fail
     (try simp only [Exit.inBlock, Exit.then])
     refine bodyPost_ret (v := .agg #[.int .i64 k, .bool b, .int .i64 i, .string s, .slice sa l.length sc, .slice ta m.length tc]) ?_ rfl ?_
     ·rw [results_cell1 rfl]
      go_simp
     ·refine ⟨[.int .i64 k, .bool b, .int .i64 i, .string s, .slice sa l.length sc, .slice ta m.length tc], rfl, ?_, Below.set6 hB7 (by omega) _ _ _ _ _ _ _ _ _ _ _ _⟩
      have hf := lies_S (b := b) hk hi hs hdl hdm HLs.out HMs.out
      exact V.lies_keep (fun h => h) (fun _ _ => rfl) (fun x hx => ⟨by have := hx.1; omega, hx.2⟩) _ (lies_set6A hf (show w.heap.size + 1 < w.heap.size + 3 by omega) _ _ _ _ _ _ _ _ _ _ _ _)
end Go.Proofs.YtnakligbogkmbaaGreatDoor
namespace Go.Proofs.YtnakligbogkmbaaGreatDoor
open Go.RowKit Go.Lib
def nweF (v : V) (e : Int) : V × Int := if e = 0 then (if chkE v 40 = 0 then (v, 0) else (nullV, (chkE v 40 : Int))) else (nullV, e)
def NwPost (p : V × Int) (w : World) (e : Ending) (w' : World) : Prop := ∃ cs : List Value, e = .returned (.tuple #[.agg cs.toArray, .int .i64 p.2]) ∧ p.1.lies false w' (New w w') cs ∧ Below w.heap.size w w'
set_option maxHeartbeats 8000000 in
set_option maxRecDepth 100000 in
theorem nwe_any (v : V) (er : Int) (S : Nat → Prop) (cs : List Value) (w : World) (tb : Tb w) (hv : v.lies false w S cs) (hS : ∀ b, S b → b < w.heap.size) (hwt : v.wt ≤ 1099511627776) : Calls Tryz.prog 15 #[.agg cs.toArray, .int .i64 er] w (NwPost (nweF v er) w) := by
 have HV := hmk hv
 obtain ⟨k, b, i, s, al, nl, cl, am, nm, cm, rfl⟩ := V.ten hv
 clear hv
 have B0 : Below w.heap.size w ((w.alloc (oV k b i s al nl cl am nm cm)).alloc oN) := tBw w _ _
 have hz0 : ((w.alloc (oV k b i s al nl cl am nm cm)).alloc oN).heap.size = w.heap.size + 2 := by rw [aSz, aSz]
 have hz0 := hz0; dsimp only [oV, oN] at hz0
 have h0 := a2k w (oV k b i s al nl cl am nm cm) oN
 have h1 := a2n w (oV k b i s al nl cl am nm cm) oN
 have HC : Hid (∀ W, Below w.heap.size w W → Calls Tryz.prog 30 #[.agg #[.int .i64 k, .bool b, .int .i64 i, .string s, .slice al nl cl, .slice am nm cm], .int .i64 40] W (NPost (chkE v 40) W)) := fun W hb => check_any false v 40 S _ W (tb.below hb tb.z) (lBw HV.out hS hb) (fun x hx => Nat.lt_of_lt_of_le (hS x hx) hb.size) hwt
 have HL : Hid (∀ W, Below w.heap.size w W → Calls Tryz.prog 26 #[.agg #[.int .i64 k, .bool b, .int .i64 i, .string s, .slice al nl cl, .slice am nm cm]] W (AnPost (clnV v) W)) := fun W hb => clone_any v false S _ W (tb.below hb tb.z) (lBw HV.out hS hb) (fun x hx => Nat.lt_of_lt_of_le (hS x hx) hb.size) hwt
 have HW : Hid (nweF v er = if er = 0 then (if chkE v 40 = 0 then (v, (0 : Int)) else (nullV, (chkE v 40 : Int))) else (nullV, er)) := by show _ = _; rfl
 have HO : Hid (chkE v 40 = 0 → clnV v = v) := fun h => by
  rw [chkE40] at h
  rw [clnV, if_pos (by simp [okV, h])]
 clear tb hwt
 generalize nweF v er = NF at *
 generalize chkE v 40 = ce at *
 obtain ⟨r0, r1, r2, r3, r4, r5⟩ := sixC h0
 obtain ⟨z0, z1, z2, z3, z4, z5⟩ := sixC h1
 by_cases her : er = 0
 ·subst her
  go_enter Tryz.func15, Tryz.ntmps15
  go_wp2_with fail
  clear r0 r1 r2 r3 r4 r5 z0 z1 z2 z3 z4 z5
  generalize ((w.alloc (oV k b i s al nl cl am nm cm)).alloc oN) = w0 at *
  refine (HC.out w0 B0).mono ?_
  rintro e w1 ⟨rfl, b1⟩
  have hz1 := b1.size
  have B1 := B0.trans (b1.mono (by omega))
  have t0 := (b1.block w.heap.size (by omega)).trans h0
  have t1 := (b1.block (w.heap.size + 1) (by omega)).trans h1
  clear h0 h1 b1
  obtain ⟨r0, r1, r2, r3, r4, r5⟩ := sixC t0
  obtain ⟨z0, z1, z2, z3, z4, z5⟩ := sixC t1
  have rf := fBk t1
  by_cases hce : ce = 0
  ·subst hce
   have HN : Hid (NF = (v, 0)) := by show _ = _; rw [HW.out]; simp
   have hcl := HL.out w1 B1
   rw [HO.out rfl] at hcl
   go_wp2_with fail
   refine hcl.mono ?_
   rintro e w2 ⟨csu, rfl, hlu, b2⟩
   obtain ⟨uk, ub, ui, us, ual, unl, ucl, uam, unm, ucm, rfl⟩ := V.ten hlu
   have hz2 := b2.size
   have B2 := B1.trans (b2.mono (by omega))
   have t2 := (b2.block (w.heap.size + 1) (by omega)).trans t1
   have HU : Hid (v.lies false w2 (From (w.heap.size + 2) w2) [.int .i64 uk, .bool ub, .int .i64 ui, .string us, .slice ual unl ucl, .slice uam unm ucm]) := V.lies_keep (fun h => h) (fun _ _ => rfl) (fun x hx => ⟨by have := hx.1; omega, hx.2⟩) _ hlu
   clear r0 r1 r2 r3 r4 r5 z0 z1 z2 z3 z4 z5 rf hlu b2 hcl t0 t1
   obtain ⟨z0, z1, z2, z3, z4, z5⟩ := sixC t2
   have rf := fBk t2
   clear t2
   go_wp2_with fail
   (try simp only [Exit.inBlock, Exit.then])
   refine bodyPost_ret (v := .tuple #[.agg #[.int .i64 uk, .bool ub, .int .i64 ui, .string us, .slice ual unl ucl, .slice uam unm ucm], .int .i64 0]) ?_ rfl ?_
   rotate_left
   ·rw [HN.out]
    exact ⟨[.int .i64 uk, .bool ub, .int .i64 ui, .string us, .slice ual unl ucl, .slice uam unm ucm], rfl, V.lies_keep (fun h => h) (fun _ _ => rfl) (fun x hx => ⟨by have := hx.1; omega, hx.2⟩) _ (lies_set6A HU.out (by omega) _ _ _ _ _ _ _ _ _ _ _ _), Below.set6 B2 (by omega) _ _ _ _ _ _ _ _ _ _ _ _⟩
   ·rw [results_cell_tmp rfl]
    go_simp
  ·have HN : Hid (NF = (nullV, (ce : Int))) := by show _ = _; rw [HW.out]; simp [hce]
   have y1 : ¬ (ce : Int) = 0 := by omega
   clear t0 t1
   go_wp2_with fail
   (try simp only [Exit.inBlock, Exit.then])
   refine bodyPost_ret (v := .tuple #[.agg #[.int .i64 0, .bool false, .int .i64 0, .string ⟨#[]⟩, .slice none 0 0, .slice none 0 0], .int .i64 (ce : Int)]) ?_ rfl ?_
   rotate_left
   ·rw [HN.out]
    exact ⟨[.int .i64 0, .bool false, .int .i64 0, .string ⟨#[]⟩, .slice none 0 0, .slice none 0 0], rfl, null_lies _ _, Below.set6 B1 (by omega) _ _ _ _ _ _ _ _ _ _ _ _⟩
   ·rw [results_cell_tmp rfl]
    go_simp
 ·have HN : Hid (NF = (nullV, er)) := by show _ = _; rw [HW.out, if_neg her]
  have hf := fBk h1
  go_enter Tryz.func15, Tryz.ntmps15
  go_wp2_with fail
  (try simp only [Exit.inBlock, Exit.then])
  refine bodyPost_ret (v := .tuple #[.agg #[.int .i64 0, .bool false, .int .i64 0, .string ⟨#[]⟩, .slice none 0 0, .slice none 0 0], .int .i64 er]) ?_ rfl ?_
  rotate_left
  ·rw [HN.out]
   exact ⟨[.int .i64 0, .bool false, .int .i64 0, .string ⟨#[]⟩, .slice none 0 0, .slice none 0 0], rfl, null_lies _ _, tBw w _ _⟩
  ·rw [results_cell_tmp rfl]
   go_simp
end Go.Proofs.YtnakligbogkmbaaGreatDoor
namespace Go.Proofs.YtnakligbogkmbaaGreatDoor
open Go.RowKit Go.Lib
def rdF (v : V) (p : ByteArray) : Int := if chkE v 40 = 0 then (if (parF p.data.toList).isSome then 0 else 40) else (chkE v 40 : Int)
def RdPost (v : V) (p : ByteArray) (w : World) (e : Ending) (w' : World) : Prop := ∃ (tv : Value) (l : List ByteArray), e = .returned (.tuple #[tv, .int .i64 (rdF v p)]) ∧ (rdF v p = 0 → dat l = (parF p.data.toList).getD []) ∧ (rdF v p ≠ 0 → tv = .slice none 0 0 ∧ l = []) ∧ LiesS w' tv l ∧ Below w.heap.size w w'
set_option maxHeartbeats 8000000 in
set_option maxRecDepth 100000 in
theorem ready_any (v : V) (p : ByteArray) (S : Nat → Prop) (cs : List Value) (w : World) (tb : Tb w) (tp : Tp w) (hv : v.lies false w S cs) (hS : ∀ b, S b → b < w.heap.size) (hwt : v.wt ≤ 1099511627776) (hp : p.size ≤ 1100000) : Calls Tryz.prog 14 #[.agg cs.toArray, .string p, .slice none 0 0] w (RdPost v p w) := by
 have HV := hmk hv
 obtain ⟨k, b, i, s, al, nl, cl, am, nm, cm, rfl⟩ := V.ten hv
 clear hv
 have B0 : Below w.heap.size w (w.alloc (oV k b i s al nl cl am nm cm)) := oBw w _
 have hz0 : (w.alloc (oV k b i s al nl cl am nm cm)).heap.size = w.heap.size + 1 := by rw [aSz]
 have hz0 := hz0; dsimp only [oV, oN] at hz0
 have h0 : (w.alloc (oV k b i s al nl cl am nm cm)).heap[w.heap.size]? = _ := heap_alloc_new w _
 have HC := hmk (check_any false v 40 S _ (w.alloc (oV k b i s al nl cl am nm cm)) (tb.below B0 tb.z) (lBw HV.out hS B0) (fun x hx => Nat.lt_of_lt_of_le (hS x hx) B0.size) hwt)
 have HP : Hid (∀ W, Below w.heap.size w W → Calls Tryz.prog 31 #[.string p] W (PaPost (parF p.data.toList) W)) := fun W hb => pparse_any p W hp (tp.below hb tp.z)
 have HR : Hid (rdF v p = if chkE v 40 = 0 then (if (parF p.data.toList).isSome then 0 else 40) else (chkE v 40 : Int)) := by show _ = _; rfl
 unfold RdPost
 generalize rdF v p = rd at *
 generalize chkE v 40 = ce at *
 generalize parF p.data.toList = O at *
 clear tb tp hwt
 obtain ⟨r0, r1, r2, r3, r4, r5⟩ := sixC h0
 go_enter Tryz.func14, Tryz.ntmps14
 go_wp2_with fail
 clear r0 r1 r2 r3 r4 r5
 generalize (w.alloc (oV k b i s al nl cl am nm cm)) = w0 at *
 refine HC.out.mono ?_
 rintro e w1 ⟨rfl, b1⟩
 have hz1 := b1.size
 have B1 := B0.trans (b1.mono (by omega))
 by_cases hce : ce = 0
 ·subst hce
  go_wp2_with fail
  refine (HP.out w1 B1).mono ?_
  rintro e w2 ⟨tv, l, rfl, hd, hl, b2⟩
  have hz2 := b2.size
  have B2 := B1.trans (b2.mono (by omega))
  cases O with
  | none =>
   have HN : Hid (rd = 40) := by show _ = _; rw [HR.out]; simp
   go_wp2_with fail
   go_ret2
   exact ⟨_, [], by rw [HN.out]; rfl, (fun h => by rw [HN.out] at h; omega), (fun _ => ⟨rfl, rfl⟩), liesS_nil _, B2⟩
  | some o =>
   have HN : Hid (rd = 0) := by show _ = _; rw [HR.out]; simp
   go_wp2_with fail
   refine wp_loop_rounds 1 ?_
   rw [rounds_succ]
   go_wp2_with fail
   go_ret2
   exact ⟨tv, l, by rw [HN.out]; rfl, (fun _ => hd), (fun h => absurd HN.out h), hl, B2⟩
 ·have HN : Hid (rd = (ce : Int)) := by show _ = _; rw [HR.out, if_neg hce]
  have y1 : ¬ (ce : Int) = 0 := by omega
  go_wp2_with fail
  go_ret2
  exact ⟨_, [], by rw [HN.out]; rfl, (fun h => by rw [HN.out] at h; omega), (fun _ => ⟨rfl, rfl⟩), liesS_nil _, B1⟩
end Go.Proofs.YtnakligbogkmbaaGreatDoor
