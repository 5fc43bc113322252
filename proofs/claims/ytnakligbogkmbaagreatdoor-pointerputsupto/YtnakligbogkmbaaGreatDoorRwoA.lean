import Derived.Test.YtnakligbogkmbaaGreatDoorStpA
set_option linter.unusedSimpArgs false
set_option linter.unusedVariables false
namespace Go.Proofs.YtnakligbogkmbaaGreatDoor
open Go.RowKit Go.Lib
theorem wo_fin {S : Nat → Prop} {w w3 : World} {x : V} {c0 c1 c2 c3 c4 c5 : Value} (hS : ∀ b, S b → b < w.heap.size) (B3 : Below w.heap.size w w3) (hz : w.heap.size + 2 ≤ w3.heap.size) (hx : x.lies false w3 (fun y => S y ∨ (w.heap.size + 2 ≤ y ∧ y < w3.heap.size)) [c0, c1, c2, c3, c4, c5]) :
 x.lies false ((((((w3.setCell ⟨w.heap.size + 1, 0, none⟩ (c0)).setCell ⟨w.heap.size + 1, 1, none⟩ (c1)).setCell ⟨w.heap.size + 1, 2, none⟩ (c2)).setCell ⟨w.heap.size + 1, 3, none⟩ (c3)).setCell ⟨w.heap.size + 1, 4, none⟩ (c4)).setCell ⟨w.heap.size + 1, 5, none⟩ (c5)) (OrNew S w ((((((w3.setCell ⟨w.heap.size + 1, 0, none⟩ (c0)).setCell ⟨w.heap.size + 1, 1, none⟩ (c1)).setCell ⟨w.heap.size + 1, 2, none⟩ (c2)).setCell ⟨w.heap.size + 1, 3, none⟩ (c3)).setCell ⟨w.heap.size + 1, 4, none⟩ (c4)).setCell ⟨w.heap.size + 1, 5, none⟩ (c5))) [c0, c1, c2, c3, c4, c5] ∧ Below w.heap.size w ((((((w3.setCell ⟨w.heap.size + 1, 0, none⟩ (c0)).setCell ⟨w.heap.size + 1, 1, none⟩ (c1)).setCell ⟨w.heap.size + 1, 2, none⟩ (c2)).setCell ⟨w.heap.size + 1, 3, none⟩ (c3)).setCell ⟨w.heap.size + 1, 4, none⟩ (c4)).setCell ⟨w.heap.size + 1, 5, none⟩ (c5)) := by
 have hot : ∀ y, y ≠ w.heap.size + 1 → ((((((w3.setCell ⟨w.heap.size + 1, 0, none⟩ (c0)).setCell ⟨w.heap.size + 1, 1, none⟩ (c1)).setCell ⟨w.heap.size + 1, 2, none⟩ (c2)).setCell ⟨w.heap.size + 1, 3, none⟩ (c3)).setCell ⟨w.heap.size + 1, 4, none⟩ (c4)).setCell ⟨w.heap.size + 1, 5, none⟩ (c5)).heap[y]? = w3.heap[y]? := fun y hy => by
  repeat (rw [sOt hy])
 have g2 : w3.grownBy ((((((w3.setCell ⟨w.heap.size + 1, 0, none⟩ (c0)).setCell ⟨w.heap.size + 1, 1, none⟩ (c1)).setCell ⟨w.heap.size + 1, 2, none⟩ (c2)).setCell ⟨w.heap.size + 1, 3, none⟩ (c3)).setCell ⟨w.heap.size + 1, 4, none⟩ (c4)).setCell ⟨w.heap.size + 1, 5, none⟩ (c5)) (some (w.heap.size + 1)) := gSt (gSt (gSt (gSt (gSt (gSt (World.grownBy.refl w3 _) 0 c0) 1 c1) 2 c2) 3 c3) 4 c4) 5 c5
 have s2 : ((((((w3.setCell ⟨w.heap.size + 1, 0, none⟩ (c0)).setCell ⟨w.heap.size + 1, 1, none⟩ (c1)).setCell ⟨w.heap.size + 1, 2, none⟩ (c2)).setCell ⟨w.heap.size + 1, 3, none⟩ (c3)).setCell ⟨w.heap.size + 1, 4, none⟩ (c4)).setCell ⟨w.heap.size + 1, 5, none⟩ (c5)).heap.size = w3.heap.size := by simp only [sz1]
 generalize ((((((w3.setCell ⟨w.heap.size + 1, 0, none⟩ (c0)).setCell ⟨w.heap.size + 1, 1, none⟩ (c1)).setCell ⟨w.heap.size + 1, 2, none⟩ (c2)).setCell ⟨w.heap.size + 1, 3, none⟩ (c3)).setCell ⟨w.heap.size + 1, 4, none⟩ (c4)).setCell ⟨w.heap.size + 1, 5, none⟩ (c5)) = wf at *
 refine ⟨V.lies_keep (fun h => h) (fun y hy => ?_) (fun y hy => ?_) _ hx, ⟨g2.os.trans B3.os, g2.tape.trans B3.tape, g2.output.trans B3.output, by have := B3.size; omega, fun q hq => (hot q (by omega)).trans (B3.block q hq)⟩⟩
 ·rcases hy with hy | hy
  ·have := hS y hy; exact hot y (by omega)
  ·exact hot y (by omega)
 ·rcases hy with hy | hy
  ·exact .inl hy
  ·exact .inr ⟨by omega, by omega⟩
theorem ownL_ {w : World} {S : Nat → Prop} {B : Nat} {v : Value} {ps : List (V × List Value)} (h : OwnC B 25 6 v (ps.map (fun q => q.2)) w) (hp : ∀ q ∈ ps, PL w S q) : ∃ a n b o, v = .slice a (ps.map (fun q => q.1)).length n ∧ Headed a (ps.map (fun q => q.1)).length n b o ∧ liesL false w (fun x => S x ∨ (B ≤ x ∧ x < w.heap.size)) (ps.map (fun q => q.1)) b o := ownL h hp
theorem ownM_ {w : World} {S : Nat → Prop} {B : Nat} {v : Value} {ps : List (Mem × List Value)} (h : OwnC B 39 7 v (ps.map (fun q => q.2)) w) (hp : ∀ q ∈ ps, PM w S q) : ∃ a n b o, v = .slice a (ps.map (fun q => q.1)).length n ∧ Headed a (ps.map (fun q => q.1)).length n b o ∧ liesM false w (fun x => S x ∨ (B ≤ x ∧ x < w.heap.size)) (ps.map (fun q => q.1)) b o := ownM h hp
set_option maxHeartbeats 8000000 in
set_option maxRecDepth 100000 in
theorem rwout_any (v : V) (j : Nat) (S : Nat → Prop) (cs : List Value) (w : World) (hv : v.lies false w S cs) (hS : ∀ b, S b → b < w.heap.size) (hwt : v.wt ≤ 1114112) (hj : j ≤ 2000000) :
 Calls Tryz.prog 44 #[.agg cs.toArray, .int .i64 (j : Int)] w (RpPost (outR v j) S w) := by
 obtain ⟨k, b, i, s, l, m⟩ := v
 rw [V.lies] at hv
 obtain ⟨al, cl, bl, ol, am, cm, bm, om, rfl, ik, ii, is, hal, ham, hl, hm, _⟩ := hv
 have hml : m.length ≤ 1114112 := by have := wtM_len m; simp only [V.wt] at hwt; omega
 have hll : l.length ≤ 1114112 := by have := wtL_len l; simp only [V.wt] at hwt; omega
 obtain ⟨ps, hp1, hp2, hp3, hp4⟩ := segL hl
 obtain ⟨qs, hq1, hq2, hq3, hq4⟩ := segM hm
 have hpl : ps.length = l.length := by rw [← hp1, List.length_map]
 have hql : qs.length = m.length := by rw [← hq1, List.length_map]
 have b2 : Below w.heap.size w ((w.alloc (oV k b i s al l.length cl am m.length cm)).alloc oN) := tBw w _ _
 have hz2 : ((w.alloc (oV k b i s al l.length cl am m.length cm)).alloc oN).heap.size = w.heap.size + 2 := by rw [aSz, aSz]
 have hz2 := hz2; dsimp only [oV, oN] at hz2
 have b3 : Below ((w.alloc (oV k b i s al l.length cl am m.length cm)).alloc oN).heap.size ((w.alloc (oV k b i s al l.length cl am m.length cm)).alloc oN) (((w.alloc (oV k b i s al l.length cl am m.length cm)).alloc oN).alloc (oV k false 0 ⟨#[]⟩ none 0 0 none 0 0)) := oBw _ _
 have hz3 : (((w.alloc (oV k b i s al l.length cl am m.length cm)).alloc oN).alloc (oV k false 0 ⟨#[]⟩ none 0 0 none 0 0)).heap.size = w.heap.size + 3 := by rw [aSz, hz2]
 have hz3 := hz3; dsimp only [oV, oN] at hz3
 have B3 : Below w.heap.size w (((w.alloc (oV k b i s al l.length cl am m.length cm)).alloc oN).alloc (oV k false 0 ⟨#[]⟩ none 0 0 none 0 0)) := b2.trans (b3.mono (by omega))
 have h0 := (b3.block w.heap.size (by omega)).trans (a2k w (oV k b i s al l.length cl am m.length cm) oN)
 have h1 := (b3.block (w.heap.size + 1) (by omega)).trans (a2n w (oV k b i s al l.length cl am m.length cm) oN)
 have h2 := heap_alloc_new ((w.alloc (oV k b i s al l.length cl am m.length cm)).alloc oN) (oV k false 0 ⟨#[]⟩ none 0 0 none 0 0)
 rw [hz2] at h2
 have g0 := a2k w (oV k b i s al l.length cl am m.length cm) oN
 have k0 : ((w.alloc (oV k b i s al l.length cl am m.length cm)).alloc oN).cell? ⟨w.heap.size, 0, none⟩ = some (.int .i64 k) := by rw [cBk g0]; rfl
 clear hl hm hwt b2 b3 hz2
 go_enter Tryz.func44, Tryz.ntmps44
 go_wp2_with fail
 clear k0
 generalize (((w.alloc (oV k b i s al l.length cl am m.length cm)).alloc oN).alloc (oV k false 0 ⟨#[]⟩ none 0 0 none 0 0)) = w3 at *
 go_loopw [6] (fun e wr => ∃ (q : Nat) (la : Option Addr) (ln lc : Nat), q ≤ l.length ∧ e = .int .i64 (q : Int) ∧ wr.heap[w.heap.size + 2]? = some (oV k false 0 ⟨#[]⟩ la ln lc none 0 0) ∧ Below (w.heap.size + 2) w3 wr ∧ OwnC (w.heap.size + 3) 25 6 (.slice la ln lc) (acc (ps.map (fun q => q.2)) j q) wr) (fun e _ => l.length - (RowKit.intOf e).toNat)
 case atStart => exact ⟨0, none, 0, 0, by omega, rfl, h2, Below.refl _ _, by rw [acc_zero]; exact World.ownsRow_nil _ _ _ _⟩
 case round =>
  obtain ⟨q, la, ln, lc, hq, rfl, hbox, bj, own⟩ := hrel
  have hzr := bj.size
  have Bz : Below w.heap.size w wr := B3.trans (bj.mono (by omega))
  have tb := (bj.block w.heap.size (by omega)).trans h0
  by_cases hql2 : q < l.length
  ·have y1 : (q : Int) < l.length := by omega
   have r4 : wr.cell? ⟨w.heap.size, 4, none⟩ = some (.slice al l.length cl) := by rw [cBk tb]; rfl
   by_cases hqj : q = j
   ·subst hqj
    have HAC : Hid (acc (ps.map (fun q => q.2)) q (q + 1) = acc (ps.map (fun q => q.2)) q q) := acc_skip _ _
    go_wp2_with fail
    go_roundw
    case rel => exact ⟨q + 1, la, ln, lc, by omega, by go_num, hbox, bj, by rw [HAC.out]; exact own⟩
    case measure => simp [RowKit.intOf]; omega
   ·have y2 : ¬ (q : Int) = (j : Int) := by omega
    obtain rfl : al = some ⟨bl, ol, none⟩ := hal.at_.resolve_left (by omega)
    have hSb : S bl := hp4 (by omega)
    have hbl := hS bl hSb
    have hq' : q < ps.length := by omega
    have HAC : Hid (acc (ps.map (fun q => q.2)) j (q + 1) = acc (ps.map (fun q => q.2)) j q ++ [(ps[q]).2]) := by
     show _ = _
     rw [acc_next _ _ _ (by simpa using hq') hqj, List.getElem_map]
    have hlie : (ps[q]).1.lies false w S (ps[q]).2 := hp3 ps[q] (List.getElem_mem hq')
    have rowq := (hp2.row q (by simpa using hq')).keep (Bz.block bl hbl)
    rw [List.getElem_map] at rowq
    have hone := (one_of_lies hlie).2
    have hal_ := acc_len (ps.map (fun q => q.2)) j q
    rw [List.length_map, hpl] at hal_
    generalize (ps[q]).2 = er at *
    obtain ⟨ek, eb, ei, es, eal, enl, ecl, eam, enm, ecm, rfl⟩ := V.ten hlie
    clear hlie
    go_wp2_with fail
    clear r4
    have bA : Below wr.heap.size wr (wr.alloc (oV ek eb ei es eal enl ecl eam enm ecm)).drew := ((Below.refl _ _).alloc (Nat.le_refl _) _).drew
    have hzA : (wr.alloc (oV ek eb ei es eal enl ecl eam enm ecm)).drew.heap.size = wr.heap.size + 1 := aSz wr (oV ek eb ei es eal enl ecl eam enm ecm)
    have hzA := hzA; dsimp only [oV, oN] at hzA
    have hA : (wr.alloc (oV ek eb ei es eal enl ecl eam enm ecm)).drew.heap[wr.heap.size]? = some (oV ek eb ei es eal enl ecl eam enm ecm) := heap_alloc_new wr (oV ek eb ei es eal enl ecl eam enm ecm)
    have cM : wr.cell? ⟨w.heap.size + 2, 4, none⟩ = some (.slice la ln lc) := by rw [cBk hbox]; rfl
    have cMA : (wr.alloc (oV ek eb ei es eal enl ecl eam enm ecm)).cell? ⟨w.heap.size + 2, 4, none⟩ = some (.slice la ln lc) := (World.cell?_of_block (w := wr) (a := ⟨w.heap.size + 2, 4, none⟩) (Below.heap_alloc wr (oV ek eb ei es eal enl ecl eam enm ecm) (w.heap.size + 2) (by omega))).trans cM
    have ownA := (own.alloc (oV ek eb ei es eal enl ecl eam enm ecm)).move (w' := (wr.alloc (oV ek eb ei es eal enl ecl eam enm ecm)).drew) (fun _ _ _ => rfl)
    have tbA := (bA.block w.heap.size (by omega)).trans tb
    have rowA : rowAt (wr.alloc (oV ek eb ei es eal enl ecl eam enm ecm)).drew bl (ol + q * 6) [.int .i64 ek, .bool eb, .int .i64 ei, .string es, .slice eal enl ecl, .slice eam enm ecm] := rowq.keep (bA.block bl (by omega))
    have boxA := (bA.block (w.heap.size + 2) (by omega)).trans hbox
    refine wp_region_held_drew (S := fun W => W.heap[w.heap.size]? = some (oV k b i s (some ⟨bl, ol, none⟩) l.length cl am m.length cm) ∧ rowAt W bl (ol + q * 6) [.int .i64 ek, .bool eb, .int .i64 ei, .string es, .slice eal enl ecl, .slice eam enm ecm]) (by kernel_rfl) ⟨tb, rowq⟩ (fun hHeld => ?_)
    (refine tjA 0 ?_; (try simp only [Act.put, zA, zB, zC]))
    (refine tjA 2 ?_; (try simp only [Act.put, zA, zB, zC]))
    (refine tkA 3 ?_ ?_ ?_; rotate_left 1; (intro W0 hSw; (have o9 : W0.cell? ⟨w.heap.size, 4, none⟩ = some (.slice (some ⟨bl, ol, none⟩) l.length cl) := by rw [cBk hSw.1]; rfl); go_simp; (try with_reducible rfl)); (try simp only [Act.put, zA, zB, zC]))
    (refine tjA 4 ?_; (try simp only [Act.put, zA, zB, zC]))
    (refine tjA 5 ?_; (try simp only [Act.put, zA, zB, zC]))
    (refine tkA 6 ?_ ?_ ?_; rotate_left 1; (intro W0 hSw; (obtain ⟨o0, o1, o2, o3, o4, o5⟩ := row6 hSw.2); go_simp; (try with_reducible rfl)); (try simp only [Act.put, zA, zB, zC]))
    refine ryA [1, 7] ?_
    refine rA2 (fun K hK => ?_) fun K hK => ?_
    focus
     go_simp
     refine hK.out _ _ ⟨tb, rowq⟩ (fun hHeld => ?_)
     clear hK K
     (try simp only [Act.put, zA, zB, zC])
     refine ryA [7] ?_
    rotate_left 1
    focus
     go_simp
     refine hK.out _ _ ⟨tbA, rowA⟩ (fun hHeld => ?_)
     clear hK K
     (try simp only [Act.put, zA, zB, zC])
     refine ryA [1] ?_
    rotate_left 1
    all_goals
     refine rA1 fun K hK => ?_
     go_simp
     refine hK.out _ _ ⟨tbA, rowA⟩ (fun hHeld => ?_)
     clear hK K
     (try simp only [Act.put, zA, zB, zC])
     refine ryA [8] ?_
     refine rA1 fun K hK => ?_
     refine step_appV rfl (.tmp 22) (.tmp 28) rfl (w.heap.size + 3) (.slice la ln lc) (acc (ps.map (fun q => q.2)) j q) rfl ownA wr.heap.size [.int .i64 ek, .bool eb, .int .i64 ei, .string es, .slice eal enl ecl, .slice eam enm ecm] rfl hone rfl hA (by omega) (by omega) ?_
     intro v' w5 o5 g5
     obtain ⟨va, vnl, vn, rfl⟩ : ∃ a n c, v' = .slice a n c := by obtain ⟨a, c, h⟩ := o5.slice; exact ⟨_, _, _, h⟩
     have hz5 := g5.size
     have hgn : ∀ z, z < w.heap.size + 3 → w5.heap[z]? = (wr.alloc (oV ek eb ei es eal enl ecl eam enm ecm)).drew.heap[z]? := fun z hz => g5.block z (by omega) (fun e => by have := (World.ownsRow.lt own z e.symm).1; omega)
     have b5 := (hgn (w.heap.size + 2) (by omega)).trans boxA
     have tb5 := (hgn w.heap.size (by omega)).trans tbA
     have row5 : rowAt w5 bl (ol + q * 6) [.int .i64 ek, .bool eb, .int .i64 ei, .string es, .slice eal enl ecl, .slice eam enm ecm] := rowA.keep (hgn bl (by omega))
     have c5 : w5.cell? ⟨w.heap.size + 2, 4, none⟩ = some (.slice la ln lc) := by rw [cBk b5]; rfl
     have f5 : w5.frozen? ⟨w.heap.size + 2, 4, none⟩ = false := fBk b5 4
     have B5 : Below (w.heap.size + 2) w3 w5 := ⟨g5.os.trans bj.os, g5.tape.trans bj.tape, g5.output.trans bj.output, by have := bj.size; omega, fun z hz => (hgn z (by omega)).trans ((bA.block z (by omega)).trans (bj.block z hz))⟩
     refine hK.out _ _ ⟨tb5, row5⟩ (fun hHeld => ?_)
     clear hK K
     (try simp only [Act.put, zA, zB, zC])
     (refine tjA 9 ?_; (try simp only [Act.put, zA, zB, zC]))
     refine ryA [10] ?_
     refine rA1 fun K hK => ?_
     go_simp
     have u5 : (w5.setCell ⟨w.heap.size + 2, 4, none⟩ (.slice va vnl vn)).heap[w.heap.size + 2]? = some (oV k false 0 ⟨#[]⟩ va vnl vn none 0 0) := by rw [sBk b5]; rfl
     have hs5 : ∀ z, z ≠ w.heap.size + 2 → (w5.setCell ⟨w.heap.size + 2, 4, none⟩ (.slice va vnl vn)).heap[z]? = w5.heap[z]? := fun z hz => by rw [sOt hz]
     have gs : w5.grownBy (w5.setCell ⟨w.heap.size + 2, 4, none⟩ (.slice va vnl vn)) (some (w.heap.size + 2)) := gSt (World.grownBy.refl w5 _) 4 _
     have ms : (w5.setCell ⟨w.heap.size + 2, 4, none⟩ (.slice va vnl vn)).heap.size = w5.heap.size := by simp only [sz1]
     generalize (w5.setCell ⟨w.heap.size + 2, 4, none⟩ (.slice va vnl vn)) = w6 at *
     have o6 : OwnC (w.heap.size + 3) 25 6 (.slice va vnl vn) ((acc (ps.map (fun q => q.2)) j q) ++ [[.int .i64 ek, .bool eb, .int .i64 ei, .string es, .slice eal enl ecl, .slice eam enm ecm]]) w6 := o5.move (fun z h1 _ => hs5 z (by omega))
     have B6 : Below (w.heap.size + 2) w3 w6 := ⟨gs.os.trans B5.os, gs.tape.trans B5.tape, gs.output.trans B5.output, by have := B5.size; omega, fun z hz => (hs5 z (by omega)).trans (B5.block z hz)⟩
     refine hK.out _ _ ⟨(hs5 _ (by omega)).trans tb5, row5.keep (hs5 bl (by omega))⟩ (fun hHeld => ?_)
     clear hK K
     (try simp only [Act.put, zA, zB, zC])
     refine wpAnyH_done (by kernel_rfl) ?_ _
     (try dsimp only [Act.put, List.getElem_toArray, List.getElem_cons_succ, List.getElem_cons_zero, List.setIfInBounds_toArray, List.set_cons_zero, List.set_cons_succ])
     clear hHeld c5 f5
     go_wp2_with fail
     go_roundw
     case rel => exact ⟨q + 1, _, _, _, by omega, by go_num, u5, B6, by rw [HAC.out]; exact o6⟩
     case measure => simp [RowKit.intOf]; omega
  ·obtain rfl : q = l.length := by omega
   have y1 : ¬ (l.length : Int) < l.length := by omega
   have r4 : wr.cell? ⟨w.heap.size, 4, none⟩ = some (.slice al l.length cl) := by rw [cBk tb]; rfl
   have hac : acc (ps.map (fun q => q.2)) j l.length = outL (ps.map (fun q => q.2)) j := by
    have : l.length = (ps.map (fun q => q.2)).length := by rw [List.length_map, hpl]
    rw [this, acc_all]
   rw [hac] at own
   have hlv : ∀ g, (Value.slice la ln lc).ownBlock = some g → g < wr.heap.size := fun g e => (World.ownsRow.lt own g e).2
   have hzb : w.heap.size + 3 ≤ wr.heap.size := by omega
   go_wp2_with fail
   clear r4 hac
   rename World => wA
   go_loopw [7] (fun e wr => ∃ (q : Nat) (ma : Option Addr) (mn mc : Nat), q ≤ m.length ∧ e = .int .i64 (q : Int) ∧ wr.heap[w.heap.size + 2]? = some (oV k false 0 ⟨#[]⟩ la ln lc ma mn mc) ∧ Below (w.heap.size + 2) w3 wr ∧ OwnC (w.heap.size + 3) 25 6 (.slice la ln lc) (outL (ps.map (fun q => q.2)) j) wr ∧ OwnC (wA.heap.size) 39 7 (.slice ma mn mc) (acc (qs.map (fun q => q.2)) j q) wr ∧ wA.heap.size ≤ wr.heap.size) (fun e _ => m.length - (RowKit.intOf e).toNat)
   case atStart => exact ⟨0, none, 0, 0, by omega, rfl, hbox, bj, own, by rw [acc_zero]; exact World.ownsRow_nil _ _ _ _, Nat.le_refl _⟩
   case round =>
    clear hbox bj own tb Bz hzr
    obtain ⟨q, ma, mn, mc, hq, rfl, hbox, bj, ownL, own, hAz⟩ := hrel
    have hzr := bj.size
    have Bz : Below w.heap.size w wr := B3.trans (bj.mono (by omega))
    have tb := (bj.block w.heap.size (by omega)).trans h0
    have r5 : wr.cell? ⟨w.heap.size, 5, none⟩ = some (.slice am m.length cm) := by rw [cBk tb]; rfl
    by_cases hql2 : q < m.length
    ·have y1 : (q : Int) < m.length := by omega
     by_cases hqj : q = j
     ·subst hqj
      have HAC : Hid (acc (qs.map (fun q => q.2)) q (q + 1) = acc (qs.map (fun q => q.2)) q q) := acc_skip _ _
      go_wp2_with fail
      go_roundw
      case rel => exact ⟨q + 1, ma, mn, mc, by omega, by go_num, hbox, bj, ownL, by rw [HAC.out]; exact own, hAz⟩
      case measure => simp [RowKit.intOf]; omega
     ·have y2 : ¬ (q : Int) = (j : Int) := by omega
      obtain rfl : am = some ⟨bm, om, none⟩ := ham.at_.resolve_left (by omega)
      have hSb : S bm := hq4 (by omega)
      have hbl := hS bm hSb
      have hq' : q < qs.length := by omega
      have HAC : Hid (acc (qs.map (fun q => q.2)) j (q + 1) = acc (qs.map (fun q => q.2)) j q ++ [(qs[q]).2]) := by
       show _ = _
       rw [acc_next _ _ _ (by simpa using hq') hqj, List.getElem_map]
      obtain ⟨es_, e0, hks, hlie⟩ := hq3 qs[q] (List.getElem_mem hq')
      have rowq := (hq2.row q (by simpa using hq')).keep (Bz.block bm hbl)
      rw [List.getElem_map, e0] at rowq
      rw [e0] at HAC
      have hone0 := (one_of_lies hlie).2
      have hone : ∀ u ∈ (Value.string (qs[q]).1.1 :: es_), u.oneCell' = true := fun u hu => by
       rcases List.mem_cons.1 hu with rfl | hu
       ·rfl
       ·exact hone0 u hu
      have hal_ := acc_len (qs.map (fun q => q.2)) j q
      rw [List.length_map, hql] at hal_
      generalize (qs[q]).1.1 = ekey at *
      obtain ⟨ek, eb, ei, es, eal, enl, ecl, eam, enm, ecm, rfl⟩ := V.ten hlie
      clear hlie hone0 e0
      go_wp2_with fail
      clear r5
      have bA : Below wr.heap.size wr (wr.alloc (.cells #[.string ekey, .int .i64 ek, .bool eb, .int .i64 ei, .string es, .slice eal enl ecl, .slice eam enm ecm] 39)).drew := ((Below.refl _ _).alloc (Nat.le_refl _) _).drew
      have hzA : (wr.alloc (.cells #[.string ekey, .int .i64 ek, .bool eb, .int .i64 ei, .string es, .slice eal enl ecl, .slice eam enm ecm] 39)).drew.heap.size = wr.heap.size + 1 := aSz wr (.cells #[.string ekey, .int .i64 ek, .bool eb, .int .i64 ei, .string es, .slice eal enl ecl, .slice eam enm ecm] 39)
      have hA : (wr.alloc (.cells #[.string ekey, .int .i64 ek, .bool eb, .int .i64 ei, .string es, .slice eal enl ecl, .slice eam enm ecm] 39)).drew.heap[wr.heap.size]? = some (.cells #[.string ekey, .int .i64 ek, .bool eb, .int .i64 ei, .string es, .slice eal enl ecl, .slice eam enm ecm] 39) := heap_alloc_new wr (.cells #[.string ekey, .int .i64 ek, .bool eb, .int .i64 ei, .string es, .slice eal enl ecl, .slice eam enm ecm] 39)
      have cM : wr.cell? ⟨w.heap.size + 2, 5, none⟩ = some (.slice ma mn mc) := by rw [cBk hbox]; rfl
      have cMA : (wr.alloc (.cells #[.string ekey, .int .i64 ek, .bool eb, .int .i64 ei, .string es, .slice eal enl ecl, .slice eam enm ecm] 39)).cell? ⟨w.heap.size + 2, 5, none⟩ = some (.slice ma mn mc) := (World.cell?_of_block (w := wr) (a := ⟨w.heap.size + 2, 5, none⟩) (Below.heap_alloc wr (.cells #[.string ekey, .int .i64 ek, .bool eb, .int .i64 ei, .string es, .slice eal enl ecl, .slice eam enm ecm] 39) (w.heap.size + 2) (by omega))).trans cM
      have ownA := (own.alloc (.cells #[.string ekey, .int .i64 ek, .bool eb, .int .i64 ei, .string es, .slice eal enl ecl, .slice eam enm ecm] 39)).move (w' := (wr.alloc (.cells #[.string ekey, .int .i64 ek, .bool eb, .int .i64 ei, .string es, .slice eal enl ecl, .slice eam enm ecm] 39)).drew) (fun _ _ _ => rfl)
      have tbA := (bA.block w.heap.size (by omega)).trans tb
      have rowA : rowAt (wr.alloc (.cells #[.string ekey, .int .i64 ek, .bool eb, .int .i64 ei, .string es, .slice eal enl ecl, .slice eam enm ecm] 39)).drew bm (om + q * 7) [.string ekey, .int .i64 ek, .bool eb, .int .i64 ei, .string es, .slice eal enl ecl, .slice eam enm ecm] := rowq.keep (bA.block bm (by omega))
      have boxA := (bA.block (w.heap.size + 2) (by omega)).trans hbox
      refine wp_region_held_drew (S := fun W => W.heap[w.heap.size]? = some (oV k b i s al l.length cl (some ⟨bm, om, none⟩) m.length cm) ∧ rowAt W bm (om + q * 7) [.string ekey, .int .i64 ek, .bool eb, .int .i64 ei, .string es, .slice eal enl ecl, .slice eam enm ecm]) (by kernel_rfl) ⟨tb, rowq⟩ (fun hHeld => ?_)
      (refine tjA 0 ?_; (try simp only [Act.put, zA, zB, zC]))
      (refine tjA 2 ?_; (try simp only [Act.put, zA, zB, zC]))
      (refine tkA 3 ?_ ?_ ?_; rotate_left 1; (intro W0 hSw; (have o9 : W0.cell? ⟨w.heap.size, 5, none⟩ = some (.slice (some ⟨bm, om, none⟩) m.length cm) := by rw [cBk hSw.1]; rfl); go_simp; (try with_reducible rfl)); (try simp only [Act.put, zA, zB, zC]))
      (refine tjA 4 ?_; (try simp only [Act.put, zA, zB, zC]))
      (refine tjA 5 ?_; (try simp only [Act.put, zA, zB, zC]))
      (refine tkA 6 ?_ ?_ ?_; rotate_left 1; (intro W0 hSw; (obtain ⟨oo, o0, o1, o2, o3, o4, o5⟩ := row7 hSw.2); go_simp; (try with_reducible rfl)); (try simp only [Act.put, zA, zB, zC]))
      refine ryA [1, 7] ?_
      refine rA2 (fun K hK => ?_) fun K hK => ?_
      focus
       go_simp
       refine hK.out _ _ ⟨tb, rowq⟩ (fun hHeld => ?_)
       clear hK K
       (try simp only [Act.put, zA, zB, zC])
       refine ryA [7] ?_
      rotate_left 1
      focus
       go_simp
       refine hK.out _ _ ⟨tbA, rowA⟩ (fun hHeld => ?_)
       clear hK K
       (try simp only [Act.put, zA, zB, zC])
       refine ryA [1] ?_
      rotate_left 1
      all_goals
       refine rA1 fun K hK => ?_
       go_simp
       refine hK.out _ _ ⟨tbA, rowA⟩ (fun hHeld => ?_)
       clear hK K
       (try simp only [Act.put, zA, zB, zC])
       refine ryA [8] ?_
       refine rA1 fun K hK => ?_
       refine step_appM rfl (.tmp 42) (.tmp 48) rfl (wA.heap.size) (.slice ma mn mc) (acc (qs.map (fun q => q.2)) j q) rfl ownA wr.heap.size [.string ekey, .int .i64 ek, .bool eb, .int .i64 ei, .string es, .slice eal enl ecl, .slice eam enm ecm] rfl hone rfl hA (by omega) (by omega) ?_
       intro v' w5 o5 g5
       obtain ⟨va, vnl, vn, rfl⟩ : ∃ a n c, v' = .slice a n c := by obtain ⟨a, c, h⟩ := o5.slice; exact ⟨_, _, _, h⟩
       have hz5 := g5.size
       have hgn : ∀ z, z < w.heap.size + 3 → w5.heap[z]? = (wr.alloc (.cells #[.string ekey, .int .i64 ek, .bool eb, .int .i64 ei, .string es, .slice eal enl ecl, .slice eam enm ecm] 39)).drew.heap[z]? := fun z hz => g5.block z (by omega) (fun e => by have := (World.ownsRow.lt own z e.symm).1; omega)
       have b5 := (hgn (w.heap.size + 2) (by omega)).trans boxA
       have tb5 := (hgn w.heap.size (by omega)).trans tbA
       have row5 : rowAt w5 bm (om + q * 7) [.string ekey, .int .i64 ek, .bool eb, .int .i64 ei, .string es, .slice eal enl ecl, .slice eam enm ecm] := rowA.keep (hgn bm (by omega))
       have c5 : w5.cell? ⟨w.heap.size + 2, 5, none⟩ = some (.slice ma mn mc) := by rw [cBk b5]; rfl
       have f5 : w5.frozen? ⟨w.heap.size + 2, 5, none⟩ = false := fBk b5 5
       have B5 : Below (w.heap.size + 2) w3 w5 := ⟨g5.os.trans bj.os, g5.tape.trans bj.tape, g5.output.trans bj.output, by have := bj.size; omega, fun z hz => (hgn z (by omega)).trans ((bA.block z (by omega)).trans (bj.block z hz))⟩
       refine hK.out _ _ ⟨tb5, row5⟩ (fun hHeld => ?_)
       clear hK K
       (try simp only [Act.put, zA, zB, zC])
       (refine tjA 9 ?_; (try simp only [Act.put, zA, zB, zC]))
       refine ryA [10] ?_
       refine rA1 fun K hK => ?_
       go_simp
       have u5 : (w5.setCell ⟨w.heap.size + 2, 5, none⟩ (.slice va vnl vn)).heap[w.heap.size + 2]? = some (oV k false 0 ⟨#[]⟩ la ln lc va vnl vn) := by rw [sBk b5]; rfl
       have hs5 : ∀ z, z ≠ w.heap.size + 2 → (w5.setCell ⟨w.heap.size + 2, 5, none⟩ (.slice va vnl vn)).heap[z]? = w5.heap[z]? := fun z hz => by rw [sOt hz]
       have gs : w5.grownBy (w5.setCell ⟨w.heap.size + 2, 5, none⟩ (.slice va vnl vn)) (some (w.heap.size + 2)) := gSt (World.grownBy.refl w5 _) 5 _
       have ms : (w5.setCell ⟨w.heap.size + 2, 5, none⟩ (.slice va vnl vn)).heap.size = w5.heap.size := by simp only [sz1]
       generalize (w5.setCell ⟨w.heap.size + 2, 5, none⟩ (.slice va vnl vn)) = w6 at *
       have o6 : OwnC (wA.heap.size) 39 7 (.slice va vnl vn) ((acc (qs.map (fun q => q.2)) j q) ++ [[.string ekey, .int .i64 ek, .bool eb, .int .i64 ei, .string es, .slice eal enl ecl, .slice eam enm ecm]]) w6 := o5.move (fun z h1 _ => hs5 z (by omega))
       have B6 : Below (w.heap.size + 2) w3 w6 := ⟨gs.os.trans B5.os, gs.tape.trans B5.tape, gs.output.trans B5.output, by have := B5.size; omega, fun z hz => (hs5 z (by omega)).trans (B5.block z hz)⟩
       have oLA := (ownL.alloc (.cells #[.string ekey, .int .i64 ek, .bool eb, .int .i64 ei, .string es, .slice eal enl ecl, .slice eam enm ecm] 39)).move (w' := (wr.alloc (.cells #[.string ekey, .int .i64 ek, .bool eb, .int .i64 ei, .string es, .slice eal enl ecl, .slice eam enm ecm] 39)).drew) (fun _ _ _ => rfl)
       have oL5 : OwnC (w.heap.size + 3) 25 6 (.slice la ln lc) (outL (ps.map (fun q => q.2)) j) w5 := World.ownsRow.kept oLA g5 (by
        cases hlb : (Value.slice la ln lc).ownBlock with
        | none => exact .inl rfl
        | some g => exact .inr (fun e => by have h1 := hlv g hlb; have h2 := (World.ownsRow.lt own g e.symm).1; omega))
       have oL6 := oL5.move (fun z h1 _ => hs5 z (by omega))
       refine hK.out _ _ ⟨(hs5 _ (by omega)).trans tb5, row5.keep (hs5 bm (by omega))⟩ (fun hHeld => ?_)
       clear hK K
       (try simp only [Act.put, zA, zB, zC])
       refine wpAnyH_done (by kernel_rfl) ?_ _
       (try dsimp only [Act.put, List.getElem_toArray, List.getElem_cons_succ, List.getElem_cons_zero, List.setIfInBounds_toArray, List.set_cons_zero, List.set_cons_succ])
       clear hHeld c5 f5
       go_wp2_with fail
       go_roundw
       case rel => exact ⟨q + 1, _, _, _, by omega, by go_num, u5, B6, oL6, by rw [HAC.out]; exact o6, by omega⟩
       case measure => simp [RowKit.intOf]; omega
    ·obtain rfl : q = m.length := by omega
     have y1 : ¬ (m.length : Int) < m.length := by omega
     have hac : acc (qs.map (fun q => q.2)) j m.length = outL (qs.map (fun q => q.2)) j := by
      have : m.length = (qs.map (fun q => q.2)).length := by rw [List.length_map, hql]
      rw [this, acc_all]
     rw [hac, ← outL_map] at own
     rw [← outL_map] at ownL
     obtain ⟨xa, xn, xb, xo, e1, e2, e3⟩ := ownL_ (S := S) ownL (fun z hz => (hp3 z (outL_mem hz)).keep (fun y hy => Bz.block y (hS y hy)) (fun _ h => h))
     obtain ⟨ya, yn, yb, yo, f1, f2, f3⟩ := ownM_ (S := S) own (fun z hz => (hq3 z (outL_mem hz)).keep (fun y hy => Bz.block y (hS y hy)) (fun _ h => h))
     rw [outL_map, hp1] at e1 e2 e3
     rw [outL_map, hq1] at f1 f2 f3
     have HN : Hid ((V.mk k false 0 ⟨#[]⟩ (outL l j) (outL m j)).lies false wr (fun y => S y ∨ (w.heap.size + 2 ≤ y ∧ y < wr.heap.size)) [.int .i64 k, .bool false, .int .i64 0, .string ⟨#[]⟩, .slice la ln lc, .slice ma mn mc]) := by
      show V.lies _ _ _ _ _
      rw [e1, f1, V.lies]
      exact ⟨xa, xn, xb, xo, ya, yn, yb, yo, rfl, ik, ⟨by decide, by decide⟩, by decide, e2, f2, lLk (fun h => h) (fun _ _ => rfl) (fun z hz => hz.elim .inl (fun h => .inr ⟨by omega, h.2⟩)) _ e3, lMk (fun h => h) (fun _ _ => rfl) (fun z hz => hz.elim .inl (fun h => .inr ⟨by omega, h.2⟩)) _ f3, fun h => by cases h⟩
     have HE := hmk (wo_fin hS Bz (by omega) HN.out)
     have tz := (bj.block (w.heap.size + 1) (by omega)).trans h1
     obtain ⟨z0, z1, z2, z3, z4, z5⟩ := sixC tz
     have fz := fBk tz
     obtain ⟨v0, v1, v2, v3, v4, v5⟩ := sixC hbox
     clear HN own ownL e1 f1
     go_wp2_with fail
     (try simp only [Exit.inBlock, Exit.then])
     refine bodyPost_ret (v := .agg #[.int .i64 k, .bool false, .int .i64 0, .string ⟨#[]⟩, .slice la ln lc, .slice ma mn mc]) ?_ rfl ?_
     rotate_left
     ·exact ⟨[.int .i64 k, .bool false, .int .i64 0, .string ⟨#[]⟩, .slice la ln lc, .slice ma mn mc], rfl, HE.out.1, HE.out.2⟩
     ·rw [results_cell1 rfl]
      go_simp
end Go.Proofs.YtnakligbogkmbaaGreatDoor
