import Derived.Test.YtgnofbigggmilaaGreatDoorSegU
set_option linter.unusedSimpArgs false
set_option linter.unusedVariables false
namespace Go.Proofs.YtgnofbigggmilaaGreatDoor
open Go.RowKit Go.Lib
theorem rm_end {S : Nat → Prop} {w w3 : World} {B : Nat} {x : V} {c0 c1 c2 c3 c4 c5 : Value} (hS : ∀ b, S b → b < w.heap.size) (B3 : Below w.heap.size w w3) (hB : w.heap.size + 2 ≤ B) (hz : w.heap.size + 2 ≤ w3.heap.size) (hx : x.lies false w3 (fun y => S y ∨ (B ≤ y ∧ y < w3.heap.size)) [c0, c1, c2, c3, c4, c5]) (fld : Nat) (nv : Value) :
 x.lies false (((((((w3.setCell ⟨w.heap.size, fld, none⟩ nv).setCell ⟨w.heap.size + 1, 0, none⟩ (c0)).setCell ⟨w.heap.size + 1, 1, none⟩ (c1)).setCell ⟨w.heap.size + 1, 2, none⟩ (c2)).setCell ⟨w.heap.size + 1, 3, none⟩ (c3)).setCell ⟨w.heap.size + 1, 4, none⟩ (c4)).setCell ⟨w.heap.size + 1, 5, none⟩ (c5)) (OrNew S w (((((((w3.setCell ⟨w.heap.size, fld, none⟩ nv).setCell ⟨w.heap.size + 1, 0, none⟩ (c0)).setCell ⟨w.heap.size + 1, 1, none⟩ (c1)).setCell ⟨w.heap.size + 1, 2, none⟩ (c2)).setCell ⟨w.heap.size + 1, 3, none⟩ (c3)).setCell ⟨w.heap.size + 1, 4, none⟩ (c4)).setCell ⟨w.heap.size + 1, 5, none⟩ (c5))) [c0, c1, c2, c3, c4, c5] ∧ Below w.heap.size w (((((((w3.setCell ⟨w.heap.size, fld, none⟩ nv).setCell ⟨w.heap.size + 1, 0, none⟩ (c0)).setCell ⟨w.heap.size + 1, 1, none⟩ (c1)).setCell ⟨w.heap.size + 1, 2, none⟩ (c2)).setCell ⟨w.heap.size + 1, 3, none⟩ (c3)).setCell ⟨w.heap.size + 1, 4, none⟩ (c4)).setCell ⟨w.heap.size + 1, 5, none⟩ (c5)) := by
 have hot1 : ∀ y, y ≠ w.heap.size → (w3.setCell ⟨w.heap.size, fld, none⟩ nv).heap[y]? = w3.heap[y]? := fun y hy => by rw [set_other hy]
 have g1 : w3.grownBy (w3.setCell ⟨w.heap.size, fld, none⟩ nv) (some w.heap.size) := grown_set (World.grownBy.refl w3 _) fld nv
 have s1 : (w3.setCell ⟨w.heap.size, fld, none⟩ nv).heap.size = w3.heap.size := by simp only [size_set1]
 generalize (w3.setCell ⟨w.heap.size, fld, none⟩ nv) = w3s at *
 have hot : ∀ y, y ≠ w.heap.size + 1 → ((((((w3s.setCell ⟨w.heap.size + 1, 0, none⟩ (c0)).setCell ⟨w.heap.size + 1, 1, none⟩ (c1)).setCell ⟨w.heap.size + 1, 2, none⟩ (c2)).setCell ⟨w.heap.size + 1, 3, none⟩ (c3)).setCell ⟨w.heap.size + 1, 4, none⟩ (c4)).setCell ⟨w.heap.size + 1, 5, none⟩ (c5)).heap[y]? = w3s.heap[y]? := fun y hy => by
  repeat (rw [set_other hy])
 have g2 : w3s.grownBy ((((((w3s.setCell ⟨w.heap.size + 1, 0, none⟩ (c0)).setCell ⟨w.heap.size + 1, 1, none⟩ (c1)).setCell ⟨w.heap.size + 1, 2, none⟩ (c2)).setCell ⟨w.heap.size + 1, 3, none⟩ (c3)).setCell ⟨w.heap.size + 1, 4, none⟩ (c4)).setCell ⟨w.heap.size + 1, 5, none⟩ (c5)) (some (w.heap.size + 1)) := grown_set (grown_set (grown_set (grown_set (grown_set (grown_set (World.grownBy.refl w3s _) 0 c0) 1 c1) 2 c2) 3 c3) 4 c4) 5 c5
 have s2 : ((((((w3s.setCell ⟨w.heap.size + 1, 0, none⟩ (c0)).setCell ⟨w.heap.size + 1, 1, none⟩ (c1)).setCell ⟨w.heap.size + 1, 2, none⟩ (c2)).setCell ⟨w.heap.size + 1, 3, none⟩ (c3)).setCell ⟨w.heap.size + 1, 4, none⟩ (c4)).setCell ⟨w.heap.size + 1, 5, none⟩ (c5)).heap.size = w3s.heap.size := by simp only [size_set1]
 generalize ((((((w3s.setCell ⟨w.heap.size + 1, 0, none⟩ (c0)).setCell ⟨w.heap.size + 1, 1, none⟩ (c1)).setCell ⟨w.heap.size + 1, 2, none⟩ (c2)).setCell ⟨w.heap.size + 1, 3, none⟩ (c3)).setCell ⟨w.heap.size + 1, 4, none⟩ (c4)).setCell ⟨w.heap.size + 1, 5, none⟩ (c5)) = wf at *
 have key : ∀ y, y ≠ w.heap.size → y ≠ w.heap.size + 1 → wf.heap[y]? = w3.heap[y]? := fun y h1 h2 => (hot y h2).trans (hot1 y h1)
 refine ⟨V.lies_keep (fun h => h) (fun y hy => ?_) (fun y hy => ?_) _ hx, ⟨g2.os.trans (g1.os.trans B3.os), g2.tape.trans (g1.tape.trans B3.tape), g2.output.trans (g1.output.trans B3.output), by have := B3.size; omega, fun q hq => (key q (by omega) (by omega)).trans (B3.block q hq)⟩⟩
 ·rcases hy with hy | hy
  ·have := hS y hy; exact key y (by omega) (by omega)
  ·exact key y (by omega) (by omega)
 ·rcases hy with hy | hy
  ·exact .inl hy
  ·exact .inr ⟨by omega, by omega⟩
set_option maxHeartbeats 8000000 in
set_option maxRecDepth 100000 in
theorem removed_any (v : V) (j : Nat) (S : Nat → Prop) (cs : List Value) (w : World) (hv : v.lies false w S cs) (hS : ∀ b, S b → b < w.heap.size) (hwt : v.wt ≤ 1114112) (hj : kidAt v j) :
 Calls Tryz.prog 46 #[.agg cs.toArray, .int .i64 (j : Int)] w (RpPost (remV v j) S w) := by
 obtain ⟨k, b, i, s, l, m⟩ := v
 rw [V.lies] at hv
 obtain ⟨al, cl, bl, ol, am, cm, bm, om, rfl, ik, ii, is, hal, ham, hl, hm, hzz⟩ := hv
 have hml : m.length ≤ 1114112 := by have := wtM_len m; simp only [V.wt] at hwt; omega
 have hll : l.length ≤ 1114112 := by have := wtL_len l; simp only [V.wt] at hwt; omega
 clear hwt
 rcases hj with ⟨hk, hj⟩ | ⟨hk, hj⟩
 ·obtain rfl : k = 4 := hk
  have HL := hmk hl
  have HLn := hmk hm
  have hj' : j < l.length := hj
  obtain rfl : al = some ⟨bl, ol, none⟩ := hal.at_.resolve_left (by omega)
  have hcl := hal.le
  have y1 : (j : Int) ≤ cl := by omega
  have y2 : ((j : Int) + 1) ≤ l.length := by omega
  have y3 : ((j + 1 : Nat) : Int) ≤ l.length := by omega
  have y4 : (l.length : Int) ≤ cl := by omega
  have y5 : (0 : Int) ≤ (j : Int) + 1 := by omega
  have y6 : IntKind.i64.wrap ((j : Int) + 1) = ((j + 1 : Nat) : Int) := by simp [IntKind.wrap, IntKind.bits, IntKind.signed]; omega
  have B0 : Below w.heap.size w ((w.alloc (.cells #[.int .i64 4, .bool b, .int .i64 i, .string s, .slice (some ⟨bl, ol, none⟩) l.length cl, .slice am m.length cm] 25)).alloc (.cells #[.int .i64 0, .bool false, .int .i64 0, .string ⟨#[]⟩, .slice none 0 0, .slice none 0 0] 25)) := two_below w _ _
  have hz0 : ((w.alloc (.cells #[.int .i64 4, .bool b, .int .i64 i, .string s, .slice (some ⟨bl, ol, none⟩) l.length cl, .slice am m.length cm] 25)).alloc (.cells #[.int .i64 0, .bool false, .int .i64 0, .string ⟨#[]⟩, .slice none 0 0, .slice none 0 0] 25)).heap.size = w.heap.size + 2 := by rw [alloc_size, alloc_size]
  have h0 := alloc2_keep1 w (.cells #[.int .i64 4, .bool b, .int .i64 i, .string s, .slice (some ⟨bl, ol, none⟩) l.length cl, .slice am m.length cm] 25) (.cells #[.int .i64 0, .bool false, .int .i64 0, .string ⟨#[]⟩, .slice none 0 0, .slice none 0 0] 25)
  have h1 := alloc2_new w (.cells #[.int .i64 4, .bool b, .int .i64 i, .string s, .slice (some ⟨bl, ol, none⟩) l.length cl, .slice am m.length cm] 25) (.cells #[.int .i64 0, .bool false, .int .i64 0, .string ⟨#[]⟩, .slice none 0 0, .slice none 0 0] 25)
  obtain ⟨sx, hsx⟩ : ∃ sx, (if cl = j + 1 then some ⟨bl, ol, none⟩ else some ⟨bl, ol + (j + 1) * 6, none⟩ : Option Addr) = sx := ⟨_, rfl⟩
  have HSX : Hid (Headed sx (l.length - (j + 1)) (cl - (j + 1)) bl (ol + (j + 1) * 6)) := by rw [← hsx]; exact headed_drop hal (by omega) (by omega)
  have HC : Hid (∀ W, Below w.heap.size w W → W.cell? ⟨w.heap.size + 2, 0, none⟩ = some (.slice (some ⟨bl, ol, none⟩) j cl) → W.cell? ⟨w.heap.size + 2, 1, none⟩ = some (.slice sx (l.length - (j + 1)) (cl - (j + 1))) → w.heap.size + 2 < W.heap.size → Calls Tryz.prog 67 #[.slice (some ⟨w.heap.size + 2, 0, none⟩) 2 2] W (fun e W' => ∃ ca cn cb co, e = .returned (.slice ca (outL l j).length cn) ∧ Headed ca (outL l j).length cn cb co ∧ liesL false W' (OrNew S W W') (outL l j) cb co ∧ Below W.heap.size W W')) := fun W hb z0 z1 hlt => by
   obtain ⟨ps, e1, e2, e3, e4⟩ := segL (liesL_keep (fun h => h) (fun x hx => hb.block x (hS x hx)) (fun _ h => h) _ HL.out : liesL false W S l bl ol)
   have hpl : ps.length = l.length := by rw [← e1, List.length_map]
   have h := concatV_any [⟨some ⟨bl, ol, none⟩, (ps.map (fun q => q.2)).take j, cl, bl, ol⟩, ⟨sx, (ps.map (fun q => q.2)).drop (j + 1), cl - (j + 1), bl, ol + (j + 1) * 6⟩] S (w.heap.size + 2) 0 2 W (fun i hi => by
    rcases i with _ | _ | i
    ·show W.cell? ⟨w.heap.size + 2, 0 + 0, none⟩ = some (.slice (some ⟨bl, ol, none⟩) ((ps.map (fun q => q.2)).take j).length cl)
     rw [List.length_take, List.length_map, hpl, Nat.min_eq_left (by omega)]; exact z0
    ·show W.cell? ⟨w.heap.size + 2, 0 + 1, none⟩ = some (.slice sx ((ps.map (fun q => q.2)).drop (j + 1)).length (cl - (j + 1)))
     rw [List.length_drop, List.length_map, hpl]; exact z1
    ·exact absurd hi (by simp only [List.length_cons, List.length_nil]; omega)) hlt (by simp) (fun g hg => by
    simp only [List.mem_cons, List.not_mem_nil, or_false] at hg
    rcases hg with rfl | rfl
    ·exact ⟨⟨by show ((ps.map (fun q => q.2)).take j).length ≤ cl; rw [List.length_take, List.length_map]; omega, hal.max, .inr rfl, fun h => by cases h⟩, e2.take j, fun _ => e4 (by omega)⟩
    ·refine ⟨?_, e2.drop (j + 1), fun _ => e4 (by omega)⟩
     show Headed sx ((ps.map (fun q => q.2)).drop (j + 1)).length _ _ _
     rw [List.length_drop, List.length_map, hpl]; exact HSX.out) (fun x hx => Nat.lt_of_lt_of_le (hS x hx) hb.size) (by simp [catR]; omega)
   refine h.mono ?_
   rintro e W' ⟨v', rfl, ow, bW⟩
   have hcat : catR [⟨some ⟨bl, ol, none⟩, (ps.map (fun q => q.2)).take j, cl, bl, ol⟩, ⟨sx, (ps.map (fun q => q.2)).drop (j + 1), cl - (j + 1), bl, ol + (j + 1) * 6⟩] = (outL ps j).map (fun q => q.2) := by rw [outL_map]; simp [catR, outL]
   rw [hcat] at ow
   obtain ⟨ca, cn, cb, co, rfl, k2, k3⟩ := ownL (S := S) ow (fun q hq => (e3 q (outL_mem hq)).keep (fun x hx => bW.block x (Nat.lt_of_lt_of_le (hS x hx) hb.size)) (fun _ h => h))
   rw [outL_map, e1] at k2 k3 ⊢
   exact ⟨ca, cn, cb, co, rfl, k2, k3, bW⟩
  obtain ⟨r0, r1, r2, r3, r4, r5⟩ := sixC h0
  clear hj
  have hbd : Hid (Below w.heap.size w w) := Below.refl _ _
  go_enter Tryz.func46, Tryz.ntmps46
  go_wp2_with fail
  generalize ((w.alloc (.cells #[.int .i64 4, .bool b, .int .i64 i, .string s, .slice (some ⟨bl, ol, none⟩) l.length cl, .slice am m.length cm] 25)).alloc (.cells #[.int .i64 0, .bool false, .int .i64 0, .string ⟨#[]⟩, .slice none 0 0, .slice none 0 0] 25)) = w0 at *
  have BD : Below w0.heap.size w0 w0.drew := (Below.refl _ _).drew
  refine wp_region_held_drew (S := fun _ => True) (by kernel_rfl) trivial (fun hHeld => ?_)
  (refine tjA 0 ?_; (try simp only [Act.put, zA, zB, zC]))
  (refine tjA 2 ?_; (try simp only [Act.put, zA, zB, zC]))
  (refine tjA 4 ?_; (try simp only [Act.put, zA, zB, zC]))
  (refine tjA 6 ?_; (try simp only [Act.put, zA, zB, zC]))
  (refine tjA 7 ?_; (try simp only [Act.put, zA, zB, zC]))
  refine ryA [1, 5] ?_
  refine rA2 (fun K hK => ?_) fun K hK => ?_
  ·go_simp
   refine hK.out _ _ trivial (fun hHeld => ?_)
   clear hK K
   (try simp only [Act.put, zA, zB, zC])
   (refine tjA 3 ?_; (try simp only [Act.put, zA, zB, zC]))
   refine ryA [5] ?_
   refine rA1 fun K hK => ?_
   go_simp
   refine hK.out _ _ trivial (fun hHeld => ?_)
   clear hK K
   (try simp only [Act.put, zA, zB, zC])
   (refine tjA 8 ?_; (try simp only [Act.put, zA, zB, zC]))
   (try rw [hsx])
   refine ryA [9] ?_
   refine rA1 fun K hK => ?_
   go_simp
   refine hK.out _ _ trivial (fun hHeld => ?_)
   clear hK K
   (try simp only [Act.put, zA, zB, zC])
   refine ryA [10] ?_
   refine rA1 fun K hK => ?_
   go_simp
   have bA : Below w0.heap.size w0 (w0.alloc (.cells #[.slice (some ⟨bl, ol, none⟩) j cl, .slice sx (l.length - (j + 1)) (cl - (j + 1))] 22)).drew := ((Below.refl _ _).alloc (Nat.le_refl _) _).drew
   have hA : (w0.alloc (.cells #[.slice (some ⟨bl, ol, none⟩) j cl, .slice sx (l.length - (j + 1)) (cl - (j + 1))] 22)).drew.heap[w0.heap.size]? = _ := heap_alloc_new w0 _
   have hzA : w0.heap.size < (w0.alloc (.cells #[.slice (some ⟨bl, ol, none⟩) j cl, .slice sx (l.length - (j + 1)) (cl - (j + 1))] 22)).drew.heap.size := (by rw [alloc_size]; exact Nat.lt_succ_self _ : w0.heap.size < (w0.alloc (.cells #[.slice (some ⟨bl, ol, none⟩) j cl, .slice sx (l.length - (j + 1)) (cl - (j + 1))] 22)).heap.size)
   have BA := B0.trans (bA.mono (by omega))
   rw [hz0] at hA hzA
   have t0 := (bA.block w.heap.size (by omega)).trans h0
   have t1 := (bA.block (w.heap.size + 1) (by omega)).trans h1
   have cz0 := cell_of_block hA 0
   have cz1 := cell_of_block hA 1
   generalize (w0.alloc (.cells #[.slice (some ⟨bl, ol, none⟩) j cl, .slice sx (l.length - (j + 1)) (cl - (j + 1))] 22)).drew = wA at *
   refine (HC.out wA BA cz0 cz1 hzA).mono ?_
   rintro e w3 ⟨ca, cn, cb, co, rfl, hdc, hlc, b3⟩
   have hz3 := b3.size
   have B3 := BA.trans (b3.mono BA.size)
   have t0' := (b3.block w.heap.size (by omega)).trans t0
   have t1' := (b3.block (w.heap.size + 1) (by omega)).trans t1
   have HN : Hid ((V.mk 4 b i s (outL l j) m).lies false w3 (fun y => S y ∨ (wA.heap.size ≤ y ∧ y < w3.heap.size)) [.int .i64 4, .bool b, .int .i64 i, .string s, .slice ca (outL l j).length cn, .slice am m.length cm]) := by
    rw [V.lies]
    exact ⟨ca, cn, cb, co, am, cm, bm, om, rfl, ik, ii, is, hdc, ham, (liesL_keep (fun h => h) (fun _ _ => rfl) (fun x hx => hx) _ hlc), (liesM_keep (fun h => h) (fun x hx => B3.block x (hS x hx)) (fun x hx => .inl hx) _ HLn.out), fun h => by cases h⟩
   have sc : w3.cell? ⟨w.heap.size, 4, none⟩ = some (.slice (some ⟨bl, ol, none⟩) l.length cl) := by rw [cell_of_block t0']; rfl
   have sf : w3.frozen? ⟨w.heap.size, 4, none⟩ = false := frozen_of_block t0' 4
   have HE := hmk (rm_end hS B3 (show w.heap.size + 2 ≤ wA.heap.size by omega) (by omega) HN.out 4 (.slice ca (outL l j).length cn))
   clear hlc hdc cz0 cz1 hA HN
   go_simp
   refine hK.out _ _ trivial (fun hHeld => ?_)
   clear hK K
   (try simp only [Act.put, zA, zB, zC])
   (refine tjA 11 ?_; (try simp only [Act.put, zA, zB, zC]))
   refine ryA [12] ?_
   refine rA1 fun K hK => ?_
   go_simp
   have u0 : (w3.setCell ⟨w.heap.size, 4, none⟩ (.slice ca (outL l j).length cn)).heap[w.heap.size]? = some (.cells #[.int .i64 4, .bool b, .int .i64 i, .string s, .slice ca (outL l j).length cn, .slice am m.length cm] 25) := by rw [set_block t0']; rfl
   have u1 : (w3.setCell ⟨w.heap.size, 4, none⟩ (.slice ca (outL l j).length cn)).heap[w.heap.size + 1]? = _ := (by rw [set_other (show w.heap.size + 1 ≠ w.heap.size by omega)] : (w3.setCell ⟨w.heap.size, 4, none⟩ (.slice ca (outL l j).length cn)).heap[w.heap.size + 1]? = w3.heap[w.heap.size + 1]?).trans t1'
   generalize (w3.setCell ⟨w.heap.size, 4, none⟩ (.slice ca (outL l j).length cn)) = wz at *
   refine hK.out _ _ trivial (fun hHeld => ?_)
   clear hK K
   (try simp only [Act.put, zA, zB, zC])
   refine wpAnyH_done (by kernel_rfl) ?_ _
   (try dsimp only [Act.put, List.getElem_toArray, List.getElem_cons_succ, List.getElem_cons_zero, List.setIfInBounds_toArray, List.set_cons_zero, List.set_cons_succ])
   clear hHeld sc sf
   obtain ⟨v0, v1, v2, v3, v4, v5⟩ := sixC u0
   obtain ⟨z0, z1, z2, z3, z4, z5⟩ := sixC u1
   have fz := frozen_of_block u1
   go_wp2_with fail
   (try simp only [Exit.inBlock, Exit.then])
   refine bodyPost_ret (v := .agg #[.int .i64 4, .bool b, .int .i64 i, .string s, .slice ca (outL l j).length cn, .slice am m.length cm]) ?_ rfl ?_
   rotate_left
   ·exact ⟨[.int .i64 4, .bool b, .int .i64 i, .string s, .slice ca (outL l j).length cn, .slice am m.length cm], rfl, HE.out.1, HE.out.2⟩
   ·rw [results_cell1 rfl]
    go_simp
  ·go_simp
   refine hK.out _ _ trivial (fun hHeld => ?_)
   clear hK K
   (try simp only [Act.put, zA, zB, zC])
   (refine tjA 8 ?_; (try simp only [Act.put, zA, zB, zC]))
   refine ryA [1] ?_
   refine rA1 fun K hK => ?_
   go_simp
   refine hK.out _ _ trivial (fun hHeld => ?_)
   clear hK K
   (try simp only [Act.put, zA, zB, zC])
   (refine tjA 3 ?_; (try simp only [Act.put, zA, zB, zC]))
   (try rw [hsx])
   refine ryA [9] ?_
   refine rA1 fun K hK => ?_
   go_simp
   refine hK.out _ _ trivial (fun hHeld => ?_)
   clear hK K
   (try simp only [Act.put, zA, zB, zC])
   refine ryA [10] ?_
   refine rA1 fun K hK => ?_
   go_simp
   have bA : Below w0.heap.size w0 (w0.alloc (.cells #[.slice (some ⟨bl, ol, none⟩) j cl, .slice sx (l.length - (j + 1)) (cl - (j + 1))] 22)).drew := ((Below.refl _ _).alloc (Nat.le_refl _) _).drew
   have hA : (w0.alloc (.cells #[.slice (some ⟨bl, ol, none⟩) j cl, .slice sx (l.length - (j + 1)) (cl - (j + 1))] 22)).drew.heap[w0.heap.size]? = _ := heap_alloc_new w0 _
   have hzA : w0.heap.size < (w0.alloc (.cells #[.slice (some ⟨bl, ol, none⟩) j cl, .slice sx (l.length - (j + 1)) (cl - (j + 1))] 22)).drew.heap.size := (by rw [alloc_size]; exact Nat.lt_succ_self _ : w0.heap.size < (w0.alloc (.cells #[.slice (some ⟨bl, ol, none⟩) j cl, .slice sx (l.length - (j + 1)) (cl - (j + 1))] 22)).heap.size)
   have BA := B0.trans (bA.mono (by omega))
   rw [hz0] at hA hzA
   have t0 := (bA.block w.heap.size (by omega)).trans h0
   have t1 := (bA.block (w.heap.size + 1) (by omega)).trans h1
   have cz0 := cell_of_block hA 0
   have cz1 := cell_of_block hA 1
   generalize (w0.alloc (.cells #[.slice (some ⟨bl, ol, none⟩) j cl, .slice sx (l.length - (j + 1)) (cl - (j + 1))] 22)).drew = wA at *
   refine (HC.out wA BA cz0 cz1 hzA).mono ?_
   rintro e w3 ⟨ca, cn, cb, co, rfl, hdc, hlc, b3⟩
   have hz3 := b3.size
   have B3 := BA.trans (b3.mono BA.size)
   have t0' := (b3.block w.heap.size (by omega)).trans t0
   have t1' := (b3.block (w.heap.size + 1) (by omega)).trans t1
   have HN : Hid ((V.mk 4 b i s (outL l j) m).lies false w3 (fun y => S y ∨ (wA.heap.size ≤ y ∧ y < w3.heap.size)) [.int .i64 4, .bool b, .int .i64 i, .string s, .slice ca (outL l j).length cn, .slice am m.length cm]) := by
    rw [V.lies]
    exact ⟨ca, cn, cb, co, am, cm, bm, om, rfl, ik, ii, is, hdc, ham, (liesL_keep (fun h => h) (fun _ _ => rfl) (fun x hx => hx) _ hlc), (liesM_keep (fun h => h) (fun x hx => B3.block x (hS x hx)) (fun x hx => .inl hx) _ HLn.out), fun h => by cases h⟩
   have sc : w3.cell? ⟨w.heap.size, 4, none⟩ = some (.slice (some ⟨bl, ol, none⟩) l.length cl) := by rw [cell_of_block t0']; rfl
   have sf : w3.frozen? ⟨w.heap.size, 4, none⟩ = false := frozen_of_block t0' 4
   have HE := hmk (rm_end hS B3 (show w.heap.size + 2 ≤ wA.heap.size by omega) (by omega) HN.out 4 (.slice ca (outL l j).length cn))
   clear hlc hdc cz0 cz1 hA HN
   go_simp
   refine hK.out _ _ trivial (fun hHeld => ?_)
   clear hK K
   (try simp only [Act.put, zA, zB, zC])
   (refine tjA 11 ?_; (try simp only [Act.put, zA, zB, zC]))
   refine ryA [12] ?_
   refine rA1 fun K hK => ?_
   go_simp
   have u0 : (w3.setCell ⟨w.heap.size, 4, none⟩ (.slice ca (outL l j).length cn)).heap[w.heap.size]? = some (.cells #[.int .i64 4, .bool b, .int .i64 i, .string s, .slice ca (outL l j).length cn, .slice am m.length cm] 25) := by rw [set_block t0']; rfl
   have u1 : (w3.setCell ⟨w.heap.size, 4, none⟩ (.slice ca (outL l j).length cn)).heap[w.heap.size + 1]? = _ := (by rw [set_other (show w.heap.size + 1 ≠ w.heap.size by omega)] : (w3.setCell ⟨w.heap.size, 4, none⟩ (.slice ca (outL l j).length cn)).heap[w.heap.size + 1]? = w3.heap[w.heap.size + 1]?).trans t1'
   generalize (w3.setCell ⟨w.heap.size, 4, none⟩ (.slice ca (outL l j).length cn)) = wz at *
   refine hK.out _ _ trivial (fun hHeld => ?_)
   clear hK K
   (try simp only [Act.put, zA, zB, zC])
   refine wpAnyH_done (by kernel_rfl) ?_ _
   (try dsimp only [Act.put, List.getElem_toArray, List.getElem_cons_succ, List.getElem_cons_zero, List.setIfInBounds_toArray, List.set_cons_zero, List.set_cons_succ])
   clear hHeld sc sf
   obtain ⟨v0, v1, v2, v3, v4, v5⟩ := sixC u0
   obtain ⟨z0, z1, z2, z3, z4, z5⟩ := sixC u1
   have fz := frozen_of_block u1
   go_wp2_with fail
   (try simp only [Exit.inBlock, Exit.then])
   refine bodyPost_ret (v := .agg #[.int .i64 4, .bool b, .int .i64 i, .string s, .slice ca (outL l j).length cn, .slice am m.length cm]) ?_ rfl ?_
   rotate_left
   ·exact ⟨[.int .i64 4, .bool b, .int .i64 i, .string s, .slice ca (outL l j).length cn, .slice am m.length cm], rfl, HE.out.1, HE.out.2⟩
   ·rw [results_cell1 rfl]
    go_simp
 ·obtain rfl : k = 5 := hk
  have HL := hmk hm
  have HLn := hmk hl
  have hj' : j < m.length := hj
  obtain rfl : am = some ⟨bm, om, none⟩ := ham.at_.resolve_left (by omega)
  have hcl := ham.le
  have y1 : (j : Int) ≤ cm := by omega
  have y2 : ((j : Int) + 1) ≤ m.length := by omega
  have y3 : ((j + 1 : Nat) : Int) ≤ m.length := by omega
  have y4 : (m.length : Int) ≤ cm := by omega
  have y5 : (0 : Int) ≤ (j : Int) + 1 := by omega
  have y6 : IntKind.i64.wrap ((j : Int) + 1) = ((j + 1 : Nat) : Int) := by simp [IntKind.wrap, IntKind.bits, IntKind.signed]; omega
  have B0 : Below w.heap.size w ((w.alloc (.cells #[.int .i64 5, .bool b, .int .i64 i, .string s, .slice al l.length cl, .slice (some ⟨bm, om, none⟩) m.length cm] 25)).alloc (.cells #[.int .i64 0, .bool false, .int .i64 0, .string ⟨#[]⟩, .slice none 0 0, .slice none 0 0] 25)) := two_below w _ _
  have hz0 : ((w.alloc (.cells #[.int .i64 5, .bool b, .int .i64 i, .string s, .slice al l.length cl, .slice (some ⟨bm, om, none⟩) m.length cm] 25)).alloc (.cells #[.int .i64 0, .bool false, .int .i64 0, .string ⟨#[]⟩, .slice none 0 0, .slice none 0 0] 25)).heap.size = w.heap.size + 2 := by rw [alloc_size, alloc_size]
  have h0 := alloc2_keep1 w (.cells #[.int .i64 5, .bool b, .int .i64 i, .string s, .slice al l.length cl, .slice (some ⟨bm, om, none⟩) m.length cm] 25) (.cells #[.int .i64 0, .bool false, .int .i64 0, .string ⟨#[]⟩, .slice none 0 0, .slice none 0 0] 25)
  have h1 := alloc2_new w (.cells #[.int .i64 5, .bool b, .int .i64 i, .string s, .slice al l.length cl, .slice (some ⟨bm, om, none⟩) m.length cm] 25) (.cells #[.int .i64 0, .bool false, .int .i64 0, .string ⟨#[]⟩, .slice none 0 0, .slice none 0 0] 25)
  obtain ⟨sx, hsx⟩ : ∃ sx, (if cm = j + 1 then some ⟨bm, om, none⟩ else some ⟨bm, om + (j + 1) * 7, none⟩ : Option Addr) = sx := ⟨_, rfl⟩
  have HSX : Hid (Headed sx (m.length - (j + 1)) (cm - (j + 1)) bm (om + (j + 1) * 7)) := by rw [← hsx]; exact headed_drop ham (by omega) (by omega)
  have HC : Hid (∀ W, Below w.heap.size w W → W.cell? ⟨w.heap.size + 2, 0, none⟩ = some (.slice (some ⟨bm, om, none⟩) j cm) → W.cell? ⟨w.heap.size + 2, 1, none⟩ = some (.slice sx (m.length - (j + 1)) (cm - (j + 1))) → w.heap.size + 2 < W.heap.size → Calls Tryz.prog 65 #[.slice (some ⟨w.heap.size + 2, 0, none⟩) 2 2] W (fun e W' => ∃ ca cn cb co, e = .returned (.slice ca (outL m j).length cn) ∧ Headed ca (outL m j).length cn cb co ∧ liesM false W' (OrNew S W W') (outL m j) cb co ∧ Below W.heap.size W W')) := fun W hb z0 z1 hlt => by
   obtain ⟨ps, e1, e2, e3, e4⟩ := segM (liesM_keep (fun h => h) (fun x hx => hb.block x (hS x hx)) (fun _ h => h) _ HL.out : liesM false W S m bm om)
   have hpl : ps.length = m.length := by rw [← e1, List.length_map]
   have h := concatM_any [⟨some ⟨bm, om, none⟩, (ps.map (fun q => q.2)).take j, cm, bm, om⟩, ⟨sx, (ps.map (fun q => q.2)).drop (j + 1), cm - (j + 1), bm, om + (j + 1) * 7⟩] S (w.heap.size + 2) 0 2 W (fun i hi => by
    rcases i with _ | _ | i
    ·show W.cell? ⟨w.heap.size + 2, 0 + 0, none⟩ = some (.slice (some ⟨bm, om, none⟩) ((ps.map (fun q => q.2)).take j).length cm)
     rw [List.length_take, List.length_map, hpl, Nat.min_eq_left (by omega)]; exact z0
    ·show W.cell? ⟨w.heap.size + 2, 0 + 1, none⟩ = some (.slice sx ((ps.map (fun q => q.2)).drop (j + 1)).length (cm - (j + 1)))
     rw [List.length_drop, List.length_map, hpl]; exact z1
    ·exact absurd hi (by simp only [List.length_cons, List.length_nil]; omega)) hlt (by simp) (fun g hg => by
    simp only [List.mem_cons, List.not_mem_nil, or_false] at hg
    rcases hg with rfl | rfl
    ·exact ⟨⟨by show ((ps.map (fun q => q.2)).take j).length ≤ cm; rw [List.length_take, List.length_map]; omega, ham.max, .inr rfl, fun h => by cases h⟩, e2.take j, fun _ => e4 (by omega)⟩
    ·refine ⟨?_, e2.drop (j + 1), fun _ => e4 (by omega)⟩
     show Headed sx ((ps.map (fun q => q.2)).drop (j + 1)).length _ _ _
     rw [List.length_drop, List.length_map, hpl]; exact HSX.out) (fun x hx => Nat.lt_of_lt_of_le (hS x hx) hb.size) (by simp [catR]; omega)
   refine h.mono ?_
   rintro e W' ⟨v', rfl, ow, bW⟩
   have hcat : catR [⟨some ⟨bm, om, none⟩, (ps.map (fun q => q.2)).take j, cm, bm, om⟩, ⟨sx, (ps.map (fun q => q.2)).drop (j + 1), cm - (j + 1), bm, om + (j + 1) * 7⟩] = (outL ps j).map (fun q => q.2) := by rw [outL_map]; simp [catR, outL]
   rw [hcat] at ow
   obtain ⟨ca, cn, cb, co, rfl, k2, k3⟩ := ownM (S := S) ow (fun q hq => (e3 q (outL_mem hq)).keep (fun x hx => bW.block x (Nat.lt_of_lt_of_le (hS x hx) hb.size)) (fun _ h => h))
   rw [outL_map, e1] at k2 k3 ⊢
   exact ⟨ca, cn, cb, co, rfl, k2, k3, bW⟩
  obtain ⟨r0, r1, r2, r3, r4, r5⟩ := sixC h0
  clear hj
  have hbd : Hid (Below w.heap.size w w) := Below.refl _ _
  go_enter Tryz.func46, Tryz.ntmps46
  go_wp2_with fail
  generalize ((w.alloc (.cells #[.int .i64 5, .bool b, .int .i64 i, .string s, .slice al l.length cl, .slice (some ⟨bm, om, none⟩) m.length cm] 25)).alloc (.cells #[.int .i64 0, .bool false, .int .i64 0, .string ⟨#[]⟩, .slice none 0 0, .slice none 0 0] 25)) = w0 at *
  have BD : Below w0.heap.size w0 w0.drew := (Below.refl _ _).drew
  refine wp_region_held_drew (S := fun _ => True) (by kernel_rfl) trivial (fun hHeld => ?_)
  (refine tjA 0 ?_; (try simp only [Act.put, zA, zB, zC]))
  (refine tjA 2 ?_; (try simp only [Act.put, zA, zB, zC]))
  (refine tjA 4 ?_; (try simp only [Act.put, zA, zB, zC]))
  (refine tjA 6 ?_; (try simp only [Act.put, zA, zB, zC]))
  (refine tjA 7 ?_; (try simp only [Act.put, zA, zB, zC]))
  refine ryA [1, 5] ?_
  refine rA2 (fun K hK => ?_) fun K hK => ?_
  ·go_simp
   refine hK.out _ _ trivial (fun hHeld => ?_)
   clear hK K
   (try simp only [Act.put, zA, zB, zC])
   (refine tjA 3 ?_; (try simp only [Act.put, zA, zB, zC]))
   refine ryA [5] ?_
   refine rA1 fun K hK => ?_
   go_simp
   refine hK.out _ _ trivial (fun hHeld => ?_)
   clear hK K
   (try simp only [Act.put, zA, zB, zC])
   (refine tjA 8 ?_; (try simp only [Act.put, zA, zB, zC]))
   (try rw [hsx])
   refine ryA [9] ?_
   refine rA1 fun K hK => ?_
   go_simp
   refine hK.out _ _ trivial (fun hHeld => ?_)
   clear hK K
   (try simp only [Act.put, zA, zB, zC])
   refine ryA [10] ?_
   refine rA1 fun K hK => ?_
   go_simp
   have bA : Below w0.heap.size w0 (w0.alloc (.cells #[.slice (some ⟨bm, om, none⟩) j cm, .slice sx (m.length - (j + 1)) (cm - (j + 1))] 23)).drew := ((Below.refl _ _).alloc (Nat.le_refl _) _).drew
   have hA : (w0.alloc (.cells #[.slice (some ⟨bm, om, none⟩) j cm, .slice sx (m.length - (j + 1)) (cm - (j + 1))] 23)).drew.heap[w0.heap.size]? = _ := heap_alloc_new w0 _
   have hzA : w0.heap.size < (w0.alloc (.cells #[.slice (some ⟨bm, om, none⟩) j cm, .slice sx (m.length - (j + 1)) (cm - (j + 1))] 23)).drew.heap.size := (by rw [alloc_size]; exact Nat.lt_succ_self _ : w0.heap.size < (w0.alloc (.cells #[.slice (some ⟨bm, om, none⟩) j cm, .slice sx (m.length - (j + 1)) (cm - (j + 1))] 23)).heap.size)
   have BA := B0.trans (bA.mono (by omega))
   rw [hz0] at hA hzA
   have t0 := (bA.block w.heap.size (by omega)).trans h0
   have t1 := (bA.block (w.heap.size + 1) (by omega)).trans h1
   have cz0 := cell_of_block hA 0
   have cz1 := cell_of_block hA 1
   generalize (w0.alloc (.cells #[.slice (some ⟨bm, om, none⟩) j cm, .slice sx (m.length - (j + 1)) (cm - (j + 1))] 23)).drew = wA at *
   refine (HC.out wA BA cz0 cz1 hzA).mono ?_
   rintro e w3 ⟨ca, cn, cb, co, rfl, hdc, hlc, b3⟩
   have hz3 := b3.size
   have B3 := BA.trans (b3.mono BA.size)
   have t0' := (b3.block w.heap.size (by omega)).trans t0
   have t1' := (b3.block (w.heap.size + 1) (by omega)).trans t1
   have HN : Hid ((V.mk 5 b i s l (outL m j)).lies false w3 (fun y => S y ∨ (wA.heap.size ≤ y ∧ y < w3.heap.size)) [.int .i64 5, .bool b, .int .i64 i, .string s, .slice al l.length cl, .slice ca (outL m j).length cn]) := by
    rw [V.lies]
    exact ⟨al, cl, bl, ol, ca, cn, cb, co, rfl, ik, ii, is, hal, hdc, (liesL_keep (fun h => h) (fun x hx => B3.block x (hS x hx)) (fun x hx => .inl hx) _ HLn.out), (liesM_keep (fun h => h) (fun _ _ => rfl) (fun x hx => hx) _ hlc), fun h => by cases h⟩
   have sc : w3.cell? ⟨w.heap.size, 5, none⟩ = some (.slice (some ⟨bm, om, none⟩) m.length cm) := by rw [cell_of_block t0']; rfl
   have sf : w3.frozen? ⟨w.heap.size, 5, none⟩ = false := frozen_of_block t0' 5
   have HE := hmk (rm_end hS B3 (show w.heap.size + 2 ≤ wA.heap.size by omega) (by omega) HN.out 5 (.slice ca (outL m j).length cn))
   clear hlc hdc cz0 cz1 hA HN
   go_simp
   refine hK.out _ _ trivial (fun hHeld => ?_)
   clear hK K
   (try simp only [Act.put, zA, zB, zC])
   (refine tjA 11 ?_; (try simp only [Act.put, zA, zB, zC]))
   refine ryA [12] ?_
   refine rA1 fun K hK => ?_
   go_simp
   have u0 : (w3.setCell ⟨w.heap.size, 5, none⟩ (.slice ca (outL m j).length cn)).heap[w.heap.size]? = some (.cells #[.int .i64 5, .bool b, .int .i64 i, .string s, .slice al l.length cl, .slice ca (outL m j).length cn] 25) := by rw [set_block t0']; rfl
   have u1 : (w3.setCell ⟨w.heap.size, 5, none⟩ (.slice ca (outL m j).length cn)).heap[w.heap.size + 1]? = _ := (by rw [set_other (show w.heap.size + 1 ≠ w.heap.size by omega)] : (w3.setCell ⟨w.heap.size, 5, none⟩ (.slice ca (outL m j).length cn)).heap[w.heap.size + 1]? = w3.heap[w.heap.size + 1]?).trans t1'
   generalize (w3.setCell ⟨w.heap.size, 5, none⟩ (.slice ca (outL m j).length cn)) = wz at *
   refine hK.out _ _ trivial (fun hHeld => ?_)
   clear hK K
   (try simp only [Act.put, zA, zB, zC])
   refine wpAnyH_done (by kernel_rfl) ?_ _
   (try dsimp only [Act.put, List.getElem_toArray, List.getElem_cons_succ, List.getElem_cons_zero, List.setIfInBounds_toArray, List.set_cons_zero, List.set_cons_succ])
   clear hHeld sc sf
   obtain ⟨v0, v1, v2, v3, v4, v5⟩ := sixC u0
   obtain ⟨z0, z1, z2, z3, z4, z5⟩ := sixC u1
   have fz := frozen_of_block u1
   go_wp2_with fail
   (try simp only [Exit.inBlock, Exit.then])
   refine bodyPost_ret (v := .agg #[.int .i64 5, .bool b, .int .i64 i, .string s, .slice al l.length cl, .slice ca (outL m j).length cn]) ?_ rfl ?_
   rotate_left
   ·exact ⟨[.int .i64 5, .bool b, .int .i64 i, .string s, .slice al l.length cl, .slice ca (outL m j).length cn], rfl, HE.out.1, HE.out.2⟩
   ·rw [results_cell1 rfl]
    go_simp
  ·go_simp
   refine hK.out _ _ trivial (fun hHeld => ?_)
   clear hK K
   (try simp only [Act.put, zA, zB, zC])
   (refine tjA 8 ?_; (try simp only [Act.put, zA, zB, zC]))
   refine ryA [1] ?_
   refine rA1 fun K hK => ?_
   go_simp
   refine hK.out _ _ trivial (fun hHeld => ?_)
   clear hK K
   (try simp only [Act.put, zA, zB, zC])
   (refine tjA 3 ?_; (try simp only [Act.put, zA, zB, zC]))
   (try rw [hsx])
   refine ryA [9] ?_
   refine rA1 fun K hK => ?_
   go_simp
   refine hK.out _ _ trivial (fun hHeld => ?_)
   clear hK K
   (try simp only [Act.put, zA, zB, zC])
   refine ryA [10] ?_
   refine rA1 fun K hK => ?_
   go_simp
   have bA : Below w0.heap.size w0 (w0.alloc (.cells #[.slice (some ⟨bm, om, none⟩) j cm, .slice sx (m.length - (j + 1)) (cm - (j + 1))] 23)).drew := ((Below.refl _ _).alloc (Nat.le_refl _) _).drew
   have hA : (w0.alloc (.cells #[.slice (some ⟨bm, om, none⟩) j cm, .slice sx (m.length - (j + 1)) (cm - (j + 1))] 23)).drew.heap[w0.heap.size]? = _ := heap_alloc_new w0 _
   have hzA : w0.heap.size < (w0.alloc (.cells #[.slice (some ⟨bm, om, none⟩) j cm, .slice sx (m.length - (j + 1)) (cm - (j + 1))] 23)).drew.heap.size := (by rw [alloc_size]; exact Nat.lt_succ_self _ : w0.heap.size < (w0.alloc (.cells #[.slice (some ⟨bm, om, none⟩) j cm, .slice sx (m.length - (j + 1)) (cm - (j + 1))] 23)).heap.size)
   have BA := B0.trans (bA.mono (by omega))
   rw [hz0] at hA hzA
   have t0 := (bA.block w.heap.size (by omega)).trans h0
   have t1 := (bA.block (w.heap.size + 1) (by omega)).trans h1
   have cz0 := cell_of_block hA 0
   have cz1 := cell_of_block hA 1
   generalize (w0.alloc (.cells #[.slice (some ⟨bm, om, none⟩) j cm, .slice sx (m.length - (j + 1)) (cm - (j + 1))] 23)).drew = wA at *
   refine (HC.out wA BA cz0 cz1 hzA).mono ?_
   rintro e w3 ⟨ca, cn, cb, co, rfl, hdc, hlc, b3⟩
   have hz3 := b3.size
   have B3 := BA.trans (b3.mono BA.size)
   have t0' := (b3.block w.heap.size (by omega)).trans t0
   have t1' := (b3.block (w.heap.size + 1) (by omega)).trans t1
   have HN : Hid ((V.mk 5 b i s l (outL m j)).lies false w3 (fun y => S y ∨ (wA.heap.size ≤ y ∧ y < w3.heap.size)) [.int .i64 5, .bool b, .int .i64 i, .string s, .slice al l.length cl, .slice ca (outL m j).length cn]) := by
    rw [V.lies]
    exact ⟨al, cl, bl, ol, ca, cn, cb, co, rfl, ik, ii, is, hal, hdc, (liesL_keep (fun h => h) (fun x hx => B3.block x (hS x hx)) (fun x hx => .inl hx) _ HLn.out), (liesM_keep (fun h => h) (fun _ _ => rfl) (fun x hx => hx) _ hlc), fun h => by cases h⟩
   have sc : w3.cell? ⟨w.heap.size, 5, none⟩ = some (.slice (some ⟨bm, om, none⟩) m.length cm) := by rw [cell_of_block t0']; rfl
   have sf : w3.frozen? ⟨w.heap.size, 5, none⟩ = false := frozen_of_block t0' 5
   have HE := hmk (rm_end hS B3 (show w.heap.size + 2 ≤ wA.heap.size by omega) (by omega) HN.out 5 (.slice ca (outL m j).length cn))
   clear hlc hdc cz0 cz1 hA HN
   go_simp
   refine hK.out _ _ trivial (fun hHeld => ?_)
   clear hK K
   (try simp only [Act.put, zA, zB, zC])
   (refine tjA 11 ?_; (try simp only [Act.put, zA, zB, zC]))
   refine ryA [12] ?_
   refine rA1 fun K hK => ?_
   go_simp
   have u0 : (w3.setCell ⟨w.heap.size, 5, none⟩ (.slice ca (outL m j).length cn)).heap[w.heap.size]? = some (.cells #[.int .i64 5, .bool b, .int .i64 i, .string s, .slice al l.length cl, .slice ca (outL m j).length cn] 25) := by rw [set_block t0']; rfl
   have u1 : (w3.setCell ⟨w.heap.size, 5, none⟩ (.slice ca (outL m j).length cn)).heap[w.heap.size + 1]? = _ := (by rw [set_other (show w.heap.size + 1 ≠ w.heap.size by omega)] : (w3.setCell ⟨w.heap.size, 5, none⟩ (.slice ca (outL m j).length cn)).heap[w.heap.size + 1]? = w3.heap[w.heap.size + 1]?).trans t1'
   generalize (w3.setCell ⟨w.heap.size, 5, none⟩ (.slice ca (outL m j).length cn)) = wz at *
   refine hK.out _ _ trivial (fun hHeld => ?_)
   clear hK K
   (try simp only [Act.put, zA, zB, zC])
   refine wpAnyH_done (by kernel_rfl) ?_ _
   (try dsimp only [Act.put, List.getElem_toArray, List.getElem_cons_succ, List.getElem_cons_zero, List.setIfInBounds_toArray, List.set_cons_zero, List.set_cons_succ])
   clear hHeld sc sf
   obtain ⟨v0, v1, v2, v3, v4, v5⟩ := sixC u0
   obtain ⟨z0, z1, z2, z3, z4, z5⟩ := sixC u1
   have fz := frozen_of_block u1
   go_wp2_with fail
   (try simp only [Exit.inBlock, Exit.then])
   refine bodyPost_ret (v := .agg #[.int .i64 5, .bool b, .int .i64 i, .string s, .slice al l.length cl, .slice ca (outL m j).length cn]) ?_ rfl ?_
   rotate_left
   ·exact ⟨[.int .i64 5, .bool b, .int .i64 i, .string s, .slice al l.length cl, .slice ca (outL m j).length cn], rfl, HE.out.1, HE.out.2⟩
   ·rw [results_cell1 rfl]
    go_simp
end Go.Proofs.YtgnofbigggmilaaGreatDoor
