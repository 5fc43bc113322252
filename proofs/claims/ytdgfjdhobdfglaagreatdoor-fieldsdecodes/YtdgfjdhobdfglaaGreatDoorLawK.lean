import Derived.Test.YtdgfjdhobdfglaaGreatDoorG49
set_option linter.unusedSimpArgs false
set_option linter.unusedVariables false
set_option maxRecDepth 100000
set_option maxHeartbeats 64000000
namespace Go.Proofs.YtdgfjdhobdfglaaGreatDoor
open Go.RowKit Go.Lib
def BeyPost (v : V) (w : World) (e : Ending) (w' : World) : Prop := ∃ r, e = .returned (.bool r) /\ (r = false -> v.wt <= 2147483647) /\ Below w.heap.size w w'
theorem beyond_any (v : V) (S : Nat -> Prop) (cs : List Value) (w : World) (hl : v.lies false w S cs) (hS : ∀ b, S b -> b < w.heap.size) : Calls Tryz.prog 4 #[.agg cs.toArray] w (BeyPost v w) := by
 obtain ⟨k, b, i, s, al, nl, cl, am, nm, cm, rfl⟩ := V.ten hl
 have ga : w.grownBy ((w.alloc (oV k b i s al nl cl am nm cm)).alloc (.cells #[.int .i64 0] 37)) none := grown_of_below (two_below _ _ _)
 have hn : ((w.alloc (oV k b i s al nl cl am nm cm)).alloc (.cells #[.int .i64 0] 37)).heap[w.heap.size + 1]? = some (.cells #[.int .i64 0] 37 (0, 0)) := by
  have := heap_alloc_new (w.alloc (oV k b i s al nl cl am nm cm)) (.cells #[.int .i64 0] 37)
  rwa [alloc_size] at this
 have hC : Cnt (w.heap.size + 1) 0 ((w.alloc (oV k b i s al nl cl am nm cm)).alloc (.cells #[.int .i64 0] 37)) := ⟨by rw [cell_of_block hn]; rfl, frozen_of_block hn 0⟩
 have c := cval_any v (w.heap.size + 1) 0 65520 S _ _ (V.lies_keep (fun h => h) (fun x hx => ga.block x (hS x hx) (by simp)) (fun _ h => h) _ hl) (fun x hx => ⟨by have := hS x hx; omega, Nat.lt_of_lt_of_le (hS x hx) ga.size⟩) hC (by omega) (by omega)
 have e5 : ((65520 : Nat) : Int) = 65520 := rfl
 rw [e5] at c
 go_enter Tryz.func4, Tryz.ntmps4
 go_wp2_with fail
 refine c.mono ?_
 rintro e w1 ⟨r, rfl, g1, h1⟩
 go_wp2_with fail
 go_ret
 exact ⟨r, rfl, fun h => by have := (h1 h).1; omega, (below_of_grown ga).grown g1 ga.size (fun q e => by cases e; omega)⟩
def Dc (v : V) (code : Int) (L : List (List El)) : Prop := (chkE v 32 ≠ 0 /\ code = (chkE v 32 : Nat) /\ L = []) \/ (chkE v 32 = 0 /\ dpV true [] v = none /\ code = 110 /\ L = []) \/ (chkE v 32 = 0 /\ ∃ D, dpV true [] v = some D /\ Rs D L /\ code = 0)
theorem Dc.uniq {v : V} {c c' : Int} {L L' : List (List El)} (h : Dc v c L) (h' : Dc v c' L') : c = c' /\ L = L' := by
 rcases h with ⟨h1, rfl, rfl⟩ | ⟨h1, h2, rfl, rfl⟩ | ⟨h1, D, h2, h3, rfl⟩
 ·rcases h' with ⟨_, rfl, rfl⟩ | ⟨k1, _⟩ | ⟨k1, _⟩
  ·exact ⟨rfl, rfl⟩
  ·exact (h1 k1).elim
  ·exact (h1 k1).elim
 ·rcases h' with ⟨k1, _⟩ | ⟨_, _, rfl, rfl⟩ | ⟨_, D, k2, _⟩
  ·exact (k1 h1).elim
  ·exact ⟨rfl, rfl⟩
  ·rw [h2] at k2; cases k2
 ·rcases h' with ⟨k1, _⟩ | ⟨_, k2, _⟩ | ⟨_, D', k2, k3, rfl⟩
  ·exact (k1 h1).elim
  ·rw [h2] at k2; cases k2
  ·rw [h2] at k2
   injection k2 with k2
   subst k2
   exact ⟨rfl, h3.uniq k3⟩
def DcN (v : V) (w : World) (e : Ending) (w' : World) : Prop := ∃ code L a c b o, e = .returned (.tuple #[.slice a L.length c, .int .i64 code]) /\ Headed a L.length c b o /\ liesQ w' (Old w') L b o /\ Below w.heap.size w w' /\ Dc v code L
theorem dc_of {v : V} {S : Nat -> Prop} {w : World} {e : Ending} {w' : World} (h : DcPost v S w e w') (hS : ∀ b, S b -> b < w.heap.size) : DcN v w e w' := by
 obtain ⟨b, ⟨h1, rfl⟩ | ⟨h1, h2, rfl⟩ | ⟨D, R, a, c, b', o, h1, h2, h3, rfl, h4, h5⟩⟩ := h
 ·exact ⟨_, [], none, 0, 0, 0, rfl, ⟨Nat.le_refl _, by simp [maxLen], .inl rfl, fun _ => rfl⟩, fun j hj => by simp at hj, b, .inl ⟨h1, rfl, rfl⟩⟩
 ·exact ⟨_, [], none, 0, 0, 0, rfl, ⟨Nat.le_refl _, by simp [maxLen], .inl rfl, fun _ => rfl⟩, fun j hj => by simp at hj, b, .inr (.inl ⟨h1, h2, rfl, rfl⟩)⟩
 ·exact ⟨_, R, a, c, b', o, rfl, h4, liesQ_keep (fun _ _ => rfl) (fun x hx => hx.elim (fun h => Nat.lt_of_lt_of_le (hS x h) b.size) (fun h => h.2)) h5, b, .inr (.inr ⟨h1, D, h2, h3, rfl⟩)⟩
theorem liesQ_old {W W' : World} {L : List (List El)} {b o : Nat} (hb : Below W.heap.size W W') (h : liesQ W (Old W) L b o) : liesQ W' (Old W') L b o := liesQ_keep (fun x hx => hb.block x hx) (fun x hx => Nat.lt_of_lt_of_le hx hb.size) h
theorem lies_old {R : Bool} {v : V} {W W' : World} {cs : List Value} (hb : Below W.heap.size W W') (h : v.lies R W (Old W) cs) : v.lies R W' (Old W') cs := V.lies_keep (fun h => h) (fun x hx => hb.block x hx) (fun x hx => Nat.lt_of_lt_of_le hx hb.size) _ h
theorem twin_lies {v : V} {w : World} {e : Ending} {w' : World} {cs : List Value} {S : Nat -> Prop} (hl : v.lies false w S cs) (h : v.twinPost w e w') : ∃ ds : List Value, e = .returned (.agg ds.toArray) /\ v.lies true w' (Old w') ds /\ Below w.heap.size w w' := by
 obtain ⟨k, b, i, s, l, m⟩ := v
 rw [V.lies] at hl
 obtain ⟨al, cl, bl, ol, am, cm, bm, om, rfl, hk, hi, hs, _⟩ := hl
 obtain ⟨gl, tcl, gm, tcm, SL, SM, rfl, hb, hL, hM, _⟩ := h
 exact ⟨_, rfl, V.lies_keep (fun h => h) (fun _ _ => rfl) (fun x hx => hx.2) _ (TwinPost.lies hk hi hs hL hM), hb⟩
theorem decodes_walk (v : V) (cs : List Value) (w : World) (td : Td w) (hv : v.lies false w (Old w) cs) : Calls Tryz.prog 3 #[.agg cs.toArray] w (BPost true w) := by
 obtain ⟨k, b, i, s, al, nl, cl, am, nm, cm, rfl⟩ := V.ten hv
 have hb0 := box_row w [.int .i64 k, .bool b, .int .i64 i, .string s, .slice al nl cl, .slice am nm cm] 25
 have hz0 := alloc_size w (oV k b i s al nl cl am nm cm)
 have B0 : Below w.heap.size w (w.alloc (oV k b i s al nl cl am nm cm)) := (Below.refl _ _).alloc (Nat.le_refl _) _
 have HL : Hid (∀ W, Below w.heap.size w W -> v.lies false W (Old W) [.int .i64 k, .bool b, .int .i64 i, .string s, .slice al nl cl, .slice am nm cm] /\ Td W) := fun W hB => ⟨lies_old hB hv, td.below hB td.z hB.size⟩
 clear hv td
 obtain ⟨d0, d1, d2, d3, d4, d5⟩ := row6z hb0
 go_enter Tryz.func3, Tryz.ntmps3
 go_wp2_with fail
 generalize (w.alloc (oV k b i s al nl cl am nm cm)) = w0 at *
 refine (beyond_any v (Old w0) _ w0 (HL.out w0 B0).1 (fun x hx => hx)).mono ?_
 rintro e w1 ⟨r, rfl, hr, b1⟩
 have hz1 := b1.size
 have B1 := hmk (B0.trans (b1.mono (by omega)))
 have hb1 := hb0.keep (b1.block _ (by omega))
 clear d0 d1 d2 d3 d4 d5
 obtain ⟨d0, d1, d2, d3, d4, d5⟩ := row6z hb1
 cases r with
 | true =>
  go_wp2_with fail
  go_ret
  exact ⟨rfl, B1.out⟩
 | false =>
  have hwt := hr rfl
  have c2 := hmk (twin_any v (Old w1) _ w1 (HL.out w1 B1.out).1 (fun x hx => hx) (by omega))
  clear hr hb0 b1
  go_wp2_with fail
  refine c2.out.mono ?_
  intro e w2 h2
  obtain ⟨ds, rfl, hl2, b2⟩ := twin_lies (HL.out w1 B1.out).1 h2
  obtain ⟨uk, ub, ui, us, ual, unl, ucl, uam, unm, ucm, rfl⟩ := V.ten hl2
  have hz2 := b2.size
  have B2 := B1.out.trans (b2.mono (by omega))
  clear d0 d1 d2 d3 d4 d5 c2 h2
  have hz3 := alloc_size w2 (oV uk ub ui us ual unl ucl uam unm ucm)
  have hn3 := box_row w2 [.int .i64 uk, .bool ub, .int .i64 ui, .string us, .slice ual unl ucl, .slice uam unm ucm] 25
  have b23 : Below w2.heap.size w2 (w2.alloc (oV uk ub ui us ual unl ucl uam unm ucm)) := (Below.refl _ _).alloc (Nat.le_refl _) _
  have B3 := hmk (B2.trans (b23.mono (by omega)))
  have hb3 := (hb1.keep (b2.block _ (by omega))).keep (b23.block _ (by omega))
  have hl3 := lies_old b23 hl2
  obtain ⟨d0, d1, d2, d3, d4, d5⟩ := row6z hb3
  obtain ⟨f0, f1, f2, f3, f4, f5⟩ := row6z hn3
  clear hb1 B2 b2 hl2
  go_wp2_with fail
  generalize w2.alloc (oV uk ub ui us ual unl ucl uam unm ucm) = w3 at *
  have c3 := hmk (dec_any true v (Old w3) _ w3 (HL.out w3 B3.out).2 hl3 (fun x hx => hx) hwt)
  refine c3.out.mono ?_
  intro e w4 h4
  obtain ⟨code, L, a4, c4, b4', o4, rfl, hh4, hq4, b4, hD4⟩ := dc_of h4 (fun x hx => hx)
  have hz4 := b4.size
  have B4 := hmk (B3.out.trans (b4.mono (by omega)))
  have hb4 := hb3.keep (b4.block _ (by omega))
  have hn4 := hn3.keep (b4.block _ (by omega))
  have hl4 := lies_old b4 hl3
  clear d0 d1 d2 d3 d4 d5 f0 f1 f2 f3 f4 f5 c3 h4 hb3 hn3 hl3 b23
  obtain ⟨d0, d1, d2, d3, d4, d5⟩ := row6z hb4
  have HQ4 := hmk hq4
  have HD4 := hmk hD4
  have c5 := hmk (rdec_any v (Old w4) _ w4 (HL.out w4 B4.out).1 (fun x hx => hx) hwt)
  have HL4 := hmk hl4
  clear hq4 hD4 hl4
  go_wp2_with fail
  refine c5.out.mono ?_
  intro e w5 h5
  obtain ⟨code', L', a5, c5', b5', o5, rfl, hh5, hq5, b5, hD5⟩ := dc_of h5 (fun x hx => hx)
  obtain ⟨rfl, rfl⟩ := HD4.out.uniq hD5
  have hz5 := b5.size
  have B5 := hmk (B4.out.trans (b5.mono (by omega)))
  have hb5 := hb4.keep (b5.block _ (by omega))
  have hn5 := hn4.keep (b5.block _ (by omega))
  have HL5 := hmk (lies_old b5 HL4.out)
  have c6 := hmk (rws_any L (Old w5) (Old w5) a4 c4 b4' o4 a5 c5' b5' o5 w5 hh4 (liesQ_old b5 HQ4.out) hh5 hq5 (fun x hx => hx) (fun x hx => hx))
  clear d0 d1 d2 d3 d4 d5 c5 h5 HD4 hD5 hq5 HQ4 HL4 hb4 hn4 b4
  go_wp2_with fail
  refine c6.out.mono ?_
  rintro e w6 ⟨rfl, b6⟩
  have hz6 := b6.size
  have B6 := hmk (B5.out.trans (b6.mono (by omega)))
  obtain ⟨d0, d1, d2, d3, d4, d5⟩ := row6z (hb5.keep (b6.block _ (by omega)))
  obtain ⟨f0, f1, f2, f3, f4, f5⟩ := row6z (hn5.keep (b6.block _ (by omega)))
  have c7 := hmk (vkept_any v (Old w6) (Old w6) _ _ w6 (lies_old b6 HL5.out) (HL.out w6 B6.out).1 (fun x hx => hx) (fun x hx => hx))
  clear c6 b5 HL5 hb5 hn5 hh4 hh5
  go_wp2_with fail
  refine c7.out.mono ?_
  rintro e w7 ⟨rfl, b7⟩
  have hz7 := b7.size
  have B7 := hmk (B6.out.trans (b7.mono (by omega)))
  clear d0 d1 d2 d3 d4 d5 f0 f1 f2 f3 f4 f5 c7 b6 b7
  go_wp2_with fail
  go_loopw [8] (fun e8 wr => ∃ n : Nat, 31 <= n /\ n <= 37 /\ e8 = .int .i64 (n : Int) /\ Below w.heap.size w wr) (fun e _ => 37 - (RowKit.intOf e).toNat)
  case atStart => exact ⟨31, by omega, by omega, rfl, B7.out⟩
  case round =>
   clear B7
   obtain ⟨n, hn1, hn2, rfl, br⟩ := hrel
   have hzr := br.size
   by_cases hn : n < 37
   case neg =>
    obtain rfl : n = 37 := by omega
    have HB := hmk br
    clear br
    go_wp2_with fail
    go_ret
    exact ⟨rfl, HB.out⟩
   have y1 : (n : Int) < 37 := by omega
   have hka : (⟨#[46, 97]⟩ : ByteArray).size = 2 := rfl
   have HKA : Hid ((⟨#[46, 97]⟩ : ByteArray).size <= maxLen) := by show _ <= _; rw [hka]; simp [maxLen]
   have c1 := hmk (nest_any ⟨#[46, 97]⟩ n wr (by omega) (by omega) HKA.out)
   have hnw := nestV_wt ⟨#[46, 97]⟩ (n - 1)
   rw [hka] at hnw
   have HNW : Hid ((nestV ⟨#[46, 97]⟩ (n - 1)).wt <= 2147483647) := by show _ <= _; omega
   clear hnw hka
   obtain ⟨nv, hnv⟩ : ∃ nv, nv = nestV ⟨#[46, 97]⟩ (n - 1) := ⟨_, rfl⟩
   have HNV := hmk hnv
   rw [<- hnv] at c1 HNW
   clear hnv
   have BR := hmk br
   clear br
   go_wp2_with fail
   refine c1.out.mono ?_
   rintro e x1 ⟨es, rfl, hl1, p1⟩
   have hy1 := p1.size
   have Q1 := hmk (BR.out.trans (p1.mono (by omega)))
   have c2 := hmk (dec_any false nv (New wr x1) _ x1 (HL.out x1 Q1.out).2 hl1 (fun x hx => hx.2) HNW.out)
   clear c1 hl1
   go_wp2_with fail
   refine c2.out.mono ?_
   intro e x2 h2
   obtain ⟨code2, L2, a2, c2', b2', o2, rfl, hh2, hq2, p2, hD2⟩ := dc_of h2 (fun x hx => hx.2)
   have hy2 := p2.size
   have Q2 := hmk (Q1.out.trans (p2.mono (by omega)))
   have HQ2 := hmk hq2
   have HD2 := hmk hD2
   have c3 := hmk (nest_any ⟨#[46, 97]⟩ n x2 (by omega) (by omega) HKA.out)
   rw [<- HNV.out] at c3
   clear c2 h2 hq2 hD2
   go_wp2_with fail
   refine c3.out.mono ?_
   rintro e x3 ⟨es3, rfl, hl3, p3⟩
   have hy3 := p3.size
   have Q3 := hmk (Q2.out.trans (p3.mono (by omega)))
   have c4 := hmk (rdec_any nv (New x2 x3) _ x3 hl3 (fun x hx => hx.2) HNW.out)
   have HP3 := hmk p3
   clear c3 hl3
   go_wp2_with fail
   refine c4.out.mono ?_
   intro e x4 h4
   obtain ⟨code4, L4, a4, c4', b4', o4, rfl, hh4, hq4, p4, hD4⟩ := dc_of h4 (fun x hx => hx.2)
   obtain ⟨rfl, rfl⟩ := HD2.out.uniq hD4
   have hy4 := p4.size
   have Q4 := hmk (Q3.out.trans (p4.mono (by omega)))
   have c5 := hmk (rws_any L2 (Old x4) (Old x4) a2 c2' b2' o2 a4 c4' b4' o4 x4 hh2 (liesQ_old (HP3.out.trans (p4.mono (by omega))) HQ2.out) hh4 hq4 (fun x hx => hx) (fun x hx => hx))
   clear c4 h4 hD4 HD2 hq4 HQ2 p4 HP3 hh2 hh4 p1 p2 p3
   go_wp2_with fail
   refine c5.out.mono ?_
   rintro e x5 ⟨rfl, p5⟩
   have hy5 := p5.size
   have Q5 := hmk (Q4.out.trans (p5.mono (by omega)))
   clear c5 p5
   go_wp2_with fail
   go_roundw
   case rel => exact ⟨n + 1, by omega, by omega, by go_num, Q5.out⟩
   case measure => simp [RowKit.intOf]; omega
end Go.Proofs.YtdgfjdhobdfglaaGreatDoor
