import Derived.Test.YtgnofbigggmilaaGreatDoorGrwB
set_option linter.unusedSimpArgs false
set_option linter.unusedVariables false
namespace Go.Proofs.YtgnofbigggmilaaGreatDoor
open Go.RowKit Go.Lib
theorem gap_end (n : Nat) : gapF ⟨#[45]⟩ n = some n := by rw [gapF, if_pos rfl]
theorem gap_zero (n : Nat) (h : n + 1 < 9223372036854775808) : gapF ⟨#[48]⟩ n = some 0 := by
 have e : decDigits 0 = [48] := by kernel_rfl
 rw [gapF, if_neg (by decide)]
 exact idxF_some h (by omega) e
theorem cell_block {w w' : World} {g o : Nat} (h : w'.heap[g]? = w.heap[g]?) : w'.cell? ⟨g, o, none⟩ = w.cell? ⟨g, o, none⟩ := by simp only [World.cell?, h]
structure PopMid (v x : V) (wc wx : World) (A B : Nat) (gk : Int) (gb : Bool) (gi : Int) (gs : ByteArray) (gal : Option Addr) (gnl gcl : Nat) (gam : Option Addr) (gnm gcm : Nat) (fk : Int) (fb : Bool) (fi : Int) (fs : ByteArray) (fal : Option Addr) (fnl fcl : Nat) (fam : Option Addr) (fnm fcm : Nat) : Prop where
 bel : Below wc.heap.size wc wx
 bA : wx.heap[A]? = some (.cells #[.int .i64 gk, .bool gb, .int .i64 gi, .string gs, .slice gal gnl gcl, .slice gam gnm gcm] 25)
 bB : wx.heap[B]? = some (.cells #[.int .i64 fk, .bool fb, .int .i64 fi, .string fs, .slice fal fnl fcl, .slice fam fnm fcm] 25)
 lo : wc.heap.size ≤ A ∧ wc.heap.size ≤ B ∧ A < wx.heap.size ∧ B < wx.heap.size
 l1 : v.lies false wx (New wc wx) [.int .i64 gk, .bool gb, .int .i64 gi, .string gs, .slice gal gnl gcl, .slice gam gnm gcm]
 l2 : x.lies false wx (New wc wx) [.int .i64 fk, .bool fb, .int .i64 fi, .string fs, .slice fal fnl fcl, .slice fam fnm fcm]
theorem pop_mid {v x : V} {wc wq : World} {A B lo hi : Nat} {gk : Int} {gb : Bool} {gi : Int} {gs : ByteArray} {gal : Option Addr} {gnl gcl : Nat} {gam : Option Addr} {gnm gcm : Nat} {fk : Int} {fb : Bool} {fi : Int} {fs : ByteArray} {fal : Option Addr} {fnl fcl : Nat} {fam : Option Addr} {fnm fcm : Nat} (bel : Below wc.heap.size wc wq) (hA : wc.heap.size ≤ A) (hB : wc.heap.size ≤ B) (hAB : A ≠ B) (hA' : A < lo ∨ hi ≤ A) (hB' : B < lo ∨ hi ≤ B) (hlo : wc.heap.size ≤ lo) (hhi : hi ≤ wq.heap.size)
 (mA : wq.heap[A]? = some (.cells #[.int .i64 0, .bool false, .int .i64 0, .string ⟨#[]⟩, .slice none 0 0, .slice none 0 0] 25)) (mB : wq.heap[B]? = some (.cells #[.int .i64 0, .bool false, .int .i64 0, .string ⟨#[]⟩, .slice none 0 0, .slice none 0 0] 25)) (l1 : v.lies false wq (fun y => lo ≤ y ∧ y < hi) [.int .i64 gk, .bool gb, .int .i64 gi, .string gs, .slice gal gnl gcl, .slice gam gnm gcm]) (l2 : x.lies false wq (fun y => lo ≤ y ∧ y < hi) [.int .i64 fk, .bool fb, .int .i64 fi, .string fs, .slice fal fnl fcl, .slice fam fnm fcm]) :
 PopMid v x wc ((((((((((((wq.setCell ⟨A, 0, none⟩ (.int .i64 gk)).setCell ⟨A, 1, none⟩ (.bool gb)).setCell ⟨A, 2, none⟩ (.int .i64 gi)).setCell ⟨A, 3, none⟩ (.string gs)).setCell ⟨A, 4, none⟩ (.slice gal gnl gcl)).setCell ⟨A, 5, none⟩ (.slice gam gnm gcm)).setCell ⟨B, 0, none⟩ (.int .i64 fk)).setCell ⟨B, 1, none⟩ (.bool fb)).setCell ⟨B, 2, none⟩ (.int .i64 fi)).setCell ⟨B, 3, none⟩ (.string fs)).setCell ⟨B, 4, none⟩ (.slice fal fnl fcl)).setCell ⟨B, 5, none⟩ (.slice fam fnm fcm)) A B gk gb gi gs gal gnl gcl gam gnm gcm fk fb fi fs fal fnl fcl fam fnm fcm := by
 have zA : A < wq.heap.size := (Array.getElem?_eq_some_iff.1 mA).1
 have zB : B < wq.heap.size := (Array.getElem?_eq_some_iff.1 mB).1
 have oA := six_o wq A (.int .i64 gk) (.bool gb) (.int .i64 gi) (.string gs) (.slice gal gnl gcl) (.slice gam gnm gcm)
 have xA := box_six mA (.int .i64 gk) (.bool gb) (.int .i64 gi) (.string gs) (.slice gal gnl gcl) (.slice gam gnm gcm)
 have gA : wq.grownBy ((((((wq.setCell ⟨A, 0, none⟩ (.int .i64 gk)).setCell ⟨A, 1, none⟩ (.bool gb)).setCell ⟨A, 2, none⟩ (.int .i64 gi)).setCell ⟨A, 3, none⟩ (.string gs)).setCell ⟨A, 4, none⟩ (.slice gal gnl gcl)).setCell ⟨A, 5, none⟩ (.slice gam gnm gcm)) (some A) := grown_set (grown_set (grown_set (grown_set (grown_set (grown_set (World.grownBy.refl wq _) 0 _) 1 _) 2 _) 3 _) 4 _) 5 _
 have sA : ((((((wq.setCell ⟨A, 0, none⟩ (.int .i64 gk)).setCell ⟨A, 1, none⟩ (.bool gb)).setCell ⟨A, 2, none⟩ (.int .i64 gi)).setCell ⟨A, 3, none⟩ (.string gs)).setCell ⟨A, 4, none⟩ (.slice gal gnl gcl)).setCell ⟨A, 5, none⟩ (.slice gam gnm gcm)).heap.size = wq.heap.size := by simp only [size_set1]
 generalize ((((((wq.setCell ⟨A, 0, none⟩ (.int .i64 gk)).setCell ⟨A, 1, none⟩ (.bool gb)).setCell ⟨A, 2, none⟩ (.int .i64 gi)).setCell ⟨A, 3, none⟩ (.string gs)).setCell ⟨A, 4, none⟩ (.slice gal gnl gcl)).setCell ⟨A, 5, none⟩ (.slice gam gnm gcm)) = wp at *
 have oB := six_o wp B (.int .i64 fk) (.bool fb) (.int .i64 fi) (.string fs) (.slice fal fnl fcl) (.slice fam fnm fcm)
 have xB := box_six ((oA B (fun e => hAB e.symm)).trans mB) (.int .i64 fk) (.bool fb) (.int .i64 fi) (.string fs) (.slice fal fnl fcl) (.slice fam fnm fcm)
 have gB : wp.grownBy ((((((wp.setCell ⟨B, 0, none⟩ (.int .i64 fk)).setCell ⟨B, 1, none⟩ (.bool fb)).setCell ⟨B, 2, none⟩ (.int .i64 fi)).setCell ⟨B, 3, none⟩ (.string fs)).setCell ⟨B, 4, none⟩ (.slice fal fnl fcl)).setCell ⟨B, 5, none⟩ (.slice fam fnm fcm)) (some B) := grown_set (grown_set (grown_set (grown_set (grown_set (grown_set (World.grownBy.refl wp _) 0 _) 1 _) 2 _) 3 _) 4 _) 5 _
 have sB : ((((((wp.setCell ⟨B, 0, none⟩ (.int .i64 fk)).setCell ⟨B, 1, none⟩ (.bool fb)).setCell ⟨B, 2, none⟩ (.int .i64 fi)).setCell ⟨B, 3, none⟩ (.string fs)).setCell ⟨B, 4, none⟩ (.slice fal fnl fcl)).setCell ⟨B, 5, none⟩ (.slice fam fnm fcm)).heap.size = wp.heap.size := by simp only [size_set1]
 generalize ((((((wp.setCell ⟨B, 0, none⟩ (.int .i64 fk)).setCell ⟨B, 1, none⟩ (.bool fb)).setCell ⟨B, 2, none⟩ (.int .i64 fi)).setCell ⟨B, 3, none⟩ (.string fs)).setCell ⟨B, 4, none⟩ (.slice fal fnl fcl)).setCell ⟨B, 5, none⟩ (.slice fam fnm fcm)) = wx at *
 have key : ∀ z, z ≠ A → z ≠ B → wx.heap[z]? = wq.heap[z]? := fun z h1 h2 => (oB z h2).trans (oA z h1)
 have hz := bel.size
 have kf : ∀ z, (lo ≤ z ∧ z < hi) → wx.heap[z]? = wq.heap[z]? := fun z hz => key z (by omega) (by omega)
 have kn : ∀ z, (lo ≤ z ∧ z < hi) → New wc wx z := fun z hz => ⟨by omega, by omega⟩
 exact ⟨⟨gB.os.trans (gA.os.trans bel.os), gB.tape.trans (gA.tape.trans bel.tape), gB.output.trans (gA.output.trans bel.output), by omega, fun z hz => (key z (by omega) (by omega)).trans (bel.block z (by omega))⟩, (oB A hAB).trans xA, xB, ⟨by omega, by omega, by omega, by omega⟩, V.lies_keep (fun h => h) kf kn _ l1, V.lies_keep (fun h => h) kf kn _ l2⟩
set_option maxHeartbeats 8000000 in
set_option maxRecDepth 100000 in
theorem grown_list (v x : V) (key p : ByteArray) (ts : List ByteArray) (S : Nat → Prop) (cs ds es : List Value) (w : World) (tg : Tg w) (hm : Mv v x key) (hp : Place v p ts) (h4 : kindOf (rgW v ts).1 = 4) (hv : v.lies false w S cs) (ho : (rgW v ts).1.lies false w S ds) (hx : x.lies false w S es) (hS : ∀ b, S b → b < w.heap.size) (hwt : v.wt ≤ 2147483648) (hwx : x.wt ≤ 2147483648) :
 Calls Tryz.prog 26 #[.agg cs.toArray, .string p, .agg ds.toArray, .agg es.toArray, .string key] w (BPost true w) := by
 obtain ⟨k, b, i, s, al, nl, cl, am, nm, cm, rfl⟩ := V.ten hv
 obtain ⟨xk, xb, xi, xs, xal, xnl, xcl, xam, xnm, xcm, rfl⟩ := V.ten hx
 have hps := place_size hm hp
 have hnv := hm.n
 have hno := nd_rg ts v hp.r
 have hgo := all_rg ts v hm.g hp.r
 have HL : Hid (∀ W, Below w.heap.size w W → v.lies false W S [.int .i64 k, .bool b, .int .i64 i, .string s, .slice al nl cl, .slice am nm cm] ∧ (rgW v ts).1.lies false W S ds ∧ x.lies false W S [.int .i64 xk, .bool xb, .int .i64 xi, .string xs, .slice xal xnl xcl, .slice xam xnm xcm] ∧ (∀ b, S b → b < W.heap.size) ∧ Tg W) := fun W hb =>
  ⟨V.lies_keep (fun h => h) (fun y hy => hb.block y (hS y hy)) (fun _ h => h) _ hv, V.lies_keep (fun h => h) (fun y hy => hb.block y (hS y hy)) (fun _ h => h) _ ho, V.lies_keep (fun h => h) (fun y hy => hb.block y (hS y hy)) (fun _ h => h) _ hx, fun y hy => Nat.lt_of_lt_of_le (hS y hy) hb.size, tg.below hb tg.z⟩
 obtain ⟨ob, oi, os, ol, om, eo⟩ : ∃ ob oi os ol om, (rgW v ts).1 = .mk 4 ob oi os ol om := by
  cases h : (rgW v ts).1 with
  | mk k b i s l m => rw [h] at h4; have e : k = 4 := h4; subst e; exact ⟨_, _, _, _, _, rfl⟩
 have HPop : Hid (∀ q : ByteArray, q.data.toList = p.data.toList ++ 47 :: (digB ol.length).data.toList → takF (updV v ts (.mk 4 ob oi os (insL ol ol.length x) om)) q = (v, x, 0)) := fun q hq => mv_pop hm hp eo (by rw [eo, ndV] at hno; have := ndL_len ol; omega) hq
 have hc1 := mv_ins hm hp eo ol.length
 have HKd : Hid (kdsF (updV v ts (.mk 4 ob oi os (insL ol ol.length x) om)) p = (ldgF (.mk 4 ob oi os (insL ol ol.length x) om), 0)) := by
  show _ = _
  rw [kds_place hc1 (place_upd hp _), rg_upd _ ts v hp.r]
 have hA := mv_add (q := p ++ ⟨#[47, 45]⟩) (t := ⟨#[45]⟩) hm hp eo (by rw [ByteArray.data_append]; simp [esp]) (by kernel_rfl) (gap_end _)
 have hZ := mv_add (q := p ++ ⟨#[47, 48]⟩) (t := ⟨#[48]⟩) hm hp eo (by rw [ByteArray.data_append]; simp [esp]) (by kernel_rfl) (gap_zero _ (by rw [eo, ndV] at hno; have := ndL_len ol; omega))
 have hw1 := wt_chk hc1
 have hw2 := wt_chk (mv_ins hm hp eo 0)
 rw [eo] at ho hno hgo HL
 rw [V.lies] at ho
 obtain ⟨oal, ocl, obl, oof, oam, ocm, _, _, rfl, _, _, _, hoal, _, hoL, _, _⟩ := ho
 have HOL := hmk hoL
 clear hoL
 rw [ndV] at hno
 have hol := ndL_len ol
 have hom : om = [] := by
  rw [allG] at hgo
  have hgd := hgo.1
  simp only [goodB, Bool.and_eq_true, plainB, decide_eq_true_iff] at hgd
  rcases hgd.1.1.2.2.2.2.2.2 with e | e
  ·exact absurd e (by decide)
  ·exact List.length_eq_zero_iff.1 (by omega)
 have hKL : (ldgF (.mk 4 ob oi os (insL ol ol.length x) om)).length = ol.length + 1 := by
  rw [hom]
  show (digs (insL ol ol.length x).length ++ keysB []).length = _
  rw [List.length_append, digs_len, ins_len]
  rfl
 have hKn : (ldgF (.mk 4 ob oi os (insL ol ol.length x) om))[ol.length]? = some (digB ol.length) := by
  rw [hom]
  show (digs (insL ol ol.length x).length ++ keysB [])[ol.length]? = _
  rw [ins_len, List.getElem?_append_left (by rw [digs_len]; omega), digs, List.getElem?_map, List.getElem?_range (by omega)]
  rfl
 have HKL := hmk hKL
 have HKn := hmk hKn
 clear hom hKL hKn
 have B0 := three_below w (.cells #[.int .i64 k, .bool b, .int .i64 i, .string s, .slice al nl cl, .slice am nm cm] 25) (.cells #[.int .i64 4, .bool ob, .int .i64 oi, .string os, .slice oal ol.length ocl, .slice oam om.length ocm] 25) (.cells #[.int .i64 xk, .bool xb, .int .i64 xi, .string xs, .slice xal xnl xcl, .slice xam xnm xcm] 25)
 obtain ⟨hz0, h0, h1, h2⟩ := three_at w (.cells #[.int .i64 k, .bool b, .int .i64 i, .string s, .slice al nl cl, .slice am nm cm] 25) (.cells #[.int .i64 4, .bool ob, .int .i64 oi, .string os, .slice oal ol.length ocl, .slice oam om.length ocm] 25) (.cells #[.int .i64 xk, .bool xb, .int .i64 xi, .string xs, .slice xal xnl xcl, .slice xam xnm xcm] 25)
 obtain ⟨o0, o1, o2, o3, o4, o5⟩ := sixC h1
 obtain ⟨p0, p1, p2, p3, p4, p5⟩ := sixC h0
 obtain ⟨q0, q1, q2, q3, q4, q5⟩ := sixC h2
 have y7 : ¬ 9223372036854775807 < p.size + (⟨#[47, 45]⟩ : ByteArray).size := by have : (⟨#[47, 45]⟩ : ByteArray).size = 2 := rfl; omega
 have hqs : (p ++ ⟨#[47, 45]⟩ : ByteArray).size ≤ 3900000 := by
  have e : (p ++ ⟨#[47, 45]⟩ : ByteArray).size = p.size + 2 := by rw [← toList_size, ByteArray.data_append]; simp
  omega
 have CA := add_any v (p ++ ⟨#[47, 45]⟩) x S _ _ (((w.alloc (.cells #[.int .i64 k, .bool b, .int .i64 i, .string s, .slice al nl cl, .slice am nm cm] 25)).alloc (.cells #[.int .i64 4, .bool ob, .int .i64 oi, .string os, .slice oal ol.length ocl, .slice oam om.length ocm] 25)).alloc (.cells #[.int .i64 xk, .bool xb, .int .i64 xi, .string xs, .slice xal xnl xcl, .slice xam xnm xcm] 25)) (HL.out _ B0).2.2.2.2 (HL.out _ B0).1 (HL.out _ B0).2.2.1 (HL.out _ B0).2.2.2.1 hwt hwx hqs
 rw [hA.1] at CA
 have CA := hmk CA
 have hA2 := hA.2
 clear hA hv hx tg h4
 generalize updV v ts (.mk 4 ob oi os (insL ol ol.length x) om) = W1v at *
 generalize updV v ts (.mk 4 ob oi os (insL ol 0 x) om) = W2v at *
 go_enter Tryz.func26, Tryz.ntmps26
 go_wp2_with fail
 generalize (((w.alloc (.cells #[.int .i64 k, .bool b, .int .i64 i, .string s, .slice al nl cl, .slice am nm cm] 25)).alloc (.cells #[.int .i64 4, .bool ob, .int .i64 oi, .string os, .slice oal ol.length ocl, .slice oam om.length ocm] 25)).alloc (.cells #[.int .i64 xk, .bool xb, .int .i64 xi, .string xs, .slice xal xnl xcl, .slice xam xnm xcm] 25)) = w0 at *
 refine CA.out.mono ?_
 rintro e w1 ⟨ca, rfl, la, b1⟩
 obtain ⟨ak, ab, ai, as_, aal, anl, acl, aam, anm, acm, rfl⟩ := V.ten la
 have hz1 := b1.size
 have b1a : Below w1.heap.size w1 (w1.alloc (.cells #[.int .i64 ak, .bool ab, .int .i64 ai, .string as_, .slice aal anl acl, .slice aam anm acm] 25)) := one_belowG _ _
 have b1b := b1.trans (b1a.mono hz1)
 have hza : (w1.alloc (.cells #[.int .i64 ak, .bool ab, .int .i64 ai, .string as_, .slice aal anl acl, .slice aam anm acm] 25)).heap.size = w1.heap.size + 1 := alloc_size _ _
 have B1 := B0.trans (b1b.mono B0.size)
 have kC := (b1b.block w.heap.size (by omega)).trans h0
 have kO := (b1b.block (w.heap.size + 1) (by omega)).trans h1
 have kX := (b1b.block (w.heap.size + 2) (by omega)).trans h2
 have kA := heap_alloc_new w1 (.cells #[.int .i64 ak, .bool ab, .int .i64 ai, .string as_, .slice aal anl acl, .slice aam anm acm] 25)
 have HA : Hid (∀ W, Below (w1.alloc (.cells #[.int .i64 ak, .bool ab, .int .i64 ai, .string as_, .slice aal anl acl, .slice aam anm acm] 25)).heap.size (w1.alloc (.cells #[.int .i64 ak, .bool ab, .int .i64 ai, .string as_, .slice aal anl acl, .slice aam anm acm] 25)) W → W1v.lies false W (New w0 w1) [.int .i64 ak, .bool ab, .int .i64 ai, .string as_, .slice aal anl acl, .slice aam anm acm]) := fun W hb => V.lies_keep (fun h => h) (fun y hy => (hb.block y (by have := hy.2; omega)).trans (b1a.block y hy.2)) (fun _ h => h) _ la
 have GT := get_any W1v p (New w0 w1) [.int .i64 ak, .bool ab, .int .i64 ai, .string as_, .slice aal anl acl, .slice aam anm acm] (w1.alloc (.cells #[.int .i64 ak, .bool ab, .int .i64 ai, .string as_, .slice aal anl acl, .slice aam anm acm] 25)) (HL.out _ B1).2.2.2.2 (HA.out _ (Below.refl _ _)) (fun y hy => by have := hy.2; omega) (by omega) (by omega)
 rw [hA2] at GT
 have GT := hmk GT
 clear CA h0 h1 h2 o0 o1 o2 o3 o4 o5 p0 p1 p2 p3 p4 p5 q0 q1 q2 q3 q4 q5 y7 la
 go_wp2_with fail
 generalize (w1.alloc (.cells #[.int .i64 ak, .bool ab, .int .i64 ai, .string as_, .slice aal anl acl, .slice aam anm acm] 25)) = wa at *
 refine GT.out.mono ?_
 rintro e w2 ⟨cd, rfl, ld, b2⟩
 have ld0 := ld
 rw [V.lies, ins_len] at ld
 obtain ⟨dal, dcl, dbl, dol, dam, dcm, _, _, rfl, _, _, _, hdal, _, hdl, _, _⟩ := ld
 obtain rfl : dal = some ⟨dbl, dol, none⟩ := hdal.at_.resolve_left (by omega)
 have hz2 := b2.size
 have b2a : Below w2.heap.size w2 (w2.alloc (.cells #[.int .i64 4, .bool ob, .int .i64 oi, .string os, .slice (some ⟨dbl, dol, none⟩) (ol.length + 1) dcl, .slice dam om.length dcm] 25)) := one_belowG _ _
 have b2b := b2.trans (b2a.mono hz2)
 have hzb : (w2.alloc (.cells #[.int .i64 4, .bool ob, .int .i64 oi, .string os, .slice (some ⟨dbl, dol, none⟩) (ol.length + 1) dcl, .slice dam om.length dcm] 25)).heap.size = w2.heap.size + 1 := alloc_size _ _
 have B2 := B1.trans (b2b.mono B1.size)
 have kC2 := (b2b.block w.heap.size (by omega)).trans kC
 have kO2 := (b2b.block (w.heap.size + 1) (by omega)).trans kO
 have kX2 := (b2b.block (w.heap.size + 2) (by omega)).trans kX
 have kA2 := (b2b.block w1.heap.size (by omega)).trans kA
 have kD2 := heap_alloc_new w2 (.cells #[.int .i64 4, .bool ob, .int .i64 oi, .string os, .slice (some ⟨dbl, dol, none⟩) (ol.length + 1) dcl, .slice dam om.length dcm] 25)
 have hlt : ol.length < (insL ol ol.length x).length := by rw [ins_len]; omega
 obtain ⟨hSd, cse, hrow, hle⟩ := liesL_get hdl ol.length hlt
 rw [ins_at (Nat.le_refl _) x hlt] at hle
 obtain ⟨ek, eb, ei, es, eal, enl, ecl, eam, enm, ecm, rfl⟩ := V.ten hle
 have rw0 := row6 (hrow.keep (b2a.block dbl hSd.2))
 have hbl : dbl < (w2.alloc (.cells #[.int .i64 4, .bool ob, .int .i64 oi, .string os, .slice (some ⟨dbl, dol, none⟩) (ol.length + 1) dcl, .slice dam om.length dcm] 25)).heap.size := by have := hSd.2; omega
 have hle2 : x.lies false (w2.alloc (.cells #[.int .i64 4, .bool ob, .int .i64 oi, .string os, .slice (some ⟨dbl, dol, none⟩) (ol.length + 1) dcl, .slice dam om.length dcm] 25)) (New wa w2) [.int .i64 ek, .bool eb, .int .i64 ei, .string es, .slice eal enl ecl, .slice eam enm ecm] := V.lies_keep (fun h => h) (fun y hy => b2a.block y hy.2) (fun _ h => h) _ hle
 have CS : Hid (∀ z : Sub (w2.alloc (.cells #[.int .i64 4, .bool ob, .int .i64 oi, .string os, .slice (some ⟨dbl, dol, none⟩) (ol.length + 1) dcl, .slice dam om.length dcm] 25)).heap.size (w2.alloc (.cells #[.int .i64 4, .bool ob, .int .i64 oi, .string os, .slice (some ⟨dbl, dol, none⟩) (ol.length + 1) dcl, .slice dam om.length dcm] 25)), Calls Tryz.prog 14 #[.agg #[.int .i64 ek, .bool eb, .int .i64 ei, .string es, .slice eal enl ecl, .slice eam enm ecm], .agg #[.int .i64 xk, .bool xb, .int .i64 xi, .string xs, .slice xal xnl xcl, .slice xam xnm xcm]] z.w fun e w'' => e = .returned (.bool true) ∧ ∃ y : Sub (w2.alloc (.cells #[.int .i64 4, .bool ob, .int .i64 oi, .string os, .slice (some ⟨dbl, dol, none⟩) (ol.length + 1) dcl, .slice dam om.length dcm] 25)).heap.size (w2.alloc (.cells #[.int .i64 4, .bool ob, .int .i64 oi, .string os, .slice (some ⟨dbl, dol, none⟩) (ol.length + 1) dcl, .slice dam om.length dcm] 25)), w'' = y.w) := sub_call fun W hb => by
  have q := HL.out W (B2.trans (hb.mono B2.size))
  have c := same_any x false false x (New wa w2) S _ _ W (V.lies_keep (fun h => h) (fun y hy => hb.block y (by have := hy.2; omega)) (fun _ h => h) _ hle2) q.2.2.1 (fun y hy => by have := hy.2; have := hb.size; omega) q.2.2.2.1
  rw [V.eqB_refl] at c
  exact c.mono fun e W' ⟨he, h2⟩ => ⟨he, hb.trans (h2.mono hb.size)⟩
 obtain ⟨d0, d1, d2, d3, d4, d5⟩ := sixC kD2
 obtain ⟨o0, o1, o2, o3, o4, o5⟩ := sixC kO2
 obtain ⟨x0, x1, x2, x3, x4, x5⟩ := sixC kX2
 have m0 : ∀ z : Sub (w2.alloc (.cells #[.int .i64 4, .bool ob, .int .i64 oi, .string os, .slice (some ⟨dbl, dol, none⟩) (ol.length + 1) dcl, .slice dam om.length dcm] 25)).heap.size (w2.alloc (.cells #[.int .i64 4, .bool ob, .int .i64 oi, .string os, .slice (some ⟨dbl, dol, none⟩) (ol.length + 1) dcl, .slice dam om.length dcm] 25)), _ := sub_cell d0 (by omega)
 have m4 : ∀ z : Sub (w2.alloc (.cells #[.int .i64 4, .bool ob, .int .i64 oi, .string os, .slice (some ⟨dbl, dol, none⟩) (ol.length + 1) dcl, .slice dam om.length dcm] 25)).heap.size (w2.alloc (.cells #[.int .i64 4, .bool ob, .int .i64 oi, .string os, .slice (some ⟨dbl, dol, none⟩) (ol.length + 1) dcl, .slice dam om.length dcm] 25)), _ := sub_cell d4 (by omega)
 have n4 : ∀ z : Sub (w2.alloc (.cells #[.int .i64 4, .bool ob, .int .i64 oi, .string os, .slice (some ⟨dbl, dol, none⟩) (ol.length + 1) dcl, .slice dam om.length dcm] 25)).heap.size (w2.alloc (.cells #[.int .i64 4, .bool ob, .int .i64 oi, .string os, .slice (some ⟨dbl, dol, none⟩) (ol.length + 1) dcl, .slice dam om.length dcm] 25)), _ := sub_cell o4 (by omega)
 have g0 : ∀ z : Sub (w2.alloc (.cells #[.int .i64 4, .bool ob, .int .i64 oi, .string os, .slice (some ⟨dbl, dol, none⟩) (ol.length + 1) dcl, .slice dam om.length dcm] 25)).heap.size (w2.alloc (.cells #[.int .i64 4, .bool ob, .int .i64 oi, .string os, .slice (some ⟨dbl, dol, none⟩) (ol.length + 1) dcl, .slice dam om.length dcm] 25)), _ := sub_cell x0 (by omega)
 have g1 : ∀ z : Sub (w2.alloc (.cells #[.int .i64 4, .bool ob, .int .i64 oi, .string os, .slice (some ⟨dbl, dol, none⟩) (ol.length + 1) dcl, .slice dam om.length dcm] 25)).heap.size (w2.alloc (.cells #[.int .i64 4, .bool ob, .int .i64 oi, .string os, .slice (some ⟨dbl, dol, none⟩) (ol.length + 1) dcl, .slice dam om.length dcm] 25)), _ := sub_cell x1 (by omega)
 have g2 : ∀ z : Sub (w2.alloc (.cells #[.int .i64 4, .bool ob, .int .i64 oi, .string os, .slice (some ⟨dbl, dol, none⟩) (ol.length + 1) dcl, .slice dam om.length dcm] 25)).heap.size (w2.alloc (.cells #[.int .i64 4, .bool ob, .int .i64 oi, .string os, .slice (some ⟨dbl, dol, none⟩) (ol.length + 1) dcl, .slice dam om.length dcm] 25)), _ := sub_cell x2 (by omega)
 have g3 : ∀ z : Sub (w2.alloc (.cells #[.int .i64 4, .bool ob, .int .i64 oi, .string os, .slice (some ⟨dbl, dol, none⟩) (ol.length + 1) dcl, .slice dam om.length dcm] 25)).heap.size (w2.alloc (.cells #[.int .i64 4, .bool ob, .int .i64 oi, .string os, .slice (some ⟨dbl, dol, none⟩) (ol.length + 1) dcl, .slice dam om.length dcm] 25)), _ := sub_cell x3 (by omega)
 have g4 : ∀ z : Sub (w2.alloc (.cells #[.int .i64 4, .bool ob, .int .i64 oi, .string os, .slice (some ⟨dbl, dol, none⟩) (ol.length + 1) dcl, .slice dam om.length dcm] 25)).heap.size (w2.alloc (.cells #[.int .i64 4, .bool ob, .int .i64 oi, .string os, .slice (some ⟨dbl, dol, none⟩) (ol.length + 1) dcl, .slice dam om.length dcm] 25)), _ := sub_cell x4 (by omega)
 have g5 : ∀ z : Sub (w2.alloc (.cells #[.int .i64 4, .bool ob, .int .i64 oi, .string os, .slice (some ⟨dbl, dol, none⟩) (ol.length + 1) dcl, .slice dam om.length dcm] 25)).heap.size (w2.alloc (.cells #[.int .i64 4, .bool ob, .int .i64 oi, .string os, .slice (some ⟨dbl, dol, none⟩) (ol.length + 1) dcl, .slice dam om.length dcm] 25)), _ := sub_cell x5 (by omega)
 have f0 : ∀ z : Sub (w2.alloc (.cells #[.int .i64 4, .bool ob, .int .i64 oi, .string os, .slice (some ⟨dbl, dol, none⟩) (ol.length + 1) dcl, .slice dam om.length dcm] 25)).heap.size (w2.alloc (.cells #[.int .i64 4, .bool ob, .int .i64 oi, .string os, .slice (some ⟨dbl, dol, none⟩) (ol.length + 1) dcl, .slice dam om.length dcm] 25)), _ := sub_cell rw0.1 hbl
 have f1 : ∀ z : Sub (w2.alloc (.cells #[.int .i64 4, .bool ob, .int .i64 oi, .string os, .slice (some ⟨dbl, dol, none⟩) (ol.length + 1) dcl, .slice dam om.length dcm] 25)).heap.size (w2.alloc (.cells #[.int .i64 4, .bool ob, .int .i64 oi, .string os, .slice (some ⟨dbl, dol, none⟩) (ol.length + 1) dcl, .slice dam om.length dcm] 25)), _ := sub_cell rw0.2.1 hbl
 have f2 : ∀ z : Sub (w2.alloc (.cells #[.int .i64 4, .bool ob, .int .i64 oi, .string os, .slice (some ⟨dbl, dol, none⟩) (ol.length + 1) dcl, .slice dam om.length dcm] 25)).heap.size (w2.alloc (.cells #[.int .i64 4, .bool ob, .int .i64 oi, .string os, .slice (some ⟨dbl, dol, none⟩) (ol.length + 1) dcl, .slice dam om.length dcm] 25)), _ := sub_cell rw0.2.2.1 hbl
 have f3 : ∀ z : Sub (w2.alloc (.cells #[.int .i64 4, .bool ob, .int .i64 oi, .string os, .slice (some ⟨dbl, dol, none⟩) (ol.length + 1) dcl, .slice dam om.length dcm] 25)).heap.size (w2.alloc (.cells #[.int .i64 4, .bool ob, .int .i64 oi, .string os, .slice (some ⟨dbl, dol, none⟩) (ol.length + 1) dcl, .slice dam om.length dcm] 25)), _ := sub_cell rw0.2.2.2.1 hbl
 have f4 : ∀ z : Sub (w2.alloc (.cells #[.int .i64 4, .bool ob, .int .i64 oi, .string os, .slice (some ⟨dbl, dol, none⟩) (ol.length + 1) dcl, .slice dam om.length dcm] 25)).heap.size (w2.alloc (.cells #[.int .i64 4, .bool ob, .int .i64 oi, .string os, .slice (some ⟨dbl, dol, none⟩) (ol.length + 1) dcl, .slice dam om.length dcm] 25)), _ := sub_cell rw0.2.2.2.2.1 hbl
 have f5 : ∀ z : Sub (w2.alloc (.cells #[.int .i64 4, .bool ob, .int .i64 oi, .string os, .slice (some ⟨dbl, dol, none⟩) (ol.length + 1) dcl, .slice dam om.length dcm] 25)).heap.size (w2.alloc (.cells #[.int .i64 4, .bool ob, .int .i64 oi, .string os, .slice (some ⟨dbl, dol, none⟩) (ol.length + 1) dcl, .slice dam om.length dcm] 25)), _ := sub_cell rw0.2.2.2.2.2 hbl
 have y1 : (ol.length : Int) < (ol.length : Int) + 1 := by omega
 clear hle hrow hdl rw0 d0 d1 d2 d3 d4 d5 o0 o1 o2 o3 o4 o5 x0 x1 x2 x3 x4 x5 kC kO kX kA GT hdal
 go_wp2_with fail
 generalize (w2.alloc (.cells #[.int .i64 4, .bool ob, .int .i64 oi, .string os, .slice (some ⟨dbl, dol, none⟩) (ol.length + 1) dcl, .slice dam om.length dcm] 25)) = wb at *
 refine wp_region_sub wb.heap.size (by kernel_rfl) (by kernel_rfl) ?_
 repeat (go_big_quiet_step (exact CS.out _))
 refine wpQuiet_nil ?_
 rintro w3 ⟨⟨w3', b3⟩, h3⟩
 have h3' : w3 = w3' := h3
 subst h3'
 clear h3
 have hz3 := b3.size
 have B3 := B2.trans (b3.mono B2.size)
 have kA3 := (b3.block w1.heap.size (by omega)).trans kA2
 have KD := kids_own W1v p (New w0 w1) [.int .i64 ak, .bool ab, .int .i64 ai, .string as_, .slice aal anl acl, .slice aam anm acm] w3 (HL.out _ B3).2.2.2.2 (HA.out _ (b2b.trans (b3.mono b2b.size))) (fun y hy => by have := hy.2; omega) (by omega) (by omega)
 unfold KoPost at KD
 rw [HKd.out] at KD
 have KD := hmk KD
 obtain ⟨a0, a1, a2, a3, a4, a5⟩ := sixC kA3
 clear CS m0 m4 n4 g0 g1 g2 g3 g4 g5 f0 f1 f2 f3 f4 f5
 go_wp2_with fail
 refine KD.out.mono ?_
 rintro e w4 ⟨kv, rfl, kown, b4⟩
 have hz4 := b4.size
 have B4 := B3.trans (b4.mono B3.size)
 generalize ldgF (.mk 4 ob oi os (insL ol ol.length x) om) = KL at *
 obtain ⟨kg, ko, kc, rfl, hkc, hkg, hkcell⟩ := kown.lies.2 (by have := HKL.out; omega)
 have hlK : ol.length < KL.length := by have := HKL.out; omega
 have ct := hkcell ol.length hlK
 have ed : KL[ol.length] = digB ol.length := by have := HKn.out; rw [List.getElem?_eq_getElem hlK] at this; exact Option.some.inj this
 rw [ed] at ct
 have yK : (KL.length : Int) = (ol.length : Int) + 1 := by have := HKL.out; omega
 have b34 := b3.trans (b4.mono hz3)
 have hz34 := b34.size
 have kA4 := (b4.block w1.heap.size (by omega)).trans kA3
 have kC4 := (b34.block w.heap.size (by omega)).trans kC2
 have kO4 := (b34.block (w.heap.size + 1) (by omega)).trans kO2
 have kX4 := (b34.block (w.heap.size + 2) (by omega)).trans kX2
 have kD4 := (b34.block w2.heap.size (by omega)).trans kD2
 obtain ⟨c0, c1, c2, c3, c4, c5⟩ := sixC kD4
 clear hkcell ed a0 a1 a2 a3 a4 a5 KD hlK kown
 go_wp2_with fail
 have hdg : (digB ol.length).size ≤ 3001 := by
  have := dec_len ol.length ol.length (Nat.le_refl _)
  have e : (digB ol.length).size = (decDigits ol.length).length := rfl
  omega
 have e47 : (⟨#[47]⟩ : ByteArray).size = 1 := rfl
 have eps : (p ++ ⟨#[47]⟩ : ByteArray).size = p.size + 1 := ByteArray.size_append
 have eqs : (p ++ ⟨#[47]⟩ ++ digB ol.length : ByteArray).size = p.size + 1 + (digB ol.length).size := by rw [ByteArray.size_append, eps]
 have HT : Hid (∀ W, Below w4.heap.size w4 W → Calls Tryz.prog 12 #[.agg #[.int .i64 ak, .bool ab, .int .i64 ai, .string as_, .slice aal anl acl, .slice aam anm acm], .string (p ++ ⟨#[47]⟩ ++ digB ol.length)] W (TkPost (v, x, 0) W)) := fun W hb => by
  have c := take_any W1v (p ++ ⟨#[47]⟩ ++ digB ol.length) (New w0 w1) [.int .i64 ak, .bool ab, .int .i64 ai, .string as_, .slice aal anl acl, .slice aam anm acm] W (HL.out W (B4.trans (hb.mono B4.size))).2.2.2.2 (HA.out W (b2b.trans ((b34.trans (hb.mono hz34)).mono b2b.size))) (fun y hy => by have := hy.2; have := hb.size; omega) (by omega) (by omega)
  rw [HPop.out _ (by rw [ByteArray.data_append, ByteArray.data_append]; simp)] at c
  exact c
 have y47 : ¬ 9223372036854775807 < p.size + (⟨#[47]⟩ : ByteArray).size := by omega
 have yqs : ¬ 9223372036854775807 < (p ++ ⟨#[47]⟩ : ByteArray).size + (digB ol.length).size := by omega
 have y47b : ¬ 9223372036854775807 < p.size + 1 := by omega
 have yqs1 : ¬ 9223372036854775807 < p.size + 1 + (digB ol.length).size := by omega
 have yol : (ol.length : Int) < (KL.length : Int) := by omega
 clear e47 eps eqs hdg
 go_cut [16, 17, 18] (fun e16 e17 e18 wx => ∃ (A16 A17 : Nat) (gk : Int) (gb : Bool) (gi : Int) (gs : ByteArray) (gal : Option Addr) (gnl gcl : Nat) (gam : Option Addr) (gnm gcm : Nat) (fk : Int) (fb : Bool) (fi : Int) (fs : ByteArray) (fal : Option Addr) (fnl fcl : Nat) (fam : Option Addr) (fnm fcm : Nat), e16 = .pointer (some ⟨A16, 0, none⟩) ∧ e17 = .pointer (some ⟨A17, 0, none⟩) ∧ e18 = .int .i64 0 ∧ PopMid v x w4 wx A16 A17 gk gb gi gs gal gnl gcl gam gnm gcm fk fb fi fs fal fnl fcl fam fnm fcm)
 case first =>
  refine wp_region_held_drew (S := (fun W => W.heap[w1.heap.size]? = some (.cells #[.int .i64 ak, .bool ab, .int .i64 ai, .string as_, .slice aal anl acl, .slice aam anm acm] 25) ∧ W.heap[w.heap.size + 1]? = some (.cells #[.int .i64 4, .bool ob, .int .i64 oi, .string os, .slice oal ol.length ocl, .slice oam om.length ocm] 25) ∧ W.cell? ⟨kg, ko + ol.length, none⟩ = some (.string (digB ol.length)))) (by kernel_rfl) ⟨kA4, kO4, ct⟩ (fun hHeld => ?_)
  (refine tkA 0 ?_ ?_ ?_; rotate_left 1; (intro W0 hSw; (have o0 : W0.cell? ⟨w1.heap.size, 0, none⟩ = some (.int .i64 ak) := (by rw [cell_of_block hSw.1]; rfl); have o1 : W0.cell? ⟨w1.heap.size, 1, none⟩ = some (.bool ab) := (by rw [cell_of_block hSw.1]; rfl); have o2 : W0.cell? ⟨w1.heap.size, 2, none⟩ = some (.int .i64 ai) := (by rw [cell_of_block hSw.1]; rfl); have o3 : W0.cell? ⟨w1.heap.size, 3, none⟩ = some (.string as_) := (by rw [cell_of_block hSw.1]; rfl); have o4 : W0.cell? ⟨w1.heap.size, 4, none⟩ = some (.slice aal anl acl) := (by rw [cell_of_block hSw.1]; rfl); have o5 : W0.cell? ⟨w1.heap.size, 5, none⟩ = some (.slice aam anm acm) := (by rw [cell_of_block hSw.1]; rfl)); go_simp; (try with_reducible rfl)); (try simp only [Act.put, zA, zB, zC]))
  (refine tjA 1 ?_; (try simp only [Act.put, zA, zB, zC]))
  (refine tjA 2 ?_; (try simp only [Act.put, zA, zB, zC]))
  (refine tjA 3 ?_; (try simp only [Act.put, zA, zB, zC]))
  (refine tjA 4 ?_; (try simp only [Act.put, zA, zB, zC]))
  (refine tkA 5 ?_ ?_ ?_; rotate_left 1; (intro W0 hSw; (have o0 : W0.cell? ⟨w.heap.size + 1, 0, none⟩ = some (.int .i64 4) := (by rw [cell_of_block hSw.2.1]; rfl); have o1 : W0.cell? ⟨w.heap.size + 1, 1, none⟩ = some (.bool ob) := (by rw [cell_of_block hSw.2.1]; rfl); have o2 : W0.cell? ⟨w.heap.size + 1, 2, none⟩ = some (.int .i64 oi) := (by rw [cell_of_block hSw.2.1]; rfl); have o3 : W0.cell? ⟨w.heap.size + 1, 3, none⟩ = some (.string os) := (by rw [cell_of_block hSw.2.1]; rfl); have o4 : W0.cell? ⟨w.heap.size + 1, 4, none⟩ = some (.slice oal ol.length ocl) := (by rw [cell_of_block hSw.2.1]; rfl); have o5 : W0.cell? ⟨w.heap.size + 1, 5, none⟩ = some (.slice oam om.length ocm) := (by rw [cell_of_block hSw.2.1]; rfl)); go_simp; (try with_reducible rfl)); (try simp only [Act.put, zA, zB, zC]))
  (refine tjA 6 ?_; (try simp only [Act.put, zA, zB, zC]))
  (refine tjA 7 ?_; (try simp only [Act.put, zA, zB, zC]))
  (refine tkA 8 ?_ ?_ ?_; rotate_left 1; (intro W0 hSw; (have o9 := hSw.2.2); go_simp; (try with_reducible rfl)); (try simp only [Act.put, zA, zB, zC]))
  (refine tjA 9 ?_; (try simp only [Act.put, zA, zB, zC]))
  refine ryA [10, 15, 16] ?_
  refine rA3 (fun K hK => ?_) (fun K hK => ?_) fun K hK => ?_
  ·skip
   go_simp
   refine (HT.out w4.drew ((Below.refl _ w4).drew)).mono ?_
   rintro e wz1 ⟨cs1, cs2, rfl, hl1, hl2, b7⟩
   obtain ⟨gk, gb, gi, gs, gal, gnl, gcl, gam, gnm, gcm, rfl⟩ := V.ten hl1
   obtain ⟨fk, fb, fi, fs, fal, fnl, fcl, fam, fnm, fcm, rfl⟩ := V.ten hl2
   have hltwz1 : w4.heap.size ≤ wz1.heap.size := b7.size
   have Bwz1 : Below w4.heap.size w4 wz1 := (Below.refl _ w4).drew.trans b7
   have l1wz1 : v.lies false wz1 (fun y => w4.heap.size ≤ y ∧ y < wz1.heap.size) [.int .i64 gk, .bool gb, .int .i64 gi, .string gs, .slice gal gnl gcl, .slice gam gnm gcm] := hl1
   have l2wz1 : x.lies false wz1 (fun y => w4.heap.size ≤ y ∧ y < wz1.heap.size) [.int .i64 fk, .bool fb, .int .i64 fi, .string fs, .slice fal fnl fcl, .slice fam fnm fcm] := hl2
   refine hK.out _ _ ⟨(Bwz1.block w1.heap.size (by omega)).trans kA4, (Bwz1.block (w.heap.size + 1) (by omega)).trans kO4, (Bwz1.cell (p := ⟨kg, ko + ol.length, none⟩) hkg).trans ct⟩ (fun hHeld => ?_)
   clear hK K hl1 hl2 b7
   (try simp only [Act.put, zA, zB, zC])
   (refine tjA 11 ?_; (try simp only [Act.put, zA, zB, zC]))
   (refine tjA 12 ?_; (try simp only [Act.put, zA, zB, zC]))
   (refine tjA 13 ?_; (try simp only [Act.put, zA, zB, zC]))
   (refine tjA 14 ?_; (try simp only [Act.put, zA, zB, zC]))
   refine ryA [15, 16] ?_
   refine rA2 (fun K hK => ?_) fun K hK => ?_
   ·skip
    have bz : Below wz1.heap.size wz1 (wz1.alloc (.cells #[.int .i64 0, .bool false, .int .i64 0, .string ⟨#[]⟩, .slice none 0 0, .slice none 0 0] 25)) := (Below.refl _ _).alloc (Nat.le_refl _) _
    have hltwz2 : wz1.heap.size < (wz1.alloc (.cells #[.int .i64 0, .bool false, .int .i64 0, .string ⟨#[]⟩, .slice none 0 0, .slice none 0 0] 25)).heap.size := by rw [alloc_size]; omega
    have m16wz2 : (wz1.alloc (.cells #[.int .i64 0, .bool false, .int .i64 0, .string ⟨#[]⟩, .slice none 0 0, .slice none 0 0] 25)).heap[wz1.heap.size]? = some (.cells #[.int .i64 0, .bool false, .int .i64 0, .string ⟨#[]⟩, .slice none 0 0, .slice none 0 0] 25) := heap_alloc_new wz1 (.cells #[.int .i64 0, .bool false, .int .i64 0, .string ⟨#[]⟩, .slice none 0 0, .slice none 0 0] 25)
    have Bwz2 : Below w4.heap.size w4 (wz1.alloc (.cells #[.int .i64 0, .bool false, .int .i64 0, .string ⟨#[]⟩, .slice none 0 0, .slice none 0 0] 25)) := Bwz1.trans (bz.mono (by omega))
    have l1wz2 : v.lies false (wz1.alloc (.cells #[.int .i64 0, .bool false, .int .i64 0, .string ⟨#[]⟩, .slice none 0 0, .slice none 0 0] 25)) (fun y => w4.heap.size ≤ y ∧ y < wz1.heap.size) [.int .i64 gk, .bool gb, .int .i64 gi, .string gs, .slice gal gnl gcl, .slice gam gnm gcm] := V.lies_keep (fun h => h) (fun y hy => bz.block y (by omega)) (fun _ h => h) _ l1wz1
    have l2wz2 : x.lies false (wz1.alloc (.cells #[.int .i64 0, .bool false, .int .i64 0, .string ⟨#[]⟩, .slice none 0 0, .slice none 0 0] 25)) (fun y => w4.heap.size ≤ y ∧ y < wz1.heap.size) [.int .i64 fk, .bool fb, .int .i64 fi, .string fs, .slice fal fnl fcl, .slice fam fnm fcm] := V.lies_keep (fun h => h) (fun y hy => bz.block y (by omega)) (fun _ h => h) _ l2wz1
    go_simp
    refine hK.out _ _ ⟨(Bwz2.block w1.heap.size (by omega)).trans kA4, (Bwz2.block (w.heap.size + 1) (by omega)).trans kO4, (Bwz2.cell (p := ⟨kg, ko + ol.length, none⟩) hkg).trans ct⟩ (fun hHeld => ?_)
    clear hK K bz
    (try simp only [Act.put, zA, zB, zC])
    generalize (wz1.alloc (.cells #[.int .i64 0, .bool false, .int .i64 0, .string ⟨#[]⟩, .slice none 0 0, .slice none 0 0] 25)) = wz2 at *
    refine ryA [16] ?_
    refine rA1 fun K hK => ?_
    ·skip
     have bz : Below wz2.heap.size wz2 (wz2.alloc (.cells #[.int .i64 0, .bool false, .int .i64 0, .string ⟨#[]⟩, .slice none 0 0, .slice none 0 0] 25)) := (Below.refl _ _).alloc (Nat.le_refl _) _
     have hltwz3 : wz2.heap.size < (wz2.alloc (.cells #[.int .i64 0, .bool false, .int .i64 0, .string ⟨#[]⟩, .slice none 0 0, .slice none 0 0] 25)).heap.size := by rw [alloc_size]; omega
     have m17wz3 : (wz2.alloc (.cells #[.int .i64 0, .bool false, .int .i64 0, .string ⟨#[]⟩, .slice none 0 0, .slice none 0 0] 25)).heap[wz2.heap.size]? = some (.cells #[.int .i64 0, .bool false, .int .i64 0, .string ⟨#[]⟩, .slice none 0 0, .slice none 0 0] 25) := heap_alloc_new wz2 (.cells #[.int .i64 0, .bool false, .int .i64 0, .string ⟨#[]⟩, .slice none 0 0, .slice none 0 0] 25)
     have m16wz3 := (bz.block wz1.heap.size (by omega)).trans m16wz2
     have Bwz3 : Below w4.heap.size w4 (wz2.alloc (.cells #[.int .i64 0, .bool false, .int .i64 0, .string ⟨#[]⟩, .slice none 0 0, .slice none 0 0] 25)) := Bwz2.trans (bz.mono (by omega))
     have l1wz3 : v.lies false (wz2.alloc (.cells #[.int .i64 0, .bool false, .int .i64 0, .string ⟨#[]⟩, .slice none 0 0, .slice none 0 0] 25)) (fun y => w4.heap.size ≤ y ∧ y < wz1.heap.size) [.int .i64 gk, .bool gb, .int .i64 gi, .string gs, .slice gal gnl gcl, .slice gam gnm gcm] := V.lies_keep (fun h => h) (fun y hy => bz.block y (by omega)) (fun _ h => h) _ l1wz2
     have l2wz3 : x.lies false (wz2.alloc (.cells #[.int .i64 0, .bool false, .int .i64 0, .string ⟨#[]⟩, .slice none 0 0, .slice none 0 0] 25)) (fun y => w4.heap.size ≤ y ∧ y < wz1.heap.size) [.int .i64 fk, .bool fb, .int .i64 fi, .string fs, .slice fal fnl fcl, .slice fam fnm fcm] := V.lies_keep (fun h => h) (fun y hy => bz.block y (by omega)) (fun _ h => h) _ l2wz2
     go_simp
     refine hK.out _ _ ⟨(Bwz3.block w1.heap.size (by omega)).trans kA4, (Bwz3.block (w.heap.size + 1) (by omega)).trans kO4, (Bwz3.cell (p := ⟨kg, ko + ol.length, none⟩) hkg).trans ct⟩ (fun hHeld => ?_)
     clear hK K bz
     (try simp only [Act.put, zA, zB, zC])
     generalize (wz2.alloc (.cells #[.int .i64 0, .bool false, .int .i64 0, .string ⟨#[]⟩, .slice none 0 0, .slice none 0 0] 25)) = wz3 at *
     have RM := pop_mid Bwz3 (A := wz1.heap.size) (B := wz2.heap.size) (by omega) (by omega) (by omega) (by omega) (by omega) (by omega) (by omega) m16wz3 m17wz3 l1wz3 l2wz3
     have nAB : ¬ wz1.heap.size = wz2.heap.size := by omega
     have nBA : ¬ wz2.heap.size = wz1.heap.size := by omega
     have nA1 : wz1.heap.size ≠ w1.heap.size := by omega
     have nA2 : wz1.heap.size ≠ w.heap.size + 1 := by omega
     have nA3 : wz1.heap.size ≠ kg := by omega
     have nB1 : wz2.heap.size ≠ w1.heap.size := by omega
     have nB2 : wz2.heap.size ≠ w.heap.size + 1 := by omega
     have nB3 : wz2.heap.size ≠ kg := by omega
     have s1 := (Bwz3.block w1.heap.size (by omega)).trans kA4
     have s2 := (Bwz3.block (w.heap.size + 1) (by omega)).trans kO4
     have s3 := (Bwz3.cell (p := ⟨kg, ko + ol.length, none⟩) hkg).trans ct
     have k16 := m16wz3
     have k17 := m17wz3
     generalize wz1.heap.size = A16 at RM nAB nBA nA1 nA2 nA3 k16 ⊢
     generalize wz2.heap.size = A17 at RM nAB nBA nB1 nB2 nB3 k17 ⊢
     obtain ⟨p0, p1, p2, p3, p4, p5⟩ := sixC k16
     obtain ⟨q0, q1, q2, q3, q4, q5⟩ := sixC k17
     have fp := frozen_of_block k16
     have fq := frozen_of_block k17
     have oA := six_o wz3 A16 (.int .i64 gk) (.bool gb) (.int .i64 gi) (.string gs) (.slice gal gnl gcl) (.slice gam gnm gcm)
     have oB := six_o ((((((wz3.setCell ⟨A16, 0, none⟩ (.int .i64 gk)).setCell ⟨A16, 1, none⟩ (.bool gb)).setCell ⟨A16, 2, none⟩ (.int .i64 gi)).setCell ⟨A16, 3, none⟩ (.string gs)).setCell ⟨A16, 4, none⟩ (.slice gal gnl gcl)).setCell ⟨A16, 5, none⟩ (.slice gam gnm gcm)) A17 (.int .i64 fk) (.bool fb) (.int .i64 fi) (.string fs) (.slice fal fnl fcl) (.slice fam fnm fcm)
     have u1 := (oA w1.heap.size (fun e => nA1 e.symm)).trans s1
     have u2 := (oA (w.heap.size + 1) (fun e => nA2 e.symm)).trans s2
     have u3 := (cell_block (o := ko + ol.length) (oA kg (fun e => nA3 e.symm))).trans s3
     have v1 := (oB w1.heap.size (fun e => nB1 e.symm)).trans u1
     have v2 := (oB (w.heap.size + 1) (fun e => nB2 e.symm)).trans u2
     have v3 := (cell_block (o := ko + ol.length) (oB kg (fun e => nB3 e.symm))).trans u3
     refine ryA [17] ?_
     refine rA1 fun K hK => ?_
     go_simp
     refine hK.out _ _ ⟨u1, u2, u3⟩ (fun hHeld => ?_)
     clear hK K
     (try simp only [Act.put, zA, zB, zC])
     refine ryA [18] ?_
     refine rA1 fun K hK => ?_
     go_simp
     refine hK.out _ _ ⟨v1, v2, v3⟩ (fun hHeld => ?_)
     clear hK K
     (try simp only [Act.put, zA, zB, zC])
     (refine tjA 19 ?_; (try simp only [Act.put, zA, zB, zC]))
     refine wpAnyH_done (by kernel_rfl) ?_ _
     (try dsimp only [Act.put, List.getElem_toArray, List.getElem_cons_succ, List.getElem_cons_zero, List.setIfInBounds_toArray, List.set_cons_zero, List.set_cons_succ])
     clear hHeld u1 u2 u3 v1 v2 v3 oA oB
     (try go_wp2_with fail)
     go_meet
     case rel => exact ⟨_, _, _, _, _, _, _, _, _, _, _, _, _, _, _, _, _, _, _, _, _, _, rfl, rfl, rfl, RM⟩
   ·skip
    have bz : Below wz1.heap.size wz1 (wz1.alloc (.cells #[.int .i64 0, .bool false, .int .i64 0, .string ⟨#[]⟩, .slice none 0 0, .slice none 0 0] 25)) := (Below.refl _ _).alloc (Nat.le_refl _) _
    have hltwz2 : wz1.heap.size < (wz1.alloc (.cells #[.int .i64 0, .bool false, .int .i64 0, .string ⟨#[]⟩, .slice none 0 0, .slice none 0 0] 25)).heap.size := by rw [alloc_size]; omega
    have m17wz2 : (wz1.alloc (.cells #[.int .i64 0, .bool false, .int .i64 0, .string ⟨#[]⟩, .slice none 0 0, .slice none 0 0] 25)).heap[wz1.heap.size]? = some (.cells #[.int .i64 0, .bool false, .int .i64 0, .string ⟨#[]⟩, .slice none 0 0, .slice none 0 0] 25) := heap_alloc_new wz1 (.cells #[.int .i64 0, .bool false, .int .i64 0, .string ⟨#[]⟩, .slice none 0 0, .slice none 0 0] 25)
    have Bwz2 : Below w4.heap.size w4 (wz1.alloc (.cells #[.int .i64 0, .bool false, .int .i64 0, .string ⟨#[]⟩, .slice none 0 0, .slice none 0 0] 25)) := Bwz1.trans (bz.mono (by omega))
    have l1wz2 : v.lies false (wz1.alloc (.cells #[.int .i64 0, .bool false, .int .i64 0, .string ⟨#[]⟩, .slice none 0 0, .slice none 0 0] 25)) (fun y => w4.heap.size ≤ y ∧ y < wz1.heap.size) [.int .i64 gk, .bool gb, .int .i64 gi, .string gs, .slice gal gnl gcl, .slice gam gnm gcm] := V.lies_keep (fun h => h) (fun y hy => bz.block y (by omega)) (fun _ h => h) _ l1wz1
    have l2wz2 : x.lies false (wz1.alloc (.cells #[.int .i64 0, .bool false, .int .i64 0, .string ⟨#[]⟩, .slice none 0 0, .slice none 0 0] 25)) (fun y => w4.heap.size ≤ y ∧ y < wz1.heap.size) [.int .i64 fk, .bool fb, .int .i64 fi, .string fs, .slice fal fnl fcl, .slice fam fnm fcm] := V.lies_keep (fun h => h) (fun y hy => bz.block y (by omega)) (fun _ h => h) _ l2wz1
    go_simp
    refine hK.out _ _ ⟨(Bwz2.block w1.heap.size (by omega)).trans kA4, (Bwz2.block (w.heap.size + 1) (by omega)).trans kO4, (Bwz2.cell (p := ⟨kg, ko + ol.length, none⟩) hkg).trans ct⟩ (fun hHeld => ?_)
    clear hK K bz
    (try simp only [Act.put, zA, zB, zC])
    generalize (wz1.alloc (.cells #[.int .i64 0, .bool false, .int .i64 0, .string ⟨#[]⟩, .slice none 0 0, .slice none 0 0] 25)) = wz2 at *
    refine ryA [15] ?_
    refine rA1 fun K hK => ?_
    ·skip
     have bz : Below wz2.heap.size wz2 (wz2.alloc (.cells #[.int .i64 0, .bool false, .int .i64 0, .string ⟨#[]⟩, .slice none 0 0, .slice none 0 0] 25)) := (Below.refl _ _).alloc (Nat.le_refl _) _
     have hltwz3 : wz2.heap.size < (wz2.alloc (.cells #[.int .i64 0, .bool false, .int .i64 0, .string ⟨#[]⟩, .slice none 0 0, .slice none 0 0] 25)).heap.size := by rw [alloc_size]; omega
     have m16wz3 : (wz2.alloc (.cells #[.int .i64 0, .bool false, .int .i64 0, .string ⟨#[]⟩, .slice none 0 0, .slice none 0 0] 25)).heap[wz2.heap.size]? = some (.cells #[.int .i64 0, .bool false, .int .i64 0, .string ⟨#[]⟩, .slice none 0 0, .slice none 0 0] 25) := heap_alloc_new wz2 (.cells #[.int .i64 0, .bool false, .int .i64 0, .string ⟨#[]⟩, .slice none 0 0, .slice none 0 0] 25)
     have m17wz3 := (bz.block wz1.heap.size (by omega)).trans m17wz2
     have Bwz3 : Below w4.heap.size w4 (wz2.alloc (.cells #[.int .i64 0, .bool false, .int .i64 0, .string ⟨#[]⟩, .slice none 0 0, .slice none 0 0] 25)) := Bwz2.trans (bz.mono (by omega))
     have l1wz3 : v.lies false (wz2.alloc (.cells #[.int .i64 0, .bool false, .int .i64 0, .string ⟨#[]⟩, .slice none 0 0, .slice none 0 0] 25)) (fun y => w4.heap.size ≤ y ∧ y < wz1.heap.size) [.int .i64 gk, .bool gb, .int .i64 gi, .string gs, .slice gal gnl gcl, .slice gam gnm gcm] := V.lies_keep (fun h => h) (fun y hy => bz.block y (by omega)) (fun _ h => h) _ l1wz2
     have l2wz3 : x.lies false (wz2.alloc (.cells #[.int .i64 0, .bool false, .int .i64 0, .string ⟨#[]⟩, .slice none 0 0, .slice none 0 0] 25)) (fun y => w4.heap.size ≤ y ∧ y < wz1.heap.size) [.int .i64 fk, .bool fb, .int .i64 fi, .string fs, .slice fal fnl fcl, .slice fam fnm fcm] := V.lies_keep (fun h => h) (fun y hy => bz.block y (by omega)) (fun _ h => h) _ l2wz2
     go_simp
     refine hK.out _ _ ⟨(Bwz3.block w1.heap.size (by omega)).trans kA4, (Bwz3.block (w.heap.size + 1) (by omega)).trans kO4, (Bwz3.cell (p := ⟨kg, ko + ol.length, none⟩) hkg).trans ct⟩ (fun hHeld => ?_)
     clear hK K bz
     (try simp only [Act.put, zA, zB, zC])
     generalize (wz2.alloc (.cells #[.int .i64 0, .bool false, .int .i64 0, .string ⟨#[]⟩, .slice none 0 0, .slice none 0 0] 25)) = wz3 at *
     have RM := pop_mid Bwz3 (A := wz2.heap.size) (B := wz1.heap.size) (by omega) (by omega) (by omega) (by omega) (by omega) (by omega) (by omega) m16wz3 m17wz3 l1wz3 l2wz3
     have nAB : ¬ wz2.heap.size = wz1.heap.size := by omega
     have nBA : ¬ wz1.heap.size = wz2.heap.size := by omega
     have nA1 : wz2.heap.size ≠ w1.heap.size := by omega
     have nA2 : wz2.heap.size ≠ w.heap.size + 1 := by omega
     have nA3 : wz2.heap.size ≠ kg := by omega
     have nB1 : wz1.heap.size ≠ w1.heap.size := by omega
     have nB2 : wz1.heap.size ≠ w.heap.size + 1 := by omega
     have nB3 : wz1.heap.size ≠ kg := by omega
     have s1 := (Bwz3.block w1.heap.size (by omega)).trans kA4
     have s2 := (Bwz3.block (w.heap.size + 1) (by omega)).trans kO4
     have s3 := (Bwz3.cell (p := ⟨kg, ko + ol.length, none⟩) hkg).trans ct
     have k16 := m16wz3
     have k17 := m17wz3
     generalize wz2.heap.size = A16 at RM nAB nBA nA1 nA2 nA3 k16 ⊢
     generalize wz1.heap.size = A17 at RM nAB nBA nB1 nB2 nB3 k17 ⊢
     obtain ⟨p0, p1, p2, p3, p4, p5⟩ := sixC k16
     obtain ⟨q0, q1, q2, q3, q4, q5⟩ := sixC k17
     have fp := frozen_of_block k16
     have fq := frozen_of_block k17
     have oA := six_o wz3 A16 (.int .i64 gk) (.bool gb) (.int .i64 gi) (.string gs) (.slice gal gnl gcl) (.slice gam gnm gcm)
     have oB := six_o ((((((wz3.setCell ⟨A16, 0, none⟩ (.int .i64 gk)).setCell ⟨A16, 1, none⟩ (.bool gb)).setCell ⟨A16, 2, none⟩ (.int .i64 gi)).setCell ⟨A16, 3, none⟩ (.string gs)).setCell ⟨A16, 4, none⟩ (.slice gal gnl gcl)).setCell ⟨A16, 5, none⟩ (.slice gam gnm gcm)) A17 (.int .i64 fk) (.bool fb) (.int .i64 fi) (.string fs) (.slice fal fnl fcl) (.slice fam fnm fcm)
     have u1 := (oA w1.heap.size (fun e => nA1 e.symm)).trans s1
     have u2 := (oA (w.heap.size + 1) (fun e => nA2 e.symm)).trans s2
     have u3 := (cell_block (o := ko + ol.length) (oA kg (fun e => nA3 e.symm))).trans s3
     have v1 := (oB w1.heap.size (fun e => nB1 e.symm)).trans u1
     have v2 := (oB (w.heap.size + 1) (fun e => nB2 e.symm)).trans u2
     have v3 := (cell_block (o := ko + ol.length) (oB kg (fun e => nB3 e.symm))).trans u3
     refine ryA [17] ?_
     refine rA1 fun K hK => ?_
     go_simp
     refine hK.out _ _ ⟨u1, u2, u3⟩ (fun hHeld => ?_)
     clear hK K
     (try simp only [Act.put, zA, zB, zC])
     refine ryA [18] ?_
     refine rA1 fun K hK => ?_
     go_simp
     refine hK.out _ _ ⟨v1, v2, v3⟩ (fun hHeld => ?_)
     clear hK K
     (try simp only [Act.put, zA, zB, zC])
     (refine tjA 19 ?_; (try simp only [Act.put, zA, zB, zC]))
     refine wpAnyH_done (by kernel_rfl) ?_ _
     (try dsimp only [Act.put, List.getElem_toArray, List.getElem_cons_succ, List.getElem_cons_zero, List.setIfInBounds_toArray, List.set_cons_zero, List.set_cons_succ])
     clear hHeld u1 u2 u3 v1 v2 v3 oA oB
     (try go_wp2_with fail)
     go_meet
     case rel => exact ⟨_, _, _, _, _, _, _, _, _, _, _, _, _, _, _, _, _, _, _, _, _, _, rfl, rfl, rfl, RM⟩
  ·skip
   have bz : Below w4.heap.size w4 (w4.alloc (.cells #[.int .i64 0, .bool false, .int .i64 0, .string ⟨#[]⟩, .slice none 0 0, .slice none 0 0] 25)).drew := ((Below.refl _ _).alloc (Nat.le_refl _) _).drew
   have hltwz1 : w4.heap.size < (w4.alloc (.cells #[.int .i64 0, .bool false, .int .i64 0, .string ⟨#[]⟩, .slice none 0 0, .slice none 0 0] 25)).drew.heap.size := by show _ < (w4.alloc _).heap.size; rw [alloc_size]; omega
   have m16wz1 : (w4.alloc (.cells #[.int .i64 0, .bool false, .int .i64 0, .string ⟨#[]⟩, .slice none 0 0, .slice none 0 0] 25)).drew.heap[w4.heap.size]? = some (.cells #[.int .i64 0, .bool false, .int .i64 0, .string ⟨#[]⟩, .slice none 0 0, .slice none 0 0] 25) := heap_alloc_new w4 (.cells #[.int .i64 0, .bool false, .int .i64 0, .string ⟨#[]⟩, .slice none 0 0, .slice none 0 0] 25)
   have Bwz1 : Below w4.heap.size w4 (w4.alloc (.cells #[.int .i64 0, .bool false, .int .i64 0, .string ⟨#[]⟩, .slice none 0 0, .slice none 0 0] 25)).drew := bz
   go_simp
   refine hK.out _ _ ⟨(Bwz1.block w1.heap.size (by omega)).trans kA4, (Bwz1.block (w.heap.size + 1) (by omega)).trans kO4, (Bwz1.cell (p := ⟨kg, ko + ol.length, none⟩) hkg).trans ct⟩ (fun hHeld => ?_)
   clear hK K bz
   (try simp only [Act.put, zA, zB, zC])
   generalize (w4.alloc (.cells #[.int .i64 0, .bool false, .int .i64 0, .string ⟨#[]⟩, .slice none 0 0, .slice none 0 0] 25)).drew = wz1 at *
   refine ryA [10, 16] ?_
   refine rA2 (fun K hK => ?_) fun K hK => ?_
   ·skip
    go_simp
    refine (HT.out wz1 Bwz1).mono ?_
    rintro e wz2 ⟨cs1, cs2, rfl, hl1, hl2, b7⟩
    obtain ⟨gk, gb, gi, gs, gal, gnl, gcl, gam, gnm, gcm, rfl⟩ := V.ten hl1
    obtain ⟨fk, fb, fi, fs, fal, fnl, fcl, fam, fnm, fcm, rfl⟩ := V.ten hl2
    have hltwz2 : wz1.heap.size ≤ wz2.heap.size := b7.size
    have m16wz2 := (b7.block w4.heap.size (by omega)).trans m16wz1
    have Bwz2 : Below w4.heap.size w4 wz2 := Bwz1.trans (b7.mono (by omega))
    have l1wz2 : v.lies false wz2 (fun y => wz1.heap.size ≤ y ∧ y < wz2.heap.size) [.int .i64 gk, .bool gb, .int .i64 gi, .string gs, .slice gal gnl gcl, .slice gam gnm gcm] := hl1
    have l2wz2 : x.lies false wz2 (fun y => wz1.heap.size ≤ y ∧ y < wz2.heap.size) [.int .i64 fk, .bool fb, .int .i64 fi, .string fs, .slice fal fnl fcl, .slice fam fnm fcm] := hl2
    refine hK.out _ _ ⟨(Bwz2.block w1.heap.size (by omega)).trans kA4, (Bwz2.block (w.heap.size + 1) (by omega)).trans kO4, (Bwz2.cell (p := ⟨kg, ko + ol.length, none⟩) hkg).trans ct⟩ (fun hHeld => ?_)
    clear hK K hl1 hl2 b7
    (try simp only [Act.put, zA, zB, zC])
    (refine tjA 11 ?_; (try simp only [Act.put, zA, zB, zC]))
    (refine tjA 12 ?_; (try simp only [Act.put, zA, zB, zC]))
    (refine tjA 13 ?_; (try simp only [Act.put, zA, zB, zC]))
    (refine tjA 14 ?_; (try simp only [Act.put, zA, zB, zC]))
    refine ryA [16] ?_
    refine rA1 fun K hK => ?_
    ·skip
     have bz : Below wz2.heap.size wz2 (wz2.alloc (.cells #[.int .i64 0, .bool false, .int .i64 0, .string ⟨#[]⟩, .slice none 0 0, .slice none 0 0] 25)) := (Below.refl _ _).alloc (Nat.le_refl _) _
     have hltwz3 : wz2.heap.size < (wz2.alloc (.cells #[.int .i64 0, .bool false, .int .i64 0, .string ⟨#[]⟩, .slice none 0 0, .slice none 0 0] 25)).heap.size := by rw [alloc_size]; omega
     have m17wz3 : (wz2.alloc (.cells #[.int .i64 0, .bool false, .int .i64 0, .string ⟨#[]⟩, .slice none 0 0, .slice none 0 0] 25)).heap[wz2.heap.size]? = some (.cells #[.int .i64 0, .bool false, .int .i64 0, .string ⟨#[]⟩, .slice none 0 0, .slice none 0 0] 25) := heap_alloc_new wz2 (.cells #[.int .i64 0, .bool false, .int .i64 0, .string ⟨#[]⟩, .slice none 0 0, .slice none 0 0] 25)
     have m16wz3 := (bz.block w4.heap.size (by omega)).trans m16wz2
     have Bwz3 : Below w4.heap.size w4 (wz2.alloc (.cells #[.int .i64 0, .bool false, .int .i64 0, .string ⟨#[]⟩, .slice none 0 0, .slice none 0 0] 25)) := Bwz2.trans (bz.mono (by omega))
     have l1wz3 : v.lies false (wz2.alloc (.cells #[.int .i64 0, .bool false, .int .i64 0, .string ⟨#[]⟩, .slice none 0 0, .slice none 0 0] 25)) (fun y => wz1.heap.size ≤ y ∧ y < wz2.heap.size) [.int .i64 gk, .bool gb, .int .i64 gi, .string gs, .slice gal gnl gcl, .slice gam gnm gcm] := V.lies_keep (fun h => h) (fun y hy => bz.block y (by omega)) (fun _ h => h) _ l1wz2
     have l2wz3 : x.lies false (wz2.alloc (.cells #[.int .i64 0, .bool false, .int .i64 0, .string ⟨#[]⟩, .slice none 0 0, .slice none 0 0] 25)) (fun y => wz1.heap.size ≤ y ∧ y < wz2.heap.size) [.int .i64 fk, .bool fb, .int .i64 fi, .string fs, .slice fal fnl fcl, .slice fam fnm fcm] := V.lies_keep (fun h => h) (fun y hy => bz.block y (by omega)) (fun _ h => h) _ l2wz2
     go_simp
     refine hK.out _ _ ⟨(Bwz3.block w1.heap.size (by omega)).trans kA4, (Bwz3.block (w.heap.size + 1) (by omega)).trans kO4, (Bwz3.cell (p := ⟨kg, ko + ol.length, none⟩) hkg).trans ct⟩ (fun hHeld => ?_)
     clear hK K bz
     (try simp only [Act.put, zA, zB, zC])
     generalize (wz2.alloc (.cells #[.int .i64 0, .bool false, .int .i64 0, .string ⟨#[]⟩, .slice none 0 0, .slice none 0 0] 25)) = wz3 at *
     have RM := pop_mid Bwz3 (A := w4.heap.size) (B := wz2.heap.size) (by omega) (by omega) (by omega) (by omega) (by omega) (by omega) (by omega) m16wz3 m17wz3 l1wz3 l2wz3
     have nAB : ¬ w4.heap.size = wz2.heap.size := by omega
     have nBA : ¬ wz2.heap.size = w4.heap.size := by omega
     have nA1 : w4.heap.size ≠ w1.heap.size := by omega
     have nA2 : w4.heap.size ≠ w.heap.size + 1 := by omega
     have nA3 : w4.heap.size ≠ kg := by omega
     have nB1 : wz2.heap.size ≠ w1.heap.size := by omega
     have nB2 : wz2.heap.size ≠ w.heap.size + 1 := by omega
     have nB3 : wz2.heap.size ≠ kg := by omega
     have s1 := (Bwz3.block w1.heap.size (by omega)).trans kA4
     have s2 := (Bwz3.block (w.heap.size + 1) (by omega)).trans kO4
     have s3 := (Bwz3.cell (p := ⟨kg, ko + ol.length, none⟩) hkg).trans ct
     have k16 := m16wz3
     have k17 := m17wz3
     generalize w4.heap.size = A16 at RM nAB nBA nA1 nA2 nA3 k16 ⊢
     generalize wz2.heap.size = A17 at RM nAB nBA nB1 nB2 nB3 k17 ⊢
     obtain ⟨p0, p1, p2, p3, p4, p5⟩ := sixC k16
     obtain ⟨q0, q1, q2, q3, q4, q5⟩ := sixC k17
     have fp := frozen_of_block k16
     have fq := frozen_of_block k17
     have oA := six_o wz3 A16 (.int .i64 gk) (.bool gb) (.int .i64 gi) (.string gs) (.slice gal gnl gcl) (.slice gam gnm gcm)
     have oB := six_o ((((((wz3.setCell ⟨A16, 0, none⟩ (.int .i64 gk)).setCell ⟨A16, 1, none⟩ (.bool gb)).setCell ⟨A16, 2, none⟩ (.int .i64 gi)).setCell ⟨A16, 3, none⟩ (.string gs)).setCell ⟨A16, 4, none⟩ (.slice gal gnl gcl)).setCell ⟨A16, 5, none⟩ (.slice gam gnm gcm)) A17 (.int .i64 fk) (.bool fb) (.int .i64 fi) (.string fs) (.slice fal fnl fcl) (.slice fam fnm fcm)
     have u1 := (oA w1.heap.size (fun e => nA1 e.symm)).trans s1
     have u2 := (oA (w.heap.size + 1) (fun e => nA2 e.symm)).trans s2
     have u3 := (cell_block (o := ko + ol.length) (oA kg (fun e => nA3 e.symm))).trans s3
     have v1 := (oB w1.heap.size (fun e => nB1 e.symm)).trans u1
     have v2 := (oB (w.heap.size + 1) (fun e => nB2 e.symm)).trans u2
     have v3 := (cell_block (o := ko + ol.length) (oB kg (fun e => nB3 e.symm))).trans u3
     refine ryA [17] ?_
     refine rA1 fun K hK => ?_
     go_simp
     refine hK.out _ _ ⟨u1, u2, u3⟩ (fun hHeld => ?_)
     clear hK K
     (try simp only [Act.put, zA, zB, zC])
     refine ryA [18] ?_
     refine rA1 fun K hK => ?_
     go_simp
     refine hK.out _ _ ⟨v1, v2, v3⟩ (fun hHeld => ?_)
     clear hK K
     (try simp only [Act.put, zA, zB, zC])
     (refine tjA 19 ?_; (try simp only [Act.put, zA, zB, zC]))
     refine wpAnyH_done (by kernel_rfl) ?_ _
     (try dsimp only [Act.put, List.getElem_toArray, List.getElem_cons_succ, List.getElem_cons_zero, List.setIfInBounds_toArray, List.set_cons_zero, List.set_cons_succ])
     clear hHeld u1 u2 u3 v1 v2 v3 oA oB
     (try go_wp2_with fail)
     go_meet
     case rel => exact ⟨_, _, _, _, _, _, _, _, _, _, _, _, _, _, _, _, _, _, _, _, _, _, rfl, rfl, rfl, RM⟩
   ·skip
    have bz : Below wz1.heap.size wz1 (wz1.alloc (.cells #[.int .i64 0, .bool false, .int .i64 0, .string ⟨#[]⟩, .slice none 0 0, .slice none 0 0] 25)) := (Below.refl _ _).alloc (Nat.le_refl _) _
    have hltwz2 : wz1.heap.size < (wz1.alloc (.cells #[.int .i64 0, .bool false, .int .i64 0, .string ⟨#[]⟩, .slice none 0 0, .slice none 0 0] 25)).heap.size := by rw [alloc_size]; omega
    have m17wz2 : (wz1.alloc (.cells #[.int .i64 0, .bool false, .int .i64 0, .string ⟨#[]⟩, .slice none 0 0, .slice none 0 0] 25)).heap[wz1.heap.size]? = some (.cells #[.int .i64 0, .bool false, .int .i64 0, .string ⟨#[]⟩, .slice none 0 0, .slice none 0 0] 25) := heap_alloc_new wz1 (.cells #[.int .i64 0, .bool false, .int .i64 0, .string ⟨#[]⟩, .slice none 0 0, .slice none 0 0] 25)
    have m16wz2 := (bz.block w4.heap.size (by omega)).trans m16wz1
    have Bwz2 : Below w4.heap.size w4 (wz1.alloc (.cells #[.int .i64 0, .bool false, .int .i64 0, .string ⟨#[]⟩, .slice none 0 0, .slice none 0 0] 25)) := Bwz1.trans (bz.mono (by omega))
    go_simp
    refine hK.out _ _ ⟨(Bwz2.block w1.heap.size (by omega)).trans kA4, (Bwz2.block (w.heap.size + 1) (by omega)).trans kO4, (Bwz2.cell (p := ⟨kg, ko + ol.length, none⟩) hkg).trans ct⟩ (fun hHeld => ?_)
    clear hK K bz
    (try simp only [Act.put, zA, zB, zC])
    generalize (wz1.alloc (.cells #[.int .i64 0, .bool false, .int .i64 0, .string ⟨#[]⟩, .slice none 0 0, .slice none 0 0] 25)) = wz2 at *
    refine ryA [10] ?_
    refine rA1 fun K hK => ?_
    ·skip
     go_simp
     refine (HT.out wz2 Bwz2).mono ?_
     rintro e wz3 ⟨cs1, cs2, rfl, hl1, hl2, b7⟩
     obtain ⟨gk, gb, gi, gs, gal, gnl, gcl, gam, gnm, gcm, rfl⟩ := V.ten hl1
     obtain ⟨fk, fb, fi, fs, fal, fnl, fcl, fam, fnm, fcm, rfl⟩ := V.ten hl2
     have hltwz3 : wz2.heap.size ≤ wz3.heap.size := b7.size
     have m16wz3 := (b7.block w4.heap.size (by omega)).trans m16wz2
     have m17wz3 := (b7.block wz1.heap.size (by omega)).trans m17wz2
     have Bwz3 : Below w4.heap.size w4 wz3 := Bwz2.trans (b7.mono (by omega))
     have l1wz3 : v.lies false wz3 (fun y => wz2.heap.size ≤ y ∧ y < wz3.heap.size) [.int .i64 gk, .bool gb, .int .i64 gi, .string gs, .slice gal gnl gcl, .slice gam gnm gcm] := hl1
     have l2wz3 : x.lies false wz3 (fun y => wz2.heap.size ≤ y ∧ y < wz3.heap.size) [.int .i64 fk, .bool fb, .int .i64 fi, .string fs, .slice fal fnl fcl, .slice fam fnm fcm] := hl2
     refine hK.out _ _ ⟨(Bwz3.block w1.heap.size (by omega)).trans kA4, (Bwz3.block (w.heap.size + 1) (by omega)).trans kO4, (Bwz3.cell (p := ⟨kg, ko + ol.length, none⟩) hkg).trans ct⟩ (fun hHeld => ?_)
     clear hK K hl1 hl2 b7
     (try simp only [Act.put, zA, zB, zC])
     (refine tjA 11 ?_; (try simp only [Act.put, zA, zB, zC]))
     (refine tjA 12 ?_; (try simp only [Act.put, zA, zB, zC]))
     (refine tjA 13 ?_; (try simp only [Act.put, zA, zB, zC]))
     (refine tjA 14 ?_; (try simp only [Act.put, zA, zB, zC]))
     have RM := pop_mid Bwz3 (A := w4.heap.size) (B := wz1.heap.size) (by omega) (by omega) (by omega) (by omega) (by omega) (by omega) (by omega) m16wz3 m17wz3 l1wz3 l2wz3
     have nAB : ¬ w4.heap.size = wz1.heap.size := by omega
     have nBA : ¬ wz1.heap.size = w4.heap.size := by omega
     have nA1 : w4.heap.size ≠ w1.heap.size := by omega
     have nA2 : w4.heap.size ≠ w.heap.size + 1 := by omega
     have nA3 : w4.heap.size ≠ kg := by omega
     have nB1 : wz1.heap.size ≠ w1.heap.size := by omega
     have nB2 : wz1.heap.size ≠ w.heap.size + 1 := by omega
     have nB3 : wz1.heap.size ≠ kg := by omega
     have s1 := (Bwz3.block w1.heap.size (by omega)).trans kA4
     have s2 := (Bwz3.block (w.heap.size + 1) (by omega)).trans kO4
     have s3 := (Bwz3.cell (p := ⟨kg, ko + ol.length, none⟩) hkg).trans ct
     have k16 := m16wz3
     have k17 := m17wz3
     generalize w4.heap.size = A16 at RM nAB nBA nA1 nA2 nA3 k16 ⊢
     generalize wz1.heap.size = A17 at RM nAB nBA nB1 nB2 nB3 k17 ⊢
     obtain ⟨p0, p1, p2, p3, p4, p5⟩ := sixC k16
     obtain ⟨q0, q1, q2, q3, q4, q5⟩ := sixC k17
     have fp := frozen_of_block k16
     have fq := frozen_of_block k17
     have oA := six_o wz3 A16 (.int .i64 gk) (.bool gb) (.int .i64 gi) (.string gs) (.slice gal gnl gcl) (.slice gam gnm gcm)
     have oB := six_o ((((((wz3.setCell ⟨A16, 0, none⟩ (.int .i64 gk)).setCell ⟨A16, 1, none⟩ (.bool gb)).setCell ⟨A16, 2, none⟩ (.int .i64 gi)).setCell ⟨A16, 3, none⟩ (.string gs)).setCell ⟨A16, 4, none⟩ (.slice gal gnl gcl)).setCell ⟨A16, 5, none⟩ (.slice gam gnm gcm)) A17 (.int .i64 fk) (.bool fb) (.int .i64 fi) (.string fs) (.slice fal fnl fcl) (.slice fam fnm fcm)
     have u1 := (oA w1.heap.size (fun e => nA1 e.symm)).trans s1
     have u2 := (oA (w.heap.size + 1) (fun e => nA2 e.symm)).trans s2
     have u3 := (cell_block (o := ko + ol.length) (oA kg (fun e => nA3 e.symm))).trans s3
     have v1 := (oB w1.heap.size (fun e => nB1 e.symm)).trans u1
     have v2 := (oB (w.heap.size + 1) (fun e => nB2 e.symm)).trans u2
     have v3 := (cell_block (o := ko + ol.length) (oB kg (fun e => nB3 e.symm))).trans u3
     refine ryA [17] ?_
     refine rA1 fun K hK => ?_
     go_simp
     refine hK.out _ _ ⟨u1, u2, u3⟩ (fun hHeld => ?_)
     clear hK K
     (try simp only [Act.put, zA, zB, zC])
     refine ryA [18] ?_
     refine rA1 fun K hK => ?_
     go_simp
     refine hK.out _ _ ⟨v1, v2, v3⟩ (fun hHeld => ?_)
     clear hK K
     (try simp only [Act.put, zA, zB, zC])
     (refine tjA 19 ?_; (try simp only [Act.put, zA, zB, zC]))
     refine wpAnyH_done (by kernel_rfl) ?_ _
     (try dsimp only [Act.put, List.getElem_toArray, List.getElem_cons_succ, List.getElem_cons_zero, List.setIfInBounds_toArray, List.set_cons_zero, List.set_cons_succ])
     clear hHeld u1 u2 u3 v1 v2 v3 oA oB
     (try go_wp2_with fail)
     go_meet
     case rel => exact ⟨_, _, _, _, _, _, _, _, _, _, _, _, _, _, _, _, _, _, _, _, _, _, rfl, rfl, rfl, RM⟩
  ·skip
   have bz : Below w4.heap.size w4 (w4.alloc (.cells #[.int .i64 0, .bool false, .int .i64 0, .string ⟨#[]⟩, .slice none 0 0, .slice none 0 0] 25)).drew := ((Below.refl _ _).alloc (Nat.le_refl _) _).drew
   have hltwz1 : w4.heap.size < (w4.alloc (.cells #[.int .i64 0, .bool false, .int .i64 0, .string ⟨#[]⟩, .slice none 0 0, .slice none 0 0] 25)).drew.heap.size := by show _ < (w4.alloc _).heap.size; rw [alloc_size]; omega
   have m17wz1 : (w4.alloc (.cells #[.int .i64 0, .bool false, .int .i64 0, .string ⟨#[]⟩, .slice none 0 0, .slice none 0 0] 25)).drew.heap[w4.heap.size]? = some (.cells #[.int .i64 0, .bool false, .int .i64 0, .string ⟨#[]⟩, .slice none 0 0, .slice none 0 0] 25) := heap_alloc_new w4 (.cells #[.int .i64 0, .bool false, .int .i64 0, .string ⟨#[]⟩, .slice none 0 0, .slice none 0 0] 25)
   have Bwz1 : Below w4.heap.size w4 (w4.alloc (.cells #[.int .i64 0, .bool false, .int .i64 0, .string ⟨#[]⟩, .slice none 0 0, .slice none 0 0] 25)).drew := bz
   go_simp
   refine hK.out _ _ ⟨(Bwz1.block w1.heap.size (by omega)).trans kA4, (Bwz1.block (w.heap.size + 1) (by omega)).trans kO4, (Bwz1.cell (p := ⟨kg, ko + ol.length, none⟩) hkg).trans ct⟩ (fun hHeld => ?_)
   clear hK K bz
   (try simp only [Act.put, zA, zB, zC])
   generalize (w4.alloc (.cells #[.int .i64 0, .bool false, .int .i64 0, .string ⟨#[]⟩, .slice none 0 0, .slice none 0 0] 25)).drew = wz1 at *
   refine ryA [10, 15] ?_
   refine rA2 (fun K hK => ?_) fun K hK => ?_
   ·skip
    go_simp
    refine (HT.out wz1 Bwz1).mono ?_
    rintro e wz2 ⟨cs1, cs2, rfl, hl1, hl2, b7⟩
    obtain ⟨gk, gb, gi, gs, gal, gnl, gcl, gam, gnm, gcm, rfl⟩ := V.ten hl1
    obtain ⟨fk, fb, fi, fs, fal, fnl, fcl, fam, fnm, fcm, rfl⟩ := V.ten hl2
    have hltwz2 : wz1.heap.size ≤ wz2.heap.size := b7.size
    have m17wz2 := (b7.block w4.heap.size (by omega)).trans m17wz1
    have Bwz2 : Below w4.heap.size w4 wz2 := Bwz1.trans (b7.mono (by omega))
    have l1wz2 : v.lies false wz2 (fun y => wz1.heap.size ≤ y ∧ y < wz2.heap.size) [.int .i64 gk, .bool gb, .int .i64 gi, .string gs, .slice gal gnl gcl, .slice gam gnm gcm] := hl1
    have l2wz2 : x.lies false wz2 (fun y => wz1.heap.size ≤ y ∧ y < wz2.heap.size) [.int .i64 fk, .bool fb, .int .i64 fi, .string fs, .slice fal fnl fcl, .slice fam fnm fcm] := hl2
    refine hK.out _ _ ⟨(Bwz2.block w1.heap.size (by omega)).trans kA4, (Bwz2.block (w.heap.size + 1) (by omega)).trans kO4, (Bwz2.cell (p := ⟨kg, ko + ol.length, none⟩) hkg).trans ct⟩ (fun hHeld => ?_)
    clear hK K hl1 hl2 b7
    (try simp only [Act.put, zA, zB, zC])
    (refine tjA 11 ?_; (try simp only [Act.put, zA, zB, zC]))
    (refine tjA 12 ?_; (try simp only [Act.put, zA, zB, zC]))
    (refine tjA 13 ?_; (try simp only [Act.put, zA, zB, zC]))
    (refine tjA 14 ?_; (try simp only [Act.put, zA, zB, zC]))
    refine ryA [15] ?_
    refine rA1 fun K hK => ?_
    ·skip
     have bz : Below wz2.heap.size wz2 (wz2.alloc (.cells #[.int .i64 0, .bool false, .int .i64 0, .string ⟨#[]⟩, .slice none 0 0, .slice none 0 0] 25)) := (Below.refl _ _).alloc (Nat.le_refl _) _
     have hltwz3 : wz2.heap.size < (wz2.alloc (.cells #[.int .i64 0, .bool false, .int .i64 0, .string ⟨#[]⟩, .slice none 0 0, .slice none 0 0] 25)).heap.size := by rw [alloc_size]; omega
     have m16wz3 : (wz2.alloc (.cells #[.int .i64 0, .bool false, .int .i64 0, .string ⟨#[]⟩, .slice none 0 0, .slice none 0 0] 25)).heap[wz2.heap.size]? = some (.cells #[.int .i64 0, .bool false, .int .i64 0, .string ⟨#[]⟩, .slice none 0 0, .slice none 0 0] 25) := heap_alloc_new wz2 (.cells #[.int .i64 0, .bool false, .int .i64 0, .string ⟨#[]⟩, .slice none 0 0, .slice none 0 0] 25)
     have m17wz3 := (bz.block w4.heap.size (by omega)).trans m17wz2
     have Bwz3 : Below w4.heap.size w4 (wz2.alloc (.cells #[.int .i64 0, .bool false, .int .i64 0, .string ⟨#[]⟩, .slice none 0 0, .slice none 0 0] 25)) := Bwz2.trans (bz.mono (by omega))
     have l1wz3 : v.lies false (wz2.alloc (.cells #[.int .i64 0, .bool false, .int .i64 0, .string ⟨#[]⟩, .slice none 0 0, .slice none 0 0] 25)) (fun y => wz1.heap.size ≤ y ∧ y < wz2.heap.size) [.int .i64 gk, .bool gb, .int .i64 gi, .string gs, .slice gal gnl gcl, .slice gam gnm gcm] := V.lies_keep (fun h => h) (fun y hy => bz.block y (by omega)) (fun _ h => h) _ l1wz2
     have l2wz3 : x.lies false (wz2.alloc (.cells #[.int .i64 0, .bool false, .int .i64 0, .string ⟨#[]⟩, .slice none 0 0, .slice none 0 0] 25)) (fun y => wz1.heap.size ≤ y ∧ y < wz2.heap.size) [.int .i64 fk, .bool fb, .int .i64 fi, .string fs, .slice fal fnl fcl, .slice fam fnm fcm] := V.lies_keep (fun h => h) (fun y hy => bz.block y (by omega)) (fun _ h => h) _ l2wz2
     go_simp
     refine hK.out _ _ ⟨(Bwz3.block w1.heap.size (by omega)).trans kA4, (Bwz3.block (w.heap.size + 1) (by omega)).trans kO4, (Bwz3.cell (p := ⟨kg, ko + ol.length, none⟩) hkg).trans ct⟩ (fun hHeld => ?_)
     clear hK K bz
     (try simp only [Act.put, zA, zB, zC])
     generalize (wz2.alloc (.cells #[.int .i64 0, .bool false, .int .i64 0, .string ⟨#[]⟩, .slice none 0 0, .slice none 0 0] 25)) = wz3 at *
     have RM := pop_mid Bwz3 (A := wz2.heap.size) (B := w4.heap.size) (by omega) (by omega) (by omega) (by omega) (by omega) (by omega) (by omega) m16wz3 m17wz3 l1wz3 l2wz3
     have nAB : ¬ wz2.heap.size = w4.heap.size := by omega
     have nBA : ¬ w4.heap.size = wz2.heap.size := by omega
     have nA1 : wz2.heap.size ≠ w1.heap.size := by omega
     have nA2 : wz2.heap.size ≠ w.heap.size + 1 := by omega
     have nA3 : wz2.heap.size ≠ kg := by omega
     have nB1 : w4.heap.size ≠ w1.heap.size := by omega
     have nB2 : w4.heap.size ≠ w.heap.size + 1 := by omega
     have nB3 : w4.heap.size ≠ kg := by omega
     have s1 := (Bwz3.block w1.heap.size (by omega)).trans kA4
     have s2 := (Bwz3.block (w.heap.size + 1) (by omega)).trans kO4
     have s3 := (Bwz3.cell (p := ⟨kg, ko + ol.length, none⟩) hkg).trans ct
     have k16 := m16wz3
     have k17 := m17wz3
     generalize wz2.heap.size = A16 at RM nAB nBA nA1 nA2 nA3 k16 ⊢
     generalize w4.heap.size = A17 at RM nAB nBA nB1 nB2 nB3 k17 ⊢
     obtain ⟨p0, p1, p2, p3, p4, p5⟩ := sixC k16
     obtain ⟨q0, q1, q2, q3, q4, q5⟩ := sixC k17
     have fp := frozen_of_block k16
     have fq := frozen_of_block k17
     have oA := six_o wz3 A16 (.int .i64 gk) (.bool gb) (.int .i64 gi) (.string gs) (.slice gal gnl gcl) (.slice gam gnm gcm)
     have oB := six_o ((((((wz3.setCell ⟨A16, 0, none⟩ (.int .i64 gk)).setCell ⟨A16, 1, none⟩ (.bool gb)).setCell ⟨A16, 2, none⟩ (.int .i64 gi)).setCell ⟨A16, 3, none⟩ (.string gs)).setCell ⟨A16, 4, none⟩ (.slice gal gnl gcl)).setCell ⟨A16, 5, none⟩ (.slice gam gnm gcm)) A17 (.int .i64 fk) (.bool fb) (.int .i64 fi) (.string fs) (.slice fal fnl fcl) (.slice fam fnm fcm)
     have u1 := (oA w1.heap.size (fun e => nA1 e.symm)).trans s1
     have u2 := (oA (w.heap.size + 1) (fun e => nA2 e.symm)).trans s2
     have u3 := (cell_block (o := ko + ol.length) (oA kg (fun e => nA3 e.symm))).trans s3
     have v1 := (oB w1.heap.size (fun e => nB1 e.symm)).trans u1
     have v2 := (oB (w.heap.size + 1) (fun e => nB2 e.symm)).trans u2
     have v3 := (cell_block (o := ko + ol.length) (oB kg (fun e => nB3 e.symm))).trans u3
     refine ryA [17] ?_
     refine rA1 fun K hK => ?_
     go_simp
     refine hK.out _ _ ⟨u1, u2, u3⟩ (fun hHeld => ?_)
     clear hK K
     (try simp only [Act.put, zA, zB, zC])
     refine ryA [18] ?_
     refine rA1 fun K hK => ?_
     go_simp
     refine hK.out _ _ ⟨v1, v2, v3⟩ (fun hHeld => ?_)
     clear hK K
     (try simp only [Act.put, zA, zB, zC])
     (refine tjA 19 ?_; (try simp only [Act.put, zA, zB, zC]))
     refine wpAnyH_done (by kernel_rfl) ?_ _
     (try dsimp only [Act.put, List.getElem_toArray, List.getElem_cons_succ, List.getElem_cons_zero, List.setIfInBounds_toArray, List.set_cons_zero, List.set_cons_succ])
     clear hHeld u1 u2 u3 v1 v2 v3 oA oB
     (try go_wp2_with fail)
     go_meet
     case rel => exact ⟨_, _, _, _, _, _, _, _, _, _, _, _, _, _, _, _, _, _, _, _, _, _, rfl, rfl, rfl, RM⟩
   ·skip
    have bz : Below wz1.heap.size wz1 (wz1.alloc (.cells #[.int .i64 0, .bool false, .int .i64 0, .string ⟨#[]⟩, .slice none 0 0, .slice none 0 0] 25)) := (Below.refl _ _).alloc (Nat.le_refl _) _
    have hltwz2 : wz1.heap.size < (wz1.alloc (.cells #[.int .i64 0, .bool false, .int .i64 0, .string ⟨#[]⟩, .slice none 0 0, .slice none 0 0] 25)).heap.size := by rw [alloc_size]; omega
    have m16wz2 : (wz1.alloc (.cells #[.int .i64 0, .bool false, .int .i64 0, .string ⟨#[]⟩, .slice none 0 0, .slice none 0 0] 25)).heap[wz1.heap.size]? = some (.cells #[.int .i64 0, .bool false, .int .i64 0, .string ⟨#[]⟩, .slice none 0 0, .slice none 0 0] 25) := heap_alloc_new wz1 (.cells #[.int .i64 0, .bool false, .int .i64 0, .string ⟨#[]⟩, .slice none 0 0, .slice none 0 0] 25)
    have m17wz2 := (bz.block w4.heap.size (by omega)).trans m17wz1
    have Bwz2 : Below w4.heap.size w4 (wz1.alloc (.cells #[.int .i64 0, .bool false, .int .i64 0, .string ⟨#[]⟩, .slice none 0 0, .slice none 0 0] 25)) := Bwz1.trans (bz.mono (by omega))
    go_simp
    refine hK.out _ _ ⟨(Bwz2.block w1.heap.size (by omega)).trans kA4, (Bwz2.block (w.heap.size + 1) (by omega)).trans kO4, (Bwz2.cell (p := ⟨kg, ko + ol.length, none⟩) hkg).trans ct⟩ (fun hHeld => ?_)
    clear hK K bz
    (try simp only [Act.put, zA, zB, zC])
    generalize (wz1.alloc (.cells #[.int .i64 0, .bool false, .int .i64 0, .string ⟨#[]⟩, .slice none 0 0, .slice none 0 0] 25)) = wz2 at *
    refine ryA [10] ?_
    refine rA1 fun K hK => ?_
    ·skip
     go_simp
     refine (HT.out wz2 Bwz2).mono ?_
     rintro e wz3 ⟨cs1, cs2, rfl, hl1, hl2, b7⟩
     obtain ⟨gk, gb, gi, gs, gal, gnl, gcl, gam, gnm, gcm, rfl⟩ := V.ten hl1
     obtain ⟨fk, fb, fi, fs, fal, fnl, fcl, fam, fnm, fcm, rfl⟩ := V.ten hl2
     have hltwz3 : wz2.heap.size ≤ wz3.heap.size := b7.size
     have m17wz3 := (b7.block w4.heap.size (by omega)).trans m17wz2
     have m16wz3 := (b7.block wz1.heap.size (by omega)).trans m16wz2
     have Bwz3 : Below w4.heap.size w4 wz3 := Bwz2.trans (b7.mono (by omega))
     have l1wz3 : v.lies false wz3 (fun y => wz2.heap.size ≤ y ∧ y < wz3.heap.size) [.int .i64 gk, .bool gb, .int .i64 gi, .string gs, .slice gal gnl gcl, .slice gam gnm gcm] := hl1
     have l2wz3 : x.lies false wz3 (fun y => wz2.heap.size ≤ y ∧ y < wz3.heap.size) [.int .i64 fk, .bool fb, .int .i64 fi, .string fs, .slice fal fnl fcl, .slice fam fnm fcm] := hl2
     refine hK.out _ _ ⟨(Bwz3.block w1.heap.size (by omega)).trans kA4, (Bwz3.block (w.heap.size + 1) (by omega)).trans kO4, (Bwz3.cell (p := ⟨kg, ko + ol.length, none⟩) hkg).trans ct⟩ (fun hHeld => ?_)
     clear hK K hl1 hl2 b7
     (try simp only [Act.put, zA, zB, zC])
     (refine tjA 11 ?_; (try simp only [Act.put, zA, zB, zC]))
     (refine tjA 12 ?_; (try simp only [Act.put, zA, zB, zC]))
     (refine tjA 13 ?_; (try simp only [Act.put, zA, zB, zC]))
     (refine tjA 14 ?_; (try simp only [Act.put, zA, zB, zC]))
     have RM := pop_mid Bwz3 (A := wz1.heap.size) (B := w4.heap.size) (by omega) (by omega) (by omega) (by omega) (by omega) (by omega) (by omega) m16wz3 m17wz3 l1wz3 l2wz3
     have nAB : ¬ wz1.heap.size = w4.heap.size := by omega
     have nBA : ¬ w4.heap.size = wz1.heap.size := by omega
     have nA1 : wz1.heap.size ≠ w1.heap.size := by omega
     have nA2 : wz1.heap.size ≠ w.heap.size + 1 := by omega
     have nA3 : wz1.heap.size ≠ kg := by omega
     have nB1 : w4.heap.size ≠ w1.heap.size := by omega
     have nB2 : w4.heap.size ≠ w.heap.size + 1 := by omega
     have nB3 : w4.heap.size ≠ kg := by omega
     have s1 := (Bwz3.block w1.heap.size (by omega)).trans kA4
     have s2 := (Bwz3.block (w.heap.size + 1) (by omega)).trans kO4
     have s3 := (Bwz3.cell (p := ⟨kg, ko + ol.length, none⟩) hkg).trans ct
     have k16 := m16wz3
     have k17 := m17wz3
     generalize wz1.heap.size = A16 at RM nAB nBA nA1 nA2 nA3 k16 ⊢
     generalize w4.heap.size = A17 at RM nAB nBA nB1 nB2 nB3 k17 ⊢
     obtain ⟨p0, p1, p2, p3, p4, p5⟩ := sixC k16
     obtain ⟨q0, q1, q2, q3, q4, q5⟩ := sixC k17
     have fp := frozen_of_block k16
     have fq := frozen_of_block k17
     have oA := six_o wz3 A16 (.int .i64 gk) (.bool gb) (.int .i64 gi) (.string gs) (.slice gal gnl gcl) (.slice gam gnm gcm)
     have oB := six_o ((((((wz3.setCell ⟨A16, 0, none⟩ (.int .i64 gk)).setCell ⟨A16, 1, none⟩ (.bool gb)).setCell ⟨A16, 2, none⟩ (.int .i64 gi)).setCell ⟨A16, 3, none⟩ (.string gs)).setCell ⟨A16, 4, none⟩ (.slice gal gnl gcl)).setCell ⟨A16, 5, none⟩ (.slice gam gnm gcm)) A17 (.int .i64 fk) (.bool fb) (.int .i64 fi) (.string fs) (.slice fal fnl fcl) (.slice fam fnm fcm)
     have u1 := (oA w1.heap.size (fun e => nA1 e.symm)).trans s1
     have u2 := (oA (w.heap.size + 1) (fun e => nA2 e.symm)).trans s2
     have u3 := (cell_block (o := ko + ol.length) (oA kg (fun e => nA3 e.symm))).trans s3
     have v1 := (oB w1.heap.size (fun e => nB1 e.symm)).trans u1
     have v2 := (oB (w.heap.size + 1) (fun e => nB2 e.symm)).trans u2
     have v3 := (cell_block (o := ko + ol.length) (oB kg (fun e => nB3 e.symm))).trans u3
     refine ryA [17] ?_
     refine rA1 fun K hK => ?_
     go_simp
     refine hK.out _ _ ⟨u1, u2, u3⟩ (fun hHeld => ?_)
     clear hK K
     (try simp only [Act.put, zA, zB, zC])
     refine ryA [18] ?_
     refine rA1 fun K hK => ?_
     go_simp
     refine hK.out _ _ ⟨v1, v2, v3⟩ (fun hHeld => ?_)
     clear hK K
     (try simp only [Act.put, zA, zB, zC])
     (refine tjA 19 ?_; (try simp only [Act.put, zA, zB, zC]))
     refine wpAnyH_done (by kernel_rfl) ?_ _
     (try dsimp only [Act.put, List.getElem_toArray, List.getElem_cons_succ, List.getElem_cons_zero, List.setIfInBounds_toArray, List.set_cons_zero, List.set_cons_succ])
     clear hHeld u1 u2 u3 v1 v2 v3 oA oB
     (try go_wp2_with fail)
     go_meet
     case rel => exact ⟨_, _, _, _, _, _, _, _, _, _, _, _, _, _, _, _, _, _, _, _, _, _, rfl, rfl, rfl, RM⟩
 case rest =>
  obtain ⟨A16, A17, gk, gb, gi, gs, gal, gnl, gcl, gam, gnm, gcm, fk, fb, fi, fs, fal, fnl, fcl, fam, fnm, fcm, rfl, rfl, rfl, RM⟩ := hcut
  have hzc := RM.bel.size
  have Bc := B4.trans (RM.bel.mono B4.size)
  have kCc := (RM.bel.block w.heap.size (by omega)).trans kC4
  have kOc := (RM.bel.block (w.heap.size + 1) (by omega)).trans kO4
  have kXc := (RM.bel.block (w.heap.size + 2) (by omega)).trans kX4
  have lo := RM.lo
  have CS1 := same_any v false false v (New w4 wc) S _ _ wc RM.l1 (HL.out _ Bc).1 (fun y hy => hy.2) (HL.out _ Bc).2.2.2.1
  rw [V.eqB_refl] at CS1
  have CS1 := hmk CS1
  have RMl2 := hmk RM.l2
  have bA := RM.bA
  have bB := RM.bB
  obtain ⟨g0, g1, g2, g3, g4, g5⟩ := sixC bA
  obtain ⟨c0, c1, c2, c3, c4, c5⟩ := sixC kCc
  clear RM HT ct kA4 kC4 kO4 kX4 kD4 HPop HKd HKL HKn yqs yqs1 y47 y47b yol bA
  go_wp2_with fail
  refine CS1.out.mono ?_
  rintro e wd ⟨rfl, bd⟩
  have hzd := bd.size
  have Bd := Bc.trans (bd.mono Bc.size)
  have kCd := (bd.block w.heap.size (by omega)).trans kCc
  have kOd := (bd.block (w.heap.size + 1) (by omega)).trans kOc
  have kXd := (bd.block (w.heap.size + 2) (by omega)).trans kXc
  have CS2 := same_any x false false x (New w4 wc) S _ _ wd (V.lies_keep (fun h => h) (fun y hy => bd.block y hy.2) (fun _ h => h) _ RMl2.out) (HL.out _ Bd).2.2.1 (fun y hy => by have := hy.2; omega) (HL.out _ Bd).2.2.2.1
  rw [V.eqB_refl] at CS2
  have CS2 := hmk CS2
  clear g0 g1 g2 g3 g4 g5 c0 c1 c2 c3 c4 c5 CS1 kCc kOc kXc
  obtain ⟨g0, g1, g2, g3, g4, g5⟩ := sixC ((bd.block A17 lo.2.2.2).trans bB)
  obtain ⟨c0, c1, c2, c3, c4, c5⟩ := sixC kXd
  go_wp2_with fail
  refine CS2.out.mono ?_
  rintro e wf ⟨rfl, bf⟩
  have hzf := bf.size
  have Bf := Bd.trans (bf.mono Bd.size)
  have kCf := (bf.block w.heap.size (by omega)).trans kCd
  have kOf := (bf.block (w.heap.size + 1) (by omega)).trans kOd
  have kXf := (bf.block (w.heap.size + 2) (by omega)).trans kXd
  clear g0 g1 g2 g3 g4 g5 c0 c1 c2 c3 c4 c5 CS2 bB RMl2 kCd kOd kXd
  have e48 : (p ++ ⟨#[47, 48]⟩ : ByteArray).size = p.size + 2 := by rw [← toList_size, ByteArray.data_append]; simp
  have CZ := add_any v (p ++ ⟨#[47, 48]⟩) x S _ _ wf (HL.out _ Bf).2.2.2.2 (HL.out _ Bf).1 (HL.out _ Bf).2.2.1 (HL.out _ Bf).2.2.2.1 hwt hwx (by omega)
  rw [hZ.1] at CZ
  have CZ := hmk CZ
  have y48 : ¬ 9223372036854775807 < p.size + (⟨#[47, 48]⟩ : ByteArray).size := by have : (⟨#[47, 48]⟩ : ByteArray).size = 2 := rfl; omega
  have y48b : ¬ 9223372036854775807 < p.size + 2 := by omega
  obtain ⟨c0, c1, c2, c3, c4, c5⟩ := sixC kCf
  obtain ⟨g0, g1, g2, g3, g4, g5⟩ := sixC kXf
  have hZ2 := hmk hZ.2
  clear e48 hZ
  go_wp2_with fail
  refine CZ.out.mono ?_
  rintro e wg ⟨cu, rfl, lu, bg⟩
  obtain ⟨uk, ub, ui, us, ual, unl, ucl, uam, unm, ucm, rfl⟩ := V.ten lu
  have hzg := bg.size
  have bga : Below wg.heap.size wg (wg.alloc (.cells #[.int .i64 uk, .bool ub, .int .i64 ui, .string us, .slice ual unl ucl, .slice uam unm ucm] 25)) := one_belowG _ _
  have bgb := bg.trans (bga.mono hzg)
  have hzga : (wg.alloc (.cells #[.int .i64 uk, .bool ub, .int .i64 ui, .string us, .slice ual unl ucl, .slice uam unm ucm] 25)).heap.size = wg.heap.size + 1 := alloc_size _ _
  have Bg := Bf.trans (bgb.mono Bf.size)
  have kOg := (bgb.block (w.heap.size + 1) (by omega)).trans kOf
  have kXg := (bgb.block (w.heap.size + 2) (by omega)).trans kXf
  have lu2 : W2v.lies false (wg.alloc (.cells #[.int .i64 uk, .bool ub, .int .i64 ui, .string us, .slice ual unl ucl, .slice uam unm ucm] 25)) (New wf wg) [.int .i64 uk, .bool ub, .int .i64 ui, .string us, .slice ual unl ucl, .slice uam unm ucm] := V.lies_keep (fun h => h) (fun y hy => bga.block y hy.2) (fun _ h => h) _ lu
  have GZ := get_any W2v p (New wf wg) [.int .i64 uk, .bool ub, .int .i64 ui, .string us, .slice ual unl ucl, .slice uam unm ucm] (wg.alloc (.cells #[.int .i64 uk, .bool ub, .int .i64 ui, .string us, .slice ual unl ucl, .slice uam unm ucm] 25)) (HL.out _ Bg).2.2.2.2 lu2 (fun y hy => by have := hy.2; omega) (by omega) (by omega)
  rw [hZ2.out] at GZ
  have GZ := hmk GZ
  clear CZ c0 c1 c2 c3 c4 c5 g0 g1 g2 g3 g4 g5 y48 y48b lu lu2 hZ2 kCf kOf kXf
  go_wp2_with fail
  generalize (wg.alloc (.cells #[.int .i64 uk, .bool ub, .int .i64 ui, .string us, .slice ual unl ucl, .slice uam unm ucm] 25)) = wga at *
  refine GZ.out.mono ?_
  rintro e wh ⟨cd, rfl, ld, bh⟩
  rw [V.lies, ins_len] at ld
  obtain ⟨nal, ncl, nbl, nol, nam, ncm, _, _, rfl, _, _, _, hnal, _, hnl, _, _⟩ := ld
  obtain rfl : nal = some ⟨nbl, nol, none⟩ := hnal.at_.resolve_left (by omega)
  have hzh := bh.size
  have bha : Below wh.heap.size wh (wh.alloc (.cells #[.int .i64 4, .bool ob, .int .i64 oi, .string os, .slice (some ⟨nbl, nol, none⟩) (ol.length + 1) ncl, .slice nam om.length ncm] 25)) := one_belowG _ _
  have bhb := bh.trans (bha.mono hzh)
  have hzi : (wh.alloc (.cells #[.int .i64 4, .bool ob, .int .i64 oi, .string os, .slice (some ⟨nbl, nol, none⟩) (ol.length + 1) ncl, .slice nam om.length ncm] 25)).heap.size = wh.heap.size + 1 := alloc_size _ _
  have Bi := Bg.trans (bhb.mono Bg.size)
  have kOi := (bhb.block (w.heap.size + 1) (by omega)).trans kOg
  have kXi := (bhb.block (w.heap.size + 2) (by omega)).trans kXg
  have kNi := heap_alloc_new wh (.cells #[.int .i64 4, .bool ob, .int .i64 oi, .string os, .slice (some ⟨nbl, nol, none⟩) (ol.length + 1) ncl, .slice nam om.length ncm] 25)
  have ei : insL ol 0 x = x :: ol := by simp [insL]
  rw [ei] at hnl
  obtain ⟨hSn, csz, hrz, hlz⟩ := liesL_get hnl 0 (by simp)
  have hlz : x.lies false wh (New wga wh) csz := hlz
  obtain ⟨jk, jb, ji, js, jal, jnl, jcl, jam, jnm, jcm, rfl⟩ := V.ten hlz
  have rwz := row6 (hrz.keep (bha.block nbl hSn.2))
  simp only [Nat.zero_mul, Nat.add_zero] at rwz
  have hbz : nbl < (wh.alloc (.cells #[.int .i64 4, .bool ob, .int .i64 oi, .string os, .slice (some ⟨nbl, nol, none⟩) (ol.length + 1) ncl, .slice nam om.length ncm] 25)).heap.size := by have := hSn.2; omega
  have hlz2 : x.lies false (wh.alloc (.cells #[.int .i64 4, .bool ob, .int .i64 oi, .string os, .slice (some ⟨nbl, nol, none⟩) (ol.length + 1) ncl, .slice nam om.length ncm] 25)) (New wga wh) [.int .i64 jk, .bool jb, .int .i64 ji, .string js, .slice jal jnl jcl, .slice jam jnm jcm] := V.lies_keep (fun h => h) (fun y hy => bha.block y hy.2) (fun _ h => h) _ hlz
  have HNL : Hid (∀ W, Below (wh.alloc (.cells #[.int .i64 4, .bool ob, .int .i64 oi, .string os, .slice (some ⟨nbl, nol, none⟩) (ol.length + 1) ncl, .slice nam om.length ncm] 25)).heap.size (wh.alloc (.cells #[.int .i64 4, .bool ob, .int .i64 oi, .string os, .slice (some ⟨nbl, nol, none⟩) (ol.length + 1) ncl, .slice nam om.length ncm] 25)) W → liesL false W (New wga wh) (x :: ol) nbl nol) := fun W hb => liesL_keep (fun h => h) (fun y hy => (hb.block y (by have := hy.2; omega)).trans (bha.block y hy.2)) (fun _ h => h) _ hnl
  have CS3 : Hid (∀ z : Sub (wh.alloc (.cells #[.int .i64 4, .bool ob, .int .i64 oi, .string os, .slice (some ⟨nbl, nol, none⟩) (ol.length + 1) ncl, .slice nam om.length ncm] 25)).heap.size (wh.alloc (.cells #[.int .i64 4, .bool ob, .int .i64 oi, .string os, .slice (some ⟨nbl, nol, none⟩) (ol.length + 1) ncl, .slice nam om.length ncm] 25)), Calls Tryz.prog 14 #[.agg #[.int .i64 jk, .bool jb, .int .i64 ji, .string js, .slice jal jnl jcl, .slice jam jnm jcm], .agg #[.int .i64 xk, .bool xb, .int .i64 xi, .string xs, .slice xal xnl xcl, .slice xam xnm xcm]] z.w fun e w'' => e = .returned (.bool true) ∧ ∃ y : Sub (wh.alloc (.cells #[.int .i64 4, .bool ob, .int .i64 oi, .string os, .slice (some ⟨nbl, nol, none⟩) (ol.length + 1) ncl, .slice nam om.length ncm] 25)).heap.size (wh.alloc (.cells #[.int .i64 4, .bool ob, .int .i64 oi, .string os, .slice (some ⟨nbl, nol, none⟩) (ol.length + 1) ncl, .slice nam om.length ncm] 25)), w'' = y.w) := sub_call fun W hb => by
   have q := HL.out W (Bi.trans (hb.mono Bi.size))
   have c := same_any x false false x (New wga wh) S _ _ W (V.lies_keep (fun h => h) (fun y hy => hb.block y (by have := hy.2; omega)) (fun _ h => h) _ hlz2) q.2.2.1 (fun y hy => by have := hy.2; have := hb.size; omega) q.2.2.2.1
   rw [V.eqB_refl] at c
   exact c.mono fun e W' ⟨he, h2⟩ => ⟨he, hb.trans (h2.mono hb.size)⟩
  obtain ⟨d0, d1, d2, d3, d4, d5⟩ := sixC kNi
  obtain ⟨o0, o1, o2, o3, o4, o5⟩ := sixC kOi
  obtain ⟨x0, x1, x2, x3, x4, x5⟩ := sixC kXi
  have m4 : ∀ z : Sub (wh.alloc (.cells #[.int .i64 4, .bool ob, .int .i64 oi, .string os, .slice (some ⟨nbl, nol, none⟩) (ol.length + 1) ncl, .slice nam om.length ncm] 25)).heap.size (wh.alloc (.cells #[.int .i64 4, .bool ob, .int .i64 oi, .string os, .slice (some ⟨nbl, nol, none⟩) (ol.length + 1) ncl, .slice nam om.length ncm] 25)), _ := sub_cell d4 (by omega)
  have n4 : ∀ z : Sub (wh.alloc (.cells #[.int .i64 4, .bool ob, .int .i64 oi, .string os, .slice (some ⟨nbl, nol, none⟩) (ol.length + 1) ncl, .slice nam om.length ncm] 25)).heap.size (wh.alloc (.cells #[.int .i64 4, .bool ob, .int .i64 oi, .string os, .slice (some ⟨nbl, nol, none⟩) (ol.length + 1) ncl, .slice nam om.length ncm] 25)), _ := sub_cell o4 (by omega)
  have g0 : ∀ z : Sub (wh.alloc (.cells #[.int .i64 4, .bool ob, .int .i64 oi, .string os, .slice (some ⟨nbl, nol, none⟩) (ol.length + 1) ncl, .slice nam om.length ncm] 25)).heap.size (wh.alloc (.cells #[.int .i64 4, .bool ob, .int .i64 oi, .string os, .slice (some ⟨nbl, nol, none⟩) (ol.length + 1) ncl, .slice nam om.length ncm] 25)), _ := sub_cell x0 (by omega)
  have g1 : ∀ z : Sub (wh.alloc (.cells #[.int .i64 4, .bool ob, .int .i64 oi, .string os, .slice (some ⟨nbl, nol, none⟩) (ol.length + 1) ncl, .slice nam om.length ncm] 25)).heap.size (wh.alloc (.cells #[.int .i64 4, .bool ob, .int .i64 oi, .string os, .slice (some ⟨nbl, nol, none⟩) (ol.length + 1) ncl, .slice nam om.length ncm] 25)), _ := sub_cell x1 (by omega)
  have g2 : ∀ z : Sub (wh.alloc (.cells #[.int .i64 4, .bool ob, .int .i64 oi, .string os, .slice (some ⟨nbl, nol, none⟩) (ol.length + 1) ncl, .slice nam om.length ncm] 25)).heap.size (wh.alloc (.cells #[.int .i64 4, .bool ob, .int .i64 oi, .string os, .slice (some ⟨nbl, nol, none⟩) (ol.length + 1) ncl, .slice nam om.length ncm] 25)), _ := sub_cell x2 (by omega)
  have g3 : ∀ z : Sub (wh.alloc (.cells #[.int .i64 4, .bool ob, .int .i64 oi, .string os, .slice (some ⟨nbl, nol, none⟩) (ol.length + 1) ncl, .slice nam om.length ncm] 25)).heap.size (wh.alloc (.cells #[.int .i64 4, .bool ob, .int .i64 oi, .string os, .slice (some ⟨nbl, nol, none⟩) (ol.length + 1) ncl, .slice nam om.length ncm] 25)), _ := sub_cell x3 (by omega)
  have g4 : ∀ z : Sub (wh.alloc (.cells #[.int .i64 4, .bool ob, .int .i64 oi, .string os, .slice (some ⟨nbl, nol, none⟩) (ol.length + 1) ncl, .slice nam om.length ncm] 25)).heap.size (wh.alloc (.cells #[.int .i64 4, .bool ob, .int .i64 oi, .string os, .slice (some ⟨nbl, nol, none⟩) (ol.length + 1) ncl, .slice nam om.length ncm] 25)), _ := sub_cell x4 (by omega)
  have g5 : ∀ z : Sub (wh.alloc (.cells #[.int .i64 4, .bool ob, .int .i64 oi, .string os, .slice (some ⟨nbl, nol, none⟩) (ol.length + 1) ncl, .slice nam om.length ncm] 25)).heap.size (wh.alloc (.cells #[.int .i64 4, .bool ob, .int .i64 oi, .string os, .slice (some ⟨nbl, nol, none⟩) (ol.length + 1) ncl, .slice nam om.length ncm] 25)), _ := sub_cell x5 (by omega)
  have f0 : ∀ z : Sub (wh.alloc (.cells #[.int .i64 4, .bool ob, .int .i64 oi, .string os, .slice (some ⟨nbl, nol, none⟩) (ol.length + 1) ncl, .slice nam om.length ncm] 25)).heap.size (wh.alloc (.cells #[.int .i64 4, .bool ob, .int .i64 oi, .string os, .slice (some ⟨nbl, nol, none⟩) (ol.length + 1) ncl, .slice nam om.length ncm] 25)), _ := sub_cell rwz.1 hbz
  have f1 : ∀ z : Sub (wh.alloc (.cells #[.int .i64 4, .bool ob, .int .i64 oi, .string os, .slice (some ⟨nbl, nol, none⟩) (ol.length + 1) ncl, .slice nam om.length ncm] 25)).heap.size (wh.alloc (.cells #[.int .i64 4, .bool ob, .int .i64 oi, .string os, .slice (some ⟨nbl, nol, none⟩) (ol.length + 1) ncl, .slice nam om.length ncm] 25)), _ := sub_cell rwz.2.1 hbz
  have f2 : ∀ z : Sub (wh.alloc (.cells #[.int .i64 4, .bool ob, .int .i64 oi, .string os, .slice (some ⟨nbl, nol, none⟩) (ol.length + 1) ncl, .slice nam om.length ncm] 25)).heap.size (wh.alloc (.cells #[.int .i64 4, .bool ob, .int .i64 oi, .string os, .slice (some ⟨nbl, nol, none⟩) (ol.length + 1) ncl, .slice nam om.length ncm] 25)), _ := sub_cell rwz.2.2.1 hbz
  have f3 : ∀ z : Sub (wh.alloc (.cells #[.int .i64 4, .bool ob, .int .i64 oi, .string os, .slice (some ⟨nbl, nol, none⟩) (ol.length + 1) ncl, .slice nam om.length ncm] 25)).heap.size (wh.alloc (.cells #[.int .i64 4, .bool ob, .int .i64 oi, .string os, .slice (some ⟨nbl, nol, none⟩) (ol.length + 1) ncl, .slice nam om.length ncm] 25)), _ := sub_cell rwz.2.2.2.1 hbz
  have f4 : ∀ z : Sub (wh.alloc (.cells #[.int .i64 4, .bool ob, .int .i64 oi, .string os, .slice (some ⟨nbl, nol, none⟩) (ol.length + 1) ncl, .slice nam om.length ncm] 25)).heap.size (wh.alloc (.cells #[.int .i64 4, .bool ob, .int .i64 oi, .string os, .slice (some ⟨nbl, nol, none⟩) (ol.length + 1) ncl, .slice nam om.length ncm] 25)), _ := sub_cell rwz.2.2.2.2.1 hbz
  have f5 : ∀ z : Sub (wh.alloc (.cells #[.int .i64 4, .bool ob, .int .i64 oi, .string os, .slice (some ⟨nbl, nol, none⟩) (ol.length + 1) ncl, .slice nam om.length ncm] 25)).heap.size (wh.alloc (.cells #[.int .i64 4, .bool ob, .int .i64 oi, .string os, .slice (some ⟨nbl, nol, none⟩) (ol.length + 1) ncl, .slice nam om.length ncm] 25)), _ := sub_cell rwz.2.2.2.2.2 hbz
  have y0 : (0 : Int) < (ol.length : Int) + 1 := by omega
  clear hlz hrz rwz d0 d1 d2 d3 d4 d5 o0 o1 o2 o3 o4 o5 x0 x1 x2 x3 x4 x5 GZ hnal hnl kOg kXg
  go_wp2_with fail
  generalize (wh.alloc (.cells #[.int .i64 4, .bool ob, .int .i64 oi, .string os, .slice (some ⟨nbl, nol, none⟩) (ol.length + 1) ncl, .slice nam om.length ncm] 25)) = wi at *
  refine wp_region_sub wi.heap.size (by kernel_rfl) (by kernel_rfl) ?_
  repeat (go_big_quiet_step (exact CS3.out _))
  refine wpQuiet_nil ?_
  rintro wj ⟨⟨wj', bj⟩, hj3⟩
  have hj3' : wj = wj' := hj3
  subst hj3'
  clear hj3 CS3 m4 n4 g0 g1 g2 g3 g4 g5 f0 f1 f2 f3 f4 f5
  go_wp2_with fail
  go_loopw [23] (fun e23 wr => ∃ j : Nat, j ≤ ol.length ∧ e23 = .int .i64 (j : Int) ∧ Hid (Below wi.heap.size wi wr)) (fun e23 _ => ol.length - (RowKit.intOf e23).toNat)
  case atStart => exact ⟨0, by omega, rfl, bj⟩
  case round =>
   obtain ⟨j, hj, rfl, Hbr⟩ := hrel
   have br := Hbr.out
   have hzr := br.size
   have Br := Bi.trans (br.mono Bi.size)
   have kOr := (br.block (w.heap.size + 1) (by omega)).trans kOi
   have kNr := (br.block wh.heap.size (by omega)).trans kNi
   by_cases hjl : j < ol.length
   ·have y1 : (j : Int) < (ol.length : Int) := by omega
    have y2 : (j : Int) + 1 < (ol.length : Int) + 1 := by omega
    have y3 : (-9223372036854775808 : Int) ≤ (j : Int) + 1 ∧ (j : Int) + 1 ≤ 9223372036854775807 := by omega
    have y4 : (0 : Int) ≤ (j : Int) + 1 := by omega
    have y5 : ((j : Int) + 1).toNat = j + 1 := by omega
    obtain ⟨hSb, csj, hrow, hlj⟩ := liesL_get HOL.out j hjl
    obtain rfl : oal = some ⟨obl, oof, none⟩ := hoal.at_.resolve_left (by omega)
    obtain ⟨hSc, cni, hrn, hln⟩ := liesL_get (HNL.out wr br) (j + 1) (by simp only [List.length_cons]; omega)
    have hln : (ol[j]).lies false wr (New wga wh) cni := hln
    have hk : ∀ y, S y → wr.heap[y]? = w.heap[y]? := fun y hy => Br.block y (hS y hy)
    obtain ⟨yk, yb, yi, ys, yal, ynl, ycl, yam, ynm, ycm, rfl⟩ := V.ten hlj
    obtain ⟨zk, zb, zi, zs, zal, znl, zcl, zam, znm, zcm, rfl⟩ := V.ten hln
    have ra := row6 (hrow.keep (hk _ hSb))
    have rn := row6 hrn
    have hb1 : obl < wr.heap.size := by have := hS obl hSb; omega
    have hb2 : nbl < wr.heap.size := by have := hSc.2; omega
    have hly : (ol[j]).lies false wr S [.int .i64 yk, .bool yb, .int .i64 yi, .string ys, .slice yal ynl ycl, .slice yam ynm ycm] := V.lies_keep (fun h => h) hk (fun _ h => h) _ hlj
    have CI : Hid (∀ z : Sub wr.heap.size wr, Calls Tryz.prog 14 #[.agg #[.int .i64 zk, .bool zb, .int .i64 zi, .string zs, .slice zal znl zcl, .slice zam znm zcm], .agg #[.int .i64 yk, .bool yb, .int .i64 yi, .string ys, .slice yal ynl ycl, .slice yam ynm ycm]] z.w fun e w'' => e = .returned (.bool true) ∧ ∃ y : Sub wr.heap.size wr, w'' = y.w) := sub_call fun W hb => by
     have c := same_any (ol[j]) false false (ol[j]) (New wga wh) S _ _ W (V.lies_keep (fun h => h) (fun y hy => hb.block y (by have := hy.2; omega)) (fun _ h => h) _ hln) (V.lies_keep (fun h => h) (fun y hy => hb.block y (by have := hS y hy; omega)) (fun _ h => h) _ hly) (fun y hy => by have := hy.2; have := hb.size; omega) (fun y hy => by have := hS y hy; have := hb.size; omega)
     rw [V.eqB_refl] at c
     exact c.mono fun e W' ⟨he, h2⟩ => ⟨he, hb.trans (h2.mono hb.size)⟩
    obtain ⟨o0, o1, o2, o3, o4, o5⟩ := sixC kOr
    obtain ⟨d0, d1, d2, d3, d4, d5⟩ := sixC kNr
    have u4 : ∀ z : Sub wr.heap.size wr, _ := sub_cell d4 (by omega)
    have t4 : ∀ z : Sub wr.heap.size wr, _ := sub_cell o4 (by omega)
    have p0 : ∀ z : Sub wr.heap.size wr, _ := sub_cell ra.1 hb1
    have q0 : ∀ z : Sub wr.heap.size wr, _ := sub_cell rn.1 hb2
    have p1 : ∀ z : Sub wr.heap.size wr, _ := sub_cell ra.2.1 hb1
    have q1 : ∀ z : Sub wr.heap.size wr, _ := sub_cell rn.2.1 hb2
    have p2 : ∀ z : Sub wr.heap.size wr, _ := sub_cell ra.2.2.1 hb1
    have q2 : ∀ z : Sub wr.heap.size wr, _ := sub_cell rn.2.2.1 hb2
    have p3 : ∀ z : Sub wr.heap.size wr, _ := sub_cell ra.2.2.2.1 hb1
    have q3 : ∀ z : Sub wr.heap.size wr, _ := sub_cell rn.2.2.2.1 hb2
    have p4 : ∀ z : Sub wr.heap.size wr, _ := sub_cell ra.2.2.2.2.1 hb1
    have q4 : ∀ z : Sub wr.heap.size wr, _ := sub_cell rn.2.2.2.2.1 hb2
    have p5 : ∀ z : Sub wr.heap.size wr, _ := sub_cell ra.2.2.2.2.2 hb1
    have q5 : ∀ z : Sub wr.heap.size wr, _ := sub_cell rn.2.2.2.2.2 hb2
    clear hlj hrow hrn hln ra rn hly hk Hbr d0 d1 d2 d3 d4 d5 o0 o1 o2 o3 o5 hoal
    go_wp2_with fail
    refine wp_region_sub wr.heap.size (by kernel_rfl) (by kernel_rfl) ?_
    repeat (go_big_quiet_step (exact CI.out _))
    refine wpQuiet_nil ?_
    rintro _ ⟨⟨wq, bq⟩, rfl⟩
    go_wp2_with fail
    go_roundw
    case rel => exact ⟨j + 1, by omega, by go_num, br.trans (bq.mono hzr)⟩
    case measure => simp [RowKit.intOf]; omega
   ·obtain rfl : j = ol.length := by omega
    have y1 : ¬ (ol.length : Int) < ol.length := by omega
    obtain ⟨o0, o1, o2, o3, o4, o5⟩ := sixC kOr
    clear Hbr kNr
    go_wp2_with fail
    go_ret
    exact ⟨rfl, Br⟩
end Go.Proofs.YtgnofbigggmilaaGreatDoor
