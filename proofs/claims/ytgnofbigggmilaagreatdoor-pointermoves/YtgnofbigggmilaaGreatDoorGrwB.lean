import Derived.Test.YtgnofbigggmilaaGreatDoorPlcA
import Derived.Test.YtgnofbigggmilaaGreatDoorGetA
import Derived.Test.YtgnofbigggmilaaGreatDoorAddP
set_option linter.unusedSimpArgs false
set_option linter.unusedVariables false
namespace Go.Proofs.YtgnofbigggmilaaGreatDoor
open Go.RowKit Go.Lib
theorem three_at (w : World) (o o' o'' : Obj) : (((w.alloc o).alloc o').alloc o'').heap.size = w.heap.size + 3 ∧ (((w.alloc o).alloc o').alloc o'').heap[w.heap.size]? = some o ∧ (((w.alloc o).alloc o').alloc o'').heap[w.heap.size + 1]? = some o' ∧ (((w.alloc o).alloc o').alloc o'').heap[w.heap.size + 2]? = some o'' := by
 have hz : ((w.alloc o).alloc o').heap.size = w.heap.size + 2 := by simp only [alloc_size]
 have b : Below ((w.alloc o).alloc o').heap.size ((w.alloc o).alloc o') (((w.alloc o).alloc o').alloc o'') := one_belowG _ _
 refine ⟨by simp only [alloc_size], (b.block _ (by omega)).trans (alloc2_keep1 w o o'), (b.block _ (by omega)).trans (alloc2_new w o o'), ?_⟩
 have := heap_alloc_new ((w.alloc o).alloc o') o''
 rw [hz] at this
 exact this
theorem getV_two {v : V} (h : chkE v 40 = 0) (key : ByteArray) : (getV v key).2 = keyIs key (memsOf v)[posF (memsOf v) key]? := by
 rw [chkE40] at h
 rw [getV, okV, if_pos (by simp [h]), atKey]
 split
 ·rename_i h1; rw [h1]
 ·rename_i h1; simp at h1; rw [h1]
theorem get_ok {w x : V} {q : ByteArray} (h : getF w q = (x, 0)) : chkE w 40 = 0 := by
 by_cases hr : rdF w q = 0
 ·exact rdF_chk hr
 ·rw [getF, if_neg hr] at h
  exact absurd (congrArg Prod.snd h) hr
set_option maxHeartbeats 8000000 in
set_option maxRecDepth 100000 in
theorem grown_other (v x : V) (key p : ByteArray) (ts : List ByteArray) (S : Nat → Prop) (cs ds es : List Value) (w : World) (tg : Tg w) (hm : Mv v x key) (hp : Place v p ts) (h4 : ¬ kindOf (rgW v ts).1 = 4) (hv : v.lies false w S cs) (ho : (rgW v ts).1.lies false w S ds) (hx : x.lies false w S es) (hS : ∀ b, S b → b < w.heap.size) (hwt : v.wt ≤ 2147483648) (hwx : x.wt ≤ 2147483648) :
 Calls Tryz.prog 26 #[.agg cs.toArray, .string p, .agg ds.toArray, .agg es.toArray, .string key] w (BPost true w) := by
 obtain ⟨k, b, i, s, al, nl, cl, am, nm, cm, rfl⟩ := V.ten hv
 obtain ⟨xk, xb, xi, xs, xal, xnl, xcl, xam, xnm, xcm, rfl⟩ := V.ten hx
 have hps := place_size hm hp
 have hbx := hm.b
 have hco := hm.co hp
 have HG := hmk (getV_two hco key)
 have hwo := rgW_wt ts v
 have HKey : Hid (validD key.data.toList = true → ∀ q : ByteArray, q.data.toList = p.data.toList ++ 47 :: esp key.data.toList → (¬ kindOf (rgW v ts).1 = 5 → addPF v q x = (nullV, 41)) ∧ (∀ b i s l m, (rgW v ts).1 = .mk 5 b i s l m → ∃ w, addPF v q x = (w, 0) ∧ getF w q = (x, 0) ∧ ∃ y, takF w q = (y, x, 0) ∧ (¬ keyIs key m[posF m key]? = true → y = v))) := fun hk q hq =>
  ⟨fun h5 => mv_no hm hp hk hq h4 h5, fun b i s l m e => mv_key hm hp hk hq e⟩
 have HL : Hid (∀ W, Below w.heap.size w W → v.lies false W S [.int .i64 k, .bool b, .int .i64 i, .string s, .slice al nl cl, .slice am nm cm] ∧ (rgW v ts).1.lies false W S ds ∧ x.lies false W S [.int .i64 xk, .bool xb, .int .i64 xi, .string xs, .slice xal xnl xcl, .slice xam xnm xcm] ∧ (∀ b, S b → b < W.heap.size) ∧ Tg W) := fun W hb =>
  ⟨V.lies_keep (fun h => h) (fun y hy => hb.block y (hS y hy)) (fun _ h => h) _ hv, V.lies_keep (fun h => h) (fun y hy => hb.block y (hS y hy)) (fun _ h => h) _ ho, V.lies_keep (fun h => h) (fun y hy => hb.block y (hS y hy)) (fun _ h => h) _ hx, fun y hy => Nat.lt_of_lt_of_le (hS y hy) hb.size, tg.below hb tg.z⟩
 generalize (rgW v ts).1 = old at *
 obtain ⟨ok, ob, oi, os, ol, om⟩ := old
 rw [V.lies] at ho
 obtain ⟨oal, ocl, _, _, oam, ocm, _, _, rfl, _, _, _, _, _, _, _, _⟩ := ho
 have h4' : ¬ ok = 4 := h4
 have B0 := three_below w (.cells #[.int .i64 k, .bool b, .int .i64 i, .string s, .slice al nl cl, .slice am nm cm] 25) (.cells #[.int .i64 ok, .bool ob, .int .i64 oi, .string os, .slice oal ol.length ocl, .slice oam om.length ocm] 25) (.cells #[.int .i64 xk, .bool xb, .int .i64 xi, .string xs, .slice xal xnl xcl, .slice xam xnm xcm] 25)
 obtain ⟨hz0, h0, h1, h2⟩ := three_at w (.cells #[.int .i64 k, .bool b, .int .i64 i, .string s, .slice al nl cl, .slice am nm cm] 25) (.cells #[.int .i64 ok, .bool ob, .int .i64 oi, .string os, .slice oal ol.length ocl, .slice oam om.length ocm] 25) (.cells #[.int .i64 xk, .bool xb, .int .i64 xi, .string xs, .slice xal xnl xcl, .slice xam xnm xcm] 25)
 have c0 : (((w.alloc (.cells #[.int .i64 k, .bool b, .int .i64 i, .string s, .slice al nl cl, .slice am nm cm] 25)).alloc (.cells #[.int .i64 ok, .bool ob, .int .i64 oi, .string os, .slice oal ol.length ocl, .slice oam om.length ocm] 25)).alloc (.cells #[.int .i64 xk, .bool xb, .int .i64 xi, .string xs, .slice xal xnl xcl, .slice xam xnm xcm] 25)).cell? ⟨w.heap.size + 1, 0, none⟩ = some (.int .i64 ok) := (sixC h1).1
 have lt : ∀ W : World, LiesS (W.alloc (.cells #[.string key] 9)) (.slice (some ⟨W.heap.size, 0, none⟩) 1 1) [key] := fun W => ⟨⟨_, _, rfl⟩, fun _ => ⟨W.heap.size, 0, 1, rfl, Nat.le_refl _, by rw [alloc_size]; omega, fun q hq => by
  have : q = 0 := by simpa using hq
  subst this
  rw [cell_of_block (heap_alloc_new W _)]; rfl⟩⟩
 have BA : Below w.heap.size w ((((w.alloc (.cells #[.int .i64 k, .bool b, .int .i64 i, .string s, .slice al nl cl, .slice am nm cm] 25)).alloc (.cells #[.int .i64 ok, .bool ob, .int .i64 oi, .string os, .slice oal ol.length ocl, .slice oam om.length ocm] 25)).alloc (.cells #[.int .i64 xk, .bool xb, .int .i64 xi, .string xs, .slice xal xnl xcl, .slice xam xnm xcm] 25)).alloc (.cells #[.string key] 9)) := B0.alloc (by omega) _
 have CP := pprint_any [key] _ ((((w.alloc (.cells #[.int .i64 k, .bool b, .int .i64 i, .string s, .slice al nl cl, .slice am nm cm] 25)).alloc (.cells #[.int .i64 ok, .bool ob, .int .i64 oi, .string os, .slice oal ol.length ocl, .slice oam om.length ocm] 25)).alloc (.cells #[.int .i64 xk, .bool xb, .int .i64 xi, .string xs, .slice xal xnl xcl, .slice xam xnm xcm] 25)).alloc (.cells #[.string key] 9)) (lt _) (by simp [totS]; omega) (HL.out _ BA).2.2.2.2.t
 have b3 : Below (((w.alloc (.cells #[.int .i64 k, .bool b, .int .i64 i, .string s, .slice al nl cl, .slice am nm cm] 25)).alloc (.cells #[.int .i64 ok, .bool ob, .int .i64 oi, .string os, .slice oal ol.length ocl, .slice oam om.length ocm] 25)).alloc (.cells #[.int .i64 xk, .bool xb, .int .i64 xi, .string xs, .slice xal xnl xcl, .slice xam xnm xcm] 25)).heap.size (((w.alloc (.cells #[.int .i64 k, .bool b, .int .i64 i, .string s, .slice al nl cl, .slice am nm cm] 25)).alloc (.cells #[.int .i64 ok, .bool ob, .int .i64 oi, .string os, .slice oal ol.length ocl, .slice oam om.length ocm] 25)).alloc (.cells #[.int .i64 xk, .bool xb, .int .i64 xi, .string xs, .slice xal xnl xcl, .slice xam xnm xcm] 25)) ((((w.alloc (.cells #[.int .i64 k, .bool b, .int .i64 i, .string s, .slice al nl cl, .slice am nm cm] 25)).alloc (.cells #[.int .i64 ok, .bool ob, .int .i64 oi, .string os, .slice oal ol.length ocl, .slice oam om.length ocm] 25)).alloc (.cells #[.int .i64 xk, .bool xb, .int .i64 xi, .string xs, .slice xal xnl xcl, .slice xam xnm xcm] 25)).alloc (.cells #[.string key] 9)) := one_belowG _ _
 clear lt hv hx tg
 by_cases hk : validD key.data.toList = true
 ·have epr : prA (dat [key]) = some (47 :: esp key.data.toList) := by
   rw [prA, if_pos (by simpa [dat] using hk)]
   simp [dat, prT]
  rw [epr] at CP
  have CP : Hid (Calls Tryz.prog 29 #[.slice (some ⟨(((w.alloc (.cells #[.int .i64 k, .bool b, .int .i64 i, .string s, .slice al nl cl, .slice am nm cm] 25)).alloc (.cells #[.int .i64 ok, .bool ob, .int .i64 oi, .string os, .slice oal ol.length ocl, .slice oam om.length ocm] 25)).alloc (.cells #[.int .i64 xk, .bool xb, .int .i64 xi, .string xs, .slice xal xnl xcl, .slice xam xnm xcm] 25)).heap.size, 0, none⟩) 1 1] ((((w.alloc (.cells #[.int .i64 k, .bool b, .int .i64 i, .string s, .slice al nl cl, .slice am nm cm] 25)).alloc (.cells #[.int .i64 ok, .bool ob, .int .i64 oi, .string os, .slice oal ol.length ocl, .slice oam om.length ocm] 25)).alloc (.cells #[.int .i64 xk, .bool xb, .int .i64 xi, .string xs, .slice xal xnl xcl, .slice xam xnm xcm] 25)).alloc (.cells #[.string key] 9)) (fun e w' => e = .returned (.tuple #[.string ⟨(47 :: esp key.data.toList).toArray⟩, .int .i64 0]) ∧ Below ((((w.alloc (.cells #[.int .i64 k, .bool b, .int .i64 i, .string s, .slice al nl cl, .slice am nm cm] 25)).alloc (.cells #[.int .i64 ok, .bool ob, .int .i64 oi, .string os, .slice oal ol.length ocl, .slice oam om.length ocm] 25)).alloc (.cells #[.int .i64 xk, .bool xb, .int .i64 xi, .string xs, .slice xal xnl xcl, .slice xam xnm xcm] 25)).alloc (.cells #[.string key] 9)).heap.size ((((w.alloc (.cells #[.int .i64 k, .bool b, .int .i64 i, .string s, .slice al nl cl, .slice am nm cm] 25)).alloc (.cells #[.int .i64 ok, .bool ob, .int .i64 oi, .string os, .slice oal ol.length ocl, .slice oam om.length ocm] 25)).alloc (.cells #[.int .i64 xk, .bool xb, .int .i64 xi, .string xs, .slice xal xnl xcl, .slice xam xnm xcm] 25)).alloc (.cells #[.string key] 9)) w')) := CP
  rw [hz0] at CP
  have HS : Hid ((⟨(47 :: esp key.data.toList).toArray⟩ : ByteArray).data.toList = 47 :: esp key.data.toList) := by show _ = _; simp
  have hpss : (⟨(47 :: esp key.data.toList).toArray⟩ : ByteArray).size ≤ 2 * key.size + 1 := by
   have := esp_len key.data.toList
   rw [toList_size] at this
   rw [ba_size, List.length_cons]; omega
  generalize (⟨(47 :: esp key.data.toList).toArray⟩ : ByteArray) = ps at *
  have hqd : (p ++ ps).data.toList = p.data.toList ++ 47 :: esp key.data.toList := by rw [← HS.out, ByteArray.data_append]; simp
  have hqs : (p ++ ps).size = p.size + ps.size := by rw [← toList_size, ByteArray.data_append]; simp
  obtain ⟨hno, hmap⟩ := HKey.out hk (p ++ ps) hqd
  have y7 : ¬ 9223372036854775807 < p.size + ps.size := by omega
  have hq3 : (p ++ ps).size ≤ 3900000 := by omega
  clear HKey hqd HS hk
  have CA : Hid (∀ W, Below w.heap.size w W → Calls Tryz.prog 11 #[.agg #[.int .i64 k, .bool b, .int .i64 i, .string s, .slice al nl cl, .slice am nm cm], .string (p ++ ps), .agg #[.int .i64 xk, .bool xb, .int .i64 xi, .string xs, .slice xal xnl xcl, .slice xam xnm xcm]] W (NwPost (addPF v (p ++ ps) x) W)) := fun W hb => by
   have q := HL.out W hb
   exact add_any v (p ++ ps) x S _ _ W q.2.2.2.2 q.1 q.2.2.1 q.2.2.2.1 hwt hwx hq3
  go_enter Tryz.func26, Tryz.ntmps26
  go_wp2_with fail
  refine CP.out.mono ?_
  rintro e w1 ⟨rfl, b1⟩
  have B1 := BA.trans (b1.mono BA.size)
  have b31 := b3.trans (b1.mono b3.size)
  have hz1 := b31.size
  have kC := (b31.block w.heap.size (by omega)).trans h0
  have kO := (b31.block (w.heap.size + 1) (by omega)).trans h1
  have kX := (b31.block (w.heap.size + 2) (by omega)).trans h2
  obtain ⟨p0, p1, p2, p3, p4, p5⟩ := sixC kC
  obtain ⟨q0, q1, q2, q3, q4, q5⟩ := sixC kX
  clear CP h0 h1 h2 c0 b3
  by_cases h5 : ok = 5
  ·subst h5
   obtain ⟨wv, ha, hg, yv, ht, hback⟩ := hmap ob oi os ol om rfl
   have CA1 := CA.out w1 B1
   rw [ha] at CA1
   have hcw := get_ok hg
   have hww := wt_chk hcw
   clear hno hmap CA ha
   go_wp2_with fail
   refine CA1.mono ?_
   rintro e w2 ⟨ca, rfl, la, b2⟩
   obtain ⟨ak, ab, ai, as_, aal, anl, acl, aam, anm, acm, rfl⟩ := V.ten la
   have hz2 := b2.size
   have b2a : Below w2.heap.size w2 (w2.alloc (.cells #[.int .i64 ak, .bool ab, .int .i64 ai, .string as_, .slice aal anl acl, .slice aam anm acm] 25)) := one_belowG _ _
   have hza : (w2.alloc (.cells #[.int .i64 ak, .bool ab, .int .i64 ai, .string as_, .slice aal anl acl, .slice aam anm acm] 25)).heap.size = w2.heap.size + 1 := alloc_size _ _
   have b2b := b2.trans (b2a.mono hz2)
   have B2 := B1.trans (b2b.mono B1.size)
   have kC2 := (b2b.block w.heap.size (by omega)).trans kC
   have kO2 := (b2b.block (w.heap.size + 1) (by omega)).trans kO
   have kX2 := (b2b.block (w.heap.size + 2) (by omega)).trans kX
   have kA2 := heap_alloc_new w2 (.cells #[.int .i64 ak, .bool ab, .int .i64 ai, .string as_, .slice aal anl acl, .slice aam anm acm] 25)
   have la2 : wv.lies false (w2.alloc (.cells #[.int .i64 ak, .bool ab, .int .i64 ai, .string as_, .slice aal anl acl, .slice aam anm acm] 25)) (New w1 w2) [.int .i64 ak, .bool ab, .int .i64 ai, .string as_, .slice aal anl acl, .slice aam anm acm] := V.lies_keep (fun h => h) (fun y hy => b2a.block y hy.2) (fun _ h => h) _ la
   obtain ⟨r0, r1, r2, r3, r4, r5⟩ := sixC kO2
   have CV := vget_any (V.mk 5 ob oi os ol om) key false S _ (w2.alloc (.cells #[.int .i64 ak, .bool ab, .int .i64 ai, .string as_, .slice aal anl acl, .slice aam anm acm] 25)) ⟨(HL.out _ B2).2.2.2.2.t.u, by have := (HL.out _ B2).2.2.2.2.z; omega⟩ (HL.out _ B2).2.1 (HL.out _ B2).2.2.2.1 (by omega)
   clear CA1 kC kO kX p0 p1 p2 p3 p4 p5 q0 q1 q2 q3 q4 q5 b2 b2b la
   go_wp2_with fail
   generalize hWa : (w2.alloc (.cells #[.int .i64 ak, .bool ab, .int .i64 ai, .string as_, .slice aal anl acl, .slice aam anm acm] 25)) = wa at *
   refine CV.mono ?_
   rintro e w3 ⟨cg, rfl, lg, b3⟩
   obtain ⟨gk, gb, gi, gs, gal, gnl, gcl, gam, gnm, gcm, rfl⟩ := V.ten lg
   clear lg CV r0 r1 r2 r3 r4 r5
   have hz3 := b3.size
   have b3a : Below w3.heap.size w3 (w3.alloc (.cells #[.int .i64 gk, .bool gb, .int .i64 gi, .string gs, .slice gal gnl gcl, .slice gam gnm gcm] 25)) := one_belowG _ _
   have b3b := b3.trans (b3a.mono hz3)
   have hzb : (w3.alloc (.cells #[.int .i64 gk, .bool gb, .int .i64 gi, .string gs, .slice gal gnl gcl, .slice gam gnm gcm] 25)).heap.size = w3.heap.size + 1 := alloc_size _ _
   have B3 := B2.trans (b3b.mono B2.size)
   have kC3 := (b3b.block w.heap.size (by omega)).trans kC2
   have kX3 := (b3b.block (w.heap.size + 2) (by omega)).trans kX2
   have kA3 := (b3b.block w2.heap.size (by omega)).trans kA2
   have HA : Hid (∀ W, Below wa.heap.size wa W → wv.lies false W (New w1 w2) [.int .i64 ak, .bool ab, .int .i64 ai, .string as_, .slice aal anl acl, .slice aam anm acm]) := fun W hb => V.lies_keep (fun h => h) (fun y hy => hb.block y (by have := hy.2; omega)) (fun _ h => h) _ la2
   have GT := hmk (get_any wv (p ++ ps) (New w1 w2) [.int .i64 ak, .bool ab, .int .i64 ai, .string as_, .slice aal anl acl, .slice aam anm acm] (w3.alloc (.cells #[.int .i64 gk, .bool gb, .int .i64 gi, .string gs, .slice gal gnl gcl, .slice gam gnm gcm] 25)) (HL.out _ B3).2.2.2.2 (HA.out _ b3b) (fun y hy => by have := hy.2; omega) (by omega) hq3)
   rw [hg] at GT
   obtain ⟨a0, a1, a2, a3, a4, a5⟩ := sixC kA3
   clear kC2 kO2 kX2 kA2 la2 hWa
   generalize (getV (V.mk 5 ob oi os ol om) key).2 = TH at *
   go_wp2_with fail
   generalize (w3.alloc (.cells #[.int .i64 gk, .bool gb, .int .i64 gi, .string gs, .slice gal gnl gcl, .slice gam gnm gcm] 25)) = wb at *
   refine GT.out.mono ?_
   rintro e w4 ⟨cd, rfl, ld, b4⟩
   obtain ⟨dk, db, di, ds, dal, dnl, dcl, dam, dnm, dcm, rfl⟩ := V.ten ld
   clear GT a0 a1 a2 a3 a4 a5
   have hz4 := b4.size
   have b4a : Below w4.heap.size w4 (w4.alloc (.cells #[.int .i64 dk, .bool db, .int .i64 di, .string ds, .slice dal dnl dcl, .slice dam dnm dcm] 25)) := one_belowG _ _
   have b4b := b4.trans (b4a.mono hz4)
   have hzc : (w4.alloc (.cells #[.int .i64 dk, .bool db, .int .i64 di, .string ds, .slice dal dnl dcl, .slice dam dnm dcm] 25)).heap.size = w4.heap.size + 1 := alloc_size _ _
   have B4 := B3.trans (b4b.mono B3.size)
   have kC4 := (b4b.block w.heap.size (by omega)).trans kC3
   have kX4 := (b4b.block (w.heap.size + 2) (by omega)).trans kX3
   have kA4 := (b4b.block w2.heap.size (by omega)).trans kA3
   have kD4 := heap_alloc_new w4 (.cells #[.int .i64 dk, .bool db, .int .i64 di, .string ds, .slice dal dnl dcl, .slice dam dnm dcm] 25)
   have ld4 : x.lies false (w4.alloc (.cells #[.int .i64 dk, .bool db, .int .i64 di, .string ds, .slice dal dnl dcl, .slice dam dnm dcm] 25)) (New wb w4) [.int .i64 dk, .bool db, .int .i64 di, .string ds, .slice dal dnl dcl, .slice dam dnm dcm] := V.lies_keep (fun h => h) (fun y hy => b4a.block y hy.2) (fun _ h => h) _ ld
   have TT := hmk (take_any wv (p ++ ps) (New w1 w2) [.int .i64 ak, .bool ab, .int .i64 ai, .string as_, .slice aal anl acl, .slice aam anm acm] (w4.alloc (.cells #[.int .i64 dk, .bool db, .int .i64 di, .string ds, .slice dal dnl dcl, .slice dam dnm dcm] 25)) (HL.out _ B4).2.2.2.2 (HA.out _ (b3b.trans (b4b.mono b3b.size))) (fun y hy => by have := hy.2; omega) (by omega) hq3)
   rw [ht] at TT
   obtain ⟨a0, a1, a2, a3, a4, a5⟩ := sixC kA4
   clear kC3 kX3 kA3 ld
   go_wp2_with fail
   generalize (w4.alloc (.cells #[.int .i64 dk, .bool db, .int .i64 di, .string ds, .slice dal dnl dcl, .slice dam dnm dcm] 25)) = wc at *
   refine TT.out.mono ?_
   rintro e w5 ⟨ct, cu, rfl, lt, lu, b5⟩
   obtain ⟨tk, tb, ti, ts_, tal, tnl, tcl, tam, tnm, tcm, rfl⟩ := V.ten lt
   obtain ⟨uk, ub, ui, us, ual, unl, ucl, uam, unm, ucm, rfl⟩ := V.ten lu
   clear TT a0 a1 a2 a3 a4 a5
   have hz5 := b5.size
   have b5a := two_below w5 (.cells #[.int .i64 tk, .bool tb, .int .i64 ti, .string ts_, .slice tal tnl tcl, .slice tam tnm tcm] 25) (.cells #[.int .i64 uk, .bool ub, .int .i64 ui, .string us, .slice ual unl ucl, .slice uam unm ucm] 25)
   have hzd : ((w5.alloc (.cells #[.int .i64 tk, .bool tb, .int .i64 ti, .string ts_, .slice tal tnl tcl, .slice tam tnm tcm] 25)).alloc (.cells #[.int .i64 uk, .bool ub, .int .i64 ui, .string us, .slice ual unl ucl, .slice uam unm ucm] 25)).heap.size = w5.heap.size + 2 := by simp only [alloc_size]
   have b5b := b5.trans (b5a.mono hz5)
   have B5 := B4.trans (b5b.mono B4.size)
   have kC5 := (b5b.block w.heap.size (by omega)).trans kC4
   have kX5 := (b5b.block (w.heap.size + 2) (by omega)).trans kX4
   have kD5 := (b5b.block w4.heap.size (by omega)).trans kD4
   have kT5 := alloc2_keep1 w5 (.cells #[.int .i64 tk, .bool tb, .int .i64 ti, .string ts_, .slice tal tnl tcl, .slice tam tnm tcm] 25) (.cells #[.int .i64 uk, .bool ub, .int .i64 ui, .string us, .slice ual unl ucl, .slice uam unm ucm] 25)
   have kU5 := alloc2_new w5 (.cells #[.int .i64 tk, .bool tb, .int .i64 ti, .string ts_, .slice tal tnl tcl, .slice tam tnm tcm] 25) (.cells #[.int .i64 uk, .bool ub, .int .i64 ui, .string us, .slice ual unl ucl, .slice uam unm ucm] 25)
   have ld5 : x.lies false ((w5.alloc (.cells #[.int .i64 tk, .bool tb, .int .i64 ti, .string ts_, .slice tal tnl tcl, .slice tam tnm tcm] 25)).alloc (.cells #[.int .i64 uk, .bool ub, .int .i64 ui, .string us, .slice ual unl ucl, .slice uam unm ucm] 25)) (New wb w4) [.int .i64 dk, .bool db, .int .i64 di, .string ds, .slice dal dnl dcl, .slice dam dnm dcm] := V.lies_keep (fun h => h) (fun y hy => b5b.block y (by have := hy.2; omega)) (fun _ h => h) _ ld4
   have lu5 : x.lies false ((w5.alloc (.cells #[.int .i64 tk, .bool tb, .int .i64 ti, .string ts_, .slice tal tnl tcl, .slice tam tnm tcm] 25)).alloc (.cells #[.int .i64 uk, .bool ub, .int .i64 ui, .string us, .slice ual unl ucl, .slice uam unm ucm] 25)) (New wc w5) [.int .i64 uk, .bool ub, .int .i64 ui, .string us, .slice ual unl ucl, .slice uam unm ucm] := V.lies_keep (fun h => h) (fun y hy => b5a.block y hy.2) (fun _ h => h) _ lu
   have lt5 : yv.lies false ((w5.alloc (.cells #[.int .i64 tk, .bool tb, .int .i64 ti, .string ts_, .slice tal tnl tcl, .slice tam tnm tcm] 25)).alloc (.cells #[.int .i64 uk, .bool ub, .int .i64 ui, .string us, .slice ual unl ucl, .slice uam unm ucm] 25)) (New wc w5) [.int .i64 tk, .bool tb, .int .i64 ti, .string ts_, .slice tal tnl tcl, .slice tam tnm tcm] := V.lies_keep (fun h => h) (fun y hy => b5a.block y hy.2) (fun _ h => h) _ lt
   have S1 := same_any x false false x (New wb w4) S _ _ ((w5.alloc (.cells #[.int .i64 tk, .bool tb, .int .i64 ti, .string ts_, .slice tal tnl tcl, .slice tam tnm tcm] 25)).alloc (.cells #[.int .i64 uk, .bool ub, .int .i64 ui, .string us, .slice ual unl ucl, .slice uam unm ucm] 25)) ld5 (HL.out _ B5).2.2.1 (fun y hy => by have := hy.2; omega) (HL.out _ B5).2.2.2.1
   rw [V.eqB_refl] at S1
   have S1 := hmk S1
   obtain ⟨d0, d1, d2, d3, d4, d5⟩ := sixC kD5
   obtain ⟨x0, x1, x2, x3, x4, x5⟩ := sixC kX5
   clear kC4 kX4 kA4 kD4 ld4 lt lu
   go_wp2_with fail
   generalize ((w5.alloc (.cells #[.int .i64 tk, .bool tb, .int .i64 ti, .string ts_, .slice tal tnl tcl, .slice tam tnm tcm] 25)).alloc (.cells #[.int .i64 uk, .bool ub, .int .i64 ui, .string us, .slice ual unl ucl, .slice uam unm ucm] 25)) = wd at *
   refine S1.out.mono ?_
   rintro e w6 ⟨rfl, b6⟩
   have hz6 := b6.size
   have B6 := B5.trans (b6.mono B5.size)
   have S2 := same_any x false false x (New wc w5) S _ _ w6 (V.lies_keep (fun h => h) (fun y hy => b6.block y (by have := hy.2; omega)) (fun _ h => h) _ lu5) (HL.out _ B6).2.2.1 (fun y hy => by have := hy.2; omega) (HL.out _ B6).2.2.2.1
   rw [V.eqB_refl] at S2
   have S2 := hmk S2
   clear S1 d0 d1 d2 d3 d4 d5 x0 x1 x2 x3 x4 x5
   obtain ⟨x0, x1, x2, x3, x4, x5⟩ := sixC ((b6.block (w.heap.size + 2) (by omega)).trans kX5)
   obtain ⟨u0, u1, u2, u3, u4, u5⟩ := sixC ((b6.block (w5.heap.size + 1) (by omega)).trans kU5)
   go_wp2_with fail
   refine S2.out.mono ?_
   rintro e w7 ⟨rfl, b7⟩
   have b67 := b6.trans (b7.mono hz6)
   have hz7 := b67.size
   have B7 := B5.trans (b67.mono B5.size)
   cases TH with
   | true =>
    clear HG
    go_wp2_with fail
    go_ret
    exact ⟨rfl, B7⟩
   | false =>
    have eyv : yv = v := hback (by have e : keyIs key om[posF om key]? = false := HG.out.symm; rw [e]; simp)
    subst eyv
    have S3 := same_any yv false false yv (New wc w5) S _ _ w7 (V.lies_keep (fun h => h) (fun y hy => b67.block y (by have := hy.2; omega)) (fun _ h => h) _ lt5) (HL.out _ B7).1 (fun y hy => by have := hy.2; omega) (HL.out _ B7).2.2.2.1
    rw [V.eqB_refl] at S3
    have S3 := hmk S3
    obtain ⟨t0, t1, t2, t3, t4, t5⟩ := sixC ((b67.block w5.heap.size (by omega)).trans kT5)
    obtain ⟨v0, v1, v2, v3, v4, v5⟩ := sixC ((b67.block w.heap.size (by omega)).trans kC5)
    clear HG
    go_wp2_with fail
    refine S3.out.mono ?_
    rintro e w8 ⟨rfl, b8⟩
    go_wp2_with fail
    go_ret
    exact ⟨rfl, B7.trans (b8.mono B7.size)⟩
  ·have ha := hno h5
   have CA1 := CA.out w1 B1
   rw [ha] at CA1
   clear hno hmap CA
   go_wp2_with fail
   refine CA1.mono ?_
   rintro e w2 ⟨ca, rfl, la, b2⟩
   obtain ⟨ak, ab, ai, as_, aal, anl, acl, aam, anm, acm, rfl⟩ := V.ten la
   have hz2 := b2.size
   have b2a : Below w2.heap.size w2 (w2.alloc (.cells #[.int .i64 ak, .bool ab, .int .i64 ai, .string as_, .slice aal anl acl, .slice aam anm acm] 25)) := one_belowG _ _
   have b2b := b2.trans (b2a.mono hz2)
   have B2 := B1.trans (b2b.mono B1.size)
   have r0 := (sixC ((b2b.block (w.heap.size + 1) (by omega)).trans kO)).1
   go_wp2_with fail
   go_ret
   exact ⟨rfl, B2⟩
 ·have epr : prA (dat [key]) = none := by
   rw [prA, if_neg (by simpa [dat] using hk)]
  rw [epr] at CP
  have CP : Hid (Calls Tryz.prog 29 #[.slice (some ⟨(((w.alloc (.cells #[.int .i64 k, .bool b, .int .i64 i, .string s, .slice al nl cl, .slice am nm cm] 25)).alloc (.cells #[.int .i64 ok, .bool ob, .int .i64 oi, .string os, .slice oal ol.length ocl, .slice oam om.length ocm] 25)).alloc (.cells #[.int .i64 xk, .bool xb, .int .i64 xi, .string xs, .slice xal xnl xcl, .slice xam xnm xcm] 25)).heap.size, 0, none⟩) 1 1] ((((w.alloc (.cells #[.int .i64 k, .bool b, .int .i64 i, .string s, .slice al nl cl, .slice am nm cm] 25)).alloc (.cells #[.int .i64 ok, .bool ob, .int .i64 oi, .string os, .slice oal ol.length ocl, .slice oam om.length ocm] 25)).alloc (.cells #[.int .i64 xk, .bool xb, .int .i64 xi, .string xs, .slice xal xnl xcl, .slice xam xnm xcm] 25)).alloc (.cells #[.string key] 9)) (fun e w' => e = .returned (.tuple #[.string ⟨#[]⟩, .int .i64 40]) ∧ Below ((((w.alloc (.cells #[.int .i64 k, .bool b, .int .i64 i, .string s, .slice al nl cl, .slice am nm cm] 25)).alloc (.cells #[.int .i64 ok, .bool ob, .int .i64 oi, .string os, .slice oal ol.length ocl, .slice oam om.length ocm] 25)).alloc (.cells #[.int .i64 xk, .bool xb, .int .i64 xi, .string xs, .slice xal xnl xcl, .slice xam xnm xcm] 25)).alloc (.cells #[.string key] 9)).heap.size ((((w.alloc (.cells #[.int .i64 k, .bool b, .int .i64 i, .string s, .slice al nl cl, .slice am nm cm] 25)).alloc (.cells #[.int .i64 ok, .bool ob, .int .i64 oi, .string os, .slice oal ol.length ocl, .slice oam om.length ocm] 25)).alloc (.cells #[.int .i64 xk, .bool xb, .int .i64 xi, .string xs, .slice xal xnl xcl, .slice xam xnm xcm] 25)).alloc (.cells #[.string key] 9)) w')) := CP
  rw [hz0] at CP
  go_enter Tryz.func26, Tryz.ntmps26
  go_wp2_with fail
  refine CP.out.mono ?_
  rintro e w1 ⟨rfl, b1⟩
  go_wp2_with fail
  go_ret
  exact ⟨rfl, BA.trans (b1.mono BA.size)⟩
end Go.Proofs.YtgnofbigggmilaaGreatDoor
