import Derived.Test.YtnakligbogkmbaaGreatDoorG31
set_option linter.unusedSimpArgs false
set_option linter.unusedVariables false
namespace Go.Proofs.YtnakligbogkmbaaGreatDoor
open Go.RowKit Go.Lib
set_option maxHeartbeats 8000000 in
set_option maxRecDepth 100000 in
theorem radM_full_t (b : Bool) (i : Int) (s : ByteArray) (l : List V) (m : List Mem) (t : ByteArray) (x : V) (S : Nat → Prop) (al : Option Addr) (cl bl ol : Nat) (am : Option Addr) (cm bm om : Nat) (ds : List Value) (w : World) (hal : Headed al l.length cl bl ol) (ham : Headed am m.length cm bm om) (hl : liesL false w S l bl ol) (hm : liesM false w S m bm om) (hx : x.lies false w S ds) (hS : ∀ b, S b → b < w.heap.size) (hll : l.length ≤ 1114112) (hml : m.length ≤ 1114112) (htm : t.size ≤ maxLen) (keyF : keyIs t m[posF m t]? = true) (hsr : Srt m) (hcase : 0 < m.length) :
 Calls Tryz.prog 42 #[.agg #[.int .i64 5, .bool b, .int .i64 i, .string s, .slice al l.length cl, .slice am m.length cm], .string t, .agg ds.toArray] w (AdPost (.mk 5 false 0 ⟨#[]⟩ [] (m.take (posF m t) ++ ([(t, x)] ++ m.drop (posF m t + 1))), 0) S w) := by
 obtain rfl : am = some ⟨bm, om, none⟩ := ham.at_.resolve_left (by omega)
 have HX : Hid (∀ W, Below w.heap.size w W → x.lies false W S ds) := fun W hb => lBw hx hS hb
 have hone := hmk (one_of_lies hx).2
 obtain ⟨xk, xb, xi, xs, xal, xnl, xcl, xam, xnm, xcm, rfl⟩ := V.ten hx
 obtain ⟨qs, hq1, hq2, hq3, hq4⟩ := segM hm
 have hql : qs.length = m.length := by rw [← hq1, List.length_map]
 have hq9 := trivial
 have hcl := ham.le
 have b2 : Below w.heap.size w ((w.alloc (oV 5 b i s al l.length cl (some ⟨bm, om, none⟩) m.length cm)).alloc (oV xk xb xi xs xal xnl xcl xam xnm xcm)) := tBw w _ _
 have hz2 : ((w.alloc (oV 5 b i s al l.length cl (some ⟨bm, om, none⟩) m.length cm)).alloc (oV xk xb xi xs xal xnl xcl xam xnm xcm)).heap.size = w.heap.size + 2 := by rw [aSz, aSz]
 have hz2 := hz2; dsimp only [oV, oN] at hz2
 have b3 : Below ((w.alloc (oV 5 b i s al l.length cl (some ⟨bm, om, none⟩) m.length cm)).alloc (oV xk xb xi xs xal xnl xcl xam xnm xcm)).heap.size ((w.alloc (oV 5 b i s al l.length cl (some ⟨bm, om, none⟩) m.length cm)).alloc (oV xk xb xi xs xal xnl xcl xam xnm xcm)) ((((w.alloc (oV 5 b i s al l.length cl (some ⟨bm, om, none⟩) m.length cm)).alloc (oV xk xb xi xs xal xnl xcl xam xnm xcm)).alloc oN).alloc (oV 5 false 0 ⟨#[]⟩ none 0 0 none 0 0)) := tBw _ _ _
 have hzz3 : (((w.alloc (oV 5 b i s al l.length cl (some ⟨bm, om, none⟩) m.length cm)).alloc (oV xk xb xi xs xal xnl xcl xam xnm xcm)).alloc oN).heap.size = w.heap.size + 3 := by rw [aSz, hz2]
 have hzz3 := hzz3; dsimp only [oV, oN] at hzz3
 have hz4 : ((((w.alloc (oV 5 b i s al l.length cl (some ⟨bm, om, none⟩) m.length cm)).alloc (oV xk xb xi xs xal xnl xcl xam xnm xcm)).alloc oN).alloc (oV 5 false 0 ⟨#[]⟩ none 0 0 none 0 0)).heap.size = w.heap.size + 4 := by rw [aSz, hzz3]
 have hz4 := hz4; dsimp only [oV, oN] at hz4
 have B3 : Below w.heap.size w ((((w.alloc (oV 5 b i s al l.length cl (some ⟨bm, om, none⟩) m.length cm)).alloc (oV xk xb xi xs xal xnl xcl xam xnm xcm)).alloc oN).alloc (oV 5 false 0 ⟨#[]⟩ none 0 0 none 0 0)) := b2.trans (b3.mono (by omega))
 have g0 := a2k w (oV 5 b i s al l.length cl (some ⟨bm, om, none⟩) m.length cm) (oV xk xb xi xs xal xnl xcl xam xnm xcm)
 have h0 := (b3.block w.heap.size (by omega)).trans g0
 have h1 := (b3.block (w.heap.size + 1) (by omega)).trans (a2n w (oV 5 b i s al l.length cl (some ⟨bm, om, none⟩) m.length cm) (oV xk xb xi xs xal xnl xcl xam xnm xcm))
 have h2 := a2k ((w.alloc (oV 5 b i s al l.length cl (some ⟨bm, om, none⟩) m.length cm)).alloc (oV xk xb xi xs xal xnl xcl xam xnm xcm)) oN (oV 5 false 0 ⟨#[]⟩ none 0 0 none 0 0)
 rw [hz2] at h2
 have h3 := a2n ((w.alloc (oV 5 b i s al l.length cl (some ⟨bm, om, none⟩) m.length cm)).alloc (oV xk xb xi xs xal xnl xcl xam xnm xcm)) oN (oV 5 false 0 ⟨#[]⟩ none 0 0 none 0 0)
 rw [hz2] at h3
 have k0 : (((w.alloc (oV 5 b i s al l.length cl (some ⟨bm, om, none⟩) m.length cm)).alloc (oV xk xb xi xs xal xnl xcl xam xnm xcm)).alloc oN).cell? ⟨w.heap.size, 0, none⟩ = some (.int .i64 5) := by rw [cBk ((Below.heap_alloc ((w.alloc (oV 5 b i s al l.length cl (some ⟨bm, om, none⟩) m.length cm)).alloc (oV xk xb xi xs xal xnl xcl xam xnm xcm)) oN w.heap.size (by omega)).trans g0)]; rfl
 have r0 : ((((w.alloc (oV 5 b i s al l.length cl (some ⟨bm, om, none⟩) m.length cm)).alloc (oV xk xb xi xs xal xnl xcl xam xnm xcm)).alloc oN).alloc (oV 5 false 0 ⟨#[]⟩ none 0 0 none 0 0)).cell? ⟨w.heap.size, 0, none⟩ = some (.int .i64 5) := by rw [cBk h0]; rfl
 have r5 : ((((w.alloc (oV 5 b i s al l.length cl (some ⟨bm, om, none⟩) m.length cm)).alloc (oV xk xb xi xs xal xnl xcl xam xnm xcm)).alloc oN).alloc (oV 5 false 0 ⟨#[]⟩ none 0 0 none 0 0)).cell? ⟨w.heap.size, 5, none⟩ = some (.slice (some ⟨bm, om, none⟩) m.length cm) := by rw [cBk h0]; rfl
 have CM := hmk (member_any m t S _ _ bm om ((((w.alloc (oV 5 b i s al l.length cl (some ⟨bm, om, none⟩) m.length cm)).alloc (oV xk xb xi xs xal xnl xcl xam xnm xcm)).alloc oN).alloc (oV 5 false 0 ⟨#[]⟩ none 0 0 none 0 0)) ham (lMk (fun h => h) (fun x hx => B3.block x (hS x hx)) (fun _ h => h) _ hm) (fun x hx => Nat.lt_of_lt_of_le (hS x hx) B3.size) hsr (by omega))
 rw [keyF] at CM
 have hpl := pos_le m t
 have hpp : posF m t < m.length := Nat.lt_of_not_le (fun h => by rw [List.getElem?_eq_none (by omega)] at keyF; cases keyF)
 clear keyF
 generalize posF m t = p at *
 have y1 : (p : Int) ≤ cm := by omega
 have y2 : (p : Int) ≤ m.length := by omega
 have y3 : (m.length : Int) ≤ cm := by omega
 have y4 : (0 : Int) ≤ (p : Int) := by omega
 have y5 : (p : Int) + 1 ≤ cm := by omega
 have y6 : (p : Int) + 1 ≤ m.length := by omega
 have y7 : (0 : Int) ≤ (p : Int) + 1 := by omega
 have y8 : ((p : Int) + 1).toNat = p + 1 := by omega
 obtain ⟨sx, hsx⟩ : ∃ sx, (if cm = (p + 1) then some ⟨bm, om, none⟩ else some ⟨bm, om + (p + 1) * 7, none⟩ : Option Addr) = sx := ⟨_, rfl⟩
 have HSA : Hid (Headed (some ⟨bm, om, none⟩) p cm bm om) := ⟨by omega, ham.max, .inr rfl, fun e => by cases e⟩
 have HSX : Hid (Headed sx (m.length - (p + 1)) (cm - (p + 1)) bm (om + (p + 1) * 7)) := by show Headed _ _ _ _ _; rw [← hsx]; exact headed_drop ham (by omega) (by omega)
 have HN1 : Hid (((qs.map (fun q => q.2)).take p).length = p) := by show _ = _; rw [List.length_take, List.length_map]; omega
 have HN2 : Hid (((qs.map (fun q => q.2)).drop (p + 1)).length = (m.length - (p + 1))) := by show _ = _; rw [List.length_drop, List.length_map]; omega
 have HRW1 : Hid (∀ W, Below w.heap.size w W → RowsOf W bm om 7 ((qs.map (fun q => q.2)).take p)) := fun W hb => (hq2.take p).keepB (fun h => hb.block _ (hS _ (hq4 (by rw [List.length_take, List.length_map] at h; omega))))
 have HRW2 : Hid (∀ W, Below w.heap.size w W → RowsOf W bm (om + (p + 1) * 7) 7 ((qs.map (fun q => q.2)).drop (p + 1))) := fun W hb => (hq2.drop (p + 1)).keepB (fun h => hb.block _ (hS _ (hq4 (by rw [List.length_drop, List.length_map] at h; omega))))
 have HQ3 := hmk hq3
 have HQ1 := hmk hq1
 have honet : ∀ u ∈ ([.string t, .int .i64 xk, .bool xb, .int .i64 xi, .string xs, .slice xal xnl xcl, .slice xam xnm xcm] : List Value), u.oneCell' = true := fun u hu => by
  rcases List.mem_cons.1 hu with rfl | hu
  ·rfl
  ·exact hone.out u hu
 clear hl hm hx b2 b3 hz2 hzz3 hq1 hq2 hq3 hq4 g0
 go_enter Tryz.func42, Tryz.ntmps42
 go_wp2_with fail
 clear k0 r0 r5
 generalize ((((w.alloc (oV 5 b i s al l.length cl (some ⟨bm, om, none⟩) m.length cm)).alloc (oV xk xb xi xs xal xnl xcl xam xnm xcm)).alloc oN).alloc (oV 5 false 0 ⟨#[]⟩ none 0 0 none 0 0)) = w3 at *
 refine CM.out.mono ?_
 rintro e w1 ⟨rfl, b1⟩
 have hz1 := b1.size
 have A0 : AccM w w3 w1 5 (.slice none 0 0) [] := ⟨(b1.block (w.heap.size + 3) (by omega)).trans h3, b1.mono (by omega), World.ownsRow_nil _ _ _ _, by omega⟩
 clear CM
 have l9 := trivial
 go_wp2_with fail
 have BB : Below w.heap.size w w1 := B3.trans (A0.bel.mono (by omega))
 have tb := ((A0.bel).block w.heap.size (by omega)).trans h0
 have cM : w1.cell? ⟨w.heap.size + 3, 5, none⟩ = some (.slice none 0 0) := by rw [cBk A0.box]; rfl
 have hbg := A0.big
 have ownA := A0.own.move (w' := w1.drew) (fun _ _ _ => rfl)
 refine wp_region_held_drew (S := fun W => W.heap[w.heap.size]? = some (oV 5 b i s al l.length cl (some ⟨bm, om, none⟩) m.length cm)) (by kernel_rfl) tb (fun hHeld => ?_)
 (refine tjA 0 ?_; (try simp only [Act.put, zA, zB, zC]))
 (refine tjA 2 ?_; (try simp only [Act.put, zA, zB, zC]))
 (refine tkA 3 ?_ ?_ ?_; rotate_left 1; (intro W0 hSw; (have o9 : W0.cell? ⟨w.heap.size, 5, none⟩ = some (.slice (some ⟨bm, om, none⟩) m.length cm) := by rw [cBk hSw]; rfl); go_simp; (try with_reducible rfl)); (try simp only [Act.put, zA, zB, zC]))
 (refine tjA 4 ?_; (try simp only [Act.put, zA, zB, zC]))
 (refine tjA 5 ?_; (try simp only [Act.put, zA, zB, zC]))
 refine ryA [1] ?_
 refine rA1 fun K hK => ?_
 go_simp
 refine hK.out _ _ tb (fun hHeld => ?_)
 clear hK K
 (try simp only [Act.put, zA, zB, zC])
 (try rw [hsx])
 refine ryA [6] ?_
 refine rA1 fun K hK => ?_
 refine step_catM rfl (.tmp 27) (.tmp 31) rfl (w.heap.size + 4) (.slice none 0 0) [] rfl ownA (some ⟨bm, om, none⟩) p cm bm (om) ((qs.map (fun q => q.2)).take p) rfl HN1.out HSA.out ((HRW1.out w1 BB).keepB (w' := w1.drew) (fun _ => rfl)) (by (try simp only [List.length_append, List.length_take, List.length_map, List.length_cons, List.length_nil]); omega) hbg ?_
 intro v' w5 o5 g5
 obtain ⟨aaa, aal, aan, rfl⟩ : ∃ a n c, v' = .slice a n c := by obtain ⟨a, c, h⟩ := o5.slice; exact ⟨_, _, _, h⟩
 obtain ⟨aaS, b5, k5⟩ := A0.next (Below.refl _ _).drew g5 o5
 have tb5 := (k5 w.heap.size (by omega)).trans h0
 have c5 : w5.cell? ⟨w.heap.size + 3, 5, none⟩ = some (.slice none 0 0) := by rw [cBk b5]; rfl
 have f5 : w5.frozen? ⟨w.heap.size + 3, 5, none⟩ = false := fBk b5 5
 refine hK.out _ _ tb5 (fun hHeld => ?_)
 clear hK K
 (try simp only [Act.put, zA, zB, zC])
 (refine tjA 7 ?_; (try simp only [Act.put, zA, zB, zC]))
 refine ryA [8] ?_
 refine rA1 fun K hK => ?_
 go_simp
 generalize (w5.setCell ⟨w.heap.size + 3, 5, none⟩ (.slice aaa aal aan)) = waa at *
 refine hK.out _ _ ((aaS.bel.block w.heap.size (by omega)).trans h0) (fun hHeld => ?_)
 clear hK K
 (try simp only [Act.put, zA, zB, zC])
 refine wpAnyH_done (by kernel_rfl) ?_ _
 (try dsimp only [Act.put, List.getElem_toArray, List.getElem_cons_succ, List.getElem_cons_zero, List.setIfInBounds_toArray, List.set_cons_zero, List.set_cons_succ])
 clear hHeld c5 f5 tb tb5 b5 k5 cM ownA hbg o5 g5
 have BB : Below w.heap.size w waa := B3.trans (aaS.bel.mono (by omega))
 have xbk := (aaS.bel.block (w.heap.size + 1) (by omega)).trans h1
 have cM : waa.cell? ⟨w.heap.size + 3, 5, none⟩ = some (.slice aaa aal aan) := by rw [cBk aaS.box]; rfl
 obtain ⟨x0, x1, x2, x3, x4, x5⟩ := sixC xbk
 have hbg := aaS.big
 rw [List.nil_append] at aaS
 have HL1 := HN1.out
 go_wp2_with (at_builtin; go_loud (refine wpl_appM _ rfl (.tmp 35) (.tmp 39) rfl (w.heap.size + 4) (.slice aaa aal aan) ((qs.map (fun q => q.2)).take p) rfl (aaS.own.alloc _) waa.heap.size [.string t, .int .i64 xk, .bool xb, .int .i64 xi, .string xs, .slice xal xnl xcl, .slice xam xnm xcm] rfl honet rfl (heap_alloc_new waa _) (by omega) (by rw [aSz]; omega) ?_))
 intro v' w5 o5 g5
 obtain ⟨bba, bbl, bbn, rfl⟩ : ∃ a n c, v' = .slice a n c := by obtain ⟨a, c, h⟩ := o5.slice; exact ⟨_, _, _, h⟩
 obtain ⟨bbS, b5, k5⟩ := aaS.next ((Below.refl _ _).alloc (Nat.le_refl _) _) g5 o5
 have c5 : w5.cell? ⟨w.heap.size + 3, 5, none⟩ = some (.slice aaa aal aan) := by rw [cBk b5]; rfl
 have f5 : w5.frozen? ⟨w.heap.size + 3, 5, none⟩ = false := fBk b5 5
 clear x0 x1 x2 x3 x4 x5 cM xbk o5 g5 hbg BB
 go_wp2_with fail
 generalize (w5.setCell ⟨w.heap.size + 3, 5, none⟩ (.slice bba bbl bbn)) = wbb at *
 clear c5 f5 b5 k5
 have BB : Below w.heap.size w wbb := B3.trans (bbS.bel.mono (by omega))
 have tb := ((bbS.bel).block w.heap.size (by omega)).trans h0
 have cM : wbb.cell? ⟨w.heap.size + 3, 5, none⟩ = some (.slice bba bbl bbn) := by rw [cBk bbS.box]; rfl
 have hbg := bbS.big
 have ownA := bbS.own.move (w' := wbb.drew) (fun _ _ _ => rfl)
 refine wp_region_held_drew (S := fun W => W.heap[w.heap.size]? = some (oV 5 b i s al l.length cl (some ⟨bm, om, none⟩) m.length cm)) (by kernel_rfl) tb (fun hHeld => ?_)
 (refine tjA 0 ?_; (try simp only [Act.put, zA, zB, zC]))
 (refine tjA 2 ?_; (try simp only [Act.put, zA, zB, zC]))
 (refine tkA 3 ?_ ?_ ?_; rotate_left 1; (intro W0 hSw; (have o9 : W0.cell? ⟨w.heap.size, 5, none⟩ = some (.slice (some ⟨bm, om, none⟩) m.length cm) := by rw [cBk hSw]; rfl); go_simp; (try with_reducible rfl)); (try simp only [Act.put, zA, zB, zC]))
 (refine tjA 4 ?_; (try simp only [Act.put, zA, zB, zC]))
 (refine tjA 5 ?_; (try simp only [Act.put, zA, zB, zC]))
 refine ryA [1] ?_
 refine rA1 fun K hK => ?_
 go_simp
 refine hK.out _ _ tb (fun hHeld => ?_)
 clear hK K
 (try simp only [Act.put, zA, zB, zC])
 (try rw [hsx])
 refine ryA [6] ?_
 refine rA1 fun K hK => ?_
 refine step_catM rfl (.tmp 46) (.tmp 50) rfl (w.heap.size + 4) (.slice bba bbl bbn) (((qs.map (fun q => q.2)).take p) ++ [[.string t, .int .i64 xk, .bool xb, .int .i64 xi, .string xs, .slice xal xnl xcl, .slice xam xnm xcm]]) rfl ownA sx (m.length - (p + 1)) (cm - (p + 1)) bm (om + (p + 1) * 7) ((qs.map (fun q => q.2)).drop (p + 1)) rfl HN2.out HSX.out ((HRW2.out wbb BB).keepB (w' := wbb.drew) (fun _ => rfl)) (by (try simp only [List.length_append, List.length_take, List.length_map, List.length_cons, List.length_nil]); omega) hbg ?_
 intro v' w5 o5 g5
 obtain ⟨cca, ccl, ccn, rfl⟩ : ∃ a n c, v' = .slice a n c := by obtain ⟨a, c, h⟩ := o5.slice; exact ⟨_, _, _, h⟩
 obtain ⟨ccS, b5, k5⟩ := bbS.next (Below.refl _ _).drew g5 o5
 have tb5 := (k5 w.heap.size (by omega)).trans h0
 have c5 : w5.cell? ⟨w.heap.size + 3, 5, none⟩ = some (.slice bba bbl bbn) := by rw [cBk b5]; rfl
 have f5 : w5.frozen? ⟨w.heap.size + 3, 5, none⟩ = false := fBk b5 5
 refine hK.out _ _ tb5 (fun hHeld => ?_)
 clear hK K
 (try simp only [Act.put, zA, zB, zC])
 (refine tjA 7 ?_; (try simp only [Act.put, zA, zB, zC]))
 refine ryA [8] ?_
 refine rA1 fun K hK => ?_
 go_simp
 generalize (w5.setCell ⟨w.heap.size + 3, 5, none⟩ (.slice cca ccl ccn)) = wcc at *
 refine hK.out _ _ ((ccS.bel.block w.heap.size (by omega)).trans h0) (fun hHeld => ?_)
 clear hK K
 (try simp only [Act.put, zA, zB, zC])
 refine wpAnyH_done (by kernel_rfl) ?_ _
 (try dsimp only [Act.put, List.getElem_toArray, List.getElem_cons_succ, List.getElem_cons_zero, List.setIfInBounds_toArray, List.set_cons_zero, List.set_cons_succ])
 clear hHeld c5 f5 tb tb5 b5 k5 cM ownA hbg o5 g5
 have BB : Below w.heap.size w wcc := B3.trans (ccS.bel.mono (by omega))
 have hbg := ccS.big
 have hcat : ((qs.map (fun q => q.2)).take p) ++ [[.string t, .int .i64 xk, .bool xb, .int .i64 xi, .string xs, .slice xal xnl xcl, .slice xam xnm xcm]] ++ ((qs.map (fun q => q.2)).drop (p + 1)) = (qs.take p ++ ([(((t, x), [.string t, .int .i64 xk, .bool xb, .int .i64 xi, .string xs, .slice xal xnl xcl, .slice xam xnm xcm]) : Mem × List Value)] ++ qs.drop (p + 1))).map (fun q => q.2) := by simp [List.map_take, List.map_drop]
 have own := ccS.own
 rw [hcat] at own
 obtain ⟨ya, yn, yb, yo, f1, f2, f3⟩ := ownM_ (S := S) own (fun z hz => by
  have hkp : ∀ y, S y → wcc.heap[y]? = w.heap[y]? := fun y hy => BB.block y (hS y hy)
  rcases List.mem_append.1 hz with hz | hz
  ·exact (HQ3.out z (List.mem_of_mem_take hz)).keep hkp (fun _ h => h)
  ·rcases List.mem_append.1 hz with hz | hz
   ·obtain rfl := List.mem_singleton.1 hz
    exact ⟨_, rfl, htm, HX.out _ BB⟩
   ·exact (HQ3.out z (List.mem_of_mem_drop hz)).keep hkp (fun _ h => h))
 have hfst : (qs.take p ++ ([(((t, x), [.string t, .int .i64 xk, .bool xb, .int .i64 xi, .string xs, .slice xal xnl xcl, .slice xam xnm xcm]) : Mem × List Value)] ++ qs.drop (p + 1))).map (fun q => q.1) = (m.take p ++ ([(t, x)] ++ m.drop (p + 1))) := by rw [← HQ1.out]; simp [List.map_take, List.map_drop]
 rw [hfst] at f1 f2 f3
 have HN : Hid ((V.mk 5 false 0 ⟨#[]⟩ [] (m.take p ++ ([(t, x)] ++ m.drop (p + 1)))).lies false wcc (fun y => S y ∨ (w.heap.size + 3 ≤ y ∧ y < wcc.heap.size)) [.int .i64 5, .bool false, .int .i64 0, .string ⟨#[]⟩, .slice none 0 0, .slice cca ccl ccn]) := by
  show V.lies _ _ _ _ _
  rw [f1, V.lies]
  exact ⟨none, 0, 0, 0, ya, yn, yb, yo, rfl, ⟨by decide, by decide⟩, ⟨by decide, by decide⟩, by decide, headed_none, f2, by simp [liesL], lMk (fun h => h) (fun _ _ => rfl) (fun z hz => hz.elim .inl (fun h => .inr ⟨by omega, h.2⟩)) _ f3, fun h => by cases h⟩
 have HE := hmk (wi_fin hS BB (by omega) HN.out)
 have tz := (ccS.bel.block (w.heap.size + 2) (by omega)).trans h2
 obtain ⟨z0, z1, z2, z3, z4, z5⟩ := sixC tz
 have fz := fBk tz
 obtain ⟨v0, v1, v2, v3, v4, v5⟩ := sixC ccS.box
 clear HN own f1 hcat hfst
 go_wp2_with fail
 (try simp only [Exit.inBlock, Exit.then])
 refine bodyPost_ret (v := .tuple #[.agg #[.int .i64 5, .bool false, .int .i64 0, .string ⟨#[]⟩, .slice none 0 0, .slice cca ccl ccn], .int .i64 0]) ?_ rfl ?_
 rotate_left
 ·exact ⟨[.int .i64 5, .bool false, .int .i64 0, .string ⟨#[]⟩, .slice none 0 0, .slice cca ccl ccn], rfl, HE.out.1, HE.out.2⟩
 ·rw [results_cell_tmp rfl]
  go_simp
set_option maxHeartbeats 8000000 in
set_option maxRecDepth 100000 in
theorem radM_full_f (b : Bool) (i : Int) (s : ByteArray) (l : List V) (m : List Mem) (t : ByteArray) (x : V) (S : Nat → Prop) (al : Option Addr) (cl bl ol : Nat) (am : Option Addr) (cm bm om : Nat) (ds : List Value) (w : World) (hal : Headed al l.length cl bl ol) (ham : Headed am m.length cm bm om) (hl : liesL false w S l bl ol) (hm : liesM false w S m bm om) (hx : x.lies false w S ds) (hS : ∀ b, S b → b < w.heap.size) (hll : l.length ≤ 1114112) (hml : m.length ≤ 1114112) (htm : t.size ≤ maxLen) (keyF : keyIs t m[posF m t]? = false) (hsr : Srt m) (hcase : 0 < m.length) :
 Calls Tryz.prog 42 #[.agg #[.int .i64 5, .bool b, .int .i64 i, .string s, .slice al l.length cl, .slice am m.length cm], .string t, .agg ds.toArray] w (AdPost (.mk 5 false 0 ⟨#[]⟩ [] (m.take (posF m t) ++ ([(t, x)] ++ m.drop (posF m t))), 0) S w) := by
 obtain rfl : am = some ⟨bm, om, none⟩ := ham.at_.resolve_left (by omega)
 have HX : Hid (∀ W, Below w.heap.size w W → x.lies false W S ds) := fun W hb => lBw hx hS hb
 have hone := hmk (one_of_lies hx).2
 obtain ⟨xk, xb, xi, xs, xal, xnl, xcl, xam, xnm, xcm, rfl⟩ := V.ten hx
 obtain ⟨qs, hq1, hq2, hq3, hq4⟩ := segM hm
 have hql : qs.length = m.length := by rw [← hq1, List.length_map]
 have hq9 := trivial
 have hcl := ham.le
 have b2 : Below w.heap.size w ((w.alloc (oV 5 b i s al l.length cl (some ⟨bm, om, none⟩) m.length cm)).alloc (oV xk xb xi xs xal xnl xcl xam xnm xcm)) := tBw w _ _
 have hz2 : ((w.alloc (oV 5 b i s al l.length cl (some ⟨bm, om, none⟩) m.length cm)).alloc (oV xk xb xi xs xal xnl xcl xam xnm xcm)).heap.size = w.heap.size + 2 := by rw [aSz, aSz]
 have hz2 := hz2; dsimp only [oV, oN] at hz2
 have b3 : Below ((w.alloc (oV 5 b i s al l.length cl (some ⟨bm, om, none⟩) m.length cm)).alloc (oV xk xb xi xs xal xnl xcl xam xnm xcm)).heap.size ((w.alloc (oV 5 b i s al l.length cl (some ⟨bm, om, none⟩) m.length cm)).alloc (oV xk xb xi xs xal xnl xcl xam xnm xcm)) ((((w.alloc (oV 5 b i s al l.length cl (some ⟨bm, om, none⟩) m.length cm)).alloc (oV xk xb xi xs xal xnl xcl xam xnm xcm)).alloc oN).alloc (oV 5 false 0 ⟨#[]⟩ none 0 0 none 0 0)) := tBw _ _ _
 have hzz3 : (((w.alloc (oV 5 b i s al l.length cl (some ⟨bm, om, none⟩) m.length cm)).alloc (oV xk xb xi xs xal xnl xcl xam xnm xcm)).alloc oN).heap.size = w.heap.size + 3 := by rw [aSz, hz2]
 have hzz3 := hzz3; dsimp only [oV, oN] at hzz3
 have hz4 : ((((w.alloc (oV 5 b i s al l.length cl (some ⟨bm, om, none⟩) m.length cm)).alloc (oV xk xb xi xs xal xnl xcl xam xnm xcm)).alloc oN).alloc (oV 5 false 0 ⟨#[]⟩ none 0 0 none 0 0)).heap.size = w.heap.size + 4 := by rw [aSz, hzz3]
 have hz4 := hz4; dsimp only [oV, oN] at hz4
 have B3 : Below w.heap.size w ((((w.alloc (oV 5 b i s al l.length cl (some ⟨bm, om, none⟩) m.length cm)).alloc (oV xk xb xi xs xal xnl xcl xam xnm xcm)).alloc oN).alloc (oV 5 false 0 ⟨#[]⟩ none 0 0 none 0 0)) := b2.trans (b3.mono (by omega))
 have g0 := a2k w (oV 5 b i s al l.length cl (some ⟨bm, om, none⟩) m.length cm) (oV xk xb xi xs xal xnl xcl xam xnm xcm)
 have h0 := (b3.block w.heap.size (by omega)).trans g0
 have h1 := (b3.block (w.heap.size + 1) (by omega)).trans (a2n w (oV 5 b i s al l.length cl (some ⟨bm, om, none⟩) m.length cm) (oV xk xb xi xs xal xnl xcl xam xnm xcm))
 have h2 := a2k ((w.alloc (oV 5 b i s al l.length cl (some ⟨bm, om, none⟩) m.length cm)).alloc (oV xk xb xi xs xal xnl xcl xam xnm xcm)) oN (oV 5 false 0 ⟨#[]⟩ none 0 0 none 0 0)
 rw [hz2] at h2
 have h3 := a2n ((w.alloc (oV 5 b i s al l.length cl (some ⟨bm, om, none⟩) m.length cm)).alloc (oV xk xb xi xs xal xnl xcl xam xnm xcm)) oN (oV 5 false 0 ⟨#[]⟩ none 0 0 none 0 0)
 rw [hz2] at h3
 have k0 : (((w.alloc (oV 5 b i s al l.length cl (some ⟨bm, om, none⟩) m.length cm)).alloc (oV xk xb xi xs xal xnl xcl xam xnm xcm)).alloc oN).cell? ⟨w.heap.size, 0, none⟩ = some (.int .i64 5) := by rw [cBk ((Below.heap_alloc ((w.alloc (oV 5 b i s al l.length cl (some ⟨bm, om, none⟩) m.length cm)).alloc (oV xk xb xi xs xal xnl xcl xam xnm xcm)) oN w.heap.size (by omega)).trans g0)]; rfl
 have r0 : ((((w.alloc (oV 5 b i s al l.length cl (some ⟨bm, om, none⟩) m.length cm)).alloc (oV xk xb xi xs xal xnl xcl xam xnm xcm)).alloc oN).alloc (oV 5 false 0 ⟨#[]⟩ none 0 0 none 0 0)).cell? ⟨w.heap.size, 0, none⟩ = some (.int .i64 5) := by rw [cBk h0]; rfl
 have r5 : ((((w.alloc (oV 5 b i s al l.length cl (some ⟨bm, om, none⟩) m.length cm)).alloc (oV xk xb xi xs xal xnl xcl xam xnm xcm)).alloc oN).alloc (oV 5 false 0 ⟨#[]⟩ none 0 0 none 0 0)).cell? ⟨w.heap.size, 5, none⟩ = some (.slice (some ⟨bm, om, none⟩) m.length cm) := by rw [cBk h0]; rfl
 have CM := hmk (member_any m t S _ _ bm om ((((w.alloc (oV 5 b i s al l.length cl (some ⟨bm, om, none⟩) m.length cm)).alloc (oV xk xb xi xs xal xnl xcl xam xnm xcm)).alloc oN).alloc (oV 5 false 0 ⟨#[]⟩ none 0 0 none 0 0)) ham (lMk (fun h => h) (fun x hx => B3.block x (hS x hx)) (fun _ h => h) _ hm) (fun x hx => Nat.lt_of_lt_of_le (hS x hx) B3.size) hsr (by omega))
 rw [keyF] at CM
 have hpl := pos_le m t
 clear keyF
 generalize posF m t = p at *
 have y1 : (p : Int) ≤ cm := by omega
 have y2 : (p : Int) ≤ m.length := by omega
 have y3 : (m.length : Int) ≤ cm := by omega
 have y4 : (0 : Int) ≤ (p : Int) := by omega
 obtain ⟨sx, hsx⟩ : ∃ sx, (if cm = p then some ⟨bm, om, none⟩ else some ⟨bm, om + p * 7, none⟩ : Option Addr) = sx := ⟨_, rfl⟩
 have HSA : Hid (Headed (some ⟨bm, om, none⟩) p cm bm om) := ⟨by omega, ham.max, .inr rfl, fun e => by cases e⟩
 have HSX : Hid (Headed sx (m.length - p) (cm - p) bm (om + p * 7)) := by show Headed _ _ _ _ _; rw [← hsx]; exact headed_drop ham (by omega) (by omega)
 have HN1 : Hid (((qs.map (fun q => q.2)).take p).length = p) := by show _ = _; rw [List.length_take, List.length_map]; omega
 have HN2 : Hid (((qs.map (fun q => q.2)).drop p).length = (m.length - p)) := by show _ = _; rw [List.length_drop, List.length_map]; omega
 have HRW1 : Hid (∀ W, Below w.heap.size w W → RowsOf W bm om 7 ((qs.map (fun q => q.2)).take p)) := fun W hb => (hq2.take p).keepB (fun h => hb.block _ (hS _ (hq4 (by rw [List.length_take, List.length_map] at h; omega))))
 have HRW2 : Hid (∀ W, Below w.heap.size w W → RowsOf W bm (om + p * 7) 7 ((qs.map (fun q => q.2)).drop p)) := fun W hb => (hq2.drop p).keepB (fun h => hb.block _ (hS _ (hq4 (by rw [List.length_drop, List.length_map] at h; omega))))
 have HQ3 := hmk hq3
 have HQ1 := hmk hq1
 have honet : ∀ u ∈ ([.string t, .int .i64 xk, .bool xb, .int .i64 xi, .string xs, .slice xal xnl xcl, .slice xam xnm xcm] : List Value), u.oneCell' = true := fun u hu => by
  rcases List.mem_cons.1 hu with rfl | hu
  ·rfl
  ·exact hone.out u hu
 clear hl hm hx b2 b3 hz2 hzz3 hq1 hq2 hq3 hq4 g0
 go_enter Tryz.func42, Tryz.ntmps42
 go_wp2_with fail
 clear k0 r0 r5
 generalize ((((w.alloc (oV 5 b i s al l.length cl (some ⟨bm, om, none⟩) m.length cm)).alloc (oV xk xb xi xs xal xnl xcl xam xnm xcm)).alloc oN).alloc (oV 5 false 0 ⟨#[]⟩ none 0 0 none 0 0)) = w3 at *
 refine CM.out.mono ?_
 rintro e w1 ⟨rfl, b1⟩
 have hz1 := b1.size
 have A0 : AccM w w3 w1 5 (.slice none 0 0) [] := ⟨(b1.block (w.heap.size + 3) (by omega)).trans h3, b1.mono (by omega), World.ownsRow_nil _ _ _ _, by omega⟩
 clear CM
 have l9 := trivial
 go_wp2_with fail
 have BB : Below w.heap.size w w1 := B3.trans (A0.bel.mono (by omega))
 have tb := ((A0.bel).block w.heap.size (by omega)).trans h0
 have cM : w1.cell? ⟨w.heap.size + 3, 5, none⟩ = some (.slice none 0 0) := by rw [cBk A0.box]; rfl
 have hbg := A0.big
 have ownA := A0.own.move (w' := w1.drew) (fun _ _ _ => rfl)
 refine wp_region_held_drew (S := fun W => W.heap[w.heap.size]? = some (oV 5 b i s al l.length cl (some ⟨bm, om, none⟩) m.length cm)) (by kernel_rfl) tb (fun hHeld => ?_)
 (refine tjA 0 ?_; (try simp only [Act.put, zA, zB, zC]))
 (refine tjA 2 ?_; (try simp only [Act.put, zA, zB, zC]))
 (refine tkA 3 ?_ ?_ ?_; rotate_left 1; (intro W0 hSw; (have o9 : W0.cell? ⟨w.heap.size, 5, none⟩ = some (.slice (some ⟨bm, om, none⟩) m.length cm) := by rw [cBk hSw]; rfl); go_simp; (try with_reducible rfl)); (try simp only [Act.put, zA, zB, zC]))
 (refine tjA 4 ?_; (try simp only [Act.put, zA, zB, zC]))
 (refine tjA 5 ?_; (try simp only [Act.put, zA, zB, zC]))
 refine ryA [1] ?_
 refine rA1 fun K hK => ?_
 go_simp
 refine hK.out _ _ tb (fun hHeld => ?_)
 clear hK K
 (try simp only [Act.put, zA, zB, zC])
 (try rw [hsx])
 refine ryA [6] ?_
 refine rA1 fun K hK => ?_
 refine step_catM rfl (.tmp 27) (.tmp 31) rfl (w.heap.size + 4) (.slice none 0 0) [] rfl ownA (some ⟨bm, om, none⟩) p cm bm (om) ((qs.map (fun q => q.2)).take p) rfl HN1.out HSA.out ((HRW1.out w1 BB).keepB (w' := w1.drew) (fun _ => rfl)) (by (try simp only [List.length_append, List.length_take, List.length_map, List.length_cons, List.length_nil]); omega) hbg ?_
 intro v' w5 o5 g5
 obtain ⟨aaa, aal, aan, rfl⟩ : ∃ a n c, v' = .slice a n c := by obtain ⟨a, c, h⟩ := o5.slice; exact ⟨_, _, _, h⟩
 obtain ⟨aaS, b5, k5⟩ := A0.next (Below.refl _ _).drew g5 o5
 have tb5 := (k5 w.heap.size (by omega)).trans h0
 have c5 : w5.cell? ⟨w.heap.size + 3, 5, none⟩ = some (.slice none 0 0) := by rw [cBk b5]; rfl
 have f5 : w5.frozen? ⟨w.heap.size + 3, 5, none⟩ = false := fBk b5 5
 refine hK.out _ _ tb5 (fun hHeld => ?_)
 clear hK K
 (try simp only [Act.put, zA, zB, zC])
 (refine tjA 7 ?_; (try simp only [Act.put, zA, zB, zC]))
 refine ryA [8] ?_
 refine rA1 fun K hK => ?_
 go_simp
 generalize (w5.setCell ⟨w.heap.size + 3, 5, none⟩ (.slice aaa aal aan)) = waa at *
 refine hK.out _ _ ((aaS.bel.block w.heap.size (by omega)).trans h0) (fun hHeld => ?_)
 clear hK K
 (try simp only [Act.put, zA, zB, zC])
 refine wpAnyH_done (by kernel_rfl) ?_ _
 (try dsimp only [Act.put, List.getElem_toArray, List.getElem_cons_succ, List.getElem_cons_zero, List.setIfInBounds_toArray, List.set_cons_zero, List.set_cons_succ])
 clear hHeld c5 f5 tb tb5 b5 k5 cM ownA hbg o5 g5
 have BB : Below w.heap.size w waa := B3.trans (aaS.bel.mono (by omega))
 have xbk := (aaS.bel.block (w.heap.size + 1) (by omega)).trans h1
 have cM : waa.cell? ⟨w.heap.size + 3, 5, none⟩ = some (.slice aaa aal aan) := by rw [cBk aaS.box]; rfl
 obtain ⟨x0, x1, x2, x3, x4, x5⟩ := sixC xbk
 have hbg := aaS.big
 rw [List.nil_append] at aaS
 have HL1 := HN1.out
 go_wp2_with (at_builtin; go_loud (refine wpl_appM _ rfl (.tmp 35) (.tmp 39) rfl (w.heap.size + 4) (.slice aaa aal aan) ((qs.map (fun q => q.2)).take p) rfl (aaS.own.alloc _) waa.heap.size [.string t, .int .i64 xk, .bool xb, .int .i64 xi, .string xs, .slice xal xnl xcl, .slice xam xnm xcm] rfl honet rfl (heap_alloc_new waa _) (by omega) (by rw [aSz]; omega) ?_))
 intro v' w5 o5 g5
 obtain ⟨bba, bbl, bbn, rfl⟩ : ∃ a n c, v' = .slice a n c := by obtain ⟨a, c, h⟩ := o5.slice; exact ⟨_, _, _, h⟩
 obtain ⟨bbS, b5, k5⟩ := aaS.next ((Below.refl _ _).alloc (Nat.le_refl _) _) g5 o5
 have c5 : w5.cell? ⟨w.heap.size + 3, 5, none⟩ = some (.slice aaa aal aan) := by rw [cBk b5]; rfl
 have f5 : w5.frozen? ⟨w.heap.size + 3, 5, none⟩ = false := fBk b5 5
 clear x0 x1 x2 x3 x4 x5 cM xbk o5 g5 hbg BB
 go_wp2_with fail
 generalize (w5.setCell ⟨w.heap.size + 3, 5, none⟩ (.slice bba bbl bbn)) = wbb at *
 clear c5 f5 b5 k5
 have BB : Below w.heap.size w wbb := B3.trans (bbS.bel.mono (by omega))
 have tb := ((bbS.bel).block w.heap.size (by omega)).trans h0
 have cM : wbb.cell? ⟨w.heap.size + 3, 5, none⟩ = some (.slice bba bbl bbn) := by rw [cBk bbS.box]; rfl
 have hbg := bbS.big
 have ownA := bbS.own.move (w' := wbb.drew) (fun _ _ _ => rfl)
 refine wp_region_held_drew (S := fun W => W.heap[w.heap.size]? = some (oV 5 b i s al l.length cl (some ⟨bm, om, none⟩) m.length cm)) (by kernel_rfl) tb (fun hHeld => ?_)
 (refine tjA 0 ?_; (try simp only [Act.put, zA, zB, zC]))
 (refine tjA 2 ?_; (try simp only [Act.put, zA, zB, zC]))
 (refine tkA 3 ?_ ?_ ?_; rotate_left 1; (intro W0 hSw; (have o9 : W0.cell? ⟨w.heap.size, 5, none⟩ = some (.slice (some ⟨bm, om, none⟩) m.length cm) := by rw [cBk hSw]; rfl); go_simp; (try with_reducible rfl)); (try simp only [Act.put, zA, zB, zC]))
 (refine tjA 4 ?_; (try simp only [Act.put, zA, zB, zC]))
 (refine tjA 5 ?_; (try simp only [Act.put, zA, zB, zC]))
 refine ryA [1] ?_
 refine rA1 fun K hK => ?_
 go_simp
 refine hK.out _ _ tb (fun hHeld => ?_)
 clear hK K
 (try simp only [Act.put, zA, zB, zC])
 (try rw [hsx])
 refine ryA [6] ?_
 refine rA1 fun K hK => ?_
 refine step_catM rfl (.tmp 46) (.tmp 50) rfl (w.heap.size + 4) (.slice bba bbl bbn) (((qs.map (fun q => q.2)).take p) ++ [[.string t, .int .i64 xk, .bool xb, .int .i64 xi, .string xs, .slice xal xnl xcl, .slice xam xnm xcm]]) rfl ownA sx (m.length - p) (cm - p) bm (om + p * 7) ((qs.map (fun q => q.2)).drop p) rfl HN2.out HSX.out ((HRW2.out wbb BB).keepB (w' := wbb.drew) (fun _ => rfl)) (by (try simp only [List.length_append, List.length_take, List.length_map, List.length_cons, List.length_nil]); omega) hbg ?_
 intro v' w5 o5 g5
 obtain ⟨cca, ccl, ccn, rfl⟩ : ∃ a n c, v' = .slice a n c := by obtain ⟨a, c, h⟩ := o5.slice; exact ⟨_, _, _, h⟩
 obtain ⟨ccS, b5, k5⟩ := bbS.next (Below.refl _ _).drew g5 o5
 have tb5 := (k5 w.heap.size (by omega)).trans h0
 have c5 : w5.cell? ⟨w.heap.size + 3, 5, none⟩ = some (.slice bba bbl bbn) := by rw [cBk b5]; rfl
 have f5 : w5.frozen? ⟨w.heap.size + 3, 5, none⟩ = false := fBk b5 5
 refine hK.out _ _ tb5 (fun hHeld => ?_)
 clear hK K
 (try simp only [Act.put, zA, zB, zC])
 (refine tjA 7 ?_; (try simp only [Act.put, zA, zB, zC]))
 refine ryA [8] ?_
 refine rA1 fun K hK => ?_
 go_simp
 generalize (w5.setCell ⟨w.heap.size + 3, 5, none⟩ (.slice cca ccl ccn)) = wcc at *
 refine hK.out _ _ ((ccS.bel.block w.heap.size (by omega)).trans h0) (fun hHeld => ?_)
 clear hK K
 (try simp only [Act.put, zA, zB, zC])
 refine wpAnyH_done (by kernel_rfl) ?_ _
 (try dsimp only [Act.put, List.getElem_toArray, List.getElem_cons_succ, List.getElem_cons_zero, List.setIfInBounds_toArray, List.set_cons_zero, List.set_cons_succ])
 clear hHeld c5 f5 tb tb5 b5 k5 cM ownA hbg o5 g5
 have BB : Below w.heap.size w wcc := B3.trans (ccS.bel.mono (by omega))
 have hbg := ccS.big
 have hcat : ((qs.map (fun q => q.2)).take p) ++ [[.string t, .int .i64 xk, .bool xb, .int .i64 xi, .string xs, .slice xal xnl xcl, .slice xam xnm xcm]] ++ ((qs.map (fun q => q.2)).drop p) = (qs.take p ++ ([(((t, x), [.string t, .int .i64 xk, .bool xb, .int .i64 xi, .string xs, .slice xal xnl xcl, .slice xam xnm xcm]) : Mem × List Value)] ++ qs.drop p)).map (fun q => q.2) := by simp [List.map_take, List.map_drop]
 have own := ccS.own
 rw [hcat] at own
 obtain ⟨ya, yn, yb, yo, f1, f2, f3⟩ := ownM_ (S := S) own (fun z hz => by
  have hkp : ∀ y, S y → wcc.heap[y]? = w.heap[y]? := fun y hy => BB.block y (hS y hy)
  rcases List.mem_append.1 hz with hz | hz
  ·exact (HQ3.out z (List.mem_of_mem_take hz)).keep hkp (fun _ h => h)
  ·rcases List.mem_append.1 hz with hz | hz
   ·obtain rfl := List.mem_singleton.1 hz
    exact ⟨_, rfl, htm, HX.out _ BB⟩
   ·exact (HQ3.out z (List.mem_of_mem_drop hz)).keep hkp (fun _ h => h))
 have hfst : (qs.take p ++ ([(((t, x), [.string t, .int .i64 xk, .bool xb, .int .i64 xi, .string xs, .slice xal xnl xcl, .slice xam xnm xcm]) : Mem × List Value)] ++ qs.drop p)).map (fun q => q.1) = (m.take p ++ ([(t, x)] ++ m.drop p)) := by rw [← HQ1.out]; simp [List.map_take, List.map_drop]
 rw [hfst] at f1 f2 f3
 have HN : Hid ((V.mk 5 false 0 ⟨#[]⟩ [] (m.take p ++ ([(t, x)] ++ m.drop p))).lies false wcc (fun y => S y ∨ (w.heap.size + 3 ≤ y ∧ y < wcc.heap.size)) [.int .i64 5, .bool false, .int .i64 0, .string ⟨#[]⟩, .slice none 0 0, .slice cca ccl ccn]) := by
  show V.lies _ _ _ _ _
  rw [f1, V.lies]
  exact ⟨none, 0, 0, 0, ya, yn, yb, yo, rfl, ⟨by decide, by decide⟩, ⟨by decide, by decide⟩, by decide, headed_none, f2, by simp [liesL], lMk (fun h => h) (fun _ _ => rfl) (fun z hz => hz.elim .inl (fun h => .inr ⟨by omega, h.2⟩)) _ f3, fun h => by cases h⟩
 have HE := hmk (wi_fin hS BB (by omega) HN.out)
 have tz := (ccS.bel.block (w.heap.size + 2) (by omega)).trans h2
 obtain ⟨z0, z1, z2, z3, z4, z5⟩ := sixC tz
 have fz := fBk tz
 obtain ⟨v0, v1, v2, v3, v4, v5⟩ := sixC ccS.box
 clear HN own f1 hcat hfst
 go_wp2_with fail
 (try simp only [Exit.inBlock, Exit.then])
 refine bodyPost_ret (v := .tuple #[.agg #[.int .i64 5, .bool false, .int .i64 0, .string ⟨#[]⟩, .slice none 0 0, .slice cca ccl ccn], .int .i64 0]) ?_ rfl ?_
 rotate_left
 ·exact ⟨[.int .i64 5, .bool false, .int .i64 0, .string ⟨#[]⟩, .slice none 0 0, .slice cca ccl ccn], rfl, HE.out.1, HE.out.2⟩
 ·rw [results_cell_tmp rfl]
  go_simp
set_option maxHeartbeats 8000000 in
set_option maxRecDepth 100000 in
theorem radM_none_f (b : Bool) (i : Int) (s : ByteArray) (l : List V) (m : List Mem) (t : ByteArray) (x : V) (S : Nat → Prop) (al : Option Addr) (cl bl ol : Nat) (am : Option Addr) (cm bm om : Nat) (ds : List Value) (w : World) (hal : Headed al l.length cl bl ol) (ham : Headed am m.length cm bm om) (hl : liesL false w S l bl ol) (hm : liesM false w S m bm om) (hx : x.lies false w S ds) (hS : ∀ b, S b → b < w.heap.size) (hll : l.length ≤ 1114112) (hml : m.length ≤ 1114112) (htm : t.size ≤ maxLen) (keyF : keyIs t m[posF m t]? = false) (hsr : Srt m) (hcase : am = none) :
 Calls Tryz.prog 42 #[.agg #[.int .i64 5, .bool b, .int .i64 i, .string s, .slice al l.length cl, .slice am m.length cm], .string t, .agg ds.toArray] w (AdPost (.mk 5 false 0 ⟨#[]⟩ [] (m.take (posF m t) ++ ([(t, x)] ++ m.drop (posF m t))), 0) S w) := by
 subst hcase
 obtain rfl : cm = 0 := ham.nil rfl
 have hn0 : m = [] := List.length_eq_zero_iff.1 (by have := ham.le; omega)
 subst hn0
 have HX : Hid (∀ W, Below w.heap.size w W → x.lies false W S ds) := fun W hb => lBw hx hS hb
 have hone := hmk (one_of_lies hx).2
 obtain ⟨xk, xb, xi, xs, xal, xnl, xcl, xam, xnm, xcm, rfl⟩ := V.ten hx
 obtain ⟨qs, hq1, hq2, hq3, hq4⟩ := segM hm
 have hql : qs.length = ([] : List Mem).length := by rw [← hq1, List.length_map]
 have hqs0 := hmk (show qs = [] from List.length_eq_zero_iff.1 (by simpa using hql))
 have hcl := ham.le
 have b2 : Below w.heap.size w ((w.alloc (oV 5 b i s al l.length cl none 0 0)).alloc (oV xk xb xi xs xal xnl xcl xam xnm xcm)) := tBw w _ _
 have hz2 : ((w.alloc (oV 5 b i s al l.length cl none 0 0)).alloc (oV xk xb xi xs xal xnl xcl xam xnm xcm)).heap.size = w.heap.size + 2 := by rw [aSz, aSz]
 have hz2 := hz2; dsimp only [oV, oN] at hz2
 have b3 : Below ((w.alloc (oV 5 b i s al l.length cl none 0 0)).alloc (oV xk xb xi xs xal xnl xcl xam xnm xcm)).heap.size ((w.alloc (oV 5 b i s al l.length cl none 0 0)).alloc (oV xk xb xi xs xal xnl xcl xam xnm xcm)) ((((w.alloc (oV 5 b i s al l.length cl none 0 0)).alloc (oV xk xb xi xs xal xnl xcl xam xnm xcm)).alloc oN).alloc (oV 5 false 0 ⟨#[]⟩ none 0 0 none 0 0)) := tBw _ _ _
 have hzz3 : (((w.alloc (oV 5 b i s al l.length cl none 0 0)).alloc (oV xk xb xi xs xal xnl xcl xam xnm xcm)).alloc oN).heap.size = w.heap.size + 3 := by rw [aSz, hz2]
 have hzz3 := hzz3; dsimp only [oV, oN] at hzz3
 have hz4 : ((((w.alloc (oV 5 b i s al l.length cl none 0 0)).alloc (oV xk xb xi xs xal xnl xcl xam xnm xcm)).alloc oN).alloc (oV 5 false 0 ⟨#[]⟩ none 0 0 none 0 0)).heap.size = w.heap.size + 4 := by rw [aSz, hzz3]
 have hz4 := hz4; dsimp only [oV, oN] at hz4
 have B3 : Below w.heap.size w ((((w.alloc (oV 5 b i s al l.length cl none 0 0)).alloc (oV xk xb xi xs xal xnl xcl xam xnm xcm)).alloc oN).alloc (oV 5 false 0 ⟨#[]⟩ none 0 0 none 0 0)) := b2.trans (b3.mono (by omega))
 have g0 := a2k w (oV 5 b i s al l.length cl none 0 0) (oV xk xb xi xs xal xnl xcl xam xnm xcm)
 have h0 := (b3.block w.heap.size (by omega)).trans g0
 have h1 := (b3.block (w.heap.size + 1) (by omega)).trans (a2n w (oV 5 b i s al l.length cl none 0 0) (oV xk xb xi xs xal xnl xcl xam xnm xcm))
 have h2 := a2k ((w.alloc (oV 5 b i s al l.length cl none 0 0)).alloc (oV xk xb xi xs xal xnl xcl xam xnm xcm)) oN (oV 5 false 0 ⟨#[]⟩ none 0 0 none 0 0)
 rw [hz2] at h2
 have h3 := a2n ((w.alloc (oV 5 b i s al l.length cl none 0 0)).alloc (oV xk xb xi xs xal xnl xcl xam xnm xcm)) oN (oV 5 false 0 ⟨#[]⟩ none 0 0 none 0 0)
 rw [hz2] at h3
 have k0 : (((w.alloc (oV 5 b i s al l.length cl none 0 0)).alloc (oV xk xb xi xs xal xnl xcl xam xnm xcm)).alloc oN).cell? ⟨w.heap.size, 0, none⟩ = some (.int .i64 5) := by rw [cBk ((Below.heap_alloc ((w.alloc (oV 5 b i s al l.length cl none 0 0)).alloc (oV xk xb xi xs xal xnl xcl xam xnm xcm)) oN w.heap.size (by omega)).trans g0)]; rfl
 have r0 : ((((w.alloc (oV 5 b i s al l.length cl none 0 0)).alloc (oV xk xb xi xs xal xnl xcl xam xnm xcm)).alloc oN).alloc (oV 5 false 0 ⟨#[]⟩ none 0 0 none 0 0)).cell? ⟨w.heap.size, 0, none⟩ = some (.int .i64 5) := by rw [cBk h0]; rfl
 have r5 : ((((w.alloc (oV 5 b i s al l.length cl none 0 0)).alloc (oV xk xb xi xs xal xnl xcl xam xnm xcm)).alloc oN).alloc (oV 5 false 0 ⟨#[]⟩ none 0 0 none 0 0)).cell? ⟨w.heap.size, 5, none⟩ = some (.slice none 0 0) := by rw [cBk h0]; rfl
 have CM := hmk (member_any [] t S _ _ bm om ((((w.alloc (oV 5 b i s al l.length cl none 0 0)).alloc (oV xk xb xi xs xal xnl xcl xam xnm xcm)).alloc oN).alloc (oV 5 false 0 ⟨#[]⟩ none 0 0 none 0 0)) ham (lMk (fun h => h) (fun x hx => B3.block x (hS x hx)) (fun _ h => h) _ hm) (fun x hx => Nat.lt_of_lt_of_le (hS x hx) B3.size) hsr (by omega))
 rw [keyF] at CM
 have hp0 : posF ([] : List Mem) t = 0 := rfl
 rw [hp0] at CM ⊢
 simp only [List.length_nil] at CM ham hml hql ⊢
 have y3 : (0 : Int) ≤ 0 := by omega
 have HSA : Hid (Headed none 0 0 bm om) := ⟨by omega, Nat.zero_le _, .inl (by omega), fun _ => rfl⟩
 have HSX : Hid (Headed none 0 0 bm (om + 0 * 7)) := ⟨by omega, by omega, .inl (by omega), fun _ => by omega⟩
 have HN1 : Hid (((qs.map (fun q => q.2)).take 0).length = 0) := by show _ = _; rw [List.length_take, List.length_map]; omega
 have HN2 : Hid (((qs.map (fun q => q.2)).drop 0).length = 0) := by show _ = _; rw [List.length_drop, List.length_map]; omega
 have HRW1 : Hid (∀ W, Below w.heap.size w W → RowsOf W bm om 7 ((qs.map (fun q => q.2)).take 0)) := fun W hb => (hq2.take 0).keepB (fun h => hb.block _ (hS _ (hq4 (by rw [List.length_take, List.length_map] at h; omega))))
 have HRW2 : Hid (∀ W, Below w.heap.size w W → RowsOf W bm (om + 0 * 7) 7 ((qs.map (fun q => q.2)).drop 0)) := fun W hb => (hq2.drop 0).keepB (fun h => hb.block _ (hS _ (hq4 (by rw [List.length_drop, List.length_map] at h; omega))))
 have HQ3 := hmk hq3
 have HQ1 := hmk hq1
 have honet : ∀ u ∈ ([.string t, .int .i64 xk, .bool xb, .int .i64 xi, .string xs, .slice xal xnl xcl, .slice xam xnm xcm] : List Value), u.oneCell' = true := fun u hu => by
  rcases List.mem_cons.1 hu with rfl | hu
  ·rfl
  ·exact hone.out u hu
 clear hl hm hx b2 b3 hz2 hzz3 hq1 hq2 hq3 hq4 g0
 go_enter Tryz.func42, Tryz.ntmps42
 go_wp2_with fail
 clear k0 r0 r5
 generalize ((((w.alloc (oV 5 b i s al l.length cl none 0 0)).alloc (oV xk xb xi xs xal xnl xcl xam xnm xcm)).alloc oN).alloc (oV 5 false 0 ⟨#[]⟩ none 0 0 none 0 0)) = w3 at *
 refine CM.out.mono ?_
 rintro e w1 ⟨rfl, b1⟩
 have hz1 := b1.size
 have A0 : AccM w w3 w1 5 (.slice none 0 0) [] := ⟨(b1.block (w.heap.size + 3) (by omega)).trans h3, b1.mono (by omega), World.ownsRow_nil _ _ _ _, by omega⟩
 clear CM
 have l9 := trivial
 go_wp2_with fail
 have BB : Below w.heap.size w w1 := B3.trans (A0.bel.mono (by omega))
 have tb := ((A0.bel).block w.heap.size (by omega)).trans h0
 have cM : w1.cell? ⟨w.heap.size + 3, 5, none⟩ = some (.slice none 0 0) := by rw [cBk A0.box]; rfl
 have hbg := A0.big
 have ownA := A0.own.move (w' := w1.drew) (fun _ _ _ => rfl)
 refine wp_region_held_drew (S := fun W => W.heap[w.heap.size]? = some (oV 5 b i s al l.length cl none 0 0)) (by kernel_rfl) tb (fun hHeld => ?_)
 (refine tjA 0 ?_; (try simp only [Act.put, zA, zB, zC]))
 (refine tjA 2 ?_; (try simp only [Act.put, zA, zB, zC]))
 (refine tkA 3 ?_ ?_ ?_; rotate_left 1; (intro W0 hSw; (have o9 : W0.cell? ⟨w.heap.size, 5, none⟩ = some (.slice none 0 0) := by rw [cBk hSw]; rfl); go_simp; (try with_reducible rfl)); (try simp only [Act.put, zA, zB, zC]))
 (refine tjA 4 ?_; (try simp only [Act.put, zA, zB, zC]))
 (refine tjA 5 ?_; (try simp only [Act.put, zA, zB, zC]))
 refine ryA [1] ?_
 refine rA1 fun K hK => ?_
 go_simp
 refine hK.out _ _ tb (fun hHeld => ?_)
 clear hK K
 (try simp only [Act.put, zA, zB, zC])
 (try rw [hsx])
 refine ryA [6] ?_
 refine rA1 fun K hK => ?_
 refine step_catM rfl (.tmp 27) (.tmp 31) rfl (w.heap.size + 4) (.slice none 0 0) [] rfl ownA none 0 0 bm (om) ((qs.map (fun q => q.2)).take 0) rfl HN1.out HSA.out ((HRW1.out w1 BB).keepB (w' := w1.drew) (fun _ => rfl)) (by (try simp only [List.length_append, List.length_take, List.length_map, List.length_cons, List.length_nil]); omega) hbg ?_
 intro v' w5 o5 g5
 obtain ⟨aaa, aal, aan, rfl⟩ : ∃ a n c, v' = .slice a n c := by obtain ⟨a, c, h⟩ := o5.slice; exact ⟨_, _, _, h⟩
 obtain ⟨aaS, b5, k5⟩ := A0.next (Below.refl _ _).drew g5 o5
 have tb5 := (k5 w.heap.size (by omega)).trans h0
 have c5 : w5.cell? ⟨w.heap.size + 3, 5, none⟩ = some (.slice none 0 0) := by rw [cBk b5]; rfl
 have f5 : w5.frozen? ⟨w.heap.size + 3, 5, none⟩ = false := fBk b5 5
 refine hK.out _ _ tb5 (fun hHeld => ?_)
 clear hK K
 (try simp only [Act.put, zA, zB, zC])
 (refine tjA 7 ?_; (try simp only [Act.put, zA, zB, zC]))
 refine ryA [8] ?_
 refine rA1 fun K hK => ?_
 go_simp
 generalize (w5.setCell ⟨w.heap.size + 3, 5, none⟩ (.slice aaa aal aan)) = waa at *
 refine hK.out _ _ ((aaS.bel.block w.heap.size (by omega)).trans h0) (fun hHeld => ?_)
 clear hK K
 (try simp only [Act.put, zA, zB, zC])
 refine wpAnyH_done (by kernel_rfl) ?_ _
 (try dsimp only [Act.put, List.getElem_toArray, List.getElem_cons_succ, List.getElem_cons_zero, List.setIfInBounds_toArray, List.set_cons_zero, List.set_cons_succ])
 clear hHeld c5 f5 tb tb5 b5 k5 cM ownA hbg o5 g5
 have BB : Below w.heap.size w waa := B3.trans (aaS.bel.mono (by omega))
 have xbk := (aaS.bel.block (w.heap.size + 1) (by omega)).trans h1
 have cM : waa.cell? ⟨w.heap.size + 3, 5, none⟩ = some (.slice aaa aal aan) := by rw [cBk aaS.box]; rfl
 obtain ⟨x0, x1, x2, x3, x4, x5⟩ := sixC xbk
 have hbg := aaS.big
 rw [List.nil_append] at aaS
 have HL1 := HN1.out
 go_wp2_with (at_builtin; go_loud (refine wpl_appM _ rfl (.tmp 35) (.tmp 39) rfl (w.heap.size + 4) (.slice aaa aal aan) ((qs.map (fun q => q.2)).take 0) rfl (aaS.own.alloc _) waa.heap.size [.string t, .int .i64 xk, .bool xb, .int .i64 xi, .string xs, .slice xal xnl xcl, .slice xam xnm xcm] rfl honet rfl (heap_alloc_new waa _) (by omega) (by rw [aSz]; omega) ?_))
 intro v' w5 o5 g5
 obtain ⟨bba, bbl, bbn, rfl⟩ : ∃ a n c, v' = .slice a n c := by obtain ⟨a, c, h⟩ := o5.slice; exact ⟨_, _, _, h⟩
 obtain ⟨bbS, b5, k5⟩ := aaS.next ((Below.refl _ _).alloc (Nat.le_refl _) _) g5 o5
 have c5 : w5.cell? ⟨w.heap.size + 3, 5, none⟩ = some (.slice aaa aal aan) := by rw [cBk b5]; rfl
 have f5 : w5.frozen? ⟨w.heap.size + 3, 5, none⟩ = false := fBk b5 5
 clear x0 x1 x2 x3 x4 x5 cM xbk o5 g5 hbg BB
 go_wp2_with fail
 generalize (w5.setCell ⟨w.heap.size + 3, 5, none⟩ (.slice bba bbl bbn)) = wbb at *
 clear c5 f5 b5 k5
 have BB : Below w.heap.size w wbb := B3.trans (bbS.bel.mono (by omega))
 have tb := ((bbS.bel).block w.heap.size (by omega)).trans h0
 have cM : wbb.cell? ⟨w.heap.size + 3, 5, none⟩ = some (.slice bba bbl bbn) := by rw [cBk bbS.box]; rfl
 have hbg := bbS.big
 have ownA := bbS.own.move (w' := wbb.drew) (fun _ _ _ => rfl)
 refine wp_region_held_drew (S := fun W => W.heap[w.heap.size]? = some (oV 5 b i s al l.length cl none 0 0)) (by kernel_rfl) tb (fun hHeld => ?_)
 (refine tjA 0 ?_; (try simp only [Act.put, zA, zB, zC]))
 (refine tjA 2 ?_; (try simp only [Act.put, zA, zB, zC]))
 (refine tkA 3 ?_ ?_ ?_; rotate_left 1; (intro W0 hSw; (have o9 : W0.cell? ⟨w.heap.size, 5, none⟩ = some (.slice none 0 0) := by rw [cBk hSw]; rfl); go_simp; (try with_reducible rfl)); (try simp only [Act.put, zA, zB, zC]))
 (refine tjA 4 ?_; (try simp only [Act.put, zA, zB, zC]))
 (refine tjA 5 ?_; (try simp only [Act.put, zA, zB, zC]))
 refine ryA [1] ?_
 refine rA1 fun K hK => ?_
 go_simp
 refine hK.out _ _ tb (fun hHeld => ?_)
 clear hK K
 (try simp only [Act.put, zA, zB, zC])
 (try rw [hsx])
 refine ryA [6] ?_
 refine rA1 fun K hK => ?_
 refine step_catM rfl (.tmp 46) (.tmp 50) rfl (w.heap.size + 4) (.slice bba bbl bbn) (((qs.map (fun q => q.2)).take 0) ++ [[.string t, .int .i64 xk, .bool xb, .int .i64 xi, .string xs, .slice xal xnl xcl, .slice xam xnm xcm]]) rfl ownA none 0 0 bm (om + 0 * 7) ((qs.map (fun q => q.2)).drop 0) rfl HN2.out HSX.out ((HRW2.out wbb BB).keepB (w' := wbb.drew) (fun _ => rfl)) (by (try simp only [List.length_append, List.length_take, List.length_map, List.length_cons, List.length_nil]); omega) hbg ?_
 intro v' w5 o5 g5
 obtain ⟨cca, ccl, ccn, rfl⟩ : ∃ a n c, v' = .slice a n c := by obtain ⟨a, c, h⟩ := o5.slice; exact ⟨_, _, _, h⟩
 obtain ⟨ccS, b5, k5⟩ := bbS.next (Below.refl _ _).drew g5 o5
 have tb5 := (k5 w.heap.size (by omega)).trans h0
 have c5 : w5.cell? ⟨w.heap.size + 3, 5, none⟩ = some (.slice bba bbl bbn) := by rw [cBk b5]; rfl
 have f5 : w5.frozen? ⟨w.heap.size + 3, 5, none⟩ = false := fBk b5 5
 refine hK.out _ _ tb5 (fun hHeld => ?_)
 clear hK K
 (try simp only [Act.put, zA, zB, zC])
 (refine tjA 7 ?_; (try simp only [Act.put, zA, zB, zC]))
 refine ryA [8] ?_
 refine rA1 fun K hK => ?_
 go_simp
 generalize (w5.setCell ⟨w.heap.size + 3, 5, none⟩ (.slice cca ccl ccn)) = wcc at *
 refine hK.out _ _ ((ccS.bel.block w.heap.size (by omega)).trans h0) (fun hHeld => ?_)
 clear hK K
 (try simp only [Act.put, zA, zB, zC])
 refine wpAnyH_done (by kernel_rfl) ?_ _
 (try dsimp only [Act.put, List.getElem_toArray, List.getElem_cons_succ, List.getElem_cons_zero, List.setIfInBounds_toArray, List.set_cons_zero, List.set_cons_succ])
 clear hHeld c5 f5 tb tb5 b5 k5 cM ownA hbg o5 g5
 have BB : Below w.heap.size w wcc := B3.trans (ccS.bel.mono (by omega))
 have hbg := ccS.big
 have hcat : ((qs.map (fun q => q.2)).take 0) ++ [[.string t, .int .i64 xk, .bool xb, .int .i64 xi, .string xs, .slice xal xnl xcl, .slice xam xnm xcm]] ++ ((qs.map (fun q => q.2)).drop 0) = (qs.take 0 ++ ([(((t, x), [.string t, .int .i64 xk, .bool xb, .int .i64 xi, .string xs, .slice xal xnl xcl, .slice xam xnm xcm]) : Mem × List Value)] ++ qs.drop 0)).map (fun q => q.2) := by simp [List.map_take, List.map_drop]
 have own := ccS.own
 rw [hcat] at own
 obtain ⟨ya, yn, yb, yo, f1, f2, f3⟩ := ownM_ (S := S) own (fun z hz => by
  have hkp : ∀ y, S y → wcc.heap[y]? = w.heap[y]? := fun y hy => BB.block y (hS y hy)
  rcases List.mem_append.1 hz with hz | hz
  ·exact (HQ3.out z (List.mem_of_mem_take hz)).keep hkp (fun _ h => h)
  ·rcases List.mem_append.1 hz with hz | hz
   ·obtain rfl := List.mem_singleton.1 hz
    exact ⟨_, rfl, htm, HX.out _ BB⟩
   ·exact (HQ3.out z (List.mem_of_mem_drop hz)).keep hkp (fun _ h => h))
 have hfst : (qs.take 0 ++ ([(((t, x), [.string t, .int .i64 xk, .bool xb, .int .i64 xi, .string xs, .slice xal xnl xcl, .slice xam xnm xcm]) : Mem × List Value)] ++ qs.drop 0)).map (fun q => q.1) = (([] : List Mem).take 0 ++ ([(t, x)] ++ ([] : List Mem).drop 0)) := by rw [hqs0.out]; simp
 rw [hfst] at f1 f2 f3
 have HN : Hid ((V.mk 5 false 0 ⟨#[]⟩ [] (([] : List Mem).take 0 ++ ([(t, x)] ++ ([] : List Mem).drop 0))).lies false wcc (fun y => S y ∨ (w.heap.size + 3 ≤ y ∧ y < wcc.heap.size)) [.int .i64 5, .bool false, .int .i64 0, .string ⟨#[]⟩, .slice none 0 0, .slice cca ccl ccn]) := by
  show V.lies _ _ _ _ _
  rw [f1, V.lies]
  exact ⟨none, 0, 0, 0, ya, yn, yb, yo, rfl, ⟨by decide, by decide⟩, ⟨by decide, by decide⟩, by decide, headed_none, f2, by simp [liesL], lMk (fun h => h) (fun _ _ => rfl) (fun z hz => hz.elim .inl (fun h => .inr ⟨by omega, h.2⟩)) _ f3, fun h => by cases h⟩
 have HE := hmk (wi_fin hS BB (by omega) HN.out)
 have tz := (ccS.bel.block (w.heap.size + 2) (by omega)).trans h2
 obtain ⟨z0, z1, z2, z3, z4, z5⟩ := sixC tz
 have fz := fBk tz
 obtain ⟨v0, v1, v2, v3, v4, v5⟩ := sixC ccS.box
 clear HN own f1 hcat hfst
 go_wp2_with fail
 (try simp only [Exit.inBlock, Exit.then])
 refine bodyPost_ret (v := .tuple #[.agg #[.int .i64 5, .bool false, .int .i64 0, .string ⟨#[]⟩, .slice none 0 0, .slice cca ccl ccn], .int .i64 0]) ?_ rfl ?_
 rotate_left
 ·exact ⟨[.int .i64 5, .bool false, .int .i64 0, .string ⟨#[]⟩, .slice none 0 0, .slice cca ccl ccn], rfl, HE.out.1, HE.out.2⟩
 ·rw [results_cell_tmp rfl]
  go_simp
set_option maxHeartbeats 8000000 in
set_option maxRecDepth 100000 in
theorem radM_some_f (b : Bool) (i : Int) (s : ByteArray) (l : List V) (m : List Mem) (t : ByteArray) (x : V) (S : Nat → Prop) (al : Option Addr) (cl bl ol : Nat) (am : Option Addr) (cm bm om : Nat) (ds : List Value) (w : World) (hal : Headed al l.length cl bl ol) (ham : Headed am m.length cm bm om) (hl : liesL false w S l bl ol) (hm : liesM false w S m bm om) (hx : x.lies false w S ds) (hS : ∀ b, S b → b < w.heap.size) (hll : l.length ≤ 1114112) (hml : m.length ≤ 1114112) (htm : t.size ≤ maxLen) (keyF : keyIs t m[posF m t]? = false) (hsr : Srt m) (hcase0 : m.length = 0) (hcase : ∃ ad, am = some ad) :
 Calls Tryz.prog 42 #[.agg #[.int .i64 5, .bool b, .int .i64 i, .string s, .slice al l.length cl, .slice am m.length cm], .string t, .agg ds.toArray] w (AdPost (.mk 5 false 0 ⟨#[]⟩ [] (m.take (posF m t) ++ ([(t, x)] ++ m.drop (posF m t))), 0) S w) := by
 obtain ⟨ad, rfl⟩ := hcase
 have hn0 : m = [] := List.length_eq_zero_iff.1 hcase0
 subst hn0
 have HX : Hid (∀ W, Below w.heap.size w W → x.lies false W S ds) := fun W hb => lBw hx hS hb
 have hone := hmk (one_of_lies hx).2
 obtain ⟨xk, xb, xi, xs, xal, xnl, xcl, xam, xnm, xcm, rfl⟩ := V.ten hx
 obtain ⟨qs, hq1, hq2, hq3, hq4⟩ := segM hm
 have hql : qs.length = ([] : List Mem).length := by rw [← hq1, List.length_map]
 have hqs0 := hmk (show qs = [] from List.length_eq_zero_iff.1 (by simpa using hql))
 have hcl := ham.le
 have b2 : Below w.heap.size w ((w.alloc (oV 5 b i s al l.length cl (some ad) 0 cm)).alloc (oV xk xb xi xs xal xnl xcl xam xnm xcm)) := tBw w _ _
 have hz2 : ((w.alloc (oV 5 b i s al l.length cl (some ad) 0 cm)).alloc (oV xk xb xi xs xal xnl xcl xam xnm xcm)).heap.size = w.heap.size + 2 := by rw [aSz, aSz]
 have hz2 := hz2; dsimp only [oV, oN] at hz2
 have b3 : Below ((w.alloc (oV 5 b i s al l.length cl (some ad) 0 cm)).alloc (oV xk xb xi xs xal xnl xcl xam xnm xcm)).heap.size ((w.alloc (oV 5 b i s al l.length cl (some ad) 0 cm)).alloc (oV xk xb xi xs xal xnl xcl xam xnm xcm)) ((((w.alloc (oV 5 b i s al l.length cl (some ad) 0 cm)).alloc (oV xk xb xi xs xal xnl xcl xam xnm xcm)).alloc oN).alloc (oV 5 false 0 ⟨#[]⟩ none 0 0 none 0 0)) := tBw _ _ _
 have hzz3 : (((w.alloc (oV 5 b i s al l.length cl (some ad) 0 cm)).alloc (oV xk xb xi xs xal xnl xcl xam xnm xcm)).alloc oN).heap.size = w.heap.size + 3 := by rw [aSz, hz2]
 have hzz3 := hzz3; dsimp only [oV, oN] at hzz3
 have hz4 : ((((w.alloc (oV 5 b i s al l.length cl (some ad) 0 cm)).alloc (oV xk xb xi xs xal xnl xcl xam xnm xcm)).alloc oN).alloc (oV 5 false 0 ⟨#[]⟩ none 0 0 none 0 0)).heap.size = w.heap.size + 4 := by rw [aSz, hzz3]
 have hz4 := hz4; dsimp only [oV, oN] at hz4
 have B3 : Below w.heap.size w ((((w.alloc (oV 5 b i s al l.length cl (some ad) 0 cm)).alloc (oV xk xb xi xs xal xnl xcl xam xnm xcm)).alloc oN).alloc (oV 5 false 0 ⟨#[]⟩ none 0 0 none 0 0)) := b2.trans (b3.mono (by omega))
 have g0 := a2k w (oV 5 b i s al l.length cl (some ad) 0 cm) (oV xk xb xi xs xal xnl xcl xam xnm xcm)
 have h0 := (b3.block w.heap.size (by omega)).trans g0
 have h1 := (b3.block (w.heap.size + 1) (by omega)).trans (a2n w (oV 5 b i s al l.length cl (some ad) 0 cm) (oV xk xb xi xs xal xnl xcl xam xnm xcm))
 have h2 := a2k ((w.alloc (oV 5 b i s al l.length cl (some ad) 0 cm)).alloc (oV xk xb xi xs xal xnl xcl xam xnm xcm)) oN (oV 5 false 0 ⟨#[]⟩ none 0 0 none 0 0)
 rw [hz2] at h2
 have h3 := a2n ((w.alloc (oV 5 b i s al l.length cl (some ad) 0 cm)).alloc (oV xk xb xi xs xal xnl xcl xam xnm xcm)) oN (oV 5 false 0 ⟨#[]⟩ none 0 0 none 0 0)
 rw [hz2] at h3
 have k0 : (((w.alloc (oV 5 b i s al l.length cl (some ad) 0 cm)).alloc (oV xk xb xi xs xal xnl xcl xam xnm xcm)).alloc oN).cell? ⟨w.heap.size, 0, none⟩ = some (.int .i64 5) := by rw [cBk ((Below.heap_alloc ((w.alloc (oV 5 b i s al l.length cl (some ad) 0 cm)).alloc (oV xk xb xi xs xal xnl xcl xam xnm xcm)) oN w.heap.size (by omega)).trans g0)]; rfl
 have r0 : ((((w.alloc (oV 5 b i s al l.length cl (some ad) 0 cm)).alloc (oV xk xb xi xs xal xnl xcl xam xnm xcm)).alloc oN).alloc (oV 5 false 0 ⟨#[]⟩ none 0 0 none 0 0)).cell? ⟨w.heap.size, 0, none⟩ = some (.int .i64 5) := by rw [cBk h0]; rfl
 have r5 : ((((w.alloc (oV 5 b i s al l.length cl (some ad) 0 cm)).alloc (oV xk xb xi xs xal xnl xcl xam xnm xcm)).alloc oN).alloc (oV 5 false 0 ⟨#[]⟩ none 0 0 none 0 0)).cell? ⟨w.heap.size, 5, none⟩ = some (.slice (some ad) 0 cm) := by rw [cBk h0]; rfl
 have CM := hmk (member_any [] t S _ _ bm om ((((w.alloc (oV 5 b i s al l.length cl (some ad) 0 cm)).alloc (oV xk xb xi xs xal xnl xcl xam xnm xcm)).alloc oN).alloc (oV 5 false 0 ⟨#[]⟩ none 0 0 none 0 0)) ham (lMk (fun h => h) (fun x hx => B3.block x (hS x hx)) (fun _ h => h) _ hm) (fun x hx => Nat.lt_of_lt_of_le (hS x hx) B3.size) hsr (by omega))
 rw [keyF] at CM
 have hp0 : posF ([] : List Mem) t = 0 := rfl
 rw [hp0] at CM ⊢
 simp only [List.length_nil] at CM ham hml hql ⊢
 have y3 : (0 : Int) ≤ cm := by omega
 have HSA : Hid (Headed (some ad) 0 cm bm om) := ⟨by omega, ham.max, .inl (by omega), fun e => by cases e⟩
 have HSX : Hid (Headed (some ad) 0 cm bm (om + 0 * 7)) := ⟨by omega, by have := ham.max; omega, .inl (by omega), fun e => by cases e⟩
 have HN1 : Hid (((qs.map (fun q => q.2)).take 0).length = 0) := by show _ = _; rw [List.length_take, List.length_map]; omega
 have HN2 : Hid (((qs.map (fun q => q.2)).drop 0).length = 0) := by show _ = _; rw [List.length_drop, List.length_map]; omega
 have HRW1 : Hid (∀ W, Below w.heap.size w W → RowsOf W bm om 7 ((qs.map (fun q => q.2)).take 0)) := fun W hb => (hq2.take 0).keepB (fun h => hb.block _ (hS _ (hq4 (by rw [List.length_take, List.length_map] at h; omega))))
 have HRW2 : Hid (∀ W, Below w.heap.size w W → RowsOf W bm (om + 0 * 7) 7 ((qs.map (fun q => q.2)).drop 0)) := fun W hb => (hq2.drop 0).keepB (fun h => hb.block _ (hS _ (hq4 (by rw [List.length_drop, List.length_map] at h; omega))))
 have HQ3 := hmk hq3
 have HQ1 := hmk hq1
 have honet : ∀ u ∈ ([.string t, .int .i64 xk, .bool xb, .int .i64 xi, .string xs, .slice xal xnl xcl, .slice xam xnm xcm] : List Value), u.oneCell' = true := fun u hu => by
  rcases List.mem_cons.1 hu with rfl | hu
  ·rfl
  ·exact hone.out u hu
 clear hl hm hx b2 b3 hz2 hzz3 hq1 hq2 hq3 hq4 g0
 go_enter Tryz.func42, Tryz.ntmps42
 go_wp2_with fail
 clear k0 r0 r5
 generalize ((((w.alloc (oV 5 b i s al l.length cl (some ad) 0 cm)).alloc (oV xk xb xi xs xal xnl xcl xam xnm xcm)).alloc oN).alloc (oV 5 false 0 ⟨#[]⟩ none 0 0 none 0 0)) = w3 at *
 refine CM.out.mono ?_
 rintro e w1 ⟨rfl, b1⟩
 have hz1 := b1.size
 have A0 : AccM w w3 w1 5 (.slice none 0 0) [] := ⟨(b1.block (w.heap.size + 3) (by omega)).trans h3, b1.mono (by omega), World.ownsRow_nil _ _ _ _, by omega⟩
 clear CM
 have l9 := trivial
 go_wp2_with fail
 have BB : Below w.heap.size w w1 := B3.trans (A0.bel.mono (by omega))
 have tb := ((A0.bel).block w.heap.size (by omega)).trans h0
 have cM : w1.cell? ⟨w.heap.size + 3, 5, none⟩ = some (.slice none 0 0) := by rw [cBk A0.box]; rfl
 have hbg := A0.big
 have ownA := A0.own.move (w' := w1.drew) (fun _ _ _ => rfl)
 refine wp_region_held_drew (S := fun W => W.heap[w.heap.size]? = some (oV 5 b i s al l.length cl (some ad) 0 cm)) (by kernel_rfl) tb (fun hHeld => ?_)
 (refine tjA 0 ?_; (try simp only [Act.put, zA, zB, zC]))
 (refine tjA 2 ?_; (try simp only [Act.put, zA, zB, zC]))
 (refine tkA 3 ?_ ?_ ?_; rotate_left 1; (intro W0 hSw; (have o9 : W0.cell? ⟨w.heap.size, 5, none⟩ = some (.slice (some ad) 0 cm) := by rw [cBk hSw]; rfl); go_simp; (try with_reducible rfl)); (try simp only [Act.put, zA, zB, zC]))
 (refine tjA 4 ?_; (try simp only [Act.put, zA, zB, zC]))
 (refine tjA 5 ?_; (try simp only [Act.put, zA, zB, zC]))
 refine ryA [1] ?_
 refine rA1 fun K hK => ?_
 go_simp
 refine hK.out _ _ tb (fun hHeld => ?_)
 clear hK K
 (try simp only [Act.put, zA, zB, zC])
 (try rw [hsx])
 refine ryA [6] ?_
 refine rA1 fun K hK => ?_
 refine step_catM rfl (.tmp 27) (.tmp 31) rfl (w.heap.size + 4) (.slice none 0 0) [] rfl ownA (some ad) 0 cm bm (om) ((qs.map (fun q => q.2)).take 0) rfl HN1.out HSA.out ((HRW1.out w1 BB).keepB (w' := w1.drew) (fun _ => rfl)) (by (try simp only [List.length_append, List.length_take, List.length_map, List.length_cons, List.length_nil]); omega) hbg ?_
 intro v' w5 o5 g5
 obtain ⟨aaa, aal, aan, rfl⟩ : ∃ a n c, v' = .slice a n c := by obtain ⟨a, c, h⟩ := o5.slice; exact ⟨_, _, _, h⟩
 obtain ⟨aaS, b5, k5⟩ := A0.next (Below.refl _ _).drew g5 o5
 have tb5 := (k5 w.heap.size (by omega)).trans h0
 have c5 : w5.cell? ⟨w.heap.size + 3, 5, none⟩ = some (.slice none 0 0) := by rw [cBk b5]; rfl
 have f5 : w5.frozen? ⟨w.heap.size + 3, 5, none⟩ = false := fBk b5 5
 refine hK.out _ _ tb5 (fun hHeld => ?_)
 clear hK K
 (try simp only [Act.put, zA, zB, zC])
 (refine tjA 7 ?_; (try simp only [Act.put, zA, zB, zC]))
 refine ryA [8] ?_
 refine rA1 fun K hK => ?_
 go_simp
 generalize (w5.setCell ⟨w.heap.size + 3, 5, none⟩ (.slice aaa aal aan)) = waa at *
 refine hK.out _ _ ((aaS.bel.block w.heap.size (by omega)).trans h0) (fun hHeld => ?_)
 clear hK K
 (try simp only [Act.put, zA, zB, zC])
 refine wpAnyH_done (by kernel_rfl) ?_ _
 (try dsimp only [Act.put, List.getElem_toArray, List.getElem_cons_succ, List.getElem_cons_zero, List.setIfInBounds_toArray, List.set_cons_zero, List.set_cons_succ])
 clear hHeld c5 f5 tb tb5 b5 k5 cM ownA hbg o5 g5
 have BB : Below w.heap.size w waa := B3.trans (aaS.bel.mono (by omega))
 have xbk := (aaS.bel.block (w.heap.size + 1) (by omega)).trans h1
 have cM : waa.cell? ⟨w.heap.size + 3, 5, none⟩ = some (.slice aaa aal aan) := by rw [cBk aaS.box]; rfl
 obtain ⟨x0, x1, x2, x3, x4, x5⟩ := sixC xbk
 have hbg := aaS.big
 rw [List.nil_append] at aaS
 have HL1 := HN1.out
 go_wp2_with (at_builtin; go_loud (refine wpl_appM _ rfl (.tmp 35) (.tmp 39) rfl (w.heap.size + 4) (.slice aaa aal aan) ((qs.map (fun q => q.2)).take 0) rfl (aaS.own.alloc _) waa.heap.size [.string t, .int .i64 xk, .bool xb, .int .i64 xi, .string xs, .slice xal xnl xcl, .slice xam xnm xcm] rfl honet rfl (heap_alloc_new waa _) (by omega) (by rw [aSz]; omega) ?_))
 intro v' w5 o5 g5
 obtain ⟨bba, bbl, bbn, rfl⟩ : ∃ a n c, v' = .slice a n c := by obtain ⟨a, c, h⟩ := o5.slice; exact ⟨_, _, _, h⟩
 obtain ⟨bbS, b5, k5⟩ := aaS.next ((Below.refl _ _).alloc (Nat.le_refl _) _) g5 o5
 have c5 : w5.cell? ⟨w.heap.size + 3, 5, none⟩ = some (.slice aaa aal aan) := by rw [cBk b5]; rfl
 have f5 : w5.frozen? ⟨w.heap.size + 3, 5, none⟩ = false := fBk b5 5
 clear x0 x1 x2 x3 x4 x5 cM xbk o5 g5 hbg BB
 go_wp2_with fail
 generalize (w5.setCell ⟨w.heap.size + 3, 5, none⟩ (.slice bba bbl bbn)) = wbb at *
 clear c5 f5 b5 k5
 have BB : Below w.heap.size w wbb := B3.trans (bbS.bel.mono (by omega))
 have tb := ((bbS.bel).block w.heap.size (by omega)).trans h0
 have cM : wbb.cell? ⟨w.heap.size + 3, 5, none⟩ = some (.slice bba bbl bbn) := by rw [cBk bbS.box]; rfl
 have hbg := bbS.big
 have ownA := bbS.own.move (w' := wbb.drew) (fun _ _ _ => rfl)
 refine wp_region_held_drew (S := fun W => W.heap[w.heap.size]? = some (oV 5 b i s al l.length cl (some ad) 0 cm)) (by kernel_rfl) tb (fun hHeld => ?_)
 (refine tjA 0 ?_; (try simp only [Act.put, zA, zB, zC]))
 (refine tjA 2 ?_; (try simp only [Act.put, zA, zB, zC]))
 (refine tkA 3 ?_ ?_ ?_; rotate_left 1; (intro W0 hSw; (have o9 : W0.cell? ⟨w.heap.size, 5, none⟩ = some (.slice (some ad) 0 cm) := by rw [cBk hSw]; rfl); go_simp; (try with_reducible rfl)); (try simp only [Act.put, zA, zB, zC]))
 (refine tjA 4 ?_; (try simp only [Act.put, zA, zB, zC]))
 (refine tjA 5 ?_; (try simp only [Act.put, zA, zB, zC]))
 refine ryA [1] ?_
 refine rA1 fun K hK => ?_
 go_simp
 refine hK.out _ _ tb (fun hHeld => ?_)
 clear hK K
 (try simp only [Act.put, zA, zB, zC])
 (try rw [hsx])
 refine ryA [6] ?_
 refine rA1 fun K hK => ?_
 refine step_catM rfl (.tmp 46) (.tmp 50) rfl (w.heap.size + 4) (.slice bba bbl bbn) (((qs.map (fun q => q.2)).take 0) ++ [[.string t, .int .i64 xk, .bool xb, .int .i64 xi, .string xs, .slice xal xnl xcl, .slice xam xnm xcm]]) rfl ownA (some ad) 0 cm bm (om + 0 * 7) ((qs.map (fun q => q.2)).drop 0) rfl HN2.out HSX.out ((HRW2.out wbb BB).keepB (w' := wbb.drew) (fun _ => rfl)) (by (try simp only [List.length_append, List.length_take, List.length_map, List.length_cons, List.length_nil]); omega) hbg ?_
 intro v' w5 o5 g5
 obtain ⟨cca, ccl, ccn, rfl⟩ : ∃ a n c, v' = .slice a n c := by obtain ⟨a, c, h⟩ := o5.slice; exact ⟨_, _, _, h⟩
 obtain ⟨ccS, b5, k5⟩ := bbS.next (Below.refl _ _).drew g5 o5
 have tb5 := (k5 w.heap.size (by omega)).trans h0
 have c5 : w5.cell? ⟨w.heap.size + 3, 5, none⟩ = some (.slice bba bbl bbn) := by rw [cBk b5]; rfl
 have f5 : w5.frozen? ⟨w.heap.size + 3, 5, none⟩ = false := fBk b5 5
 refine hK.out _ _ tb5 (fun hHeld => ?_)
 clear hK K
 (try simp only [Act.put, zA, zB, zC])
 (refine tjA 7 ?_; (try simp only [Act.put, zA, zB, zC]))
 refine ryA [8] ?_
 refine rA1 fun K hK => ?_
 go_simp
 generalize (w5.setCell ⟨w.heap.size + 3, 5, none⟩ (.slice cca ccl ccn)) = wcc at *
 refine hK.out _ _ ((ccS.bel.block w.heap.size (by omega)).trans h0) (fun hHeld => ?_)
 clear hK K
 (try simp only [Act.put, zA, zB, zC])
 refine wpAnyH_done (by kernel_rfl) ?_ _
 (try dsimp only [Act.put, List.getElem_toArray, List.getElem_cons_succ, List.getElem_cons_zero, List.setIfInBounds_toArray, List.set_cons_zero, List.set_cons_succ])
 clear hHeld c5 f5 tb tb5 b5 k5 cM ownA hbg o5 g5
 have BB : Below w.heap.size w wcc := B3.trans (ccS.bel.mono (by omega))
 have hbg := ccS.big
 have hcat : ((qs.map (fun q => q.2)).take 0) ++ [[.string t, .int .i64 xk, .bool xb, .int .i64 xi, .string xs, .slice xal xnl xcl, .slice xam xnm xcm]] ++ ((qs.map (fun q => q.2)).drop 0) = (qs.take 0 ++ ([(((t, x), [.string t, .int .i64 xk, .bool xb, .int .i64 xi, .string xs, .slice xal xnl xcl, .slice xam xnm xcm]) : Mem × List Value)] ++ qs.drop 0)).map (fun q => q.2) := by simp [List.map_take, List.map_drop]
 have own := ccS.own
 rw [hcat] at own
 obtain ⟨ya, yn, yb, yo, f1, f2, f3⟩ := ownM_ (S := S) own (fun z hz => by
  have hkp : ∀ y, S y → wcc.heap[y]? = w.heap[y]? := fun y hy => BB.block y (hS y hy)
  rcases List.mem_append.1 hz with hz | hz
  ·exact (HQ3.out z (List.mem_of_mem_take hz)).keep hkp (fun _ h => h)
  ·rcases List.mem_append.1 hz with hz | hz
   ·obtain rfl := List.mem_singleton.1 hz
    exact ⟨_, rfl, htm, HX.out _ BB⟩
   ·exact (HQ3.out z (List.mem_of_mem_drop hz)).keep hkp (fun _ h => h))
 have hfst : (qs.take 0 ++ ([(((t, x), [.string t, .int .i64 xk, .bool xb, .int .i64 xi, .string xs, .slice xal xnl xcl, .slice xam xnm xcm]) : Mem × List Value)] ++ qs.drop 0)).map (fun q => q.1) = (([] : List Mem).take 0 ++ ([(t, x)] ++ ([] : List Mem).drop 0)) := by rw [hqs0.out]; simp
 rw [hfst] at f1 f2 f3
 have HN : Hid ((V.mk 5 false 0 ⟨#[]⟩ [] (([] : List Mem).take 0 ++ ([(t, x)] ++ ([] : List Mem).drop 0))).lies false wcc (fun y => S y ∨ (w.heap.size + 3 ≤ y ∧ y < wcc.heap.size)) [.int .i64 5, .bool false, .int .i64 0, .string ⟨#[]⟩, .slice none 0 0, .slice cca ccl ccn]) := by
  show V.lies _ _ _ _ _
  rw [f1, V.lies]
  exact ⟨none, 0, 0, 0, ya, yn, yb, yo, rfl, ⟨by decide, by decide⟩, ⟨by decide, by decide⟩, by decide, headed_none, f2, by simp [liesL], lMk (fun h => h) (fun _ _ => rfl) (fun z hz => hz.elim .inl (fun h => .inr ⟨by omega, h.2⟩)) _ f3, fun h => by cases h⟩
 have HE := hmk (wi_fin hS BB (by omega) HN.out)
 have tz := (ccS.bel.block (w.heap.size + 2) (by omega)).trans h2
 obtain ⟨z0, z1, z2, z3, z4, z5⟩ := sixC tz
 have fz := fBk tz
 obtain ⟨v0, v1, v2, v3, v4, v5⟩ := sixC ccS.box
 clear HN own f1 hcat hfst
 go_wp2_with fail
 (try simp only [Exit.inBlock, Exit.then])
 refine bodyPost_ret (v := .tuple #[.agg #[.int .i64 5, .bool false, .int .i64 0, .string ⟨#[]⟩, .slice none 0 0, .slice cca ccl ccn], .int .i64 0]) ?_ rfl ?_
 rotate_left
 ·exact ⟨[.int .i64 5, .bool false, .int .i64 0, .string ⟨#[]⟩, .slice none 0 0, .slice cca ccl ccn], rfl, HE.out.1, HE.out.2⟩
 ·rw [results_cell_tmp rfl]
  go_simp
end Go.Proofs.YtnakligbogkmbaaGreatDoor
