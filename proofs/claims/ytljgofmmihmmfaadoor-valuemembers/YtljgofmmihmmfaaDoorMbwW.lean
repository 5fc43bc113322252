import Derived.Test.YtljgofmmihmmfaaDoorSpoA
import Derived.Test.YtljgofmmihmmfaaDoorJG
import Derived.Test.YtljgofmmihmmfaaDoorJE
/- ValueMembers: the law's own walk. -/
set_option linter.unusedSimpArgs false
set_option linter.unusedVariables false
namespace Go.Proofs.YtljgofmmihmmfaaDoor
open Go.RowKit Go.Lib

/-- a box whose cells are known -/
structure Bq (W : World) (B : Nat) (cs : List Value) : Prop where
  row : rowAt W B 0 cs
  lt : B < W.heap.size
theorem Bq.below {W W' : World} {B : Nat} {cs : List Value} (h : Bq W B cs) (hb : Below W.heap.size W W') : Bq W' B cs :=
  ⟨h.row.keep (hb.block _ h.lt), Nat.lt_of_lt_of_le h.lt hb.size⟩
theorem Bq.new (W : World) (cs : List Value) : Bq (W.alloc (.cells cs.toArray 25)) W.heap.size cs :=
  ⟨box_row W cs 25, by rw [alloc_size]; exact Nat.lt_succ_self _⟩

set_option maxHeartbeats 8000000 in
set_option maxRecDepth 100000 in
theorem members_walk (v x : V) (key : ByteArray) (cs cx : List Value) (w : World) (tb : Tb w) (hv : v.lies false w (Old w) cs) (hx : x.lies false w (Old w) cx) (hkey : key.size ≤ 140737488355328) :
    Calls Tryd.prog 6 #[.agg cs.toArray, .string key, .agg cx.toArray] w (BPost true w) := by
  obtain ⟨k, b, i, s, l, m⟩ := v
  obtain ⟨k', b', i', s', l', m'⟩ := x
  have hv0 := hv
  have hx0 := hx
  rw [V.lies] at hv hx
  obtain ⟨al, cl, bl, ol, am, cm, bm, om, rfl, hk, hi, hs, hal, ham, hl1, hm1, _⟩ := hv
  obtain ⟨al', cl', bl', ol', am', cm', bm', om', rfl, hk', hi', hs', hal', ham', _⟩ := hx
  have B0 : Below w.heap.size w ((w.alloc (.cells #[.int .i64 k, .bool b, .int .i64 i, .string s, .slice al l.length cl, .slice am m.length cm] 25)).alloc (.cells #[.int .i64 k', .bool b', .int .i64 i', .string s', .slice al' l'.length cl', .slice am' m'.length cm'] 25)) := two_below w _ _
  have XV : Bx ((w.alloc (.cells #[.int .i64 k, .bool b, .int .i64 i, .string s, .slice al l.length cl, .slice am m.length cm] 25)).alloc (.cells #[.int .i64 k', .bool b', .int .i64 i', .string s', .slice al' l'.length cl', .slice am' m'.length cm'] 25)) w.heap.size (V.mk k b i s l m) [.int .i64 k, .bool b, .int .i64 i, .string s, .slice al l.length cl, .slice am m.length cm] := (Bx.new hv0 (fun _ h => h)).below ((Below.refl _ _).alloc (Nat.le_refl _) _)
  have hx1 : (V.mk k' b' i' s' l' m').lies false (w.alloc (.cells #[.int .i64 k, .bool b, .int .i64 i, .string s, .slice al l.length cl, .slice am m.length cm] 25)) (Old (w.alloc (.cells #[.int .i64 k, .bool b, .int .i64 i, .string s, .slice al l.length cl, .slice am m.length cm] 25))) [.int .i64 k', .bool b', .int .i64 i', .string s', .slice al' l'.length cl', .slice am' m'.length cm'] := V.lies_keep (fun h => h) (fun y hy => Below.heap_alloc w _ y hy) (fun y hy => by show y < _; rw [alloc_size]; exact Nat.lt_succ_of_lt hy) _ hx0
  have XX : Bx ((w.alloc (.cells #[.int .i64 k, .bool b, .int .i64 i, .string s, .slice al l.length cl, .slice am m.length cm] 25)).alloc (.cells #[.int .i64 k', .bool b', .int .i64 i', .string s', .slice al' l'.length cl', .slice am' m'.length cm'] 25)) (w.heap.size + 1) (V.mk k' b' i' s' l' m') [.int .i64 k', .bool b', .int .i64 i', .string s', .slice al' l'.length cl', .slice am' m'.length cm'] := by
    have h := Bx.new hx1 (fun _ h => h)
    rw [alloc_size] at h
    exact h
  have HT : Hid (∀ W, Below w.heap.size w W → Tb W) := fun W hB => tb.below hB tb.z
  have HMM : Hid (∀ W, Below w.heap.size w W → (V.mk 5 false 0 ⟨#[]⟩ [] m).lies false W (Old W) [.int .i64 5, .bool false, .int .i64 0, .string ⟨#[]⟩, .slice none 0 0, .slice am m.length cm]) := fun W hB => lies_of (by constructor <;> omega) (by constructor <;> omega) (by decide) headed_nil ham (by rw [liesL]; trivial) (liesM_keep (fun h => h) (fun y hy => hB.block y hy) (fun y hy => Nat.lt_of_lt_of_le hy hB.size) _ hm1)
  have Br : Hid (Below w.heap.size w ((w.alloc (.cells #[.int .i64 k, .bool b, .int .i64 i, .string s, .slice al l.length cl, .slice am m.length cm] 25)).alloc (.cells #[.int .i64 k', .bool b', .int .i64 i', .string s', .slice al' l'.length cl', .slice am' m'.length cm'] 25))) := B0
  clear hv0 hx0 hx1 tb hal ham hal' ham' hl1 hm1 B0
  obtain ⟨d0, d1, d2, d3, d4, d5⟩ := row6z XV.row
  go_enter Tryd.func6, Tryd.ntmps6
  go_wp2_with fail
  clear d0 d1 d2 d3 d4 d5
  generalize ((w.alloc (.cells #[.int .i64 k, .bool b, .int .i64 i, .string s, .slice al l.length cl, .slice am m.length cm] 25)).alloc (.cells #[.int .i64 k', .bool b', .int .i64 i', .string s', .slice al' l'.length cl', .slice am' m'.length cm'] 25)) = w0 at *
  refine (beyond_any (V.mk k b i s l m) (Old w0) _ w0 XV.lies (fun _ h => h)).mono ?_
  rintro e w1 ⟨r, rfl, hr, bu⟩
  replace XV := XV.below bu
  replace XX := XX.below bu
  replace Br : Hid (Below w.heap.size w w1) := Br.out.trans (bu.mono Br.out.size)
  clear bu
  cases r with
  | true =>
    go_wp2_with fail
    go_ret
    exact ⟨rfl, Br.out⟩
  | false =>
  have hwv := hr rfl
  clear hr
  obtain ⟨f0, f1, f2, f3, f4, f5⟩ := row6z XX.row
  go_wp2_with fail
  clear f0 f1 f2 f3 f4 f5
  refine (beyond_any (V.mk k' b' i' s' l' m') (Old w1) _ w1 XX.lies (fun _ h => h)).mono ?_
  rintro e w2 ⟨r, rfl, hr, bu⟩
  replace XV := XV.below bu
  replace XX := XX.below bu
  replace Br : Hid (Below w.heap.size w w2) := Br.out.trans (bu.mono Br.out.size)
  clear bu
  cases r with
  | true =>
    go_wp2_with fail
    go_ret
    exact ⟨rfl, Br.out⟩
  | false =>
  have hwx := hr rfl
  clear hr
  have hwm : (V.mk 5 false 0 ⟨#[]⟩ [] m).wt ≤ 1099511627776 := by
    have z0 : (⟨#[]⟩ : ByteArray).size = 0 := rfl
    simp only [V.wt, wtL] at hwv ⊢; omega
  obtain ⟨d0, d1, d2, d3, d4, d5⟩ := row6z XV.row
  go_wp2_with fail
  refine (good_anyS 4 0 rfl (V.mk 5 false 0 ⟨#[]⟩ [] m) _ w2 (HMM.out w2 Br.out) hwm).mono ?_
  rintro e wa ⟨g, csu, rfl, hlu, hgd, bu⟩
  obtain ⟨gk, gb, gi, gs, gal, gnl, gcl, gam, gnm, gcm, rfl⟩ := V.ten hlu
  clear d0 d1 d2 d3 d4 d5
  have bA : Below w2.heap.size w2 (wa.alloc (.cells #[.int .i64 gk, .bool gb, .int .i64 gi, .string gs, .slice gal gnl gcl, .slice gam gnm gcm] 25)) := bu.alloc bu.size _
  replace XV := XV.below bA
  replace XX := XX.below bA
  have XM : Bx (wa.alloc (.cells #[.int .i64 gk, .bool gb, .int .i64 gi, .string gs, .slice gal gnl gcl, .slice gam gnm gcm] 25)) wa.heap.size g [.int .i64 gk, .bool gb, .int .i64 gi, .string gs, .slice gal gnl gcl, .slice gam gnm gcm] := Bx.new hlu (fun _ h => h.2)
  clear hlu
  replace Br : Hid (Below w.heap.size w (wa.alloc (.cells #[.int .i64 gk, .bool gb, .int .i64 gi, .string gs, .slice gal gnl gcl, .slice gam gnm gcm] 25))) := Br.out.trans (bA.mono Br.out.size)
  clear bA bu
  have HGw : Hid (g.wt ≤ 1000000) := Nat.le_trans (gd_wt 4 g hgd) Gw4
  clear hgd hwm HMM
  go_wp2_with fail
  generalize (wa.alloc (.cells #[.int .i64 gk, .bool gb, .int .i64 gi, .string gs, .slice gal gnl gcl, .slice gam gnm gcm] 25)) = wXM at *
  refine wp_region_held_drew (S := fun W => Below wXM.heap.size wXM W) (by kernel_rfl) ((Below.refl _ _).drew) (fun hHeld => ?_)
  (refine wpAnyH_take (i := 0) (v := ?_) rfl (by kernel_rfl) (by kernel_rfl) (by kernel_rfl) (fun _ _ _ h => h) (Or.inl ⟨by kernel_rfl, ?_⟩) (by assumption) ?_; rotate_left 1; (intro W0 hSw; obtain ⟨z0, z1, z2, z3, z4, z5⟩ := row6z (XM.below hSw).row; go_simp; (try with_reducible rfl)); (try simp only [Act.put, List.setIfInBounds_toArray, List.set_cons_zero, List.set_cons_succ]))
  (refine wpAnyH_take (i := 1) (v := ?_) rfl (by kernel_rfl) (by kernel_rfl) (by kernel_rfl) (fun _ _ _ h => h) (Or.inl ⟨by kernel_rfl, ?_⟩) (by assumption) ?_; rotate_left 1; (intro W0 hSw; (try dsimp only at hSw); go_simp; (try with_reducible rfl)); (try simp only [Act.put, List.setIfInBounds_toArray, List.set_cons_zero, List.set_cons_succ]))
  (refine wpAnyH_take (i := 3) (v := ?_) rfl (by kernel_rfl) (by kernel_rfl) (by kernel_rfl) (fun _ _ _ h => h) (Or.inl ⟨by kernel_rfl, ?_⟩) (by assumption) ?_; rotate_left 1; (intro W0 hSw; obtain ⟨z0, z1, z2, z3, z4, z5⟩ := row6z (XX.below hSw).row; go_simp; (try with_reducible rfl)); (try simp only [Act.put, List.setIfInBounds_toArray, List.set_cons_zero, List.set_cons_succ]))
  refine wpAnyH_ready (rs := [2]) (by kernel_rfl) (by simp) ?_
  refine AllReadyH.cons rfl (fun K hK => ?_) AllReadyH.nil
  go_simp
  refine (lplain_wasc key wXM.drew (by omega)).mono ?_
  rintro e wk1 ⟨t, rfl, ht, bu⟩
  have bk1 : Below wXM.heap.size wXM wk1 := ((Below.refl wXM.heap.size wXM).drew).trans (bu.mono (((Below.refl wXM.heap.size wXM).drew)).size)
  have htk : t.size ≤ 140737488355328 := Nat.le_trans ht.1 (by omega)
  clear ht
  clear bu
  go_simp
  refine hK.out _ _ bk1 (fun hHeld => ?_)
  clear hK K
  (try simp only [Act.put, List.setIfInBounds_toArray, List.set_cons_zero, List.set_cons_succ])
  refine wpAnyH_ready (rs := [4]) (by kernel_rfl) (by simp) ?_
  refine AllReadyH.cons rfl (fun K hK => ?_) AllReadyH.nil
  go_simp
  refine (good_anyS 4 0 rfl (V.mk k' b' i' s' l' m') _ wk1 (XX.below bk1).lies (by omega)).mono ?_
  rintro e wk2 ⟨h, csu, rfl, hlu, hhd, bu⟩
  have bk2 : Below wXM.heap.size wXM wk2 := bk1.trans (bu.mono (bk1).size)
  obtain ⟨pk, pb, pi, ps, pal, pnl, pcl, pam, pnm, pcm, rfl⟩ := V.ten hlu
  have HHw : Hid (h.wt ≤ 1000000) := Nat.le_trans (gd_wt 4 h hhd) Gw4
  have HH : Hid (h.lies false wk2 (Old wk2) [.int .i64 pk, .bool pb, .int .i64 pi, .string ps, .slice pal pnl pcl, .slice pam pnm pcm]) := V.lies_keep (fun h => h) (fun _ _ => rfl) (fun y hy => hy.2) _ hlu
  clear hlu hhd
  clear bu
  go_simp
  refine hK.out _ _ bk2 (fun hHeld => ?_)
  clear hK K
  (try simp only [Act.put, List.setIfInBounds_toArray, List.set_cons_zero, List.set_cons_succ])
  refine wpAnyH_ready (rs := [5]) (by kernel_rfl) (by simp) ?_
  refine AllReadyH.cons rfl (fun K hK => ?_) AllReadyH.nil
  go_simp
  refine (spoilt_any g h t _ _ wk2 (HT.out wk2 (Br.out.trans (bk2.mono Br.out.size))) (XM.below bk2).lies HH.out htk (by have := HGw.out; omega) (by have := HHw.out; omega)).mono ?_
  rintro e wk3 ⟨rfl, bu⟩
  have bk3 : Below wXM.heap.size wXM wk3 := bk2.trans (bu.mono (bk2).size)
  clear bu
  go_simp
  refine hK.out _ _ bk3 (fun hHeld => ?_)
  clear hK K
  (try simp only [Act.put, List.setIfInBounds_toArray, List.set_cons_zero, List.set_cons_succ])
  (refine wpAnyH_take (i := 6) (v := ?_) rfl (by kernel_rfl) (by kernel_rfl) (by kernel_rfl) (fun _ _ _ h => h) (Or.inl ⟨by kernel_rfl, ?_⟩) (by assumption) ?_; rotate_left 1; (intro W0 hSw; (try dsimp only at hSw); go_simp; (try with_reducible rfl)); (try simp only [Act.put, List.setIfInBounds_toArray, List.set_cons_zero, List.set_cons_succ]))
  refine wpAnyH_done (by kernel_rfl) ?_ _
  (try dsimp only [Act.put, List.getElem_toArray, List.getElem_cons_succ, List.getElem_cons_zero, List.setIfInBounds_toArray, List.set_cons_zero, List.set_cons_succ])
  clear XM HGw HHw HH hHeld
  replace XV := XV.below bk3
  replace XX := XX.below bk3
  replace Br : Hid (Below w.heap.size w wk3) := (Br.out.trans (bk3.mono Br.out.size))
  clear bk1 bk2 bk3
  obtain ⟨d0, d1, d2, d3, d4, d5⟩ := row6z XV.row
  go_wp2_with fail
  refine (roomy_any k b i s l m (Old wk3) _ wk3 XV.lies (fun _ h => h) (by omega)).mono ?_
  rintro e wc ⟨gl, cl2, gm, cm2, SL, SM, rfl, bu, oL, oM⟩
  clear d0 d1 d2 d3 d4 d5
  have bA : Below wk3.heap.size wk3 (wc.alloc (.cells #[.int .i64 k, .bool b, .int .i64 i, .string s, .slice (some ⟨gl, 0, none⟩) l.length cl2, .slice (some ⟨gm, 0, none⟩) m.length cm2] 25)) := bu.alloc bu.size _
  replace XV := XV.below bA
  replace XX := XX.below bA
  have XI : Bq (wc.alloc (.cells #[.int .i64 k, .bool b, .int .i64 i, .string s, .slice (some ⟨gl, 0, none⟩) l.length cl2, .slice (some ⟨gm, 0, none⟩) m.length cm2] 25)) wc.heap.size [.int .i64 k, .bool b, .int .i64 i, .string s, .slice (some ⟨gl, 0, none⟩) l.length cl2, .slice (some ⟨gm, 0, none⟩) m.length cm2] := Bq.new wc [.int .i64 k, .bool b, .int .i64 i, .string s, .slice (some ⟨gl, 0, none⟩) l.length cl2, .slice (some ⟨gm, 0, none⟩) m.length cm2]
  have RI : Roomy k b i s l m wk3.heap.size gl cl2 gm cm2 SL SM (wc.alloc (.cells #[.int .i64 k, .bool b, .int .i64 i, .string s, .slice (some ⟨gl, 0, none⟩) l.length cl2, .slice (some ⟨gm, 0, none⟩) m.length cm2] 25)) := Roomy.below ⟨oL, oM⟩ ((Below.refl _ _).alloc (Nat.le_refl _) _)
  generalize wk3.heap.size = NI at RI
  clear oL oM
  replace Br : Hid (Below w.heap.size w (wc.alloc (.cells #[.int .i64 k, .bool b, .int .i64 i, .string s, .slice (some ⟨gl, 0, none⟩) l.length cl2, .slice (some ⟨gm, 0, none⟩) m.length cm2] 25))) := Br.out.trans (bA.mono Br.out.size)
  clear bA bu
  obtain ⟨f0, f1, f2, f3, f4, f5⟩ := row6z XX.row
  go_wp2_with fail
  generalize (wc.alloc (.cells #[.int .i64 k, .bool b, .int .i64 i, .string s, .slice (some ⟨gl, 0, none⟩) l.length cl2, .slice (some ⟨gm, 0, none⟩) m.length cm2] 25)) = wXI at *
  refine (roomy_any k' b' i' s' l' m' (Old wXI) _ wXI XX.lies (fun _ h => h) (by omega)).mono ?_
  rintro e wd ⟨gl', cl2', gm', cm2', SL', SM', rfl, bu, oL, oM⟩
  clear f0 f1 f2 f3 f4 f5
  have bA : Below wXI.heap.size wXI (wd.alloc (.cells #[.int .i64 k', .bool b', .int .i64 i', .string s', .slice (some ⟨gl', 0, none⟩) l'.length cl2', .slice (some ⟨gm', 0, none⟩) m'.length cm2'] 25)) := bu.alloc bu.size _
  replace XV := XV.below bA
  replace XX := XX.below bA
  replace RI := RI.below bA
  replace XI := XI.below bA
  have XJ : Bq (wd.alloc (.cells #[.int .i64 k', .bool b', .int .i64 i', .string s', .slice (some ⟨gl', 0, none⟩) l'.length cl2', .slice (some ⟨gm', 0, none⟩) m'.length cm2'] 25)) wd.heap.size [.int .i64 k', .bool b', .int .i64 i', .string s', .slice (some ⟨gl', 0, none⟩) l'.length cl2', .slice (some ⟨gm', 0, none⟩) m'.length cm2'] := Bq.new wd [.int .i64 k', .bool b', .int .i64 i', .string s', .slice (some ⟨gl', 0, none⟩) l'.length cl2', .slice (some ⟨gm', 0, none⟩) m'.length cm2']
  have RJ : Roomy k' b' i' s' l' m' wXI.heap.size gl' cl2' gm' cm2' SL' SM' (wd.alloc (.cells #[.int .i64 k', .bool b', .int .i64 i', .string s', .slice (some ⟨gl', 0, none⟩) l'.length cl2', .slice (some ⟨gm', 0, none⟩) m'.length cm2'] 25)) := Roomy.below ⟨oL, oM⟩ ((Below.refl _ _).alloc (Nat.le_refl _) _)
  generalize wXI.heap.size = NJ at RJ
  clear oL oM
  replace Br : Hid (Below w.heap.size w (wd.alloc (.cells #[.int .i64 k', .bool b', .int .i64 i', .string s', .slice (some ⟨gl', 0, none⟩) l'.length cl2', .slice (some ⟨gm', 0, none⟩) m'.length cm2'] 25))) := Br.out.trans (bA.mono Br.out.size)
  clear bA bu
  obtain ⟨gp, hgp⟩ : ∃ gp, getV (V.mk k b i s l m) key = gp := ⟨_, rfl⟩
  obtain ⟨wv, hwv1⟩ : ∃ wv, withV (V.mk k b i s l m) key (V.mk k' b' i' s' l' m') = wv := ⟨_, rfl⟩
  obtain ⟨we, hwe1⟩ : ∃ we, withE (V.mk k b i s l m) key (V.mk k' b' i' s' l' m') = we := ⟨_, rfl⟩
  have C29 : Hid (∀ W, Below w.heap.size w W → Roomy k b i s l m NI gl cl2 gm cm2 SL SM W → Calls Tryd.prog 29 #[.agg #[.int .i64 k, .bool b, .int .i64 i, .string s, .slice (some ⟨gl, 0, none⟩) l.length cl2, .slice (some ⟨gm, 0, none⟩) m.length cm2]] W (AnPost (clnV (V.mk k b i s l m)) W)) := fun W hb h => clone_any (V.mk k b i s l m) true _ _ W (HT.out W hb) (h.lies hk hi hs) (fun _ h => h.2) (by omega)
  have C36 : Hid (∀ W B cs, Bx W B (V.mk k b i s l m) cs → Calls Tryd.prog 36 #[.agg cs.toArray] W (AnPost (clnV (V.mk k b i s l m)) W)) := fun W B cs h => rclone36_any (V.mk k b i s l m) false (Old W) cs W h.lies (fun _ h => h) (by omega)
  have C30 : Hid (∀ W, Below w.heap.size w W → Roomy k b i s l m NI gl cl2 gm cm2 SL SM W → Calls Tryd.prog 30 #[.agg #[.int .i64 k, .bool b, .int .i64 i, .string s, .slice (some ⟨gl, 0, none⟩) l.length cl2, .slice (some ⟨gm, 0, none⟩) m.length cm2], .string key] W (GtPost gp W)) := fun W hb h => by rw [← hgp]; exact get_any (V.mk k b i s l m) key true _ _ W (HT.out W hb) (h.lies hk hi hs) (fun _ h => h.2) (by omega)
  have C31 : Hid (∀ W B cs, Bx W B (V.mk k b i s l m) cs → Calls Tryd.prog 31 #[.agg cs.toArray, .string key] W (GtPost gp W)) := fun W B cs h => by rw [← hgp]; exact rget_any (V.mk k b i s l m) key false (Old W) cs W h.lies (fun _ h => h) (by omega)
  have C32 : Hid (∀ W, Below w.heap.size w W → Roomy k b i s l m NI gl cl2 gm cm2 SL SM W → Roomy k' b' i' s' l' m' NJ gl' cl2' gm' cm2' SL' SM' W → Calls Tryd.prog 32 #[.agg #[.int .i64 k, .bool b, .int .i64 i, .string s, .slice (some ⟨gl, 0, none⟩) l.length cl2, .slice (some ⟨gm, 0, none⟩) m.length cm2], .string key, .agg #[.int .i64 k', .bool b', .int .i64 i', .string s', .slice (some ⟨gl', 0, none⟩) l'.length cl2', .slice (some ⟨gm', 0, none⟩) m'.length cm2']] W (VePost wv we W)) := fun W hb h h' => by rw [← hwv1, ← hwe1]; exact with_any (V.mk k b i s l m) (V.mk k' b' i' s' l' m') key true true _ _ _ _ W (HT.out W hb) (h.lies hk hi hs) (h'.lies hk' hi' hs') (fun _ h => h.2) (fun _ h => h.2) hkey (by omega) (by omega)
  have C33 : Hid (∀ W B cs B' cs', Bx W B (V.mk k b i s l m) cs → Bx W B' (V.mk k' b' i' s' l' m') cs' → Calls Tryd.prog 33 #[.agg cs.toArray, .string key, .agg cs'.toArray] W (VePost wv we W)) := fun W B cs B' cs' h h' => by rw [← hwv1, ← hwe1]; exact rwith_any (V.mk k b i s l m) (V.mk k' b' i' s' l' m') key false false (Old W) (Old W) cs cs' W h.lies h'.lies (fun _ h => h) (fun _ h => h) hkey (by omega) (by omega)
  have C34 : Hid (∀ W, Below w.heap.size w W → Roomy k b i s l m NI gl cl2 gm cm2 SL SM W → Calls Tryd.prog 34 #[.agg #[.int .i64 k, .bool b, .int .i64 i, .string s, .slice (some ⟨gl, 0, none⟩) l.length cl2, .slice (some ⟨gm, 0, none⟩) m.length cm2], .string key] W (AnPost (woutV (V.mk k b i s l m) key) W)) := fun W hb h => without_any (V.mk k b i s l m) key true _ _ W (HT.out W hb) (h.lies hk hi hs) (fun _ h => h.2) (by omega)
  have C37 : Hid (∀ W B cs, Bx W B (V.mk k b i s l m) cs → Calls Tryd.prog 37 #[.agg cs.toArray, .string key] W (AnPost (woutV (V.mk k b i s l m) key) W)) := fun W B cs h => rwithout_any (V.mk k b i s l m) key false (Old W) cs W h.lies (fun _ h => h) (by omega)
  have C35 : Hid (∀ W u S S' cs cs', V.lies false W S u cs → V.lies false W S' u cs' → (∀ b, S b → b < W.heap.size) → (∀ b, S' b → b < W.heap.size) → Calls Tryd.prog 35 #[.agg cs.toArray, .agg cs'.toArray] W (BPost true W)) := fun W u S S' cs cs' h h' k k' => by
    have := same_any u false false u S S' cs cs' W h h' k k'
    rwa [V.eqB_refl] at this
  have C13 : Hid (∀ W B, Roomy k b i s l m NI gl cl2 gm cm2 SL SM W → Bx W B (V.mk k b i s l m) [.int .i64 k, .bool b, .int .i64 i, .string s, .slice al l.length cl, .slice am m.length cm] → Calls Tryd.prog 13 #[.agg #[.int .i64 k, .bool b, .int .i64 i, .string s, .slice (some ⟨gl, 0, none⟩) l.length cl2, .slice (some ⟨gm, 0, none⟩) m.length cm2], .agg #[.int .i64 k, .bool b, .int .i64 i, .string s, .slice al l.length cl, .slice am m.length cm]] W (BPost true W)) := fun W B h h' => kept_any k b i s l m NI gl cl2 gm cm2 SL SM (Old W) _ W h h'.lies (fun _ h => h) (by omega)
  have C14 : Hid (∀ W B, Roomy k' b' i' s' l' m' NJ gl' cl2' gm' cm2' SL' SM' W → Bx W B (V.mk k' b' i' s' l' m') [.int .i64 k', .bool b', .int .i64 i', .string s', .slice al' l'.length cl', .slice am' m'.length cm'] → Calls Tryd.prog 13 #[.agg #[.int .i64 k', .bool b', .int .i64 i', .string s', .slice (some ⟨gl', 0, none⟩) l'.length cl2', .slice (some ⟨gm', 0, none⟩) m'.length cm2'], .agg #[.int .i64 k', .bool b', .int .i64 i', .string s', .slice al' l'.length cl', .slice am' m'.length cm']] W (BPost true W)) := fun W B h h' => kept_any k' b' i' s' l' m' NJ gl' cl2' gm' cm2' SL' SM' (Old W) _ W h h'.lies (fun _ h => h) (by omega)
  clear hgp hwv1 hwe1
  generalize clnV (V.mk k b i s l m) = cp at *
  generalize woutV (V.mk k b i s l m) key = op at *
  obtain ⟨gv, gb⟩ := gp
  obtain ⟨d0, d1, d2, d3, d4, d5⟩ := row6z XI.row
  go_wp2_with fail
  generalize (wd.alloc (.cells #[.int .i64 k', .bool b', .int .i64 i', .string s', .slice (some ⟨gl', 0, none⟩) l'.length cl2', .slice (some ⟨gm', 0, none⟩) m'.length cm2'] 25)) = wXJ at *
  refine (C29.out wXJ Br.out RI).mono ?_
  rintro e we1 ⟨csu, rfl, hlu, bu⟩
  obtain ⟨ck, cb, ci, cs, cal, cnl, ccl, cam, cnm, ccm, rfl⟩ := V.ten hlu
  clear d0 d1 d2 d3 d4 d5
  have bA : Below wXJ.heap.size wXJ (we1.alloc (.cells #[.int .i64 ck, .bool cb, .int .i64 ci, .string cs, .slice cal cnl ccl, .slice cam cnm ccm] 25)) := bu.alloc bu.size _
  replace XV := XV.below bA
  replace XX := XX.below bA
  replace RI := RI.below bA
  replace XI := XI.below bA
  replace RJ := RJ.below bA
  replace XJ := XJ.below bA
  have XC : Bx (we1.alloc (.cells #[.int .i64 ck, .bool cb, .int .i64 ci, .string cs, .slice cal cnl ccl, .slice cam cnm ccm] 25)) we1.heap.size cp [.int .i64 ck, .bool cb, .int .i64 ci, .string cs, .slice cal cnl ccl, .slice cam cnm ccm] := Bx.new hlu (fun _ h => h.2)
  clear hlu
  replace Br : Hid (Below w.heap.size w (we1.alloc (.cells #[.int .i64 ck, .bool cb, .int .i64 ci, .string cs, .slice cal cnl ccl, .slice cam cnm ccm] 25))) := Br.out.trans (bA.mono Br.out.size)
  clear bA bu
  obtain ⟨d0, d1, d2, d3, d4, d5⟩ := row6z XI.row
  go_wp2_with fail
  generalize (we1.alloc (.cells #[.int .i64 ck, .bool cb, .int .i64 ci, .string cs, .slice cal cnl ccl, .slice cam cnm ccm] 25)) = wXC at *
  refine (C30.out wXC Br.out RI).mono ?_
  rintro e wf ⟨csu, rfl, hlu, bu⟩
  obtain ⟨gk, gb, gi, gs, gal, gnl, gcl, gam, gnm, gcm, rfl⟩ := V.ten hlu
  clear d0 d1 d2 d3 d4 d5
  have bA : Below wXC.heap.size wXC (wf.alloc (.cells #[.int .i64 gk, .bool gb, .int .i64 gi, .string gs, .slice gal gnl gcl, .slice gam gnm gcm] 25)) := bu.alloc bu.size _
  replace XV := XV.below bA
  replace XX := XX.below bA
  replace RI := RI.below bA
  replace XI := XI.below bA
  replace RJ := RJ.below bA
  replace XJ := XJ.below bA
  replace XC := XC.below bA
  have XG : Bx (wf.alloc (.cells #[.int .i64 gk, .bool gb, .int .i64 gi, .string gs, .slice gal gnl gcl, .slice gam gnm gcm] 25)) wf.heap.size gv [.int .i64 gk, .bool gb, .int .i64 gi, .string gs, .slice gal gnl gcl, .slice gam gnm gcm] := Bx.new hlu (fun _ h => h.2)
  clear hlu
  replace Br : Hid (Below w.heap.size w (wf.alloc (.cells #[.int .i64 gk, .bool gb, .int .i64 gi, .string gs, .slice gal gnl gcl, .slice gam gnm gcm] 25))) := Br.out.trans (bA.mono Br.out.size)
  clear bA bu
  obtain ⟨d0, d1, d2, d3, d4, d5⟩ := row6z XV.row
  go_wp2_with fail
  generalize (wf.alloc (.cells #[.int .i64 gk, .bool gb, .int .i64 gi, .string gs, .slice gal gnl gcl, .slice gam gnm gcm] 25)) = wXG at *
  refine (C31.out wXG _ _ XV).mono ?_
  rintro e wg ⟨csu, rfl, hlu, bu⟩
  obtain ⟨zk, zb, zi, zs, zal, znl, zcl, zam, znm, zcm, rfl⟩ := V.ten hlu
  clear d0 d1 d2 d3 d4 d5
  have bA : Below wXG.heap.size wXG (wg.alloc (.cells #[.int .i64 zk, .bool zb, .int .i64 zi, .string zs, .slice zal znl zcl, .slice zam znm zcm] 25)) := bu.alloc bu.size _
  replace XV := XV.below bA
  replace XX := XX.below bA
  replace RI := RI.below bA
  replace XI := XI.below bA
  replace RJ := RJ.below bA
  replace XJ := XJ.below bA
  replace XC := XC.below bA
  replace XG := XG.below bA
  have XH : Bx (wg.alloc (.cells #[.int .i64 zk, .bool zb, .int .i64 zi, .string zs, .slice zal znl zcl, .slice zam znm zcm] 25)) wg.heap.size gv [.int .i64 zk, .bool zb, .int .i64 zi, .string zs, .slice zal znl zcl, .slice zam znm zcm] := Bx.new hlu (fun _ h => h.2)
  clear hlu
  replace Br : Hid (Below w.heap.size w (wg.alloc (.cells #[.int .i64 zk, .bool zb, .int .i64 zi, .string zs, .slice zal znl zcl, .slice zam znm zcm] 25))) := Br.out.trans (bA.mono Br.out.size)
  clear bA bu
  obtain ⟨d0, d1, d2, d3, d4, d5⟩ := row6z XI.row
  obtain ⟨f0, f1, f2, f3, f4, f5⟩ := row6z XJ.row
  go_wp2_with fail
  generalize (wg.alloc (.cells #[.int .i64 zk, .bool zb, .int .i64 zi, .string zs, .slice zal znl zcl, .slice zam znm zcm] 25)) = wXH at *
  refine (C32.out wXH Br.out RI RJ).mono ?_
  rintro e wh ⟨csu, rfl, hlu, bu⟩
  obtain ⟨yk, yb, yi, ys, yal, ynl, ycl, yam, ynm, ycm, rfl⟩ := V.ten hlu
  clear d0 d1 d2 d3 d4 d5
  clear f0 f1 f2 f3 f4 f5
  have bA : Below wXH.heap.size wXH (wh.alloc (.cells #[.int .i64 yk, .bool yb, .int .i64 yi, .string ys, .slice yal ynl ycl, .slice yam ynm ycm] 25)) := bu.alloc bu.size _
  replace XV := XV.below bA
  replace XX := XX.below bA
  replace RI := RI.below bA
  replace XI := XI.below bA
  replace RJ := RJ.below bA
  replace XJ := XJ.below bA
  replace XC := XC.below bA
  replace XG := XG.below bA
  replace XH := XH.below bA
  have XA : Bx (wh.alloc (.cells #[.int .i64 yk, .bool yb, .int .i64 yi, .string ys, .slice yal ynl ycl, .slice yam ynm ycm] 25)) wh.heap.size wv [.int .i64 yk, .bool yb, .int .i64 yi, .string ys, .slice yal ynl ycl, .slice yam ynm ycm] := Bx.new hlu (fun _ h => h.2)
  clear hlu
  replace Br : Hid (Below w.heap.size w (wh.alloc (.cells #[.int .i64 yk, .bool yb, .int .i64 yi, .string ys, .slice yal ynl ycl, .slice yam ynm ycm] 25))) := Br.out.trans (bA.mono Br.out.size)
  clear bA bu
  obtain ⟨d0, d1, d2, d3, d4, d5⟩ := row6z XV.row
  obtain ⟨f0, f1, f2, f3, f4, f5⟩ := row6z XX.row
  go_wp2_with fail
  generalize (wh.alloc (.cells #[.int .i64 yk, .bool yb, .int .i64 yi, .string ys, .slice yal ynl ycl, .slice yam ynm ycm] 25)) = wXA at *
  refine (C33.out wXA _ _ _ _ XV XX).mono ?_
  rintro e wi ⟨csu, rfl, hlu, bu⟩
  obtain ⟨uk, ub, ui, us, ual, unl, ucl, uam, unm, ucm, rfl⟩ := V.ten hlu
  clear d0 d1 d2 d3 d4 d5
  clear f0 f1 f2 f3 f4 f5
  have bA : Below wXA.heap.size wXA (wi.alloc (.cells #[.int .i64 uk, .bool ub, .int .i64 ui, .string us, .slice ual unl ucl, .slice uam unm ucm] 25)) := bu.alloc bu.size _
  replace XV := XV.below bA
  replace XX := XX.below bA
  replace RI := RI.below bA
  replace XI := XI.below bA
  replace RJ := RJ.below bA
  replace XJ := XJ.below bA
  replace XC := XC.below bA
  replace XG := XG.below bA
  replace XH := XH.below bA
  replace XA := XA.below bA
  have XU : Bx (wi.alloc (.cells #[.int .i64 uk, .bool ub, .int .i64 ui, .string us, .slice ual unl ucl, .slice uam unm ucm] 25)) wi.heap.size wv [.int .i64 uk, .bool ub, .int .i64 ui, .string us, .slice ual unl ucl, .slice uam unm ucm] := Bx.new hlu (fun _ h => h.2)
  clear hlu
  replace Br : Hid (Below w.heap.size w (wi.alloc (.cells #[.int .i64 uk, .bool ub, .int .i64 ui, .string us, .slice ual unl ucl, .slice uam unm ucm] 25))) := Br.out.trans (bA.mono Br.out.size)
  clear bA bu
  obtain ⟨d0, d1, d2, d3, d4, d5⟩ := row6z XI.row
  go_wp2_with fail
  generalize (wi.alloc (.cells #[.int .i64 uk, .bool ub, .int .i64 ui, .string us, .slice ual unl ucl, .slice uam unm ucm] 25)) = wXU at *
  refine (C34.out wXU Br.out RI).mono ?_
  rintro e wj ⟨csu, rfl, hlu, bu⟩
  obtain ⟨rk, rb, ri, rs, ral, rnl, rcl, ram, rnm, rcm, rfl⟩ := V.ten hlu
  clear d0 d1 d2 d3 d4 d5
  have bA : Below wXU.heap.size wXU (wj.alloc (.cells #[.int .i64 rk, .bool rb, .int .i64 ri, .string rs, .slice ral rnl rcl, .slice ram rnm rcm] 25)) := bu.alloc bu.size _
  replace XV := XV.below bA
  replace XX := XX.below bA
  replace RI := RI.below bA
  replace XI := XI.below bA
  replace RJ := RJ.below bA
  replace XJ := XJ.below bA
  replace XC := XC.below bA
  replace XG := XG.below bA
  replace XH := XH.below bA
  replace XA := XA.below bA
  replace XU := XU.below bA
  have XO : Bx (wj.alloc (.cells #[.int .i64 rk, .bool rb, .int .i64 ri, .string rs, .slice ral rnl rcl, .slice ram rnm rcm] 25)) wj.heap.size op [.int .i64 rk, .bool rb, .int .i64 ri, .string rs, .slice ral rnl rcl, .slice ram rnm rcm] := Bx.new hlu (fun _ h => h.2)
  clear hlu
  replace Br : Hid (Below w.heap.size w (wj.alloc (.cells #[.int .i64 rk, .bool rb, .int .i64 ri, .string rs, .slice ral rnl rcl, .slice ram rnm rcm] 25))) := Br.out.trans (bA.mono Br.out.size)
  clear bA bu
  go_wp2_with fail
  generalize (wj.alloc (.cells #[.int .i64 rk, .bool rb, .int .i64 ri, .string rs, .slice ral rnl rcl, .slice ram rnm rcm] 25)) = wz at *
  clear C29 C30 C31 C32 C33 C34
  refine wp_region_held_drew (S := fun W => Below wz.heap.size wz W) (by kernel_rfl) ((Below.refl _ _).drew) (fun hHeld => ?_)
  (refine wpAnyH_take (i := 0) (v := ?_) rfl (by kernel_rfl) (by kernel_rfl) (by kernel_rfl) (fun _ _ _ h => h) (Or.inl ⟨by kernel_rfl, ?_⟩) (by assumption) ?_; rotate_left 1; (intro W0 hSw; obtain ⟨z0, z1, z2, z3, z4, z5⟩ := row6z (XC.below hSw).row; go_simp; (try with_reducible rfl)); (try simp only [Act.put, List.setIfInBounds_toArray, List.set_cons_zero, List.set_cons_succ]))
  (refine wpAnyH_take (i := 1) (v := ?_) rfl (by kernel_rfl) (by kernel_rfl) (by kernel_rfl) (fun _ _ _ h => h) (Or.inl ⟨by kernel_rfl, ?_⟩) (by assumption) ?_; rotate_left 1; (intro W0 hSw; obtain ⟨z0, z1, z2, z3, z4, z5⟩ := row6z (XV.below hSw).row; go_simp; (try with_reducible rfl)); (try simp only [Act.put, List.setIfInBounds_toArray, List.set_cons_zero, List.set_cons_succ]))
  refine wpAnyH_ready (rs := [2]) (by kernel_rfl) (by simp) ?_
  refine AllReadyH.cons rfl (fun K hK => ?_) AllReadyH.nil
  go_simp
  refine (C36.out wz.drew _ _ (XV.below ((Below.refl wz.heap.size wz).drew))).mono ?_
  rintro e wk11 ⟨csu, rfl, hlu, bu⟩
  have bk11 : Below wz.heap.size wz wk11 := ((Below.refl wz.heap.size wz).drew).trans (bu.mono (((Below.refl wz.heap.size wz).drew)).size)
  obtain ⟨jk, jb, ji, js, jal, jnl, jcl, jam, jnm, jcm, rfl⟩ := V.ten hlu
  have HI2 : Hid (cp.lies false wk11 (Old wk11) [.int .i64 jk, .bool jb, .int .i64 ji, .string js, .slice jal jnl jcl, .slice jam jnm jcm]) := V.lies_keep (fun h => h) (fun _ _ => rfl) (fun y hy => hy.2) _ hlu
  clear hlu
  clear bu
  go_simp
  refine hK.out _ _ bk11 (fun hHeld => ?_)
  clear hK K
  (try simp only [Act.put, List.setIfInBounds_toArray, List.set_cons_zero, List.set_cons_succ])
  refine wpAnyH_ready (rs := [3]) (by kernel_rfl) (by simp) ?_
  refine AllReadyH.cons rfl (fun K hK => ?_) AllReadyH.nil
  go_simp
  refine (C35.out wk11 cp _ _ _ _ (XC.below bk11).lies HI2.out (fun _ h => h) (fun _ h => h)).mono ?_
  rintro e wk12 ⟨rfl, bu⟩
  have bk12 : Below wz.heap.size wz wk12 := bk11.trans (bu.mono (bk11).size)
  clear bu
  go_simp
  refine hK.out _ _ bk12 (fun hHeld => ?_)
  clear hK K
  (try simp only [Act.put, List.setIfInBounds_toArray, List.set_cons_zero, List.set_cons_succ])
  (refine wpAnyH_take (i := 4) (v := ?_) rfl (by kernel_rfl) (by kernel_rfl) (by kernel_rfl) (fun _ _ _ h => h) (Or.inl ⟨by kernel_rfl, ?_⟩) (by assumption) ?_; rotate_left 1; (intro W0 hSw; (try dsimp only at hSw); go_simp; (try with_reducible rfl)); (try simp only [Act.put, List.setIfInBounds_toArray, List.set_cons_zero, List.set_cons_succ]))
  (refine wpAnyH_take (i := 5) (v := ?_) rfl (by kernel_rfl) (by kernel_rfl) (by kernel_rfl) (fun _ _ _ h => h) (Or.inl ⟨by kernel_rfl, ?_⟩) (by assumption) ?_; rotate_left 1; (intro W0 hSw; (try dsimp only at hSw); go_simp; (try with_reducible rfl)); (try simp only [Act.put, List.setIfInBounds_toArray, List.set_cons_zero, List.set_cons_succ]))
  (refine wpAnyH_take (i := 6) (v := ?_) rfl (by kernel_rfl) (by kernel_rfl) (by kernel_rfl) (fun _ _ _ h => h) (Or.inl ⟨by kernel_rfl, ?_⟩) (by assumption) ?_; rotate_left 1; (intro W0 hSw; obtain ⟨z0, z1, z2, z3, z4, z5⟩ := row6z (XG.below hSw).row; go_simp; (try with_reducible rfl)); (try simp only [Act.put, List.setIfInBounds_toArray, List.set_cons_zero, List.set_cons_succ]))
  (refine wpAnyH_take (i := 7) (v := ?_) rfl (by kernel_rfl) (by kernel_rfl) (by kernel_rfl) (fun _ _ _ h => h) (Or.inl ⟨by kernel_rfl, ?_⟩) (by assumption) ?_; rotate_left 1; (intro W0 hSw; obtain ⟨z0, z1, z2, z3, z4, z5⟩ := row6z (XH.below hSw).row; go_simp; (try with_reducible rfl)); (try simp only [Act.put, List.setIfInBounds_toArray, List.set_cons_zero, List.set_cons_succ]))
  refine wpAnyH_ready (rs := [8]) (by kernel_rfl) (by simp) ?_
  refine AllReadyH.cons rfl (fun K hK => ?_) AllReadyH.nil
  go_simp
  refine (C35.out wk12 gv _ _ _ _ (XG.below bk12).lies (XH.below bk12).lies (fun _ h => h) (fun _ h => h)).mono ?_
  rintro e wk13 ⟨rfl, bu⟩
  have bk13 : Below wz.heap.size wz wk13 := bk12.trans (bu.mono (bk12).size)
  clear bu
  go_simp
  refine hK.out _ _ bk13 (fun hHeld => ?_)
  clear hK K
  (try simp only [Act.put, List.setIfInBounds_toArray, List.set_cons_zero, List.set_cons_succ])
  (refine wpAnyH_take (i := 9) (v := ?_) rfl (by kernel_rfl) (by kernel_rfl) (by kernel_rfl) (fun _ _ _ h => h) (Or.inl ⟨by kernel_rfl, ?_⟩) (by assumption) ?_; rotate_left 1; (intro W0 hSw; (try dsimp only at hSw); go_simp; (try with_reducible rfl)); (try simp only [Act.put, List.setIfInBounds_toArray, List.set_cons_zero, List.set_cons_succ]))
  (refine wpAnyH_take (i := 10) (v := ?_) rfl (by kernel_rfl) (by kernel_rfl) (by kernel_rfl) (fun _ _ _ h => h) (Or.inl ⟨by kernel_rfl, ?_⟩) (by assumption) ?_; rotate_left 1; (intro W0 hSw; (try dsimp only at hSw); go_simp; (try with_reducible rfl)); (try simp only [Act.put, List.setIfInBounds_toArray, List.set_cons_zero, List.set_cons_succ]))
  (refine wpAnyH_take (i := 11) (v := ?_) rfl (by kernel_rfl) (by kernel_rfl) (by kernel_rfl) (fun _ _ _ h => h) (Or.inl ⟨by kernel_rfl, ?_⟩) (by assumption) ?_; rotate_left 1; (intro W0 hSw; (try dsimp only at hSw); go_simp; (try with_reducible rfl)); (try simp only [Act.put, List.setIfInBounds_toArray, List.set_cons_zero, List.set_cons_succ]))
  (refine wpAnyH_take (i := 12) (v := ?_) rfl (by kernel_rfl) (by kernel_rfl) (by kernel_rfl) (fun _ _ _ h => h) (Or.inl ⟨by kernel_rfl, ?_⟩) (by assumption) ?_; rotate_left 1; (intro W0 hSw; (try dsimp only at hSw); go_simp; (try with_reducible rfl)); (try simp only [Act.put, List.setIfInBounds_toArray, List.set_cons_zero, List.set_cons_succ]))
  (refine wpAnyH_take (i := 13) (v := ?_) rfl (by kernel_rfl) (by kernel_rfl) (by kernel_rfl) (fun _ _ _ h => h) (Or.inl ⟨by kernel_rfl, ?_⟩) (by assumption) ?_; rotate_left 1; (intro W0 hSw; (try dsimp only at hSw); go_simp; (try with_reducible rfl)); (try simp only [Act.put, List.setIfInBounds_toArray, List.set_cons_zero, List.set_cons_succ]))
  (refine wpAnyH_take (i := 14) (v := .bool false) rfl (by kernel_rfl) (by kernel_rfl) (by kernel_rfl) (fun _ _ _ h => h) (Or.inl ⟨by kernel_rfl, ?_⟩) (by assumption) ?_; (intro W0 hSw; cases gb <;> go_simp); (try simp only [Act.put, List.setIfInBounds_toArray, List.set_cons_zero, List.set_cons_succ]))
  (refine wpAnyH_take (i := 15) (v := ?_) rfl (by kernel_rfl) (by kernel_rfl) (by kernel_rfl) (fun _ _ _ h => h) (Or.inl ⟨by kernel_rfl, ?_⟩) (by assumption) ?_; rotate_left 1; (intro W0 hSw; (try dsimp only at hSw); go_simp; (try with_reducible rfl)); (try simp only [Act.put, List.setIfInBounds_toArray, List.set_cons_zero, List.set_cons_succ]))
  (refine wpAnyH_take (i := 16) (v := ?_) rfl (by kernel_rfl) (by kernel_rfl) (by kernel_rfl) (fun _ _ _ h => h) (Or.inl ⟨by kernel_rfl, ?_⟩) (by assumption) ?_; rotate_left 1; (intro W0 hSw; (try dsimp only at hSw); go_simp; (try with_reducible rfl)); (try simp only [Act.put, List.setIfInBounds_toArray, List.set_cons_zero, List.set_cons_succ]))
  (refine wpAnyH_take (i := 17) (v := ?_) rfl (by kernel_rfl) (by kernel_rfl) (by kernel_rfl) (fun _ _ _ h => h) (Or.inl ⟨by kernel_rfl, ?_⟩) (by assumption) ?_; rotate_left 1; (intro W0 hSw; obtain ⟨z0, z1, z2, z3, z4, z5⟩ := row6z (XA.below hSw).row; go_simp; (try with_reducible rfl)); (try simp only [Act.put, List.setIfInBounds_toArray, List.set_cons_zero, List.set_cons_succ]))
  (refine wpAnyH_take (i := 18) (v := ?_) rfl (by kernel_rfl) (by kernel_rfl) (by kernel_rfl) (fun _ _ _ h => h) (Or.inl ⟨by kernel_rfl, ?_⟩) (by assumption) ?_; rotate_left 1; (intro W0 hSw; obtain ⟨z0, z1, z2, z3, z4, z5⟩ := row6z (XU.below hSw).row; go_simp; (try with_reducible rfl)); (try simp only [Act.put, List.setIfInBounds_toArray, List.set_cons_zero, List.set_cons_succ]))
  refine wpAnyH_ready (rs := [19]) (by kernel_rfl) (by simp) ?_
  refine AllReadyH.cons rfl (fun K hK => ?_) AllReadyH.nil
  go_simp
  refine (C35.out wk13 wv _ _ _ _ (XA.below bk13).lies (XU.below bk13).lies (fun _ h => h) (fun _ h => h)).mono ?_
  rintro e wk14 ⟨rfl, bu⟩
  have bk14 : Below wz.heap.size wz wk14 := bk13.trans (bu.mono (bk13).size)
  clear bu
  go_simp
  refine hK.out _ _ bk14 (fun hHeld => ?_)
  clear hK K
  (try simp only [Act.put, List.setIfInBounds_toArray, List.set_cons_zero, List.set_cons_succ])
  (refine wpAnyH_take (i := 20) (v := ?_) rfl (by kernel_rfl) (by kernel_rfl) (by kernel_rfl) (fun _ _ _ h => h) (Or.inl ⟨by kernel_rfl, ?_⟩) (by assumption) ?_; rotate_left 1; (intro W0 hSw; (try dsimp only at hSw); go_simp; (try with_reducible rfl)); (try simp only [Act.put, List.setIfInBounds_toArray, List.set_cons_zero, List.set_cons_succ]))
  (refine wpAnyH_take (i := 21) (v := ?_) rfl (by kernel_rfl) (by kernel_rfl) (by kernel_rfl) (fun _ _ _ h => h) (Or.inl ⟨by kernel_rfl, ?_⟩) (by assumption) ?_; rotate_left 1; (intro W0 hSw; (try dsimp only at hSw); go_simp; (try with_reducible rfl)); (try simp only [Act.put, List.setIfInBounds_toArray, List.set_cons_zero, List.set_cons_succ]))
  (refine wpAnyH_take (i := 22) (v := ?_) rfl (by kernel_rfl) (by kernel_rfl) (by kernel_rfl) (fun _ _ _ h => h) (Or.inl ⟨by kernel_rfl, ?_⟩) (by assumption) ?_; rotate_left 1; (intro W0 hSw; (try dsimp only at hSw); go_simp; (try with_reducible rfl)); (try simp only [Act.put, List.setIfInBounds_toArray, List.set_cons_zero, List.set_cons_succ]))
  (refine wpAnyH_take (i := 23) (v := ?_) rfl (by kernel_rfl) (by kernel_rfl) (by kernel_rfl) (fun _ _ _ h => h) (Or.inl ⟨by kernel_rfl, ?_⟩) (by assumption) ?_; rotate_left 1; (intro W0 hSw; (try dsimp only at hSw); go_simp; (try with_reducible rfl)); (try simp only [Act.put, List.setIfInBounds_toArray, List.set_cons_zero, List.set_cons_succ]))
  (refine wpAnyH_take (i := 24) (v := ?_) rfl (by kernel_rfl) (by kernel_rfl) (by kernel_rfl) (fun _ _ _ h => h) (Or.inl ⟨by kernel_rfl, ?_⟩) (by assumption) ?_; rotate_left 1; (intro W0 hSw; (try dsimp only at hSw); go_simp; (try with_reducible rfl)); (try simp only [Act.put, List.setIfInBounds_toArray, List.set_cons_zero, List.set_cons_succ]))
  (refine wpAnyH_take (i := 25) (v := .bool false) rfl (by kernel_rfl) (by kernel_rfl) (by kernel_rfl) (fun _ _ _ h => h) (Or.inl ⟨by kernel_rfl, ?_⟩) (by assumption) ?_; (intro W0 hSw; go_simp); (try simp only [Act.put, List.setIfInBounds_toArray, List.set_cons_zero, List.set_cons_succ]))
  (refine wpAnyH_take (i := 26) (v := ?_) rfl (by kernel_rfl) (by kernel_rfl) (by kernel_rfl) (fun _ _ _ h => h) (Or.inl ⟨by kernel_rfl, ?_⟩) (by assumption) ?_; rotate_left 1; (intro W0 hSw; (try dsimp only at hSw); go_simp; (try with_reducible rfl)); (try simp only [Act.put, List.setIfInBounds_toArray, List.set_cons_zero, List.set_cons_succ]))
  (refine wpAnyH_take (i := 27) (v := ?_) rfl (by kernel_rfl) (by kernel_rfl) (by kernel_rfl) (fun _ _ _ h => h) (Or.inl ⟨by kernel_rfl, ?_⟩) (by assumption) ?_; rotate_left 1; (intro W0 hSw; (try dsimp only at hSw); go_simp; (try with_reducible rfl)); (try simp only [Act.put, List.setIfInBounds_toArray, List.set_cons_zero, List.set_cons_succ]))
  (refine wpAnyH_take (i := 28) (v := ?_) rfl (by kernel_rfl) (by kernel_rfl) (by kernel_rfl) (fun _ _ _ h => h) (Or.inl ⟨by kernel_rfl, ?_⟩) (by assumption) ?_; rotate_left 1; (intro W0 hSw; obtain ⟨z0, z1, z2, z3, z4, z5⟩ := row6z (XO.below hSw).row; go_simp; (try with_reducible rfl)); (try simp only [Act.put, List.setIfInBounds_toArray, List.set_cons_zero, List.set_cons_succ]))
  (refine wpAnyH_take (i := 29) (v := ?_) rfl (by kernel_rfl) (by kernel_rfl) (by kernel_rfl) (fun _ _ _ h => h) (Or.inl ⟨by kernel_rfl, ?_⟩) (by assumption) ?_; rotate_left 1; (intro W0 hSw; obtain ⟨z0, z1, z2, z3, z4, z5⟩ := row6z (XV.below hSw).row; go_simp; (try with_reducible rfl)); (try simp only [Act.put, List.setIfInBounds_toArray, List.set_cons_zero, List.set_cons_succ]))
  (refine wpAnyH_take (i := 30) (v := ?_) rfl (by kernel_rfl) (by kernel_rfl) (by kernel_rfl) (fun _ _ _ h => h) (Or.inl ⟨by kernel_rfl, ?_⟩) (by assumption) ?_; rotate_left 1; (intro W0 hSw; (try dsimp only at hSw); go_simp; (try with_reducible rfl)); (try simp only [Act.put, List.setIfInBounds_toArray, List.set_cons_zero, List.set_cons_succ]))
  refine wpAnyH_ready (rs := [31]) (by kernel_rfl) (by simp) ?_
  refine AllReadyH.cons rfl (fun K hK => ?_) AllReadyH.nil
  go_simp
  refine (C37.out wk14 _ _ (XV.below bk14)).mono ?_
  rintro e wk15 ⟨csu, rfl, hlu, bu⟩
  have bk15 : Below wz.heap.size wz wk15 := bk14.trans (bu.mono (bk14).size)
  obtain ⟨qk, qb, qi, qs, qal, qnl, qcl, qam, qnm, qcm, rfl⟩ := V.ten hlu
  have HO2 : Hid (op.lies false wk15 (Old wk15) [.int .i64 qk, .bool qb, .int .i64 qi, .string qs, .slice qal qnl qcl, .slice qam qnm qcm]) := V.lies_keep (fun h => h) (fun _ _ => rfl) (fun y hy => hy.2) _ hlu
  clear hlu
  clear bu
  go_simp
  refine hK.out _ _ bk15 (fun hHeld => ?_)
  clear hK K
  (try simp only [Act.put, List.setIfInBounds_toArray, List.set_cons_zero, List.set_cons_succ])
  refine wpAnyH_ready (rs := [32]) (by kernel_rfl) (by simp) ?_
  refine AllReadyH.cons rfl (fun K hK => ?_) AllReadyH.nil
  go_simp
  refine (C35.out wk15 op _ _ _ _ (XO.below bk15).lies HO2.out (fun _ h => h) (fun _ h => h)).mono ?_
  rintro e wk16 ⟨rfl, bu⟩
  have bk16 : Below wz.heap.size wz wk16 := bk15.trans (bu.mono (bk15).size)
  clear bu
  go_simp
  refine hK.out _ _ bk16 (fun hHeld => ?_)
  clear hK K
  (try simp only [Act.put, List.setIfInBounds_toArray, List.set_cons_zero, List.set_cons_succ])
  (refine wpAnyH_take (i := 33) (v := ?_) rfl (by kernel_rfl) (by kernel_rfl) (by kernel_rfl) (fun _ _ _ h => h) (Or.inl ⟨by kernel_rfl, ?_⟩) (by assumption) ?_; rotate_left 1; (intro W0 hSw; (try dsimp only at hSw); go_simp; (try with_reducible rfl)); (try simp only [Act.put, List.setIfInBounds_toArray, List.set_cons_zero, List.set_cons_succ]))
  (refine wpAnyH_take (i := 34) (v := ?_) rfl (by kernel_rfl) (by kernel_rfl) (by kernel_rfl) (fun _ _ _ h => h) (Or.inl ⟨by kernel_rfl, ?_⟩) (by assumption) ?_; rotate_left 1; (intro W0 hSw; (try dsimp only at hSw); go_simp; (try with_reducible rfl)); (try simp only [Act.put, List.setIfInBounds_toArray, List.set_cons_zero, List.set_cons_succ]))
  refine wpAnyH_done (by kernel_rfl) ?_ _
  (try dsimp only [Act.put, List.getElem_toArray, List.getElem_cons_succ, List.getElem_cons_zero, List.setIfInBounds_toArray, List.set_cons_zero, List.set_cons_succ])
  clear hHeld XC XG XH XA XU XO HI2 HO2
  replace XV := XV.below bk16
  replace XX := XX.below bk16
  replace XI := XI.below bk16
  replace XJ := XJ.below bk16
  replace RI := RI.below bk16
  replace RJ := RJ.below bk16
  replace Br : Hid (Below w.heap.size w wk16) := (Br.out.trans (bk16.mono Br.out.size))
  clear bk11 bk12 bk13 bk14 bk15 bk16
  obtain ⟨d0, d1, d2, d3, d4, d5⟩ := row6z XI.row
  obtain ⟨f0, f1, f2, f3, f4, f5⟩ := row6z XV.row
  go_wp2_with fail
  clear d0 d1 d2 d3 d4 d5
  clear f0 f1 f2 f3 f4 f5
  refine (C13.out wk16 _ RI XV).mono ?_
  rintro e wy ⟨rfl, bu⟩
  replace XX := XX.below bu
  replace XJ := XJ.below bu
  replace RJ := RJ.below bu
  replace Br : Hid (Below w.heap.size w wy) := Br.out.trans (bu.mono Br.out.size)
  clear bu XV XI RI
  obtain ⟨d0, d1, d2, d3, d4, d5⟩ := row6z XJ.row
  obtain ⟨f0, f1, f2, f3, f4, f5⟩ := row6z XX.row
  go_wp2_with fail
  clear d0 d1 d2 d3 d4 d5
  clear f0 f1 f2 f3 f4 f5
  refine (C14.out wy _ RJ XX).mono ?_
  rintro e wx ⟨rfl, bu⟩
  replace Br : Hid (Below w.heap.size w wx) := Br.out.trans (bu.mono Br.out.size)
  go_wp2_with fail
  go_ret
  exact ⟨rfl, Br.out⟩
end Go.Proofs.YtljgofmmihmmfaaDoor
