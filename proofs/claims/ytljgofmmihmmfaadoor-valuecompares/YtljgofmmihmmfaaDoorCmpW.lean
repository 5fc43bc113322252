/- ValueCompares: the law's own walk. -/
import Derived.Test.YtljgofmmihmmfaaDoorGsE
import Derived.Test.YtljgofmmihmmfaaDoorKepA
import Derived.Test.YtljgofmmihmmfaaDoorClrA
set_option linter.unusedSimpArgs false
set_option linter.unusedVariables false
namespace Go.Proofs.YtljgofmmihmmfaaDoor
open Go.RowKit Go.Lib

theorem leaf_lies (W : World) (b : Bool) : (V.mk 1 b 0 ⟨#[]⟩ [] []).lies false W (Old W) [.int .i64 1, .bool b, .int .i64 0, .string ⟨#[]⟩, .slice none 0 0, .slice none 0 0] :=
  lies_of (by constructor <;> omega) (by constructor <;> omega) (by decide) headed_nil headed_nil (by rw [liesL]; trivial) (by rw [liesM]; trivial)
theorem ok_bool (b : Bool) : okV (V.mk 1 b 0 ⟨#[]⟩ [] []) = true := okV_gd (gd_bool 4 b)
theorem cmp_ny : cmpV (V.mk 1 false 0 ⟨#[]⟩ [] []) (V.mk 1 true 0 ⟨#[]⟩ [] []) = -1 := by rw [cmpV_yes (ok_bool _) (ok_bool _)]; simp [ordV, cmpB]
theorem cmp_yn : cmpV (V.mk 1 true 0 ⟨#[]⟩ [] []) (V.mk 1 false 0 ⟨#[]⟩ [] []) = 1 := by rw [cmpV_yes (ok_bool _) (ok_bool _)]; simp [ordV, cmpB]
theorem eql_yn : eqlV (V.mk 1 true 0 ⟨#[]⟩ [] []) (V.mk 1 false 0 ⟨#[]⟩ [] []) = false := by simp [eqlV, ordV, cmpB]
theorem eql_self {v : V} (h : okV v = true) : eqlV v v = true := by simp [eqlV, h, ordV_self]
/-- which value lies at which cells, of two -/
theorem rep_two (v u : V) (a c : Array Value) : ∃ rep : Array Value → V, ∀ A, (A = a ∨ A = c) → (A = a ∧ rep A = v) ∨ (A = c ∧ rep A = u) := by
  classical
  refine ⟨fun A => if A = a then v else u, fun A h => ?_⟩
  by_cases hA : A = a
  · exact .inl ⟨hA, by simp [hA]⟩
  · rcases h with h | h
    · exact absurd h hA
    · exact .inr ⟨h, by simp [hA]⟩

set_option maxHeartbeats 8000000 in
set_option maxRecDepth 100000 in
theorem compares_walk (v u : V) (cs cs' : List Value) (w : World) (t : Tb w) (hv : v.lies false w (Old w) cs) (hu : u.lies false w (Old w) cs') : Calls Tryd.prog 5 #[.agg cs.toArray, .agg cs'.toArray] w (BPost true w) := by
  obtain ⟨k, b, i, s, l, m⟩ := v
  obtain ⟨k', b', i', s', l', m'⟩ := u
  have hv0 := hv
  have hu0 := hu
  rw [V.lies] at hv hu
  obtain ⟨al, cl, bl, ol, am, cm, bm, om, rfl, hk, hi, hs, hal, ham, _⟩ := hv
  obtain ⟨al', cl', bl', ol', am', cm', bm', om', rfl, hk', hi', hs', hal', ham', _⟩ := hu
  have hz1 := alloc_size w (.cells #[.int .i64 k, .bool b, .int .i64 i, .string s, .slice al l.length cl, .slice am m.length cm] 25)
  have hz2 : ((w.alloc (.cells #[.int .i64 k, .bool b, .int .i64 i, .string s, .slice al l.length cl, .slice am m.length cm] 25)).alloc (.cells #[.int .i64 k', .bool b', .int .i64 i', .string s', .slice al' l'.length cl', .slice am' m'.length cm'] 25)).heap.size = w.heap.size + 2 := by rw [alloc_size, alloc_size]
  have HL : Hid (∀ W, Below w.heap.size w W → (V.mk k b i s l m).lies false W (Old W) [.int .i64 k, .bool b, .int .i64 i, .string s, .slice al l.length cl, .slice am m.length cm] ∧ (V.mk k' b' i' s' l' m').lies false W (Old W) [.int .i64 k', .bool b', .int .i64 i', .string s', .slice al' l'.length cl', .slice am' m'.length cm']) := fun W hB => ⟨V.lies_keep (fun h => h) (fun x hx => hB.block x hx) (fun x hx => Nat.lt_of_lt_of_le hx hB.size) _ hv0, V.lies_keep (fun h => h) (fun x hx => hB.block x hx) (fun x hx => Nat.lt_of_lt_of_le hx hB.size) _ hu0⟩
  have HT : Hid (∀ W, Below w.heap.size w W → Tb W) := fun W hB => t.below hB t.z
  have B0 : Below w.heap.size w ((w.alloc (.cells #[.int .i64 k, .bool b, .int .i64 i, .string s, .slice al l.length cl, .slice am m.length cm] 25)).alloc (.cells #[.int .i64 k', .bool b', .int .i64 i', .string s', .slice al' l'.length cl', .slice am' m'.length cm'] 25)) := two_below w _ _
  have hbA : rowAt ((w.alloc (.cells #[.int .i64 k, .bool b, .int .i64 i, .string s, .slice al l.length cl, .slice am m.length cm] 25)).alloc (.cells #[.int .i64 k', .bool b', .int .i64 i', .string s', .slice al' l'.length cl', .slice am' m'.length cm'] 25)) w.heap.size 0 [.int .i64 k, .bool b, .int .i64 i, .string s, .slice al l.length cl, .slice am m.length cm] := (box_row w [.int .i64 k, .bool b, .int .i64 i, .string s, .slice al l.length cl, .slice am m.length cm] 25).keep (Below.heap_alloc (w.alloc (.cells #[.int .i64 k, .bool b, .int .i64 i, .string s, .slice al l.length cl, .slice am m.length cm] 25)) (.cells #[.int .i64 k', .bool b', .int .i64 i', .string s', .slice al' l'.length cl', .slice am' m'.length cm'] 25) w.heap.size (by omega))
  have hbB : rowAt ((w.alloc (.cells #[.int .i64 k, .bool b, .int .i64 i, .string s, .slice al l.length cl, .slice am m.length cm] 25)).alloc (.cells #[.int .i64 k', .bool b', .int .i64 i', .string s', .slice al' l'.length cl', .slice am' m'.length cm'] 25)) (w.heap.size + 1) 0 [.int .i64 k', .bool b', .int .i64 i', .string s', .slice al' l'.length cl', .slice am' m'.length cm'] := by
    have h := box_row (w.alloc (.cells #[.int .i64 k, .bool b, .int .i64 i, .string s, .slice al l.length cl, .slice am m.length cm] 25)) [.int .i64 k', .bool b', .int .i64 i', .string s', .slice al' l'.length cl', .slice am' m'.length cm'] 25
    rw [hz1] at h
    exact h
  obtain ⟨d0, d1, d2, d3, d4, d5⟩ := row6z hbA
  clear hal ham hal' ham' hv0 hu0
  go_enter Tryd.func5, Tryd.ntmps5
  go_wp2_with fail
  clear d0 d1 d2 d3 d4 d5
  generalize ((w.alloc (.cells #[.int .i64 k, .bool b, .int .i64 i, .string s, .slice al l.length cl, .slice am m.length cm] 25)).alloc (.cells #[.int .i64 k', .bool b', .int .i64 i', .string s', .slice al' l'.length cl', .slice am' m'.length cm'] 25)) = w0 at *
  have K0 : Hid (∀ W, Below w0.heap.size w0 W → Below w.heap.size w W ∧ rowAt W w.heap.size 0 [.int .i64 k, .bool b, .int .i64 i, .string s, .slice al l.length cl, .slice am m.length cm] ∧ rowAt W (w.heap.size + 1) 0 [.int .i64 k', .bool b', .int .i64 i', .string s', .slice al' l'.length cl', .slice am' m'.length cm']) := fun W hB => ⟨B0.trans (hB.mono (by omega)), hbA.keep (hB.block _ (by omega)), hbB.keep (hB.block _ (by omega))⟩
  clear hbA hbB
  refine (beyond_any (V.mk k b i s l m) (Old w0) _ w0 (HL.out w0 B0).1 (fun x hx => hx)).mono ?_
  rintro e w1 ⟨r, rfl, hr, c1⟩
  have B1 := (K0.out w1 c1).1
  cases r with
  | true =>
    go_wp2_with fail
    go_ret
    exact ⟨rfl, B1⟩
  | false =>
  have hwt := hr rfl
  clear hr
  obtain ⟨f0, f1, f2, f3, f4, f5⟩ := row6z (K0.out w1 c1).2.2
  go_wp2_with fail
  refine (beyond_any (V.mk k' b' i' s' l' m') (Old w1) _ w1 (HL.out w1 B1).2 (fun x hx => hx)).mono ?_
  rintro e w2 ⟨r, rfl, hr, b2⟩
  have c2 := c1.trans (b2.mono c1.size)
  clear f0 f1 f2 f3 f4 f5 b2 c1 B1
  have B2 := (K0.out w2 c2).1
  cases r with
  | true =>
    go_wp2_with fail
    go_ret
    exact ⟨rfl, B2⟩
  | false =>
  have hwt' := hr rfl
  clear hr
  obtain ⟨d0, d1, d2, d3, d4, d5⟩ := row6z (K0.out w2 c2).2.1
  go_wp2_with fail
  refine (roomy_any k b i s l m (Old w2) _ w2 (HL.out w2 B2).1 (fun x hx => hx) (by omega)).mono ?_
  rintro e w3 ⟨gl, cl2, gm, cm2, SL, SM, rfl, b3, oL, oM⟩
  clear d0 d1 d2 d3 d4 d5
  have c3 := c2.trans (b3.mono c2.size)
  have hzx := alloc_size w3 (.cells #[.int .i64 k, .bool b, .int .i64 i, .string s, .slice (some ⟨gl, 0, none⟩) l.length cl2, .slice (some ⟨gm, 0, none⟩) m.length cm2] 25)
  have bx : Below w3.heap.size w3 (w3.alloc (.cells #[.int .i64 k, .bool b, .int .i64 i, .string s, .slice (some ⟨gl, 0, none⟩) l.length cl2, .slice (some ⟨gm, 0, none⟩) m.length cm2] 25)) := (Below.refl _ _).alloc (Nat.le_refl _) _
  have cx := c3.trans (bx.mono c3.size)
  have rx := box_row w3 [.int .i64 k, .bool b, .int .i64 i, .string s, .slice (some ⟨gl, 0, none⟩) l.length cl2, .slice (some ⟨gm, 0, none⟩) m.length cm2] 25
  have RM : Roomy k b i s l m w2.heap.size gl cl2 gm cm2 SL SM (w3.alloc (.cells #[.int .i64 k, .bool b, .int .i64 i, .string s, .slice (some ⟨gl, 0, none⟩) l.length cl2, .slice (some ⟨gm, 0, none⟩) m.length cm2] 25)) := Roomy.below ⟨oL, oM⟩ bx
  have Bx := (K0.out _ cx).1
  obtain ⟨f0, f1, f2, f3, f4, f5⟩ := row6z (K0.out _ cx).2.2
  have hg0 := c2.size
  have hg1 := c3.size
  clear oL oM c3 b3 bx
  go_wp2_with fail
  generalize (w3.alloc (.cells #[.int .i64 k, .bool b, .int .i64 i, .string s, .slice (some ⟨gl, 0, none⟩) l.length cl2, .slice (some ⟨gm, 0, none⟩) m.length cm2] 25)) = wx at *
  have KX : Hid (∀ W, Below wx.heap.size wx W → (Below w.heap.size w W ∧ rowAt W w.heap.size 0 [.int .i64 k, .bool b, .int .i64 i, .string s, .slice al l.length cl, .slice am m.length cm] ∧ rowAt W (w.heap.size + 1) 0 [.int .i64 k', .bool b', .int .i64 i', .string s', .slice al' l'.length cl', .slice am' m'.length cm']) ∧ rowAt W w3.heap.size 0 [.int .i64 k, .bool b, .int .i64 i, .string s, .slice (some ⟨gl, 0, none⟩) l.length cl2, .slice (some ⟨gm, 0, none⟩) m.length cm2] ∧ Roomy k b i s l m w2.heap.size gl cl2 gm cm2 SL SM W) := fun W hB => ⟨K0.out W (cx.trans (hB.mono cx.size)), rx.keep (hB.block _ (by omega)), RM.below hB⟩
  clear rx RM f0 f1 f2 f3 f4 f5 cx c2 B2
  refine (roomy_any k' b' i' s' l' m' (Old wx) _ wx (HL.out wx Bx).2 (fun x hx => hx) (by omega)).mono ?_
  rintro e w4 ⟨gl', cl2', gm', cm2', SL', SM', rfl, c4, oL, oM⟩
  have hzy := alloc_size w4 (.cells #[.int .i64 k', .bool b', .int .i64 i', .string s', .slice (some ⟨gl', 0, none⟩) l'.length cl2', .slice (some ⟨gm', 0, none⟩) m'.length cm2'] 25)
  have by_ : Below w4.heap.size w4 (w4.alloc (.cells #[.int .i64 k', .bool b', .int .i64 i', .string s', .slice (some ⟨gl', 0, none⟩) l'.length cl2', .slice (some ⟨gm', 0, none⟩) m'.length cm2'] 25)) := (Below.refl _ _).alloc (Nat.le_refl _) _
  have cy := c4.trans (by_.mono c4.size)
  have ry := box_row w4 [.int .i64 k', .bool b', .int .i64 i', .string s', .slice (some ⟨gl', 0, none⟩) l'.length cl2', .slice (some ⟨gm', 0, none⟩) m'.length cm2'] 25
  have RM : Roomy k' b' i' s' l' m' wx.heap.size gl' cl2' gm' cm2' SL' SM' (w4.alloc (.cells #[.int .i64 k', .bool b', .int .i64 i', .string s', .slice (some ⟨gl', 0, none⟩) l'.length cl2', .slice (some ⟨gm', 0, none⟩) m'.length cm2'] 25)) := Roomy.below ⟨oL, oM⟩ by_
  have Ky := KX.out _ cy
  have hg2 := c4.size
  obtain ⟨n0, n1, n2, n3, n4, n5⟩ := row6z Ky.2.1
  clear oL oM by_ c4 Bx
  go_wp2_with fail
  generalize (w4.alloc (.cells #[.int .i64 k', .bool b', .int .i64 i', .string s', .slice (some ⟨gl', 0, none⟩) l'.length cl2', .slice (some ⟨gm', 0, none⟩) m'.length cm2'] 25)) = wy at *
  have KY : Hid (∀ W, Below wy.heap.size wy W → ((Below w.heap.size w W ∧ rowAt W w.heap.size 0 [.int .i64 k, .bool b, .int .i64 i, .string s, .slice al l.length cl, .slice am m.length cm] ∧ rowAt W (w.heap.size + 1) 0 [.int .i64 k', .bool b', .int .i64 i', .string s', .slice al' l'.length cl', .slice am' m'.length cm']) ∧ rowAt W w3.heap.size 0 [.int .i64 k, .bool b, .int .i64 i, .string s, .slice (some ⟨gl, 0, none⟩) l.length cl2, .slice (some ⟨gm, 0, none⟩) m.length cm2] ∧ Roomy k b i s l m w2.heap.size gl cl2 gm cm2 SL SM W) ∧ rowAt W w4.heap.size 0 [.int .i64 k', .bool b', .int .i64 i', .string s', .slice (some ⟨gl', 0, none⟩) l'.length cl2', .slice (some ⟨gm', 0, none⟩) m'.length cm2'] ∧ Roomy k' b' i' s' l' m' wx.heap.size gl' cl2' gm' cm2' SL' SM' W) := fun W hB => ⟨KX.out W (cy.trans (hB.mono cy.size)), ry.keep (hB.block _ (by omega)), RM.below hB⟩
  clear ry RM n0 n1 n2 n3 n4 n5 Ky cy K0 KX
  have CX : Hid (∀ W, Below wy.heap.size wy W → Calls Tryd.prog 22 #[.agg #[.int .i64 k, .bool b, .int .i64 i, .string s, .slice (some ⟨gl, 0, none⟩) l.length cl2, .slice (some ⟨gm, 0, none⟩) m.length cm2], .agg #[.int .i64 k', .bool b', .int .i64 i', .string s', .slice (some ⟨gl', 0, none⟩) l'.length cl2', .slice (some ⟨gm', 0, none⟩) m'.length cm2']] W (JPost (cmpV (V.mk k b i s l m) (V.mk k' b' i' s' l' m')) W) ∧ Calls Tryd.prog 23 #[.agg #[.int .i64 k, .bool b, .int .i64 i, .string s, .slice (some ⟨gl, 0, none⟩) l.length cl2, .slice (some ⟨gm, 0, none⟩) m.length cm2], .agg #[.int .i64 k', .bool b', .int .i64 i', .string s', .slice (some ⟨gl', 0, none⟩) l'.length cl2', .slice (some ⟨gm', 0, none⟩) m'.length cm2']] W (BPost (eqlV (V.mk k b i s l m) (V.mk k' b' i' s' l' m')) W)) := fun W hB => by
    have K := KY.out W hB
    exact ⟨compare_any (V.mk k b i s l m) (V.mk k' b' i' s' l' m') true true (fun x => w2.heap.size ≤ x ∧ x < W.heap.size) (fun x => wx.heap.size ≤ x ∧ x < W.heap.size) _ _ W (HT.out W K.1.1.1) (K.1.2.2.lies hk hi hs) (K.2.2.lies hk' hi' hs') (fun b h => h.2) (fun b h => h.2) (by omega) (by omega), equal_any (V.mk k b i s l m) (V.mk k' b' i' s' l' m') true true (fun x => w2.heap.size ≤ x ∧ x < W.heap.size) (fun x => wx.heap.size ≤ x ∧ x < W.heap.size) _ _ W (HT.out W K.1.1.1) (K.1.2.2.lies hk hi hs) (K.2.2.lies hk' hi' hs') (fun b h => h.2) (fun b h => h.2) (by omega) (by omega)⟩
  have CR : Hid (∀ W, Below w.heap.size w W → Calls Tryd.prog 24 #[.agg #[.int .i64 k, .bool b, .int .i64 i, .string s, .slice al l.length cl, .slice am m.length cm], .agg #[.int .i64 k', .bool b', .int .i64 i', .string s', .slice al' l'.length cl', .slice am' m'.length cm']] W (JPost (cmpV (V.mk k b i s l m) (V.mk k' b' i' s' l' m')) W) ∧ Calls Tryd.prog 25 #[.agg #[.int .i64 k, .bool b, .int .i64 i, .string s, .slice al l.length cl, .slice am m.length cm], .agg #[.int .i64 k', .bool b', .int .i64 i', .string s', .slice al' l'.length cl', .slice am' m'.length cm']] W (BPost (eqlV (V.mk k b i s l m) (V.mk k' b' i' s' l' m')) W)) := fun W hB =>
    ⟨rcompare_any (V.mk k b i s l m) (V.mk k' b' i' s' l' m') false false (Old W) (Old W) _ _ W (HL.out W hB).1 (HL.out W hB).2 (fun b h => h) (fun b h => h) (by omega) (by omega), requal_any (V.mk k b i s l m) (V.mk k' b' i' s' l' m') false false (Old W) (Old W) _ _ W (HL.out W hB).1 (HL.out W hB).2 (fun b h => h) (fun b h => h) (by omega) (by omega)⟩
  generalize cmpV (V.mk k b i s l m) (V.mk k' b' i' s' l' m') = r1 at *
  generalize eqlV (V.mk k b i s l m) (V.mk k' b' i' s' l' m') = r2 at *
  refine ((CX.out wy (Below.refl _ _)).1).mono ?_
  rintro e w5 ⟨rfl, b5⟩
  have c5 := b5
  clear b5
  obtain ⟨n0, n1, n2, n3, n4, n5⟩ := row6z (KY.out w5 c5).1.2.1
  obtain ⟨m0, m1, m2, m3, m4, m5⟩ := row6z (KY.out w5 c5).2.1
  go_wp2_with fail
  refine ((CX.out w5 c5).2).mono ?_
  rintro e w6 ⟨rfl, b6⟩
  have c6 := c5.trans (b6.mono c5.size)
  clear b6 c5
  clear n0 n1 n2 n3 n4 n5 m0 m1 m2 m3 m4 m5
  obtain ⟨d0, d1, d2, d3, d4, d5⟩ := row6z (KY.out w6 c6).1.1.2.1
  obtain ⟨f0, f1, f2, f3, f4, f5⟩ := row6z (KY.out w6 c6).1.1.2.2
  go_wp2_with fail
  refine ((CR.out w6 (KY.out w6 c6).1.1.1).1).mono ?_
  rintro e w7 ⟨rfl, b7⟩
  have c7 := c6.trans (b7.mono c6.size)
  clear b7 c6
  clear d0 d1 d2 d3 d4 d5 f0 f1 f2 f3 f4 f5
  obtain ⟨d0, d1, d2, d3, d4, d5⟩ := row6z (KY.out w7 c7).1.1.2.1
  obtain ⟨f0, f1, f2, f3, f4, f5⟩ := row6z (KY.out w7 c7).1.1.2.2
  go_wp2_with fail
  refine ((CR.out w7 (KY.out w7 c7).1.1.1).2).mono ?_
  rintro e w8 ⟨rfl, b8⟩
  have c8 := c7.trans (b8.mono c7.size)
  clear b8 c7
  clear d0 d1 d2 d3 d4 d5 f0 f1 f2 f3 f4 f5
  obtain ⟨n0, n1, n2, n3, n4, n5⟩ := row6z (KY.out w8 c8).1.2.1
  obtain ⟨d0, d1, d2, d3, d4, d5⟩ := row6z (KY.out w8 c8).1.1.2.1
  go_wp2_with fail
  refine (kept_any k b i s l m w2.heap.size gl cl2 gm cm2 SL SM (Old w8) _ w8 (KY.out w8 c8).1.2.2 (HL.out w8 (KY.out w8 c8).1.1.1).1 (fun x h => h) (by omega)).mono ?_
  rintro e w9 ⟨rfl, b9⟩
  have c9 := c8.trans (b9.mono c8.size)
  clear b9 c8
  clear n0 n1 n2 n3 n4 n5 d0 d1 d2 d3 d4 d5
  obtain ⟨m0, m1, m2, m3, m4, m5⟩ := row6z (KY.out w9 c9).2.1
  obtain ⟨f0, f1, f2, f3, f4, f5⟩ := row6z (KY.out w9 c9).1.1.2.2
  go_wp2_with fail
  refine (kept_any k' b' i' s' l' m' wx.heap.size gl' cl2' gm' cm2' SL' SM' (Old w9) _ w9 (KY.out w9 c9).2.2 (HL.out w9 (KY.out w9 c9).1.1.1).2 (fun x h => h) (by omega)).mono ?_
  rintro e w10 ⟨rfl, b10⟩
  have c10 := c9.trans (b10.mono c9.size)
  clear b10 c9
  clear m0 m1 m2 m3 m4 m5 f0 f1 f2 f3 f4 f5
  obtain ⟨d0, d1, d2, d3, d4, d5⟩ := row6z (KY.out w10 c10).1.1.2.1
  go_wp2_with fail
  have B10 := (KY.out w10 c10).1.1.1
  refine (good_anyS 4 0 rfl (V.mk k b i s l m) _ w10 (HL.out w10 B10).1 (by omega)).mono ?_
  rintro e w11 ⟨g, csg, rfl, hlg, hgd, b11⟩
  clear d0 d1 d2 d3 d4 d5
  have c11 := c10.trans (b11.mono c10.size)
  obtain ⟨gk, gb, gi, gs, gal, gnl, gcl, gam, gnm, gcm, rfl⟩ := V.ten hlg
  have hzg := alloc_size w11 (.cells #[.int .i64 gk, .bool gb, .int .i64 gi, .string gs, .slice gal gnl gcl, .slice gam gnm gcm] 25)
  have bg : Below w11.heap.size w11 (w11.alloc (.cells #[.int .i64 gk, .bool gb, .int .i64 gi, .string gs, .slice gal gnl gcl, .slice gam gnm gcm] 25)) := (Below.refl _ _).alloc (Nat.le_refl _) _
  have cg := c11.trans (bg.mono c11.size)
  have rg := box_row w11 [.int .i64 gk, .bool gb, .int .i64 gi, .string gs, .slice gal gnl gcl, .slice gam gnm gcm] 25
  have lg : g.lies false (w11.alloc (.cells #[.int .i64 gk, .bool gb, .int .i64 gi, .string gs, .slice gal gnl gcl, .slice gam gnm gcm] 25)) (Old (w11.alloc (.cells #[.int .i64 gk, .bool gb, .int .i64 gi, .string gs, .slice gal gnl gcl, .slice gam gnm gcm] 25))) [.int .i64 gk, .bool gb, .int .i64 gi, .string gs, .slice gal gnl gcl, .slice gam gnm gcm] := V.lies_keep (fun h => h) (fun x hx => bg.block x hx.2) (fun x hx => by have := hx.2; show x < _; omega) _ hlg
  have HGd : Hid (Gd 4 g) := hgd
  have HGw : Hid (g.wt ≤ 1000000) := Nat.le_trans (gd_wt 4 g hgd) Gw4
  obtain ⟨f0, f1, f2, f3, f4, f5⟩ := row6z (KY.out _ cg).1.1.2.2
  clear hlg hgd b11 c11 bg c10 B10 CX CR
  go_wp2_with fail
  generalize (w11.alloc (.cells #[.int .i64 gk, .bool gb, .int .i64 gi, .string gs, .slice gal gnl gcl, .slice gam gnm gcm] 25)) = wg at *
  have KG : Hid (∀ W, Below wg.heap.size wg W → Below w.heap.size w W ∧ rowAt W w11.heap.size 0 [.int .i64 gk, .bool gb, .int .i64 gi, .string gs, .slice gal gnl gcl, .slice gam gnm gcm] ∧ g.lies false W (Old W) [.int .i64 gk, .bool gb, .int .i64 gi, .string gs, .slice gal gnl gcl, .slice gam gnm gcm]) := fun W hB => ⟨(KY.out W (cg.trans (hB.mono cg.size))).1.1.1, rg.keep (hB.block _ (by omega)), V.lies_keep (fun h => h) (fun x hx => hB.block x hx) (fun x hx => Nat.lt_of_lt_of_le hx hB.size) _ lg⟩
  have Bg := (KG.out wg (Below.refl _ _)).1
  clear rg lg KY cg f0 f1 f2 f3 f4 f5
  refine (good_anyS 4 0 rfl (V.mk k' b' i' s' l' m') _ wg (HL.out wg Bg).2 (by omega)).mono ?_
  rintro e w12 ⟨h, csh, rfl, hlh, hhd, c12⟩
  obtain ⟨hk, hb, hi, hs, hal, hnl, hcl, ham, hnm, hcm, rfl⟩ := V.ten hlh
  have hzh := alloc_size w12 (.cells #[.int .i64 hk, .bool hb, .int .i64 hi, .string hs, .slice hal hnl hcl, .slice ham hnm hcm] 25)
  have bh : Below w12.heap.size w12 (w12.alloc (.cells #[.int .i64 hk, .bool hb, .int .i64 hi, .string hs, .slice hal hnl hcl, .slice ham hnm hcm] 25)) := (Below.refl _ _).alloc (Nat.le_refl _) _
  have ch := c12.trans (bh.mono c12.size)
  have rh := box_row w12 [.int .i64 hk, .bool hb, .int .i64 hi, .string hs, .slice hal hnl hcl, .slice ham hnm hcm] 25
  have lh : h.lies false (w12.alloc (.cells #[.int .i64 hk, .bool hb, .int .i64 hi, .string hs, .slice hal hnl hcl, .slice ham hnm hcm] 25)) (Old (w12.alloc (.cells #[.int .i64 hk, .bool hb, .int .i64 hi, .string hs, .slice hal hnl hcl, .slice ham hnm hcm] 25))) [.int .i64 hk, .bool hb, .int .i64 hi, .string hs, .slice hal hnl hcl, .slice ham hnm hcm] := V.lies_keep (fun h => h) (fun x hx => bh.block x hx.2) (fun x hx => by have := hx.2; show x < _; omega) _ hlh
  have HHd : Hid (Gd 4 h) := hhd
  have HHw : Hid (h.wt ≤ 1000000) := Nat.le_trans (gd_wt 4 h hhd) Gw4
  have hg3 := c12.size
  clear hlh hhd bh Bg
  go_wp2_with fail
  generalize (w12.alloc (.cells #[.int .i64 hk, .bool hb, .int .i64 hi, .string hs, .slice hal hnl hcl, .slice ham hnm hcm] 25)) = wh at *
  have KH : Hid (∀ W, Below wh.heap.size wh W → Below w.heap.size w W ∧ g.lies false W (Old W) [.int .i64 gk, .bool gb, .int .i64 gi, .string gs, .slice gal gnl gcl, .slice gam gnm gcm] ∧ h.lies false W (Old W) [.int .i64 hk, .bool hb, .int .i64 hi, .string hs, .slice hal hnl hcl, .slice ham hnm hcm]) := fun W hB => ⟨(KG.out W (ch.trans (hB.mono ch.size))).1, (KG.out W (ch.trans (hB.mono ch.size))).2.2, V.lies_keep (fun h => h) (fun x hx => hB.block x hx) (fun x hx => Nat.lt_of_lt_of_le hx hB.size) _ lh⟩
  obtain ⟨n0, n1, n2, n3, n4, n5⟩ := row6z (KG.out wh ch).2.1
  obtain ⟨m0, m1, m2, m3, m4, m5⟩ := row6z rh
  have hltg : w11.heap.size < wh.heap.size := by have := ch.size; omega
  have hlth : w12.heap.size < wh.heap.size := by omega
  have x0 : ∀ x : Sub wh.heap.size wh, _ := sub_cell n0 hltg
  have z0 : ∀ x : Sub wh.heap.size wh, _ := sub_cell m0 hlth
  have x1 : ∀ x : Sub wh.heap.size wh, _ := sub_cell n1 hltg
  have z1 : ∀ x : Sub wh.heap.size wh, _ := sub_cell m1 hlth
  have x2 : ∀ x : Sub wh.heap.size wh, _ := sub_cell n2 hltg
  have z2 : ∀ x : Sub wh.heap.size wh, _ := sub_cell m2 hlth
  have x3 : ∀ x : Sub wh.heap.size wh, _ := sub_cell n3 hltg
  have z3 : ∀ x : Sub wh.heap.size wh, _ := sub_cell m3 hlth
  have x4 : ∀ x : Sub wh.heap.size wh, _ := sub_cell n4 hltg
  have z4 : ∀ x : Sub wh.heap.size wh, _ := sub_cell m4 hlth
  have x5 : ∀ x : Sub wh.heap.size wh, _ := sub_cell n5 hltg
  have z5 : ∀ x : Sub wh.heap.size wh, _ := sub_cell m5 hlth
  have HW : ∀ W, Below wh.heap.size wh W → Below w.heap.size w W := fun W hb => (KH.out W hb).1
  obtain ⟨rep, hrep⟩ := rep_two g h #[.int .i64 gk, .bool gb, .int .i64 gi, .string gs, .slice gal gnl gcl, .slice gam gnm gcm] #[.int .i64 hk, .bool hb, .int .i64 hi, .string hs, .slice hal hnl hcl, .slice ham hnm hcm]
  have HR : ∀ W, Below wh.heap.size wh W → ∀ A, (A = #[.int .i64 gk, .bool gb, .int .i64 gi, .string gs, .slice gal gnl gcl, .slice gam gnm gcm] ∨ A = #[.int .i64 hk, .bool hb, .int .i64 hi, .string hs, .slice hal hnl hcl, .slice ham hnm hcm]) → (rep A).lies false W (Old W) A.toList ∧ (rep A).wt ≤ 1099511627776 := fun W hB A hA => by
    have K := (show (g.lies false W (Old W) (#[.int .i64 gk, .bool gb, .int .i64 gi, .string gs, .slice gal gnl gcl, .slice gam gnm gcm] : Array Value).toList ∧ g.wt ≤ 1099511627776) ∧ (h.lies false W (Old W) (#[.int .i64 hk, .bool hb, .int .i64 hi, .string hs, .slice hal hnl hcl, .slice ham hnm hcm] : Array Value).toList ∧ h.wt ≤ 1099511627776) from ⟨⟨(KH.out W hB).2.1, by have := HGw.out; omega⟩, ⟨(KH.out W hB).2.2, by have := HHw.out; omega⟩⟩)
    rcases hrep A hA with ⟨e1, e2⟩ | ⟨e1, e2⟩
    · rw [e2, e1]; exact K.1
    · rw [e2, e1]; exact K.2
  have C22 : Hid (∀ (A B : Array Value), (A = #[.int .i64 gk, .bool gb, .int .i64 gi, .string gs, .slice gal gnl gcl, .slice gam gnm gcm] ∨ A = #[.int .i64 hk, .bool hb, .int .i64 hi, .string hs, .slice hal hnl hcl, .slice ham hnm hcm]) → (B = #[.int .i64 gk, .bool gb, .int .i64 gi, .string gs, .slice gal gnl gcl, .slice gam gnm gcm] ∨ B = #[.int .i64 hk, .bool hb, .int .i64 hi, .string hs, .slice hal hnl hcl, .slice ham hnm hcm]) → ∀ x : Sub wh.heap.size wh, Calls Tryd.prog 22 #[.agg A, .agg B] x.w fun e w'' => e = .returned (.int .i64 (cmpV (rep A) (rep B))) ∧ ∃ y : Sub wh.heap.size wh, w'' = y.w) := fun A B hA hB => sub_call fun W hb => by
    have h := compare_any (rep A) (rep B) false false (Old W) (Old W) _ _ W (HT.out W (HW W hb)) (HR W hb A hA).1 (HR W hb B hB).1 (fun b h => h) (fun b h => h) (HR W hb A hA).2 (HR W hb B hB).2
    exact h.mono fun e w'' h => ⟨h.1, hb.trans (h.2.mono hb.size)⟩
  have C23 : Hid (∀ (A B : Array Value), (A = #[.int .i64 gk, .bool gb, .int .i64 gi, .string gs, .slice gal gnl gcl, .slice gam gnm gcm] ∨ A = #[.int .i64 hk, .bool hb, .int .i64 hi, .string hs, .slice hal hnl hcl, .slice ham hnm hcm]) → (B = #[.int .i64 gk, .bool gb, .int .i64 gi, .string gs, .slice gal gnl gcl, .slice gam gnm gcm] ∨ B = #[.int .i64 hk, .bool hb, .int .i64 hi, .string hs, .slice hal hnl hcl, .slice ham hnm hcm]) → ∀ x : Sub wh.heap.size wh, Calls Tryd.prog 23 #[.agg A, .agg B] x.w fun e w'' => e = .returned (.bool (eqlV (rep A) (rep B))) ∧ ∃ y : Sub wh.heap.size wh, w'' = y.w) := fun A B hA hB => sub_call fun W hb => by
    have h := equal_any (rep A) (rep B) false false (Old W) (Old W) _ _ W (HT.out W (HW W hb)) (HR W hb A hA).1 (HR W hb B hB).1 (fun b h => h) (fun b h => h) (HR W hb A hA).2 (HR W hb B hB).2
    exact h.mono fun e w'' h => ⟨h.1, hb.trans (h.2.mono hb.size)⟩
  have C24 : Hid (∀ (A B : Array Value), (A = #[.int .i64 gk, .bool gb, .int .i64 gi, .string gs, .slice gal gnl gcl, .slice gam gnm gcm] ∨ A = #[.int .i64 hk, .bool hb, .int .i64 hi, .string hs, .slice hal hnl hcl, .slice ham hnm hcm]) → (B = #[.int .i64 gk, .bool gb, .int .i64 gi, .string gs, .slice gal gnl gcl, .slice gam gnm gcm] ∨ B = #[.int .i64 hk, .bool hb, .int .i64 hi, .string hs, .slice hal hnl hcl, .slice ham hnm hcm]) → ∀ x : Sub wh.heap.size wh, Calls Tryd.prog 24 #[.agg A, .agg B] x.w fun e w'' => e = .returned (.int .i64 (cmpV (rep A) (rep B))) ∧ ∃ y : Sub wh.heap.size wh, w'' = y.w) := fun A B hA hB => sub_call fun W hb => by
    have h := rcompare_any (rep A) (rep B) false false (Old W) (Old W) _ _ W (HR W hb A hA).1 (HR W hb B hB).1 (fun b h => h) (fun b h => h) (HR W hb A hA).2 (HR W hb B hB).2
    exact h.mono fun e w'' h => ⟨h.1, hb.trans (h.2.mono hb.size)⟩
  have C25 : Hid (∀ (A B : Array Value), (A = #[.int .i64 gk, .bool gb, .int .i64 gi, .string gs, .slice gal gnl gcl, .slice gam gnm gcm] ∨ A = #[.int .i64 hk, .bool hb, .int .i64 hi, .string hs, .slice hal hnl hcl, .slice ham hnm hcm]) → (B = #[.int .i64 gk, .bool gb, .int .i64 gi, .string gs, .slice gal gnl gcl, .slice gam gnm gcm] ∨ B = #[.int .i64 hk, .bool hb, .int .i64 hi, .string hs, .slice hal hnl hcl, .slice ham hnm hcm]) → ∀ x : Sub wh.heap.size wh, Calls Tryd.prog 25 #[.agg A, .agg B] x.w fun e w'' => e = .returned (.bool (eqlV (rep A) (rep B))) ∧ ∃ y : Sub wh.heap.size wh, w'' = y.w) := fun A B hA hB => sub_call fun W hb => by
    have h := requal_any (rep A) (rep B) false false (Old W) (Old W) _ _ W (HR W hb A hA).1 (HR W hb B hB).1 (fun b h => h) (fun b h => h) (HR W hb A hA).2 (HR W hb B hB).2
    exact h.mono fun e w'' h => ⟨h.1, hb.trans (h.2.mono hb.size)⟩
  have HE : Hid (eqlV (rep #[.int .i64 gk, .bool gb, .int .i64 gi, .string gs, .slice gal gnl gcl, .slice gam gnm gcm]) (rep #[.int .i64 gk, .bool gb, .int .i64 gi, .string gs, .slice gal gnl gcl, .slice gam gnm gcm]) = true) := by
    rcases hrep #[.int .i64 gk, .bool gb, .int .i64 gi, .string gs, .slice gal gnl gcl, .slice gam gnm gcm] (.inl rfl) with ⟨_, e⟩ | ⟨_, e⟩
    · show _ = _; rw [e]; exact eql_self (okV_gd HGd.out)
    · show _ = _; rw [e]; exact eql_self (okV_gd HHd.out)
  have hE := HE.out
  clear hrep HR HW n0 n1 n2 n3 n4 n5 m0 m1 m2 m3 m4 m5
  refine wp_region_sub wh.heap.size (by kernel_rfl) (by kernel_rfl) ?_
  repeat (go_big_quiet_step (first | exact C22.out _ _ (by first | exact .inl rfl | exact .inr rfl) (by first | exact .inl rfl | exact .inr rfl) _ | exact C23.out _ _ (by first | exact .inl rfl | exact .inr rfl) (by first | exact .inl rfl | exact .inr rfl) _ | exact C24.out _ _ (by first | exact .inl rfl | exact .inr rfl) (by first | exact .inl rfl | exact .inr rfl) _ | exact C25.out _ _ (by first | exact .inl rfl | exact .inr rfl) (by first | exact .inl rfl | exact .inr rfl) _))
  refine wpQuiet_nil ?_
  rintro wq ⟨⟨wq', bq⟩, hq⟩
  have hq' : wq = wq' := hq
  subst hq'
  clear hq hE HE C22 C23 C24 C25 x0 x1 x2 x3 x4 x5 z0 z1 z2 z3 z4 z5
  have cq := ch.trans (bq.mono ch.size)
  clear KH rh lh ch bq
  have hzq2 : ((wq.alloc (.cells #[.int .i64 1, .bool true, .int .i64 0, .string ⟨#[]⟩, .slice none 0 0, .slice none 0 0] 25)).alloc (.cells #[.int .i64 1, .bool false, .int .i64 0, .string ⟨#[]⟩, .slice none 0 0, .slice none 0 0] 25)).heap.size = wq.heap.size + 2 := by rw [alloc_size, alloc_size]
  have bz : Below wq.heap.size wq ((wq.alloc (.cells #[.int .i64 1, .bool true, .int .i64 0, .string ⟨#[]⟩, .slice none 0 0, .slice none 0 0] 25)).alloc (.cells #[.int .i64 1, .bool false, .int .i64 0, .string ⟨#[]⟩, .slice none 0 0, .slice none 0 0] 25)) := two_below wq _ _
  have cz := cq.trans (bz.mono cq.size)
  have ryes : rowAt ((wq.alloc (.cells #[.int .i64 1, .bool true, .int .i64 0, .string ⟨#[]⟩, .slice none 0 0, .slice none 0 0] 25)).alloc (.cells #[.int .i64 1, .bool false, .int .i64 0, .string ⟨#[]⟩, .slice none 0 0, .slice none 0 0] 25)) wq.heap.size 0 [.int .i64 1, .bool true, .int .i64 0, .string ⟨#[]⟩, .slice none 0 0, .slice none 0 0] := (box_row wq [.int .i64 1, .bool true, .int .i64 0, .string ⟨#[]⟩, .slice none 0 0, .slice none 0 0] 25).keep (Below.heap_alloc (wq.alloc (.cells #[.int .i64 1, .bool true, .int .i64 0, .string ⟨#[]⟩, .slice none 0 0, .slice none 0 0] 25)) (.cells #[.int .i64 1, .bool false, .int .i64 0, .string ⟨#[]⟩, .slice none 0 0, .slice none 0 0] 25) wq.heap.size (by rw [alloc_size]; omega))
  have rno : rowAt ((wq.alloc (.cells #[.int .i64 1, .bool true, .int .i64 0, .string ⟨#[]⟩, .slice none 0 0, .slice none 0 0] 25)).alloc (.cells #[.int .i64 1, .bool false, .int .i64 0, .string ⟨#[]⟩, .slice none 0 0, .slice none 0 0] 25)) (wq.heap.size + 1) 0 [.int .i64 1, .bool false, .int .i64 0, .string ⟨#[]⟩, .slice none 0 0, .slice none 0 0] := by
    have h := box_row (wq.alloc (.cells #[.int .i64 1, .bool true, .int .i64 0, .string ⟨#[]⟩, .slice none 0 0, .slice none 0 0] 25)) [.int .i64 1, .bool false, .int .i64 0, .string ⟨#[]⟩, .slice none 0 0, .slice none 0 0] 25
    rw [alloc_size] at h
    exact h
  obtain ⟨n0, n1, n2, n3, n4, n5⟩ := row6z ryes
  clear cq bz
  go_wp2_with fail
  clear n0 n1 n2 n3 n4 n5
  generalize ((wq.alloc (.cells #[.int .i64 1, .bool true, .int .i64 0, .string ⟨#[]⟩, .slice none 0 0, .slice none 0 0] 25)).alloc (.cells #[.int .i64 1, .bool false, .int .i64 0, .string ⟨#[]⟩, .slice none 0 0, .slice none 0 0] 25)) = wz at *
  have KZ : Hid (∀ W, Below wz.heap.size wz W → (Below w.heap.size w W ∧ rowAt W w11.heap.size 0 [.int .i64 gk, .bool gb, .int .i64 gi, .string gs, .slice gal gnl gcl, .slice gam gnm gcm] ∧ g.lies false W (Old W) [.int .i64 gk, .bool gb, .int .i64 gi, .string gs, .slice gal gnl gcl, .slice gam gnm gcm]) ∧ rowAt W wq.heap.size 0 [.int .i64 1, .bool true, .int .i64 0, .string ⟨#[]⟩, .slice none 0 0, .slice none 0 0] ∧ rowAt W (wq.heap.size + 1) 0 [.int .i64 1, .bool false, .int .i64 0, .string ⟨#[]⟩, .slice none 0 0, .slice none 0 0]) := fun W hB => ⟨KG.out W (cz.trans (hB.mono cz.size)), ryes.keep (hB.block _ (by omega)), rno.keep (hB.block _ (by omega))⟩
  clear ryes rno cz KG
  have CNY : Hid (∀ W, Below w.heap.size w W → Calls Tryd.prog 22 #[.agg #[.int .i64 1, .bool false, .int .i64 0, .string ⟨#[]⟩, .slice none 0 0, .slice none 0 0], .agg #[.int .i64 1, .bool true, .int .i64 0, .string ⟨#[]⟩, .slice none 0 0, .slice none 0 0]] W (JPost (-1) W)) := fun W hB => by
    have h := compare_any _ _ false false (Old W) (Old W) _ _ W (HT.out W hB) (leaf_lies W false) (leaf_lies W true) (fun b h => h) (fun b h => h) (by simp [V.wt, wtL, wtM]; decide) (by simp [V.wt, wtL, wtM]; decide)
    rw [cmp_ny] at h
    exact h
  have CYN : Hid (∀ W, Below w.heap.size w W → Calls Tryd.prog 22 #[.agg #[.int .i64 1, .bool true, .int .i64 0, .string ⟨#[]⟩, .slice none 0 0, .slice none 0 0], .agg #[.int .i64 1, .bool false, .int .i64 0, .string ⟨#[]⟩, .slice none 0 0, .slice none 0 0]] W (JPost 1 W)) := fun W hB => by
    have h := compare_any _ _ false false (Old W) (Old W) _ _ W (HT.out W hB) (leaf_lies W true) (leaf_lies W false) (fun b h => h) (fun b h => h) (by simp [V.wt, wtL, wtM]; decide) (by simp [V.wt, wtL, wtM]; decide)
    rw [cmp_yn] at h
    exact h
  have EYN : Hid (∀ W, Below w.heap.size w W → Calls Tryd.prog 23 #[.agg #[.int .i64 1, .bool true, .int .i64 0, .string ⟨#[]⟩, .slice none 0 0, .slice none 0 0], .agg #[.int .i64 1, .bool false, .int .i64 0, .string ⟨#[]⟩, .slice none 0 0, .slice none 0 0]] W (BPost false W)) := fun W hB => by
    have h := equal_any _ _ false false (Old W) (Old W) _ _ W (HT.out W hB) (leaf_lies W true) (leaf_lies W false) (fun b h => h) (fun b h => h) (by simp [V.wt, wtL, wtM]; decide) (by simp [V.wt, wtL, wtM]; decide)
    rw [eql_yn] at h
    exact h
  refine (CNY.out wz (KZ.out wz (Below.refl _ _)).1.1).mono ?_
  rintro e w13 ⟨rfl, c13⟩
  obtain ⟨n0, n1, n2, n3, n4, n5⟩ := row6z (KZ.out w13 c13).2.1
  obtain ⟨m0, m1, m2, m3, m4, m5⟩ := row6z (KZ.out w13 c13).2.2
  go_wp2_with fail
  refine (CYN.out w13 (KZ.out w13 c13).1.1).mono ?_
  rintro e w14 ⟨rfl, b14⟩
  have c14 := c13.trans (b14.mono c13.size)
  clear n0 n1 n2 n3 n4 n5 m0 m1 m2 m3 m4 m5 b14 c13
  obtain ⟨n0, n1, n2, n3, n4, n5⟩ := row6z (KZ.out w14 c14).2.1
  obtain ⟨m0, m1, m2, m3, m4, m5⟩ := row6z (KZ.out w14 c14).2.2
  go_wp2_with fail
  refine (EYN.out w14 (KZ.out w14 c14).1.1).mono ?_
  rintro e w15 ⟨rfl, b15⟩
  have c15 := c14.trans (b15.mono c14.size)
  clear n0 n1 n2 n3 n4 n5 m0 m1 m2 m3 m4 m5 b15 c14 CNY CYN EYN
  go_wp2_with fail
  go_loopw [13] (fun e wr => ∃ n : Nat, n ≤ 14 ∧ e = .int .i64 (n : Int) ∧ Below wz.heap.size wz wr) (fun e _ => 14 - (RowKit.intOf e).toNat)
  case atStart => exact ⟨0, by omega, rfl, c15⟩
  case round =>
    clear c15
    obtain ⟨n, hn, rfl, cn⟩ := hrel
    have Kr := KZ.out wr cn
    obtain ⟨n0, n1, n2, n3, n4, n5⟩ := row6z Kr.1.2.1
    by_cases h14 : n < 14
    · have y1 : (n : Int) < 14 := by omega
      have hf := faulty_any g n _ wr Kr.1.2.2 h14 (by have := HGw.out; omega)
      clear Kr
      go_wp2_with fail
      refine hf.mono ?_
      rintro e wa ⟨p, csp, rfl, hlp, hwp, ba⟩
      have ca := cn.trans (ba.mono cn.size)
      obtain ⟨pk, pb, pi, ps, pal, pnl, pcl, pam, pnm, pcm, rfl⟩ := V.ten hlp
      have hzp := alloc_size wa (.cells #[.int .i64 pk, .bool pb, .int .i64 pi, .string ps, .slice pal pnl pcl, .slice pam pnm pcm] 25)
      have bp : Below wa.heap.size wa (wa.alloc (.cells #[.int .i64 pk, .bool pb, .int .i64 pi, .string ps, .slice pal pnl pcl, .slice pam pnm pcm] 25)) := (Below.refl _ _).alloc (Nat.le_refl _) _
      have cp := ca.trans (bp.mono ca.size)
      have rp := box_row wa [.int .i64 pk, .bool pb, .int .i64 pi, .string ps, .slice pal pnl pcl, .slice pam pnm pcm] 25
      have lp : p.lies false (wa.alloc (.cells #[.int .i64 pk, .bool pb, .int .i64 pi, .string ps, .slice pal pnl pcl, .slice pam pnm pcm] 25)) (Old (wa.alloc (.cells #[.int .i64 pk, .bool pb, .int .i64 pi, .string ps, .slice pal pnl pcl, .slice pam pnm pcm] 25))) [.int .i64 pk, .bool pb, .int .i64 pi, .string ps, .slice pal pnl pcl, .slice pam pnm pcm] := V.lies_keep (fun h => h) (fun x hx => bp.block x hx) (fun x hx => Nat.lt_of_lt_of_le hx bp.size) _ hlp
      have hpw : p.wt ≤ 3000000 := by have := HGw.out; omega
      clear n0 n1 n2 n3 n4 n5 hf ba ca bp hlp hwp
      go_wp2_with fail
      generalize (wa.alloc (.cells #[.int .i64 pk, .bool pb, .int .i64 pi, .string ps, .slice pal pnl pcl, .slice pam pnm pcm] 25)) = wp at *
      refine (cleared_any p _ wp lp).mono ?_
      rintro e wb ⟨q, csq, rfl, hlq, hwq, bb⟩
      obtain ⟨qk, qb, qi, qs, qal, qnl, qcl, qam, qnm, qcm, rfl⟩ := V.ten hlq
      have hzb := bb.size
      have hzq := alloc_size wb (.cells #[.int .i64 qk, .bool qb, .int .i64 qi, .string qs, .slice qal qnl qcl, .slice qam qnm qcm] 25)
      have bd : Below wb.heap.size wb (wb.alloc (.cells #[.int .i64 qk, .bool qb, .int .i64 qi, .string qs, .slice qal qnl qcl, .slice qam qnm qcm] 25)) := (Below.refl _ _).alloc (Nat.le_refl _) _
      have cd := bb.trans (bd.mono hzb)
      have rq := box_row wb [.int .i64 qk, .bool qb, .int .i64 qi, .string qs, .slice qal qnl qcl, .slice qam qnm qcm] 25
      have lq : q.lies false (wb.alloc (.cells #[.int .i64 qk, .bool qb, .int .i64 qi, .string qs, .slice qal qnl qcl, .slice qam qnm qcm] 25)) (Old (wb.alloc (.cells #[.int .i64 qk, .bool qb, .int .i64 qi, .string qs, .slice qal qnl qcl, .slice qam qnm qcm] 25))) [.int .i64 qk, .bool qb, .int .i64 qi, .string qs, .slice qal qnl qcl, .slice qam qnm qcm] := V.lies_keep (fun h => h) (fun x hx => bd.block x hx) (fun x hx => Nat.lt_of_lt_of_le hx bd.size) _ hlq
      have lp2 : p.lies false (wb.alloc (.cells #[.int .i64 qk, .bool qb, .int .i64 qi, .string qs, .slice qal qnl qcl, .slice qam qnm qcm] 25)) (Old (wb.alloc (.cells #[.int .i64 qk, .bool qb, .int .i64 qi, .string qs, .slice qal qnl qcl, .slice qam qnm qcm] 25))) [.int .i64 pk, .bool pb, .int .i64 pi, .string ps, .slice pal pnl pcl, .slice pam pnm pcm] := V.lies_keep (fun h => h) (fun x hx => cd.block x hx) (fun x hx => Nat.lt_of_lt_of_le hx cd.size) _ lp
      have rp2 := rp.keep (cd.block _ (by omega))
      have ce := cp.trans (cd.mono cp.size)
      clear lp rp bb bd hlq cd
      go_wp2_with fail
      generalize (wb.alloc (.cells #[.int .i64 qk, .bool qb, .int .i64 qi, .string qs, .slice qal qnl qcl, .slice qam qnm qcm] 25)) = we at *
      obtain ⟨n0, n1, n2, n3, n4, n5⟩ := row6z rp2
      obtain ⟨m0, m1, m2, m3, m4, m5⟩ := row6z rq
      have hltp : wa.heap.size < we.heap.size := by omega
      have hltq : wb.heap.size < we.heap.size := by omega
      have x0 : ∀ x : Sub we.heap.size we, _ := sub_cell n0 hltp
      have z0 : ∀ x : Sub we.heap.size we, _ := sub_cell m0 hltq
      have x1 : ∀ x : Sub we.heap.size we, _ := sub_cell n1 hltp
      have z1 : ∀ x : Sub we.heap.size we, _ := sub_cell m1 hltq
      have x2 : ∀ x : Sub we.heap.size we, _ := sub_cell n2 hltp
      have z2 : ∀ x : Sub we.heap.size we, _ := sub_cell m2 hltq
      have x3 : ∀ x : Sub we.heap.size we, _ := sub_cell n3 hltp
      have z3 : ∀ x : Sub we.heap.size we, _ := sub_cell m3 hltq
      have x4 : ∀ x : Sub we.heap.size we, _ := sub_cell n4 hltp
      have z4 : ∀ x : Sub we.heap.size we, _ := sub_cell m4 hltq
      have x5 : ∀ x : Sub we.heap.size we, _ := sub_cell n5 hltp
      have z5 : ∀ x : Sub we.heap.size we, _ := sub_cell m5 hltq
      have HW : ∀ W, Below we.heap.size we W → Below w.heap.size w W := fun W hb => (KZ.out W (ce.trans (hb.mono ce.size))).1.1
      obtain ⟨rep, hrep⟩ := rep_two p q #[.int .i64 pk, .bool pb, .int .i64 pi, .string ps, .slice pal pnl pcl, .slice pam pnm pcm] #[.int .i64 qk, .bool qb, .int .i64 qi, .string qs, .slice qal qnl qcl, .slice qam qnm qcm]
      have HR : ∀ W, Below we.heap.size we W → ∀ A, (A = #[.int .i64 pk, .bool pb, .int .i64 pi, .string ps, .slice pal pnl pcl, .slice pam pnm pcm] ∨ A = #[.int .i64 qk, .bool qb, .int .i64 qi, .string qs, .slice qal qnl qcl, .slice qam qnm qcm]) → (rep A).lies false W (Old W) A.toList ∧ (rep A).wt ≤ 1099511627776 := fun W hB A hA => by
        have K := (show (p.lies false W (Old W) (#[.int .i64 pk, .bool pb, .int .i64 pi, .string ps, .slice pal pnl pcl, .slice pam pnm pcm] : Array Value).toList ∧ p.wt ≤ 1099511627776) ∧ (q.lies false W (Old W) (#[.int .i64 qk, .bool qb, .int .i64 qi, .string qs, .slice qal qnl qcl, .slice qam qnm qcm] : Array Value).toList ∧ q.wt ≤ 1099511627776) from ⟨⟨V.lies_keep (fun h => h) (fun x hx => hB.block x hx) (fun x hx => Nat.lt_of_lt_of_le hx hB.size) _ lp2, by omega⟩, ⟨V.lies_keep (fun h => h) (fun x hx => hB.block x hx) (fun x hx => Nat.lt_of_lt_of_le hx hB.size) _ lq, by omega⟩⟩)
        rcases hrep A hA with ⟨e1, e2⟩ | ⟨e1, e2⟩
        · rw [e2, e1]; exact K.1
        · rw [e2, e1]; exact K.2
      have C22 : Hid (∀ (A B : Array Value), (A = #[.int .i64 pk, .bool pb, .int .i64 pi, .string ps, .slice pal pnl pcl, .slice pam pnm pcm] ∨ A = #[.int .i64 qk, .bool qb, .int .i64 qi, .string qs, .slice qal qnl qcl, .slice qam qnm qcm]) → (B = #[.int .i64 pk, .bool pb, .int .i64 pi, .string ps, .slice pal pnl pcl, .slice pam pnm pcm] ∨ B = #[.int .i64 qk, .bool qb, .int .i64 qi, .string qs, .slice qal qnl qcl, .slice qam qnm qcm]) → ∀ x : Sub we.heap.size we, Calls Tryd.prog 22 #[.agg A, .agg B] x.w fun e w'' => e = .returned (.int .i64 (cmpV (rep A) (rep B))) ∧ ∃ y : Sub we.heap.size we, w'' = y.w) := fun A B hA hB => sub_call fun W hb => by
        have h := compare_any (rep A) (rep B) false false (Old W) (Old W) _ _ W (HT.out W (HW W hb)) (HR W hb A hA).1 (HR W hb B hB).1 (fun b h => h) (fun b h => h) (HR W hb A hA).2 (HR W hb B hB).2
        exact h.mono fun e w'' h => ⟨h.1, hb.trans (h.2.mono hb.size)⟩
      have C23 : Hid (∀ (A B : Array Value), (A = #[.int .i64 pk, .bool pb, .int .i64 pi, .string ps, .slice pal pnl pcl, .slice pam pnm pcm] ∨ A = #[.int .i64 qk, .bool qb, .int .i64 qi, .string qs, .slice qal qnl qcl, .slice qam qnm qcm]) → (B = #[.int .i64 pk, .bool pb, .int .i64 pi, .string ps, .slice pal pnl pcl, .slice pam pnm pcm] ∨ B = #[.int .i64 qk, .bool qb, .int .i64 qi, .string qs, .slice qal qnl qcl, .slice qam qnm qcm]) → ∀ x : Sub we.heap.size we, Calls Tryd.prog 23 #[.agg A, .agg B] x.w fun e w'' => e = .returned (.bool (eqlV (rep A) (rep B))) ∧ ∃ y : Sub we.heap.size we, w'' = y.w) := fun A B hA hB => sub_call fun W hb => by
        have h := equal_any (rep A) (rep B) false false (Old W) (Old W) _ _ W (HT.out W (HW W hb)) (HR W hb A hA).1 (HR W hb B hB).1 (fun b h => h) (fun b h => h) (HR W hb A hA).2 (HR W hb B hB).2
        exact h.mono fun e w'' h => ⟨h.1, hb.trans (h.2.mono hb.size)⟩
      have C24 : Hid (∀ (A B : Array Value), (A = #[.int .i64 pk, .bool pb, .int .i64 pi, .string ps, .slice pal pnl pcl, .slice pam pnm pcm] ∨ A = #[.int .i64 qk, .bool qb, .int .i64 qi, .string qs, .slice qal qnl qcl, .slice qam qnm qcm]) → (B = #[.int .i64 pk, .bool pb, .int .i64 pi, .string ps, .slice pal pnl pcl, .slice pam pnm pcm] ∨ B = #[.int .i64 qk, .bool qb, .int .i64 qi, .string qs, .slice qal qnl qcl, .slice qam qnm qcm]) → ∀ x : Sub we.heap.size we, Calls Tryd.prog 24 #[.agg A, .agg B] x.w fun e w'' => e = .returned (.int .i64 (cmpV (rep A) (rep B))) ∧ ∃ y : Sub we.heap.size we, w'' = y.w) := fun A B hA hB => sub_call fun W hb => by
        have h := rcompare_any (rep A) (rep B) false false (Old W) (Old W) _ _ W (HR W hb A hA).1 (HR W hb B hB).1 (fun b h => h) (fun b h => h) (HR W hb A hA).2 (HR W hb B hB).2
        exact h.mono fun e w'' h => ⟨h.1, hb.trans (h.2.mono hb.size)⟩
      have C25 : Hid (∀ (A B : Array Value), (A = #[.int .i64 pk, .bool pb, .int .i64 pi, .string ps, .slice pal pnl pcl, .slice pam pnm pcm] ∨ A = #[.int .i64 qk, .bool qb, .int .i64 qi, .string qs, .slice qal qnl qcl, .slice qam qnm qcm]) → (B = #[.int .i64 pk, .bool pb, .int .i64 pi, .string ps, .slice pal pnl pcl, .slice pam pnm pcm] ∨ B = #[.int .i64 qk, .bool qb, .int .i64 qi, .string qs, .slice qal qnl qcl, .slice qam qnm qcm]) → ∀ x : Sub we.heap.size we, Calls Tryd.prog 25 #[.agg A, .agg B] x.w fun e w'' => e = .returned (.bool (eqlV (rep A) (rep B))) ∧ ∃ y : Sub we.heap.size we, w'' = y.w) := fun A B hA hB => sub_call fun W hb => by
        have h := requal_any (rep A) (rep B) false false (Old W) (Old W) _ _ W (HR W hb A hA).1 (HR W hb B hB).1 (fun b h => h) (fun b h => h) (HR W hb A hA).2 (HR W hb B hB).2
        exact h.mono fun e w'' h => ⟨h.1, hb.trans (h.2.mono hb.size)⟩
      clear hrep HR HW n0 n1 n2 n3 n4 n5 m0 m1 m2 m3 m4 m5 lp2 lq rp2 rq
      refine wp_region_sub we.heap.size (by kernel_rfl) (by kernel_rfl) ?_
      repeat (go_big_quiet_step (first | exact C22.out _ _ (by first | exact .inl rfl | exact .inr rfl) (by first | exact .inl rfl | exact .inr rfl) _ | exact C23.out _ _ (by first | exact .inl rfl | exact .inr rfl) (by first | exact .inl rfl | exact .inr rfl) _ | exact C24.out _ _ (by first | exact .inl rfl | exact .inr rfl) (by first | exact .inl rfl | exact .inr rfl) _ | exact C25.out _ _ (by first | exact .inl rfl | exact .inr rfl) (by first | exact .inl rfl | exact .inr rfl) _))
      refine wpQuiet_nil ?_
      rintro wq2 ⟨⟨wq2', bq⟩, hq⟩
      have hq' : wq2 = wq2' := hq
      subst hq'
      clear hq C22 C23 C24 C25 x0 x1 x2 x3 x4 x5 z0 z1 z2 z3 z4 z5
      have cf := ce.trans (bq.mono ce.size)
      go_wp2_with fail
      go_roundw
      case rel => exact ⟨n + 1, by omega, by go_num, cf⟩
      case measure => simp [RowKit.intOf]; omega
    · obtain rfl : n = 14 := by omega
      have y1 : ¬ ((14 : Nat) : Int) < 14 := by omega
      have BW := Kr.1.1
      clear Kr
      go_wp2_with fail
      go_ret
      exact ⟨rfl, BW⟩
end Go.Proofs.YtljgofmmihmmfaaDoor
