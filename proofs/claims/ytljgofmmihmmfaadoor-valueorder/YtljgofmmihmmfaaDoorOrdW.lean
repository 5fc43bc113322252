/- ValueOrder: the law's own walk. -/
import Derived.Test.YtljgofmmihmmfaaDoorOrdR
import Derived.Test.YtljgofmmihmmfaaDoorSamA
import Derived.Test.YtljgofmmihmmfaaDoorRfE
import Derived.Test.YtljgofmmihmmfaaDoorAwkA
set_option linter.unusedSimpArgs false
set_option linter.unusedVariables false
namespace Go.Proofs.YtljgofmmihmmfaaDoor
open Go.RowKit Go.Lib

theorem ord_kind {k k' : Int} {b b' : Bool} {i i' : Int} {s s' : ByteArray} {l l' : List V} {m m' : List Mem} (h : ¬ k = k') : ordV (.mk k b i s l m) (.mk k' b' i' s' l' m') = if k < k' then -1 else 1 := by
  rw [ordV_lex]
  have h1 : ¬ cmpI k k' = 0 := fun e => h ((cmpI_zero k k').1 e)
  rw [if_neg h1, cmpI]
  by_cases h2 : k < k'
  · simp [h2]
  · have : k' < k := by omega
    simp [h2, this]
theorem eqlV_yes {v u : V} (h : okV v = true) (h' : okV u = true) : eqlV v u = decide (ordV v u = 0) := by simp [eqlV, h, h']
theorem eqlV_no {v u : V} (h : okV v = false ∨ okV u = false) : eqlV v u = false := by
  rcases h with h | h <;> simp [eqlV, h]
theorem eqB_ord {v u : V} (h : okV v = true) (h' : okV u = true) : V.eqB v u = decide (ordV v u = 0) := by
  rw [Bool.eq_iff_iff, decide_eq_true_iff]; exact (ord_zero h h').symm

set_option maxHeartbeats 8000000 in
set_option maxRecDepth 100000 in
theorem order_walk (v u x : V) (cs cs' cs'' : List Value) (w : World) (t : Tb w) (hv : v.lies false w (Old w) cs) (hu : u.lies false w (Old w) cs') (hx : x.lies false w (Old w) cs'') : Calls Tryd.prog 8 #[.agg cs.toArray, .agg cs'.toArray, .agg cs''.toArray] w (BPost true w) := by
  obtain ⟨k, b, i, s, l, m⟩ := v
  obtain ⟨k', b', i', s', l', m'⟩ := u
  obtain ⟨k'', b'', i'', s'', l'', m''⟩ := x
  have hv0 := hv
  have hu0 := hu
  have hx0 := hx
  rw [V.lies] at hv hu hx
  obtain ⟨al, cl, bl, ol, am, cm, bm, om, rfl, hk, hi, hs, hal, ham, _⟩ := hv
  obtain ⟨al', cl', bl', ol', am', cm', bm', om', rfl, hk', hi', hs', hal', ham', _⟩ := hu
  obtain ⟨al'', cl'', bl'', ol'', am'', cm'', bm'', om'', rfl, hk'', hi'', hs'', hal'', ham'', _⟩ := hx
  clear hk hi hs hk' hi' hs' hk'' hi'' hs'' hal ham hal' ham' hal'' ham''
  have hz1 := alloc_size w (.cells #[.int .i64 k, .bool b, .int .i64 i, .string s, .slice al l.length cl, .slice am m.length cm] 25)
  have hz2 : ((w.alloc (.cells #[.int .i64 k, .bool b, .int .i64 i, .string s, .slice al l.length cl, .slice am m.length cm] 25)).alloc (.cells #[.int .i64 k', .bool b', .int .i64 i', .string s', .slice al' l'.length cl', .slice am' m'.length cm'] 25)).heap.size = w.heap.size + 2 := by rw [alloc_size, alloc_size]
  have hz3 : (((w.alloc (.cells #[.int .i64 k, .bool b, .int .i64 i, .string s, .slice al l.length cl, .slice am m.length cm] 25)).alloc (.cells #[.int .i64 k', .bool b', .int .i64 i', .string s', .slice al' l'.length cl', .slice am' m'.length cm'] 25)).alloc (.cells #[.int .i64 k'', .bool b'', .int .i64 i'', .string s'', .slice al'' l''.length cl'', .slice am'' m''.length cm''] 25)).heap.size = w.heap.size + 3 := by rw [alloc_size, alloc_size, alloc_size]
  have HL : Hid (∀ W, Below w.heap.size w W → (V.mk k b i s l m).lies false W (Old W) [.int .i64 k, .bool b, .int .i64 i, .string s, .slice al l.length cl, .slice am m.length cm] ∧ (V.mk k' b' i' s' l' m').lies false W (Old W) [.int .i64 k', .bool b', .int .i64 i', .string s', .slice al' l'.length cl', .slice am' m'.length cm'] ∧ (V.mk k'' b'' i'' s'' l'' m'').lies false W (Old W) [.int .i64 k'', .bool b'', .int .i64 i'', .string s'', .slice al'' l''.length cl'', .slice am'' m''.length cm'']) := fun W hB => ⟨V.lies_keep (fun h => h) (fun x hx => hB.block x hx) (fun x hx => Nat.lt_of_lt_of_le hx hB.size) _ hv0, V.lies_keep (fun h => h) (fun x hx => hB.block x hx) (fun x hx => Nat.lt_of_lt_of_le hx hB.size) _ hu0, V.lies_keep (fun h => h) (fun x hx => hB.block x hx) (fun x hx => Nat.lt_of_lt_of_le hx hB.size) _ hx0⟩
  have HT : Hid (∀ W, Below w.heap.size w W → Tb W) := fun W hB => t.below hB t.z
  have B0 : Below w.heap.size w (((w.alloc (.cells #[.int .i64 k, .bool b, .int .i64 i, .string s, .slice al l.length cl, .slice am m.length cm] 25)).alloc (.cells #[.int .i64 k', .bool b', .int .i64 i', .string s', .slice al' l'.length cl', .slice am' m'.length cm'] 25)).alloc (.cells #[.int .i64 k'', .bool b'', .int .i64 i'', .string s'', .slice al'' l''.length cl'', .slice am'' m''.length cm''] 25)) := three_below w _ _ _
  have hbA : rowAt (((w.alloc (.cells #[.int .i64 k, .bool b, .int .i64 i, .string s, .slice al l.length cl, .slice am m.length cm] 25)).alloc (.cells #[.int .i64 k', .bool b', .int .i64 i', .string s', .slice al' l'.length cl', .slice am' m'.length cm'] 25)).alloc (.cells #[.int .i64 k'', .bool b'', .int .i64 i'', .string s'', .slice al'' l''.length cl'', .slice am'' m''.length cm''] 25)) w.heap.size 0 [.int .i64 k, .bool b, .int .i64 i, .string s, .slice al l.length cl, .slice am m.length cm] := ((box_row w [.int .i64 k, .bool b, .int .i64 i, .string s, .slice al l.length cl, .slice am m.length cm] 25).keep (Below.heap_alloc (w.alloc (.cells #[.int .i64 k, .bool b, .int .i64 i, .string s, .slice al l.length cl, .slice am m.length cm] 25)) (.cells #[.int .i64 k', .bool b', .int .i64 i', .string s', .slice al' l'.length cl', .slice am' m'.length cm'] 25) w.heap.size (by omega))).keep (Below.heap_alloc ((w.alloc (.cells #[.int .i64 k, .bool b, .int .i64 i, .string s, .slice al l.length cl, .slice am m.length cm] 25)).alloc (.cells #[.int .i64 k', .bool b', .int .i64 i', .string s', .slice al' l'.length cl', .slice am' m'.length cm'] 25)) (.cells #[.int .i64 k'', .bool b'', .int .i64 i'', .string s'', .slice al'' l''.length cl'', .slice am'' m''.length cm''] 25) w.heap.size (by omega))
  have hbB : rowAt (((w.alloc (.cells #[.int .i64 k, .bool b, .int .i64 i, .string s, .slice al l.length cl, .slice am m.length cm] 25)).alloc (.cells #[.int .i64 k', .bool b', .int .i64 i', .string s', .slice al' l'.length cl', .slice am' m'.length cm'] 25)).alloc (.cells #[.int .i64 k'', .bool b'', .int .i64 i'', .string s'', .slice al'' l''.length cl'', .slice am'' m''.length cm''] 25)) (w.heap.size + 1) 0 [.int .i64 k', .bool b', .int .i64 i', .string s', .slice al' l'.length cl', .slice am' m'.length cm'] := by
    have h := box_row (w.alloc (.cells #[.int .i64 k, .bool b, .int .i64 i, .string s, .slice al l.length cl, .slice am m.length cm] 25)) [.int .i64 k', .bool b', .int .i64 i', .string s', .slice al' l'.length cl', .slice am' m'.length cm'] 25
    rw [hz1] at h
    exact h.keep (Below.heap_alloc ((w.alloc (.cells #[.int .i64 k, .bool b, .int .i64 i, .string s, .slice al l.length cl, .slice am m.length cm] 25)).alloc (.cells #[.int .i64 k', .bool b', .int .i64 i', .string s', .slice al' l'.length cl', .slice am' m'.length cm'] 25)) (.cells #[.int .i64 k'', .bool b'', .int .i64 i'', .string s'', .slice al'' l''.length cl'', .slice am'' m''.length cm''] 25) (w.heap.size + 1) (by omega))
  have hbC : rowAt (((w.alloc (.cells #[.int .i64 k, .bool b, .int .i64 i, .string s, .slice al l.length cl, .slice am m.length cm] 25)).alloc (.cells #[.int .i64 k', .bool b', .int .i64 i', .string s', .slice al' l'.length cl', .slice am' m'.length cm'] 25)).alloc (.cells #[.int .i64 k'', .bool b'', .int .i64 i'', .string s'', .slice al'' l''.length cl'', .slice am'' m''.length cm''] 25)) (w.heap.size + 2) 0 [.int .i64 k'', .bool b'', .int .i64 i'', .string s'', .slice al'' l''.length cl'', .slice am'' m''.length cm''] := by
    have h := box_row ((w.alloc (.cells #[.int .i64 k, .bool b, .int .i64 i, .string s, .slice al l.length cl, .slice am m.length cm] 25)).alloc (.cells #[.int .i64 k', .bool b', .int .i64 i', .string s', .slice al' l'.length cl', .slice am' m'.length cm'] 25)) [.int .i64 k'', .bool b'', .int .i64 i'', .string s'', .slice al'' l''.length cl'', .slice am'' m''.length cm''] 25
    rw [hz2] at h
    exact h
  obtain ⟨d0, d1, d2, d3, d4, d5⟩ := row6z hbA
  clear hv0 hu0 hx0 t
  go_enter Tryd.func8, Tryd.ntmps8
  go_wp2_with fail
  clear d0 d1 d2 d3 d4 d5
  generalize (((w.alloc (.cells #[.int .i64 k, .bool b, .int .i64 i, .string s, .slice al l.length cl, .slice am m.length cm] 25)).alloc (.cells #[.int .i64 k', .bool b', .int .i64 i', .string s', .slice al' l'.length cl', .slice am' m'.length cm'] 25)).alloc (.cells #[.int .i64 k'', .bool b'', .int .i64 i'', .string s'', .slice al'' l''.length cl'', .slice am'' m''.length cm''] 25)) = w0 at *
  have K0 : Hid (∀ W, Below w0.heap.size w0 W → Below w.heap.size w W ∧ rowAt W w.heap.size 0 [.int .i64 k, .bool b, .int .i64 i, .string s, .slice al l.length cl, .slice am m.length cm] ∧ rowAt W (w.heap.size + 1) 0 [.int .i64 k', .bool b', .int .i64 i', .string s', .slice al' l'.length cl', .slice am' m'.length cm'] ∧ rowAt W (w.heap.size + 2) 0 [.int .i64 k'', .bool b'', .int .i64 i'', .string s'', .slice al'' l''.length cl'', .slice am'' m''.length cm'']) := fun W hB => ⟨B0.trans (hB.mono (by omega)), hbA.keep (hB.block _ (by omega)), hbB.keep (hB.block _ (by omega)), hbC.keep (hB.block _ (by omega))⟩
  clear hbA hbB hbC
  refine (beyond_any (V.mk k b i s l m) (Old w0) _ w0 (HL.out w0 B0).1 (fun x hx => hx)).mono ?_
  rintro e w1 ⟨r, rfl, hr, c1⟩
  have B1 := (K0.out w1 c1).1
  cases r with
  | true =>
    go_wp2_with fail
    go_ret
    exact ⟨rfl, B1⟩
  | false =>
  have hwt := hr rfl
  clear hr
  obtain ⟨f0, f1, f2, f3, f4, f5⟩ := row6z (K0.out w1 c1).2.2.1
  go_wp2_with fail
  refine (beyond_any (V.mk k' b' i' s' l' m') (Old w1) _ w1 (HL.out w1 B1).2.1 (fun x hx => hx)).mono ?_
  rintro e w2 ⟨r, rfl, hr, b2⟩
  have c2 := c1.trans (b2.mono c1.size)
  clear f0 f1 f2 f3 f4 f5 b2 c1 B1
  have B2 := (K0.out w2 c2).1
  cases r with
  | true =>
    go_wp2_with fail
    go_ret
    exact ⟨rfl, B2⟩
  | false =>
  have hwt' := hr rfl
  clear hr
  obtain ⟨f0, f1, f2, f3, f4, f5⟩ := row6z (K0.out w2 c2).2.2.2
  go_wp2_with fail
  refine (beyond_any (V.mk k'' b'' i'' s'' l'' m'') (Old w2) _ w2 (HL.out w2 B2).2.2 (fun x hx => hx)).mono ?_
  rintro e w3 ⟨r, rfl, hr, b3⟩
  have c3 := c2.trans (b3.mono c2.size)
  clear f0 f1 f2 f3 f4 f5 b3 c2 B2
  have B3 := (K0.out w3 c3).1
  cases r with
  | true =>
    go_wp2_with fail
    go_ret
    exact ⟨rfl, B3⟩
  | false =>
  have hwt'' := hr rfl
  clear hr
  have CT : Hid (∀ W, Below w.heap.size w W → Calls Tryd.prog 42 #[.agg #[.int .i64 k, .bool b, .int .i64 i, .string s, .slice al l.length cl, .slice am m.length cm]] W (BPost (okV (V.mk k b i s l m)) W) ∧ Calls Tryd.prog 42 #[.agg #[.int .i64 k', .bool b', .int .i64 i', .string s', .slice al' l'.length cl', .slice am' m'.length cm']] W (BPost (okV (V.mk k' b' i' s' l' m')) W) ∧ Calls Tryd.prog 42 #[.agg #[.int .i64 k'', .bool b'', .int .i64 i'', .string s'', .slice al'' l''.length cl'', .slice am'' m''.length cm'']] W (BPost (okV (V.mk k'' b'' i'' s'' l'' m'')) W)) := fun W hB =>
    ⟨ltaken_any false (V.mk k b i s l m) (Old W) _ W (HT.out W hB) (HL.out W hB).1 (fun b h => h) (by omega), ltaken_any false (V.mk k' b' i' s' l' m') (Old W) _ W (HT.out W hB) (HL.out W hB).2.1 (fun b h => h) (by omega), ltaken_any false (V.mk k'' b'' i'' s'' l'' m'') (Old W) _ W (HT.out W hB) (HL.out W hB).2.2 (fun b h => h) (by omega)⟩
  have CC : Hid (∀ W, Below w.heap.size w W → Calls Tryd.prog 22 #[.agg #[.int .i64 k, .bool b, .int .i64 i, .string s, .slice al l.length cl, .slice am m.length cm], .agg #[.int .i64 k', .bool b', .int .i64 i', .string s', .slice al' l'.length cl', .slice am' m'.length cm']] W (JPost (cmpV (V.mk k b i s l m) (V.mk k' b' i' s' l' m')) W) ∧ Calls Tryd.prog 22 #[.agg #[.int .i64 k', .bool b', .int .i64 i', .string s', .slice al' l'.length cl', .slice am' m'.length cm'], .agg #[.int .i64 k, .bool b, .int .i64 i, .string s, .slice al l.length cl, .slice am m.length cm]] W (JPost (cmpV (V.mk k' b' i' s' l' m') (V.mk k b i s l m)) W) ∧ Calls Tryd.prog 22 #[.agg #[.int .i64 k, .bool b, .int .i64 i, .string s, .slice al l.length cl, .slice am m.length cm], .agg #[.int .i64 k, .bool b, .int .i64 i, .string s, .slice al l.length cl, .slice am m.length cm]] W (JPost (cmpV (V.mk k b i s l m) (V.mk k b i s l m)) W) ∧ Calls Tryd.prog 22 #[.agg #[.int .i64 k', .bool b', .int .i64 i', .string s', .slice al' l'.length cl', .slice am' m'.length cm'], .agg #[.int .i64 k'', .bool b'', .int .i64 i'', .string s'', .slice al'' l''.length cl'', .slice am'' m''.length cm'']] W (JPost (cmpV (V.mk k' b' i' s' l' m') (V.mk k'' b'' i'' s'' l'' m'')) W) ∧ Calls Tryd.prog 22 #[.agg #[.int .i64 k, .bool b, .int .i64 i, .string s, .slice al l.length cl, .slice am m.length cm], .agg #[.int .i64 k'', .bool b'', .int .i64 i'', .string s'', .slice al'' l''.length cl'', .slice am'' m''.length cm'']] W (JPost (cmpV (V.mk k b i s l m) (V.mk k'' b'' i'' s'' l'' m'')) W)) := fun W hB =>
    ⟨compare_any (V.mk k b i s l m) (V.mk k' b' i' s' l' m') false false (Old W) (Old W) _ _ W (HT.out W hB) (HL.out W hB).1 (HL.out W hB).2.1 (fun b h => h) (fun b h => h) (by omega) (by omega), compare_any (V.mk k' b' i' s' l' m') (V.mk k b i s l m) false false (Old W) (Old W) _ _ W (HT.out W hB) (HL.out W hB).2.1 (HL.out W hB).1 (fun b h => h) (fun b h => h) (by omega) (by omega), compare_any (V.mk k b i s l m) (V.mk k b i s l m) false false (Old W) (Old W) _ _ W (HT.out W hB) (HL.out W hB).1 (HL.out W hB).1 (fun b h => h) (fun b h => h) (by omega) (by omega), compare_any (V.mk k' b' i' s' l' m') (V.mk k'' b'' i'' s'' l'' m'') false false (Old W) (Old W) _ _ W (HT.out W hB) (HL.out W hB).2.1 (HL.out W hB).2.2 (fun b h => h) (fun b h => h) (by omega) (by omega), compare_any (V.mk k b i s l m) (V.mk k'' b'' i'' s'' l'' m'') false false (Old W) (Old W) _ _ W (HT.out W hB) (HL.out W hB).1 (HL.out W hB).2.2 (fun b h => h) (fun b h => h) (by omega) (by omega)⟩
  have CE : Hid (∀ W, Below w.heap.size w W → Calls Tryd.prog 23 #[.agg #[.int .i64 k, .bool b, .int .i64 i, .string s, .slice al l.length cl, .slice am m.length cm], .agg #[.int .i64 k', .bool b', .int .i64 i', .string s', .slice al' l'.length cl', .slice am' m'.length cm']] W (BPost (eqlV (V.mk k b i s l m) (V.mk k' b' i' s' l' m')) W) ∧ Calls Tryd.prog 35 #[.agg #[.int .i64 k, .bool b, .int .i64 i, .string s, .slice al l.length cl, .slice am m.length cm], .agg #[.int .i64 k', .bool b', .int .i64 i', .string s', .slice al' l'.length cl', .slice am' m'.length cm']] W (BPost (V.eqB (V.mk k b i s l m) (V.mk k' b' i' s' l' m')) W)) := fun W hB =>
    ⟨equal_any (V.mk k b i s l m) (V.mk k' b' i' s' l' m') false false (Old W) (Old W) _ _ W (HT.out W hB) (HL.out W hB).1 (HL.out W hB).2.1 (fun b h => h) (fun b h => h) (by omega) (by omega), same_any (V.mk k b i s l m) false false (V.mk k' b' i' s' l' m') (Old W) (Old W) _ _ W (HL.out W hB).1 (HL.out W hB).2.1 (fun b h => h) (fun b h => h)⟩
  clear hwt hwt' hwt''
  have AW := awake_any w3 (HT.out w3 B3)
  go_wp2_with fail
  refine AW.mono ?_
  rintro e w4 ⟨rfl, b4⟩
  have c4 := c3.trans (b4.mono c3.size)
  clear AW b4 c3 B3
  cases hp : okV (V.mk k b i s l m) with
  | false =>
    have HP : Hid (okV (V.mk k b i s l m) = false) := hp
    have HM : Hid (cmpV (V.mk k b i s l m) (V.mk k' b' i' s' l' m') = 0) := cmpV_no1 hp
    have HE : Hid (eqlV (V.mk k b i s l m) (V.mk k' b' i' s' l' m') = false) := eqlV_no (.inl hp)
    clear hp
    obtain ⟨d0, d1, d2, d3, d4, d5⟩ := row6z (K0.out w4 c4).2.1
    have Q := (CT.out w4 (K0.out w4 c4).1).1
    rw [HP.out] at Q
    go_wp2_with fail
    refine Q.mono ?_
    rintro e w5 ⟨rfl, b5⟩
    have c5 := c4.trans (b5.mono c4.size)
    clear Q b5 c4 d0 d1 d2 d3 d4 d5
    obtain ⟨f0, f1, f2, f3, f4, f5⟩ := row6z (K0.out w5 c5).2.2.1
    have Q := (CT.out w5 (K0.out w5 c5).1).2.1
    go_wp2_with fail
    refine Q.mono ?_
    rintro e w6 ⟨rfl, b6⟩
    have c6 := c5.trans (b6.mono c5.size)
    clear Q b6 c5 f0 f1 f2 f3 f4 f5
    obtain ⟨g0, g1, g2, g3, g4, g5⟩ := row6z (K0.out w6 c6).2.2.2
    have Q := (CT.out w6 (K0.out w6 c6).1).2.2
    go_wp2_with fail
    refine Q.mono ?_
    rintro e w7 ⟨rfl, b7⟩
    have c7 := c6.trans (b7.mono c6.size)
    clear Q b7 c6 g0 g1 g2 g3 g4 g5
    obtain ⟨d0, d1, d2, d3, d4, d5⟩ := row6z (K0.out w7 c7).2.1
    obtain ⟨f0, f1, f2, f3, f4, f5⟩ := row6z (K0.out w7 c7).2.2.1
    have Q := (CC.out w7 (K0.out w7 c7).1).1
    rw [HM.out] at Q
    go_wp2_with fail
    refine Q.mono ?_
    rintro e w8 ⟨rfl, b8⟩
    have c8 := c7.trans (b8.mono c7.size)
    clear Q b8 c7 d0 d1 d2 d3 d4 d5 f0 f1 f2 f3 f4 f5
    obtain ⟨d0, d1, d2, d3, d4, d5⟩ := row6z (K0.out w8 c8).2.1
    obtain ⟨f0, f1, f2, f3, f4, f5⟩ := row6z (K0.out w8 c8).2.2.1
    have Q := (CE.out w8 (K0.out w8 c8).1).1
    rw [HE.out] at Q
    go_wp2_with fail
    refine Q.mono ?_
    rintro e w9 ⟨rfl, b9⟩
    have c9 := c8.trans (b9.mono c8.size)
    clear Q b9 c8 d0 d1 d2 d3 d4 d5 f0 f1 f2 f3 f4 f5
    have BZ := (K0.out w9 c9).1
    go_wp2_with fail
    go_ret
    exact ⟨rfl, BZ⟩
  | true =>
  have HP : Hid (okV (V.mk k b i s l m) = true) := hp
  clear hp
  cases hq : okV (V.mk k' b' i' s' l' m') with
  | false =>
    have HQ : Hid (okV (V.mk k' b' i' s' l' m') = false) := hq
    have HM : Hid (cmpV (V.mk k b i s l m) (V.mk k' b' i' s' l' m') = 0) := cmpV_no2 hq
    have HE : Hid (eqlV (V.mk k b i s l m) (V.mk k' b' i' s' l' m') = false) := eqlV_no (.inr hq)
    clear hq
    obtain ⟨d0, d1, d2, d3, d4, d5⟩ := row6z (K0.out w4 c4).2.1
    have Q := (CT.out w4 (K0.out w4 c4).1).1
    rw [HP.out] at Q
    go_wp2_with fail
    refine Q.mono ?_
    rintro e w5 ⟨rfl, b5⟩
    have c5 := c4.trans (b5.mono c4.size)
    clear Q b5 c4 d0 d1 d2 d3 d4 d5
    obtain ⟨f0, f1, f2, f3, f4, f5⟩ := row6z (K0.out w5 c5).2.2.1
    have Q := (CT.out w5 (K0.out w5 c5).1).2.1
    rw [HQ.out] at Q
    go_wp2_with fail
    refine Q.mono ?_
    rintro e w6 ⟨rfl, b6⟩
    have c6 := c5.trans (b6.mono c5.size)
    clear Q b6 c5 f0 f1 f2 f3 f4 f5
    obtain ⟨g0, g1, g2, g3, g4, g5⟩ := row6z (K0.out w6 c6).2.2.2
    have Q := (CT.out w6 (K0.out w6 c6).1).2.2
    go_wp2_with fail
    refine Q.mono ?_
    rintro e w7 ⟨rfl, b7⟩
    have c7 := c6.trans (b7.mono c6.size)
    clear Q b7 c6 g0 g1 g2 g3 g4 g5
    obtain ⟨d0, d1, d2, d3, d4, d5⟩ := row6z (K0.out w7 c7).2.1
    obtain ⟨f0, f1, f2, f3, f4, f5⟩ := row6z (K0.out w7 c7).2.2.1
    have Q := (CC.out w7 (K0.out w7 c7).1).1
    rw [HM.out] at Q
    go_wp2_with fail
    refine Q.mono ?_
    rintro e w8 ⟨rfl, b8⟩
    have c8 := c7.trans (b8.mono c7.size)
    clear Q b8 c7 d0 d1 d2 d3 d4 d5 f0 f1 f2 f3 f4 f5
    obtain ⟨d0, d1, d2, d3, d4, d5⟩ := row6z (K0.out w8 c8).2.1
    obtain ⟨f0, f1, f2, f3, f4, f5⟩ := row6z (K0.out w8 c8).2.2.1
    have Q := (CE.out w8 (K0.out w8 c8).1).1
    rw [HE.out] at Q
    go_wp2_with fail
    refine Q.mono ?_
    rintro e w9 ⟨rfl, b9⟩
    have c9 := c8.trans (b9.mono c8.size)
    clear Q b9 c8 d0 d1 d2 d3 d4 d5 f0 f1 f2 f3 f4 f5
    have BZ := (K0.out w9 c9).1
    go_wp2_with fail
    go_ret
    exact ⟨rfl, BZ⟩
  | true =>
  have HQ : Hid (okV (V.mk k' b' i' s' l' m') = true) := hq
  clear hq
  have HA : Hid (cmpV (V.mk k b i s l m) (V.mk k' b' i' s' l' m') = ordV (V.mk k b i s l m) (V.mk k' b' i' s' l' m')) := cmpV_yes HP.out HQ.out
  have HB : Hid (cmpV (V.mk k' b' i' s' l' m') (V.mk k b i s l m) = - ordV (V.mk k b i s l m) (V.mk k' b' i' s' l' m')) := (cmpV_yes HQ.out HP.out).trans (ordV_anti _ _)
  have HZ : Hid (cmpV (V.mk k b i s l m) (V.mk k b i s l m) = 0) := (cmpV_yes HP.out HP.out).trans (ordV_self _)
  have HE : Hid (eqlV (V.mk k b i s l m) (V.mk k' b' i' s' l' m') = decide (ordV (V.mk k b i s l m) (V.mk k' b' i' s' l' m') = 0)) := eqlV_yes HP.out HQ.out
  have HS : Hid (V.eqB (V.mk k b i s l m) (V.mk k' b' i' s' l' m') = decide (ordV (V.mk k b i s l m) (V.mk k' b' i' s' l' m') = 0)) := eqB_ord HP.out HQ.out
  have HK : Hid (¬ k = k' → ordV (V.mk k b i s l m) (V.mk k' b' i' s' l' m') = if k < k' then -1 else 1) := fun h => ord_kind h
  have HT3 : Hid (okV (V.mk k'' b'' i'' s'' l'' m'') = true → (cmpV (V.mk k' b' i' s' l' m') (V.mk k'' b'' i'' s'' l'' m'') = -1 ∨ cmpV (V.mk k' b' i' s' l' m') (V.mk k'' b'' i'' s'' l'' m'') = 0 ∨ cmpV (V.mk k' b' i' s' l' m') (V.mk k'' b'' i'' s'' l'' m'') = 1) ∧ Tri (ordV (V.mk k b i s l m) (V.mk k' b' i' s' l' m')) (cmpV (V.mk k' b' i' s' l' m') (V.mk k'' b'' i'' s'' l'' m'')) (cmpV (V.mk k b i s l m) (V.mk k'' b'' i'' s'' l'' m'')) ∧ (cmpV (V.mk k b i s l m) (V.mk k'' b'' i'' s'' l'' m'') = -1 ∨ cmpV (V.mk k b i s l m) (V.mk k'' b'' i'' s'' l'' m'') = 0 ∨ cmpV (V.mk k b i s l m) (V.mk k'' b'' i'' s'' l'' m'') = 1)) := fun h => by
    rw [cmpV_yes HQ.out h, cmpV_yes HP.out h]
    exact ⟨ordV_one _ _, ordV_tri _ _ _, ordV_one _ _⟩
  generalize cmpV (V.mk k' b' i' s' l' m') (V.mk k'' b'' i'' s'' l'' m'') = bc at *
  generalize cmpV (V.mk k b i s l m) (V.mk k'' b'' i'' s'' l'' m'') = ac at *
  have h1 := ordV_one (V.mk k b i s l m) (V.mk k' b' i' s' l' m')
  generalize ordV (V.mk k b i s l m) (V.mk k' b' i' s' l' m') = ab at *
  obtain ⟨d0, d1, d2, d3, d4, d5⟩ := row6z (K0.out w4 c4).2.1
  have Q := (CT.out w4 (K0.out w4 c4).1).1
  rw [HP.out] at Q
  go_wp2_with fail
  refine Q.mono ?_
  rintro e w5 ⟨rfl, b5⟩
  have c5 := c4.trans (b5.mono c4.size)
  clear Q b5 c4 d0 d1 d2 d3 d4 d5
  obtain ⟨f0, f1, f2, f3, f4, f5⟩ := row6z (K0.out w5 c5).2.2.1
  have Q := (CT.out w5 (K0.out w5 c5).1).2.1
  rw [HQ.out] at Q
  go_wp2_with fail
  refine Q.mono ?_
  rintro e w6 ⟨rfl, b6⟩
  have c6 := c5.trans (b6.mono c5.size)
  clear Q b6 c5 f0 f1 f2 f3 f4 f5
  obtain ⟨g0, g1, g2, g3, g4, g5⟩ := row6z (K0.out w6 c6).2.2.2
  have Q := (CT.out w6 (K0.out w6 c6).1).2.2
  go_wp2_with fail
  refine Q.mono ?_
  rintro e w7 ⟨rfl, b7⟩
  have c7 := c6.trans (b7.mono c6.size)
  clear Q b7 c6 g0 g1 g2 g3 g4 g5
  generalize hr : okV (V.mk k'' b'' i'' s'' l'' m'') = r at *
  have HR : Hid (okV (V.mk k'' b'' i'' s'' l'' m'') = r) := hr
  clear hr
  obtain ⟨d0, d1, d2, d3, d4, d5⟩ := row6z (K0.out w7 c7).2.1
  obtain ⟨f0, f1, f2, f3, f4, f5⟩ := row6z (K0.out w7 c7).2.2.1
  have Q := (CC.out w7 (K0.out w7 c7).1).1
  rw [HA.out] at Q
  go_wp2_with fail
  refine Q.mono ?_
  rintro e w8 ⟨rfl, b8⟩
  have c8 := c7.trans (b8.mono c7.size)
  clear Q b8 c7 d0 d1 d2 d3 d4 d5 f0 f1 f2 f3 f4 f5
  rcases h1 with hab | hab | hab
  · subst hab
    have e2 : -(-1 : Int) = 1 := by decide
    have e3 : decide ((-1 : Int) = 0) = false := by decide
    have HB' : Hid (cmpV (V.mk k' b' i' s' l' m') (V.mk k b i s l m) = 1) := HB.out.trans e2
    have HE' : Hid (eqlV (V.mk k b i s l m) (V.mk k' b' i' s' l' m') = false) := HE.out.trans e3
    have HS' : Hid (V.eqB (V.mk k b i s l m) (V.mk k' b' i' s' l' m') = false) := HS.out.trans e3
    clear e2 e3
    obtain ⟨d0, d1, d2, d3, d4, d5⟩ := row6z (K0.out w8 c8).2.1
    obtain ⟨f0, f1, f2, f3, f4, f5⟩ := row6z (K0.out w8 c8).2.2.1
    have Q := (CC.out w8 (K0.out w8 c8).1).2.1
    rw [HB'.out] at Q
    go_wp2_with fail
    refine Q.mono ?_
    rintro e w9 ⟨rfl, b9⟩
    have c9 := c8.trans (b9.mono c8.size)
    clear Q b9 c8 d0 d1 d2 d3 d4 d5 f0 f1 f2 f3 f4 f5
    obtain ⟨d0, d1, d2, d3, d4, d5⟩ := row6z (K0.out w9 c9).2.1
    have Q := (CC.out w9 (K0.out w9 c9).1).2.2.1
    rw [HZ.out] at Q
    go_wp2_with fail
    refine Q.mono ?_
    rintro e w10 ⟨rfl, b10⟩
    have c10 := c9.trans (b10.mono c9.size)
    clear Q b10 c9 d0 d1 d2 d3 d4 d5
    obtain ⟨d0, d1, d2, d3, d4, d5⟩ := row6z (K0.out w10 c10).2.1
    obtain ⟨f0, f1, f2, f3, f4, f5⟩ := row6z (K0.out w10 c10).2.2.1
    have Q := (CE.out w10 (K0.out w10 c10).1).2
    rw [HS'.out] at Q
    go_wp2_with fail
    refine Q.mono ?_
    rintro e w11 ⟨rfl, b11⟩
    have c11 := c10.trans (b11.mono c10.size)
    clear Q b11 c10 d0 d1 d2 d3 d4 d5 f0 f1 f2 f3 f4 f5
    obtain ⟨d0, d1, d2, d3, d4, d5⟩ := row6z (K0.out w11 c11).2.1
    obtain ⟨f0, f1, f2, f3, f4, f5⟩ := row6z (K0.out w11 c11).2.2.1
    have Q := (CE.out w11 (K0.out w11 c11).1).1
    rw [HE'.out] at Q
    go_wp2_with fail
    refine Q.mono ?_
    rintro e w12 ⟨rfl, b12⟩
    have c12 := c11.trans (b12.mono c11.size)
    clear Q b12 c11 d0 d1 d2 d3 d4 d5 f0 f1 f2 f3 f4 f5
    by_cases hkk : k = k'
    · subst hkk
      cases r with
      | false =>
        obtain ⟨d0, d1, d2, d3, d4, d5⟩ := row6z (K0.out w12 c12).2.1
        obtain ⟨f0, f1, f2, f3, f4, f5⟩ := row6z (K0.out w12 c12).2.2.1
        have BZ := (K0.out w12 c12).1
        go_wp2_with fail
        go_ret
        exact ⟨rfl, BZ⟩
      | true =>
      obtain ⟨hbc, htri, hac⟩ := HT3.out rfl
      have HTr : Hid (Tri (-1) bc ac) := htri
      clear htri
      have HD : Hid ((bc = -1 ∨ bc = 0 ∨ bc = 1) ∧ (ac = -1 ∨ ac = 0 ∨ ac = 1)) := ⟨hbc, hac⟩
      clear hbc hac
      obtain ⟨d0, d1, d2, d3, d4, d5⟩ := row6z (K0.out w12 c12).2.1
      obtain ⟨f0, f1, f2, f3, f4, f5⟩ := row6z (K0.out w12 c12).2.2.1
      obtain ⟨g0, g1, g2, g3, g4, g5⟩ := row6z (K0.out w12 c12).2.2.2
      have Q := (CC.out w12 (K0.out w12 c12).1).2.2.2.1
      go_wp2_with fail
      refine Q.mono ?_
      rintro e w13 ⟨rfl, b13⟩
      have c13 := c12.trans (b13.mono c12.size)
      clear Q b13 c12 d0 d1 d2 d3 d4 d5 f0 f1 f2 f3 f4 f5 g0 g1 g2 g3 g4 g5
      obtain ⟨d0, d1, d2, d3, d4, d5⟩ := row6z (K0.out w13 c13).2.1
      obtain ⟨g0, g1, g2, g3, g4, g5⟩ := row6z (K0.out w13 c13).2.2.2
      have Q := (CC.out w13 (K0.out w13 c13).1).2.2.2.2
      go_wp2_with fail
      refine Q.mono ?_
      rintro e w14 ⟨rfl, b14⟩
      have c14 := c13.trans (b14.mono c13.size)
      clear Q b14 c13 d0 d1 d2 d3 d4 d5 g0 g1 g2 g3 g4 g5
      obtain ⟨hbc, hac⟩ := HD.out
      rcases hbc with hbc | hbc | hbc
      · subst hbc
        have hac1 : ac = -1 := by
          have h := HTr.out (by decide) (by decide)
          rcases hac with e | e | e <;> simp [e] at h ⊢
        subst hac1
        clear hac
        have BZ := (K0.out w14 c14).1
        go_wp2_with fail
        go_ret
        exact ⟨rfl, BZ⟩
      · subst hbc
        have hac1 : ac = -1 := by
          have h := HTr.out (by decide) (by decide)
          rcases hac with e | e | e <;> simp [e] at h ⊢
        subst hac1
        clear hac
        have BZ := (K0.out w14 c14).1
        go_wp2_with fail
        go_ret
        exact ⟨rfl, BZ⟩
      · subst hbc
        clear hac
        have BZ := (K0.out w14 c14).1
        go_wp2_with fail
        go_ret
        exact ⟨rfl, BZ⟩
    · have hlt : k < k' := by
        have := HK.out hkk
        exact Classical.byContradiction fun h => by rw [if_neg h] at this; simp at this
      cases r with
      | false =>
        obtain ⟨d0, d1, d2, d3, d4, d5⟩ := row6z (K0.out w12 c12).2.1
        obtain ⟨f0, f1, f2, f3, f4, f5⟩ := row6z (K0.out w12 c12).2.2.1
        have BZ := (K0.out w12 c12).1
        go_wp2_with fail
        go_ret
        exact ⟨rfl, BZ⟩
      | true =>
      obtain ⟨hbc, htri, hac⟩ := HT3.out rfl
      have HTr : Hid (Tri (-1) bc ac) := htri
      clear htri
      have HD : Hid ((bc = -1 ∨ bc = 0 ∨ bc = 1) ∧ (ac = -1 ∨ ac = 0 ∨ ac = 1)) := ⟨hbc, hac⟩
      clear hbc hac
      obtain ⟨d0, d1, d2, d3, d4, d5⟩ := row6z (K0.out w12 c12).2.1
      obtain ⟨f0, f1, f2, f3, f4, f5⟩ := row6z (K0.out w12 c12).2.2.1
      obtain ⟨g0, g1, g2, g3, g4, g5⟩ := row6z (K0.out w12 c12).2.2.2
      have Q := (CC.out w12 (K0.out w12 c12).1).2.2.2.1
      go_wp2_with fail
      refine Q.mono ?_
      rintro e w13 ⟨rfl, b13⟩
      have c13 := c12.trans (b13.mono c12.size)
      clear Q b13 c12 d0 d1 d2 d3 d4 d5 f0 f1 f2 f3 f4 f5 g0 g1 g2 g3 g4 g5
      obtain ⟨d0, d1, d2, d3, d4, d5⟩ := row6z (K0.out w13 c13).2.1
      obtain ⟨g0, g1, g2, g3, g4, g5⟩ := row6z (K0.out w13 c13).2.2.2
      have Q := (CC.out w13 (K0.out w13 c13).1).2.2.2.2
      go_wp2_with fail
      refine Q.mono ?_
      rintro e w14 ⟨rfl, b14⟩
      have c14 := c13.trans (b14.mono c13.size)
      clear Q b14 c13 d0 d1 d2 d3 d4 d5 g0 g1 g2 g3 g4 g5
      obtain ⟨hbc, hac⟩ := HD.out
      rcases hbc with hbc | hbc | hbc
      · subst hbc
        have hac1 : ac = -1 := by
          have h := HTr.out (by decide) (by decide)
          rcases hac with e | e | e <;> simp [e] at h ⊢
        subst hac1
        clear hac
        have BZ := (K0.out w14 c14).1
        go_wp2_with fail
        go_ret
        exact ⟨rfl, BZ⟩
      · subst hbc
        have hac1 : ac = -1 := by
          have h := HTr.out (by decide) (by decide)
          rcases hac with e | e | e <;> simp [e] at h ⊢
        subst hac1
        clear hac
        have BZ := (K0.out w14 c14).1
        go_wp2_with fail
        go_ret
        exact ⟨rfl, BZ⟩
      · subst hbc
        clear hac
        have BZ := (K0.out w14 c14).1
        go_wp2_with fail
        go_ret
        exact ⟨rfl, BZ⟩
  · subst hab
    have e2 : -(0 : Int) = 0 := by decide
    have e3 : decide ((0 : Int) = 0) = true := by decide
    have HB' : Hid (cmpV (V.mk k' b' i' s' l' m') (V.mk k b i s l m) = 0) := HB.out.trans e2
    have HE' : Hid (eqlV (V.mk k b i s l m) (V.mk k' b' i' s' l' m') = true) := HE.out.trans e3
    have HS' : Hid (V.eqB (V.mk k b i s l m) (V.mk k' b' i' s' l' m') = true) := HS.out.trans e3
    clear e2 e3
    obtain ⟨d0, d1, d2, d3, d4, d5⟩ := row6z (K0.out w8 c8).2.1
    obtain ⟨f0, f1, f2, f3, f4, f5⟩ := row6z (K0.out w8 c8).2.2.1
    have Q := (CC.out w8 (K0.out w8 c8).1).2.1
    rw [HB'.out] at Q
    go_wp2_with fail
    refine Q.mono ?_
    rintro e w9 ⟨rfl, b9⟩
    have c9 := c8.trans (b9.mono c8.size)
    clear Q b9 c8 d0 d1 d2 d3 d4 d5 f0 f1 f2 f3 f4 f5
    obtain ⟨d0, d1, d2, d3, d4, d5⟩ := row6z (K0.out w9 c9).2.1
    have Q := (CC.out w9 (K0.out w9 c9).1).2.2.1
    rw [HZ.out] at Q
    go_wp2_with fail
    refine Q.mono ?_
    rintro e w10 ⟨rfl, b10⟩
    have c10 := c9.trans (b10.mono c9.size)
    clear Q b10 c9 d0 d1 d2 d3 d4 d5
    obtain ⟨d0, d1, d2, d3, d4, d5⟩ := row6z (K0.out w10 c10).2.1
    obtain ⟨f0, f1, f2, f3, f4, f5⟩ := row6z (K0.out w10 c10).2.2.1
    have Q := (CE.out w10 (K0.out w10 c10).1).2
    rw [HS'.out] at Q
    go_wp2_with fail
    refine Q.mono ?_
    rintro e w11 ⟨rfl, b11⟩
    have c11 := c10.trans (b11.mono c10.size)
    clear Q b11 c10 d0 d1 d2 d3 d4 d5 f0 f1 f2 f3 f4 f5
    obtain ⟨d0, d1, d2, d3, d4, d5⟩ := row6z (K0.out w11 c11).2.1
    obtain ⟨f0, f1, f2, f3, f4, f5⟩ := row6z (K0.out w11 c11).2.2.1
    have Q := (CE.out w11 (K0.out w11 c11).1).1
    rw [HE'.out] at Q
    go_wp2_with fail
    refine Q.mono ?_
    rintro e w12 ⟨rfl, b12⟩
    have c12 := c11.trans (b12.mono c11.size)
    clear Q b12 c11 d0 d1 d2 d3 d4 d5 f0 f1 f2 f3 f4 f5
    have hkk : k = k' := Classical.byContradiction fun h => by have := HK.out h; split at this <;> simp at this
    subst hkk
    cases r with
    | false =>
      obtain ⟨d0, d1, d2, d3, d4, d5⟩ := row6z (K0.out w12 c12).2.1
      obtain ⟨f0, f1, f2, f3, f4, f5⟩ := row6z (K0.out w12 c12).2.2.1
      have BZ := (K0.out w12 c12).1
      go_wp2_with fail
      go_ret
      exact ⟨rfl, BZ⟩
    | true =>
    obtain ⟨hbc, htri, hac⟩ := HT3.out rfl
    have HTr : Hid (Tri (0) bc ac) := htri
    clear htri
    have HD : Hid ((bc = -1 ∨ bc = 0 ∨ bc = 1) ∧ (ac = -1 ∨ ac = 0 ∨ ac = 1)) := ⟨hbc, hac⟩
    clear hbc hac
    obtain ⟨d0, d1, d2, d3, d4, d5⟩ := row6z (K0.out w12 c12).2.1
    obtain ⟨f0, f1, f2, f3, f4, f5⟩ := row6z (K0.out w12 c12).2.2.1
    obtain ⟨g0, g1, g2, g3, g4, g5⟩ := row6z (K0.out w12 c12).2.2.2
    have Q := (CC.out w12 (K0.out w12 c12).1).2.2.2.1
    go_wp2_with fail
    refine Q.mono ?_
    rintro e w13 ⟨rfl, b13⟩
    have c13 := c12.trans (b13.mono c12.size)
    clear Q b13 c12 d0 d1 d2 d3 d4 d5 f0 f1 f2 f3 f4 f5 g0 g1 g2 g3 g4 g5
    obtain ⟨d0, d1, d2, d3, d4, d5⟩ := row6z (K0.out w13 c13).2.1
    obtain ⟨g0, g1, g2, g3, g4, g5⟩ := row6z (K0.out w13 c13).2.2.2
    have Q := (CC.out w13 (K0.out w13 c13).1).2.2.2.2
    go_wp2_with fail
    refine Q.mono ?_
    rintro e w14 ⟨rfl, b14⟩
    have c14 := c13.trans (b14.mono c13.size)
    clear Q b14 c13 d0 d1 d2 d3 d4 d5 g0 g1 g2 g3 g4 g5
    obtain ⟨hbc, hac⟩ := HD.out
    rcases hbc with hbc | hbc | hbc
    · subst hbc
      have hac1 : ac = -1 := by
        have h := HTr.out (by decide) (by decide)
        rcases hac with e | e | e <;> simp [e] at h ⊢
      subst hac1
      clear hac
      have BZ := (K0.out w14 c14).1
      go_wp2_with fail
      go_ret
      exact ⟨rfl, BZ⟩
    · subst hbc
      have hac1 : ac = 0 := by
        have h := HTr.out (by decide) (by decide)
        rcases hac with e | e | e <;> simp [e] at h ⊢
      subst hac1
      clear hac
      have BZ := (K0.out w14 c14).1
      go_wp2_with fail
      go_ret
      exact ⟨rfl, BZ⟩
    · subst hbc
      clear hac
      have BZ := (K0.out w14 c14).1
      go_wp2_with fail
      go_ret
      exact ⟨rfl, BZ⟩
  · subst hab
    have e2 : -(1 : Int) = -1 := by decide
    have e3 : decide ((1 : Int) = 0) = false := by decide
    have HB' : Hid (cmpV (V.mk k' b' i' s' l' m') (V.mk k b i s l m) = -1) := HB.out.trans e2
    have HE' : Hid (eqlV (V.mk k b i s l m) (V.mk k' b' i' s' l' m') = false) := HE.out.trans e3
    have HS' : Hid (V.eqB (V.mk k b i s l m) (V.mk k' b' i' s' l' m') = false) := HS.out.trans e3
    clear e2 e3
    obtain ⟨d0, d1, d2, d3, d4, d5⟩ := row6z (K0.out w8 c8).2.1
    obtain ⟨f0, f1, f2, f3, f4, f5⟩ := row6z (K0.out w8 c8).2.2.1
    have Q := (CC.out w8 (K0.out w8 c8).1).2.1
    rw [HB'.out] at Q
    go_wp2_with fail
    refine Q.mono ?_
    rintro e w9 ⟨rfl, b9⟩
    have c9 := c8.trans (b9.mono c8.size)
    clear Q b9 c8 d0 d1 d2 d3 d4 d5 f0 f1 f2 f3 f4 f5
    obtain ⟨d0, d1, d2, d3, d4, d5⟩ := row6z (K0.out w9 c9).2.1
    have Q := (CC.out w9 (K0.out w9 c9).1).2.2.1
    rw [HZ.out] at Q
    go_wp2_with fail
    refine Q.mono ?_
    rintro e w10 ⟨rfl, b10⟩
    have c10 := c9.trans (b10.mono c9.size)
    clear Q b10 c9 d0 d1 d2 d3 d4 d5
    obtain ⟨d0, d1, d2, d3, d4, d5⟩ := row6z (K0.out w10 c10).2.1
    obtain ⟨f0, f1, f2, f3, f4, f5⟩ := row6z (K0.out w10 c10).2.2.1
    have Q := (CE.out w10 (K0.out w10 c10).1).2
    rw [HS'.out] at Q
    go_wp2_with fail
    refine Q.mono ?_
    rintro e w11 ⟨rfl, b11⟩
    have c11 := c10.trans (b11.mono c10.size)
    clear Q b11 c10 d0 d1 d2 d3 d4 d5 f0 f1 f2 f3 f4 f5
    obtain ⟨d0, d1, d2, d3, d4, d5⟩ := row6z (K0.out w11 c11).2.1
    obtain ⟨f0, f1, f2, f3, f4, f5⟩ := row6z (K0.out w11 c11).2.2.1
    have Q := (CE.out w11 (K0.out w11 c11).1).1
    rw [HE'.out] at Q
    go_wp2_with fail
    refine Q.mono ?_
    rintro e w12 ⟨rfl, b12⟩
    have c12 := c11.trans (b12.mono c11.size)
    clear Q b12 c11 d0 d1 d2 d3 d4 d5 f0 f1 f2 f3 f4 f5
    by_cases hkk : k = k'
    · subst hkk
      cases r with
      | false =>
        obtain ⟨d0, d1, d2, d3, d4, d5⟩ := row6z (K0.out w12 c12).2.1
        obtain ⟨f0, f1, f2, f3, f4, f5⟩ := row6z (K0.out w12 c12).2.2.1
        have BZ := (K0.out w12 c12).1
        go_wp2_with fail
        go_ret
        exact ⟨rfl, BZ⟩
      | true =>
      obtain ⟨hbc, htri, hac⟩ := HT3.out rfl
      have HTr : Hid (Tri (1) bc ac) := htri
      clear htri
      have HD : Hid ((bc = -1 ∨ bc = 0 ∨ bc = 1) ∧ (ac = -1 ∨ ac = 0 ∨ ac = 1)) := ⟨hbc, hac⟩
      clear hbc hac
      obtain ⟨d0, d1, d2, d3, d4, d5⟩ := row6z (K0.out w12 c12).2.1
      obtain ⟨f0, f1, f2, f3, f4, f5⟩ := row6z (K0.out w12 c12).2.2.1
      obtain ⟨g0, g1, g2, g3, g4, g5⟩ := row6z (K0.out w12 c12).2.2.2
      have Q := (CC.out w12 (K0.out w12 c12).1).2.2.2.1
      go_wp2_with fail
      refine Q.mono ?_
      rintro e w13 ⟨rfl, b13⟩
      have c13 := c12.trans (b13.mono c12.size)
      clear Q b13 c12 d0 d1 d2 d3 d4 d5 f0 f1 f2 f3 f4 f5 g0 g1 g2 g3 g4 g5
      obtain ⟨d0, d1, d2, d3, d4, d5⟩ := row6z (K0.out w13 c13).2.1
      obtain ⟨g0, g1, g2, g3, g4, g5⟩ := row6z (K0.out w13 c13).2.2.2
      have Q := (CC.out w13 (K0.out w13 c13).1).2.2.2.2
      go_wp2_with fail
      refine Q.mono ?_
      rintro e w14 ⟨rfl, b14⟩
      have c14 := c13.trans (b14.mono c13.size)
      clear Q b14 c13 d0 d1 d2 d3 d4 d5 g0 g1 g2 g3 g4 g5
      have BZ := (K0.out w14 c14).1
      go_wp2_with fail
      go_ret
      exact ⟨rfl, BZ⟩
    · have hlt : ¬ k < k' := by
        have := HK.out hkk
        intro h; rw [if_pos h] at this; simp at this
      cases r with
      | false =>
        obtain ⟨d0, d1, d2, d3, d4, d5⟩ := row6z (K0.out w12 c12).2.1
        obtain ⟨f0, f1, f2, f3, f4, f5⟩ := row6z (K0.out w12 c12).2.2.1
        have BZ := (K0.out w12 c12).1
        go_wp2_with fail
        go_ret
        exact ⟨rfl, BZ⟩
      | true =>
      obtain ⟨hbc, htri, hac⟩ := HT3.out rfl
      have HTr : Hid (Tri (1) bc ac) := htri
      clear htri
      have HD : Hid ((bc = -1 ∨ bc = 0 ∨ bc = 1) ∧ (ac = -1 ∨ ac = 0 ∨ ac = 1)) := ⟨hbc, hac⟩
      clear hbc hac
      obtain ⟨d0, d1, d2, d3, d4, d5⟩ := row6z (K0.out w12 c12).2.1
      obtain ⟨f0, f1, f2, f3, f4, f5⟩ := row6z (K0.out w12 c12).2.2.1
      obtain ⟨g0, g1, g2, g3, g4, g5⟩ := row6z (K0.out w12 c12).2.2.2
      have Q := (CC.out w12 (K0.out w12 c12).1).2.2.2.1
      go_wp2_with fail
      refine Q.mono ?_
      rintro e w13 ⟨rfl, b13⟩
      have c13 := c12.trans (b13.mono c12.size)
      clear Q b13 c12 d0 d1 d2 d3 d4 d5 f0 f1 f2 f3 f4 f5 g0 g1 g2 g3 g4 g5
      obtain ⟨d0, d1, d2, d3, d4, d5⟩ := row6z (K0.out w13 c13).2.1
      obtain ⟨g0, g1, g2, g3, g4, g5⟩ := row6z (K0.out w13 c13).2.2.2
      have Q := (CC.out w13 (K0.out w13 c13).1).2.2.2.2
      go_wp2_with fail
      refine Q.mono ?_
      rintro e w14 ⟨rfl, b14⟩
      have c14 := c13.trans (b14.mono c13.size)
      clear Q b14 c13 d0 d1 d2 d3 d4 d5 g0 g1 g2 g3 g4 g5
      have BZ := (K0.out w14 c14).1
      go_wp2_with fail
      go_ret
      exact ⟨rfl, BZ⟩
end Go.Proofs.YtljgofmmihmmfaaDoor
