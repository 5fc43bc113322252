import Derived.Test.YtljgofmmihmmfabDoorMapP
import Derived.Test.YtljgofmmihmmfabDoorWitA
import Derived.Test.YtljgofmmihmmfabDoorAwkA
/- ValueMaps: the law's own walk. -/
set_option linter.unusedSimpArgs false
set_option linter.unusedVariables false
namespace Go.Proofs.YtljgofmmihmmfabDoor
open Go.RowKit Go.Lib

/-- a value in a box of its own -/
structure Bx (W : World) (B : Nat) (v : V) (cs : List Value) : Prop where
  row : rowAt W B 0 cs
  lt : B < W.heap.size
  lies : v.lies false W (Old W) cs
theorem Bx.below {W W' : World} {B : Nat} {v : V} {cs : List Value} (h : Bx W B v cs) (hb : Below W.heap.size W W') : Bx W' B v cs :=
  ⟨h.row.keep (hb.block _ h.lt), Nat.lt_of_lt_of_le h.lt hb.size, V.lies_keep (fun h => h) (fun x hx => hb.block x hx) (fun x hx => Nat.lt_of_lt_of_le hx hb.size) _ h.lies⟩
theorem Bx.new {W : World} {S : Nat → Prop} {v : V} {cs : List Value} (h : v.lies false W S cs) (hS : ∀ b, S b → b < W.heap.size) : Bx (W.alloc (.cells cs.toArray 25)) W.heap.size v cs :=
  ⟨box_row W cs 25, by rw [alloc_size]; exact Nat.lt_succ_self _, V.lies_keep (fun h => h) (fun x hx => Below.heap_alloc W _ x (hS x hx)) (fun x hx => by show x < _; rw [alloc_size]; exact Nat.lt_succ_of_lt (hS x hx)) _ h⟩
theorem null_one {W : World} {key : ByteArray} (hk : key.size ≤ maxLen) : liesM false (W.alloc (.cells #[.string key, .int .i64 0, .bool false, .int .i64 0, .string ⟨#[]⟩, .slice none 0 0, .slice none 0 0] 38)) (fun b => b = W.heap.size) [(key, nullV)] W.heap.size 0 := by
  rw [liesM, liesM]
  exact ⟨rfl, ⟨hk, [.int .i64 0, .bool false, .int .i64 0, .string ⟨#[]⟩, .slice none 0 0, .slice none 0 0], row_of_block (cs := [.string key, .int .i64 0, .bool false, .int .i64 0, .string ⟨#[]⟩, .slice none 0 0, .slice none 0 0]) (heap_alloc_new W _), null_lies _ _⟩, trivial⟩

set_option maxHeartbeats 8000000 in
set_option maxRecDepth 100000 in
theorem maps_walk (v x : V) (key o : ByteArray) (cs cx : List Value) (w : World) (tb : Tb w) (hv : v.lies false w (Old w) cs) (hx : x.lies false w (Old w) cx) (hkey : key.size ≤ 140737488355328) (ho : o.size ≤ 140737488355328) :
    Calls Tryd.prog 4 #[.agg cs.toArray, .string key, .string o, .agg cx.toArray] w (BPost true w) := by
  obtain ⟨vk, vb, vi, vs, val, vnl, vcl, vam, vnm, vcm, rfl⟩ := V.ten hv
  obtain ⟨xk, xb, xi, xs, xal, xnl, xcl, xam, xnm, xcm, rfl⟩ := V.ten hx
  have hkm : key.size ≤ maxLen := Nat.le_trans hkey (by decide)
  have B0 : Below w.heap.size w ((w.alloc (.cells #[.int .i64 vk, .bool vb, .int .i64 vi, .string vs, .slice val vnl vcl, .slice vam vnm vcm] 25)).alloc (.cells #[.int .i64 xk, .bool xb, .int .i64 xi, .string xs, .slice xal xnl xcl, .slice xam xnm xcm] 25)) := two_below w _ _
  have XV : Bx ((w.alloc (.cells #[.int .i64 vk, .bool vb, .int .i64 vi, .string vs, .slice val vnl vcl, .slice vam vnm vcm] 25)).alloc (.cells #[.int .i64 xk, .bool xb, .int .i64 xi, .string xs, .slice xal xnl xcl, .slice xam xnm xcm] 25)) w.heap.size v [.int .i64 vk, .bool vb, .int .i64 vi, .string vs, .slice val vnl vcl, .slice vam vnm vcm] := (Bx.new hv (fun _ h => h)).below ((Below.refl _ _).alloc (Nat.le_refl _) _)
  have hx1 : x.lies false (w.alloc (.cells #[.int .i64 vk, .bool vb, .int .i64 vi, .string vs, .slice val vnl vcl, .slice vam vnm vcm] 25)) (Old (w.alloc (.cells #[.int .i64 vk, .bool vb, .int .i64 vi, .string vs, .slice val vnl vcl, .slice vam vnm vcm] 25))) [.int .i64 xk, .bool xb, .int .i64 xi, .string xs, .slice xal xnl xcl, .slice xam xnm xcm] := V.lies_keep (fun h => h) (fun y hy => Below.heap_alloc w _ y hy) (fun y hy => by show y < _; rw [alloc_size]; exact Nat.lt_succ_of_lt hy) _ hx
  have XX : Bx ((w.alloc (.cells #[.int .i64 vk, .bool vb, .int .i64 vi, .string vs, .slice val vnl vcl, .slice vam vnm vcm] 25)).alloc (.cells #[.int .i64 xk, .bool xb, .int .i64 xi, .string xs, .slice xal xnl xcl, .slice xam xnm xcm] 25)) (w.heap.size + 1) x [.int .i64 xk, .bool xb, .int .i64 xi, .string xs, .slice xal xnl xcl, .slice xam xnm xcm] := by
    have h := Bx.new hx1 (fun _ h => h)
    rw [alloc_size] at h
    exact h
  have HT : Hid (∀ W, Below w.heap.size w W → Tb W) := fun W hB => tb.below hB tb.z
  have Br : Hid (Below w.heap.size w ((w.alloc (.cells #[.int .i64 vk, .bool vb, .int .i64 vi, .string vs, .slice val vnl vcl, .slice vam vnm vcm] 25)).alloc (.cells #[.int .i64 xk, .bool xb, .int .i64 xi, .string xs, .slice xal xnl xcl, .slice xam xnm xcm] 25))) := B0
  clear hv hx hx1 tb B0
  obtain ⟨d0, d1, d2, d3, d4, d5⟩ := row6z XV.row
  go_enter Tryd.func4, Tryd.ntmps4
  go_wp2_with fail
  generalize ((w.alloc (.cells #[.int .i64 vk, .bool vb, .int .i64 vi, .string vs, .slice val vnl vcl, .slice vam vnm vcm] 25)).alloc (.cells #[.int .i64 xk, .bool xb, .int .i64 xi, .string xs, .slice xal xnl xcl, .slice xam xnm xcm] 25)) = w0 at *
  refine (beyond_any v (Old w0) _ w0 XV.lies (fun _ h => h)).mono ?_
  rintro e w1 ⟨r, rfl, hr, bu⟩
  clear d0 d1 d2 d3 d4 d5
  replace XV := XV.below bu
  replace XX := XX.below bu
  replace Br : Hid (Below w.heap.size w w1) := Br.out.trans (bu.mono Br.out.size)
  clear bu
  cases r with
  | true =>
    go_wp2_with fail
    go_ret
    exact ⟨rfl, Br.out⟩
  | false =>
  have hwv := hr rfl
  clear hr
  obtain ⟨f0, f1, f2, f3, f4, f5⟩ := row6z XX.row
  go_wp2_with fail
  refine (beyond_any x (Old w1) _ w1 XX.lies (fun _ h => h)).mono ?_
  rintro e w2 ⟨r, rfl, hr, bu⟩
  clear f0 f1 f2 f3 f4 f5
  replace XV := XV.below bu
  replace XX := XX.below bu
  replace Br : Hid (Below w.heap.size w w2) := Br.out.trans (bu.mono Br.out.size)
  clear bu
  cases r with
  | true =>
    go_wp2_with fail
    go_ret
    exact ⟨rfl, Br.out⟩
  | false =>
  have hwx := hr rfl
  clear hr
  go_wp2_with fail
  refine (awake_any w2 (HT.out w2 Br.out)).mono ?_
  rintro e w3 ⟨rfl, bu⟩
  replace XV := XV.below bu
  replace XX := XX.below bu
  replace Br : Hid (Below w.heap.size w w3) := Br.out.trans (bu.mono Br.out.size)
  clear bu
  obtain ⟨d0, d1, d2, d3, d4, d5⟩ := row6z XV.row
  go_wp2_with fail
  refine (lmapOf_any false v (Old w3) _ w3 (HT.out w3 Br.out) XV.lies (fun _ h => h) (by omega)).mono ?_
  rintro e w4 ⟨rfl, bu⟩
  clear d0 d1 d2 d3 d4 d5
  replace XV := XV.below bu
  replace XX := XX.below bu
  replace Br : Hid (Below w.heap.size w w4) := Br.out.trans (bu.mono Br.out.size)
  clear bu
  obtain ⟨wv, hwv1⟩ : ∃ wv, withV v key x = wv := ⟨_, rfl⟩
  obtain ⟨we, hwe1⟩ : ∃ we, withE v key x = we := ⟨_, rfl⟩
  obtain ⟨gb, hgb⟩ : ∃ gb, mapB v = gb := ⟨_, rfl⟩
  have HWV : Hid (withV v key x = wv) := hwv1
  have HWE : Hid (withE v key x = we) := hwe1
  have HGB : Hid (mapB v = gb) := hgb
  rw [hgb]
  have C15 : Hid (∀ W B cs B' cs', Below w.heap.size w W → Bx W B v cs → Bx W B' x cs' → Calls Tryd.prog 15 #[.agg cs.toArray, .string key, .agg cs'.toArray] W (VePost wv we W)) := fun W B cs B' cs' hb h h' => by rw [← hwv1, ← hwe1]; exact with_any v x key false false (Old W) (Old W) cs cs' W (HT.out W hb) h.lies h'.lies (fun _ h => h) (fun _ h => h) hkey (by omega) (by omega)
  have C13 : Hid (∀ W u S S' cs cs', V.lies false W S u cs → V.lies false W S' u cs' → (∀ b, S b → b < W.heap.size) → (∀ b, S' b → b < W.heap.size) → Calls Tryd.prog 13 #[.agg cs.toArray, .agg cs'.toArray] W (BPost true W)) := fun W u S S' cs cs' h h' k k' => by
    have := same_any u false false u S S' cs cs' W h h' k k'
    rwa [V.eqB_refl] at this
  clear hwv1 hwe1 hgb
  obtain ⟨d0, d1, d2, d3, d4, d5⟩ := row6z XV.row
  obtain ⟨f0, f1, f2, f3, f4, f5⟩ := row6z XX.row
  go_wp2_with fail
  refine (C15.out w4 _ _ _ _ Br.out XV XX).mono ?_
  rintro e w5 ⟨csu, rfl, hlu, bu⟩
  obtain ⟨uk, ub, ui, us, ual, unl, ucl, uam, unm, ucm, rfl⟩ := V.ten hlu
  clear d0 d1 d2 d3 d4 d5
  clear f0 f1 f2 f3 f4 f5
  have bA : Below w4.heap.size w4 (w5.alloc (.cells #[.int .i64 uk, .bool ub, .int .i64 ui, .string us, .slice ual unl ucl, .slice uam unm ucm] 25)) := bu.alloc bu.size _
  replace XV := XV.below bA
  replace XX := XX.below bA
  have XW : Bx (w5.alloc (.cells #[.int .i64 uk, .bool ub, .int .i64 ui, .string us, .slice ual unl ucl, .slice uam unm ucm] 25)) w5.heap.size wv [.int .i64 uk, .bool ub, .int .i64 ui, .string us, .slice ual unl ucl, .slice uam unm ucm] := Bx.new hlu (fun _ h => h.2)
  replace Br : Hid (Below w.heap.size w (w5.alloc (.cells #[.int .i64 uk, .bool ub, .int .i64 ui, .string us, .slice ual unl ucl, .slice uam unm ucm] 25))) := Br.out.trans (bA.mono Br.out.size)
  clear bA bu hlu
  go_wp2_with fail
  generalize (w5.alloc (.cells #[.int .i64 uk, .bool ub, .int .i64 ui, .string us, .slice ual unl ucl, .slice uam unm ucm] 25)) = wXW at *
  refine (num_any (we : Int) wXW).mono ?_
  rintro e w6 ⟨rfl, bu⟩
  replace XV := XV.below bu
  replace XX := XX.below bu
  replace XW := XW.below bu
  replace Br : Hid (Below w.heap.size w w6) := Br.out.trans (bu.mono Br.out.size)
  clear bu
  by_cases hE : we = 0
  rotate_left 1
  · have y0 : ¬ (we : Int) = 0 := by omega
    obtain rfl : wv = nullV := by rw [← HWV.out]; exact with_null (by rw [HWE.out]; exact hE)
    cases gb with
    | false =>
      obtain rfl : we = 20 := by rw [← HWE.out]; exact with_bad20 (fun h => by rw [HGB.out] at h; cases h.1)
      obtain ⟨d0, d1, d2, d3, d4, d5⟩ := row6z XW.row
      go_wp2_with fail
      refine (C13.out w6 nullV _ _ _ _ XW.lies (null_lies w6 (Old w6)) (fun _ h => h) (fun _ h => h)).mono ?_
      rintro e wn20a ⟨rfl, bu⟩
      clear d0 d1 d2 d3 d4 d5
      replace XV := XV.below bu
      replace XX := XX.below bu
      replace XW := XW.below bu
      replace Br : Hid (Below w.heap.size w wn20a) := Br.out.trans (bu.mono Br.out.size)
      clear bu
      go_wp2_with fail
      refine (num_any 20 wn20a).mono ?_
      rintro e wn20b0 ⟨rfl, bu⟩
      replace XV := XV.below bu
      replace XX := XX.below bu
      replace XW := XW.below bu
      replace Br : Hid (Below w.heap.size w wn20b0) := Br.out.trans (bu.mono Br.out.size)
      clear bu
      go_wp2_with fail
      go_ret
      exact ⟨rfl, Br.out⟩
    | true =>
      obtain ⟨f0, f1, f2, f3, f4, f5⟩ := row6z XX.row
      go_wp2_with fail
      refine (ltaken_any false x (Old w6) _ w6 (HT.out w6 Br.out) XX.lies (fun _ h => h) (by omega)).mono ?_
      rintro e w7 ⟨rfl, bu⟩
      clear f0 f1 f2 f3 f4 f5
      replace XV := XV.below bu
      replace XX := XX.below bu
      replace XW := XW.below bu
      replace Br : Hid (Below w.heap.size w w7) := Br.out.trans (bu.mono Br.out.size)
      clear bu
      obtain ⟨ox, hox⟩ : ∃ ox, okV x = ox := ⟨_, rfl⟩
      have HOX : Hid (okV x = ox) := hox
      rw [hox]
      clear hox
      cases ox with
      | false =>
        obtain rfl : we = 20 := by rw [← HWE.out]; exact with_bad20 (fun h => by rw [HOX.out] at h; cases h.2)
        obtain ⟨d0, d1, d2, d3, d4, d5⟩ := row6z XW.row
        go_wp2_with fail
        refine (C13.out w7 nullV _ _ _ _ XW.lies (null_lies w7 (Old w7)) (fun _ h => h) (fun _ h => h)).mono ?_
        rintro e wn20a ⟨rfl, bu⟩
        clear d0 d1 d2 d3 d4 d5
        replace XV := XV.below bu
        replace XX := XX.below bu
        replace XW := XW.below bu
        replace Br : Hid (Below w.heap.size w wn20a) := Br.out.trans (bu.mono Br.out.size)
        clear bu
        go_wp2_with fail
        refine (num_any 20 wn20a).mono ?_
        rintro e wn20b0 ⟨rfl, bu⟩
        replace XV := XV.below bu
        replace XX := XX.below bu
        replace XW := XW.below bu
        replace Br : Hid (Below w.heap.size w wn20b0) := Br.out.trans (bu.mono Br.out.size)
        clear bu
        go_wp2_with fail
        go_ret
        exact ⟨rfl, Br.out⟩
      | true =>
        go_wp2_with fail
        refine (num_any (we : Int) w7).mono ?_
        rintro e w8 ⟨rfl, bu⟩
        replace XV := XV.below bu
        replace XX := XX.below bu
        replace XW := XW.below bu
        replace Br : Hid (Below w.heap.size w w8) := Br.out.trans (bu.mono Br.out.size)
        clear bu
        by_cases h20 : we = 20
        · obtain rfl := h20
          have hut := with_utf (key := key) HGB.out HOX.out HWE.out
          have HB1 : Hid (bvV [(key, nullV)] = (nullV, 20)) := bv_one hut
          have CB : Hid (∀ W, Below w.heap.size w W → Calls Tryd.prog 10 #[.slice (some ⟨W.heap.size, 0, none⟩) 1 1] (W.alloc (.cells #[.string key, .int .i64 0, .bool false, .int .i64 0, .string ⟨#[]⟩, .slice none 0 0, .slice none 0 0] 38)) (VePost nullV 20 (W.alloc (.cells #[.string key, .int .i64 0, .bool false, .int .i64 0, .string ⟨#[]⟩, .slice none 0 0, .slice none 0 0] 38)))) := fun W hb => by
            have hb' := hb.alloc hb.size (.cells #[.string key, .int .i64 0, .bool false, .int .i64 0, .string ⟨#[]⟩, .slice none 0 0, .slice none 0 0] 38)
            have h := build_wide [(key, nullV)] false (fun b => b = W.heap.size) (some ⟨W.heap.size, 0, none⟩) 1 W.heap.size 0 _ (HT.out _ hb') rfl (null_one hkm) (fun b hb => by rw [hb, alloc_size]; exact Nat.lt_succ_self _) (by simp only [wtM, nullV, V.wt, wtL]; have z0 : (⟨#[]⟩ : ByteArray).size = 0 := rfl; omega) (fun y hy => by rw [List.mem_singleton.1 hy]; show nullV.wt ≤ _; decide) (by simp)
            refine h.mono fun e w' q => ?_
            have q2 := bv_val (bv_of_bld q)
            rwa [HB1.out] at q2
          go_wp2_with fail
          refine (CB.out w8 Br.out).mono ?_
          rintro e w9 ⟨csu, rfl, hlu, bu⟩
          obtain ⟨qk, qb, qi, qs, qal, qnl, qcl, qam, qnm, qcm, rfl⟩ := V.ten hlu
          have bA : Below w8.heap.size w8 (w9.alloc (.cells #[.int .i64 qk, .bool qb, .int .i64 qi, .string qs, .slice qal qnl qcl, .slice qam qnm qcm] 25)) := ((((Below.refl w8.heap.size w8).alloc (Nat.le_refl _) _).trans (bu.mono (by rw [alloc_size]; exact Nat.le_succ _)))).alloc (by have := bu.size; rw [alloc_size] at this; omega) _
          replace XW := XW.below bA
          replace Br : Hid (Below w.heap.size w (w9.alloc (.cells #[.int .i64 qk, .bool qb, .int .i64 qi, .string qs, .slice qal qnl qcl, .slice qam qnm qcm] 25))) := Br.out.trans (bA.mono Br.out.size)
          clear bA bu hlu XV XX
          obtain ⟨d0, d1, d2, d3, d4, d5⟩ := row6z XW.row
          go_wp2_with fail
          generalize (w9.alloc (.cells #[.int .i64 qk, .bool qb, .int .i64 qi, .string qs, .slice qal qnl qcl, .slice qam qnm qcm] 25)) = w10 at *
          refine (C13.out w10 nullV _ _ _ _ XW.lies (null_lies w10 (Old w10)) (fun _ h => h) (fun _ h => h)).mono ?_
          rintro e w11 ⟨rfl, bu⟩
          clear d0 d1 d2 d3 d4 d5
          replace XW := XW.below bu
          replace Br : Hid (Below w.heap.size w w11) := Br.out.trans (bu.mono Br.out.size)
          clear bu
          go_wp2_with fail
          refine (num_any 20 w11).mono ?_
          rintro e w12 ⟨rfl, bu⟩
          replace XW := XW.below bu
          replace Br : Hid (Below w.heap.size w w12) := Br.out.trans (bu.mono Br.out.size)
          clear bu
          go_wp2_with fail
          go_ret
          exact ⟨rfl, Br.out⟩
        · have y20 : ¬ (we : Int) = 20 := by omega
          have hset : we = 21 ∨ we = 22 ∨ we = 23 := by
            have h := with_set (v := v) (x := x) (key := key)
            rw [HWE.out, InE] at h
            omega
          rcases hset with rfl | rfl | rfl
          · skip
            obtain ⟨d0, d1, d2, d3, d4, d5⟩ := row6z XW.row
            go_wp2_with fail
            refine (C13.out w8 nullV _ _ _ _ XW.lies (null_lies w8 (Old w8)) (fun _ h => h) (fun _ h => h)).mono ?_
            rintro e wn21a ⟨rfl, bu⟩
            clear d0 d1 d2 d3 d4 d5
            replace XV := XV.below bu
            replace XX := XX.below bu
            replace XW := XW.below bu
            replace Br : Hid (Below w.heap.size w wn21a) := Br.out.trans (bu.mono Br.out.size)
            clear bu
            go_wp2_with fail
            refine (num_any 21 wn21a).mono ?_
            rintro e wn21b0 ⟨rfl, bu⟩
            replace XV := XV.below bu
            replace XX := XX.below bu
            replace XW := XW.below bu
            replace Br : Hid (Below w.heap.size w wn21b0) := Br.out.trans (bu.mono Br.out.size)
            clear bu
            go_wp2_with fail
            refine (num_any 21 wn21b0).mono ?_
            rintro e wn21b1 ⟨rfl, bu⟩
            replace XV := XV.below bu
            replace XX := XX.below bu
            replace XW := XW.below bu
            replace Br : Hid (Below w.heap.size w wn21b1) := Br.out.trans (bu.mono Br.out.size)
            clear bu
            go_wp2_with fail
            go_ret
            exact ⟨rfl, Br.out⟩
          · skip
            obtain ⟨d0, d1, d2, d3, d4, d5⟩ := row6z XW.row
            go_wp2_with fail
            refine (C13.out w8 nullV _ _ _ _ XW.lies (null_lies w8 (Old w8)) (fun _ h => h) (fun _ h => h)).mono ?_
            rintro e wn22a ⟨rfl, bu⟩
            clear d0 d1 d2 d3 d4 d5
            replace XV := XV.below bu
            replace XX := XX.below bu
            replace XW := XW.below bu
            replace Br : Hid (Below w.heap.size w wn22a) := Br.out.trans (bu.mono Br.out.size)
            clear bu
            go_wp2_with fail
            refine (num_any 22 wn22a).mono ?_
            rintro e wn22b0 ⟨rfl, bu⟩
            replace XV := XV.below bu
            replace XX := XX.below bu
            replace XW := XW.below bu
            replace Br : Hid (Below w.heap.size w wn22b0) := Br.out.trans (bu.mono Br.out.size)
            clear bu
            go_wp2_with fail
            refine (num_any 22 wn22b0).mono ?_
            rintro e wn22b1 ⟨rfl, bu⟩
            replace XV := XV.below bu
            replace XX := XX.below bu
            replace XW := XW.below bu
            replace Br : Hid (Below w.heap.size w wn22b1) := Br.out.trans (bu.mono Br.out.size)
            clear bu
            go_wp2_with fail
            refine (num_any 22 wn22b1).mono ?_
            rintro e wn22b2 ⟨rfl, bu⟩
            replace XV := XV.below bu
            replace XX := XX.below bu
            replace XW := XW.below bu
            replace Br : Hid (Below w.heap.size w wn22b2) := Br.out.trans (bu.mono Br.out.size)
            clear bu
            go_wp2_with fail
            go_ret
            exact ⟨rfl, Br.out⟩
          · skip
            obtain ⟨d0, d1, d2, d3, d4, d5⟩ := row6z XW.row
            go_wp2_with fail
            refine (C13.out w8 nullV _ _ _ _ XW.lies (null_lies w8 (Old w8)) (fun _ h => h) (fun _ h => h)).mono ?_
            rintro e wn23a ⟨rfl, bu⟩
            clear d0 d1 d2 d3 d4 d5
            replace XV := XV.below bu
            replace XX := XX.below bu
            replace XW := XW.below bu
            replace Br : Hid (Below w.heap.size w wn23a) := Br.out.trans (bu.mono Br.out.size)
            clear bu
            go_wp2_with fail
            refine (num_any 23 wn23a).mono ?_
            rintro e wn23b0 ⟨rfl, bu⟩
            replace XV := XV.below bu
            replace XX := XX.below bu
            replace XW := XW.below bu
            replace Br : Hid (Below w.heap.size w wn23b0) := Br.out.trans (bu.mono Br.out.size)
            clear bu
            go_wp2_with fail
            refine (num_any 23 wn23b0).mono ?_
            rintro e wn23b1 ⟨rfl, bu⟩
            replace XV := XV.below bu
            replace XX := XX.below bu
            replace XW := XW.below bu
            replace Br : Hid (Below w.heap.size w wn23b1) := Br.out.trans (bu.mono Br.out.size)
            clear bu
            go_wp2_with fail
            refine (num_any 23 wn23b1).mono ?_
            rintro e wn23b2 ⟨rfl, bu⟩
            replace XV := XV.below bu
            replace XX := XX.below bu
            replace XW := XW.below bu
            replace Br : Hid (Below w.heap.size w wn23b2) := Br.out.trans (bu.mono Br.out.size)
            clear bu
            go_wp2_with fail
            refine (num_any 23 wn23b2).mono ?_
            rintro e wn23b3 ⟨rfl, bu⟩
            replace XV := XV.below bu
            replace XX := XX.below bu
            replace XW := XW.below bu
            replace Br : Hid (Below w.heap.size w wn23b3) := Br.out.trans (bu.mono Br.out.size)
            clear bu
            go_wp2_with fail
            go_ret
            exact ⟨rfl, Br.out⟩
  subst hE
  have HF : Hid (MapF v x key o) := with_good o HWE.out
  obtain rfl : gb = true := by rw [← HGB.out]; exact HF.out.good
  have hww : wv.wt ≤ 1114112 := by rw [← HWV.out]; exact map_wt HF.out.good'
  obtain ⟨ov, hov⟩ : ∃ ov, woutV v key = ov := ⟨_, rfl⟩
  have hwo : ov.wt ≤ 1114112 := by rw [← hov]; exact map_wt HF.out.goodo
  obtain ⟨gp, hgp⟩ : ∃ gp, getV v o = gp := ⟨_, rfl⟩
  obtain ⟨gq, hgq⟩ : ∃ gq, getV wv o = gq := ⟨_, rfl⟩
  obtain ⟨gz, hgz⟩ : ∃ gz, getV ov key = gz := ⟨_, rfl⟩
  have HGQ : Hid (¬ o.toList = key.toList → gq = gp) := fun hne => by rw [← hgq, ← hgp, ← HWV.out]; exact HF.out.other hne
  have HGZ : Hid (gz.2 = false) := by show _ = _; rw [← hgz, ← hov]; exact HF.out.gone
  have HBK : Hid (gp.2 = true → withV v o gp.1 = v ∧ withE v o gp.1 = 0 ∧ gp.1.wt ≤ 1114112) := fun h => by rw [← hgp] at h ⊢; exact ⟨(HF.out.back h).1, (HF.out.back h).2, HF.out.awt h⟩
  have HST : Hid (gp.2 = false → woutV v o = v) := fun h => by rw [← hgp] at h; exact HF.out.stay h
  have CM : Hid (∀ W B cs, Below w.heap.size w W → Bx W B wv cs → Calls Tryd.prog 9 #[.agg cs.toArray] W (BPost true W)) := fun W B cs hb h => by
    have q := lmapOf_any false wv (Old W) cs W (HT.out W hb) h.lies (fun _ h => h) (by omega)
    have e := HF.out.good'
    rw [HWV.out] at e
    rwa [e] at q
  have CN : Hid (∀ W B cs, Below w.heap.size w W → Bx W B ov cs → Calls Tryd.prog 9 #[.agg cs.toArray] W (BPost true W)) := fun W B cs hb h => by
    have q := lmapOf_any false ov (Old W) cs W (HT.out W hb) h.lies (fun _ h => h) (by omega)
    have e := HF.out.goodo
    rw [hov] at e
    rwa [e] at q
  have CG1 : Hid (∀ W B cs, Below w.heap.size w W → Bx W B wv cs → Calls Tryd.prog 14 #[.agg cs.toArray, .string key] W (GtPost (x, true) W)) := fun W B cs hb h => by
    have q := get_any wv key false (Old W) cs W (HT.out W hb) h.lies (fun _ h => h) (by omega)
    have e := HF.out.got
    rw [HWV.out] at e
    rwa [e] at q
  have CG2 : Hid (∀ W B cs, Below w.heap.size w W → Bx W B v cs → Calls Tryd.prog 14 #[.agg cs.toArray, .string o] W (GtPost gp W)) := fun W B cs hb h => by rw [← hgp]; exact get_any v o false (Old W) cs W (HT.out W hb) h.lies (fun _ h => h) (by omega)
  have CG3 : Hid (∀ W B cs, Below w.heap.size w W → Bx W B wv cs → Calls Tryd.prog 14 #[.agg cs.toArray, .string o] W (GtPost gq W)) := fun W B cs hb h => by rw [← hgq]; exact get_any wv o false (Old W) cs W (HT.out W hb) h.lies (fun _ h => h) (by omega)
  have CG4 : Hid (∀ W B cs, Below w.heap.size w W → Bx W B ov cs → Calls Tryd.prog 14 #[.agg cs.toArray, .string key] W (GtPost gz W)) := fun W B cs hb h => by rw [← hgz]; exact get_any ov key false (Old W) cs W (HT.out W hb) h.lies (fun _ h => h) (by omega)
  have CO1 : Hid (∀ W B cs, Below w.heap.size w W → Bx W B wv cs → Calls Tryd.prog 17 #[.agg cs.toArray, .string key] W (AnPost ov W)) := fun W B cs hb h => by
    have q := without_any wv key false (Old W) cs W (HT.out W hb) h.lies (fun _ h => h) (by omega)
    have e := HF.out.wout
    rw [HWV.out, hov] at e
    rwa [e] at q
  have CO2 : Hid (∀ W B cs, Below w.heap.size w W → Bx W B v cs → Calls Tryd.prog 17 #[.agg cs.toArray, .string key] W (AnPost ov W)) := fun W B cs hb h => by rw [← hov]; exact without_any v key false (Old W) cs W (HT.out W hb) h.lies (fun _ h => h) (by omega)
  have CO3 : Hid (gp.2 = false → ∀ W B cs, Below w.heap.size w W → Bx W B v cs → Calls Tryd.prog 17 #[.agg cs.toArray, .string o] W (AnPost v W)) := fun hz W B cs hb h => by
    have q := without_any v o false (Old W) cs W (HT.out W hb) h.lies (fun _ h => h) (by omega)
    rwa [HST.out hz] at q
  have CW2 : Hid (gp.2 = true → ∀ W B cs B' cs', Below w.heap.size w W → Bx W B v cs → Bx W B' gp.1 cs' → Calls Tryd.prog 15 #[.agg cs.toArray, .string o, .agg cs'.toArray] W (VePost v 0 W)) := fun hz W B cs B' cs' hb h h' => by
    have k := HBK.out hz
    have q := with_any v gp.1 o false false (Old W) (Old W) cs cs' W (HT.out W hb) h.lies h'.lies (fun _ h => h) (fun _ h => h) ho (by omega) (by omega)
    rwa [k.1, k.2.1] at q
  clear hov hgp hgq hgz HF HWV HWE HGB C15 HBK HST
  obtain ⟨zv, zb⟩ := gz
  obtain rfl : zb = false := HGZ.out
  clear HGZ
  obtain ⟨av, ab⟩ := gp
  obtain ⟨bv, bb⟩ := gq
  obtain ⟨d0, d1, d2, d3, d4, d5⟩ := row6z XW.row
  go_wp2_with fail
  refine (CM.out w6 _ _ Br.out XW).mono ?_
  rintro e v1 ⟨rfl, bu⟩
  clear d0 d1 d2 d3 d4 d5
  replace XV := XV.below bu
  replace XX := XX.below bu
  replace XW := XW.below bu
  replace Br : Hid (Below w.heap.size w v1) := Br.out.trans (bu.mono Br.out.size)
  clear bu
  obtain ⟨d0, d1, d2, d3, d4, d5⟩ := row6z XW.row
  go_wp2_with fail
  refine (CG1.out v1 _ _ Br.out XW).mono ?_
  rintro e v2 ⟨csu, rfl, hlu, bu⟩
  obtain ⟨gk, gb, gi, gs, gal, gnl, gcl, gam, gnm, gcm, rfl⟩ := V.ten hlu
  clear d0 d1 d2 d3 d4 d5
  have bA : Below v1.heap.size v1 (v2.alloc (.cells #[.int .i64 gk, .bool gb, .int .i64 gi, .string gs, .slice gal gnl gcl, .slice gam gnm gcm] 25)) := bu.alloc bu.size _
  replace XV := XV.below bA
  replace XX := XX.below bA
  replace XW := XW.below bA
  have XG : Bx (v2.alloc (.cells #[.int .i64 gk, .bool gb, .int .i64 gi, .string gs, .slice gal gnl gcl, .slice gam gnm gcm] 25)) v2.heap.size x [.int .i64 gk, .bool gb, .int .i64 gi, .string gs, .slice gal gnl gcl, .slice gam gnm gcm] := Bx.new hlu (fun _ h => h.2)
  replace Br : Hid (Below w.heap.size w (v2.alloc (.cells #[.int .i64 gk, .bool gb, .int .i64 gi, .string gs, .slice gal gnl gcl, .slice gam gnm gcm] 25))) := Br.out.trans (bA.mono Br.out.size)
  clear bA bu hlu
  obtain ⟨d0, d1, d2, d3, d4, d5⟩ := row6z XV.row
  go_wp2_with fail
  generalize (v2.alloc (.cells #[.int .i64 gk, .bool gb, .int .i64 gi, .string gs, .slice gal gnl gcl, .slice gam gnm gcm] 25)) = wXG at *
  refine (CG2.out wXG _ _ Br.out XV).mono ?_
  rintro e v3 ⟨csu, rfl, hlu, bu⟩
  obtain ⟨yk, yb, yi, ys, yal, ynl, ycl, yam, ynm, ycm, rfl⟩ := V.ten hlu
  clear d0 d1 d2 d3 d4 d5
  have bA : Below wXG.heap.size wXG (v3.alloc (.cells #[.int .i64 yk, .bool yb, .int .i64 yi, .string ys, .slice yal ynl ycl, .slice yam ynm ycm] 25)) := bu.alloc bu.size _
  replace XV := XV.below bA
  replace XX := XX.below bA
  replace XW := XW.below bA
  replace XG := XG.below bA
  have XA : Bx (v3.alloc (.cells #[.int .i64 yk, .bool yb, .int .i64 yi, .string ys, .slice yal ynl ycl, .slice yam ynm ycm] 25)) v3.heap.size av [.int .i64 yk, .bool yb, .int .i64 yi, .string ys, .slice yal ynl ycl, .slice yam ynm ycm] := Bx.new hlu (fun _ h => h.2)
  replace Br : Hid (Below w.heap.size w (v3.alloc (.cells #[.int .i64 yk, .bool yb, .int .i64 yi, .string ys, .slice yal ynl ycl, .slice yam ynm ycm] 25))) := Br.out.trans (bA.mono Br.out.size)
  clear bA bu hlu
  obtain ⟨d0, d1, d2, d3, d4, d5⟩ := row6z XW.row
  go_wp2_with fail
  generalize (v3.alloc (.cells #[.int .i64 yk, .bool yb, .int .i64 yi, .string ys, .slice yal ynl ycl, .slice yam ynm ycm] 25)) = wXA at *
  refine (CG3.out wXA _ _ Br.out XW).mono ?_
  rintro e v4 ⟨csu, rfl, hlu, bu⟩
  obtain ⟨rk, rb, ri, rs, ral, rnl, rcl, ram, rnm, rcm, rfl⟩ := V.ten hlu
  clear d0 d1 d2 d3 d4 d5
  have bA : Below wXA.heap.size wXA (v4.alloc (.cells #[.int .i64 rk, .bool rb, .int .i64 ri, .string rs, .slice ral rnl rcl, .slice ram rnm rcm] 25)) := bu.alloc bu.size _
  replace XV := XV.below bA
  replace XX := XX.below bA
  replace XW := XW.below bA
  replace XG := XG.below bA
  replace XA := XA.below bA
  have XB : Bx (v4.alloc (.cells #[.int .i64 rk, .bool rb, .int .i64 ri, .string rs, .slice ral rnl rcl, .slice ram rnm rcm] 25)) v4.heap.size bv [.int .i64 rk, .bool rb, .int .i64 ri, .string rs, .slice ral rnl rcl, .slice ram rnm rcm] := Bx.new hlu (fun _ h => h.2)
  replace Br : Hid (Below w.heap.size w (v4.alloc (.cells #[.int .i64 rk, .bool rb, .int .i64 ri, .string rs, .slice ral rnl rcl, .slice ram rnm rcm] 25))) := Br.out.trans (bA.mono Br.out.size)
  clear bA bu hlu
  obtain ⟨d0, d1, d2, d3, d4, d5⟩ := row6z XG.row
  obtain ⟨f0, f1, f2, f3, f4, f5⟩ := row6z XX.row
  go_wp2_with fail
  generalize (v4.alloc (.cells #[.int .i64 rk, .bool rb, .int .i64 ri, .string rs, .slice ral rnl rcl, .slice ram rnm rcm] 25)) = wXB at *
  refine (C13.out wXB x _ _ _ _ XG.lies XX.lies (fun _ h => h) (fun _ h => h)).mono ?_
  rintro e v5 ⟨rfl, bu⟩
  clear d0 d1 d2 d3 d4 d5
  clear f0 f1 f2 f3 f4 f5
  replace XV := XV.below bu
  replace XX := XX.below bu
  replace XW := XW.below bu
  replace XG := XG.below bu
  replace XA := XA.below bu
  replace XB := XB.below bu
  replace Br : Hid (Below w.heap.size w v5) := Br.out.trans (bu.mono Br.out.size)
  clear bu
  clear XG CG1 CG2 CG3 CM
  by_cases hne : o.toList = key.toList
  · have yk : (o.toList == key.toList) = true := by rw [beq_iff_eq]; exact hne
    clear hne
    cases ab
    · skip
      have CO5 : Hid (∀ W B cs, Below w.heap.size w W → Bx W B v cs → Calls Tryd.prog 17 #[.agg cs.toArray, .string o] W (AnPost v W)) := CO3.out rfl
      clear CO3 CW2 HGQ
      obtain ⟨d0, d1, d2, d3, d4, d5⟩ := row6z XW.row
      go_wp2_with fail
      refine (CO1.out v5 _ _ Br.out XW).mono ?_
      rintro e v7 ⟨csu, rfl, hlu, bu⟩
      obtain ⟨ck, cb, ci, cs, cal, cnl, ccl, cam, cnm, ccm, rfl⟩ := V.ten hlu
      clear d0 d1 d2 d3 d4 d5
      have bA : Below v5.heap.size v5 (v7.alloc (.cells #[.int .i64 ck, .bool cb, .int .i64 ci, .string cs, .slice cal cnl ccl, .slice cam cnm ccm] 25)) := bu.alloc bu.size _
      replace XV := XV.below bA
      replace XX := XX.below bA
      replace XW := XW.below bA
      replace XA := XA.below bA
      replace XB := XB.below bA
      have XO : Bx (v7.alloc (.cells #[.int .i64 ck, .bool cb, .int .i64 ci, .string cs, .slice cal cnl ccl, .slice cam cnm ccm] 25)) v7.heap.size ov [.int .i64 ck, .bool cb, .int .i64 ci, .string cs, .slice cal cnl ccl, .slice cam cnm ccm] := Bx.new hlu (fun _ h => h.2)
      replace Br : Hid (Below w.heap.size w (v7.alloc (.cells #[.int .i64 ck, .bool cb, .int .i64 ci, .string cs, .slice cal cnl ccl, .slice cam cnm ccm] 25))) := Br.out.trans (bA.mono Br.out.size)
      clear bA bu hlu
      obtain ⟨d0, d1, d2, d3, d4, d5⟩ := row6z XV.row
      go_wp2_with fail
      generalize (v7.alloc (.cells #[.int .i64 ck, .bool cb, .int .i64 ci, .string cs, .slice cal cnl ccl, .slice cam cnm ccm] 25)) = wXO at *
      refine (CO2.out wXO _ _ Br.out XV).mono ?_
      rintro e v8 ⟨csu, rfl, hlu, bu⟩
      obtain ⟨pk, pb, pi, ps, pal, pnl, pcl, pam, pnm, pcm, rfl⟩ := V.ten hlu
      clear d0 d1 d2 d3 d4 d5
      have bA : Below wXO.heap.size wXO (v8.alloc (.cells #[.int .i64 pk, .bool pb, .int .i64 pi, .string ps, .slice pal pnl pcl, .slice pam pnm pcm] 25)) := bu.alloc bu.size _
      replace XV := XV.below bA
      replace XX := XX.below bA
      replace XW := XW.below bA
      replace XA := XA.below bA
      replace XB := XB.below bA
      replace XO := XO.below bA
      have XP : Bx (v8.alloc (.cells #[.int .i64 pk, .bool pb, .int .i64 pi, .string ps, .slice pal pnl pcl, .slice pam pnm pcm] 25)) v8.heap.size ov [.int .i64 pk, .bool pb, .int .i64 pi, .string ps, .slice pal pnl pcl, .slice pam pnm pcm] := Bx.new hlu (fun _ h => h.2)
      replace Br : Hid (Below w.heap.size w (v8.alloc (.cells #[.int .i64 pk, .bool pb, .int .i64 pi, .string ps, .slice pal pnl pcl, .slice pam pnm pcm] 25))) := Br.out.trans (bA.mono Br.out.size)
      clear bA bu hlu
      obtain ⟨d0, d1, d2, d3, d4, d5⟩ := row6z XO.row
      go_wp2_with fail
      generalize (v8.alloc (.cells #[.int .i64 pk, .bool pb, .int .i64 pi, .string ps, .slice pal pnl pcl, .slice pam pnm pcm] 25)) = wXP at *
      refine (CG4.out wXP _ _ Br.out XO).mono ?_
      rintro e v9 ⟨csu, rfl, hlu, bu⟩
      obtain ⟨zk, zb, zi, zs, zal, znl, zcl, zam, znm, zcm, rfl⟩ := V.ten hlu
      clear d0 d1 d2 d3 d4 d5
      have bA : Below wXP.heap.size wXP (v9.alloc (.cells #[.int .i64 zk, .bool zb, .int .i64 zi, .string zs, .slice zal znl zcl, .slice zam znm zcm] 25)) := bu.alloc bu.size _
      replace XV := XV.below bA
      replace XX := XX.below bA
      replace XW := XW.below bA
      replace XA := XA.below bA
      replace XB := XB.below bA
      replace XO := XO.below bA
      replace XP := XP.below bA
      have XZ : Bx (v9.alloc (.cells #[.int .i64 zk, .bool zb, .int .i64 zi, .string zs, .slice zal znl zcl, .slice zam znm zcm] 25)) v9.heap.size zv [.int .i64 zk, .bool zb, .int .i64 zi, .string zs, .slice zal znl zcl, .slice zam znm zcm] := Bx.new hlu (fun _ h => h.2)
      replace Br : Hid (Below w.heap.size w (v9.alloc (.cells #[.int .i64 zk, .bool zb, .int .i64 zi, .string zs, .slice zal znl zcl, .slice zam znm zcm] 25))) := Br.out.trans (bA.mono Br.out.size)
      clear bA bu hlu
      obtain ⟨d0, d1, d2, d3, d4, d5⟩ := row6z XO.row
      obtain ⟨f0, f1, f2, f3, f4, f5⟩ := row6z XP.row
      go_wp2_with fail
      generalize (v9.alloc (.cells #[.int .i64 zk, .bool zb, .int .i64 zi, .string zs, .slice zal znl zcl, .slice zam znm zcm] 25)) = wXZ at *
      refine (C13.out wXZ ov _ _ _ _ XO.lies XP.lies (fun _ h => h) (fun _ h => h)).mono ?_
      rintro e v10 ⟨rfl, bu⟩
      clear d0 d1 d2 d3 d4 d5
      clear f0 f1 f2 f3 f4 f5
      replace XV := XV.below bu
      replace XX := XX.below bu
      replace XW := XW.below bu
      replace XA := XA.below bu
      replace XB := XB.below bu
      replace XO := XO.below bu
      replace XP := XP.below bu
      replace XZ := XZ.below bu
      replace Br : Hid (Below w.heap.size w v10) := Br.out.trans (bu.mono Br.out.size)
      clear bu
      obtain ⟨d0, d1, d2, d3, d4, d5⟩ := row6z XO.row
      go_wp2_with fail
      refine (CN.out v10 _ _ Br.out XO).mono ?_
      rintro e v11 ⟨rfl, bu⟩
      clear d0 d1 d2 d3 d4 d5
      replace XV := XV.below bu
      replace XX := XX.below bu
      replace XW := XW.below bu
      replace XA := XA.below bu
      replace XB := XB.below bu
      replace XO := XO.below bu
      replace XP := XP.below bu
      replace XZ := XZ.below bu
      replace Br : Hid (Below w.heap.size w v11) := Br.out.trans (bu.mono Br.out.size)
      clear bu
      go_wp2_with fail
      refine wp_region_held_drew (S := fun W => Below v11.heap.size v11 W) (by kernel_rfl) ((Below.refl _ _).drew) (fun hHeld => ?_)
      (refine wpAnyH_take (i := 0) (v := ?_) rfl (by kernel_rfl) (by kernel_rfl) (by kernel_rfl) (fun _ _ _ h => h) (Or.inl ⟨by kernel_rfl, ?_⟩) (by assumption) ?_; rotate_left 1; (intro W0 hSw; obtain ⟨z0, z1, z2, z3, z4, z5⟩ := row6z (XV.below hSw).row; go_simp; (try with_reducible rfl)); (try simp only [Act.put, List.setIfInBounds_toArray, List.set_cons_zero, List.set_cons_succ]))
      (refine wpAnyH_take (i := 1) (v := ?_) rfl (by kernel_rfl) (by kernel_rfl) (by kernel_rfl) (fun _ _ _ h => h) (Or.inl ⟨by kernel_rfl, ?_⟩) (by assumption) ?_; rotate_left 1; (intro W0 hSw; (try dsimp only at hSw); go_simp; (try with_reducible rfl)); (try simp only [Act.put, List.setIfInBounds_toArray, List.set_cons_zero, List.set_cons_succ]))
      (refine wpAnyH_take (i := 3) (v := ?_) rfl (by kernel_rfl) (by kernel_rfl) (by kernel_rfl) (fun _ _ _ h => h) (Or.inl ⟨by kernel_rfl, ?_⟩) (by assumption) ?_; rotate_left 1; (intro W0 hSw; obtain ⟨z0, z1, z2, z3, z4, z5⟩ := row6z (XV.below hSw).row; go_simp; (try with_reducible rfl)); (try simp only [Act.put, List.setIfInBounds_toArray, List.set_cons_zero, List.set_cons_succ]))
      refine wpAnyH_ready (rs := [2]) (by kernel_rfl) (by simp) ?_
      refine AllReadyH.cons rfl (fun K hK => ?_) AllReadyH.nil
      go_simp
      refine (CO5.out v11.drew _ _ (Br.out.trans (((Below.refl v11.heap.size v11).drew).mono Br.out.size)) (XV.below ((Below.refl v11.heap.size v11).drew))).mono ?_
      rintro e wk1 ⟨csu, rfl, hlu, bu⟩
      have bk1 : Below v11.heap.size v11 wk1 := ((Below.refl v11.heap.size v11).drew).trans (bu.mono (((Below.refl v11.heap.size v11).drew)).size)
      obtain ⟨jk, jb, ji, js, jal, jnl, jcl, jam, jnm, jcm, rfl⟩ := V.ten hlu
      have HI : Hid (v.lies false wk1 (Old wk1) [.int .i64 jk, .bool jb, .int .i64 ji, .string js, .slice jal jnl jcl, .slice jam jnm jcm]) := V.lies_keep (fun h => h) (fun _ _ => rfl) (fun y hy => hy.2) _ hlu
      clear hlu bu
      go_simp
      refine hK.out _ _ bk1 (fun hHeld => ?_)
      clear hK K
      (try simp only [Act.put, List.setIfInBounds_toArray, List.set_cons_zero, List.set_cons_succ])
      refine wpAnyH_ready (rs := [4]) (by kernel_rfl) (by simp) ?_
      refine AllReadyH.cons rfl (fun K hK => ?_) AllReadyH.nil
      go_simp
      refine (C13.out wk1 v _ _ _ _ HI.out (XV.below bk1).lies (fun _ h => h) (fun _ h => h)).mono ?_
      rintro e wk2 ⟨rfl, bu⟩
      have bk2 : Below v11.heap.size v11 wk2 := bk1.trans (bu.mono bk1.size)
      clear bu
      go_simp
      refine hK.out _ _ bk2 (fun hHeld => ?_)
      clear hK K
      (try simp only [Act.put, List.setIfInBounds_toArray, List.set_cons_zero, List.set_cons_succ])
      (refine wpAnyH_take (i := 5) (v := ?_) rfl (by kernel_rfl) (by kernel_rfl) (by kernel_rfl) (fun _ _ _ h => h) (Or.inl ⟨by kernel_rfl, ?_⟩) (by assumption) ?_; rotate_left 1; (intro W0 hSw; (try dsimp only at hSw); go_simp; (try with_reducible rfl)); (try simp only [Act.put, List.setIfInBounds_toArray, List.set_cons_zero, List.set_cons_succ]))
      refine wpAnyH_done (by kernel_rfl) ?_ _
      (try dsimp only [Act.put, List.getElem_toArray, List.getElem_cons_succ, List.getElem_cons_zero, List.setIfInBounds_toArray, List.set_cons_zero, List.set_cons_succ])
      replace Br : Hid (Below w.heap.size w wk2) := Br.out.trans (bk2.mono Br.out.size)
      clear hHeld
      go_wp2_with fail
      go_ret
      exact ⟨rfl, Br.out⟩
    · skip
      have CW3 : Hid (∀ W B cs B' cs', Below w.heap.size w W → Bx W B v cs → Bx W B' av cs' → Calls Tryd.prog 15 #[.agg cs.toArray, .string o, .agg cs'.toArray] W (VePost v 0 W)) := CW2.out rfl
      clear CO3 CW2 HGQ
      obtain ⟨d0, d1, d2, d3, d4, d5⟩ := row6z XW.row
      go_wp2_with fail
      refine (CO1.out v5 _ _ Br.out XW).mono ?_
      rintro e v7 ⟨csu, rfl, hlu, bu⟩
      obtain ⟨ck, cb, ci, cs, cal, cnl, ccl, cam, cnm, ccm, rfl⟩ := V.ten hlu
      clear d0 d1 d2 d3 d4 d5
      have bA : Below v5.heap.size v5 (v7.alloc (.cells #[.int .i64 ck, .bool cb, .int .i64 ci, .string cs, .slice cal cnl ccl, .slice cam cnm ccm] 25)) := bu.alloc bu.size _
      replace XV := XV.below bA
      replace XX := XX.below bA
      replace XW := XW.below bA
      replace XA := XA.below bA
      replace XB := XB.below bA
      have XO : Bx (v7.alloc (.cells #[.int .i64 ck, .bool cb, .int .i64 ci, .string cs, .slice cal cnl ccl, .slice cam cnm ccm] 25)) v7.heap.size ov [.int .i64 ck, .bool cb, .int .i64 ci, .string cs, .slice cal cnl ccl, .slice cam cnm ccm] := Bx.new hlu (fun _ h => h.2)
      replace Br : Hid (Below w.heap.size w (v7.alloc (.cells #[.int .i64 ck, .bool cb, .int .i64 ci, .string cs, .slice cal cnl ccl, .slice cam cnm ccm] 25))) := Br.out.trans (bA.mono Br.out.size)
      clear bA bu hlu
      obtain ⟨d0, d1, d2, d3, d4, d5⟩ := row6z XV.row
      go_wp2_with fail
      generalize (v7.alloc (.cells #[.int .i64 ck, .bool cb, .int .i64 ci, .string cs, .slice cal cnl ccl, .slice cam cnm ccm] 25)) = wXO at *
      refine (CO2.out wXO _ _ Br.out XV).mono ?_
      rintro e v8 ⟨csu, rfl, hlu, bu⟩
      obtain ⟨pk, pb, pi, ps, pal, pnl, pcl, pam, pnm, pcm, rfl⟩ := V.ten hlu
      clear d0 d1 d2 d3 d4 d5
      have bA : Below wXO.heap.size wXO (v8.alloc (.cells #[.int .i64 pk, .bool pb, .int .i64 pi, .string ps, .slice pal pnl pcl, .slice pam pnm pcm] 25)) := bu.alloc bu.size _
      replace XV := XV.below bA
      replace XX := XX.below bA
      replace XW := XW.below bA
      replace XA := XA.below bA
      replace XB := XB.below bA
      replace XO := XO.below bA
      have XP : Bx (v8.alloc (.cells #[.int .i64 pk, .bool pb, .int .i64 pi, .string ps, .slice pal pnl pcl, .slice pam pnm pcm] 25)) v8.heap.size ov [.int .i64 pk, .bool pb, .int .i64 pi, .string ps, .slice pal pnl pcl, .slice pam pnm pcm] := Bx.new hlu (fun _ h => h.2)
      replace Br : Hid (Below w.heap.size w (v8.alloc (.cells #[.int .i64 pk, .bool pb, .int .i64 pi, .string ps, .slice pal pnl pcl, .slice pam pnm pcm] 25))) := Br.out.trans (bA.mono Br.out.size)
      clear bA bu hlu
      obtain ⟨d0, d1, d2, d3, d4, d5⟩ := row6z XO.row
      go_wp2_with fail
      generalize (v8.alloc (.cells #[.int .i64 pk, .bool pb, .int .i64 pi, .string ps, .slice pal pnl pcl, .slice pam pnm pcm] 25)) = wXP at *
      refine (CG4.out wXP _ _ Br.out XO).mono ?_
      rintro e v9 ⟨csu, rfl, hlu, bu⟩
      obtain ⟨zk, zb, zi, zs, zal, znl, zcl, zam, znm, zcm, rfl⟩ := V.ten hlu
      clear d0 d1 d2 d3 d4 d5
      have bA : Below wXP.heap.size wXP (v9.alloc (.cells #[.int .i64 zk, .bool zb, .int .i64 zi, .string zs, .slice zal znl zcl, .slice zam znm zcm] 25)) := bu.alloc bu.size _
      replace XV := XV.below bA
      replace XX := XX.below bA
      replace XW := XW.below bA
      replace XA := XA.below bA
      replace XB := XB.below bA
      replace XO := XO.below bA
      replace XP := XP.below bA
      have XZ : Bx (v9.alloc (.cells #[.int .i64 zk, .bool zb, .int .i64 zi, .string zs, .slice zal znl zcl, .slice zam znm zcm] 25)) v9.heap.size zv [.int .i64 zk, .bool zb, .int .i64 zi, .string zs, .slice zal znl zcl, .slice zam znm zcm] := Bx.new hlu (fun _ h => h.2)
      replace Br : Hid (Below w.heap.size w (v9.alloc (.cells #[.int .i64 zk, .bool zb, .int .i64 zi, .string zs, .slice zal znl zcl, .slice zam znm zcm] 25))) := Br.out.trans (bA.mono Br.out.size)
      clear bA bu hlu
      obtain ⟨d0, d1, d2, d3, d4, d5⟩ := row6z XO.row
      obtain ⟨f0, f1, f2, f3, f4, f5⟩ := row6z XP.row
      go_wp2_with fail
      generalize (v9.alloc (.cells #[.int .i64 zk, .bool zb, .int .i64 zi, .string zs, .slice zal znl zcl, .slice zam znm zcm] 25)) = wXZ at *
      refine (C13.out wXZ ov _ _ _ _ XO.lies XP.lies (fun _ h => h) (fun _ h => h)).mono ?_
      rintro e v10 ⟨rfl, bu⟩
      clear d0 d1 d2 d3 d4 d5
      clear f0 f1 f2 f3 f4 f5
      replace XV := XV.below bu
      replace XX := XX.below bu
      replace XW := XW.below bu
      replace XA := XA.below bu
      replace XB := XB.below bu
      replace XO := XO.below bu
      replace XP := XP.below bu
      replace XZ := XZ.below bu
      replace Br : Hid (Below w.heap.size w v10) := Br.out.trans (bu.mono Br.out.size)
      clear bu
      obtain ⟨d0, d1, d2, d3, d4, d5⟩ := row6z XO.row
      go_wp2_with fail
      refine (CN.out v10 _ _ Br.out XO).mono ?_
      rintro e v11 ⟨rfl, bu⟩
      clear d0 d1 d2 d3 d4 d5
      replace XV := XV.below bu
      replace XX := XX.below bu
      replace XW := XW.below bu
      replace XA := XA.below bu
      replace XB := XB.below bu
      replace XO := XO.below bu
      replace XP := XP.below bu
      replace XZ := XZ.below bu
      replace Br : Hid (Below w.heap.size w v11) := Br.out.trans (bu.mono Br.out.size)
      clear bu
      obtain ⟨d0, d1, d2, d3, d4, d5⟩ := row6z XV.row
      obtain ⟨f0, f1, f2, f3, f4, f5⟩ := row6z XA.row
      go_wp2_with fail
      refine (CW3.out v11 _ _ _ _ Br.out XV XA).mono ?_
      rintro e v12 ⟨csu, rfl, hlu, bu⟩
      obtain ⟨qk, qb, qi, qs, qal, qnl, qcl, qam, qnm, qcm, rfl⟩ := V.ten hlu
      clear d0 d1 d2 d3 d4 d5
      clear f0 f1 f2 f3 f4 f5
      have bA : Below v11.heap.size v11 (v12.alloc (.cells #[.int .i64 qk, .bool qb, .int .i64 qi, .string qs, .slice qal qnl qcl, .slice qam qnm qcm] 25)) := bu.alloc bu.size _
      replace XV := XV.below bA
      replace XX := XX.below bA
      replace XW := XW.below bA
      replace XA := XA.below bA
      replace XB := XB.below bA
      replace XO := XO.below bA
      replace XP := XP.below bA
      replace XZ := XZ.below bA
      have XQ : Bx (v12.alloc (.cells #[.int .i64 qk, .bool qb, .int .i64 qi, .string qs, .slice qal qnl qcl, .slice qam qnm qcm] 25)) v12.heap.size v [.int .i64 qk, .bool qb, .int .i64 qi, .string qs, .slice qal qnl qcl, .slice qam qnm qcm] := Bx.new hlu (fun _ h => h.2)
      replace Br : Hid (Below w.heap.size w (v12.alloc (.cells #[.int .i64 qk, .bool qb, .int .i64 qi, .string qs, .slice qal qnl qcl, .slice qam qnm qcm] 25))) := Br.out.trans (bA.mono Br.out.size)
      clear bA bu hlu
      go_wp2_with fail
      generalize (v12.alloc (.cells #[.int .i64 qk, .bool qb, .int .i64 qi, .string qs, .slice qal qnl qcl, .slice qam qnm qcm] 25)) = wXQ at *
      refine (num_any 0 wXQ).mono ?_
      rintro e v13 ⟨rfl, bu⟩
      replace XV := XV.below bu
      replace XX := XX.below bu
      replace XW := XW.below bu
      replace XA := XA.below bu
      replace XB := XB.below bu
      replace XO := XO.below bu
      replace XP := XP.below bu
      replace XZ := XZ.below bu
      replace XQ := XQ.below bu
      replace Br : Hid (Below w.heap.size w v13) := Br.out.trans (bu.mono Br.out.size)
      clear bu
      obtain ⟨d0, d1, d2, d3, d4, d5⟩ := row6z XQ.row
      obtain ⟨f0, f1, f2, f3, f4, f5⟩ := row6z XV.row
      go_wp2_with fail
      refine (C13.out v13 v _ _ _ _ XQ.lies XV.lies (fun _ h => h) (fun _ h => h)).mono ?_
      rintro e v14 ⟨rfl, bu⟩
      clear d0 d1 d2 d3 d4 d5
      clear f0 f1 f2 f3 f4 f5
      replace XV := XV.below bu
      replace XX := XX.below bu
      replace XW := XW.below bu
      replace XA := XA.below bu
      replace XB := XB.below bu
      replace XO := XO.below bu
      replace XP := XP.below bu
      replace XZ := XZ.below bu
      replace XQ := XQ.below bu
      replace Br : Hid (Below w.heap.size w v14) := Br.out.trans (bu.mono Br.out.size)
      clear bu
      go_wp2_with fail
      go_ret
      exact ⟨rfl, Br.out⟩
  · have yk : (o.toList == key.toList) = false := by rw [beq_eq_false_iff_ne]; exact hne
    obtain ⟨rfl, rfl⟩ := Prod.mk.inj (HGQ.out hne)
    clear hne
    cases bb
    · skip
      have CO5 : Hid (∀ W B cs, Below w.heap.size w W → Bx W B v cs → Calls Tryd.prog 17 #[.agg cs.toArray, .string o] W (AnPost v W)) := CO3.out rfl
      clear CO3 CW2 HGQ
      obtain ⟨d0, d1, d2, d3, d4, d5⟩ := row6z XA.row
      obtain ⟨f0, f1, f2, f3, f4, f5⟩ := row6z XB.row
      go_wp2_with fail
      refine (C13.out v5 bv _ _ _ _ XA.lies XB.lies (fun _ h => h) (fun _ h => h)).mono ?_
      rintro e v6 ⟨rfl, bu⟩
      clear d0 d1 d2 d3 d4 d5
      clear f0 f1 f2 f3 f4 f5
      replace XV := XV.below bu
      replace XX := XX.below bu
      replace XW := XW.below bu
      replace XA := XA.below bu
      replace XB := XB.below bu
      replace Br : Hid (Below w.heap.size w v6) := Br.out.trans (bu.mono Br.out.size)
      clear bu
      obtain ⟨d0, d1, d2, d3, d4, d5⟩ := row6z XW.row
      go_wp2_with fail
      refine (CO1.out v6 _ _ Br.out XW).mono ?_
      rintro e v7 ⟨csu, rfl, hlu, bu⟩
      obtain ⟨ck, cb, ci, cs, cal, cnl, ccl, cam, cnm, ccm, rfl⟩ := V.ten hlu
      clear d0 d1 d2 d3 d4 d5
      have bA : Below v6.heap.size v6 (v7.alloc (.cells #[.int .i64 ck, .bool cb, .int .i64 ci, .string cs, .slice cal cnl ccl, .slice cam cnm ccm] 25)) := bu.alloc bu.size _
      replace XV := XV.below bA
      replace XX := XX.below bA
      replace XW := XW.below bA
      replace XA := XA.below bA
      replace XB := XB.below bA
      have XO : Bx (v7.alloc (.cells #[.int .i64 ck, .bool cb, .int .i64 ci, .string cs, .slice cal cnl ccl, .slice cam cnm ccm] 25)) v7.heap.size ov [.int .i64 ck, .bool cb, .int .i64 ci, .string cs, .slice cal cnl ccl, .slice cam cnm ccm] := Bx.new hlu (fun _ h => h.2)
      replace Br : Hid (Below w.heap.size w (v7.alloc (.cells #[.int .i64 ck, .bool cb, .int .i64 ci, .string cs, .slice cal cnl ccl, .slice cam cnm ccm] 25))) := Br.out.trans (bA.mono Br.out.size)
      clear bA bu hlu
      obtain ⟨d0, d1, d2, d3, d4, d5⟩ := row6z XV.row
      go_wp2_with fail
      generalize (v7.alloc (.cells #[.int .i64 ck, .bool cb, .int .i64 ci, .string cs, .slice cal cnl ccl, .slice cam cnm ccm] 25)) = wXO at *
      refine (CO2.out wXO _ _ Br.out XV).mono ?_
      rintro e v8 ⟨csu, rfl, hlu, bu⟩
      obtain ⟨pk, pb, pi, ps, pal, pnl, pcl, pam, pnm, pcm, rfl⟩ := V.ten hlu
      clear d0 d1 d2 d3 d4 d5
      have bA : Below wXO.heap.size wXO (v8.alloc (.cells #[.int .i64 pk, .bool pb, .int .i64 pi, .string ps, .slice pal pnl pcl, .slice pam pnm pcm] 25)) := bu.alloc bu.size _
      replace XV := XV.below bA
      replace XX := XX.below bA
      replace XW := XW.below bA
      replace XA := XA.below bA
      replace XB := XB.below bA
      replace XO := XO.below bA
      have XP : Bx (v8.alloc (.cells #[.int .i64 pk, .bool pb, .int .i64 pi, .string ps, .slice pal pnl pcl, .slice pam pnm pcm] 25)) v8.heap.size ov [.int .i64 pk, .bool pb, .int .i64 pi, .string ps, .slice pal pnl pcl, .slice pam pnm pcm] := Bx.new hlu (fun _ h => h.2)
      replace Br : Hid (Below w.heap.size w (v8.alloc (.cells #[.int .i64 pk, .bool pb, .int .i64 pi, .string ps, .slice pal pnl pcl, .slice pam pnm pcm] 25))) := Br.out.trans (bA.mono Br.out.size)
      clear bA bu hlu
      obtain ⟨d0, d1, d2, d3, d4, d5⟩ := row6z XO.row
      go_wp2_with fail
      generalize (v8.alloc (.cells #[.int .i64 pk, .bool pb, .int .i64 pi, .string ps, .slice pal pnl pcl, .slice pam pnm pcm] 25)) = wXP at *
      refine (CG4.out wXP _ _ Br.out XO).mono ?_
      rintro e v9 ⟨csu, rfl, hlu, bu⟩
      obtain ⟨zk, zb, zi, zs, zal, znl, zcl, zam, znm, zcm, rfl⟩ := V.ten hlu
      clear d0 d1 d2 d3 d4 d5
      have bA : Below wXP.heap.size wXP (v9.alloc (.cells #[.int .i64 zk, .bool zb, .int .i64 zi, .string zs, .slice zal znl zcl, .slice zam znm zcm] 25)) := bu.alloc bu.size _
      replace XV := XV.below bA
      replace XX := XX.below bA
      replace XW := XW.below bA
      replace XA := XA.below bA
      replace XB := XB.below bA
      replace XO := XO.below bA
      replace XP := XP.below bA
      have XZ : Bx (v9.alloc (.cells #[.int .i64 zk, .bool zb, .int .i64 zi, .string zs, .slice zal znl zcl, .slice zam znm zcm] 25)) v9.heap.size zv [.int .i64 zk, .bool zb, .int .i64 zi, .string zs, .slice zal znl zcl, .slice zam znm zcm] := Bx.new hlu (fun _ h => h.2)
      replace Br : Hid (Below w.heap.size w (v9.alloc (.cells #[.int .i64 zk, .bool zb, .int .i64 zi, .string zs, .slice zal znl zcl, .slice zam znm zcm] 25))) := Br.out.trans (bA.mono Br.out.size)
      clear bA bu hlu
      obtain ⟨d0, d1, d2, d3, d4, d5⟩ := row6z XO.row
      obtain ⟨f0, f1, f2, f3, f4, f5⟩ := row6z XP.row
      go_wp2_with fail
      generalize (v9.alloc (.cells #[.int .i64 zk, .bool zb, .int .i64 zi, .string zs, .slice zal znl zcl, .slice zam znm zcm] 25)) = wXZ at *
      refine (C13.out wXZ ov _ _ _ _ XO.lies XP.lies (fun _ h => h) (fun _ h => h)).mono ?_
      rintro e v10 ⟨rfl, bu⟩
      clear d0 d1 d2 d3 d4 d5
      clear f0 f1 f2 f3 f4 f5
      replace XV := XV.below bu
      replace XX := XX.below bu
      replace XW := XW.below bu
      replace XA := XA.below bu
      replace XB := XB.below bu
      replace XO := XO.below bu
      replace XP := XP.below bu
      replace XZ := XZ.below bu
      replace Br : Hid (Below w.heap.size w v10) := Br.out.trans (bu.mono Br.out.size)
      clear bu
      obtain ⟨d0, d1, d2, d3, d4, d5⟩ := row6z XO.row
      go_wp2_with fail
      refine (CN.out v10 _ _ Br.out XO).mono ?_
      rintro e v11 ⟨rfl, bu⟩
      clear d0 d1 d2 d3 d4 d5
      replace XV := XV.below bu
      replace XX := XX.below bu
      replace XW := XW.below bu
      replace XA := XA.below bu
      replace XB := XB.below bu
      replace XO := XO.below bu
      replace XP := XP.below bu
      replace XZ := XZ.below bu
      replace Br : Hid (Below w.heap.size w v11) := Br.out.trans (bu.mono Br.out.size)
      clear bu
      go_wp2_with fail
      refine wp_region_held_drew (S := fun W => Below v11.heap.size v11 W) (by kernel_rfl) ((Below.refl _ _).drew) (fun hHeld => ?_)
      (refine wpAnyH_take (i := 0) (v := ?_) rfl (by kernel_rfl) (by kernel_rfl) (by kernel_rfl) (fun _ _ _ h => h) (Or.inl ⟨by kernel_rfl, ?_⟩) (by assumption) ?_; rotate_left 1; (intro W0 hSw; obtain ⟨z0, z1, z2, z3, z4, z5⟩ := row6z (XV.below hSw).row; go_simp; (try with_reducible rfl)); (try simp only [Act.put, List.setIfInBounds_toArray, List.set_cons_zero, List.set_cons_succ]))
      (refine wpAnyH_take (i := 1) (v := ?_) rfl (by kernel_rfl) (by kernel_rfl) (by kernel_rfl) (fun _ _ _ h => h) (Or.inl ⟨by kernel_rfl, ?_⟩) (by assumption) ?_; rotate_left 1; (intro W0 hSw; (try dsimp only at hSw); go_simp; (try with_reducible rfl)); (try simp only [Act.put, List.setIfInBounds_toArray, List.set_cons_zero, List.set_cons_succ]))
      (refine wpAnyH_take (i := 3) (v := ?_) rfl (by kernel_rfl) (by kernel_rfl) (by kernel_rfl) (fun _ _ _ h => h) (Or.inl ⟨by kernel_rfl, ?_⟩) (by assumption) ?_; rotate_left 1; (intro W0 hSw; obtain ⟨z0, z1, z2, z3, z4, z5⟩ := row6z (XV.below hSw).row; go_simp; (try with_reducible rfl)); (try simp only [Act.put, List.setIfInBounds_toArray, List.set_cons_zero, List.set_cons_succ]))
      refine wpAnyH_ready (rs := [2]) (by kernel_rfl) (by simp) ?_
      refine AllReadyH.cons rfl (fun K hK => ?_) AllReadyH.nil
      go_simp
      refine (CO5.out v11.drew _ _ (Br.out.trans (((Below.refl v11.heap.size v11).drew).mono Br.out.size)) (XV.below ((Below.refl v11.heap.size v11).drew))).mono ?_
      rintro e wk1 ⟨csu, rfl, hlu, bu⟩
      have bk1 : Below v11.heap.size v11 wk1 := ((Below.refl v11.heap.size v11).drew).trans (bu.mono (((Below.refl v11.heap.size v11).drew)).size)
      obtain ⟨jk, jb, ji, js, jal, jnl, jcl, jam, jnm, jcm, rfl⟩ := V.ten hlu
      have HI : Hid (v.lies false wk1 (Old wk1) [.int .i64 jk, .bool jb, .int .i64 ji, .string js, .slice jal jnl jcl, .slice jam jnm jcm]) := V.lies_keep (fun h => h) (fun _ _ => rfl) (fun y hy => hy.2) _ hlu
      clear hlu bu
      go_simp
      refine hK.out _ _ bk1 (fun hHeld => ?_)
      clear hK K
      (try simp only [Act.put, List.setIfInBounds_toArray, List.set_cons_zero, List.set_cons_succ])
      refine wpAnyH_ready (rs := [4]) (by kernel_rfl) (by simp) ?_
      refine AllReadyH.cons rfl (fun K hK => ?_) AllReadyH.nil
      go_simp
      refine (C13.out wk1 v _ _ _ _ HI.out (XV.below bk1).lies (fun _ h => h) (fun _ h => h)).mono ?_
      rintro e wk2 ⟨rfl, bu⟩
      have bk2 : Below v11.heap.size v11 wk2 := bk1.trans (bu.mono bk1.size)
      clear bu
      go_simp
      refine hK.out _ _ bk2 (fun hHeld => ?_)
      clear hK K
      (try simp only [Act.put, List.setIfInBounds_toArray, List.set_cons_zero, List.set_cons_succ])
      (refine wpAnyH_take (i := 5) (v := ?_) rfl (by kernel_rfl) (by kernel_rfl) (by kernel_rfl) (fun _ _ _ h => h) (Or.inl ⟨by kernel_rfl, ?_⟩) (by assumption) ?_; rotate_left 1; (intro W0 hSw; (try dsimp only at hSw); go_simp; (try with_reducible rfl)); (try simp only [Act.put, List.setIfInBounds_toArray, List.set_cons_zero, List.set_cons_succ]))
      refine wpAnyH_done (by kernel_rfl) ?_ _
      (try dsimp only [Act.put, List.getElem_toArray, List.getElem_cons_succ, List.getElem_cons_zero, List.setIfInBounds_toArray, List.set_cons_zero, List.set_cons_succ])
      replace Br : Hid (Below w.heap.size w wk2) := Br.out.trans (bk2.mono Br.out.size)
      clear hHeld
      go_wp2_with fail
      go_ret
      exact ⟨rfl, Br.out⟩
    · skip
      have CW3 : Hid (∀ W B cs B' cs', Below w.heap.size w W → Bx W B v cs → Bx W B' bv cs' → Calls Tryd.prog 15 #[.agg cs.toArray, .string o, .agg cs'.toArray] W (VePost v 0 W)) := CW2.out rfl
      clear CO3 CW2 HGQ
      obtain ⟨d0, d1, d2, d3, d4, d5⟩ := row6z XA.row
      obtain ⟨f0, f1, f2, f3, f4, f5⟩ := row6z XB.row
      go_wp2_with fail
      refine (C13.out v5 bv _ _ _ _ XA.lies XB.lies (fun _ h => h) (fun _ h => h)).mono ?_
      rintro e v6 ⟨rfl, bu⟩
      clear d0 d1 d2 d3 d4 d5
      clear f0 f1 f2 f3 f4 f5
      replace XV := XV.below bu
      replace XX := XX.below bu
      replace XW := XW.below bu
      replace XA := XA.below bu
      replace XB := XB.below bu
      replace Br : Hid (Below w.heap.size w v6) := Br.out.trans (bu.mono Br.out.size)
      clear bu
      obtain ⟨d0, d1, d2, d3, d4, d5⟩ := row6z XW.row
      go_wp2_with fail
      refine (CO1.out v6 _ _ Br.out XW).mono ?_
      rintro e v7 ⟨csu, rfl, hlu, bu⟩
      obtain ⟨ck, cb, ci, cs, cal, cnl, ccl, cam, cnm, ccm, rfl⟩ := V.ten hlu
      clear d0 d1 d2 d3 d4 d5
      have bA : Below v6.heap.size v6 (v7.alloc (.cells #[.int .i64 ck, .bool cb, .int .i64 ci, .string cs, .slice cal cnl ccl, .slice cam cnm ccm] 25)) := bu.alloc bu.size _
      replace XV := XV.below bA
      replace XX := XX.below bA
      replace XW := XW.below bA
      replace XA := XA.below bA
      replace XB := XB.below bA
      have XO : Bx (v7.alloc (.cells #[.int .i64 ck, .bool cb, .int .i64 ci, .string cs, .slice cal cnl ccl, .slice cam cnm ccm] 25)) v7.heap.size ov [.int .i64 ck, .bool cb, .int .i64 ci, .string cs, .slice cal cnl ccl, .slice cam cnm ccm] := Bx.new hlu (fun _ h => h.2)
      replace Br : Hid (Below w.heap.size w (v7.alloc (.cells #[.int .i64 ck, .bool cb, .int .i64 ci, .string cs, .slice cal cnl ccl, .slice cam cnm ccm] 25))) := Br.out.trans (bA.mono Br.out.size)
      clear bA bu hlu
      obtain ⟨d0, d1, d2, d3, d4, d5⟩ := row6z XV.row
      go_wp2_with fail
      generalize (v7.alloc (.cells #[.int .i64 ck, .bool cb, .int .i64 ci, .string cs, .slice cal cnl ccl, .slice cam cnm ccm] 25)) = wXO at *
      refine (CO2.out wXO _ _ Br.out XV).mono ?_
      rintro e v8 ⟨csu, rfl, hlu, bu⟩
      obtain ⟨pk, pb, pi, ps, pal, pnl, pcl, pam, pnm, pcm, rfl⟩ := V.ten hlu
      clear d0 d1 d2 d3 d4 d5
      have bA : Below wXO.heap.size wXO (v8.alloc (.cells #[.int .i64 pk, .bool pb, .int .i64 pi, .string ps, .slice pal pnl pcl, .slice pam pnm pcm] 25)) := bu.alloc bu.size _
      replace XV := XV.below bA
      replace XX := XX.below bA
      replace XW := XW.below bA
      replace XA := XA.below bA
      replace XB := XB.below bA
      replace XO := XO.below bA
      have XP : Bx (v8.alloc (.cells #[.int .i64 pk, .bool pb, .int .i64 pi, .string ps, .slice pal pnl pcl, .slice pam pnm pcm] 25)) v8.heap.size ov [.int .i64 pk, .bool pb, .int .i64 pi, .string ps, .slice pal pnl pcl, .slice pam pnm pcm] := Bx.new hlu (fun _ h => h.2)
      replace Br : Hid (Below w.heap.size w (v8.alloc (.cells #[.int .i64 pk, .bool pb, .int .i64 pi, .string ps, .slice pal pnl pcl, .slice pam pnm pcm] 25))) := Br.out.trans (bA.mono Br.out.size)
      clear bA bu hlu
      obtain ⟨d0, d1, d2, d3, d4, d5⟩ := row6z XO.row
      go_wp2_with fail
      generalize (v8.alloc (.cells #[.int .i64 pk, .bool pb, .int .i64 pi, .string ps, .slice pal pnl pcl, .slice pam pnm pcm] 25)) = wXP at *
      refine (CG4.out wXP _ _ Br.out XO).mono ?_
      rintro e v9 ⟨csu, rfl, hlu, bu⟩
      obtain ⟨zk, zb, zi, zs, zal, znl, zcl, zam, znm, zcm, rfl⟩ := V.ten hlu
      clear d0 d1 d2 d3 d4 d5
      have bA : Below wXP.heap.size wXP (v9.alloc (.cells #[.int .i64 zk, .bool zb, .int .i64 zi, .string zs, .slice zal znl zcl, .slice zam znm zcm] 25)) := bu.alloc bu.size _
      replace XV := XV.below bA
      replace XX := XX.below bA
      replace XW := XW.below bA
      replace XA := XA.below bA
      replace XB := XB.below bA
      replace XO := XO.below bA
      replace XP := XP.below bA
      have XZ : Bx (v9.alloc (.cells #[.int .i64 zk, .bool zb, .int .i64 zi, .string zs, .slice zal znl zcl, .slice zam znm zcm] 25)) v9.heap.size zv [.int .i64 zk, .bool zb, .int .i64 zi, .string zs, .slice zal znl zcl, .slice zam znm zcm] := Bx.new hlu (fun _ h => h.2)
      replace Br : Hid (Below w.heap.size w (v9.alloc (.cells #[.int .i64 zk, .bool zb, .int .i64 zi, .string zs, .slice zal znl zcl, .slice zam znm zcm] 25))) := Br.out.trans (bA.mono Br.out.size)
      clear bA bu hlu
      obtain ⟨d0, d1, d2, d3, d4, d5⟩ := row6z XO.row
      obtain ⟨f0, f1, f2, f3, f4, f5⟩ := row6z XP.row
      go_wp2_with fail
      generalize (v9.alloc (.cells #[.int .i64 zk, .bool zb, .int .i64 zi, .string zs, .slice zal znl zcl, .slice zam znm zcm] 25)) = wXZ at *
      refine (C13.out wXZ ov _ _ _ _ XO.lies XP.lies (fun _ h => h) (fun _ h => h)).mono ?_
      rintro e v10 ⟨rfl, bu⟩
      clear d0 d1 d2 d3 d4 d5
      clear f0 f1 f2 f3 f4 f5
      replace XV := XV.below bu
      replace XX := XX.below bu
      replace XW := XW.below bu
      replace XA := XA.below bu
      replace XB := XB.below bu
      replace XO := XO.below bu
      replace XP := XP.below bu
      replace XZ := XZ.below bu
      replace Br : Hid (Below w.heap.size w v10) := Br.out.trans (bu.mono Br.out.size)
      clear bu
      obtain ⟨d0, d1, d2, d3, d4, d5⟩ := row6z XO.row
      go_wp2_with fail
      refine (CN.out v10 _ _ Br.out XO).mono ?_
      rintro e v11 ⟨rfl, bu⟩
      clear d0 d1 d2 d3 d4 d5
      replace XV := XV.below bu
      replace XX := XX.below bu
      replace XW := XW.below bu
      replace XA := XA.below bu
      replace XB := XB.below bu
      replace XO := XO.below bu
      replace XP := XP.below bu
      replace XZ := XZ.below bu
      replace Br : Hid (Below w.heap.size w v11) := Br.out.trans (bu.mono Br.out.size)
      clear bu
      obtain ⟨d0, d1, d2, d3, d4, d5⟩ := row6z XV.row
      obtain ⟨f0, f1, f2, f3, f4, f5⟩ := row6z XA.row
      go_wp2_with fail
      refine (CW3.out v11 _ _ _ _ Br.out XV XA).mono ?_
      rintro e v12 ⟨csu, rfl, hlu, bu⟩
      obtain ⟨qk, qb, qi, qs, qal, qnl, qcl, qam, qnm, qcm, rfl⟩ := V.ten hlu
      clear d0 d1 d2 d3 d4 d5
      clear f0 f1 f2 f3 f4 f5
      have bA : Below v11.heap.size v11 (v12.alloc (.cells #[.int .i64 qk, .bool qb, .int .i64 qi, .string qs, .slice qal qnl qcl, .slice qam qnm qcm] 25)) := bu.alloc bu.size _
      replace XV := XV.below bA
      replace XX := XX.below bA
      replace XW := XW.below bA
      replace XA := XA.below bA
      replace XB := XB.below bA
      replace XO := XO.below bA
      replace XP := XP.below bA
      replace XZ := XZ.below bA
      have XQ : Bx (v12.alloc (.cells #[.int .i64 qk, .bool qb, .int .i64 qi, .string qs, .slice qal qnl qcl, .slice qam qnm qcm] 25)) v12.heap.size v [.int .i64 qk, .bool qb, .int .i64 qi, .string qs, .slice qal qnl qcl, .slice qam qnm qcm] := Bx.new hlu (fun _ h => h.2)
      replace Br : Hid (Below w.heap.size w (v12.alloc (.cells #[.int .i64 qk, .bool qb, .int .i64 qi, .string qs, .slice qal qnl qcl, .slice qam qnm qcm] 25))) := Br.out.trans (bA.mono Br.out.size)
      clear bA bu hlu
      go_wp2_with fail
      generalize (v12.alloc (.cells #[.int .i64 qk, .bool qb, .int .i64 qi, .string qs, .slice qal qnl qcl, .slice qam qnm qcm] 25)) = wXQ at *
      refine (num_any 0 wXQ).mono ?_
      rintro e v13 ⟨rfl, bu⟩
      replace XV := XV.below bu
      replace XX := XX.below bu
      replace XW := XW.below bu
      replace XA := XA.below bu
      replace XB := XB.below bu
      replace XO := XO.below bu
      replace XP := XP.below bu
      replace XZ := XZ.below bu
      replace XQ := XQ.below bu
      replace Br : Hid (Below w.heap.size w v13) := Br.out.trans (bu.mono Br.out.size)
      clear bu
      obtain ⟨d0, d1, d2, d3, d4, d5⟩ := row6z XQ.row
      obtain ⟨f0, f1, f2, f3, f4, f5⟩ := row6z XV.row
      go_wp2_with fail
      refine (C13.out v13 v _ _ _ _ XQ.lies XV.lies (fun _ h => h) (fun _ h => h)).mono ?_
      rintro e v14 ⟨rfl, bu⟩
      clear d0 d1 d2 d3 d4 d5
      clear f0 f1 f2 f3 f4 f5
      replace XV := XV.below bu
      replace XX := XX.below bu
      replace XW := XW.below bu
      replace XA := XA.below bu
      replace XB := XB.below bu
      replace XO := XO.below bu
      replace XP := XP.below bu
      replace XZ := XZ.below bu
      replace XQ := XQ.below bu
      replace Br : Hid (Below w.heap.size w v14) := Br.out.trans (bu.mono Br.out.size)
      clear bu
      go_wp2_with fail
      go_ret
      exact ⟨rfl, Br.out⟩
end Go.Proofs.YtljgofmmihmmfabDoor
