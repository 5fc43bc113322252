/- ValueBuilds: the law's own walk. -/
import Derived.Test.YtljgofmmihmmfaaDoorJD
import Derived.Test.YtljgofmmihmmfaaDoorJE
import Derived.Test.YtljgofmmihmmfaaDoorCntM
import Derived.Test.YtljgofmmihmmfaaDoorSamA
set_option linter.unusedSimpArgs false
set_option linter.unusedVariables false
namespace Go.Proofs.YtljgofmmihmmfaaDoor
open Go.RowKit Go.Lib

theorem OwnR.keepS {α : Type} {E : α → World → (Nat → Prop) → List Value → Prop} {ty sz : Nat} (K : KeepE E) {w w' : World} {base : Nat} {S : Nat → Prop} {v : Value} {l : List α} (h : OwnR E ty sz w base S v l) (hS : ∀ b, S b → w'.heap[b]? = w.heap[b]?) (hv : ∀ g, v.ownBlock = some g → w'.heap[g]? = w.heap[g]?) : OwnR E ty sz w' base S v l := by
  obtain ⟨⟨xs, h1, h2⟩, h3⟩ := h
  have hlt : ∀ b, b < w.heap.size → w'.heap[b]? = w.heap[b]? → b < w'.heap.size := fun b hb e => by
    rcases Nat.lt_or_ge b w'.heap.size with h | h
    · exact h
    · rw [Array.getElem?_eq_none h, Array.getElem?_eq_getElem hb] at e; cases e
  refine ⟨⟨xs, ⟨h1.1, ?_⟩, fun j hj => K _ _ _ _ _ _ hS (fun _ h => h) (h2 j hj)⟩, fun b hb => ⟨(h3 b hb).1, hlt b (h3 b hb).2.1 (hS b hb), (h3 b hb).2.2⟩⟩
  rcases h1.2 with h | ⟨g, cap, cur, e, q, r, rest⟩
  · exact .inl h
  · exact .inr ⟨g, cap, cur, e, q, by rw [hv g (by rw [e]; rfl)]; exact r, rest⟩

/-- a member in a row that is being made, its value in room of its own -/
def ER (x : Option Mem) (w : World) (S : Nat → Prop) (cs : List Value) : Prop :=
  match x with
  | some m => ∃ k' b' i' s' l' m' N gl xl gm xm SL SM, m.2 = V.mk k' b' i' s' l' m' ∧ m.1.size ≤ maxLen ∧ In64 k' ∧ In64 i' ∧ s'.size ≤ maxLen ∧ cs = [.string m.1, .int .i64 k', .bool b', .int .i64 i', .string s', .slice (some ⟨gl, 0, none⟩) l'.length xl, .slice (some ⟨gm, 0, none⟩) m'.length xm] ∧ Roomy k' b' i' s' l' m' N gl xl gm xm SL SM w ∧ S gl ∧ S gm ∧ (∀ x, SL x → S x) ∧ (∀ x, SM x → S x)
  | none => cs = [.string ⟨#[114, 111, 111, 109]⟩, .int .i64 0, .bool false, .int .i64 0, .string ⟨#[]⟩, .slice none 0 0, .slice none 0 0]
theorem keepER : KeepE ER := by
  intro x w w' S S' cs hw hS h
  cases x with
  | none => exact h
  | some m =>
    obtain ⟨k', b', i', s', l', m', N, gl, xl, gm, xm, SL, SM, e1, e2, e3, e4, e5, e6, ⟨hL, hM⟩, g1, g2, g3, g4⟩ := h
    exact ⟨k', b', i', s', l', m', N, gl, xl, gm, xm, SL, SM, e1, e2, e3, e4, e5, e6, ⟨hL.keepS (keepL true) (fun b hb => hw b (g3 b hb)) (fun g e => by cases e; exact hw _ g1), hM.keepS (keepM true) (fun b hb => hw b (g4 b hb)) (fun g e => by cases e; exact hw _ g2)⟩, hS _ g1, hS _ g2, fun x h => hS x (g3 x h), fun x h => hS x (g4 x h)⟩
/-- the row of those members -/
theorem er_lies {w : World} {N g c : Nat} {SM : Nat → Prop} {l : List Mem} (h : OwnR ER 44 7 w N SM (.slice (some ⟨g, 0, none⟩) (l.length + 1) c) (l.map some ++ [none])) : liesM true w (Old w) l g 0 := by
  refine liesM_mk fun j hj => ?_
  obtain ⟨cs, h1, h2⟩ := h.at (by simp) j (by simp; omega)
  rw [List.getElem_append_left (by simpa using hj), List.getElem_map] at h2
  obtain ⟨k', b', i', s', l', m', N', gl, xl, gm, xm, SL, SM', e1, e2, e3, e4, e5, rfl, hR, _⟩ := h2
  refine ⟨(h.lt (g := g) rfl).2, e2, _, h1, ?_⟩
  rw [e1]
  exact V.lies_keep (fun h => h) (fun _ _ => rfl) (fun b hb => hb.2) _ (hR.lies e3 e4 e5)
theorem er_room {w : World} {N g c : Nat} {SM : Nat → Prop} {l : List Mem} (h : OwnR ER 44 7 w N SM (.slice (some ⟨g, 0, none⟩) (l.length + 1) c) (l.map some ++ [none])) : w.cell? ⟨g, l.length * 7, none⟩ = some (.string ⟨#[114, 111, 111, 109]⟩) := by
  obtain ⟨cs, h1, h2⟩ := h.at (by simp) l.length (by simp)
  rw [List.getElem_append_right (by simp)] at h2
  simp only [List.length_map, Nat.sub_self, List.getElem_cons_zero] at h2
  have h3 : cs = [.string ⟨#[114, 111, 111, 109]⟩, .int .i64 0, .bool false, .int .i64 0, .string ⟨#[]⟩, .slice none 0 0, .slice none 0 0] := h2
  subst h3
  have := h1 0 _ rfl
  rwa [Nat.zero_add, Nat.add_zero] at this
open Classical in
noncomputable def bvV (l : List Mem) : V × Nat := if Fine l then (mapV (srtM l), mapE (srtM l)) else (nullV, 20)
theorem bv_val {l : List Mem} {w w' : World} {e : Ending} (h : BvPost l w e w') : VePost (bvV l).1 (bvV l).2 w e w' := by
  rcases h with ⟨h1, h2⟩ | ⟨h1, h2⟩
  · rw [bvV, if_neg h1]; exact h2
  · rw [bvV, if_pos h1]; exact h2

set_option maxHeartbeats 3000000 in
set_option maxRecDepth 100000 in
theorem builds_walk (l : List Mem) (am : Option Addr) (cm bm om : Nat) (w : World) (t : Tb w) (ham : Headed am l.length cm bm om) (hl : liesM false w (Old w) l bm om) : Calls Tryd.prog 7 #[.slice am l.length cm] w (BPost true w) := by
  have HL : Hid (∀ W, Below w.heap.size w W → liesM false W (Old W) l bm om) := fun W hb => liesM_keep (fun h => h) (fun x hx => hb.block x hx) (fun x hx => Nat.lt_of_lt_of_le hx hb.size) _ hl
  have HT : Hid (∀ W, Below w.heap.size w W → Tb W) := fun W hB => t.below hB t.z
  have hml : l.length ≤ 9223372036854775807 := Nat.le_trans ham.le ham.max
  have c0 := beyondM_any l (Old w) am cm bm om w ham hl (fun _ h => h)
  clear hl t
  go_enter Tryd.func7, Tryd.ntmps7
  go_wp2_with fail
  refine c0.mono ?_
  rintro e w1 ⟨r, rfl, hr, B1⟩
  cases r with
  | true =>
    go_wp2_with fail
    go_ret
    exact ⟨rfl, B1⟩
  | false =>
  have hwt := hr rfl
  have hlen := wtM_len l
  obtain ⟨i1, hi1, hy0, hy1, hy2⟩ := info_parts info44
  have hJ : Hid (Tryd.prog.info? 44 = some i1 ∧ i1.zero = some (.agg #[.string ⟨#[]⟩, .int .i64 0, .bool false, .int .i64 0, .string ⟨#[]⟩, .slice none 0 0, .slice none 0 0]) ∧ i1.size = 7 ∧ i1.bytes = 104) := ⟨hi1, hy0, hy1, hy2⟩
  have HW : Hid (∀ j (h : j < l.length), (l[j]).2.wt ≤ 2147483647) := fun j h => by
    have := wtM_mem (List.getElem_mem h : l[j] ∈ l)
    omega
  clear hr c0 hi1 hy0 hy1 hy2
  have hz1 := B1.size
  go_wp2_with fail
  go_loopw [3, 4] (fun e3 e4 wq => ∃ (j : Nat) (smv : Value) (SM : Nat → Prop), j ≤ l.length ∧ smv = e3 ∧ e4 = .int .i64 (j : Int) ∧ Below w.heap.size w wq ∧ w1.heap.size ≤ wq.heap.size ∧ OwnR ER 44 7 wq w1.heap.size SM smv ((l.take j).map some)) (fun _ e4 _ => l.length - (RowKit.intOf e4).toNat)
  case atStart => exact ⟨0, _, _, by omega, rfl, rfl, B1, Nat.le_refl _, by simpa using OwnR.nil _ _⟩
  case round =>
    obtain ⟨j, smv, SM, hj, rfl, rfl, bj, hzj, oj⟩ := hrel
    by_cases hjl : j < l.length
    · have y1 : (j : Int) < l.length := by omega
      obtain rfl : am = some ⟨bm, om, none⟩ := ham.at_.resolve_left (by omega)
      obtain ⟨hSb, hks, csj, hrow, hlj⟩ := liesM_get (HL.out wr bj) j hjl
      have hwj := HW.out j hjl
      have HTk : Hid ((l.take (j + 1)).map some = (l.take j).map some ++ [some l[j]]) := by show _ = _; rw [List.take_succ_eq_append_getElem hjl, List.map_append]; rfl
      have hll : ((l.take j).map some).length = j := by rw [List.length_map, List.length_take]; omega
      rcases hxj : l[j] with ⟨key, k', b', i', s', l', m'⟩
      rw [hxj] at hks hrow hlj hwj HTk
      have cR := roomy_any k' b' i' s' l' m' (Old wr) csj wr hlj (fun _ h => h) (by simp only at hwj; omega)
      simp only at hlj
      rw [V.lies] at hlj
      obtain ⟨al', cl', bl', ol', am', cm', bm', om', rfl, hk', hi', hs', _⟩ := hlj
      obtain ⟨q, q0, q1, q2, q3, q4, q5⟩ := row7 hrow
      have hbS : bm < wr.heap.size := hSb
      clear hrow hxj hwj
      go_wp2_with fail
      refine cR.mono ?_
      rintro e w3 ⟨gl, xl, gm, xm, XL, XM, rfl, bl3, oL3, oM3⟩
      have o3 := oj.below keepER bl3
      have hz3 := bl3.size
      have hx3 : ER (some (key, V.mk k' b' i' s' l' m')) w3 (fun b => wr.heap.size ≤ b ∧ b < w3.heap.size) [.string key, .int .i64 k', .bool b', .int .i64 i', .string s', .slice (some ⟨gl, 0, none⟩) l'.length xl, .slice (some ⟨gm, 0, none⟩) m'.length xm] :=
        ⟨k', b', i', s', l', m', wr.heap.size, gl, xl, gm, xm, XL, XM, rfl, hks, hk', hi', hs', rfl, ⟨oL3, oM3⟩, oL3.lt (g := gl) rfl, oM3.lt (g := gm) rfl, fun x h => ⟨(oL3.off x h).1, (oL3.off x h).2.1⟩, fun x h => ⟨(oM3.off x h).1, (oM3.off x h).2.1⟩⟩
      have B3 := bj.trans (bl3.mono bj.size)
      have hown : ∀ r, smv.ownBlock = some r → w1.heap.size ≤ r ∧ r < wr.heap.size := fun r hr => oj.lt hr
      have HK : Hid (∀ b, wr.heap.size ≤ b ∧ b < w3.heap.size → w1.heap.size ≤ b ∧ b < w3.heap.size ∧ some b ≠ smv.ownBlock) := fun b hb => ⟨by omega, hb.2, fun e => by have := (hown b e.symm).2; omega⟩
      have hq : ∀ (o : Obj) {u : Value} {p : Nat}, wr.cell? ⟨bm, p, none⟩ = some u → (w3.alloc o).cell? ⟨bm, p, none⟩ = some u := fun o u p h => ((grown_of_below bl3).trans' o).cell h (by simp)
      have q' := fun o => hq o q
      clear oL3 oM3 q q0 q1 q2 q3 q4 q5 cR
      go_wp2_with fail
      have T5 : ∀ (o o' : Obj) (w5 : World), ((w3.alloc o).alloc o').drew.grownBy w5 smv.ownBlock → Below w.heap.size w w5 ∧ w1.heap.size ≤ w5.heap.size := fun o o' w5 g5 => by
        have e : ((w3.alloc o).alloc o').drew.heap.size = w3.heap.size + 1 + 1 := by show ((w3.alloc o).alloc o').heap.size = _; rw [alloc_size, alloc_size]
        have b6 : Below w.heap.size w ((w3.alloc o).alloc o').drew := (B3.trans ((two_below w3 o o').mono B3.size)).trans (Below.refl _ _).drew
        exact ⟨b6.grown g5 b6.size (fun r e => by have := (hown r e).1; omega), by have := g5.size; omega⟩
      go_region_law (refine step_push keepER rfl (.tmp 25) (.tmp 33) 23 rfl w1.heap.size i1 _ 104 Tryd.underlying23 hJ.out.1 hJ.out.2.1 hJ.out.2.2.1 hJ.out.2.2.2 rfl (by decide) (by decide) smv (some (key, V.mk k' b' i' s' l' m')) rfl (((o3.alloc keepER _).alloc keepER _).drew keepER) (w3.heap.size + 1) 1 (0, 0) rfl (alloc2_new w3 _ _) rfl one7 (keepER _ _ _ _ _ _ (fun b hb => alloc2_keep w3 _ _ hb.2) (fun _ h => h) hx3) (fun b hb => alloc2_off (HK.out b hb)) (by rw [hll]; omega) (by show w1.heap.size ≤ ((w3.alloc _).alloc _).heap.size; rw [alloc_size, alloc_size]; omega) ?_; intro g cap w5 o5 g5 e5; rw [hll] at o5 ⊢; have t5 := T5 _ _ w5 g5)
      all_goals go_wp2_with fail
      all_goals go_roundw
      all_goals first
        | exact ⟨j + 1, _, _, by omega, rfl, by go_num, t5.1, t5.2, by rw [HTk.out]; exact o5⟩
        | (simp [RowKit.intOf]; omega)
    · obtain rfl : j = l.length := by omega
      have y1 : ¬ (l.length : Int) < l.length := by omega
      rw [List.take_length] at oj
      have hown : ∀ r, smv.ownBlock = some r → w1.heap.size ≤ r ∧ r < wr.heap.size := fun r hr => oj.lt hr
      go_wp2_with (at_builtin; go_loud (refine wpl_push keepER _ rfl (.tmp 35) (.tmp 37) 23 rfl w1.heap.size i1 _ 104 Tryd.underlying23 hJ.out.1 hJ.out.2.1 hJ.out.2.2.1 hJ.out.2.2.2 rfl (by decide) (by decide) smv Option.none (Sx := fun _ => False) rfl (oj.alloc keepER _) wr.heap.size 1 (0, 0) rfl (heap_alloc_new wr _) rfl one7 rfl (fun b hb => hb.elim) (by simp; omega) (by rw [alloc_size]; omega) ?_))
      intro g c w5 o5 g5 e5
      have B5 : Below w.heap.size w w5 := (bj.trans (((Below.refl _ _).alloc (Nat.le_refl _) _).mono bj.size)).grown g5 (by rw [alloc_size]; omega) (fun r e => by have := (hown r e).1; omega)
      (try simp only [List.length_map] at o5 ⊢)
      have hcc : (l.length : Int) ≤ c := by have := o5.le.1; simp at this; omega
      have HO : Hid (∀ W, Below w5.heap.size w5 W → OwnR ER 44 7 W w1.heap.size _ (.slice (some ⟨g, 0, none⟩) (l.length + 1) c) (l.map some ++ [none])) := fun W hb => o5.below keepER hb
      have hg5 : g < w5.heap.size := (o5.lt (g := g) rfl).2
      have cB := build_any l true (Old w5) (some ⟨g, 0, none⟩) c g 0 w5 (HT.out w5 B5) rfl (er_lies o5) (fun _ h => h) (by omega)
      have HCB : Hid (Calls Tryd.prog 39 #[.slice (some ⟨g, 0, none⟩) l.length c] w5 (VePost (bvV l).1 (bvV l).2 w5)) := cB.mono fun e w' h => bv_val (bv_of_bld h)
      have HRB : Hid (∀ W, Below w.heap.size w W → Calls Tryd.prog 40 #[.slice am l.length cm] W (VePost (bvV l).1 (bvV l).2 W)) := fun W hb => (rbuild_any l (Old W) am cm bm om W ham (HL.out W hb) (fun _ h => h) hwt).mono fun e w' h => bv_val h
      clear cB o5 g5 e5 oj hown bj
      generalize (bvV l).1 = va at *
      generalize (bvV l).2 = ea at *
      go_wp2_with fail
      refine HCB.out.mono ?_
      rintro e w6 ⟨csu, rfl, hlu, b6⟩
      have HU0 : Hid (va.lies false w6 (New w5 w6) csu) := hlu
      obtain ⟨uk, ub, ui, us, ual, unl, ucl, uam, unm, ucm, rfl⟩ := V.ten hlu
      have hz6 := b6.size
      have hz7 := alloc_size w6 (.cells #[.int .i64 uk, .bool ub, .int .i64 ui, .string us, .slice ual unl ucl, .slice uam unm ucm] 25)
      have b7 : Below w6.heap.size w6 (w6.alloc (.cells #[.int .i64 uk, .bool ub, .int .i64 ui, .string us, .slice ual unl ucl, .slice uam unm ucm] 25)) := (Below.refl _ _).alloc (Nat.le_refl _) _
      have hbx := box_row w6 [.int .i64 uk, .bool ub, .int .i64 ui, .string us, .slice ual unl ucl, .slice uam unm ucm] 25
      have c7 : Below w5.heap.size w5 (w6.alloc (.cells #[.int .i64 uk, .bool ub, .int .i64 ui, .string us, .slice ual unl ucl, .slice uam unm ucm] 25)) := b6.trans (b7.mono hz6)
      have B7 := B5.trans (c7.mono B5.size)
      clear HCB hlu
      go_wp2_with fail
      have HUx : Hid (∀ W, Below (w6.alloc (.cells #[.int .i64 uk, .bool ub, .int .i64 ui, .string us, .slice ual unl ucl, .slice uam unm ucm] 25)).heap.size (w6.alloc (.cells #[.int .i64 uk, .bool ub, .int .i64 ui, .string us, .slice ual unl ucl, .slice uam unm ucm] 25)) W → rowAt W w6.heap.size 0 [.int .i64 uk, .bool ub, .int .i64 ui, .string us, .slice ual unl ucl, .slice uam unm ucm] ∧ va.lies false W (New w5 w6) [.int .i64 uk, .bool ub, .int .i64 ui, .string us, .slice ual unl ucl, .slice uam unm ucm] ∧ w6.heap.size < W.heap.size) := fun W hb => ⟨hbx.keep (hb.block _ (by omega)), V.lies_keep (fun h => h) (fun x hx => (hb.block x (by have := hx.2; omega)).trans (b7.block x hx.2)) (fun _ h => h) _ HU0.out, by have := hb.size; omega⟩
      clear hbx b7
      generalize (w6.alloc (.cells #[.int .i64 uk, .bool ub, .int .i64 ui, .string us, .slice ual unl ucl, .slice uam unm ucm] 25)) = w7 at *
      refine (HRB.out w7 B7).mono ?_
      rintro e w8 ⟨cst, rfl, hlt, b8⟩
      have HT0 : Hid (va.lies false w8 (New w7 w8) cst) := hlt
      obtain ⟨tk, tb, ti, ts, tal, tnl, tcl, tam, tnm, tcm, rfl⟩ := V.ten hlt
      have hz8 := b8.size
      have hz9 := alloc_size w8 (.cells #[.int .i64 tk, .bool tb, .int .i64 ti, .string ts, .slice tal tnl tcl, .slice tam tnm tcm] 25)
      have b9 : Below w8.heap.size w8 (w8.alloc (.cells #[.int .i64 tk, .bool tb, .int .i64 ti, .string ts, .slice tal tnl tcl, .slice tam tnm tcm] 25)) := (Below.refl _ _).alloc (Nat.le_refl _) _
      have hby := box_row w8 [.int .i64 tk, .bool tb, .int .i64 ti, .string ts, .slice tal tnl tcl, .slice tam tnm tcm] 25
      have c9 : Below w7.heap.size w7 (w8.alloc (.cells #[.int .i64 tk, .bool tb, .int .i64 ti, .string ts, .slice tal tnl tcl, .slice tam tnm tcm] 25)) := b8.trans (b9.mono hz8)
      clear hlt
      go_wp2_with fail
      have HTx : Hid (∀ W, Below (w8.alloc (.cells #[.int .i64 tk, .bool tb, .int .i64 ti, .string ts, .slice tal tnl tcl, .slice tam tnm tcm] 25)).heap.size (w8.alloc (.cells #[.int .i64 tk, .bool tb, .int .i64 ti, .string ts, .slice tal tnl tcl, .slice tam tnm tcm] 25)) W → (rowAt W w6.heap.size 0 [.int .i64 uk, .bool ub, .int .i64 ui, .string us, .slice ual unl ucl, .slice uam unm ucm] ∧ va.lies false W (New w5 w6) [.int .i64 uk, .bool ub, .int .i64 ui, .string us, .slice ual unl ucl, .slice uam unm ucm]) ∧ (rowAt W w8.heap.size 0 [.int .i64 tk, .bool tb, .int .i64 ti, .string ts, .slice tal tnl tcl, .slice tam tnm tcm] ∧ va.lies false W (New w7 w8) [.int .i64 tk, .bool tb, .int .i64 ti, .string ts, .slice tal tnl tcl, .slice tam tnm tcm]) ∧ Below w.heap.size w W ∧ Below w5.heap.size w5 W ∧ w6.heap.size ≤ W.heap.size ∧ w8.heap.size ≤ W.heap.size) := fun W hb => by
        have d7 := c9.trans (hb.mono c9.size)
        have h := HUx.out W d7
        exact ⟨⟨h.1, h.2.1⟩, ⟨hby.keep (hb.block _ (by omega)), V.lies_keep (fun h => h) (fun x hx => (hb.block x (by have := hx.2; omega)).trans (b9.block x hx.2)) (fun _ h => h) _ HT0.out⟩, B7.trans (d7.mono B7.size), c7.trans (d7.mono c7.size), by have := h.2.2; omega, by have := hb.size; omega⟩
      clear hby b9 HUx HU0 HT0 HRB
      generalize (w8.alloc (.cells #[.int .i64 tk, .bool tb, .int .i64 ti, .string ts, .slice tal tnl tcl, .slice tam tnm tcm] 25)) = w9 at *
      go_loopw [10] (fun e10 wq => ∃ i : Nat, i ≤ l.length ∧ e10 = .int .i64 (i : Int) ∧ Hid (Below w9.heap.size w9 wq)) (fun e10 _ => l.length - (RowKit.intOf e10).toNat)
      case atStart => exact ⟨0, by omega, rfl, Below.refl _ _⟩
      case round =>
        rename World => wx
        obtain ⟨i, hi, rfl, bx⟩ := hrel
        have hzx := bx.out.size
        obtain ⟨hA, hB, Bx, B5x, hs6, hs8⟩ := HTx.out wx bx.out
        by_cases hil : i < l.length
        · have y2 : (i : Int) < l.length := by omega
          have y3 : (i : Int) < (l.length + 1 : Nat) := by omega
          obtain rfl : am = some ⟨bm, om, none⟩ := ham.at_.resolve_left (by omega)
          obtain ⟨hSb, hks, csj, hrow, hlj⟩ := liesM_get (HL.out wx Bx) i hil
          have hwi := HW.out i hil
          obtain ⟨cse, hre, hE⟩ := (HO.out wx B5x).at (by simp) i (by simp; omega)
          rw [List.getElem_append_left (by simpa using hil), List.getElem_map] at hE
          obtain ⟨k', b', i', s', l', m', N, gl, xl, gm, xm, XL, XM, e1, _, _, _, _, rfl, hR, _⟩ := hE
          obtain ⟨ikey, hik⟩ : ∃ ikey, (l[i]).1 = ikey := ⟨_, rfl⟩
          rw [hik] at hre hrow
          rw [e1] at hlj hwi
          have hlj0 := hlj
          obtain ⟨vk, vb, vi, vs, val, vnl, vcl, vam, vnm, vcm, rfl⟩ := V.ten hlj
          rw [Nat.zero_add] at hre
          obtain ⟨p, p0, p1, p2, p3, p4, p5⟩ := row7 hrow
          obtain ⟨g', g0, g1, g2, g3, g4, g5⟩ := row7 hre
          have hgx : g < wx.heap.size := Nat.lt_of_lt_of_le hg5 B5x.size
          have hbx : bm < wx.heap.size := hSb
          have CI : Hid (∀ x : Sub wx.heap.size wx, Calls Tryd.prog 13 #[.agg #[.int .i64 k', .bool b', .int .i64 i', .string s', .slice (some ⟨gl, 0, none⟩) l'.length xl, .slice (some ⟨gm, 0, none⟩) m'.length xm], .agg #[.int .i64 vk, .bool vb, .int .i64 vi, .string vs, .slice val vnl vcl, .slice vam vnm vcm]] x.w fun e w'' => e = .returned (.bool true) ∧ ∃ y : Sub wx.heap.size wx, w'' = y.w) := fun x =>
            sub_call (fun w' hb => (kept_any k' b' i' s' l' m' N gl xl gm xm XL XM (Old wx) _ w' (hR.below hb) (V.lies_keep (fun h => h) (fun y hy => hb.block y hy) (fun _ h => h) _ hlj0) (fun y hy => Nat.lt_of_lt_of_le hy hb.size) (by omega)).mono fun e w'' ⟨he, h2⟩ => ⟨he, hb.trans (h2.mono hb.size)⟩) x
          have a6 : ∀ x : Sub wx.heap.size wx, _ := sub_cell p hbx
          have a0 : ∀ x : Sub wx.heap.size wx, _ := sub_cell p0 hbx
          have a1 : ∀ x : Sub wx.heap.size wx, _ := sub_cell p1 hbx
          have a2 : ∀ x : Sub wx.heap.size wx, _ := sub_cell p2 hbx
          have a3 : ∀ x : Sub wx.heap.size wx, _ := sub_cell p3 hbx
          have a4 : ∀ x : Sub wx.heap.size wx, _ := sub_cell p4 hbx
          have a5 : ∀ x : Sub wx.heap.size wx, _ := sub_cell p5 hbx
          have d6 : ∀ x : Sub wx.heap.size wx, _ := sub_cell g' hgx
          have d0 : ∀ x : Sub wx.heap.size wx, _ := sub_cell g0 hgx
          have d1 : ∀ x : Sub wx.heap.size wx, _ := sub_cell g1 hgx
          have d2 : ∀ x : Sub wx.heap.size wx, _ := sub_cell g2 hgx
          have d3 : ∀ x : Sub wx.heap.size wx, _ := sub_cell g3 hgx
          have d4 : ∀ x : Sub wx.heap.size wx, _ := sub_cell g4 hgx
          have d5 : ∀ x : Sub wx.heap.size wx, _ := sub_cell g5 hgx
          clear p p0 p1 p2 p3 p4 p5 g' g0 g1 g2 g3 g4 g5 hre hrow hlj hlj0 hR hik e1 hA hB
          go_wp2_with fail
          refine wp_region_sub wx.heap.size (by kernel_rfl) (by kernel_rfl) ?_
          repeat (go_big_quiet_step (exact CI.out _))
          refine wpQuiet_nil ?_
          rintro _ ⟨⟨wz, bz⟩, rfl⟩
          have b10 := bx.out.trans (bz.mono hzx)
          go_wp2_with fail
          go_roundw
          case rel => exact ⟨i + 1, by omega, by go_num, b10⟩
          case measure => simp [RowKit.intOf]; omega
        · obtain rfl : i = l.length := by omega
          have y2 : ¬ (l.length : Int) < l.length := by omega
          have y3 : (l.length : Int) < (l.length + 1 : Nat) := by omega
          have cS := same_any va false false va (New w5 w6) (New w7 w8) _ _ wx hA.2 hB.2 (fun x h => by have := h.2; omega) (fun x h => by have := h.2; omega)
          rw [V.eqB_refl] at cS
          obtain ⟨f0, f1, f2, f3, f4, f5⟩ := row6z hA.1
          obtain ⟨d0, d1, d2, d3, d4, d5⟩ := row6z hB.1
          have hrm := er_room (HO.out wx B5x)
          clear hA hB
          go_wp2_with fail
          refine cS.mono ?_
          rintro e w10 ⟨rfl, b10⟩
          have hgx : g < wx.heap.size := Nat.lt_of_lt_of_le hg5 B5x.size
          replace hrm := (b10.cell (p := ⟨g, l.length * 7, none⟩) hgx).trans hrm
          have BZ := Bx.trans (b10.mono Bx.size)
          clear f0 f1 f2 f3 f4 f5 d0 d1 d2 d3 d4 d5
          go_wp2_with fail
          go_ret
          exact ⟨by simp, BZ⟩
end Go.Proofs.YtljgofmmihmmfaaDoor
