/- joined: WlkP WlkA WlkQ -/
import Derived.Test.YtgnofbigggmilaaGreatDoorRepA
set_option linter.unusedSimpArgs false
set_option linter.unusedVariables false
namespace Go.Proofs.YtgnofbigggmilaaGreatDoor
open Go.RowKit Go.Lib
def wkV (F : V → V × Int) : V → List ByteArray → V × Int × Option V
 | v, [] => ((F v).1, (F v).2, some v)
 | v, t :: ts => if (ledF v t).2 = 0 then (if (wkV F (kid v (ledF v t).1) ts).2.1 = 0 then (replV v (ledF v t).1 (wkV F (kid v (ledF v t).1) ts).1, 0, (wkV F (kid v (ledF v t).1) ts).2.2) else (nullV, (wkV F (kid v (ledF v t).1) ts).2.1, (wkV F (kid v (ledF v t).1) ts).2.2)) else (nullV, (ledF v t).2, none)
def DoC (f : Nat) (cap : Value) (F : V → V × Int) (S : Nat → Prop) (G : Nat) (D : V → World → World → Prop) (w : World) : Prop := ∀ (W : World) (x : V) (cs : List Value), Below w.heap.size w W → x.wt ≤ 1114112 → allG x → x.lies false W S cs → Calls Tryz.prog f #[.agg cs.toArray, cap] W (fun e W' => ∃ ds : List Value, e = .returned (.tuple #[.agg ds.toArray, .int .i64 (F x).2]) ∧ (F x).1.lies false W' (OrNew S W W') ds ∧ W.grownBy W' (some G) ∧ D x W W')
theorem DoC.below {f : Nat} {cap : Value} {F : V → V × Int} {S : Nat → Prop} {G : Nat} {D : V → World → World → Prop} {w W : World} (h : DoC f cap F S G D w) (hb : Below w.heap.size w W) : DoC f cap F S G D W := fun W' x cs b' hwx hga hx => h W' x cs (hb.trans (b'.mono hb.size)) hwx hga hx
def Left (x : V) (S : Nat → Prop) (G : Nat) (D : V → World → World → Prop) (w w' : World) : Prop := ∃ W0 W1, Below w.heap.size w W0 ∧ D x W0 W1 ∧ W1.heap.size ≤ w'.heap.size ∧ ∀ b, (S b ∨ b = G ∨ New W0 W1 b) → w'.heap[b]? = W1.heap[b]?
def WkPost (r : V × Int × Option V) (S : Nat → Prop) (G : Nat) (D : V → World → World → Prop) (w : World) (e : Ending) (w' : World) : Prop :=
 ∃ cs : List Value, e = .returned (.tuple #[.agg cs.toArray, .int .i64 r.2.1]) ∧ r.1.lies false w' (OrNew S w w') cs ∧ w.grownBy w' (some G) ∧ (∀ x, r.2.2 = some x → Left x S G D w w') ∧ (r.2.2 = none → Below w.heap.size w w')
theorem allGL_get : ∀ {l : List V}, allGL l → ∀ (j : Nat) (h : j < l.length), allG l[j]
 | [], _, j, h => by simp at h
 | x :: t, ha, 0, h => by rw [allGL] at ha; exact ha.1
 | x :: t, ha, j + 1, h => by rw [allGL] at ha; exact allGL_get ha.2 j (by simpa using h)
theorem allGM_get : ∀ {l : List Mem}, allGM l → ∀ (j : Nat) (h : j < l.length), allG (l[j]).2
 | [], _, j, h => by simp at h
 | (_, x) :: t, ha, 0, h => by rw [allGM] at ha; exact ha.1
 | (_, x) :: t, ha, j + 1, h => by rw [allGM] at ha; exact allGM_get ha.2 j (by simpa using h)
theorem allG_srt {v : V} (h : allG v) : Srt (memsOf v) := by
 obtain ⟨k, b, i, s, l, m⟩ := v
 rw [allG] at h
 have hg := h.1
 simp only [goodB, Bool.and_eq_true] at hg
 exact srt_rise hg.2
theorem allG_kid {v : V} {j : Nat} (h : allG v) (hj : kidAt v j) : allG (kid v j) := by
 obtain ⟨k, b, i, s, l, m⟩ := v
 rw [allG] at h
 rcases hj with ⟨hk, hj⟩ | ⟨hk, hj⟩
 ·have hk' : k = 4 := hk
  subst hk'
  have hj' : j < l.length := hj
  show allG (l.getD j nullV)
  rw [List.getD_eq_getElem?_getD, List.getElem?_eq_getElem hj']
  exact allGL_get h.2.1 j hj'
 ·have hk' : k = 5 := hk
  subst hk'
  have hj' : j < m.length := hj
  show allG (m.getD j (⟨#[]⟩, nullV)).2
  rw [List.getD_eq_getElem?_getD, List.getElem?_eq_getElem hj']
  exact allGM_get h.2.2 j hj'
theorem kid_wt {v : V} {j : Nat} (hj : kidAt v j) : (kid v j).wt ≤ v.wt := by
 obtain ⟨k, b, i, s, l, m⟩ := v
 rcases hj with ⟨hk, hj⟩ | ⟨hk, hj⟩
 ·have hk' : k = 4 := hk
  subst hk'
  have hj' : j < l.length := hj
  show (l.getD j nullV).wt ≤ _
  rw [List.getD_eq_getElem?_getD, List.getElem?_eq_getElem hj', V.wt]
  have := wtL_mem (List.getElem_mem hj')
  simp only [Option.getD_some]; omega
 ·have hk' : k = 5 := hk
  subst hk'
  have hj' : j < m.length := hj
  show (m.getD j (⟨#[]⟩, nullV)).2.wt ≤ _
  rw [List.getD_eq_getElem?_getD, List.getElem?_eq_getElem hj', V.wt]
  have := wtM_mem (List.getElem_mem hj')
  simp only [Option.getD_some]; omega
theorem grown_below {w w' : World} {G : Nat} (h : Below w.heap.size w w') : w.grownBy w' (some G) := ⟨h.os, h.tape, h.output, h.size, fun k hk _ => h.block k hk⟩
theorem box_end {w W0 W1 : World} {x y : V} {S : Nat → Prop} {G : Nat} {D : V → World → World → Prop} {ds : List Value} (B0 : Below w.heap.size w W0) (hM : w.heap.size + 1 < W0.heap.size) (hS : ∀ b, S b → b < w.heap.size) (hG : G < w.heap.size) (hy : y.lies false W1 (OrNew S W0 W1) ds) (hg : W0.grownBy W1 (some G)) (hD : D x W0 W1) (i1 i2 i3 i4 i5 i6 : Nat) (u1 u2 u3 u4 u5 u6 : Value) :
 y.lies false ((((((W1.setCell ⟨w.heap.size + 1, i1, none⟩ u1).setCell ⟨w.heap.size + 1, i2, none⟩ u2).setCell ⟨w.heap.size + 1, i3, none⟩ u3).setCell ⟨w.heap.size + 1, i4, none⟩ u4).setCell ⟨w.heap.size + 1, i5, none⟩ u5).setCell ⟨w.heap.size + 1, i6, none⟩ u6) (OrNew S w ((((((W1.setCell ⟨w.heap.size + 1, i1, none⟩ u1).setCell ⟨w.heap.size + 1, i2, none⟩ u2).setCell ⟨w.heap.size + 1, i3, none⟩ u3).setCell ⟨w.heap.size + 1, i4, none⟩ u4).setCell ⟨w.heap.size + 1, i5, none⟩ u5).setCell ⟨w.heap.size + 1, i6, none⟩ u6)) ds ∧
 w.grownBy ((((((W1.setCell ⟨w.heap.size + 1, i1, none⟩ u1).setCell ⟨w.heap.size + 1, i2, none⟩ u2).setCell ⟨w.heap.size + 1, i3, none⟩ u3).setCell ⟨w.heap.size + 1, i4, none⟩ u4).setCell ⟨w.heap.size + 1, i5, none⟩ u5).setCell ⟨w.heap.size + 1, i6, none⟩ u6) (some G) ∧
 Left x S G D w ((((((W1.setCell ⟨w.heap.size + 1, i1, none⟩ u1).setCell ⟨w.heap.size + 1, i2, none⟩ u2).setCell ⟨w.heap.size + 1, i3, none⟩ u3).setCell ⟨w.heap.size + 1, i4, none⟩ u4).setCell ⟨w.heap.size + 1, i5, none⟩ u5).setCell ⟨w.heap.size + 1, i6, none⟩ u6) := by
 have hsz : ((((((W1.setCell ⟨w.heap.size + 1, i1, none⟩ u1).setCell ⟨w.heap.size + 1, i2, none⟩ u2).setCell ⟨w.heap.size + 1, i3, none⟩ u3).setCell ⟨w.heap.size + 1, i4, none⟩ u4).setCell ⟨w.heap.size + 1, i5, none⟩ u5).setCell ⟨w.heap.size + 1, i6, none⟩ u6).heap.size = W1.heap.size := by simp only [size_set1]
 have hot : ∀ x, x ≠ w.heap.size + 1 → ((((((W1.setCell ⟨w.heap.size + 1, i1, none⟩ u1).setCell ⟨w.heap.size + 1, i2, none⟩ u2).setCell ⟨w.heap.size + 1, i3, none⟩ u3).setCell ⟨w.heap.size + 1, i4, none⟩ u4).setCell ⟨w.heap.size + 1, i5, none⟩ u5).setCell ⟨w.heap.size + 1, i6, none⟩ u6).heap[x]? = W1.heap[x]? := fun x hx => by
  repeat (rw [set_other hx])
 have hgs : W1.grownBy ((((((W1.setCell ⟨w.heap.size + 1, i1, none⟩ u1).setCell ⟨w.heap.size + 1, i2, none⟩ u2).setCell ⟨w.heap.size + 1, i3, none⟩ u3).setCell ⟨w.heap.size + 1, i4, none⟩ u4).setCell ⟨w.heap.size + 1, i5, none⟩ u5).setCell ⟨w.heap.size + 1, i6, none⟩ u6) (some (w.heap.size + 1)) := grown_set (grown_set (grown_set (grown_set (grown_set (grown_set (World.grownBy.refl W1 _) i1 u1) i2 u2) i3 u3) i4 u4) i5 u5) i6 u6
 generalize ((((((W1.setCell ⟨w.heap.size + 1, i1, none⟩ u1).setCell ⟨w.heap.size + 1, i2, none⟩ u2).setCell ⟨w.heap.size + 1, i3, none⟩ u3).setCell ⟨w.heap.size + 1, i4, none⟩ u4).setCell ⟨w.heap.size + 1, i5, none⟩ u5).setCell ⟨w.heap.size + 1, i6, none⟩ u6) = Wf at *
 have hs0 := B0.size
 have hs1 := hg.size
 refine ⟨V.lies_keep (fun h => h) (fun z hz => hot z ?_) (fun z hz => ?_) _ hy, ⟨?_, ?_, ?_, ?_, fun z hz hne => ?_⟩, W0, W1, B0, hD, by omega, fun z hz => hot z ?_⟩
 ·rcases hz with hz | hz
  ·have := hS z hz; omega
  ·have := hz.1; omega
 ·rcases hz with hz | hz
  ·exact .inl hz
  ·exact .inr ⟨by have := hz.1; omega, by have := hz.2; omega⟩
 ·exact hgs.os.trans (hg.os.trans B0.os)
 ·exact hgs.tape.trans (hg.tape.trans B0.tape)
 ·exact hgs.output.trans (hg.output.trans B0.output)
 ·omega
 ·rw [hot z (by omega), hg.block z (by omega) hne, B0.block z hz]
 ·rcases hz with hz | hz | hz
  ·have := hS z hz; omega
  ·omega
  ·have := hz.1; omega
def TokAt (w : World) (tv : Value) (ts : List ByteArray) : Prop := (ts = [] ∧ ∃ a c, tv = .slice a 0 c) ∨ (0 < ts.length ∧ ∃ g o c, tv = .slice (some ⟨g, o, none⟩) ts.length c ∧ ts.length ≤ c ∧ g < w.heap.size ∧ ∀ j (h : j < ts.length), w.cell? ⟨g, o + j, none⟩ = some (.string ts[j]))
theorem TokAt.below {w w' : World} {tv : Value} {ts : List ByteArray} (h : TokAt w tv ts) (hb : Below w.heap.size w w') : TokAt w' tv ts := by
 rcases h with h | ⟨h0, g, o, c, e, hc, hg, hr⟩
 ·exact .inl h
 ·exact .inr ⟨h0, g, o, c, e, hc, Nat.lt_of_lt_of_le hg hb.size, fun j hj => (hb.cell (p := ⟨g, o + j, none⟩) hg).trans (hr j hj)⟩
theorem TokAt.of_lies {w : World} {tv : Value} {ts : List ByteArray} (h : LiesS w tv ts) : TokAt w tv ts := by
 cases ts with
 | nil => obtain ⟨⟨a, c, e⟩, _⟩ := h; exact .inl ⟨rfl, a, c, e⟩
 | cons t ts => obtain ⟨g, o, c, e, hle, hg, hc⟩ := h.2 (by simp); exact .inr ⟨by simp, g, o, c, e, hle, hg, hc⟩
set_option maxHeartbeats 8000000 in
set_option maxRecDepth 100000 in
theorem walk_nil (f : Nat) (cap : Value) (F : V → V × Int) (S : Nat → Prop) (G : Nat) (D : V → World → World → Prop) (eg : ∀ args w, (callFunc f args).run Tryz.prog w = .ok (.enter f args) w) (v : V) (cs : List Value) (tv : Value) (w : World) (hv : v.lies false w S cs) (hS : ∀ b, S b → b < w.heap.size) (hG : G < w.heap.size) (hwt : v.wt ≤ 1114112) (hga : allG v) (ht : TokAt w tv []) (hd : DoC f cap F S G D w) :
 Calls Tryz.prog 38 #[.agg cs.toArray, tv, .func (.func f) #[] #[cap]] w (WkPost (wkV F v []) S G D w) := by
 obtain ⟨ta, tc, rfl⟩ : ∃ a c, tv = .slice a 0 c := by
  rcases ht with ⟨_, h⟩ | ⟨h, _⟩
  ·exact h
  ·simp at h
 have HV := hmk hv
 obtain ⟨k, b, i, s, al, nl, cl, am, nm, cm, rfl⟩ := V.ten hv
 clear hv
 have B0 : Below w.heap.size w ((w.alloc (.cells #[.int .i64 k, .bool b, .int .i64 i, .string s, .slice al nl cl, .slice am nm cm] 25)).alloc (.cells #[.int .i64 0, .bool false, .int .i64 0, .string ⟨#[]⟩, .slice none 0 0, .slice none 0 0] 25)) := two_below w _ _
 have hz0 : ((w.alloc (.cells #[.int .i64 k, .bool b, .int .i64 i, .string s, .slice al nl cl, .slice am nm cm] 25)).alloc (.cells #[.int .i64 0, .bool false, .int .i64 0, .string ⟨#[]⟩, .slice none 0 0, .slice none 0 0] 25)).heap.size = w.heap.size + 2 := by rw [alloc_size, alloc_size]
 have h1 := alloc2_new w (.cells #[.int .i64 k, .bool b, .int .i64 i, .string s, .slice al nl cl, .slice am nm cm] 25) (.cells #[.int .i64 0, .bool false, .int .i64 0, .string ⟨#[]⟩, .slice none 0 0, .slice none 0 0] 25)
 have hc := hd ((w.alloc (.cells #[.int .i64 k, .bool b, .int .i64 i, .string s, .slice al nl cl, .slice am nm cm] 25)).alloc (.cells #[.int .i64 0, .bool false, .int .i64 0, .string ⟨#[]⟩, .slice none 0 0, .slice none 0 0] 25)) v _ B0 hwt hga (lies_below HV.out hS B0)
 clear hd ht
 go_enter Tryz.func38, Tryz.ntmps38
 go_wp2_with fail
 generalize ((w.alloc (.cells #[.int .i64 k, .bool b, .int .i64 i, .string s, .slice al nl cl, .slice am nm cm] 25)).alloc (.cells #[.int .i64 0, .bool false, .int .i64 0, .string ⟨#[]⟩, .slice none 0 0, .slice none 0 0] 25)) = w0 at *
 refine hc.mono ?_
 rintro e w1 ⟨ds, rfl, hy, hg, hD⟩
 obtain ⟨ek, eb, ei, es, eal, enl, ecl, eam, enm, ecm, rfl⟩ := V.ten hy
 have HE := hmk (box_end B0 (by omega) hS hG hy hg hD 0 1 2 3 4 5 (.int .i64 ek) (.bool eb) (.int .i64 ei) (.string es) (.slice eal enl ecl) (.slice eam enm ecm))
 have t1 := (hg.block (w.heap.size + 1) (by omega) (fun e => by have := Option.some.inj e; omega)).trans h1
 have z0 : w1.cell? ⟨w.heap.size + 1, 0, none⟩ = some (.int .i64 0) := by rw [cell_of_block t1]; rfl
 have z1 : w1.cell? ⟨w.heap.size + 1, 1, none⟩ = some (.bool false) := by rw [cell_of_block t1]; rfl
 have z2 : w1.cell? ⟨w.heap.size + 1, 2, none⟩ = some (.int .i64 0) := by rw [cell_of_block t1]; rfl
 have z3 : w1.cell? ⟨w.heap.size + 1, 3, none⟩ = some (.string ⟨#[]⟩) := by rw [cell_of_block t1]; rfl
 have z4 : w1.cell? ⟨w.heap.size + 1, 4, none⟩ = some (.slice none 0 0) := by rw [cell_of_block t1]; rfl
 have z5 : w1.cell? ⟨w.heap.size + 1, 5, none⟩ = some (.slice none 0 0) := by rw [cell_of_block t1]; rfl
 have rf := frozen_of_block t1
 clear hy hg hD hc t1 h1
 go_wp2_with fail
 (try simp only [Exit.inBlock, Exit.then])
 refine bodyPost_ret (v := .tuple #[.agg #[.int .i64 ek, .bool eb, .int .i64 ei, .string es, .slice eal enl ecl, .slice eam enm ecm], .int .i64 (F v).2]) ?_ rfl ?_
 rotate_left
 ·exact ⟨[.int .i64 ek, .bool eb, .int .i64 ei, .string es, .slice eal enl ecl, .slice eam enm ecm], rfl, HE.out.1, HE.out.2.1, (fun x hx => by cases hx; exact HE.out.2.2), (fun h => by cases h)⟩
 ·rw [results_cell_tmp rfl]
  go_simp
structure MidF (S : Nat → Prop) (G : Nat) (D : V → World → World → Prop) (w wy : World) (X : Nat) (y : V) (rx : Option V) (es : List Value) (vb : Obj) : Prop where
 g : w.grownBy wy (some G)
 lo : w.heap.size + 2 ≤ X
 hi : X < wy.heap.size
 bx : wy.heap[X]? = some (.cells #[.int .i64 0, .bool false, .int .i64 0, .string ⟨#[]⟩, .slice none 0 0, .slice none 0 0] 25)
 vb : wy.heap[w.heap.size]? = some vb
 rb : wy.heap[w.heap.size + 1]? = some (.cells #[.int .i64 0, .bool false, .int .i64 0, .string ⟨#[]⟩, .slice none 0 0, .slice none 0 0] 25)
 ly : y.lies false wy (fun x => S x ∨ (w.heap.size + 2 ≤ x ∧ x ≠ X ∧ x < wy.heap.size)) es
 lf : ∀ x, rx = some x → ∃ W0 W1, Below w.heap.size w W0 ∧ w.heap.size + 2 ≤ W0.heap.size ∧ D x W0 W1 ∧ W1.heap.size ≤ wy.heap.size ∧ (∀ b, (S b ∨ b = G ∨ New W0 W1 b) → wy.heap[b]? = W1.heap[b]? ∧ b ≠ X)
 nn : rx = none → Below w.heap.size w wy
structure EndF (S : Nat → Prop) (G : Nat) (D : V → World → World → Prop) (w wz : World) (X : Nat) (y : V) (rx : Option V) (es : List Value) (vb : Obj) : Prop where
 g : w.grownBy wz (some G)
 lo : w.heap.size + 2 ≤ X
 hi : X < wz.heap.size
 vb : wz.heap[w.heap.size]? = some vb
 rb : wz.heap[w.heap.size + 1]? = some (.cells #[.int .i64 0, .bool false, .int .i64 0, .string ⟨#[]⟩, .slice none 0 0, .slice none 0 0] 25)
 xr : rowAt wz X 0 es
 ly : y.lies false wz (fun x => S x ∨ (w.heap.size + 2 ≤ x ∧ x < wz.heap.size)) es
 lf : ∀ x, rx = some x → ∃ W0 W1, Below w.heap.size w W0 ∧ w.heap.size + 2 ≤ W0.heap.size ∧ D x W0 W1 ∧ W1.heap.size ≤ wz.heap.size ∧ (∀ b, (S b ∨ b = G ∨ New W0 W1 b) → wz.heap[b]? = W1.heap[b]?)
 nn : rx = none → Below w.heap.size w wz
theorem grown_of {w wh ww : World} {G : Nat} (BH : Below w.heap.size w wh) (gw : wh.grownBy ww (some G)) : w.grownBy ww (some G) :=
 ⟨gw.os.trans BH.os, gw.tape.trans BH.tape, gw.output.trans BH.output, Nat.le_trans BH.size gw.size, fun k hk hne => (gw.block k (Nat.lt_of_lt_of_le hk BH.size) hne).trans (BH.block k hk)⟩
theorem mid_before {S : Nat → Prop} {G : Nat} {D : V → World → World → Prop} {w wh ww : World} {X : Nat} {y : V} {rx : Option V} {es : List Value} {vb : Obj} (hS : ∀ b, S b → b < w.heap.size) (hG : G < w.heap.size) (BH : Below w.heap.size w wh) (h2 : w.heap.size + 2 ≤ X) (h3 : X < wh.heap.size)
 (bx : wh.heap[X]? = some (.cells #[.int .i64 0, .bool false, .int .i64 0, .string ⟨#[]⟩, .slice none 0 0, .slice none 0 0] 25)) (vb0 : wh.heap[w.heap.size]? = some vb) (rb0 : wh.heap[w.heap.size + 1]? = some (.cells #[.int .i64 0, .bool false, .int .i64 0, .string ⟨#[]⟩, .slice none 0 0, .slice none 0 0] 25))
 (hl : y.lies false ww (OrNew S wh ww) es) (gw : wh.grownBy ww (some G)) (lw : ∀ x, rx = some x → Left x S G D wh ww) (nw : rx = none → Below wh.heap.size wh ww) : MidF S G D w ww X y rx es vb := by
 have hs := gw.size
 have ne : ∀ b, w.heap.size ≤ b → some b ≠ some G := fun b hb e => by have := Option.some.inj e; omega
 refine ⟨grown_of BH gw, h2, by omega, (gw.block X h3 (by intro e; have := Option.some.inj e; omega)).trans bx, (gw.block _ (by omega) (by intro e; have := Option.some.inj e; omega)).trans vb0, (gw.block _ (by omega) (by intro e; have := Option.some.inj e; omega)).trans rb0, V.lies_keep (fun h => h) (fun _ _ => rfl) (fun x hx => ?_) _ hl, fun x hx => ?_, fun hn => BH.trans ((nw hn).mono BH.size)⟩
 ·rcases hx with hx | hx
  ·exact .inl hx
  ·exact .inr ⟨by have := hx.1; omega, by have := hx.1; omega, hx.2⟩
 ·obtain ⟨W0, W1, b0, d, sz, hb⟩ := lw x hx
  have hs0 := b0.size
  refine ⟨W0, W1, BH.trans (b0.mono BH.size), by omega, d, sz, fun b h => ⟨hb b h, ?_⟩⟩
  rcases h with h | h | h
  ·have := hS b h; omega
  ·omega
  ·have := h.1; omega
theorem mid_after {S : Nat → Prop} {G : Nat} {D : V → World → World → Prop} {w wh ww : World} {y : V} {rx : Option V} {es : List Value} {vb : Obj} (hS : ∀ b, S b → b < w.heap.size) (hG : G < w.heap.size) (BH : Below w.heap.size w wh) (h3 : w.heap.size + 2 ≤ wh.heap.size)
 (vb0 : wh.heap[w.heap.size]? = some vb) (rb0 : wh.heap[w.heap.size + 1]? = some (.cells #[.int .i64 0, .bool false, .int .i64 0, .string ⟨#[]⟩, .slice none 0 0, .slice none 0 0] 25))
 (hl : y.lies false ww (OrNew S wh ww) es) (gw : wh.grownBy ww (some G)) (lw : ∀ x, rx = some x → Left x S G D wh ww) (nw : rx = none → Below wh.heap.size wh ww) : MidF S G D w (ww.alloc (.cells #[.int .i64 0, .bool false, .int .i64 0, .string ⟨#[]⟩, .slice none 0 0, .slice none 0 0] 25)) ww.heap.size y rx es vb := by
 have hs := gw.size
 have ba : Below ww.heap.size ww (ww.alloc (.cells #[.int .i64 0, .bool false, .int .i64 0, .string ⟨#[]⟩, .slice none 0 0, .slice none 0 0] 25)) := one_belowG _ _
 have hz : (ww.alloc (.cells #[.int .i64 0, .bool false, .int .i64 0, .string ⟨#[]⟩, .slice none 0 0, .slice none 0 0] 25)).heap.size = ww.heap.size + 1 := alloc_size _ _
 have hn := heap_alloc_new ww (.cells #[.int .i64 0, .bool false, .int .i64 0, .string ⟨#[]⟩, .slice none 0 0, .slice none 0 0] 25)
 generalize (ww.alloc (.cells #[.int .i64 0, .bool false, .int .i64 0, .string ⟨#[]⟩, .slice none 0 0, .slice none 0 0] 25)) = wy at *
 refine ⟨⟨ba.os.trans (grown_of BH gw).os, ba.tape.trans (grown_of BH gw).tape, ba.output.trans (grown_of BH gw).output, by have := (grown_of BH gw).size; omega, fun k hk hne => (ba.block k (by have := (grown_of BH gw).size; omega)).trans ((grown_of BH gw).block k hk hne)⟩, by omega, by omega, hn, (ba.block _ (by omega)).trans ((gw.block _ (by omega) (by intro e; have := Option.some.inj e; omega)).trans vb0), (ba.block _ (by omega)).trans ((gw.block _ (by omega) (by intro e; have := Option.some.inj e; omega)).trans rb0), V.lies_keep (fun h => h) (fun x hx => ba.block x ?_) (fun x hx => ?_) _ hl, fun x hx => ?_, fun hn => ?_⟩
 ·rcases hx with hx | hx
  ·have := hS x hx; omega
  ·exact hx.2
 ·rcases hx with hx | hx
  ·exact .inl hx
  ·exact .inr ⟨by have := hx.1; omega, by have := hx.2; omega, by have := hx.2; omega⟩
 ·obtain ⟨W0, W1, b0, d, sz, hb⟩ := lw x hx
  have hs0 := b0.size
  refine ⟨W0, W1, BH.trans (b0.mono BH.size), by omega, d, by omega, fun b h => ?_⟩
  have hbw : b < ww.heap.size := by
   rcases h with h | h | h
   ·have := hS b h; omega
   ·omega
   ·have := h.2; omega
  exact ⟨(ba.block b hbw).trans (hb b h), by omega⟩
 ·have := BH.trans ((nw hn).mono BH.size)
  exact this.trans (ba.mono this.size)
theorem end_of_mid {S : Nat → Prop} {G : Nat} {D : V → World → World → Prop} {w wy : World} {X : Nat} {y : V} {rx : Option V} {vb : Obj} {c0 c1 c2 c3 c4 c5 : Value} (hS : ∀ b, S b → b < w.heap.size) (hG : G < w.heap.size) (h : MidF S G D w wy X y rx [c0, c1, c2, c3, c4, c5] vb) : EndF S G D w ((((((wy.setCell ⟨X, 0, none⟩ c0).setCell ⟨X, 1, none⟩ c1).setCell ⟨X, 2, none⟩ c2).setCell ⟨X, 3, none⟩ c3).setCell ⟨X, 4, none⟩ c4).setCell ⟨X, 5, none⟩ c5) X y rx [c0, c1, c2, c3, c4, c5] vb := by
 obtain ⟨arr', e1, e2, _, e4, e5, e6⟩ := set6_row (o := 0) h.bx (by decide) c0 c1 c2 c3 c4 c5
 have bb : rx = none → Below w.heap.size w ((((((wy.setCell ⟨X, 0, none⟩ c0).setCell ⟨X, 1, none⟩ c1).setCell ⟨X, 2, none⟩ c2).setCell ⟨X, 3, none⟩ c3).setCell ⟨X, 4, none⟩ c4).setCell ⟨X, 5, none⟩ c5) := fun hn => Below.set6 (h.nn hn) (by have := h.lo; omega) 0 1 2 3 4 5 c0 c1 c2 c3 c4 c5
 have gg : wy.grownBy ((((((wy.setCell ⟨X, 0, none⟩ c0).setCell ⟨X, 1, none⟩ c1).setCell ⟨X, 2, none⟩ c2).setCell ⟨X, 3, none⟩ c3).setCell ⟨X, 4, none⟩ c4).setCell ⟨X, 5, none⟩ c5) (some X) := grown_set (grown_set (grown_set (grown_set (grown_set (grown_set (World.grownBy.refl wy _) 0 c0) 1 c1) 2 c2) 3 c3) 4 c4) 5 c5
 simp only [Nat.zero_add] at e1 e4 e5 e6
 generalize ((((((wy.setCell ⟨X, 0, none⟩ c0).setCell ⟨X, 1, none⟩ c1).setCell ⟨X, 2, none⟩ c2).setCell ⟨X, 3, none⟩ c3).setCell ⟨X, 4, none⟩ c4).setCell ⟨X, 5, none⟩ c5) = wz at *
 have lo := h.lo
 have hi := h.hi
 refine ⟨⟨gg.os.trans h.g.os, gg.tape.trans h.g.tape, gg.output.trans h.g.output, Nat.le_trans h.g.size gg.size, fun k hk hne => (e5 k (by omega)).trans (h.g.block k hk hne)⟩, lo, by omega, (e5 _ (by omega)).trans h.vb, (e5 _ (by omega)).trans h.rb, e4, V.lies_keep (fun h => h) (fun x hx => e5 x ?_) (fun x hx => ?_) _ h.ly, fun x hx => ?_, bb⟩
 ·rcases hx with hx | hx
  ·have := hS x hx; omega
  ·exact hx.2.1
 ·rcases hx with hx | hx
  ·exact .inl hx
  ·exact .inr ⟨hx.1, by have := hx.2.2; omega⟩
 ·obtain ⟨W0, W1, b0, b1, d, sz, hb⟩ := h.lf x hx
  exact ⟨W0, W1, b0, b1, d, by omega, fun b hb' => (e5 b (hb b hb').2).trans (hb b hb').1⟩
theorem fin_of_end {S : Nat → Prop} {G : Nat} {D : V → World → World → Prop} {w wz wv : World} {X : Nat} {y z : V} {rx : Option V} {es ds : List Value} {vb : Obj} (hS : ∀ b, S b → b < w.heap.size) (hG : G < w.heap.size) (h : EndF S G D w wz X y rx es vb) (bv : Below wz.heap.size wz wv) (hz : z.lies false wv (OrNew (fun x => S x ∨ (w.heap.size + 2 ≤ x ∧ x < wz.heap.size)) wz wv) ds) (er : Int) (u0 u1 u2 u3 u4 u5 : Value) :
 WkPost (z, er, rx) S G D w (.returned (.tuple #[.agg ds.toArray, .int .i64 er])) ((((((wv.setCell ⟨w.heap.size + 1, 0, none⟩ u0).setCell ⟨w.heap.size + 1, 1, none⟩ u1).setCell ⟨w.heap.size + 1, 2, none⟩ u2).setCell ⟨w.heap.size + 1, 3, none⟩ u3).setCell ⟨w.heap.size + 1, 4, none⟩ u4).setCell ⟨w.heap.size + 1, 5, none⟩ u5) := by
 have hot : ∀ x, x ≠ w.heap.size + 1 → ((((((wv.setCell ⟨w.heap.size + 1, 0, none⟩ u0).setCell ⟨w.heap.size + 1, 1, none⟩ u1).setCell ⟨w.heap.size + 1, 2, none⟩ u2).setCell ⟨w.heap.size + 1, 3, none⟩ u3).setCell ⟨w.heap.size + 1, 4, none⟩ u4).setCell ⟨w.heap.size + 1, 5, none⟩ u5).heap[x]? = wv.heap[x]? := fun x hx => by
  repeat (rw [set_other hx])
 have bb : Below w.heap.size w wv → Below w.heap.size w ((((((wv.setCell ⟨w.heap.size + 1, 0, none⟩ u0).setCell ⟨w.heap.size + 1, 1, none⟩ u1).setCell ⟨w.heap.size + 1, 2, none⟩ u2).setCell ⟨w.heap.size + 1, 3, none⟩ u3).setCell ⟨w.heap.size + 1, 4, none⟩ u4).setCell ⟨w.heap.size + 1, 5, none⟩ u5) := fun hn => Below.set6 hn (by omega) 0 1 2 3 4 5 u0 u1 u2 u3 u4 u5
 have gg : wv.grownBy ((((((wv.setCell ⟨w.heap.size + 1, 0, none⟩ u0).setCell ⟨w.heap.size + 1, 1, none⟩ u1).setCell ⟨w.heap.size + 1, 2, none⟩ u2).setCell ⟨w.heap.size + 1, 3, none⟩ u3).setCell ⟨w.heap.size + 1, 4, none⟩ u4).setCell ⟨w.heap.size + 1, 5, none⟩ u5) (some (w.heap.size + 1)) := grown_set (grown_set (grown_set (grown_set (grown_set (grown_set (World.grownBy.refl wv _) 0 u0) 1 u1) 2 u2) 3 u3) 4 u4) 5 u5
 have hsz : ((((((wv.setCell ⟨w.heap.size + 1, 0, none⟩ u0).setCell ⟨w.heap.size + 1, 1, none⟩ u1).setCell ⟨w.heap.size + 1, 2, none⟩ u2).setCell ⟨w.heap.size + 1, 3, none⟩ u3).setCell ⟨w.heap.size + 1, 4, none⟩ u4).setCell ⟨w.heap.size + 1, 5, none⟩ u5).heap.size = wv.heap.size := by simp only [size_set1]
 generalize ((((((wv.setCell ⟨w.heap.size + 1, 0, none⟩ u0).setCell ⟨w.heap.size + 1, 1, none⟩ u1).setCell ⟨w.heap.size + 1, 2, none⟩ u2).setCell ⟨w.heap.size + 1, 3, none⟩ u3).setCell ⟨w.heap.size + 1, 4, none⟩ u4).setCell ⟨w.heap.size + 1, 5, none⟩ u5) = wf at *
 have s1 := h.g.size
 have s2 := bv.size
 have lo := h.lo
 have hi := h.hi
 refine ⟨ds, rfl, V.lies_keep (fun h => h) (fun x hx => hot x ?_) (fun x hx => ?_) _ hz, ⟨gg.os.trans (bv.os.trans h.g.os), gg.tape.trans (bv.tape.trans h.g.tape), gg.output.trans (bv.output.trans h.g.output), by omega, fun k hk hne => (hot k (by omega)).trans ((bv.block k (by omega)).trans (h.g.block k hk hne))⟩, fun x hx => ?_, fun hn => bb ((h.nn hn).trans (bv.mono (h.nn hn).size))⟩
 ·rcases hx with (hx | hx) | hx
  ·have := hS x hx; omega
  ·have := hx.1; omega
  ·have := hx.1; omega
 ·rcases hx with (hx | hx) | hx
  ·exact .inl hx
  ·exact .inr ⟨by have := hx.1; omega, by have := hx.2; omega⟩
  ·exact .inr ⟨by have := hx.1; omega, by have := hx.2; omega⟩
 ·obtain ⟨W0, W1, b0, b1, d, sz, hb⟩ := h.lf x hx
  refine ⟨W0, W1, b0, d, by omega, fun b hb' => ?_⟩
  have hbz : b < wz.heap.size ∧ b ≠ w.heap.size + 1 := by
   rcases hb' with h | h | h
   ·have := hS b h; exact ⟨by omega, by omega⟩
   ·exact ⟨by omega, by omega⟩
   ·have h1 := h.1; have h2 := h.2; exact ⟨by omega, by omega⟩
  exact (hot b hbz.2).trans ((bv.block b hbz.1).trans (hb b hb'))
end Go.Proofs.YtgnofbigggmilaaGreatDoor
