/- joined: WlkP WlkA -/
import Derived.Test.YtgnofbigggmilaaGreatDoorRepA
/- pointer.walk. -/
set_option linter.unusedSimpArgs false
set_option linter.unusedVariables false
namespace Go.Proofs.YtgnofbigggmilaaGreatDoor
open Go.RowKit Go.Lib
/-- what a walk answers: the value, the error's number, and what was found -/
def wkV (F : V → V × Int) : V → List ByteArray → V × Int × Option V
  | v, [] => ((F v).1, (F v).2, some v)
  | v, t :: ts => if (ledF v t).2 = 0 then (if (wkV F (kid v (ledF v t).1) ts).2.1 = 0 then (replV v (ledF v t).1 (wkV F (kid v (ledF v t).1) ts).1, 0, (wkV F (kid v (ledF v t).1) ts).2.2) else (nullV, (wkV F (kid v (ledF v t).1) ts).2.1, (wkV F (kid v (ledF v t).1) ts).2.2)) else (nullV, (ledF v t).2, none)
/-- what was there is still there but for one block -/
def DoC (f : Nat) (cap : Value) (F : V → V × Int) (S : Nat → Prop) (G : Nat) (D : V → World → World → Prop) (w : World) : Prop := ∀ (W : World) (x : V) (cs : List Value), Below w.heap.size w W → x.wt ≤ 1114112 → allG x → x.lies false W S cs → Calls Tryz.prog f #[.agg cs.toArray, cap] W (fun e W' => ∃ ds : List Value, e = .returned (.tuple #[.agg ds.toArray, .int .i64 (F x).2]) ∧ (F x).1.lies false W' (OrNew S W W') ds ∧ W.grownBy W' (some G) ∧ D x W W')
theorem DoC.below {f : Nat} {cap : Value} {F : V → V × Int} {S : Nat → Prop} {G : Nat} {D : V → World → World → Prop} {w W : World} (h : DoC f cap F S G D w) (hb : Below w.heap.size w W) : DoC f cap F S G D W := fun W' x cs b' hwx hga hx => h W' x cs (hb.trans (b'.mono hb.size)) hwx hga hx
/-- what the call of the function handed in left, and what has stayed of it -/
def Left (x : V) (S : Nat → Prop) (G : Nat) (D : V → World → World → Prop) (w w' : World) : Prop := ∃ W0 W1, Below w.heap.size w W0 ∧ D x W0 W1 ∧ W1.heap.size ≤ w'.heap.size ∧ ∀ b, (S b ∨ b = G ∨ New W0 W1 b) → w'.heap[b]? = W1.heap[b]?
def WkPost (r : V × Int × Option V) (S : Nat → Prop) (G : Nat) (D : V → World → World → Prop) (w : World) (e : Ending) (w' : World) : Prop :=
  ∃ cs : List Value, e = .returned (.tuple #[.agg cs.toArray, .int .i64 r.2.1]) ∧ r.1.lies false w' (OrNew S w w') cs ∧ w.grownBy w' (some G) ∧ (∀ x, r.2.2 = some x → Left x S G D w w') ∧ (r.2.2 = none → Below w.heap.size w w')
theorem allGL_get : ∀ {l : List V}, allGL l → ∀ (j : Nat) (h : j < l.length), allG l[j]
  | [], _, j, h => by simp at h
  | x :: t, ha, 0, h => by rw [allGL] at ha; exact ha.1
  | x :: t, ha, j + 1, h => by rw [allGL] at ha; exact allGL_get ha.2 j (by simpa using h)
theorem allGM_get : ∀ {l : List Mem}, allGM l → ∀ (j : Nat) (h : j < l.length), allG (l[j]).2
  | [], _, j, h => by simp at h
  | (_, x) :: t, ha, 0, h => by rw [allGM] at ha; exact ha.1
  | (_, x) :: t, ha, j + 1, h => by rw [allGM] at ha; exact allGM_get ha.2 j (by simpa using h)
theorem allG_srt {v : V} (h : allG v) : Srt (memsOf v) := by
  obtain ⟨k, b, i, s, l, m⟩ := v
  rw [allG] at h
  have hg := h.1
  simp only [goodB, Bool.and_eq_true] at hg
  exact srt_rise hg.2
theorem allG_kid {v : V} {j : Nat} (h : allG v) (hj : kidAt v j) : allG (kid v j) := by
  obtain ⟨k, b, i, s, l, m⟩ := v
  rw [allG] at h
  rcases hj with ⟨hk, hj⟩ | ⟨hk, hj⟩
  · have hk' : k = 4 := hk
    subst hk'
    have hj' : j < l.length := hj
    show allG (l.getD j nullV)
    rw [List.getD_eq_getElem?_getD, List.getElem?_eq_getElem hj']
    exact allGL_get h.2.1 j hj'
  · have hk' : k = 5 := hk
    subst hk'
    have hj' : j < m.length := hj
    show allG (m.getD j (⟨#[]⟩, nullV)).2
    rw [List.getD_eq_getElem?_getD, List.getElem?_eq_getElem hj']
    exact allGM_get h.2.2 j hj'
theorem kid_wt {v : V} {j : Nat} (hj : kidAt v j) : (kid v j).wt ≤ v.wt := by
  obtain ⟨k, b, i, s, l, m⟩ := v
  rcases hj with ⟨hk, hj⟩ | ⟨hk, hj⟩
  · have hk' : k = 4 := hk
    subst hk'
    have hj' : j < l.length := hj
    show (l.getD j nullV).wt ≤ _
    rw [List.getD_eq_getElem?_getD, List.getElem?_eq_getElem hj', V.wt]
    have := wtL_mem (List.getElem_mem hj')
    simp only [Option.getD_some]; omega
  · have hk' : k = 5 := hk
    subst hk'
    have hj' : j < m.length := hj
    show (m.getD j (⟨#[]⟩, nullV)).2.wt ≤ _
    rw [List.getD_eq_getElem?_getD, List.getElem?_eq_getElem hj', V.wt]
    have := wtM_mem (List.getElem_mem hj')
    simp only [Option.getD_some]; omega
theorem grown_below {w w' : World} {G : Nat} (h : Below w.heap.size w w') : w.grownBy w' (some G) := ⟨h.os, h.tape, h.output, h.size, fun k hk _ => h.block k hk⟩
/-- six stores into a box of the call's own, behind the function's call -/
theorem box_end {w W0 W1 : World} {x y : V} {S : Nat → Prop} {G : Nat} {D : V → World → World → Prop} {ds : List Value} (B0 : Below w.heap.size w W0) (hM : w.heap.size + 1 < W0.heap.size) (hS : ∀ b, S b → b < w.heap.size) (hG : G < w.heap.size) (hy : y.lies false W1 (OrNew S W0 W1) ds) (hg : W0.grownBy W1 (some G)) (hD : D x W0 W1) (i1 i2 i3 i4 i5 i6 : Nat) (u1 u2 u3 u4 u5 u6 : Value) :
    y.lies false ((((((W1.setCell ⟨w.heap.size + 1, i1, none⟩ u1).setCell ⟨w.heap.size + 1, i2, none⟩ u2).setCell ⟨w.heap.size + 1, i3, none⟩ u3).setCell ⟨w.heap.size + 1, i4, none⟩ u4).setCell ⟨w.heap.size + 1, i5, none⟩ u5).setCell ⟨w.heap.size + 1, i6, none⟩ u6) (OrNew S w ((((((W1.setCell ⟨w.heap.size + 1, i1, none⟩ u1).setCell ⟨w.heap.size + 1, i2, none⟩ u2).setCell ⟨w.heap.size + 1, i3, none⟩ u3).setCell ⟨w.heap.size + 1, i4, none⟩ u4).setCell ⟨w.heap.size + 1, i5, none⟩ u5).setCell ⟨w.heap.size + 1, i6, none⟩ u6)) ds ∧
    w.grownBy ((((((W1.setCell ⟨w.heap.size + 1, i1, none⟩ u1).setCell ⟨w.heap.size + 1, i2, none⟩ u2).setCell ⟨w.heap.size + 1, i3, none⟩ u3).setCell ⟨w.heap.size + 1, i4, none⟩ u4).setCell ⟨w.heap.size + 1, i5, none⟩ u5).setCell ⟨w.heap.size + 1, i6, none⟩ u6) (some G) ∧
    Left x S G D w ((((((W1.setCell ⟨w.heap.size + 1, i1, none⟩ u1).setCell ⟨w.heap.size + 1, i2, none⟩ u2).setCell ⟨w.heap.size + 1, i3, none⟩ u3).setCell ⟨w.heap.size + 1, i4, none⟩ u4).setCell ⟨w.heap.size + 1, i5, none⟩ u5).setCell ⟨w.heap.size + 1, i6, none⟩ u6) := by
  have hsz : ((((((W1.setCell ⟨w.heap.size + 1, i1, none⟩ u1).setCell ⟨w.heap.size + 1, i2, none⟩ u2).setCell ⟨w.heap.size + 1, i3, none⟩ u3).setCell ⟨w.heap.size + 1, i4, none⟩ u4).setCell ⟨w.heap.size + 1, i5, none⟩ u5).setCell ⟨w.heap.size + 1, i6, none⟩ u6).heap.size = W1.heap.size := by simp only [size_set1]
  have hot : ∀ x, x ≠ w.heap.size + 1 → ((((((W1.setCell ⟨w.heap.size + 1, i1, none⟩ u1).setCell ⟨w.heap.size + 1, i2, none⟩ u2).setCell ⟨w.heap.size + 1, i3, none⟩ u3).setCell ⟨w.heap.size + 1, i4, none⟩ u4).setCell ⟨w.heap.size + 1, i5, none⟩ u5).setCell ⟨w.heap.size + 1, i6, none⟩ u6).heap[x]? = W1.heap[x]? := fun x hx => by
    repeat (rw [set_other hx])
  have hgs : W1.grownBy ((((((W1.setCell ⟨w.heap.size + 1, i1, none⟩ u1).setCell ⟨w.heap.size + 1, i2, none⟩ u2).setCell ⟨w.heap.size + 1, i3, none⟩ u3).setCell ⟨w.heap.size + 1, i4, none⟩ u4).setCell ⟨w.heap.size + 1, i5, none⟩ u5).setCell ⟨w.heap.size + 1, i6, none⟩ u6) (some (w.heap.size + 1)) := grown_set (grown_set (grown_set (grown_set (grown_set (grown_set (World.grownBy.refl W1 _) i1 u1) i2 u2) i3 u3) i4 u4) i5 u5) i6 u6
  generalize ((((((W1.setCell ⟨w.heap.size + 1, i1, none⟩ u1).setCell ⟨w.heap.size + 1, i2, none⟩ u2).setCell ⟨w.heap.size + 1, i3, none⟩ u3).setCell ⟨w.heap.size + 1, i4, none⟩ u4).setCell ⟨w.heap.size + 1, i5, none⟩ u5).setCell ⟨w.heap.size + 1, i6, none⟩ u6) = Wf at *
  have hs0 := B0.size
  have hs1 := hg.size
  refine ⟨V.lies_keep (fun h => h) (fun z hz => hot z ?_) (fun z hz => ?_) _ hy, ⟨?_, ?_, ?_, ?_, fun z hz hne => ?_⟩, W0, W1, B0, hD, by omega, fun z hz => hot z ?_⟩
  · rcases hz with hz | hz
    · have := hS z hz; omega
    · have := hz.1; omega
  · rcases hz with hz | hz
    · exact .inl hz
    · exact .inr ⟨by have := hz.1; omega, by have := hz.2; omega⟩
  · exact hgs.os.trans (hg.os.trans B0.os)
  · exact hgs.tape.trans (hg.tape.trans B0.tape)
  · exact hgs.output.trans (hg.output.trans B0.output)
  · omega
  · rw [hot z (by omega), hg.block z (by omega) hne, B0.block z hz]
  · rcases hz with hz | hz | hz
    · have := hS z hz; omega
    · omega
    · have := hz.1; omega
end Go.Proofs.YtgnofbigggmilaaGreatDoor
/- pointer.walk. -/
namespace Go.Proofs.YtgnofbigggmilaaGreatDoor
open Go.RowKit Go.Lib
/-- tokens that lie in memory, with their room -/
def TokAt (w : World) (tv : Value) (ts : List ByteArray) : Prop := (ts = [] ∧ ∃ a c, tv = .slice a 0 c) ∨ (0 < ts.length ∧ ∃ g o c, tv = .slice (some ⟨g, o, none⟩) ts.length c ∧ ts.length ≤ c ∧ g < w.heap.size ∧ ∀ j (h : j < ts.length), w.cell? ⟨g, o + j, none⟩ = some (.string ts[j]))
theorem TokAt.below {w w' : World} {tv : Value} {ts : List ByteArray} (h : TokAt w tv ts) (hb : Below w.heap.size w w') : TokAt w' tv ts := by
  rcases h with h | ⟨h0, g, o, c, e, hc, hg, hr⟩
  · exact .inl h
  · exact .inr ⟨h0, g, o, c, e, hc, Nat.lt_of_lt_of_le hg hb.size, fun j hj => (hb.cell (p := ⟨g, o + j, none⟩) hg).trans (hr j hj)⟩
theorem TokAt.of_lies {w : World} {tv : Value} {ts : List ByteArray} (h : LiesS w tv ts) : TokAt w tv ts := by
  cases ts with
  | nil => obtain ⟨⟨a, c, e⟩, _⟩ := h; exact .inl ⟨rfl, a, c, e⟩
  | cons t ts => obtain ⟨g, o, c, e, hle, hg, hc⟩ := h.2 (by simp); exact .inr ⟨by simp, g, o, c, e, hle, hg, hc⟩
set_option maxHeartbeats 1600000 in
set_option maxRecDepth 100000 in
theorem walk_nil (f : Nat) (cap : Value) (F : V → V × Int) (S : Nat → Prop) (G : Nat) (D : V → World → World → Prop) (eg : ∀ args w, (callFunc f args).run Tryz.prog w = .ok (.enter f args) w) (v : V) (cs : List Value) (tv : Value) (w : World) (hv : v.lies false w S cs) (hS : ∀ b, S b → b < w.heap.size) (hG : G < w.heap.size) (hwt : v.wt ≤ 1114112) (hga : allG v) (ht : TokAt w tv []) (hd : DoC f cap F S G D w) :
    Calls Tryz.prog 38 #[.agg cs.toArray, tv, .func (.func f) #[] #[cap]] w (WkPost (wkV F v []) S G D w) := by
  obtain ⟨ta, tc, rfl⟩ : ∃ a c, tv = .slice a 0 c := by
    rcases ht with ⟨_, h⟩ | ⟨h, _⟩
    · exact h
    · simp at h
  have HV := hmk hv
  obtain ⟨k, b, i, s, al, nl, cl, am, nm, cm, rfl⟩ := V.ten hv
  clear hv
  have B0 : Below w.heap.size w ((w.alloc (.cells #[.int .i64 k, .bool b, .int .i64 i, .string s, .slice al nl cl, .slice am nm cm] 25)).alloc (.cells #[.int .i64 0, .bool false, .int .i64 0, .string ⟨#[]⟩, .slice none 0 0, .slice none 0 0] 25)) := two_below w _ _
  have hz0 : ((w.alloc (.cells #[.int .i64 k, .bool b, .int .i64 i, .string s, .slice al nl cl, .slice am nm cm] 25)).alloc (.cells #[.int .i64 0, .bool false, .int .i64 0, .string ⟨#[]⟩, .slice none 0 0, .slice none 0 0] 25)).heap.size = w.heap.size + 2 := by rw [alloc_size, alloc_size]
  have h1 := alloc2_new w (.cells #[.int .i64 k, .bool b, .int .i64 i, .string s, .slice al nl cl, .slice am nm cm] 25) (.cells #[.int .i64 0, .bool false, .int .i64 0, .string ⟨#[]⟩, .slice none 0 0, .slice none 0 0] 25)
  have hc := hd ((w.alloc (.cells #[.int .i64 k, .bool b, .int .i64 i, .string s, .slice al nl cl, .slice am nm cm] 25)).alloc (.cells #[.int .i64 0, .bool false, .int .i64 0, .string ⟨#[]⟩, .slice none 0 0, .slice none 0 0] 25)) v _ B0 hwt hga (lies_below HV.out hS B0)
  clear hd ht
  go_enter Tryz.func38, Tryz.ntmps38
  go_wp2_with fail
  generalize ((w.alloc (.cells #[.int .i64 k, .bool b, .int .i64 i, .string s, .slice al nl cl, .slice am nm cm] 25)).alloc (.cells #[.int .i64 0, .bool false, .int .i64 0, .string ⟨#[]⟩, .slice none 0 0, .slice none 0 0] 25)) = w0 at *
  refine hc.mono ?_
  rintro e w1 ⟨ds, rfl, hy, hg, hD⟩
  obtain ⟨ek, eb, ei, es, eal, enl, ecl, eam, enm, ecm, rfl⟩ := V.ten hy
  have HE := hmk (box_end B0 (by omega) hS hG hy hg hD 0 1 2 3 4 5 (.int .i64 ek) (.bool eb) (.int .i64 ei) (.string es) (.slice eal enl ecl) (.slice eam enm ecm))
  have t1 := (hg.block (w.heap.size + 1) (by omega) (fun e => by have := Option.some.inj e; omega)).trans h1
  have z0 : w1.cell? ⟨w.heap.size + 1, 0, none⟩ = some (.int .i64 0) := by rw [cell_of_block t1]; rfl
  have z1 : w1.cell? ⟨w.heap.size + 1, 1, none⟩ = some (.bool false) := by rw [cell_of_block t1]; rfl
  have z2 : w1.cell? ⟨w.heap.size + 1, 2, none⟩ = some (.int .i64 0) := by rw [cell_of_block t1]; rfl
  have z3 : w1.cell? ⟨w.heap.size + 1, 3, none⟩ = some (.string ⟨#[]⟩) := by rw [cell_of_block t1]; rfl
  have z4 : w1.cell? ⟨w.heap.size + 1, 4, none⟩ = some (.slice none 0 0) := by rw [cell_of_block t1]; rfl
  have z5 : w1.cell? ⟨w.heap.size + 1, 5, none⟩ = some (.slice none 0 0) := by rw [cell_of_block t1]; rfl
  have rf := frozen_of_block t1
  clear hy hg hD hc t1 h1
  go_wp2_with fail
  (try simp only [Exit.inBlock, Exit.then])
  refine bodyPost_ret (v := .tuple #[.agg #[.int .i64 ek, .bool eb, .int .i64 ei, .string es, .slice eal enl ecl, .slice eam enm ecm], .int .i64 (F v).2]) ?_ rfl ?_
  rotate_left
  · exact ⟨[.int .i64 ek, .bool eb, .int .i64 ei, .string es, .slice eal enl ecl, .slice eam enm ecm], rfl, HE.out.1, HE.out.2.1, (fun x hx => by cases hx; exact HE.out.2.2), (fun h => by cases h)⟩
  · rw [results_cell_tmp rfl]
    go_simp
end Go.Proofs.YtgnofbigggmilaaGreatDoor
