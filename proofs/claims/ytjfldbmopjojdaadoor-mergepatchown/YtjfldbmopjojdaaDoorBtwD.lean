import Derived.Test.YtjfldbmopjojdaaDoorTogP
import Derived.Test.YtjfldbmopjojdaaDoorDfP
set_option linter.unusedSimpArgs false
set_option linter.unusedVariables false
namespace Go.Proofs.YtjfldbmopjojdaaDoor
open Go Go.RowKit Go.Lib Go.Shelf
def BwPost (low : Addr) (o : Option (List Mem)) (S : Nat → Prop) (w : World) (e : Ending) (w' : World) : Prop :=
 match o with
 | some ms => RpPost (mapV ms) S w e w'
 | none => e = .panicked [{ v := errV low, recovered := false }] ∧ Below w.heap.size w w'
structure DfG (low : Addr) (f : List Mem → List Mem → Option (List Mem)) (w : World) (S : Nat → Prop) (x : Pr) : Prop where
 k : x.key.size ≤ maxLen
 a : x.va.lies false w S x.a
 b : x.vb.lies false w S x.b
 oa : Ok x.va
 ob : Ok x.vb
 n : x.f = false → kindOf x.va = 0
 r : kindOf x.va = 5 → kindOf x.vb = 5 → ∀ (p q : Value) (W : World), x.a[5]? = some p → x.b[5]? = some q → Below w.heap.size w W → Calls Tryd.prog 56 #[p, q] W (BwPost low (f (memsOf x.va) (memsOf x.vb)) S W)
theorem round_skip {S : Nat → Prop} {M B : Nat} {sl : Value} {W We w6 : World} {ms : List Mem} (hMB : M < B) (hS : ∀ y, S y → y < M) (h6 : w6.heap.size = B) (hB : Below M w6 W) (acc : AccK S B ms sl W)
 (v1 : W.heap[M]? = some (.cells #[.int .i64 5, .bool false, .int .i64 0, .string ⟨#[]⟩, .slice none 0 0, sl] 25)) (hb : Below W.heap.size W We) :
 KeepsFrom B W We ∧ Kx B M W We ∧ ∃ sl', We.heap[M]? = some (.cells #[.int .i64 5, .bool false, .int .i64 0, .string ⟨#[]⟩, .slice none 0 0, sl'] 25) ∧ AccK S B ms sl' We ∧ Below M w6 We := by
 have hz := hB.size
 have hz2 := hb.size
 refine ⟨⟨hz2, fun k o hk ho' hc => (hb.block k (Array.getElem?_eq_some_iff.1 ho').1).trans ho'⟩, kx_of (hb.mono (by omega)), sl, (hb.block M (by omega)).trans v1, acc.keep (fun y hy => hb.block y ?_) hz2, hB.trans (hb.mono (by omega))⟩
 rcases hy with h | h
 ·have := hS y h; omega
 ·exact h.2
theorem nm_len {v : V} {R : Bool} {w : World} {S : Nat → Prop} {k i : Int} {b : Bool} {s : ByteArray} {al am : Option Addr} {nl cl nm cm : Nat} (h : v.lies R w S [.int .i64 k, .bool b, .int .i64 i, .string s, .slice al nl cl, .slice am nm cm]) : nm = (memsOf v).length := by
 obtain ⟨k', b', i', s', l', m'⟩ := v
 rw [V.lies] at h
 obtain ⟨_, _, _, _, _, _, _, _, e, _⟩ := h
 simp at e
 exact e.2.2.2.2.2.2.1
attribute [local go_sem] Oper.semAt_some
set_option maxHeartbeats 40000000 in
set_option maxRecDepth 100000 in
theorem btw_step (low : Addr) (f : List Mem → List Mem → Option (List Mem)) (S : Nat → Prop) (qa qb : List (Mem × List Value)) (aa ab : Option Addr) (ca cb ba oa bb ob : Nat) (w : World) (hT : Tb w) (hE : ErrAt low w) (hS : ∀ b, S b → b < w.heap.size) (haH : Headed aa qa.length ca ba oa) (hbH : Headed ab qb.length cb bb ob) (rowa : RowsOf w ba oa 7 (qa.map (fun q => q.2))) (rowb : RowsOf w bb ob 7 (qb.map (fun q => q.2)))
 (pma : ∀ q ∈ qa, PM w S q) (pmb : ∀ q ∈ qb, PM w S q) (insa : 0 < qa.length → S ba) (insb : 0 < qb.length → S bb) (hqa : qa.length ≤ 1114112) (hqb : qb.length ≤ 1114112) (HALL : ∀ x ∈ tgR qa qb, DfG low f w S x) :
 Calls Tryd.prog 56 #[.slice aa qa.length ca, .slice ab qb.length cb] w (BwPost low (stDs f (tgR qa qb)) S w) := by
 have hS1 : ∀ y, S y → y < w.heap.size + 1 := fun y hy => by have := hS y hy; omega
 have hz4 : ((w.alloc (.cells #[.int .i64 0, .bool false, .int .i64 0, .string ⟨#[]⟩, .slice none 0 0, .slice none 0 0] 25)).alloc (.cells #[.int .i64 5, .bool false, .int .i64 0, .string ⟨#[]⟩, .slice none 0 0, .slice none 0 0] 25)).heap.size = w.heap.size + 2 := by rw [alloc_size, alloc_size]
 have hr4 := alloc2_keep1 w (.cells #[.int .i64 0, .bool false, .int .i64 0, .string ⟨#[]⟩, .slice none 0 0, .slice none 0 0] 25) (.cells #[.int .i64 5, .bool false, .int .i64 0, .string ⟨#[]⟩, .slice none 0 0, .slice none 0 0] 25)
 have n4 := alloc2_new w (.cells #[.int .i64 0, .bool false, .int .i64 0, .string ⟨#[]⟩, .slice none 0 0, .slice none 0 0] 25) (.cells #[.int .i64 5, .bool false, .int .i64 0, .string ⟨#[]⟩, .slice none 0 0, .slice none 0 0] 25)
 have bw4 : Below w.heap.size w ((w.alloc (.cells #[.int .i64 0, .bool false, .int .i64 0, .string ⟨#[]⟩, .slice none 0 0, .slice none 0 0] 25)).alloc (.cells #[.int .i64 5, .bool false, .int .i64 0, .string ⟨#[]⟩, .slice none 0 0, .slice none 0 0] 25)) := two_below w _ _
 have HTE : Hid (Tb w ∧ ErrAt low w) := ⟨hT, hE⟩
 clear hT hE
 refine calls_of_wpOf Tryd.func56 rfl ?_
 simp only [Tryd.ntmps56, List.size_toArray, List.length_cons, List.length_nil, Nat.reduceAdd, Nat.reduceSub, Array.replicate_succ, Array.replicate_zero, List.push_toArray, List.append_toArray, List.nil_append, List.cons_append]
 refine wpOf_seq (wpOf_of_wpIn (n := 3) ?_)
 gi_wp2
 refine wpOf_seq (wpOf_of_wpIn (n := 3) ?_)
 gi_wp2
 refine wpOf_seq (wpOf_seq (wpOf_of_wpIn (n := 3) ?_))
 gi_wp2
 generalize ((w.alloc (.cells #[.int .i64 0, .bool false, .int .i64 0, .string ⟨#[]⟩, .slice none 0 0, .slice none 0 0] 25)).alloc (.cells #[.int .i64 5, .bool false, .int .i64 0, .string ⟨#[]⟩, .slice none 0 0, .slice none 0 0] 25)) = w4 at *
 refine ⟨trivial, (callsIn_wide.2 (together_any aa ab qa.length qb.length ca cb w4)).mono ?_⟩
 rintro e w6 ⟨rfl, hw6⟩
 rw [hz4]
 have b46 : Below w4.heap.size w4 w6 := by rw [hw6]; exact two_belowS w4 _ _
 have h6 : w6.heap.size = w.heap.size + 4 := by rw [hw6, alloc_size, alloc_size, hz4]
 have cA1 : w6.cell? ⟨w.heap.size + 2, 0, none⟩ = some (.slice aa qa.length ca) := by
  have h := (Below.heap_alloc (w4.alloc (.cells #[.slice aa qa.length ca] 23)) (.cells #[.slice ab qb.length cb] 23) w4.heap.size (by rw [alloc_size]; omega)).trans (heap_alloc_new w4 _)
  rw [← hw6, hz4] at h
  rw [cell_of_block h]; rfl
 have cA2 : w6.cell? ⟨w.heap.size + 3, 0, none⟩ = some (.slice ab qb.length cb) := by
  have h := heap_alloc_new (w4.alloc (.cells #[.slice aa qa.length ca] 23)) (.cells #[.slice ab qb.length cb] 23)
  rw [← hw6, alloc_size, hz4] at h
  rw [cell_of_block h]; rfl
 have v6 := (b46.block (w.heap.size + 1) (by omega)).trans n4
 have r6 := (b46.block w.heap.size (by omega)).trans hr4
 have bw6 := bw4.trans (b46.mono (by omega))
 clear hw6 b46 n4 hr4 bw4 hz4 w4
 have HS := tog_pan qa qb (tgR qa qb) rfl 3 (w.heap.size + 4) (w.heap.size + 1) (w.heap.size + 2) (w.heap.size + 3) ba oa bb ob ca cb aa ab w6 cA1 cA2 (by omega) (by omega) (by omega) (by omega) (by omega)
  (fun h => ⟨haH.at_.resolve_left (by omega), by have := hS ba (insa h); omega, by have := hS ba (insa h); omega⟩) (fun h => ⟨hbH.at_.resolve_left (by omega), by have := hS bb (insb h); omega, by have := hS bb (insb h); omega⟩)
  (rows_below hS insa rowa bw6) (rows_below hS insb rowb bw6) (by omega) (by omega) (pm_six pma) (pm_six pmb)
 gi_wp2
 refine wpOf_block ?_
 refine wpOf_range (ps := #[13, 14]) Tryd.func56 (gf := 64) (lb := #[.pointer (some ⟨w.heap.size + 2, 0, none⟩), .pointer (some ⟨w.heap.size + 3, 0, none⟩)]) rfl (enters_of Tryd.func64 (by kernel_rfl) rfl) HS (fun h k => h.trans k) (fun W l o o' hl h h1 h2 => kx_of (belowK_b (w := w6) (by omega) W l o o' hl h h1 h2)) (fun _ => rfl)
  (fun (pre : List Pr) (W : World) => ∃ ms sl, stDs f pre = some ms ∧ W.heap[w.heap.size + 1]? = some (.cells #[.int .i64 5, .bool false, .int .i64 0, .string ⟨#[]⟩, .slice none 0 0, sl] 25) ∧ AccK S (w.heap.size + 4) ms sl W ∧ Below (w.heap.size + 1) w6 W) (fun (ch : List PanicEntry) (pre : List Pr) (W : World) => ch = ([{ v := errV low, recovered := false }] : List PanicEntry) ∧ (∃ p x, pre = p ++ [x] ∧ stD f x = none) ∧ Below (w.heap.size + 1) w6 W) ?hI ⟨[], _, rfl, v6, AccK.nil S _ w6, Below.refl _ _⟩ (fun (x : Pr) (a : Act) (W : World) => ∃ Bx, w.heap.size + 4 ≤ Bx ∧ W.heap[Bx]? = some (.cells (x.a ++ x.b ++ [Value.bool x.f, Value.bool x.g]).toArray 73) ∧ a = { tmps := #[.slice aa qa.length ca, .slice ab qb.length cb, undef, undef, .pointer (some ⟨w.heap.size, 0, none⟩), .pointer (some ⟨w.heap.size + 1, 0, none⟩), .string x.key, .pointer (some ⟨Bx, 0, none⟩), undef, .agg #[.int .i64 5, .bool false, .int .i64 0, .string ⟨#[]⟩, .slice none 0 0, .slice none 0 0], .slice aa qa.length ca, .slice ab qb.length cb, .func (.func 64) #[] #[.pointer (some ⟨w.heap.size + 2, 0, none⟩), .pointer (some ⟨w.heap.size + 3, 0, none⟩)], .string x.key, .agg (x.a ++ x.b ++ [Value.bool x.f, Value.bool x.g]).toArray, undef, undef, undef, undef, undef, undef, undef, undef, undef, undef, undef, undef, undef, undef, undef, undef, undef, undef, undef, undef, undef, undef, undef, undef, undef, undef, undef, undef, undef, undef, undef, undef, undef, undef, undef, undef, undef, undef, undef, undef, undef, undef, undef, undef, undef, undef, undef, undef, undef, undef], defers := [] }) ?hAx ?assign ?body ?done ?pan
 case hI =>
  rintro pre A B row ⟨ms, sl, h0, h1, h2, h3⟩ hg hr
  have hz := h3.size
  exact ⟨ms, sl, h0, (hg.block _ (by omega) (fun h => by have := (hr _ h.symm).1; omega)).trans h1, h2.own (fun y hy => by have := hS y hy; omega) hg (fun r h => (hr r h).2), h3.grown hg (by omega) (fun q h => by have := (hr q h).1; omega)⟩
 case hAx =>
  rintro x a' _ A B row ⟨Bx, h1, h2, h3⟩ hg hr
  refine ⟨Bx, h1, (hg.block _ (Array.getElem?_eq_some_iff.1 h2).1 (fun h => ?_)).trans h2, h3⟩
  obtain ⟨_, o, h4, h5⟩ := hr _ h.symm
  rw [h2] at h4
  cases h4
  cases h5
 case assign =>
  rintro lp pre x rest W K hx ⟨ms, sl, hms, v1, acc, bW⟩ hK
  have hG := HALL x (by rw [hx]; simp)
  have hzW := bW.size
  obtain ⟨key, va, vb, xa, xb, xf, xg⟩ := x
  obtain ⟨yk, yb, yi, ys, yal, ynl, ycl, yam, ynm, ycm, ea⟩ := V.ten hG.a
  obtain ⟨zk, zb, zi, zs, zal, znl, zcl, zam, znm, zcm, eb⟩ := V.ten hG.b
  simp only at ea eb
  subst ea eb
  have hK' := hK { tmps := #[.slice aa qa.length ca, .slice ab qb.length cb, undef, undef, .pointer (some ⟨w.heap.size, 0, none⟩), .pointer (some ⟨w.heap.size + 1, 0, none⟩), .string key, .pointer (some ⟨W.heap.size, 0, none⟩), undef, .agg #[.int .i64 5, .bool false, .int .i64 0, .string ⟨#[]⟩, .slice none 0 0, .slice none 0 0], .slice aa qa.length ca, .slice ab qb.length cb, .func (.func 64) #[] #[.pointer (some ⟨w.heap.size + 2, 0, none⟩), .pointer (some ⟨w.heap.size + 3, 0, none⟩)], .string key, .agg #[.int .i64 yk, .bool yb, .int .i64 yi, .string ys, .slice yal ynl ycl, .slice yam ynm ycm, .int .i64 zk, .bool zb, .int .i64 zi, .string zs, .slice zal znl zcl, .slice zam znm zcm, .bool xf, .bool xg], undef, undef, undef, undef, undef, undef, undef, undef, undef, undef, undef, undef, undef, undef, undef, undef, undef, undef, undef, undef, undef, undef, undef, undef, undef, undef, undef, undef, undef, undef, undef, undef, undef, undef, undef, undef, undef, undef, undef, undef, undef, undef, undef, undef, undef, undef, undef, undef, undef, undef], defers := [] } (W.alloc (.cells #[.int .i64 yk, .bool yb, .int .i64 yi, .string ys, .slice yal ynl ycl, .slice yam ynm ycm, .int .i64 zk, .bool zb, .int .i64 zi, .string zs, .slice zal znl zcl, .slice zam znm zcm, .bool xf, .bool xg] 73)) ((KeepsOthers.alloc _ _).from _) (kx_of ((Below.refl _ W).alloc (by omega) _)) ⟨ms, sl, hms, (Below.heap_alloc W _ _ (by omega)).trans v1, acc.keep (fun y hy => Below.heap_alloc W _ y (by rcases hy with hy | hy <;> first | omega | (have := hS y hy; omega))) (by rw [alloc_size]; omega), bW.alloc (by omega) _⟩ ⟨W.heap.size, by omega, heap_alloc_new W _, rfl⟩
  clear hK
  simp only [Pr.enc]
  gi_wp2
  exact hK'
 case done =>
  rintro W ⟨ms, sl, hms, v1, acc, bW⟩ hK
  have hzW := bW.size
  generalize hDD : w6.heap.size = D at hK ⊢
  obtain ⟨sa, sc, rfl⟩ := acc.len
  have r1 := (bW.block w.heap.size (by omega)).trans r6
  have FP := fin_put r1 (by omega) hK (.int .i64 5) (.bool false) (.int .i64 0) (.string ⟨#[]⟩) (.slice none 0 0) (.slice sa ms.length sc)
  have HE := hmk (fin_at hS (Nat.le_refl _) (by omega) (by omega) bw6 h6 bW acc (by omega) hK FP.2)
  have HR : Hid (stDs f (tgR qa qb) = some ms) := hms
  clear hms
  generalize hnn : ms.length = nn at *
  obtain ⟨cv0, cv1, cv2, cv3, cv4, cv5⟩ := sixC v1
  obtain ⟨cr0, cr1, cr2, cr3, cr4, cr5⟩ := sixC r1
  have fr := frozen_of_block r1
  clear acc v1
  refine wpOf_of_wpIn (n := 3) ?_
  gi_wp2
  refine ⟨by simp, .inl ⟨_, _, rfl, run_takeDeferred FP.1, ?_⟩⟩
  have cf0 := (cell_of_block FP.2.g_ 0)
  have cf1 := (cell_of_block FP.2.g_ 1)
  have cf2 := (cell_of_block FP.2.g_ 2)
  have cf3 := (cell_of_block FP.2.g_ 3)
  have cf4 := (cell_of_block FP.2.g_ 4)
  have cf5 := (cell_of_block FP.2.g_ 5)
  refine ⟨.agg #[.int .i64 5, .bool false, .int .i64 0, .string ⟨#[]⟩, .slice none 0 0, .slice sa nn sc], ?_, ?_⟩
  ·rw [results_cell1 rfl]
   go_simp
  ·show BwPost low (stDs f (tgR qa qb)) S w _ _
   rw [HR.out]
   exact ⟨_, rfl, HE.out.1, HE.out.2⟩
 case pan =>
  rintro ch pre rest W hx ⟨rfl, ⟨p, x, rfl, hsD⟩, bW⟩ hK
  have hzW := bW.size
  generalize hDD : w6.heap.size = D at hK ⊢
  have HR : stDs f (tgR qa qb) = none := by rw [hx, List.append_assoc]; exact stDs_none hsD
  have hbf : Below w.heap.size w (W.putObj D (.deferred none)) := by
   have := bw6.size
   exact ⟨bW.os.trans bw6.os, bW.tape.trans bw6.tape, bW.output.trans bw6.output, by rw [(put_four W D _).1]; omega, fun k hk => (World.putObj_heap_other (by omega)).trans ((bW.block k (by omega)).trans (bw6.block k hk))⟩
  refine ⟨by simp, .inl ⟨_, _, rfl, run_takeDeferred hK, ?_⟩⟩
  show BwPost low (stDs f (tgR qa qb)) S w (.panicked [{ v := errV low, recovered := false }]) _
  rw [HR]
  exact ⟨rfl, hbf⟩
 case body =>
  rintro lp pre x rest a' W hx hlp ⟨r, hr⟩ ⟨ms, sl, hms, v1, acc, bW⟩ ⟨Bx, hBx, bX, rfl⟩
  have hG := HALL x (by rw [hx]; simp)
  have hzW := bW.size
  have hlt : lp < W.heap.size := (Array.getElem?_eq_some_iff.1 hr).1
  obtain ⟨key, va, vb, xa, xb, xf, xg⟩ := x
  obtain ⟨yk, yb, yi, ys, yal, ynl, ycl, yam, ynm, ycm, ea⟩ := V.ten hG.a
  obtain ⟨zk, zb, zi, zs, zal, znl, zcl, zam, znm, zcm, eb⟩ := V.ten hG.b
  simp only at ea eb
  subst ea eb
  have hka : kindOf va = yk := kind_lies hG.a
  have hkb : kindOf vb = zk := kind_lies hG.b
  simp only [List.cons_append, List.nil_append] at bX ⊢
  have hBxs : Bx < W.heap.size := (Array.getElem?_eq_some_iff.1 bX).1
  have bwW : Below w.heap.size w W := bw6.trans (bW.mono (by omega))
  have hkW : ∀ y, S y → W.heap[y]? = w.heap[y]? := fun y hy => bwW.block y (hS y hy)
  have acc0 := acc
  have hT := HTE.out.1
  have hE := HTE.out.2
  have hplen : pre.length ≤ 3000000 := by
   have q2 := tg_len qa qb
   have q3 := congrArg List.length hx
   rw [List.length_append] at q3
   omega
  have hmlen := stDs_len hms
  obtain ⟨ps, sa, sc, rfl, eps, ho, hp⟩ := acc.open
  subst eps
  have hlen : ps.length ≤ 3000000 := by
   rw [List.length_map] at hmlen
   omega
  clear acc hplen hmlen
  have hown : ∀ r, (Value.slice sa ps.length sc).ownBlock = some r → w.heap.size + 4 ≤ r ∧ r < W.heap.size := World.ownsRow.lt ho
  have c3 : W.cell? ⟨w.heap.size + 1, 5, none⟩ = some (.slice sa ps.length sc) := by rw [cell_of_block v1]; rfl
  have hbz : Below W.heap.size W (W.alloc (.cells #[.int .i64 0, .bool false, .int .i64 0, .string ⟨#[]⟩, .slice none 0 0, .slice none 0 0] 25)) := one_belowG _ _
  have hsz : (W.alloc (.cells #[.int .i64 0, .bool false, .int .i64 0, .string ⟨#[]⟩, .slice none 0 0, .slice none 0 0] 25)).heap.size = W.heap.size + 1 := alloc_size _ _
  have hst := heap_alloc_new W (.cells #[.int .i64 0, .bool false, .int .i64 0, .string ⟨#[]⟩, .slice none 0 0, .slice none 0 0] 25)
  have bXz := (hbz.block Bx hBxs).trans bX
  obtain ⟨x0, x1, x2, x3, x4, x5, x6, x7, x8, x9, x10, x11, x12, x13⟩ := cells14 bXz
  have hBo : (Value.slice sa ps.length sc).ownBlock ≠ some W.heap.size := fun h => by have := (hown _ h).2; omega
  cases xg
  ·have hu : nullV.lies false (W.alloc (.cells #[.int .i64 0, .bool false, .int .i64 0, .string ⟨#[]⟩, .slice none 0 0, .slice none 0 0] 25)) (fun y => S y ∨ (W.heap.size ≤ y ∧ y < (W.alloc (.cells #[.int .i64 0, .bool false, .int .i64 0, .string ⟨#[]⟩, .slice none 0 0, .slice none 0 0] 25)).heap.size)) [.int .i64 0, .bool false, .int .i64 0, .string ⟨#[]⟩, .slice none 0 0, .slice none 0 0] := null_lies _ _
   have hsD : stD f (⟨key, va, vb, [.int .i64 yk, .bool yb, .int .i64 yi, .string ys, .slice yal ynl ycl, .slice yam ynm ycm], [.int .i64 zk, .bool zb, .int .i64 zi, .string zs, .slice zal znl zcl, .slice zam znm zcm], xf, false⟩ : Pr) = some [(key, nullV)] := rfl
   have hfin : ∀ We, (KeepsFrom (w.heap.size + 4) W We ∧ Kx (w.heap.size + 4) (w.heap.size + 1) W We ∧ ∃ sl', We.heap[w.heap.size + 1]? = some (.cells #[.int .i64 5, .bool false, .int .i64 0, .string ⟨#[]⟩, .slice none 0 0, sl'] 25) ∧ AccK S (w.heap.size + 4) (ps.map (fun q => q.1) ++ [(key, nullV)]) sl' We ∧ Below (w.heap.size + 1) w6 We) → KeepsFrom w6.heap.size W We ∧ Kx (w.heap.size + 4) (w.heap.size + 1) W We ∧ ∃ ms sl, stDs f (pre ++ [(⟨key, va, vb, [.int .i64 yk, .bool yb, .int .i64 yi, .string ys, .slice yal ynl ycl, .slice yam ynm ycm], [.int .i64 zk, .bool zb, .int .i64 zi, .string zs, .slice zal znl zcl, .slice zam znm zcm], xf, false⟩ : Pr)]) = some ms ∧ We.heap[w.heap.size + 1]? = some (.cells #[.int .i64 5, .bool false, .int .i64 0, .string ⟨#[]⟩, .slice none 0 0, sl] 25) ∧ AccK S (w.heap.size + 4) ms sl We ∧ Below (w.heap.size + 1) w6 We := fun We h => by
    rw [h6]
    obtain ⟨a1, a2, sl', a3, a4, a5⟩ := h
    exact ⟨a1, a2, _, sl', stDs_snoc hms hsD, a3, a4, a5⟩
   clear hka hkb
   gi_wp2
   clear x0 x1 x2 x3 x4 x5 x6 x7 x8 x9 x10 x11 x12 x13 bXz
   have hbk := hbz
   generalize (W.alloc (.cells #[.int .i64 0, .bool false, .int .i64 0, .string ⟨#[]⟩, .slice none 0 0, .slice none 0 0] 25)) = Wk at *
   have hkz : W.heap.size < Wk.heap.size := by omega
   clear hsz
   refine round_held_drew (S := fun X => X.heap[W.heap.size]? = some (.cells #[.int .i64 0, .bool false, .int .i64 0, .string ⟨#[]⟩, .slice none 0 0, .slice none 0 0] 25)) (by kernel_rfl) (by kernel_rfl) (by rintro ⟨_, _, h⟩; exact h) hst (fun hHeld => ?_)
   (refine tjA 0 ?_; (try simp only [Act.put, zA, zB, zC]))
   (refine tjA 2 ?_; (try simp only [Act.put, zA, zB, zC]))
   (refine tkA 3 ?_ ?_ ?_; rotate_left 1; (intro W0 hSw; (have z0_ : W0.cell? ⟨W.heap.size, 0, none⟩ = some (.int .i64 0) := (by rw [cell_of_block hSw]; rfl); have z1_ : W0.cell? ⟨W.heap.size, 1, none⟩ = some (.bool false) := (by rw [cell_of_block hSw]; rfl); have z2_ : W0.cell? ⟨W.heap.size, 2, none⟩ = some (.int .i64 0) := (by rw [cell_of_block hSw]; rfl); have z3_ : W0.cell? ⟨W.heap.size, 3, none⟩ = some (.string ⟨#[]⟩) := (by rw [cell_of_block hSw]; rfl); have z4_ : W0.cell? ⟨W.heap.size, 4, none⟩ = some (.slice none 0 0) := (by rw [cell_of_block hSw]; rfl); have z5_ : W0.cell? ⟨W.heap.size, 5, none⟩ = some (.slice none 0 0) := (by rw [cell_of_block hSw]; rfl)); go_simp; (try with_reducible rfl)); (try simp only [Act.put, zA, zB, zC]))
   (refine tjA 4 ?_; (try simp only [Act.put, zA, zB, zC]))
   have hbe : Below Wk.heap.size Wk (Wk.alloc (.cells #[.string ⟨#[]⟩, .int .i64 0, .bool false, .int .i64 0, .string ⟨#[]⟩, .slice none 0 0, .slice none 0 0] 57)).drew := (one_belowG Wk _).drew
   have hb2 : Below W.heap.size W (Wk.alloc (.cells #[.string ⟨#[]⟩, .int .i64 0, .bool false, .int .i64 0, .string ⟨#[]⟩, .slice none 0 0, .slice none 0 0] 57)).drew := hbk.trans (hbe.mono (by omega))
   have hz2 : (Wk.alloc (.cells #[.string ⟨#[]⟩, .int .i64 0, .bool false, .int .i64 0, .string ⟨#[]⟩, .slice none 0 0, .slice none 0 0] 57)).drew.heap.size = Wk.heap.size + 1 := alloc_size _ _
   have nb : (Wk.alloc (.cells #[.string ⟨#[]⟩, .int .i64 0, .bool false, .int .i64 0, .string ⟨#[]⟩, .slice none 0 0, .slice none 0 0] 57)).drew.heap[Wk.heap.size]? = some (.cells #[.string ⟨#[]⟩, .int .i64 0, .bool false, .int .i64 0, .string ⟨#[]⟩, .slice none 0 0, .slice none 0 0] 57) := heap_alloc_new Wk _
   have hX2 := (hbe.block W.heap.size (by omega)).trans hst
   have hv2 := (hb2.block (w.heap.size + 1) (by omega)).trans v1
   have ho2 := ho.below hb2
   unfold OwnC at ho2
   rw [List.length_map] at ho2
   have hx2 : PM (Wk.alloc (.cells #[.string ⟨#[]⟩, .int .i64 0, .bool false, .int .i64 0, .string ⟨#[]⟩, .slice none 0 0, .slice none 0 0] 57)).drew (fun y => S y ∨ (W.heap.size ≤ y ∧ y < (Wk.alloc (.cells #[.string ⟨#[]⟩, .int .i64 0, .bool false, .int .i64 0, .string ⟨#[]⟩, .slice none 0 0, .slice none 0 0] 57)).drew.heap.size)) ((key, nullV), [.string key, .int .i64 0, .bool false, .int .i64 0, .string ⟨#[]⟩, .slice none 0 0, .slice none 0 0]) := ⟨_, rfl, hG.k, V.lies_keep (fun h => h) (fun y hy => hbe.block y (by rcases hy with hy | hy <;> first | omega | (have := hS y hy; omega))) (fun y hy => hy.elim .inl (fun h => .inr ⟨h.1, by omega⟩)) _ hu⟩
   have ck : Wk.cell? ⟨w.heap.size + 1, 5, none⟩ = some (.slice sa ps.length sc) := (World.cell?_of_block (w := W) (a := ⟨w.heap.size + 1, 5, none⟩) (hbk.block (w.heap.size + 1) (by omega))).trans c3
   have cka : ∀ o, (Wk.alloc o).cell? ⟨w.heap.size + 1, 5, none⟩ = some (.slice sa ps.length sc) := fun o => (World.cell?_of_block (w := Wk) (a := ⟨w.heap.size + 1, 5, none⟩) (Below.heap_alloc Wk o (w.heap.size + 1) (by omega))).trans ck
   refine ryA [1, 6] ?_
   refine rA2 (fun K hK => ?_) fun K hK => ?_
   ·go_simp
    refine hK.out _ _ hst (fun hHeld => ?_)
    clear hK K
    (try simp only [Act.put, zA, zB, zC])
    (refine tjA 5 ?_; (try simp only [Act.put, zA, zB, zC]))
    refine ryA [6] ?_
    refine rA1 fun K hK => ?_
    go_simp
    refine hK.out _ _ hX2 (fun hHeld => ?_)
    clear hK K
    (try simp only [Act.put, zA, zB, zC])
    generalize (Wk.alloc (.cells #[.string ⟨#[]⟩, .int .i64 0, .bool false, .int .i64 0, .string ⟨#[]⟩, .slice none 0 0, .slice none 0 0] 57)).drew = W2 at *
    refine ryA [7] ?_
    refine rA1 fun K hK => ?_
    refine step_blank rfl (.tmp 55) (.tmp 60) rfl (w.heap.size + 4) (.slice sa ps.length sc) ps.length _ rfl ho2 Wk.heap.size rfl nb (by omega) (by omega) ?_
    intro g cap w5 h5 g5 l5
    have hX5 : w5.heap[W.heap.size]? = some (.cells #[.int .i64 0, .bool false, .int .i64 0, .string ⟨#[]⟩, .slice none 0 0, .slice none 0 0] 25) := (g5.block W.heap.size (by omega) (fun h => hBo h.symm)).trans hX2
    refine hK.out _ _ hX5 (fun hHeld => ?_)
    clear hK K
    (try simp only [Act.put, zA, zB, zC])
    have hgn : g ≠ w.heap.size + 1 := by have := (World.ownsRow.lt h5 g rfl).1; omega
    have hgx : W.heap.size ≠ g := fun h => by
     rcases l5 with l5 | l5
     ·exact hBo (by rw [h]; exact l5)
     ·omega
    have yN : (ps.length : Int) < ((ps.length + 1 : Nat) : Int) := by omega
    have yN2 : (ps.length : Int) < (ps.length : Int) + 1 := by omega
    (refine tjA 8 ?_; (try simp only [Act.put, zA, zB, zC]))
    (refine tjA 10 ?_; (try simp only [Act.put, zA, zB, zC]))
    have hv5 : w5.heap[w.heap.size + 1]? = some (.cells #[.int .i64 5, .bool false, .int .i64 0, .string ⟨#[]⟩, .slice none 0 0, .slice sa ps.length sc] 25) := (g5.block _ (by omega) (fun h => by have := (hown _ h.symm).1; omega)).trans hv2
    have c5 : w5.cell? ⟨w.heap.size + 1, 5, none⟩ = some (.slice sa ps.length sc) := by rw [cell_of_block hv5]; rfl
    have f5 : w5.frozen? ⟨w.heap.size + 1, 5, none⟩ = false := frozen_of_block hv5 5
    obtain ⟨bc, bf⟩ := blank_cells h5 ho2.1
    have b0 : w5.cell? ⟨g, ps.length * 7, none⟩ = some (.string ⟨#[]⟩) := bc 0 _ rfl
    have b1 : w5.cell? ⟨g, ps.length * 7 + 1, none⟩ = some (.int .i64 0) := bc 1 _ rfl
    have b2 : w5.cell? ⟨g, ps.length * 7 + 2, none⟩ = some (.bool false) := bc 2 _ rfl
    have b3 : w5.cell? ⟨g, ps.length * 7 + 3, none⟩ = some (.int .i64 0) := bc 3 _ rfl
    have b4 : w5.cell? ⟨g, ps.length * 7 + 4, none⟩ = some (.string ⟨#[]⟩) := bc 4 _ rfl
    have b5 : w5.cell? ⟨g, ps.length * 7 + 5, none⟩ = some (.slice none 0 0) := bc 5 _ rfl
    have b6 : w5.cell? ⟨g, ps.length * 7 + 6, none⟩ = some (.slice none 0 0) := bc 6 _ rfl
    have E1 := end1 (n := ps.length) hgn hv5 (.slice (some ⟨g, 0, none⟩) (ps.length + 1) cap) (.string key) (.int .i64 0) (.bool false) (.int .i64 0) (.string ⟨#[]⟩) (.slice none 0 0) (.slice none 0 0)
    have E2 := end2 (n := ps.length) hgn hv5 (.slice (some ⟨g, 0, none⟩) (ps.length + 1) cap) (.string key) (.int .i64 0) (.bool false) (.int .i64 0) (.string ⟨#[]⟩) (.slice none 0 0) (.slice none 0 0)
    have oA : ∀ z, z ≠ g → (((((((w5.setCell ⟨g, ps.length * 7, none⟩ (.string key)).setCell ⟨g, ps.length * 7 + 1, none⟩ (.int .i64 0)).setCell ⟨g, ps.length * 7 + 2, none⟩ (.bool false)).setCell ⟨g, ps.length * 7 + 3, none⟩ (.int .i64 0)).setCell ⟨g, ps.length * 7 + 4, none⟩ (.string ⟨#[]⟩)).setCell ⟨g, ps.length * 7 + 5, none⟩ (.slice none 0 0)).setCell ⟨g, ps.length * 7 + 6, none⟩ (.slice none 0 0)).heap[z]? = w5.heap[z]? := fun z hz => sets7_o w5 g ps.length (.string key) (.int .i64 0) (.bool false) (.int .i64 0) (.string ⟨#[]⟩) (.slice none 0 0) (.slice none 0 0) z hz
    have oM : ∀ z, z ≠ w.heap.size + 1 → (w5.setCell ⟨w.heap.size + 1, 5, none⟩ (.slice (some ⟨g, 0, none⟩) (ps.length + 1) cap)).heap[z]? = w5.heap[z]? := fun z hz => set_other hz
    have a5 : (((((((w5.setCell ⟨g, ps.length * 7, none⟩ (.string key)).setCell ⟨g, ps.length * 7 + 1, none⟩ (.int .i64 0)).setCell ⟨g, ps.length * 7 + 2, none⟩ (.bool false)).setCell ⟨g, ps.length * 7 + 3, none⟩ (.int .i64 0)).setCell ⟨g, ps.length * 7 + 4, none⟩ (.string ⟨#[]⟩)).setCell ⟨g, ps.length * 7 + 5, none⟩ (.slice none 0 0)).setCell ⟨g, ps.length * 7 + 6, none⟩ (.slice none 0 0)).cell? ⟨w.heap.size + 1, 5, none⟩ = some (.slice sa ps.length sc) := (World.cell?_of_block (w := w5) (a := ⟨w.heap.size + 1, 5, none⟩) (oA _ (fun h => hgn h.symm))).trans c5
    have af : (((((((w5.setCell ⟨g, ps.length * 7, none⟩ (.string key)).setCell ⟨g, ps.length * 7 + 1, none⟩ (.int .i64 0)).setCell ⟨g, ps.length * 7 + 2, none⟩ (.bool false)).setCell ⟨g, ps.length * 7 + 3, none⟩ (.int .i64 0)).setCell ⟨g, ps.length * 7 + 4, none⟩ (.string ⟨#[]⟩)).setCell ⟨g, ps.length * 7 + 5, none⟩ (.slice none 0 0)).setCell ⟨g, ps.length * 7 + 6, none⟩ (.slice none 0 0)).frozen? ⟨w.heap.size + 1, 5, none⟩ = false := frozen_of_block ((oA _ (fun h => hgn h.symm)).trans hv5) 5
    have mf : ∀ ii, (w5.setCell ⟨w.heap.size + 1, 5, none⟩ (.slice (some ⟨g, 0, none⟩) (ps.length + 1) cap)).frozen? ⟨g, ii, none⟩ = false := fun ii => (frozen_other (oM g hgn) ii).trans (bf ii)
    have m0 : (w5.setCell ⟨w.heap.size + 1, 5, none⟩ (.slice (some ⟨g, 0, none⟩) (ps.length + 1) cap)).cell? ⟨g, ps.length * 7, none⟩ = some (.string ⟨#[]⟩) := (World.cell?_of_block (w := w5) (a := ⟨g, ps.length * 7, none⟩) (oM g hgn)).trans b0
    have m1 : (w5.setCell ⟨w.heap.size + 1, 5, none⟩ (.slice (some ⟨g, 0, none⟩) (ps.length + 1) cap)).cell? ⟨g, ps.length * 7 + 1, none⟩ = some (.int .i64 0) := (World.cell?_of_block (w := w5) (a := ⟨g, ps.length * 7 + 1, none⟩) (oM g hgn)).trans b1
    have m2 : (w5.setCell ⟨w.heap.size + 1, 5, none⟩ (.slice (some ⟨g, 0, none⟩) (ps.length + 1) cap)).cell? ⟨g, ps.length * 7 + 2, none⟩ = some (.bool false) := (World.cell?_of_block (w := w5) (a := ⟨g, ps.length * 7 + 2, none⟩) (oM g hgn)).trans b2
    have m3 : (w5.setCell ⟨w.heap.size + 1, 5, none⟩ (.slice (some ⟨g, 0, none⟩) (ps.length + 1) cap)).cell? ⟨g, ps.length * 7 + 3, none⟩ = some (.int .i64 0) := (World.cell?_of_block (w := w5) (a := ⟨g, ps.length * 7 + 3, none⟩) (oM g hgn)).trans b3
    have m4 : (w5.setCell ⟨w.heap.size + 1, 5, none⟩ (.slice (some ⟨g, 0, none⟩) (ps.length + 1) cap)).cell? ⟨g, ps.length * 7 + 4, none⟩ = some (.string ⟨#[]⟩) := (World.cell?_of_block (w := w5) (a := ⟨g, ps.length * 7 + 4, none⟩) (oM g hgn)).trans b4
    have m5 : (w5.setCell ⟨w.heap.size + 1, 5, none⟩ (.slice (some ⟨g, 0, none⟩) (ps.length + 1) cap)).cell? ⟨g, ps.length * 7 + 5, none⟩ = some (.slice none 0 0) := (World.cell?_of_block (w := w5) (a := ⟨g, ps.length * 7 + 5, none⟩) (oM g hgn)).trans b5
    have m6 : (w5.setCell ⟨w.heap.size + 1, 5, none⟩ (.slice (some ⟨g, 0, none⟩) (ps.length + 1) cap)).cell? ⟨g, ps.length * 7 + 6, none⟩ = some (.slice none 0 0) := (World.cell?_of_block (w := w5) (a := ⟨g, ps.length * 7 + 6, none⟩) (oM g hgn)).trans b6
    refine ryA [9, 11] ?_
    refine rA2 (fun K hK => ?_) fun K hK => ?_
    ·go_simp
     refine hK.out _ _ ((oA W.heap.size hgx).trans hX5) (fun hHeld => ?_)
     clear hK K
     (try simp only [Act.put, zA, zB, zC])
     refine ryA [11] ?_
     refine rA1 fun K hK => ?_
     go_simp
     refine hK.out _ _ ((E1.o_ W.heap.size hgx (by omega)).trans hX5) (fun hHeld => ?_)
     clear hK K
     (try simp only [Act.put, zA, zB, zC])
     refine wpAnyH_done (by kernel_rfl) ?_ _
     have R1 := round_at (by omega) hS1 h6 bW rfl rfl ho hp hb2 hx2 h5 g5 l5 E1
     gi_wp2
     exact hfin _ R1
    ·go_simp
     refine hK.out _ _ ((oM W.heap.size (by omega)).trans hX5) (fun hHeld => ?_)
     clear hK K
     (try simp only [Act.put, zA, zB, zC])
     refine ryA [9] ?_
     refine rA1 fun K hK => ?_
     go_simp
     refine hK.out _ _ ((E2.o_ W.heap.size hgx (by omega)).trans hX5) (fun hHeld => ?_)
     clear hK K
     (try simp only [Act.put, zA, zB, zC])
     refine wpAnyH_done (by kernel_rfl) ?_ _
     have R1 := round_at (by omega) hS1 h6 bW rfl rfl ho hp hb2 hx2 h5 g5 l5 E2
     gi_wp2
     exact hfin _ R1
   ·go_simp
    refine hK.out _ _ hX2 (fun hHeld => ?_)
    clear hK K
    (try simp only [Act.put, zA, zB, zC])
    refine ryA [1] ?_
    refine rA1 fun K hK => ?_
    go_simp
    refine hK.out _ _ hX2 (fun hHeld => ?_)
    clear hK K
    (try simp only [Act.put, zA, zB, zC])
    (refine tjA 5 ?_; (try simp only [Act.put, zA, zB, zC]))
    generalize (Wk.alloc (.cells #[.string ⟨#[]⟩, .int .i64 0, .bool false, .int .i64 0, .string ⟨#[]⟩, .slice none 0 0, .slice none 0 0] 57)).drew = W2 at *
    refine ryA [7] ?_
    refine rA1 fun K hK => ?_
    refine step_blank rfl (.tmp 55) (.tmp 60) rfl (w.heap.size + 4) (.slice sa ps.length sc) ps.length _ rfl ho2 Wk.heap.size rfl nb (by omega) (by omega) ?_
    intro g cap w5 h5 g5 l5
    have hX5 : w5.heap[W.heap.size]? = some (.cells #[.int .i64 0, .bool false, .int .i64 0, .string ⟨#[]⟩, .slice none 0 0, .slice none 0 0] 25) := (g5.block W.heap.size (by omega) (fun h => hBo h.symm)).trans hX2
    refine hK.out _ _ hX5 (fun hHeld => ?_)
    clear hK K
    (try simp only [Act.put, zA, zB, zC])
    have hgn : g ≠ w.heap.size + 1 := by have := (World.ownsRow.lt h5 g rfl).1; omega
    have hgx : W.heap.size ≠ g := fun h => by
     rcases l5 with l5 | l5
     ·exact hBo (by rw [h]; exact l5)
     ·omega
    have yN : (ps.length : Int) < ((ps.length + 1 : Nat) : Int) := by omega
    have yN2 : (ps.length : Int) < (ps.length : Int) + 1 := by omega
    (refine tjA 8 ?_; (try simp only [Act.put, zA, zB, zC]))
    (refine tjA 10 ?_; (try simp only [Act.put, zA, zB, zC]))
    have hv5 : w5.heap[w.heap.size + 1]? = some (.cells #[.int .i64 5, .bool false, .int .i64 0, .string ⟨#[]⟩, .slice none 0 0, .slice sa ps.length sc] 25) := (g5.block _ (by omega) (fun h => by have := (hown _ h.symm).1; omega)).trans hv2
    have c5 : w5.cell? ⟨w.heap.size + 1, 5, none⟩ = some (.slice sa ps.length sc) := by rw [cell_of_block hv5]; rfl
    have f5 : w5.frozen? ⟨w.heap.size + 1, 5, none⟩ = false := frozen_of_block hv5 5
    obtain ⟨bc, bf⟩ := blank_cells h5 ho2.1
    have b0 : w5.cell? ⟨g, ps.length * 7, none⟩ = some (.string ⟨#[]⟩) := bc 0 _ rfl
    have b1 : w5.cell? ⟨g, ps.length * 7 + 1, none⟩ = some (.int .i64 0) := bc 1 _ rfl
    have b2 : w5.cell? ⟨g, ps.length * 7 + 2, none⟩ = some (.bool false) := bc 2 _ rfl
    have b3 : w5.cell? ⟨g, ps.length * 7 + 3, none⟩ = some (.int .i64 0) := bc 3 _ rfl
    have b4 : w5.cell? ⟨g, ps.length * 7 + 4, none⟩ = some (.string ⟨#[]⟩) := bc 4 _ rfl
    have b5 : w5.cell? ⟨g, ps.length * 7 + 5, none⟩ = some (.slice none 0 0) := bc 5 _ rfl
    have b6 : w5.cell? ⟨g, ps.length * 7 + 6, none⟩ = some (.slice none 0 0) := bc 6 _ rfl
    have E1 := end1 (n := ps.length) hgn hv5 (.slice (some ⟨g, 0, none⟩) (ps.length + 1) cap) (.string key) (.int .i64 0) (.bool false) (.int .i64 0) (.string ⟨#[]⟩) (.slice none 0 0) (.slice none 0 0)
    have E2 := end2 (n := ps.length) hgn hv5 (.slice (some ⟨g, 0, none⟩) (ps.length + 1) cap) (.string key) (.int .i64 0) (.bool false) (.int .i64 0) (.string ⟨#[]⟩) (.slice none 0 0) (.slice none 0 0)
    have oA : ∀ z, z ≠ g → (((((((w5.setCell ⟨g, ps.length * 7, none⟩ (.string key)).setCell ⟨g, ps.length * 7 + 1, none⟩ (.int .i64 0)).setCell ⟨g, ps.length * 7 + 2, none⟩ (.bool false)).setCell ⟨g, ps.length * 7 + 3, none⟩ (.int .i64 0)).setCell ⟨g, ps.length * 7 + 4, none⟩ (.string ⟨#[]⟩)).setCell ⟨g, ps.length * 7 + 5, none⟩ (.slice none 0 0)).setCell ⟨g, ps.length * 7 + 6, none⟩ (.slice none 0 0)).heap[z]? = w5.heap[z]? := fun z hz => sets7_o w5 g ps.length (.string key) (.int .i64 0) (.bool false) (.int .i64 0) (.string ⟨#[]⟩) (.slice none 0 0) (.slice none 0 0) z hz
    have oM : ∀ z, z ≠ w.heap.size + 1 → (w5.setCell ⟨w.heap.size + 1, 5, none⟩ (.slice (some ⟨g, 0, none⟩) (ps.length + 1) cap)).heap[z]? = w5.heap[z]? := fun z hz => set_other hz
    have a5 : (((((((w5.setCell ⟨g, ps.length * 7, none⟩ (.string key)).setCell ⟨g, ps.length * 7 + 1, none⟩ (.int .i64 0)).setCell ⟨g, ps.length * 7 + 2, none⟩ (.bool false)).setCell ⟨g, ps.length * 7 + 3, none⟩ (.int .i64 0)).setCell ⟨g, ps.length * 7 + 4, none⟩ (.string ⟨#[]⟩)).setCell ⟨g, ps.length * 7 + 5, none⟩ (.slice none 0 0)).setCell ⟨g, ps.length * 7 + 6, none⟩ (.slice none 0 0)).cell? ⟨w.heap.size + 1, 5, none⟩ = some (.slice sa ps.length sc) := (World.cell?_of_block (w := w5) (a := ⟨w.heap.size + 1, 5, none⟩) (oA _ (fun h => hgn h.symm))).trans c5
    have af : (((((((w5.setCell ⟨g, ps.length * 7, none⟩ (.string key)).setCell ⟨g, ps.length * 7 + 1, none⟩ (.int .i64 0)).setCell ⟨g, ps.length * 7 + 2, none⟩ (.bool false)).setCell ⟨g, ps.length * 7 + 3, none⟩ (.int .i64 0)).setCell ⟨g, ps.length * 7 + 4, none⟩ (.string ⟨#[]⟩)).setCell ⟨g, ps.length * 7 + 5, none⟩ (.slice none 0 0)).setCell ⟨g, ps.length * 7 + 6, none⟩ (.slice none 0 0)).frozen? ⟨w.heap.size + 1, 5, none⟩ = false := frozen_of_block ((oA _ (fun h => hgn h.symm)).trans hv5) 5
    have mf : ∀ ii, (w5.setCell ⟨w.heap.size + 1, 5, none⟩ (.slice (some ⟨g, 0, none⟩) (ps.length + 1) cap)).frozen? ⟨g, ii, none⟩ = false := fun ii => (frozen_other (oM g hgn) ii).trans (bf ii)
    have m0 : (w5.setCell ⟨w.heap.size + 1, 5, none⟩ (.slice (some ⟨g, 0, none⟩) (ps.length + 1) cap)).cell? ⟨g, ps.length * 7, none⟩ = some (.string ⟨#[]⟩) := (World.cell?_of_block (w := w5) (a := ⟨g, ps.length * 7, none⟩) (oM g hgn)).trans b0
    have m1 : (w5.setCell ⟨w.heap.size + 1, 5, none⟩ (.slice (some ⟨g, 0, none⟩) (ps.length + 1) cap)).cell? ⟨g, ps.length * 7 + 1, none⟩ = some (.int .i64 0) := (World.cell?_of_block (w := w5) (a := ⟨g, ps.length * 7 + 1, none⟩) (oM g hgn)).trans b1
    have m2 : (w5.setCell ⟨w.heap.size + 1, 5, none⟩ (.slice (some ⟨g, 0, none⟩) (ps.length + 1) cap)).cell? ⟨g, ps.length * 7 + 2, none⟩ = some (.bool false) := (World.cell?_of_block (w := w5) (a := ⟨g, ps.length * 7 + 2, none⟩) (oM g hgn)).trans b2
    have m3 : (w5.setCell ⟨w.heap.size + 1, 5, none⟩ (.slice (some ⟨g, 0, none⟩) (ps.length + 1) cap)).cell? ⟨g, ps.length * 7 + 3, none⟩ = some (.int .i64 0) := (World.cell?_of_block (w := w5) (a := ⟨g, ps.length * 7 + 3, none⟩) (oM g hgn)).trans b3
    have m4 : (w5.setCell ⟨w.heap.size + 1, 5, none⟩ (.slice (some ⟨g, 0, none⟩) (ps.length + 1) cap)).cell? ⟨g, ps.length * 7 + 4, none⟩ = some (.string ⟨#[]⟩) := (World.cell?_of_block (w := w5) (a := ⟨g, ps.length * 7 + 4, none⟩) (oM g hgn)).trans b4
    have m5 : (w5.setCell ⟨w.heap.size + 1, 5, none⟩ (.slice (some ⟨g, 0, none⟩) (ps.length + 1) cap)).cell? ⟨g, ps.length * 7 + 5, none⟩ = some (.slice none 0 0) := (World.cell?_of_block (w := w5) (a := ⟨g, ps.length * 7 + 5, none⟩) (oM g hgn)).trans b5
    have m6 : (w5.setCell ⟨w.heap.size + 1, 5, none⟩ (.slice (some ⟨g, 0, none⟩) (ps.length + 1) cap)).cell? ⟨g, ps.length * 7 + 6, none⟩ = some (.slice none 0 0) := (World.cell?_of_block (w := w5) (a := ⟨g, ps.length * 7 + 6, none⟩) (oM g hgn)).trans b6
    refine ryA [9, 11] ?_
    refine rA2 (fun K hK => ?_) fun K hK => ?_
    ·go_simp
     refine hK.out _ _ ((oA W.heap.size hgx).trans hX5) (fun hHeld => ?_)
     clear hK K
     (try simp only [Act.put, zA, zB, zC])
     refine ryA [11] ?_
     refine rA1 fun K hK => ?_
     go_simp
     refine hK.out _ _ ((E1.o_ W.heap.size hgx (by omega)).trans hX5) (fun hHeld => ?_)
     clear hK K
     (try simp only [Act.put, zA, zB, zC])
     refine wpAnyH_done (by kernel_rfl) ?_ _
     have R1 := round_at (by omega) hS1 h6 bW rfl rfl ho hp hb2 hx2 h5 g5 l5 E1
     gi_wp2
     exact hfin _ R1
    ·go_simp
     refine hK.out _ _ ((oM W.heap.size (by omega)).trans hX5) (fun hHeld => ?_)
     clear hK K
     (try simp only [Act.put, zA, zB, zC])
     refine ryA [9] ?_
     refine rA1 fun K hK => ?_
     go_simp
     refine hK.out _ _ ((E2.o_ W.heap.size hgx (by omega)).trans hX5) (fun hHeld => ?_)
     clear hK K
     (try simp only [Act.put, zA, zB, zC])
     refine wpAnyH_done (by kernel_rfl) ?_ _
     have R1 := round_at (by omega) hS1 h6 bW rfl rfl ho hp hb2 hx2 h5 g5 l5 E2
     gi_wp2
     exact hfin _ R1
  ·by_cases hkk : kindOf va = 5 ∧ kindOf vb = 5
   ·have yk5 : (yk == 5) = true := by rw [← hka, hkk.1]; rfl
    have zk5 : (zk == 5) = true := by rw [← hkb, hkk.2]; rfl
    have HD : Hid (stD f (⟨key, va, vb, [.int .i64 yk, .bool yb, .int .i64 yi, .string ys, .slice yal ynl ycl, .slice yam ynm ycm], [.int .i64 zk, .bool zb, .int .i64 zi, .string zs, .slice zal znl zcl, .slice zam znm zcm], xf, true⟩ : Pr) = match f (memsOf va) (memsOf vb) with | none => none | some [] => some [] | some (y :: t) => some [(key, mapV (y :: t))]) := by show _ = _; simp only [stD, if_pos hkk]; rfl
    have CP := hG.r hkk.1 hkk.2 (.slice yam ynm ycm) (.slice zam znm zcm) (W.alloc (.cells #[.int .i64 0, .bool false, .int .i64 0, .string ⟨#[]⟩, .slice none 0 0, .slice none 0 0] 25)) rfl rfl (bwW.trans (hbz.mono (by have := bwW.size; omega)))
    clear hka hkb hkk
    gi_wp2
    clear x0 x1 x2 x3 x4 x5 x6 x7 x8 x9 x10 x11 x12 x13 bXz
    generalize (W.alloc (.cells #[.int .i64 0, .bool false, .int .i64 0, .string ⟨#[]⟩, .slice none 0 0, .slice none 0 0] 25)) = Wz at *
    cases hres : f (memsOf va) (memsOf vb) with
    | none =>
     rw [hres] at CP
     have hsD : stD f (⟨key, va, vb, [.int .i64 yk, .bool yb, .int .i64 yi, .string ys, .slice yal ynl ycl, .slice yam ynm ycm], [.int .i64 zk, .bool zb, .int .i64 zi, .string zs, .slice zal znl zcl, .slice zam znm zcm], xf, true⟩ : Pr) = none := by rw [HD.out, hres]
     have hpn : ∀ We, Below W.heap.size W We → KeepsFrom w6.heap.size W We ∧ (∃ p x, (pre ++ [(⟨key, va, vb, [.int .i64 yk, .bool yb, .int .i64 yi, .string ys, .slice yal ynl ycl, .slice yam ynm ycm], [.int .i64 zk, .bool zb, .int .i64 zi, .string zs, .slice zal znl zcl, .slice zam znm zcm], xf, true⟩ : Pr)]) = p ++ [x] ∧ stD f x = none) ∧ Below (w.heap.size + 1) w6 We := fun We h => by
      obtain ⟨a1, a2, sl', a3, a4, a5⟩ := round_skip (by omega) hS1 h6 bW acc0 v1 h
      rw [h6]
      exact ⟨a1, ⟨pre, _, rfl, hsD⟩, a5⟩
     refine ⟨trivial, (CallsIn.inRound lp (callsIn_wide.2 CP)).mono ?_⟩
     rintro e_ Wc ⟨rfl, bu⟩
     gi_wp2
     have hq := hpn Wc (hbz.trans (bu.mono (by omega)))
     exact ⟨rfl, hq.1, rfl, hq.2.1, hq.2.2⟩
    | some rs =>
     rw [hres] at CP
     refine ⟨trivial, (CallsIn.inRound lp (callsIn_wide.2 CP)).mono ?_⟩
     rintro e_ Wc ⟨cu, rfl, hu0, bu⟩
     clear CP
     cases rs with
     | nil =>
      have hsD : stD f (⟨key, va, vb, [.int .i64 yk, .bool yb, .int .i64 yi, .string ys, .slice yal ynl ycl, .slice yam ynm ycm], [.int .i64 zk, .bool zb, .int .i64 zi, .string zs, .slice zal znl zcl, .slice zam znm zcm], xf, true⟩ : Pr) = some [] := by rw [HD.out, hres]
      have hskip : ∀ We, Below W.heap.size W We → KeepsFrom w6.heap.size W We ∧ Kx (w.heap.size + 4) (w.heap.size + 1) W We ∧ ∃ ms sl, stDs f (pre ++ [(⟨key, va, vb, [.int .i64 yk, .bool yb, .int .i64 yi, .string ys, .slice yal ynl ycl, .slice yam ynm ycm], [.int .i64 zk, .bool zb, .int .i64 zi, .string zs, .slice zal znl zcl, .slice zam znm zcm], xf, true⟩ : Pr)]) = some ms ∧ We.heap[w.heap.size + 1]? = some (.cells #[.int .i64 5, .bool false, .int .i64 0, .string ⟨#[]⟩, .slice none 0 0, sl] 25) ∧ AccK S (w.heap.size + 4) ms sl We ∧ Below (w.heap.size + 1) w6 We := fun We h => by
       obtain ⟨a1, a2, sl', a3, a4, a5⟩ := round_skip (by omega) hS1 h6 bW acc0 v1 h
       rw [h6]
       exact ⟨a1, a2, _, sl', by have := stDs_snoc hms hsD; rwa [List.append_nil] at this, a3, a4, a5⟩
      obtain ⟨uk, ub, ui, us, ual, unl, ucl, uam, unm, ucm, rfl⟩ := V.ten hu0
      have hzu := bu.size
      have hstc := (bu.block W.heap.size (by omega)).trans hst
      obtain ⟨cz0, cz1, cz2, cz3, cz4, cz5⟩ := sixC hstc
      have fz := frozen_of_block hstc
      have ho6 := six_o Wc W.heap.size (.int .i64 uk) (.bool ub) (.int .i64 ui) (.string us) (.slice ual unl ucl) (.slice uam unm ucm)
      have hz6 := six_z Wc W.heap.size (.int .i64 uk) (.bool ub) (.int .i64 ui) (.string us) (.slice ual unl ucl) (.slice uam unm ucm)
      have hbk : Below W.heap.size W ((((((Wc.setCell ⟨W.heap.size, 0, none⟩ (.int .i64 uk)).setCell ⟨W.heap.size, 1, none⟩ (.bool ub)).setCell ⟨W.heap.size, 2, none⟩ (.int .i64 ui)).setCell ⟨W.heap.size, 3, none⟩ (.string us)).setCell ⟨W.heap.size, 4, none⟩ (.slice ual unl ucl)).setCell ⟨W.heap.size, 5, none⟩ (.slice uam unm ucm)) := Below.set6 (hbz.trans (bu.mono (by omega))) (M := W.heap.size) (Nat.le_refl _) 0 1 2 3 4 5 (.int .i64 uk) (.bool ub) (.int .i64 ui) (.string us) (.slice ual unl ucl) (.slice uam unm ucm)
      have hst6 := box_six hstc (.int .i64 uk) (.bool ub) (.int .i64 ui) (.string us) (.slice ual unl ucl) (.slice uam unm ucm)
      have hu : (mapV []).lies false ((((((Wc.setCell ⟨W.heap.size, 0, none⟩ (.int .i64 uk)).setCell ⟨W.heap.size, 1, none⟩ (.bool ub)).setCell ⟨W.heap.size, 2, none⟩ (.int .i64 ui)).setCell ⟨W.heap.size, 3, none⟩ (.string us)).setCell ⟨W.heap.size, 4, none⟩ (.slice ual unl ucl)).setCell ⟨W.heap.size, 5, none⟩ (.slice uam unm ucm)) (fun y => S y ∨ (W.heap.size ≤ y ∧ y < ((((((Wc.setCell ⟨W.heap.size, 0, none⟩ (.int .i64 uk)).setCell ⟨W.heap.size, 1, none⟩ (.bool ub)).setCell ⟨W.heap.size, 2, none⟩ (.int .i64 ui)).setCell ⟨W.heap.size, 3, none⟩ (.string us)).setCell ⟨W.heap.size, 4, none⟩ (.slice ual unl ucl)).setCell ⟨W.heap.size, 5, none⟩ (.slice uam unm ucm)).heap.size)) [.int .i64 uk, .bool ub, .int .i64 ui, .string us, .slice ual unl ucl, .slice uam unm ucm] := V.lies_keep (fun h => h) (fun y hy => ho6 y (by rcases hy with hy | hy <;> first | (have := hS y hy; omega) | (have := hy.1; omega))) (fun y hy => hy.elim .inl (fun h => .inr ⟨by have := h.1; omega, by have := h.2; omega⟩)) _ hu0
      have hkz : W.heap.size < ((((((Wc.setCell ⟨W.heap.size, 0, none⟩ (.int .i64 uk)).setCell ⟨W.heap.size, 1, none⟩ (.bool ub)).setCell ⟨W.heap.size, 2, none⟩ (.int .i64 ui)).setCell ⟨W.heap.size, 3, none⟩ (.string us)).setCell ⟨W.heap.size, 4, none⟩ (.slice ual unl ucl)).setCell ⟨W.heap.size, 5, none⟩ (.slice uam unm ucm)).heap.size := by omega
      have h12 := hmk (And.intro hbk (And.intro hst6 (And.intro hu hkz)))
      have cK5 : ((((((Wc.setCell ⟨W.heap.size, 0, none⟩ (.int .i64 uk)).setCell ⟨W.heap.size, 1, none⟩ (.bool ub)).setCell ⟨W.heap.size, 2, none⟩ (.int .i64 ui)).setCell ⟨W.heap.size, 3, none⟩ (.string us)).setCell ⟨W.heap.size, 4, none⟩ (.slice ual unl ucl)).setCell ⟨W.heap.size, 5, none⟩ (.slice uam unm ucm)).cell? ⟨W.heap.size, 5, none⟩ = some (.slice uam unm ucm) := by rw [cell_of_block hst6]; rfl
      have hnm := nm_len hu
      have yn0 : ((unm : Int) == 0) = true := by rw [hnm]; rfl
      clear hnm
      clear hbk hst6 hu hkz ho6 hz6 hu0 hsz
      gi_wp2
      clear cz0 cz1 cz2 cz3 cz4 cz5 fz hst
      obtain ⟨hbk, hst, hu, hkz⟩ := h12.out
      clear h12
      generalize ((((((Wc.setCell ⟨W.heap.size, 0, none⟩ (.int .i64 uk)).setCell ⟨W.heap.size, 1, none⟩ (.bool ub)).setCell ⟨W.heap.size, 2, none⟩ (.int .i64 ui)).setCell ⟨W.heap.size, 3, none⟩ (.string us)).setCell ⟨W.heap.size, 4, none⟩ (.slice ual unl ucl)).setCell ⟨W.heap.size, 5, none⟩ (.slice uam unm ucm)) = Wk at *
      exact hskip _ hbk
     | cons y t =>
      have hsD : stD f (⟨key, va, vb, [.int .i64 yk, .bool yb, .int .i64 yi, .string ys, .slice yal ynl ycl, .slice yam ynm ycm], [.int .i64 zk, .bool zb, .int .i64 zi, .string zs, .slice zal znl zcl, .slice zam znm zcm], xf, true⟩ : Pr) = some [(key, mapV (y :: t))] := by rw [HD.out, hres]
      have hfin : ∀ We, (KeepsFrom (w.heap.size + 4) W We ∧ Kx (w.heap.size + 4) (w.heap.size + 1) W We ∧ ∃ sl', We.heap[w.heap.size + 1]? = some (.cells #[.int .i64 5, .bool false, .int .i64 0, .string ⟨#[]⟩, .slice none 0 0, sl'] 25) ∧ AccK S (w.heap.size + 4) (ps.map (fun q => q.1) ++ [(key, (mapV (y :: t)))]) sl' We ∧ Below (w.heap.size + 1) w6 We) → KeepsFrom w6.heap.size W We ∧ Kx (w.heap.size + 4) (w.heap.size + 1) W We ∧ ∃ ms sl, stDs f (pre ++ [(⟨key, va, vb, [.int .i64 yk, .bool yb, .int .i64 yi, .string ys, .slice yal ynl ycl, .slice yam ynm ycm], [.int .i64 zk, .bool zb, .int .i64 zi, .string zs, .slice zal znl zcl, .slice zam znm zcm], xf, true⟩ : Pr)]) = some ms ∧ We.heap[w.heap.size + 1]? = some (.cells #[.int .i64 5, .bool false, .int .i64 0, .string ⟨#[]⟩, .slice none 0 0, sl] 25) ∧ AccK S (w.heap.size + 4) ms sl We ∧ Below (w.heap.size + 1) w6 We := fun We h => by
       rw [h6]
       obtain ⟨a1, a2, sl', a3, a4, a5⟩ := h
       exact ⟨a1, a2, _, sl', stDs_snoc hms hsD, a3, a4, a5⟩
      obtain ⟨uk, ub, ui, us, ual, unl, ucl, uam, unm, ucm, rfl⟩ := V.ten hu0
      have hzu := bu.size
      have hstc := (bu.block W.heap.size (by omega)).trans hst
      obtain ⟨cz0, cz1, cz2, cz3, cz4, cz5⟩ := sixC hstc
      have fz := frozen_of_block hstc
      have ho6 := six_o Wc W.heap.size (.int .i64 uk) (.bool ub) (.int .i64 ui) (.string us) (.slice ual unl ucl) (.slice uam unm ucm)
      have hz6 := six_z Wc W.heap.size (.int .i64 uk) (.bool ub) (.int .i64 ui) (.string us) (.slice ual unl ucl) (.slice uam unm ucm)
      have hbk : Below W.heap.size W ((((((Wc.setCell ⟨W.heap.size, 0, none⟩ (.int .i64 uk)).setCell ⟨W.heap.size, 1, none⟩ (.bool ub)).setCell ⟨W.heap.size, 2, none⟩ (.int .i64 ui)).setCell ⟨W.heap.size, 3, none⟩ (.string us)).setCell ⟨W.heap.size, 4, none⟩ (.slice ual unl ucl)).setCell ⟨W.heap.size, 5, none⟩ (.slice uam unm ucm)) := Below.set6 (hbz.trans (bu.mono (by omega))) (M := W.heap.size) (Nat.le_refl _) 0 1 2 3 4 5 (.int .i64 uk) (.bool ub) (.int .i64 ui) (.string us) (.slice ual unl ucl) (.slice uam unm ucm)
      have hst6 := box_six hstc (.int .i64 uk) (.bool ub) (.int .i64 ui) (.string us) (.slice ual unl ucl) (.slice uam unm ucm)
      have hu : (mapV (y :: t)).lies false ((((((Wc.setCell ⟨W.heap.size, 0, none⟩ (.int .i64 uk)).setCell ⟨W.heap.size, 1, none⟩ (.bool ub)).setCell ⟨W.heap.size, 2, none⟩ (.int .i64 ui)).setCell ⟨W.heap.size, 3, none⟩ (.string us)).setCell ⟨W.heap.size, 4, none⟩ (.slice ual unl ucl)).setCell ⟨W.heap.size, 5, none⟩ (.slice uam unm ucm)) (fun y => S y ∨ (W.heap.size ≤ y ∧ y < ((((((Wc.setCell ⟨W.heap.size, 0, none⟩ (.int .i64 uk)).setCell ⟨W.heap.size, 1, none⟩ (.bool ub)).setCell ⟨W.heap.size, 2, none⟩ (.int .i64 ui)).setCell ⟨W.heap.size, 3, none⟩ (.string us)).setCell ⟨W.heap.size, 4, none⟩ (.slice ual unl ucl)).setCell ⟨W.heap.size, 5, none⟩ (.slice uam unm ucm)).heap.size)) [.int .i64 uk, .bool ub, .int .i64 ui, .string us, .slice ual unl ucl, .slice uam unm ucm] := V.lies_keep (fun h => h) (fun y hy => ho6 y (by rcases hy with hy | hy <;> first | (have := hS y hy; omega) | (have := hy.1; omega))) (fun y hy => hy.elim .inl (fun h => .inr ⟨by have := h.1; omega, by have := h.2; omega⟩)) _ hu0
      have hkz : W.heap.size < ((((((Wc.setCell ⟨W.heap.size, 0, none⟩ (.int .i64 uk)).setCell ⟨W.heap.size, 1, none⟩ (.bool ub)).setCell ⟨W.heap.size, 2, none⟩ (.int .i64 ui)).setCell ⟨W.heap.size, 3, none⟩ (.string us)).setCell ⟨W.heap.size, 4, none⟩ (.slice ual unl ucl)).setCell ⟨W.heap.size, 5, none⟩ (.slice uam unm ucm)).heap.size := by omega
      have h12 := hmk (And.intro hbk (And.intro hst6 (And.intro hu hkz)))
      have cK5 : ((((((Wc.setCell ⟨W.heap.size, 0, none⟩ (.int .i64 uk)).setCell ⟨W.heap.size, 1, none⟩ (.bool ub)).setCell ⟨W.heap.size, 2, none⟩ (.int .i64 ui)).setCell ⟨W.heap.size, 3, none⟩ (.string us)).setCell ⟨W.heap.size, 4, none⟩ (.slice ual unl ucl)).setCell ⟨W.heap.size, 5, none⟩ (.slice uam unm ucm)).cell? ⟨W.heap.size, 5, none⟩ = some (.slice uam unm ucm) := by rw [cell_of_block hst6]; rfl
      have hnm := nm_len hu
      have yn0 : ((unm : Int) == 0) = false := by rw [hnm]; exact beq_eq_false_iff_ne.2 (by show ¬ (((y :: t).length : Int) = 0); rw [List.length_cons]; omega)
      clear hnm
      clear hbk hst6 hu hkz ho6 hz6 hu0 hsz
      gi_wp2
      clear cz0 cz1 cz2 cz3 cz4 cz5 fz hst
      obtain ⟨hbk, hst, hu, hkz⟩ := h12.out
      clear h12
      generalize ((((((Wc.setCell ⟨W.heap.size, 0, none⟩ (.int .i64 uk)).setCell ⟨W.heap.size, 1, none⟩ (.bool ub)).setCell ⟨W.heap.size, 2, none⟩ (.int .i64 ui)).setCell ⟨W.heap.size, 3, none⟩ (.string us)).setCell ⟨W.heap.size, 4, none⟩ (.slice ual unl ucl)).setCell ⟨W.heap.size, 5, none⟩ (.slice uam unm ucm)) = Wk at *
      refine round_held_drew (S := fun X => X.heap[W.heap.size]? = some (.cells #[.int .i64 uk, .bool ub, .int .i64 ui, .string us, .slice ual unl ucl, .slice uam unm ucm] 25)) (by kernel_rfl) (by kernel_rfl) (by rintro ⟨_, _, h⟩; exact h) hst (fun hHeld => ?_)
      (refine tjA 0 ?_; (try simp only [Act.put, zA, zB, zC]))
      (refine tjA 2 ?_; (try simp only [Act.put, zA, zB, zC]))
      (refine tkA 3 ?_ ?_ ?_; rotate_left 1; (intro W0 hSw; (have z0_ : W0.cell? ⟨W.heap.size, 0, none⟩ = some (.int .i64 uk) := (by rw [cell_of_block hSw]; rfl); have z1_ : W0.cell? ⟨W.heap.size, 1, none⟩ = some (.bool ub) := (by rw [cell_of_block hSw]; rfl); have z2_ : W0.cell? ⟨W.heap.size, 2, none⟩ = some (.int .i64 ui) := (by rw [cell_of_block hSw]; rfl); have z3_ : W0.cell? ⟨W.heap.size, 3, none⟩ = some (.string us) := (by rw [cell_of_block hSw]; rfl); have z4_ : W0.cell? ⟨W.heap.size, 4, none⟩ = some (.slice ual unl ucl) := (by rw [cell_of_block hSw]; rfl); have z5_ : W0.cell? ⟨W.heap.size, 5, none⟩ = some (.slice uam unm ucm) := (by rw [cell_of_block hSw]; rfl)); go_simp; (try with_reducible rfl)); (try simp only [Act.put, zA, zB, zC]))
      (refine tjA 4 ?_; (try simp only [Act.put, zA, zB, zC]))
      have hbe : Below Wk.heap.size Wk (Wk.alloc (.cells #[.string ⟨#[]⟩, .int .i64 0, .bool false, .int .i64 0, .string ⟨#[]⟩, .slice none 0 0, .slice none 0 0] 57)).drew := (one_belowG Wk _).drew
      have hb2 : Below W.heap.size W (Wk.alloc (.cells #[.string ⟨#[]⟩, .int .i64 0, .bool false, .int .i64 0, .string ⟨#[]⟩, .slice none 0 0, .slice none 0 0] 57)).drew := hbk.trans (hbe.mono (by omega))
      have hz2 : (Wk.alloc (.cells #[.string ⟨#[]⟩, .int .i64 0, .bool false, .int .i64 0, .string ⟨#[]⟩, .slice none 0 0, .slice none 0 0] 57)).drew.heap.size = Wk.heap.size + 1 := alloc_size _ _
      have nb : (Wk.alloc (.cells #[.string ⟨#[]⟩, .int .i64 0, .bool false, .int .i64 0, .string ⟨#[]⟩, .slice none 0 0, .slice none 0 0] 57)).drew.heap[Wk.heap.size]? = some (.cells #[.string ⟨#[]⟩, .int .i64 0, .bool false, .int .i64 0, .string ⟨#[]⟩, .slice none 0 0, .slice none 0 0] 57) := heap_alloc_new Wk _
      have hX2 := (hbe.block W.heap.size (by omega)).trans hst
      have hv2 := (hb2.block (w.heap.size + 1) (by omega)).trans v1
      have ho2 := ho.below hb2
      unfold OwnC at ho2
      rw [List.length_map] at ho2
      have hx2 : PM (Wk.alloc (.cells #[.string ⟨#[]⟩, .int .i64 0, .bool false, .int .i64 0, .string ⟨#[]⟩, .slice none 0 0, .slice none 0 0] 57)).drew (fun y => S y ∨ (W.heap.size ≤ y ∧ y < (Wk.alloc (.cells #[.string ⟨#[]⟩, .int .i64 0, .bool false, .int .i64 0, .string ⟨#[]⟩, .slice none 0 0, .slice none 0 0] 57)).drew.heap.size)) ((key, mapV (y :: t)), [.string key, .int .i64 uk, .bool ub, .int .i64 ui, .string us, .slice ual unl ucl, .slice uam unm ucm]) := ⟨_, rfl, hG.k, V.lies_keep (fun h => h) (fun y hy => hbe.block y (by rcases hy with hy | hy <;> first | omega | (have := hS y hy; omega))) (fun y hy => hy.elim .inl (fun h => .inr ⟨h.1, by omega⟩)) _ hu⟩
      have ck : Wk.cell? ⟨w.heap.size + 1, 5, none⟩ = some (.slice sa ps.length sc) := (World.cell?_of_block (w := W) (a := ⟨w.heap.size + 1, 5, none⟩) (hbk.block (w.heap.size + 1) (by omega))).trans c3
      have cka : ∀ o, (Wk.alloc o).cell? ⟨w.heap.size + 1, 5, none⟩ = some (.slice sa ps.length sc) := fun o => (World.cell?_of_block (w := Wk) (a := ⟨w.heap.size + 1, 5, none⟩) (Below.heap_alloc Wk o (w.heap.size + 1) (by omega))).trans ck
      refine ryA [1, 6] ?_
      refine rA2 (fun K hK => ?_) fun K hK => ?_
      ·go_simp
       refine hK.out _ _ hst (fun hHeld => ?_)
       clear hK K
       (try simp only [Act.put, zA, zB, zC])
       (refine tjA 5 ?_; (try simp only [Act.put, zA, zB, zC]))
       refine ryA [6] ?_
       refine rA1 fun K hK => ?_
       go_simp
       refine hK.out _ _ hX2 (fun hHeld => ?_)
       clear hK K
       (try simp only [Act.put, zA, zB, zC])
       generalize (Wk.alloc (.cells #[.string ⟨#[]⟩, .int .i64 0, .bool false, .int .i64 0, .string ⟨#[]⟩, .slice none 0 0, .slice none 0 0] 57)).drew = W2 at *
       refine ryA [7] ?_
       refine rA1 fun K hK => ?_
       refine step_blank rfl (.tmp 55) (.tmp 60) rfl (w.heap.size + 4) (.slice sa ps.length sc) ps.length _ rfl ho2 Wk.heap.size rfl nb (by omega) (by omega) ?_
       intro g cap w5 h5 g5 l5
       have hX5 : w5.heap[W.heap.size]? = some (.cells #[.int .i64 uk, .bool ub, .int .i64 ui, .string us, .slice ual unl ucl, .slice uam unm ucm] 25) := (g5.block W.heap.size (by omega) (fun h => hBo h.symm)).trans hX2
       refine hK.out _ _ hX5 (fun hHeld => ?_)
       clear hK K
       (try simp only [Act.put, zA, zB, zC])
       have hgn : g ≠ w.heap.size + 1 := by have := (World.ownsRow.lt h5 g rfl).1; omega
       have hgx : W.heap.size ≠ g := fun h => by
        rcases l5 with l5 | l5
        ·exact hBo (by rw [h]; exact l5)
        ·omega
       have yN : (ps.length : Int) < ((ps.length + 1 : Nat) : Int) := by omega
       have yN2 : (ps.length : Int) < (ps.length : Int) + 1 := by omega
       (refine tjA 8 ?_; (try simp only [Act.put, zA, zB, zC]))
       (refine tjA 10 ?_; (try simp only [Act.put, zA, zB, zC]))
       have hv5 : w5.heap[w.heap.size + 1]? = some (.cells #[.int .i64 5, .bool false, .int .i64 0, .string ⟨#[]⟩, .slice none 0 0, .slice sa ps.length sc] 25) := (g5.block _ (by omega) (fun h => by have := (hown _ h.symm).1; omega)).trans hv2
       have c5 : w5.cell? ⟨w.heap.size + 1, 5, none⟩ = some (.slice sa ps.length sc) := by rw [cell_of_block hv5]; rfl
       have f5 : w5.frozen? ⟨w.heap.size + 1, 5, none⟩ = false := frozen_of_block hv5 5
       obtain ⟨bc, bf⟩ := blank_cells h5 ho2.1
       have b0 : w5.cell? ⟨g, ps.length * 7, none⟩ = some (.string ⟨#[]⟩) := bc 0 _ rfl
       have b1 : w5.cell? ⟨g, ps.length * 7 + 1, none⟩ = some (.int .i64 0) := bc 1 _ rfl
       have b2 : w5.cell? ⟨g, ps.length * 7 + 2, none⟩ = some (.bool false) := bc 2 _ rfl
       have b3 : w5.cell? ⟨g, ps.length * 7 + 3, none⟩ = some (.int .i64 0) := bc 3 _ rfl
       have b4 : w5.cell? ⟨g, ps.length * 7 + 4, none⟩ = some (.string ⟨#[]⟩) := bc 4 _ rfl
       have b5 : w5.cell? ⟨g, ps.length * 7 + 5, none⟩ = some (.slice none 0 0) := bc 5 _ rfl
       have b6 : w5.cell? ⟨g, ps.length * 7 + 6, none⟩ = some (.slice none 0 0) := bc 6 _ rfl
       have E1 := end1 (n := ps.length) hgn hv5 (.slice (some ⟨g, 0, none⟩) (ps.length + 1) cap) (.string key) (.int .i64 uk) (.bool ub) (.int .i64 ui) (.string us) (.slice ual unl ucl) (.slice uam unm ucm)
       have E2 := end2 (n := ps.length) hgn hv5 (.slice (some ⟨g, 0, none⟩) (ps.length + 1) cap) (.string key) (.int .i64 uk) (.bool ub) (.int .i64 ui) (.string us) (.slice ual unl ucl) (.slice uam unm ucm)
       have oA : ∀ z, z ≠ g → (((((((w5.setCell ⟨g, ps.length * 7, none⟩ (.string key)).setCell ⟨g, ps.length * 7 + 1, none⟩ (.int .i64 uk)).setCell ⟨g, ps.length * 7 + 2, none⟩ (.bool ub)).setCell ⟨g, ps.length * 7 + 3, none⟩ (.int .i64 ui)).setCell ⟨g, ps.length * 7 + 4, none⟩ (.string us)).setCell ⟨g, ps.length * 7 + 5, none⟩ (.slice ual unl ucl)).setCell ⟨g, ps.length * 7 + 6, none⟩ (.slice uam unm ucm)).heap[z]? = w5.heap[z]? := fun z hz => sets7_o w5 g ps.length (.string key) (.int .i64 uk) (.bool ub) (.int .i64 ui) (.string us) (.slice ual unl ucl) (.slice uam unm ucm) z hz
       have oM : ∀ z, z ≠ w.heap.size + 1 → (w5.setCell ⟨w.heap.size + 1, 5, none⟩ (.slice (some ⟨g, 0, none⟩) (ps.length + 1) cap)).heap[z]? = w5.heap[z]? := fun z hz => set_other hz
       have a5 : (((((((w5.setCell ⟨g, ps.length * 7, none⟩ (.string key)).setCell ⟨g, ps.length * 7 + 1, none⟩ (.int .i64 uk)).setCell ⟨g, ps.length * 7 + 2, none⟩ (.bool ub)).setCell ⟨g, ps.length * 7 + 3, none⟩ (.int .i64 ui)).setCell ⟨g, ps.length * 7 + 4, none⟩ (.string us)).setCell ⟨g, ps.length * 7 + 5, none⟩ (.slice ual unl ucl)).setCell ⟨g, ps.length * 7 + 6, none⟩ (.slice uam unm ucm)).cell? ⟨w.heap.size + 1, 5, none⟩ = some (.slice sa ps.length sc) := (World.cell?_of_block (w := w5) (a := ⟨w.heap.size + 1, 5, none⟩) (oA _ (fun h => hgn h.symm))).trans c5
       have af : (((((((w5.setCell ⟨g, ps.length * 7, none⟩ (.string key)).setCell ⟨g, ps.length * 7 + 1, none⟩ (.int .i64 uk)).setCell ⟨g, ps.length * 7 + 2, none⟩ (.bool ub)).setCell ⟨g, ps.length * 7 + 3, none⟩ (.int .i64 ui)).setCell ⟨g, ps.length * 7 + 4, none⟩ (.string us)).setCell ⟨g, ps.length * 7 + 5, none⟩ (.slice ual unl ucl)).setCell ⟨g, ps.length * 7 + 6, none⟩ (.slice uam unm ucm)).frozen? ⟨w.heap.size + 1, 5, none⟩ = false := frozen_of_block ((oA _ (fun h => hgn h.symm)).trans hv5) 5
       have mf : ∀ ii, (w5.setCell ⟨w.heap.size + 1, 5, none⟩ (.slice (some ⟨g, 0, none⟩) (ps.length + 1) cap)).frozen? ⟨g, ii, none⟩ = false := fun ii => (frozen_other (oM g hgn) ii).trans (bf ii)
       have m0 : (w5.setCell ⟨w.heap.size + 1, 5, none⟩ (.slice (some ⟨g, 0, none⟩) (ps.length + 1) cap)).cell? ⟨g, ps.length * 7, none⟩ = some (.string ⟨#[]⟩) := (World.cell?_of_block (w := w5) (a := ⟨g, ps.length * 7, none⟩) (oM g hgn)).trans b0
       have m1 : (w5.setCell ⟨w.heap.size + 1, 5, none⟩ (.slice (some ⟨g, 0, none⟩) (ps.length + 1) cap)).cell? ⟨g, ps.length * 7 + 1, none⟩ = some (.int .i64 0) := (World.cell?_of_block (w := w5) (a := ⟨g, ps.length * 7 + 1, none⟩) (oM g hgn)).trans b1
       have m2 : (w5.setCell ⟨w.heap.size + 1, 5, none⟩ (.slice (some ⟨g, 0, none⟩) (ps.length + 1) cap)).cell? ⟨g, ps.length * 7 + 2, none⟩ = some (.bool false) := (World.cell?_of_block (w := w5) (a := ⟨g, ps.length * 7 + 2, none⟩) (oM g hgn)).trans b2
       have m3 : (w5.setCell ⟨w.heap.size + 1, 5, none⟩ (.slice (some ⟨g, 0, none⟩) (ps.length + 1) cap)).cell? ⟨g, ps.length * 7 + 3, none⟩ = some (.int .i64 0) := (World.cell?_of_block (w := w5) (a := ⟨g, ps.length * 7 + 3, none⟩) (oM g hgn)).trans b3
       have m4 : (w5.setCell ⟨w.heap.size + 1, 5, none⟩ (.slice (some ⟨g, 0, none⟩) (ps.length + 1) cap)).cell? ⟨g, ps.length * 7 + 4, none⟩ = some (.string ⟨#[]⟩) := (World.cell?_of_block (w := w5) (a := ⟨g, ps.length * 7 + 4, none⟩) (oM g hgn)).trans b4
       have m5 : (w5.setCell ⟨w.heap.size + 1, 5, none⟩ (.slice (some ⟨g, 0, none⟩) (ps.length + 1) cap)).cell? ⟨g, ps.length * 7 + 5, none⟩ = some (.slice none 0 0) := (World.cell?_of_block (w := w5) (a := ⟨g, ps.length * 7 + 5, none⟩) (oM g hgn)).trans b5
       have m6 : (w5.setCell ⟨w.heap.size + 1, 5, none⟩ (.slice (some ⟨g, 0, none⟩) (ps.length + 1) cap)).cell? ⟨g, ps.length * 7 + 6, none⟩ = some (.slice none 0 0) := (World.cell?_of_block (w := w5) (a := ⟨g, ps.length * 7 + 6, none⟩) (oM g hgn)).trans b6
       refine ryA [9, 11] ?_
       refine rA2 (fun K hK => ?_) fun K hK => ?_
       ·go_simp
        refine hK.out _ _ ((oA W.heap.size hgx).trans hX5) (fun hHeld => ?_)
        clear hK K
        (try simp only [Act.put, zA, zB, zC])
        refine ryA [11] ?_
        refine rA1 fun K hK => ?_
        go_simp
        refine hK.out _ _ ((E1.o_ W.heap.size hgx (by omega)).trans hX5) (fun hHeld => ?_)
        clear hK K
        (try simp only [Act.put, zA, zB, zC])
        refine wpAnyH_done (by kernel_rfl) ?_ _
        have R1 := round_at (by omega) hS1 h6 bW rfl rfl ho hp hb2 hx2 h5 g5 l5 E1
        gi_wp2
        exact hfin _ R1
       ·go_simp
        refine hK.out _ _ ((oM W.heap.size (by omega)).trans hX5) (fun hHeld => ?_)
        clear hK K
        (try simp only [Act.put, zA, zB, zC])
        refine ryA [9] ?_
        refine rA1 fun K hK => ?_
        go_simp
        refine hK.out _ _ ((E2.o_ W.heap.size hgx (by omega)).trans hX5) (fun hHeld => ?_)
        clear hK K
        (try simp only [Act.put, zA, zB, zC])
        refine wpAnyH_done (by kernel_rfl) ?_ _
        have R1 := round_at (by omega) hS1 h6 bW rfl rfl ho hp hb2 hx2 h5 g5 l5 E2
        gi_wp2
        exact hfin _ R1
      ·go_simp
       refine hK.out _ _ hX2 (fun hHeld => ?_)
       clear hK K
       (try simp only [Act.put, zA, zB, zC])
       refine ryA [1] ?_
       refine rA1 fun K hK => ?_
       go_simp
       refine hK.out _ _ hX2 (fun hHeld => ?_)
       clear hK K
       (try simp only [Act.put, zA, zB, zC])
       (refine tjA 5 ?_; (try simp only [Act.put, zA, zB, zC]))
       generalize (Wk.alloc (.cells #[.string ⟨#[]⟩, .int .i64 0, .bool false, .int .i64 0, .string ⟨#[]⟩, .slice none 0 0, .slice none 0 0] 57)).drew = W2 at *
       refine ryA [7] ?_
       refine rA1 fun K hK => ?_
       refine step_blank rfl (.tmp 55) (.tmp 60) rfl (w.heap.size + 4) (.slice sa ps.length sc) ps.length _ rfl ho2 Wk.heap.size rfl nb (by omega) (by omega) ?_
       intro g cap w5 h5 g5 l5
       have hX5 : w5.heap[W.heap.size]? = some (.cells #[.int .i64 uk, .bool ub, .int .i64 ui, .string us, .slice ual unl ucl, .slice uam unm ucm] 25) := (g5.block W.heap.size (by omega) (fun h => hBo h.symm)).trans hX2
       refine hK.out _ _ hX5 (fun hHeld => ?_)
       clear hK K
       (try simp only [Act.put, zA, zB, zC])
       have hgn : g ≠ w.heap.size + 1 := by have := (World.ownsRow.lt h5 g rfl).1; omega
       have hgx : W.heap.size ≠ g := fun h => by
        rcases l5 with l5 | l5
        ·exact hBo (by rw [h]; exact l5)
        ·omega
       have yN : (ps.length : Int) < ((ps.length + 1 : Nat) : Int) := by omega
       have yN2 : (ps.length : Int) < (ps.length : Int) + 1 := by omega
       (refine tjA 8 ?_; (try simp only [Act.put, zA, zB, zC]))
       (refine tjA 10 ?_; (try simp only [Act.put, zA, zB, zC]))
       have hv5 : w5.heap[w.heap.size + 1]? = some (.cells #[.int .i64 5, .bool false, .int .i64 0, .string ⟨#[]⟩, .slice none 0 0, .slice sa ps.length sc] 25) := (g5.block _ (by omega) (fun h => by have := (hown _ h.symm).1; omega)).trans hv2
       have c5 : w5.cell? ⟨w.heap.size + 1, 5, none⟩ = some (.slice sa ps.length sc) := by rw [cell_of_block hv5]; rfl
       have f5 : w5.frozen? ⟨w.heap.size + 1, 5, none⟩ = false := frozen_of_block hv5 5
       obtain ⟨bc, bf⟩ := blank_cells h5 ho2.1
       have b0 : w5.cell? ⟨g, ps.length * 7, none⟩ = some (.string ⟨#[]⟩) := bc 0 _ rfl
       have b1 : w5.cell? ⟨g, ps.length * 7 + 1, none⟩ = some (.int .i64 0) := bc 1 _ rfl
       have b2 : w5.cell? ⟨g, ps.length * 7 + 2, none⟩ = some (.bool false) := bc 2 _ rfl
       have b3 : w5.cell? ⟨g, ps.length * 7 + 3, none⟩ = some (.int .i64 0) := bc 3 _ rfl
       have b4 : w5.cell? ⟨g, ps.length * 7 + 4, none⟩ = some (.string ⟨#[]⟩) := bc 4 _ rfl
       have b5 : w5.cell? ⟨g, ps.length * 7 + 5, none⟩ = some (.slice none 0 0) := bc 5 _ rfl
       have b6 : w5.cell? ⟨g, ps.length * 7 + 6, none⟩ = some (.slice none 0 0) := bc 6 _ rfl
       have E1 := end1 (n := ps.length) hgn hv5 (.slice (some ⟨g, 0, none⟩) (ps.length + 1) cap) (.string key) (.int .i64 uk) (.bool ub) (.int .i64 ui) (.string us) (.slice ual unl ucl) (.slice uam unm ucm)
       have E2 := end2 (n := ps.length) hgn hv5 (.slice (some ⟨g, 0, none⟩) (ps.length + 1) cap) (.string key) (.int .i64 uk) (.bool ub) (.int .i64 ui) (.string us) (.slice ual unl ucl) (.slice uam unm ucm)
       have oA : ∀ z, z ≠ g → (((((((w5.setCell ⟨g, ps.length * 7, none⟩ (.string key)).setCell ⟨g, ps.length * 7 + 1, none⟩ (.int .i64 uk)).setCell ⟨g, ps.length * 7 + 2, none⟩ (.bool ub)).setCell ⟨g, ps.length * 7 + 3, none⟩ (.int .i64 ui)).setCell ⟨g, ps.length * 7 + 4, none⟩ (.string us)).setCell ⟨g, ps.length * 7 + 5, none⟩ (.slice ual unl ucl)).setCell ⟨g, ps.length * 7 + 6, none⟩ (.slice uam unm ucm)).heap[z]? = w5.heap[z]? := fun z hz => sets7_o w5 g ps.length (.string key) (.int .i64 uk) (.bool ub) (.int .i64 ui) (.string us) (.slice ual unl ucl) (.slice uam unm ucm) z hz
       have oM : ∀ z, z ≠ w.heap.size + 1 → (w5.setCell ⟨w.heap.size + 1, 5, none⟩ (.slice (some ⟨g, 0, none⟩) (ps.length + 1) cap)).heap[z]? = w5.heap[z]? := fun z hz => set_other hz
       have a5 : (((((((w5.setCell ⟨g, ps.length * 7, none⟩ (.string key)).setCell ⟨g, ps.length * 7 + 1, none⟩ (.int .i64 uk)).setCell ⟨g, ps.length * 7 + 2, none⟩ (.bool ub)).setCell ⟨g, ps.length * 7 + 3, none⟩ (.int .i64 ui)).setCell ⟨g, ps.length * 7 + 4, none⟩ (.string us)).setCell ⟨g, ps.length * 7 + 5, none⟩ (.slice ual unl ucl)).setCell ⟨g, ps.length * 7 + 6, none⟩ (.slice uam unm ucm)).cell? ⟨w.heap.size + 1, 5, none⟩ = some (.slice sa ps.length sc) := (World.cell?_of_block (w := w5) (a := ⟨w.heap.size + 1, 5, none⟩) (oA _ (fun h => hgn h.symm))).trans c5
       have af : (((((((w5.setCell ⟨g, ps.length * 7, none⟩ (.string key)).setCell ⟨g, ps.length * 7 + 1, none⟩ (.int .i64 uk)).setCell ⟨g, ps.length * 7 + 2, none⟩ (.bool ub)).setCell ⟨g, ps.length * 7 + 3, none⟩ (.int .i64 ui)).setCell ⟨g, ps.length * 7 + 4, none⟩ (.string us)).setCell ⟨g, ps.length * 7 + 5, none⟩ (.slice ual unl ucl)).setCell ⟨g, ps.length * 7 + 6, none⟩ (.slice uam unm ucm)).frozen? ⟨w.heap.size + 1, 5, none⟩ = false := frozen_of_block ((oA _ (fun h => hgn h.symm)).trans hv5) 5
       have mf : ∀ ii, (w5.setCell ⟨w.heap.size + 1, 5, none⟩ (.slice (some ⟨g, 0, none⟩) (ps.length + 1) cap)).frozen? ⟨g, ii, none⟩ = false := fun ii => (frozen_other (oM g hgn) ii).trans (bf ii)
       have m0 : (w5.setCell ⟨w.heap.size + 1, 5, none⟩ (.slice (some ⟨g, 0, none⟩) (ps.length + 1) cap)).cell? ⟨g, ps.length * 7, none⟩ = some (.string ⟨#[]⟩) := (World.cell?_of_block (w := w5) (a := ⟨g, ps.length * 7, none⟩) (oM g hgn)).trans b0
       have m1 : (w5.setCell ⟨w.heap.size + 1, 5, none⟩ (.slice (some ⟨g, 0, none⟩) (ps.length + 1) cap)).cell? ⟨g, ps.length * 7 + 1, none⟩ = some (.int .i64 0) := (World.cell?_of_block (w := w5) (a := ⟨g, ps.length * 7 + 1, none⟩) (oM g hgn)).trans b1
       have m2 : (w5.setCell ⟨w.heap.size + 1, 5, none⟩ (.slice (some ⟨g, 0, none⟩) (ps.length + 1) cap)).cell? ⟨g, ps.length * 7 + 2, none⟩ = some (.bool false) := (World.cell?_of_block (w := w5) (a := ⟨g, ps.length * 7 + 2, none⟩) (oM g hgn)).trans b2
       have m3 : (w5.setCell ⟨w.heap.size + 1, 5, none⟩ (.slice (some ⟨g, 0, none⟩) (ps.length + 1) cap)).cell? ⟨g, ps.length * 7 + 3, none⟩ = some (.int .i64 0) := (World.cell?_of_block (w := w5) (a := ⟨g, ps.length * 7 + 3, none⟩) (oM g hgn)).trans b3
       have m4 : (w5.setCell ⟨w.heap.size + 1, 5, none⟩ (.slice (some ⟨g, 0, none⟩) (ps.length + 1) cap)).cell? ⟨g, ps.length * 7 + 4, none⟩ = some (.string ⟨#[]⟩) := (World.cell?_of_block (w := w5) (a := ⟨g, ps.length * 7 + 4, none⟩) (oM g hgn)).trans b4
       have m5 : (w5.setCell ⟨w.heap.size + 1, 5, none⟩ (.slice (some ⟨g, 0, none⟩) (ps.length + 1) cap)).cell? ⟨g, ps.length * 7 + 5, none⟩ = some (.slice none 0 0) := (World.cell?_of_block (w := w5) (a := ⟨g, ps.length * 7 + 5, none⟩) (oM g hgn)).trans b5
       have m6 : (w5.setCell ⟨w.heap.size + 1, 5, none⟩ (.slice (some ⟨g, 0, none⟩) (ps.length + 1) cap)).cell? ⟨g, ps.length * 7 + 6, none⟩ = some (.slice none 0 0) := (World.cell?_of_block (w := w5) (a := ⟨g, ps.length * 7 + 6, none⟩) (oM g hgn)).trans b6
       refine ryA [9, 11] ?_
       refine rA2 (fun K hK => ?_) fun K hK => ?_
       ·go_simp
        refine hK.out _ _ ((oA W.heap.size hgx).trans hX5) (fun hHeld => ?_)
        clear hK K
        (try simp only [Act.put, zA, zB, zC])
        refine ryA [11] ?_
        refine rA1 fun K hK => ?_
        go_simp
        refine hK.out _ _ ((E1.o_ W.heap.size hgx (by omega)).trans hX5) (fun hHeld => ?_)
        clear hK K
        (try simp only [Act.put, zA, zB, zC])
        refine wpAnyH_done (by kernel_rfl) ?_ _
        have R1 := round_at (by omega) hS1 h6 bW rfl rfl ho hp hb2 hx2 h5 g5 l5 E1
        gi_wp2
        exact hfin _ R1
       ·go_simp
        refine hK.out _ _ ((oM W.heap.size (by omega)).trans hX5) (fun hHeld => ?_)
        clear hK K
        (try simp only [Act.put, zA, zB, zC])
        refine ryA [9] ?_
        refine rA1 fun K hK => ?_
        go_simp
        refine hK.out _ _ ((E2.o_ W.heap.size hgx (by omega)).trans hX5) (fun hHeld => ?_)
        clear hK K
        (try simp only [Act.put, zA, zB, zC])
        refine wpAnyH_done (by kernel_rfl) ?_ _
        have R1 := round_at (by omega) hS1 h6 bW rfl rfl ho hp hb2 hx2 h5 g5 l5 E2
        gi_wp2
        exact hfin _ R1
   ·cases xf
    ·have h0 := hG.n rfl
     simp only at h0
     have yk5 : (yk == 5) = false := by rw [← hka, h0]; rfl
     clear h0
     have hne : ¬ (false = true ∧ eqlV va vb = true) := by simp
     clear hka hkb
     gi_wp2
     refine ⟨trivial, ?_⟩
     clear x0 x1 x2 x3 x4 x5 x6 x7 x8 x9 x10 x11 x12 x13
     have xx := cells14 bXz
     generalize (W.alloc (.cells #[.int .i64 0, .bool false, .int .i64 0, .string ⟨#[]⟩, .slice none 0 0, .slice none 0 0] 25)) = Wz at *
     obtain ⟨x0, x1, x2, x3, x4, x5, x6, x7, x8, x9, x10, x11, x12, x13⟩ := xx
     have CL := V.lies_keep (fun h => h) (fun y hy => (hbz.block y (by have := hS y hy; omega)).trans (hkW y hy)) (fun _ h => h) _ hG.b
     cases hcl : clnB vb
     ·have hsD : stD f (⟨key, va, vb, [.int .i64 yk, .bool yb, .int .i64 yi, .string ys, .slice yal ynl ycl, .slice yam ynm ycm], [.int .i64 zk, .bool zb, .int .i64 zi, .string zs, .slice zal znl zcl, .slice zam znm zcm], false, true⟩ : Pr) = none := by first | (unfold stD; dsimp only; rw [if_neg (by decide), if_neg hkk, if_neg hne, if_neg (by rw [hcl]; decide)]) | simp [stD, hkk, hne, hcl]
      have hpn : ∀ We, Below W.heap.size W We → KeepsFrom w6.heap.size W We ∧ (∃ p x, (pre ++ [(⟨key, va, vb, [.int .i64 yk, .bool yb, .int .i64 yi, .string ys, .slice yal ynl ycl, .slice yam ynm ycm], [.int .i64 zk, .bool zb, .int .i64 zi, .string zs, .slice zal znl zcl, .slice zam znm zcm], false, true⟩ : Pr)]) = p ++ [x] ∧ stD f x = none) ∧ Below (w.heap.size + 1) w6 We := fun We h => by
       obtain ⟨a1, a2, sl', a3, a4, a5⟩ := round_skip (by omega) hS1 h6 bW acc0 v1 h
       rw [h6]
       exact ⟨a1, ⟨pre, _, rfl, hsD⟩, a5⟩
      have CP := putin_pan vb S _ Wz low (hE.below (bwW.trans (hbz.mono (by omega))) hE.z) hcl CL (fun y hy => by have := hS y hy; omega)
      clear hkk hne
      gi_wp2
      refine ⟨trivial, (CallsIn.inRound lp (callsIn_wide.2 CP)).mono ?_⟩
      rintro e_ Wc ⟨rfl, bu⟩
      gi_wp2
      have hq := hpn Wc (hbz.trans (bu.mono (by omega)))
      exact ⟨rfl, hq.1, rfl, hq.2.1, hq.2.2⟩
     ·have hsD : stD f (⟨key, va, vb, [.int .i64 yk, .bool yb, .int .i64 yi, .string ys, .slice yal ynl ycl, .slice yam ynm ycm], [.int .i64 zk, .bool zb, .int .i64 zi, .string zs, .slice zal znl zcl, .slice zam znm zcm], false, true⟩ : Pr) = some [(key, vb)] := by first | (unfold stD; dsimp only; rw [if_neg (by decide), if_neg hkk, if_neg hne, if_pos hcl]) | simp [stD, hkk, hne, hcl]
      have hfin : ∀ We, (KeepsFrom (w.heap.size + 4) W We ∧ Kx (w.heap.size + 4) (w.heap.size + 1) W We ∧ ∃ sl', We.heap[w.heap.size + 1]? = some (.cells #[.int .i64 5, .bool false, .int .i64 0, .string ⟨#[]⟩, .slice none 0 0, sl'] 25) ∧ AccK S (w.heap.size + 4) (ps.map (fun q => q.1) ++ [(key, vb)]) sl' We ∧ Below (w.heap.size + 1) w6 We) → KeepsFrom w6.heap.size W We ∧ Kx (w.heap.size + 4) (w.heap.size + 1) W We ∧ ∃ ms sl, stDs f (pre ++ [(⟨key, va, vb, [.int .i64 yk, .bool yb, .int .i64 yi, .string ys, .slice yal ynl ycl, .slice yam ynm ycm], [.int .i64 zk, .bool zb, .int .i64 zi, .string zs, .slice zal znl zcl, .slice zam znm zcm], false, true⟩ : Pr)]) = some ms ∧ We.heap[w.heap.size + 1]? = some (.cells #[.int .i64 5, .bool false, .int .i64 0, .string ⟨#[]⟩, .slice none 0 0, sl] 25) ∧ AccK S (w.heap.size + 4) ms sl We ∧ Below (w.heap.size + 1) w6 We := fun We h => by
       rw [h6]
       obtain ⟨a1, a2, sl', a3, a4, a5⟩ := h
       exact ⟨a1, a2, _, sl', stDs_snoc hms hsD, a3, a4, a5⟩
      have CP := putin_any vb S _ Wz hcl CL (fun y hy => by have := hS y hy; omega)
      clear hkk hne
      gi_wp2
      refine ⟨trivial, (CallsIn.inRound lp (callsIn_wide.2 CP)).mono ?_⟩
      rintro e_ Wc ⟨cu, rfl, hu0, bu⟩
      clear CP
      obtain ⟨uk, ub, ui, us, ual, unl, ucl, uam, unm, ucm, rfl⟩ := V.ten hu0
      have hzu := bu.size
      have hstc := (bu.block W.heap.size (by omega)).trans hst
      obtain ⟨cz0, cz1, cz2, cz3, cz4, cz5⟩ := sixC hstc
      have fz := frozen_of_block hstc
      have ho6 := six_o Wc W.heap.size (.int .i64 uk) (.bool ub) (.int .i64 ui) (.string us) (.slice ual unl ucl) (.slice uam unm ucm)
      have hz6 := six_z Wc W.heap.size (.int .i64 uk) (.bool ub) (.int .i64 ui) (.string us) (.slice ual unl ucl) (.slice uam unm ucm)
      have hbk : Below W.heap.size W ((((((Wc.setCell ⟨W.heap.size, 0, none⟩ (.int .i64 uk)).setCell ⟨W.heap.size, 1, none⟩ (.bool ub)).setCell ⟨W.heap.size, 2, none⟩ (.int .i64 ui)).setCell ⟨W.heap.size, 3, none⟩ (.string us)).setCell ⟨W.heap.size, 4, none⟩ (.slice ual unl ucl)).setCell ⟨W.heap.size, 5, none⟩ (.slice uam unm ucm)) := Below.set6 (hbz.trans (bu.mono (by omega))) (M := W.heap.size) (Nat.le_refl _) 0 1 2 3 4 5 (.int .i64 uk) (.bool ub) (.int .i64 ui) (.string us) (.slice ual unl ucl) (.slice uam unm ucm)
      have hst6 := box_six hstc (.int .i64 uk) (.bool ub) (.int .i64 ui) (.string us) (.slice ual unl ucl) (.slice uam unm ucm)
      have hu : (vb).lies false ((((((Wc.setCell ⟨W.heap.size, 0, none⟩ (.int .i64 uk)).setCell ⟨W.heap.size, 1, none⟩ (.bool ub)).setCell ⟨W.heap.size, 2, none⟩ (.int .i64 ui)).setCell ⟨W.heap.size, 3, none⟩ (.string us)).setCell ⟨W.heap.size, 4, none⟩ (.slice ual unl ucl)).setCell ⟨W.heap.size, 5, none⟩ (.slice uam unm ucm)) (fun y => S y ∨ (W.heap.size ≤ y ∧ y < ((((((Wc.setCell ⟨W.heap.size, 0, none⟩ (.int .i64 uk)).setCell ⟨W.heap.size, 1, none⟩ (.bool ub)).setCell ⟨W.heap.size, 2, none⟩ (.int .i64 ui)).setCell ⟨W.heap.size, 3, none⟩ (.string us)).setCell ⟨W.heap.size, 4, none⟩ (.slice ual unl ucl)).setCell ⟨W.heap.size, 5, none⟩ (.slice uam unm ucm)).heap.size)) [.int .i64 uk, .bool ub, .int .i64 ui, .string us, .slice ual unl ucl, .slice uam unm ucm] := V.lies_keep (fun h => h) (fun y hy => ho6 y (by rcases hy with hy | hy <;> first | (have := hS y hy; omega) | (have := hy.1; omega))) (fun y hy => hy.elim .inl (fun h => .inr ⟨by have := h.1; omega, by have := h.2; omega⟩)) _ hu0
      have hkz : W.heap.size < ((((((Wc.setCell ⟨W.heap.size, 0, none⟩ (.int .i64 uk)).setCell ⟨W.heap.size, 1, none⟩ (.bool ub)).setCell ⟨W.heap.size, 2, none⟩ (.int .i64 ui)).setCell ⟨W.heap.size, 3, none⟩ (.string us)).setCell ⟨W.heap.size, 4, none⟩ (.slice ual unl ucl)).setCell ⟨W.heap.size, 5, none⟩ (.slice uam unm ucm)).heap.size := by omega
      have h12 := hmk (And.intro hbk (And.intro hst6 (And.intro hu hkz)))
      clear hbk hst6 hu hkz ho6 hz6 hu0 hsz
      gi_wp2
      clear cz0 cz1 cz2 cz3 cz4 cz5 fz hst
      obtain ⟨hbk, hst, hu, hkz⟩ := h12.out
      clear h12
      generalize ((((((Wc.setCell ⟨W.heap.size, 0, none⟩ (.int .i64 uk)).setCell ⟨W.heap.size, 1, none⟩ (.bool ub)).setCell ⟨W.heap.size, 2, none⟩ (.int .i64 ui)).setCell ⟨W.heap.size, 3, none⟩ (.string us)).setCell ⟨W.heap.size, 4, none⟩ (.slice ual unl ucl)).setCell ⟨W.heap.size, 5, none⟩ (.slice uam unm ucm)) = Wk at *
      refine round_held_drew (S := fun X => X.heap[W.heap.size]? = some (.cells #[.int .i64 uk, .bool ub, .int .i64 ui, .string us, .slice ual unl ucl, .slice uam unm ucm] 25)) (by kernel_rfl) (by kernel_rfl) (by rintro ⟨_, _, h⟩; exact h) hst (fun hHeld => ?_)
      (refine tjA 0 ?_; (try simp only [Act.put, zA, zB, zC]))
      (refine tjA 2 ?_; (try simp only [Act.put, zA, zB, zC]))
      (refine tkA 3 ?_ ?_ ?_; rotate_left 1; (intro W0 hSw; (have z0_ : W0.cell? ⟨W.heap.size, 0, none⟩ = some (.int .i64 uk) := (by rw [cell_of_block hSw]; rfl); have z1_ : W0.cell? ⟨W.heap.size, 1, none⟩ = some (.bool ub) := (by rw [cell_of_block hSw]; rfl); have z2_ : W0.cell? ⟨W.heap.size, 2, none⟩ = some (.int .i64 ui) := (by rw [cell_of_block hSw]; rfl); have z3_ : W0.cell? ⟨W.heap.size, 3, none⟩ = some (.string us) := (by rw [cell_of_block hSw]; rfl); have z4_ : W0.cell? ⟨W.heap.size, 4, none⟩ = some (.slice ual unl ucl) := (by rw [cell_of_block hSw]; rfl); have z5_ : W0.cell? ⟨W.heap.size, 5, none⟩ = some (.slice uam unm ucm) := (by rw [cell_of_block hSw]; rfl)); go_simp; (try with_reducible rfl)); (try simp only [Act.put, zA, zB, zC]))
      (refine tjA 4 ?_; (try simp only [Act.put, zA, zB, zC]))
      have hbe : Below Wk.heap.size Wk (Wk.alloc (.cells #[.string ⟨#[]⟩, .int .i64 0, .bool false, .int .i64 0, .string ⟨#[]⟩, .slice none 0 0, .slice none 0 0] 57)).drew := (one_belowG Wk _).drew
      have hb2 : Below W.heap.size W (Wk.alloc (.cells #[.string ⟨#[]⟩, .int .i64 0, .bool false, .int .i64 0, .string ⟨#[]⟩, .slice none 0 0, .slice none 0 0] 57)).drew := hbk.trans (hbe.mono (by omega))
      have hz2 : (Wk.alloc (.cells #[.string ⟨#[]⟩, .int .i64 0, .bool false, .int .i64 0, .string ⟨#[]⟩, .slice none 0 0, .slice none 0 0] 57)).drew.heap.size = Wk.heap.size + 1 := alloc_size _ _
      have nb : (Wk.alloc (.cells #[.string ⟨#[]⟩, .int .i64 0, .bool false, .int .i64 0, .string ⟨#[]⟩, .slice none 0 0, .slice none 0 0] 57)).drew.heap[Wk.heap.size]? = some (.cells #[.string ⟨#[]⟩, .int .i64 0, .bool false, .int .i64 0, .string ⟨#[]⟩, .slice none 0 0, .slice none 0 0] 57) := heap_alloc_new Wk _
      have hX2 := (hbe.block W.heap.size (by omega)).trans hst
      have hv2 := (hb2.block (w.heap.size + 1) (by omega)).trans v1
      have ho2 := ho.below hb2
      unfold OwnC at ho2
      rw [List.length_map] at ho2
      have hx2 : PM (Wk.alloc (.cells #[.string ⟨#[]⟩, .int .i64 0, .bool false, .int .i64 0, .string ⟨#[]⟩, .slice none 0 0, .slice none 0 0] 57)).drew (fun y => S y ∨ (W.heap.size ≤ y ∧ y < (Wk.alloc (.cells #[.string ⟨#[]⟩, .int .i64 0, .bool false, .int .i64 0, .string ⟨#[]⟩, .slice none 0 0, .slice none 0 0] 57)).drew.heap.size)) ((key, vb), [.string key, .int .i64 uk, .bool ub, .int .i64 ui, .string us, .slice ual unl ucl, .slice uam unm ucm]) := ⟨_, rfl, hG.k, V.lies_keep (fun h => h) (fun y hy => hbe.block y (by rcases hy with hy | hy <;> first | omega | (have := hS y hy; omega))) (fun y hy => hy.elim .inl (fun h => .inr ⟨h.1, by omega⟩)) _ hu⟩
      have ck : Wk.cell? ⟨w.heap.size + 1, 5, none⟩ = some (.slice sa ps.length sc) := (World.cell?_of_block (w := W) (a := ⟨w.heap.size + 1, 5, none⟩) (hbk.block (w.heap.size + 1) (by omega))).trans c3
      have cka : ∀ o, (Wk.alloc o).cell? ⟨w.heap.size + 1, 5, none⟩ = some (.slice sa ps.length sc) := fun o => (World.cell?_of_block (w := Wk) (a := ⟨w.heap.size + 1, 5, none⟩) (Below.heap_alloc Wk o (w.heap.size + 1) (by omega))).trans ck
      refine ryA [1, 6] ?_
      refine rA2 (fun K hK => ?_) fun K hK => ?_
      ·go_simp
       refine hK.out _ _ hst (fun hHeld => ?_)
       clear hK K
       (try simp only [Act.put, zA, zB, zC])
       (refine tjA 5 ?_; (try simp only [Act.put, zA, zB, zC]))
       refine ryA [6] ?_
       refine rA1 fun K hK => ?_
       go_simp
       refine hK.out _ _ hX2 (fun hHeld => ?_)
       clear hK K
       (try simp only [Act.put, zA, zB, zC])
       generalize (Wk.alloc (.cells #[.string ⟨#[]⟩, .int .i64 0, .bool false, .int .i64 0, .string ⟨#[]⟩, .slice none 0 0, .slice none 0 0] 57)).drew = W2 at *
       refine ryA [7] ?_
       refine rA1 fun K hK => ?_
       refine step_blank rfl (.tmp 55) (.tmp 60) rfl (w.heap.size + 4) (.slice sa ps.length sc) ps.length _ rfl ho2 Wk.heap.size rfl nb (by omega) (by omega) ?_
       intro g cap w5 h5 g5 l5
       have hX5 : w5.heap[W.heap.size]? = some (.cells #[.int .i64 uk, .bool ub, .int .i64 ui, .string us, .slice ual unl ucl, .slice uam unm ucm] 25) := (g5.block W.heap.size (by omega) (fun h => hBo h.symm)).trans hX2
       refine hK.out _ _ hX5 (fun hHeld => ?_)
       clear hK K
       (try simp only [Act.put, zA, zB, zC])
       have hgn : g ≠ w.heap.size + 1 := by have := (World.ownsRow.lt h5 g rfl).1; omega
       have hgx : W.heap.size ≠ g := fun h => by
        rcases l5 with l5 | l5
        ·exact hBo (by rw [h]; exact l5)
        ·omega
       have yN : (ps.length : Int) < ((ps.length + 1 : Nat) : Int) := by omega
       have yN2 : (ps.length : Int) < (ps.length : Int) + 1 := by omega
       (refine tjA 8 ?_; (try simp only [Act.put, zA, zB, zC]))
       (refine tjA 10 ?_; (try simp only [Act.put, zA, zB, zC]))
       have hv5 : w5.heap[w.heap.size + 1]? = some (.cells #[.int .i64 5, .bool false, .int .i64 0, .string ⟨#[]⟩, .slice none 0 0, .slice sa ps.length sc] 25) := (g5.block _ (by omega) (fun h => by have := (hown _ h.symm).1; omega)).trans hv2
       have c5 : w5.cell? ⟨w.heap.size + 1, 5, none⟩ = some (.slice sa ps.length sc) := by rw [cell_of_block hv5]; rfl
       have f5 : w5.frozen? ⟨w.heap.size + 1, 5, none⟩ = false := frozen_of_block hv5 5
       obtain ⟨bc, bf⟩ := blank_cells h5 ho2.1
       have b0 : w5.cell? ⟨g, ps.length * 7, none⟩ = some (.string ⟨#[]⟩) := bc 0 _ rfl
       have b1 : w5.cell? ⟨g, ps.length * 7 + 1, none⟩ = some (.int .i64 0) := bc 1 _ rfl
       have b2 : w5.cell? ⟨g, ps.length * 7 + 2, none⟩ = some (.bool false) := bc 2 _ rfl
       have b3 : w5.cell? ⟨g, ps.length * 7 + 3, none⟩ = some (.int .i64 0) := bc 3 _ rfl
       have b4 : w5.cell? ⟨g, ps.length * 7 + 4, none⟩ = some (.string ⟨#[]⟩) := bc 4 _ rfl
       have b5 : w5.cell? ⟨g, ps.length * 7 + 5, none⟩ = some (.slice none 0 0) := bc 5 _ rfl
       have b6 : w5.cell? ⟨g, ps.length * 7 + 6, none⟩ = some (.slice none 0 0) := bc 6 _ rfl
       have E1 := end1 (n := ps.length) hgn hv5 (.slice (some ⟨g, 0, none⟩) (ps.length + 1) cap) (.string key) (.int .i64 uk) (.bool ub) (.int .i64 ui) (.string us) (.slice ual unl ucl) (.slice uam unm ucm)
       have E2 := end2 (n := ps.length) hgn hv5 (.slice (some ⟨g, 0, none⟩) (ps.length + 1) cap) (.string key) (.int .i64 uk) (.bool ub) (.int .i64 ui) (.string us) (.slice ual unl ucl) (.slice uam unm ucm)
       have oA : ∀ z, z ≠ g → (((((((w5.setCell ⟨g, ps.length * 7, none⟩ (.string key)).setCell ⟨g, ps.length * 7 + 1, none⟩ (.int .i64 uk)).setCell ⟨g, ps.length * 7 + 2, none⟩ (.bool ub)).setCell ⟨g, ps.length * 7 + 3, none⟩ (.int .i64 ui)).setCell ⟨g, ps.length * 7 + 4, none⟩ (.string us)).setCell ⟨g, ps.length * 7 + 5, none⟩ (.slice ual unl ucl)).setCell ⟨g, ps.length * 7 + 6, none⟩ (.slice uam unm ucm)).heap[z]? = w5.heap[z]? := fun z hz => sets7_o w5 g ps.length (.string key) (.int .i64 uk) (.bool ub) (.int .i64 ui) (.string us) (.slice ual unl ucl) (.slice uam unm ucm) z hz
       have oM : ∀ z, z ≠ w.heap.size + 1 → (w5.setCell ⟨w.heap.size + 1, 5, none⟩ (.slice (some ⟨g, 0, none⟩) (ps.length + 1) cap)).heap[z]? = w5.heap[z]? := fun z hz => set_other hz
       have a5 : (((((((w5.setCell ⟨g, ps.length * 7, none⟩ (.string key)).setCell ⟨g, ps.length * 7 + 1, none⟩ (.int .i64 uk)).setCell ⟨g, ps.length * 7 + 2, none⟩ (.bool ub)).setCell ⟨g, ps.length * 7 + 3, none⟩ (.int .i64 ui)).setCell ⟨g, ps.length * 7 + 4, none⟩ (.string us)).setCell ⟨g, ps.length * 7 + 5, none⟩ (.slice ual unl ucl)).setCell ⟨g, ps.length * 7 + 6, none⟩ (.slice uam unm ucm)).cell? ⟨w.heap.size + 1, 5, none⟩ = some (.slice sa ps.length sc) := (World.cell?_of_block (w := w5) (a := ⟨w.heap.size + 1, 5, none⟩) (oA _ (fun h => hgn h.symm))).trans c5
       have af : (((((((w5.setCell ⟨g, ps.length * 7, none⟩ (.string key)).setCell ⟨g, ps.length * 7 + 1, none⟩ (.int .i64 uk)).setCell ⟨g, ps.length * 7 + 2, none⟩ (.bool ub)).setCell ⟨g, ps.length * 7 + 3, none⟩ (.int .i64 ui)).setCell ⟨g, ps.length * 7 + 4, none⟩ (.string us)).setCell ⟨g, ps.length * 7 + 5, none⟩ (.slice ual unl ucl)).setCell ⟨g, ps.length * 7 + 6, none⟩ (.slice uam unm ucm)).frozen? ⟨w.heap.size + 1, 5, none⟩ = false := frozen_of_block ((oA _ (fun h => hgn h.symm)).trans hv5) 5
       have mf : ∀ ii, (w5.setCell ⟨w.heap.size + 1, 5, none⟩ (.slice (some ⟨g, 0, none⟩) (ps.length + 1) cap)).frozen? ⟨g, ii, none⟩ = false := fun ii => (frozen_other (oM g hgn) ii).trans (bf ii)
       have m0 : (w5.setCell ⟨w.heap.size + 1, 5, none⟩ (.slice (some ⟨g, 0, none⟩) (ps.length + 1) cap)).cell? ⟨g, ps.length * 7, none⟩ = some (.string ⟨#[]⟩) := (World.cell?_of_block (w := w5) (a := ⟨g, ps.length * 7, none⟩) (oM g hgn)).trans b0
       have m1 : (w5.setCell ⟨w.heap.size + 1, 5, none⟩ (.slice (some ⟨g, 0, none⟩) (ps.length + 1) cap)).cell? ⟨g, ps.length * 7 + 1, none⟩ = some (.int .i64 0) := (World.cell?_of_block (w := w5) (a := ⟨g, ps.length * 7 + 1, none⟩) (oM g hgn)).trans b1
       have m2 : (w5.setCell ⟨w.heap.size + 1, 5, none⟩ (.slice (some ⟨g, 0, none⟩) (ps.length + 1) cap)).cell? ⟨g, ps.length * 7 + 2, none⟩ = some (.bool false) := (World.cell?_of_block (w := w5) (a := ⟨g, ps.length * 7 + 2, none⟩) (oM g hgn)).trans b2
       have m3 : (w5.setCell ⟨w.heap.size + 1, 5, none⟩ (.slice (some ⟨g, 0, none⟩) (ps.length + 1) cap)).cell? ⟨g, ps.length * 7 + 3, none⟩ = some (.int .i64 0) := (World.cell?_of_block (w := w5) (a := ⟨g, ps.length * 7 + 3, none⟩) (oM g hgn)).trans b3
       have m4 : (w5.setCell ⟨w.heap.size + 1, 5, none⟩ (.slice (some ⟨g, 0, none⟩) (ps.length + 1) cap)).cell? ⟨g, ps.length * 7 + 4, none⟩ = some (.string ⟨#[]⟩) := (World.cell?_of_block (w := w5) (a := ⟨g, ps.length * 7 + 4, none⟩) (oM g hgn)).trans b4
       have m5 : (w5.setCell ⟨w.heap.size + 1, 5, none⟩ (.slice (some ⟨g, 0, none⟩) (ps.length + 1) cap)).cell? ⟨g, ps.length * 7 + 5, none⟩ = some (.slice none 0 0) := (World.cell?_of_block (w := w5) (a := ⟨g, ps.length * 7 + 5, none⟩) (oM g hgn)).trans b5
       have m6 : (w5.setCell ⟨w.heap.size + 1, 5, none⟩ (.slice (some ⟨g, 0, none⟩) (ps.length + 1) cap)).cell? ⟨g, ps.length * 7 + 6, none⟩ = some (.slice none 0 0) := (World.cell?_of_block (w := w5) (a := ⟨g, ps.length * 7 + 6, none⟩) (oM g hgn)).trans b6
       refine ryA [9, 11] ?_
       refine rA2 (fun K hK => ?_) fun K hK => ?_
       ·go_simp
        refine hK.out _ _ ((oA W.heap.size hgx).trans hX5) (fun hHeld => ?_)
        clear hK K
        (try simp only [Act.put, zA, zB, zC])
        refine ryA [11] ?_
        refine rA1 fun K hK => ?_
        go_simp
        refine hK.out _ _ ((E1.o_ W.heap.size hgx (by omega)).trans hX5) (fun hHeld => ?_)
        clear hK K
        (try simp only [Act.put, zA, zB, zC])
        refine wpAnyH_done (by kernel_rfl) ?_ _
        have R1 := round_at (by omega) hS1 h6 bW rfl rfl ho hp hb2 hx2 h5 g5 l5 E1
        gi_wp2
        exact hfin _ R1
       ·go_simp
        refine hK.out _ _ ((oM W.heap.size (by omega)).trans hX5) (fun hHeld => ?_)
        clear hK K
        (try simp only [Act.put, zA, zB, zC])
        refine ryA [9] ?_
        refine rA1 fun K hK => ?_
        go_simp
        refine hK.out _ _ ((E2.o_ W.heap.size hgx (by omega)).trans hX5) (fun hHeld => ?_)
        clear hK K
        (try simp only [Act.put, zA, zB, zC])
        refine wpAnyH_done (by kernel_rfl) ?_ _
        have R1 := round_at (by omega) hS1 h6 bW rfl rfl ho hp hb2 hx2 h5 g5 l5 E2
        gi_wp2
        exact hfin _ R1
      ·go_simp
       refine hK.out _ _ hX2 (fun hHeld => ?_)
       clear hK K
       (try simp only [Act.put, zA, zB, zC])
       refine ryA [1] ?_
       refine rA1 fun K hK => ?_
       go_simp
       refine hK.out _ _ hX2 (fun hHeld => ?_)
       clear hK K
       (try simp only [Act.put, zA, zB, zC])
       (refine tjA 5 ?_; (try simp only [Act.put, zA, zB, zC]))
       generalize (Wk.alloc (.cells #[.string ⟨#[]⟩, .int .i64 0, .bool false, .int .i64 0, .string ⟨#[]⟩, .slice none 0 0, .slice none 0 0] 57)).drew = W2 at *
       refine ryA [7] ?_
       refine rA1 fun K hK => ?_
       refine step_blank rfl (.tmp 55) (.tmp 60) rfl (w.heap.size + 4) (.slice sa ps.length sc) ps.length _ rfl ho2 Wk.heap.size rfl nb (by omega) (by omega) ?_
       intro g cap w5 h5 g5 l5
       have hX5 : w5.heap[W.heap.size]? = some (.cells #[.int .i64 uk, .bool ub, .int .i64 ui, .string us, .slice ual unl ucl, .slice uam unm ucm] 25) := (g5.block W.heap.size (by omega) (fun h => hBo h.symm)).trans hX2
       refine hK.out _ _ hX5 (fun hHeld => ?_)
       clear hK K
       (try simp only [Act.put, zA, zB, zC])
       have hgn : g ≠ w.heap.size + 1 := by have := (World.ownsRow.lt h5 g rfl).1; omega
       have hgx : W.heap.size ≠ g := fun h => by
        rcases l5 with l5 | l5
        ·exact hBo (by rw [h]; exact l5)
        ·omega
       have yN : (ps.length : Int) < ((ps.length + 1 : Nat) : Int) := by omega
       have yN2 : (ps.length : Int) < (ps.length : Int) + 1 := by omega
       (refine tjA 8 ?_; (try simp only [Act.put, zA, zB, zC]))
       (refine tjA 10 ?_; (try simp only [Act.put, zA, zB, zC]))
       have hv5 : w5.heap[w.heap.size + 1]? = some (.cells #[.int .i64 5, .bool false, .int .i64 0, .string ⟨#[]⟩, .slice none 0 0, .slice sa ps.length sc] 25) := (g5.block _ (by omega) (fun h => by have := (hown _ h.symm).1; omega)).trans hv2
       have c5 : w5.cell? ⟨w.heap.size + 1, 5, none⟩ = some (.slice sa ps.length sc) := by rw [cell_of_block hv5]; rfl
       have f5 : w5.frozen? ⟨w.heap.size + 1, 5, none⟩ = false := frozen_of_block hv5 5
       obtain ⟨bc, bf⟩ := blank_cells h5 ho2.1
       have b0 : w5.cell? ⟨g, ps.length * 7, none⟩ = some (.string ⟨#[]⟩) := bc 0 _ rfl
       have b1 : w5.cell? ⟨g, ps.length * 7 + 1, none⟩ = some (.int .i64 0) := bc 1 _ rfl
       have b2 : w5.cell? ⟨g, ps.length * 7 + 2, none⟩ = some (.bool false) := bc 2 _ rfl
       have b3 : w5.cell? ⟨g, ps.length * 7 + 3, none⟩ = some (.int .i64 0) := bc 3 _ rfl
       have b4 : w5.cell? ⟨g, ps.length * 7 + 4, none⟩ = some (.string ⟨#[]⟩) := bc 4 _ rfl
       have b5 : w5.cell? ⟨g, ps.length * 7 + 5, none⟩ = some (.slice none 0 0) := bc 5 _ rfl
       have b6 : w5.cell? ⟨g, ps.length * 7 + 6, none⟩ = some (.slice none 0 0) := bc 6 _ rfl
       have E1 := end1 (n := ps.length) hgn hv5 (.slice (some ⟨g, 0, none⟩) (ps.length + 1) cap) (.string key) (.int .i64 uk) (.bool ub) (.int .i64 ui) (.string us) (.slice ual unl ucl) (.slice uam unm ucm)
       have E2 := end2 (n := ps.length) hgn hv5 (.slice (some ⟨g, 0, none⟩) (ps.length + 1) cap) (.string key) (.int .i64 uk) (.bool ub) (.int .i64 ui) (.string us) (.slice ual unl ucl) (.slice uam unm ucm)
       have oA : ∀ z, z ≠ g → (((((((w5.setCell ⟨g, ps.length * 7, none⟩ (.string key)).setCell ⟨g, ps.length * 7 + 1, none⟩ (.int .i64 uk)).setCell ⟨g, ps.length * 7 + 2, none⟩ (.bool ub)).setCell ⟨g, ps.length * 7 + 3, none⟩ (.int .i64 ui)).setCell ⟨g, ps.length * 7 + 4, none⟩ (.string us)).setCell ⟨g, ps.length * 7 + 5, none⟩ (.slice ual unl ucl)).setCell ⟨g, ps.length * 7 + 6, none⟩ (.slice uam unm ucm)).heap[z]? = w5.heap[z]? := fun z hz => sets7_o w5 g ps.length (.string key) (.int .i64 uk) (.bool ub) (.int .i64 ui) (.string us) (.slice ual unl ucl) (.slice uam unm ucm) z hz
       have oM : ∀ z, z ≠ w.heap.size + 1 → (w5.setCell ⟨w.heap.size + 1, 5, none⟩ (.slice (some ⟨g, 0, none⟩) (ps.length + 1) cap)).heap[z]? = w5.heap[z]? := fun z hz => set_other hz
       have a5 : (((((((w5.setCell ⟨g, ps.length * 7, none⟩ (.string key)).setCell ⟨g, ps.length * 7 + 1, none⟩ (.int .i64 uk)).setCell ⟨g, ps.length * 7 + 2, none⟩ (.bool ub)).setCell ⟨g, ps.length * 7 + 3, none⟩ (.int .i64 ui)).setCell ⟨g, ps.length * 7 + 4, none⟩ (.string us)).setCell ⟨g, ps.length * 7 + 5, none⟩ (.slice ual unl ucl)).setCell ⟨g, ps.length * 7 + 6, none⟩ (.slice uam unm ucm)).cell? ⟨w.heap.size + 1, 5, none⟩ = some (.slice sa ps.length sc) := (World.cell?_of_block (w := w5) (a := ⟨w.heap.size + 1, 5, none⟩) (oA _ (fun h => hgn h.symm))).trans c5
       have af : (((((((w5.setCell ⟨g, ps.length * 7, none⟩ (.string key)).setCell ⟨g, ps.length * 7 + 1, none⟩ (.int .i64 uk)).setCell ⟨g, ps.length * 7 + 2, none⟩ (.bool ub)).setCell ⟨g, ps.length * 7 + 3, none⟩ (.int .i64 ui)).setCell ⟨g, ps.length * 7 + 4, none⟩ (.string us)).setCell ⟨g, ps.length * 7 + 5, none⟩ (.slice ual unl ucl)).setCell ⟨g, ps.length * 7 + 6, none⟩ (.slice uam unm ucm)).frozen? ⟨w.heap.size + 1, 5, none⟩ = false := frozen_of_block ((oA _ (fun h => hgn h.symm)).trans hv5) 5
       have mf : ∀ ii, (w5.setCell ⟨w.heap.size + 1, 5, none⟩ (.slice (some ⟨g, 0, none⟩) (ps.length + 1) cap)).frozen? ⟨g, ii, none⟩ = false := fun ii => (frozen_other (oM g hgn) ii).trans (bf ii)
       have m0 : (w5.setCell ⟨w.heap.size + 1, 5, none⟩ (.slice (some ⟨g, 0, none⟩) (ps.length + 1) cap)).cell? ⟨g, ps.length * 7, none⟩ = some (.string ⟨#[]⟩) := (World.cell?_of_block (w := w5) (a := ⟨g, ps.length * 7, none⟩) (oM g hgn)).trans b0
       have m1 : (w5.setCell ⟨w.heap.size + 1, 5, none⟩ (.slice (some ⟨g, 0, none⟩) (ps.length + 1) cap)).cell? ⟨g, ps.length * 7 + 1, none⟩ = some (.int .i64 0) := (World.cell?_of_block (w := w5) (a := ⟨g, ps.length * 7 + 1, none⟩) (oM g hgn)).trans b1
       have m2 : (w5.setCell ⟨w.heap.size + 1, 5, none⟩ (.slice (some ⟨g, 0, none⟩) (ps.length + 1) cap)).cell? ⟨g, ps.length * 7 + 2, none⟩ = some (.bool false) := (World.cell?_of_block (w := w5) (a := ⟨g, ps.length * 7 + 2, none⟩) (oM g hgn)).trans b2
       have m3 : (w5.setCell ⟨w.heap.size + 1, 5, none⟩ (.slice (some ⟨g, 0, none⟩) (ps.length + 1) cap)).cell? ⟨g, ps.length * 7 + 3, none⟩ = some (.int .i64 0) := (World.cell?_of_block (w := w5) (a := ⟨g, ps.length * 7 + 3, none⟩) (oM g hgn)).trans b3
       have m4 : (w5.setCell ⟨w.heap.size + 1, 5, none⟩ (.slice (some ⟨g, 0, none⟩) (ps.length + 1) cap)).cell? ⟨g, ps.length * 7 + 4, none⟩ = some (.string ⟨#[]⟩) := (World.cell?_of_block (w := w5) (a := ⟨g, ps.length * 7 + 4, none⟩) (oM g hgn)).trans b4
       have m5 : (w5.setCell ⟨w.heap.size + 1, 5, none⟩ (.slice (some ⟨g, 0, none⟩) (ps.length + 1) cap)).cell? ⟨g, ps.length * 7 + 5, none⟩ = some (.slice none 0 0) := (World.cell?_of_block (w := w5) (a := ⟨g, ps.length * 7 + 5, none⟩) (oM g hgn)).trans b5
       have m6 : (w5.setCell ⟨w.heap.size + 1, 5, none⟩ (.slice (some ⟨g, 0, none⟩) (ps.length + 1) cap)).cell? ⟨g, ps.length * 7 + 6, none⟩ = some (.slice none 0 0) := (World.cell?_of_block (w := w5) (a := ⟨g, ps.length * 7 + 6, none⟩) (oM g hgn)).trans b6
       refine ryA [9, 11] ?_
       refine rA2 (fun K hK => ?_) fun K hK => ?_
       ·go_simp
        refine hK.out _ _ ((oA W.heap.size hgx).trans hX5) (fun hHeld => ?_)
        clear hK K
        (try simp only [Act.put, zA, zB, zC])
        refine ryA [11] ?_
        refine rA1 fun K hK => ?_
        go_simp
        refine hK.out _ _ ((E1.o_ W.heap.size hgx (by omega)).trans hX5) (fun hHeld => ?_)
        clear hK K
        (try simp only [Act.put, zA, zB, zC])
        refine wpAnyH_done (by kernel_rfl) ?_ _
        have R1 := round_at (by omega) hS1 h6 bW rfl rfl ho hp hb2 hx2 h5 g5 l5 E1
        gi_wp2
        exact hfin _ R1
       ·go_simp
        refine hK.out _ _ ((oM W.heap.size (by omega)).trans hX5) (fun hHeld => ?_)
        clear hK K
        (try simp only [Act.put, zA, zB, zC])
        refine ryA [9] ?_
        refine rA1 fun K hK => ?_
        go_simp
        refine hK.out _ _ ((E2.o_ W.heap.size hgx (by omega)).trans hX5) (fun hHeld => ?_)
        clear hK K
        (try simp only [Act.put, zA, zB, zC])
        refine wpAnyH_done (by kernel_rfl) ?_ _
        have R1 := round_at (by omega) hS1 h6 bW rfl rfl ho hp hb2 hx2 h5 g5 l5 E2
        gi_wp2
        exact hfin _ R1
    ·by_cases h5 : yk = 5
     ·have yk5 : (yk == 5) = true := by rw [h5]; rfl
      have zk5 : (zk == 5) = false := beq_eq_false_iff_ne.2 (fun h => hkk ⟨by rw [hka, h5], by rw [hkb, h]⟩)
      clear h5
      have CE := equal_any va vb false false S S _ _ (W.alloc (.cells #[.int .i64 0, .bool false, .int .i64 0, .string ⟨#[]⟩, .slice none 0 0, .slice none 0 0] 25)) (hT.below (bwW.trans (hbz.mono (by have := bwW.size; omega))) hT.z) (V.lies_keep (fun h => h) (fun y hy => (hbz.block y (by have := hS y hy; omega)).trans (hkW y hy)) (fun _ h => h) _ hG.a) (V.lies_keep (fun h => h) (fun y hy => (hbz.block y (by have := hS y hy; omega)).trans (hkW y hy)) (fun _ h => h) _ hG.b) (fun y hy => by have := hS y hy; omega) (fun y hy => by have := hS y hy; omega) (Nat.le_trans hG.oa.wt (by decide)) (Nat.le_trans hG.ob.wt (by decide))
      clear hka hkb
      gi_wp2
      clear x0 x1 x2 x3 x4 x5 x6 x7 x8 x9 x10 x11 x12 x13
      refine ⟨trivial, (CallsIn.inRound lp (callsIn_wide.2 CE)).mono ?_⟩
      rintro e_ Wz ⟨rfl, be⟩
      clear CE
      have hse := be.size
      have hst := (be.block W.heap.size (by omega)).trans hst
      have bXz := (be.block Bx (by omega)).trans bXz
      have hbz := hbz.trans (be.mono (by omega))
      have hsz : W.heap.size < Wz.heap.size := by omega
      obtain ⟨x0, x1, x2, x3, x4, x5, x6, x7, x8, x9, x10, x11, x12, x13⟩ := cells14 bXz
      cases heq : eqlV va vb
      ·have hne : ¬ (true = true ∧ eqlV va vb = true) := by rw [heq]; simp
       have CL := V.lies_keep (fun h => h) (fun y hy => (hbz.block y (by have := hS y hy; omega)).trans (hkW y hy)) (fun _ h => h) _ hG.b
       cases hcl : clnB vb
       ·have hsD : stD f (⟨key, va, vb, [.int .i64 yk, .bool yb, .int .i64 yi, .string ys, .slice yal ynl ycl, .slice yam ynm ycm], [.int .i64 zk, .bool zb, .int .i64 zi, .string zs, .slice zal znl zcl, .slice zam znm zcm], true, true⟩ : Pr) = none := by first | (unfold stD; dsimp only; rw [if_neg (by decide), if_neg hkk, if_neg hne, if_neg (by rw [hcl]; decide)]) | simp [stD, hkk, hne, hcl]
        have hpn : ∀ We, Below W.heap.size W We → KeepsFrom w6.heap.size W We ∧ (∃ p x, (pre ++ [(⟨key, va, vb, [.int .i64 yk, .bool yb, .int .i64 yi, .string ys, .slice yal ynl ycl, .slice yam ynm ycm], [.int .i64 zk, .bool zb, .int .i64 zi, .string zs, .slice zal znl zcl, .slice zam znm zcm], true, true⟩ : Pr)]) = p ++ [x] ∧ stD f x = none) ∧ Below (w.heap.size + 1) w6 We := fun We h => by
         obtain ⟨a1, a2, sl', a3, a4, a5⟩ := round_skip (by omega) hS1 h6 bW acc0 v1 h
         rw [h6]
         exact ⟨a1, ⟨pre, _, rfl, hsD⟩, a5⟩
        have CP := putin_pan vb S _ Wz low (hE.below (bwW.trans (hbz.mono (by omega))) hE.z) hcl CL (fun y hy => by have := hS y hy; omega)
        clear hkk hne
        gi_wp2
        refine ⟨trivial, (CallsIn.inRound lp (callsIn_wide.2 CP)).mono ?_⟩
        rintro e_ Wc ⟨rfl, bu⟩
        gi_wp2
        have hq := hpn Wc (hbz.trans (bu.mono (by omega)))
        exact ⟨rfl, hq.1, rfl, hq.2.1, hq.2.2⟩
       ·have hsD : stD f (⟨key, va, vb, [.int .i64 yk, .bool yb, .int .i64 yi, .string ys, .slice yal ynl ycl, .slice yam ynm ycm], [.int .i64 zk, .bool zb, .int .i64 zi, .string zs, .slice zal znl zcl, .slice zam znm zcm], true, true⟩ : Pr) = some [(key, vb)] := by first | (unfold stD; dsimp only; rw [if_neg (by decide), if_neg hkk, if_neg hne, if_pos hcl]) | simp [stD, hkk, hne, hcl]
        have hfin : ∀ We, (KeepsFrom (w.heap.size + 4) W We ∧ Kx (w.heap.size + 4) (w.heap.size + 1) W We ∧ ∃ sl', We.heap[w.heap.size + 1]? = some (.cells #[.int .i64 5, .bool false, .int .i64 0, .string ⟨#[]⟩, .slice none 0 0, sl'] 25) ∧ AccK S (w.heap.size + 4) (ps.map (fun q => q.1) ++ [(key, vb)]) sl' We ∧ Below (w.heap.size + 1) w6 We) → KeepsFrom w6.heap.size W We ∧ Kx (w.heap.size + 4) (w.heap.size + 1) W We ∧ ∃ ms sl, stDs f (pre ++ [(⟨key, va, vb, [.int .i64 yk, .bool yb, .int .i64 yi, .string ys, .slice yal ynl ycl, .slice yam ynm ycm], [.int .i64 zk, .bool zb, .int .i64 zi, .string zs, .slice zal znl zcl, .slice zam znm zcm], true, true⟩ : Pr)]) = some ms ∧ We.heap[w.heap.size + 1]? = some (.cells #[.int .i64 5, .bool false, .int .i64 0, .string ⟨#[]⟩, .slice none 0 0, sl] 25) ∧ AccK S (w.heap.size + 4) ms sl We ∧ Below (w.heap.size + 1) w6 We := fun We h => by
         rw [h6]
         obtain ⟨a1, a2, sl', a3, a4, a5⟩ := h
         exact ⟨a1, a2, _, sl', stDs_snoc hms hsD, a3, a4, a5⟩
        have CP := putin_any vb S _ Wz hcl CL (fun y hy => by have := hS y hy; omega)
        clear hkk hne
        gi_wp2
        refine ⟨trivial, (CallsIn.inRound lp (callsIn_wide.2 CP)).mono ?_⟩
        rintro e_ Wc ⟨cu, rfl, hu0, bu⟩
        clear CP
        obtain ⟨uk, ub, ui, us, ual, unl, ucl, uam, unm, ucm, rfl⟩ := V.ten hu0
        have hzu := bu.size
        have hstc := (bu.block W.heap.size (by omega)).trans hst
        obtain ⟨cz0, cz1, cz2, cz3, cz4, cz5⟩ := sixC hstc
        have fz := frozen_of_block hstc
        have ho6 := six_o Wc W.heap.size (.int .i64 uk) (.bool ub) (.int .i64 ui) (.string us) (.slice ual unl ucl) (.slice uam unm ucm)
        have hz6 := six_z Wc W.heap.size (.int .i64 uk) (.bool ub) (.int .i64 ui) (.string us) (.slice ual unl ucl) (.slice uam unm ucm)
        have hbk : Below W.heap.size W ((((((Wc.setCell ⟨W.heap.size, 0, none⟩ (.int .i64 uk)).setCell ⟨W.heap.size, 1, none⟩ (.bool ub)).setCell ⟨W.heap.size, 2, none⟩ (.int .i64 ui)).setCell ⟨W.heap.size, 3, none⟩ (.string us)).setCell ⟨W.heap.size, 4, none⟩ (.slice ual unl ucl)).setCell ⟨W.heap.size, 5, none⟩ (.slice uam unm ucm)) := Below.set6 (hbz.trans (bu.mono (by omega))) (M := W.heap.size) (Nat.le_refl _) 0 1 2 3 4 5 (.int .i64 uk) (.bool ub) (.int .i64 ui) (.string us) (.slice ual unl ucl) (.slice uam unm ucm)
        have hst6 := box_six hstc (.int .i64 uk) (.bool ub) (.int .i64 ui) (.string us) (.slice ual unl ucl) (.slice uam unm ucm)
        have hu : (vb).lies false ((((((Wc.setCell ⟨W.heap.size, 0, none⟩ (.int .i64 uk)).setCell ⟨W.heap.size, 1, none⟩ (.bool ub)).setCell ⟨W.heap.size, 2, none⟩ (.int .i64 ui)).setCell ⟨W.heap.size, 3, none⟩ (.string us)).setCell ⟨W.heap.size, 4, none⟩ (.slice ual unl ucl)).setCell ⟨W.heap.size, 5, none⟩ (.slice uam unm ucm)) (fun y => S y ∨ (W.heap.size ≤ y ∧ y < ((((((Wc.setCell ⟨W.heap.size, 0, none⟩ (.int .i64 uk)).setCell ⟨W.heap.size, 1, none⟩ (.bool ub)).setCell ⟨W.heap.size, 2, none⟩ (.int .i64 ui)).setCell ⟨W.heap.size, 3, none⟩ (.string us)).setCell ⟨W.heap.size, 4, none⟩ (.slice ual unl ucl)).setCell ⟨W.heap.size, 5, none⟩ (.slice uam unm ucm)).heap.size)) [.int .i64 uk, .bool ub, .int .i64 ui, .string us, .slice ual unl ucl, .slice uam unm ucm] := V.lies_keep (fun h => h) (fun y hy => ho6 y (by rcases hy with hy | hy <;> first | (have := hS y hy; omega) | (have := hy.1; omega))) (fun y hy => hy.elim .inl (fun h => .inr ⟨by have := h.1; omega, by have := h.2; omega⟩)) _ hu0
        have hkz : W.heap.size < ((((((Wc.setCell ⟨W.heap.size, 0, none⟩ (.int .i64 uk)).setCell ⟨W.heap.size, 1, none⟩ (.bool ub)).setCell ⟨W.heap.size, 2, none⟩ (.int .i64 ui)).setCell ⟨W.heap.size, 3, none⟩ (.string us)).setCell ⟨W.heap.size, 4, none⟩ (.slice ual unl ucl)).setCell ⟨W.heap.size, 5, none⟩ (.slice uam unm ucm)).heap.size := by omega
        have h12 := hmk (And.intro hbk (And.intro hst6 (And.intro hu hkz)))
        clear hbk hst6 hu hkz ho6 hz6 hu0 hsz
        gi_wp2
        clear cz0 cz1 cz2 cz3 cz4 cz5 fz hst
        obtain ⟨hbk, hst, hu, hkz⟩ := h12.out
        clear h12
        generalize ((((((Wc.setCell ⟨W.heap.size, 0, none⟩ (.int .i64 uk)).setCell ⟨W.heap.size, 1, none⟩ (.bool ub)).setCell ⟨W.heap.size, 2, none⟩ (.int .i64 ui)).setCell ⟨W.heap.size, 3, none⟩ (.string us)).setCell ⟨W.heap.size, 4, none⟩ (.slice ual unl ucl)).setCell ⟨W.heap.size, 5, none⟩ (.slice uam unm ucm)) = Wk at *
        refine round_held_drew (S := fun X => X.heap[W.heap.size]? = some (.cells #[.int .i64 uk, .bool ub, .int .i64 ui, .string us, .slice ual unl ucl, .slice uam unm ucm] 25)) (by kernel_rfl) (by kernel_rfl) (by rintro ⟨_, _, h⟩; exact h) hst (fun hHeld => ?_)
        (refine tjA 0 ?_; (try simp only [Act.put, zA, zB, zC]))
        (refine tjA 2 ?_; (try simp only [Act.put, zA, zB, zC]))
        (refine tkA 3 ?_ ?_ ?_; rotate_left 1; (intro W0 hSw; (have z0_ : W0.cell? ⟨W.heap.size, 0, none⟩ = some (.int .i64 uk) := (by rw [cell_of_block hSw]; rfl); have z1_ : W0.cell? ⟨W.heap.size, 1, none⟩ = some (.bool ub) := (by rw [cell_of_block hSw]; rfl); have z2_ : W0.cell? ⟨W.heap.size, 2, none⟩ = some (.int .i64 ui) := (by rw [cell_of_block hSw]; rfl); have z3_ : W0.cell? ⟨W.heap.size, 3, none⟩ = some (.string us) := (by rw [cell_of_block hSw]; rfl); have z4_ : W0.cell? ⟨W.heap.size, 4, none⟩ = some (.slice ual unl ucl) := (by rw [cell_of_block hSw]; rfl); have z5_ : W0.cell? ⟨W.heap.size, 5, none⟩ = some (.slice uam unm ucm) := (by rw [cell_of_block hSw]; rfl)); go_simp; (try with_reducible rfl)); (try simp only [Act.put, zA, zB, zC]))
        (refine tjA 4 ?_; (try simp only [Act.put, zA, zB, zC]))
        have hbe : Below Wk.heap.size Wk (Wk.alloc (.cells #[.string ⟨#[]⟩, .int .i64 0, .bool false, .int .i64 0, .string ⟨#[]⟩, .slice none 0 0, .slice none 0 0] 57)).drew := (one_belowG Wk _).drew
        have hb2 : Below W.heap.size W (Wk.alloc (.cells #[.string ⟨#[]⟩, .int .i64 0, .bool false, .int .i64 0, .string ⟨#[]⟩, .slice none 0 0, .slice none 0 0] 57)).drew := hbk.trans (hbe.mono (by omega))
        have hz2 : (Wk.alloc (.cells #[.string ⟨#[]⟩, .int .i64 0, .bool false, .int .i64 0, .string ⟨#[]⟩, .slice none 0 0, .slice none 0 0] 57)).drew.heap.size = Wk.heap.size + 1 := alloc_size _ _
        have nb : (Wk.alloc (.cells #[.string ⟨#[]⟩, .int .i64 0, .bool false, .int .i64 0, .string ⟨#[]⟩, .slice none 0 0, .slice none 0 0] 57)).drew.heap[Wk.heap.size]? = some (.cells #[.string ⟨#[]⟩, .int .i64 0, .bool false, .int .i64 0, .string ⟨#[]⟩, .slice none 0 0, .slice none 0 0] 57) := heap_alloc_new Wk _
        have hX2 := (hbe.block W.heap.size (by omega)).trans hst
        have hv2 := (hb2.block (w.heap.size + 1) (by omega)).trans v1
        have ho2 := ho.below hb2
        unfold OwnC at ho2
        rw [List.length_map] at ho2
        have hx2 : PM (Wk.alloc (.cells #[.string ⟨#[]⟩, .int .i64 0, .bool false, .int .i64 0, .string ⟨#[]⟩, .slice none 0 0, .slice none 0 0] 57)).drew (fun y => S y ∨ (W.heap.size ≤ y ∧ y < (Wk.alloc (.cells #[.string ⟨#[]⟩, .int .i64 0, .bool false, .int .i64 0, .string ⟨#[]⟩, .slice none 0 0, .slice none 0 0] 57)).drew.heap.size)) ((key, vb), [.string key, .int .i64 uk, .bool ub, .int .i64 ui, .string us, .slice ual unl ucl, .slice uam unm ucm]) := ⟨_, rfl, hG.k, V.lies_keep (fun h => h) (fun y hy => hbe.block y (by rcases hy with hy | hy <;> first | omega | (have := hS y hy; omega))) (fun y hy => hy.elim .inl (fun h => .inr ⟨h.1, by omega⟩)) _ hu⟩
        have ck : Wk.cell? ⟨w.heap.size + 1, 5, none⟩ = some (.slice sa ps.length sc) := (World.cell?_of_block (w := W) (a := ⟨w.heap.size + 1, 5, none⟩) (hbk.block (w.heap.size + 1) (by omega))).trans c3
        have cka : ∀ o, (Wk.alloc o).cell? ⟨w.heap.size + 1, 5, none⟩ = some (.slice sa ps.length sc) := fun o => (World.cell?_of_block (w := Wk) (a := ⟨w.heap.size + 1, 5, none⟩) (Below.heap_alloc Wk o (w.heap.size + 1) (by omega))).trans ck
        refine ryA [1, 6] ?_
        refine rA2 (fun K hK => ?_) fun K hK => ?_
        ·go_simp
         refine hK.out _ _ hst (fun hHeld => ?_)
         clear hK K
         (try simp only [Act.put, zA, zB, zC])
         (refine tjA 5 ?_; (try simp only [Act.put, zA, zB, zC]))
         refine ryA [6] ?_
         refine rA1 fun K hK => ?_
         go_simp
         refine hK.out _ _ hX2 (fun hHeld => ?_)
         clear hK K
         (try simp only [Act.put, zA, zB, zC])
         generalize (Wk.alloc (.cells #[.string ⟨#[]⟩, .int .i64 0, .bool false, .int .i64 0, .string ⟨#[]⟩, .slice none 0 0, .slice none 0 0] 57)).drew = W2 at *
         refine ryA [7] ?_
         refine rA1 fun K hK => ?_
         refine step_blank rfl (.tmp 55) (.tmp 60) rfl (w.heap.size + 4) (.slice sa ps.length sc) ps.length _ rfl ho2 Wk.heap.size rfl nb (by omega) (by omega) ?_
         intro g cap w5 h5 g5 l5
         have hX5 : w5.heap[W.heap.size]? = some (.cells #[.int .i64 uk, .bool ub, .int .i64 ui, .string us, .slice ual unl ucl, .slice uam unm ucm] 25) := (g5.block W.heap.size (by omega) (fun h => hBo h.symm)).trans hX2
         refine hK.out _ _ hX5 (fun hHeld => ?_)
         clear hK K
         (try simp only [Act.put, zA, zB, zC])
         have hgn : g ≠ w.heap.size + 1 := by have := (World.ownsRow.lt h5 g rfl).1; omega
         have hgx : W.heap.size ≠ g := fun h => by
          rcases l5 with l5 | l5
          ·exact hBo (by rw [h]; exact l5)
          ·omega
         have yN : (ps.length : Int) < ((ps.length + 1 : Nat) : Int) := by omega
         have yN2 : (ps.length : Int) < (ps.length : Int) + 1 := by omega
         (refine tjA 8 ?_; (try simp only [Act.put, zA, zB, zC]))
         (refine tjA 10 ?_; (try simp only [Act.put, zA, zB, zC]))
         have hv5 : w5.heap[w.heap.size + 1]? = some (.cells #[.int .i64 5, .bool false, .int .i64 0, .string ⟨#[]⟩, .slice none 0 0, .slice sa ps.length sc] 25) := (g5.block _ (by omega) (fun h => by have := (hown _ h.symm).1; omega)).trans hv2
         have c5 : w5.cell? ⟨w.heap.size + 1, 5, none⟩ = some (.slice sa ps.length sc) := by rw [cell_of_block hv5]; rfl
         have f5 : w5.frozen? ⟨w.heap.size + 1, 5, none⟩ = false := frozen_of_block hv5 5
         obtain ⟨bc, bf⟩ := blank_cells h5 ho2.1
         have b0 : w5.cell? ⟨g, ps.length * 7, none⟩ = some (.string ⟨#[]⟩) := bc 0 _ rfl
         have b1 : w5.cell? ⟨g, ps.length * 7 + 1, none⟩ = some (.int .i64 0) := bc 1 _ rfl
         have b2 : w5.cell? ⟨g, ps.length * 7 + 2, none⟩ = some (.bool false) := bc 2 _ rfl
         have b3 : w5.cell? ⟨g, ps.length * 7 + 3, none⟩ = some (.int .i64 0) := bc 3 _ rfl
         have b4 : w5.cell? ⟨g, ps.length * 7 + 4, none⟩ = some (.string ⟨#[]⟩) := bc 4 _ rfl
         have b5 : w5.cell? ⟨g, ps.length * 7 + 5, none⟩ = some (.slice none 0 0) := bc 5 _ rfl
         have b6 : w5.cell? ⟨g, ps.length * 7 + 6, none⟩ = some (.slice none 0 0) := bc 6 _ rfl
         have E1 := end1 (n := ps.length) hgn hv5 (.slice (some ⟨g, 0, none⟩) (ps.length + 1) cap) (.string key) (.int .i64 uk) (.bool ub) (.int .i64 ui) (.string us) (.slice ual unl ucl) (.slice uam unm ucm)
         have E2 := end2 (n := ps.length) hgn hv5 (.slice (some ⟨g, 0, none⟩) (ps.length + 1) cap) (.string key) (.int .i64 uk) (.bool ub) (.int .i64 ui) (.string us) (.slice ual unl ucl) (.slice uam unm ucm)
         have oA : ∀ z, z ≠ g → (((((((w5.setCell ⟨g, ps.length * 7, none⟩ (.string key)).setCell ⟨g, ps.length * 7 + 1, none⟩ (.int .i64 uk)).setCell ⟨g, ps.length * 7 + 2, none⟩ (.bool ub)).setCell ⟨g, ps.length * 7 + 3, none⟩ (.int .i64 ui)).setCell ⟨g, ps.length * 7 + 4, none⟩ (.string us)).setCell ⟨g, ps.length * 7 + 5, none⟩ (.slice ual unl ucl)).setCell ⟨g, ps.length * 7 + 6, none⟩ (.slice uam unm ucm)).heap[z]? = w5.heap[z]? := fun z hz => sets7_o w5 g ps.length (.string key) (.int .i64 uk) (.bool ub) (.int .i64 ui) (.string us) (.slice ual unl ucl) (.slice uam unm ucm) z hz
         have oM : ∀ z, z ≠ w.heap.size + 1 → (w5.setCell ⟨w.heap.size + 1, 5, none⟩ (.slice (some ⟨g, 0, none⟩) (ps.length + 1) cap)).heap[z]? = w5.heap[z]? := fun z hz => set_other hz
         have a5 : (((((((w5.setCell ⟨g, ps.length * 7, none⟩ (.string key)).setCell ⟨g, ps.length * 7 + 1, none⟩ (.int .i64 uk)).setCell ⟨g, ps.length * 7 + 2, none⟩ (.bool ub)).setCell ⟨g, ps.length * 7 + 3, none⟩ (.int .i64 ui)).setCell ⟨g, ps.length * 7 + 4, none⟩ (.string us)).setCell ⟨g, ps.length * 7 + 5, none⟩ (.slice ual unl ucl)).setCell ⟨g, ps.length * 7 + 6, none⟩ (.slice uam unm ucm)).cell? ⟨w.heap.size + 1, 5, none⟩ = some (.slice sa ps.length sc) := (World.cell?_of_block (w := w5) (a := ⟨w.heap.size + 1, 5, none⟩) (oA _ (fun h => hgn h.symm))).trans c5
         have af : (((((((w5.setCell ⟨g, ps.length * 7, none⟩ (.string key)).setCell ⟨g, ps.length * 7 + 1, none⟩ (.int .i64 uk)).setCell ⟨g, ps.length * 7 + 2, none⟩ (.bool ub)).setCell ⟨g, ps.length * 7 + 3, none⟩ (.int .i64 ui)).setCell ⟨g, ps.length * 7 + 4, none⟩ (.string us)).setCell ⟨g, ps.length * 7 + 5, none⟩ (.slice ual unl ucl)).setCell ⟨g, ps.length * 7 + 6, none⟩ (.slice uam unm ucm)).frozen? ⟨w.heap.size + 1, 5, none⟩ = false := frozen_of_block ((oA _ (fun h => hgn h.symm)).trans hv5) 5
         have mf : ∀ ii, (w5.setCell ⟨w.heap.size + 1, 5, none⟩ (.slice (some ⟨g, 0, none⟩) (ps.length + 1) cap)).frozen? ⟨g, ii, none⟩ = false := fun ii => (frozen_other (oM g hgn) ii).trans (bf ii)
         have m0 : (w5.setCell ⟨w.heap.size + 1, 5, none⟩ (.slice (some ⟨g, 0, none⟩) (ps.length + 1) cap)).cell? ⟨g, ps.length * 7, none⟩ = some (.string ⟨#[]⟩) := (World.cell?_of_block (w := w5) (a := ⟨g, ps.length * 7, none⟩) (oM g hgn)).trans b0
         have m1 : (w5.setCell ⟨w.heap.size + 1, 5, none⟩ (.slice (some ⟨g, 0, none⟩) (ps.length + 1) cap)).cell? ⟨g, ps.length * 7 + 1, none⟩ = some (.int .i64 0) := (World.cell?_of_block (w := w5) (a := ⟨g, ps.length * 7 + 1, none⟩) (oM g hgn)).trans b1
         have m2 : (w5.setCell ⟨w.heap.size + 1, 5, none⟩ (.slice (some ⟨g, 0, none⟩) (ps.length + 1) cap)).cell? ⟨g, ps.length * 7 + 2, none⟩ = some (.bool false) := (World.cell?_of_block (w := w5) (a := ⟨g, ps.length * 7 + 2, none⟩) (oM g hgn)).trans b2
         have m3 : (w5.setCell ⟨w.heap.size + 1, 5, none⟩ (.slice (some ⟨g, 0, none⟩) (ps.length + 1) cap)).cell? ⟨g, ps.length * 7 + 3, none⟩ = some (.int .i64 0) := (World.cell?_of_block (w := w5) (a := ⟨g, ps.length * 7 + 3, none⟩) (oM g hgn)).trans b3
         have m4 : (w5.setCell ⟨w.heap.size + 1, 5, none⟩ (.slice (some ⟨g, 0, none⟩) (ps.length + 1) cap)).cell? ⟨g, ps.length * 7 + 4, none⟩ = some (.string ⟨#[]⟩) := (World.cell?_of_block (w := w5) (a := ⟨g, ps.length * 7 + 4, none⟩) (oM g hgn)).trans b4
         have m5 : (w5.setCell ⟨w.heap.size + 1, 5, none⟩ (.slice (some ⟨g, 0, none⟩) (ps.length + 1) cap)).cell? ⟨g, ps.length * 7 + 5, none⟩ = some (.slice none 0 0) := (World.cell?_of_block (w := w5) (a := ⟨g, ps.length * 7 + 5, none⟩) (oM g hgn)).trans b5
         have m6 : (w5.setCell ⟨w.heap.size + 1, 5, none⟩ (.slice (some ⟨g, 0, none⟩) (ps.length + 1) cap)).cell? ⟨g, ps.length * 7 + 6, none⟩ = some (.slice none 0 0) := (World.cell?_of_block (w := w5) (a := ⟨g, ps.length * 7 + 6, none⟩) (oM g hgn)).trans b6
         refine ryA [9, 11] ?_
         refine rA2 (fun K hK => ?_) fun K hK => ?_
         ·go_simp
          refine hK.out _ _ ((oA W.heap.size hgx).trans hX5) (fun hHeld => ?_)
          clear hK K
          (try simp only [Act.put, zA, zB, zC])
          refine ryA [11] ?_
          refine rA1 fun K hK => ?_
          go_simp
          refine hK.out _ _ ((E1.o_ W.heap.size hgx (by omega)).trans hX5) (fun hHeld => ?_)
          clear hK K
          (try simp only [Act.put, zA, zB, zC])
          refine wpAnyH_done (by kernel_rfl) ?_ _
          have R1 := round_at (by omega) hS1 h6 bW rfl rfl ho hp hb2 hx2 h5 g5 l5 E1
          gi_wp2
          exact hfin _ R1
         ·go_simp
          refine hK.out _ _ ((oM W.heap.size (by omega)).trans hX5) (fun hHeld => ?_)
          clear hK K
          (try simp only [Act.put, zA, zB, zC])
          refine ryA [9] ?_
          refine rA1 fun K hK => ?_
          go_simp
          refine hK.out _ _ ((E2.o_ W.heap.size hgx (by omega)).trans hX5) (fun hHeld => ?_)
          clear hK K
          (try simp only [Act.put, zA, zB, zC])
          refine wpAnyH_done (by kernel_rfl) ?_ _
          have R1 := round_at (by omega) hS1 h6 bW rfl rfl ho hp hb2 hx2 h5 g5 l5 E2
          gi_wp2
          exact hfin _ R1
        ·go_simp
         refine hK.out _ _ hX2 (fun hHeld => ?_)
         clear hK K
         (try simp only [Act.put, zA, zB, zC])
         refine ryA [1] ?_
         refine rA1 fun K hK => ?_
         go_simp
         refine hK.out _ _ hX2 (fun hHeld => ?_)
         clear hK K
         (try simp only [Act.put, zA, zB, zC])
         (refine tjA 5 ?_; (try simp only [Act.put, zA, zB, zC]))
         generalize (Wk.alloc (.cells #[.string ⟨#[]⟩, .int .i64 0, .bool false, .int .i64 0, .string ⟨#[]⟩, .slice none 0 0, .slice none 0 0] 57)).drew = W2 at *
         refine ryA [7] ?_
         refine rA1 fun K hK => ?_
         refine step_blank rfl (.tmp 55) (.tmp 60) rfl (w.heap.size + 4) (.slice sa ps.length sc) ps.length _ rfl ho2 Wk.heap.size rfl nb (by omega) (by omega) ?_
         intro g cap w5 h5 g5 l5
         have hX5 : w5.heap[W.heap.size]? = some (.cells #[.int .i64 uk, .bool ub, .int .i64 ui, .string us, .slice ual unl ucl, .slice uam unm ucm] 25) := (g5.block W.heap.size (by omega) (fun h => hBo h.symm)).trans hX2
         refine hK.out _ _ hX5 (fun hHeld => ?_)
         clear hK K
         (try simp only [Act.put, zA, zB, zC])
         have hgn : g ≠ w.heap.size + 1 := by have := (World.ownsRow.lt h5 g rfl).1; omega
         have hgx : W.heap.size ≠ g := fun h => by
          rcases l5 with l5 | l5
          ·exact hBo (by rw [h]; exact l5)
          ·omega
         have yN : (ps.length : Int) < ((ps.length + 1 : Nat) : Int) := by omega
         have yN2 : (ps.length : Int) < (ps.length : Int) + 1 := by omega
         (refine tjA 8 ?_; (try simp only [Act.put, zA, zB, zC]))
         (refine tjA 10 ?_; (try simp only [Act.put, zA, zB, zC]))
         have hv5 : w5.heap[w.heap.size + 1]? = some (.cells #[.int .i64 5, .bool false, .int .i64 0, .string ⟨#[]⟩, .slice none 0 0, .slice sa ps.length sc] 25) := (g5.block _ (by omega) (fun h => by have := (hown _ h.symm).1; omega)).trans hv2
         have c5 : w5.cell? ⟨w.heap.size + 1, 5, none⟩ = some (.slice sa ps.length sc) := by rw [cell_of_block hv5]; rfl
         have f5 : w5.frozen? ⟨w.heap.size + 1, 5, none⟩ = false := frozen_of_block hv5 5
         obtain ⟨bc, bf⟩ := blank_cells h5 ho2.1
         have b0 : w5.cell? ⟨g, ps.length * 7, none⟩ = some (.string ⟨#[]⟩) := bc 0 _ rfl
         have b1 : w5.cell? ⟨g, ps.length * 7 + 1, none⟩ = some (.int .i64 0) := bc 1 _ rfl
         have b2 : w5.cell? ⟨g, ps.length * 7 + 2, none⟩ = some (.bool false) := bc 2 _ rfl
         have b3 : w5.cell? ⟨g, ps.length * 7 + 3, none⟩ = some (.int .i64 0) := bc 3 _ rfl
         have b4 : w5.cell? ⟨g, ps.length * 7 + 4, none⟩ = some (.string ⟨#[]⟩) := bc 4 _ rfl
         have b5 : w5.cell? ⟨g, ps.length * 7 + 5, none⟩ = some (.slice none 0 0) := bc 5 _ rfl
         have b6 : w5.cell? ⟨g, ps.length * 7 + 6, none⟩ = some (.slice none 0 0) := bc 6 _ rfl
         have E1 := end1 (n := ps.length) hgn hv5 (.slice (some ⟨g, 0, none⟩) (ps.length + 1) cap) (.string key) (.int .i64 uk) (.bool ub) (.int .i64 ui) (.string us) (.slice ual unl ucl) (.slice uam unm ucm)
         have E2 := end2 (n := ps.length) hgn hv5 (.slice (some ⟨g, 0, none⟩) (ps.length + 1) cap) (.string key) (.int .i64 uk) (.bool ub) (.int .i64 ui) (.string us) (.slice ual unl ucl) (.slice uam unm ucm)
         have oA : ∀ z, z ≠ g → (((((((w5.setCell ⟨g, ps.length * 7, none⟩ (.string key)).setCell ⟨g, ps.length * 7 + 1, none⟩ (.int .i64 uk)).setCell ⟨g, ps.length * 7 + 2, none⟩ (.bool ub)).setCell ⟨g, ps.length * 7 + 3, none⟩ (.int .i64 ui)).setCell ⟨g, ps.length * 7 + 4, none⟩ (.string us)).setCell ⟨g, ps.length * 7 + 5, none⟩ (.slice ual unl ucl)).setCell ⟨g, ps.length * 7 + 6, none⟩ (.slice uam unm ucm)).heap[z]? = w5.heap[z]? := fun z hz => sets7_o w5 g ps.length (.string key) (.int .i64 uk) (.bool ub) (.int .i64 ui) (.string us) (.slice ual unl ucl) (.slice uam unm ucm) z hz
         have oM : ∀ z, z ≠ w.heap.size + 1 → (w5.setCell ⟨w.heap.size + 1, 5, none⟩ (.slice (some ⟨g, 0, none⟩) (ps.length + 1) cap)).heap[z]? = w5.heap[z]? := fun z hz => set_other hz
         have a5 : (((((((w5.setCell ⟨g, ps.length * 7, none⟩ (.string key)).setCell ⟨g, ps.length * 7 + 1, none⟩ (.int .i64 uk)).setCell ⟨g, ps.length * 7 + 2, none⟩ (.bool ub)).setCell ⟨g, ps.length * 7 + 3, none⟩ (.int .i64 ui)).setCell ⟨g, ps.length * 7 + 4, none⟩ (.string us)).setCell ⟨g, ps.length * 7 + 5, none⟩ (.slice ual unl ucl)).setCell ⟨g, ps.length * 7 + 6, none⟩ (.slice uam unm ucm)).cell? ⟨w.heap.size + 1, 5, none⟩ = some (.slice sa ps.length sc) := (World.cell?_of_block (w := w5) (a := ⟨w.heap.size + 1, 5, none⟩) (oA _ (fun h => hgn h.symm))).trans c5
         have af : (((((((w5.setCell ⟨g, ps.length * 7, none⟩ (.string key)).setCell ⟨g, ps.length * 7 + 1, none⟩ (.int .i64 uk)).setCell ⟨g, ps.length * 7 + 2, none⟩ (.bool ub)).setCell ⟨g, ps.length * 7 + 3, none⟩ (.int .i64 ui)).setCell ⟨g, ps.length * 7 + 4, none⟩ (.string us)).setCell ⟨g, ps.length * 7 + 5, none⟩ (.slice ual unl ucl)).setCell ⟨g, ps.length * 7 + 6, none⟩ (.slice uam unm ucm)).frozen? ⟨w.heap.size + 1, 5, none⟩ = false := frozen_of_block ((oA _ (fun h => hgn h.symm)).trans hv5) 5
         have mf : ∀ ii, (w5.setCell ⟨w.heap.size + 1, 5, none⟩ (.slice (some ⟨g, 0, none⟩) (ps.length + 1) cap)).frozen? ⟨g, ii, none⟩ = false := fun ii => (frozen_other (oM g hgn) ii).trans (bf ii)
         have m0 : (w5.setCell ⟨w.heap.size + 1, 5, none⟩ (.slice (some ⟨g, 0, none⟩) (ps.length + 1) cap)).cell? ⟨g, ps.length * 7, none⟩ = some (.string ⟨#[]⟩) := (World.cell?_of_block (w := w5) (a := ⟨g, ps.length * 7, none⟩) (oM g hgn)).trans b0
         have m1 : (w5.setCell ⟨w.heap.size + 1, 5, none⟩ (.slice (some ⟨g, 0, none⟩) (ps.length + 1) cap)).cell? ⟨g, ps.length * 7 + 1, none⟩ = some (.int .i64 0) := (World.cell?_of_block (w := w5) (a := ⟨g, ps.length * 7 + 1, none⟩) (oM g hgn)).trans b1
         have m2 : (w5.setCell ⟨w.heap.size + 1, 5, none⟩ (.slice (some ⟨g, 0, none⟩) (ps.length + 1) cap)).cell? ⟨g, ps.length * 7 + 2, none⟩ = some (.bool false) := (World.cell?_of_block (w := w5) (a := ⟨g, ps.length * 7 + 2, none⟩) (oM g hgn)).trans b2
         have m3 : (w5.setCell ⟨w.heap.size + 1, 5, none⟩ (.slice (some ⟨g, 0, none⟩) (ps.length + 1) cap)).cell? ⟨g, ps.length * 7 + 3, none⟩ = some (.int .i64 0) := (World.cell?_of_block (w := w5) (a := ⟨g, ps.length * 7 + 3, none⟩) (oM g hgn)).trans b3
         have m4 : (w5.setCell ⟨w.heap.size + 1, 5, none⟩ (.slice (some ⟨g, 0, none⟩) (ps.length + 1) cap)).cell? ⟨g, ps.length * 7 + 4, none⟩ = some (.string ⟨#[]⟩) := (World.cell?_of_block (w := w5) (a := ⟨g, ps.length * 7 + 4, none⟩) (oM g hgn)).trans b4
         have m5 : (w5.setCell ⟨w.heap.size + 1, 5, none⟩ (.slice (some ⟨g, 0, none⟩) (ps.length + 1) cap)).cell? ⟨g, ps.length * 7 + 5, none⟩ = some (.slice none 0 0) := (World.cell?_of_block (w := w5) (a := ⟨g, ps.length * 7 + 5, none⟩) (oM g hgn)).trans b5
         have m6 : (w5.setCell ⟨w.heap.size + 1, 5, none⟩ (.slice (some ⟨g, 0, none⟩) (ps.length + 1) cap)).cell? ⟨g, ps.length * 7 + 6, none⟩ = some (.slice none 0 0) := (World.cell?_of_block (w := w5) (a := ⟨g, ps.length * 7 + 6, none⟩) (oM g hgn)).trans b6
         refine ryA [9, 11] ?_
         refine rA2 (fun K hK => ?_) fun K hK => ?_
         ·go_simp
          refine hK.out _ _ ((oA W.heap.size hgx).trans hX5) (fun hHeld => ?_)
          clear hK K
          (try simp only [Act.put, zA, zB, zC])
          refine ryA [11] ?_
          refine rA1 fun K hK => ?_
          go_simp
          refine hK.out _ _ ((E1.o_ W.heap.size hgx (by omega)).trans hX5) (fun hHeld => ?_)
          clear hK K
          (try simp only [Act.put, zA, zB, zC])
          refine wpAnyH_done (by kernel_rfl) ?_ _
          have R1 := round_at (by omega) hS1 h6 bW rfl rfl ho hp hb2 hx2 h5 g5 l5 E1
          gi_wp2
          exact hfin _ R1
         ·go_simp
          refine hK.out _ _ ((oM W.heap.size (by omega)).trans hX5) (fun hHeld => ?_)
          clear hK K
          (try simp only [Act.put, zA, zB, zC])
          refine ryA [9] ?_
          refine rA1 fun K hK => ?_
          go_simp
          refine hK.out _ _ ((E2.o_ W.heap.size hgx (by omega)).trans hX5) (fun hHeld => ?_)
          clear hK K
          (try simp only [Act.put, zA, zB, zC])
          refine wpAnyH_done (by kernel_rfl) ?_ _
          have R1 := round_at (by omega) hS1 h6 bW rfl rfl ho hp hb2 hx2 h5 g5 l5 E2
          gi_wp2
          exact hfin _ R1
      ·have hsD : stD f (⟨key, va, vb, [.int .i64 yk, .bool yb, .int .i64 yi, .string ys, .slice yal ynl ycl, .slice yam ynm ycm], [.int .i64 zk, .bool zb, .int .i64 zi, .string zs, .slice zal znl zcl, .slice zam znm zcm], true, true⟩ : Pr) = some [] := by first | (unfold stD; dsimp only; rw [if_neg (by decide), if_neg hkk, if_pos ⟨rfl, heq⟩]) | simp [stD, hkk, heq]
       have hskip : ∀ We, Below W.heap.size W We → KeepsFrom w6.heap.size W We ∧ Kx (w.heap.size + 4) (w.heap.size + 1) W We ∧ ∃ ms sl, stDs f (pre ++ [(⟨key, va, vb, [.int .i64 yk, .bool yb, .int .i64 yi, .string ys, .slice yal ynl ycl, .slice yam ynm ycm], [.int .i64 zk, .bool zb, .int .i64 zi, .string zs, .slice zal znl zcl, .slice zam znm zcm], true, true⟩ : Pr)]) = some ms ∧ We.heap[w.heap.size + 1]? = some (.cells #[.int .i64 5, .bool false, .int .i64 0, .string ⟨#[]⟩, .slice none 0 0, sl] 25) ∧ AccK S (w.heap.size + 4) ms sl We ∧ Below (w.heap.size + 1) w6 We := fun We h => by
        obtain ⟨a1, a2, sl', a3, a4, a5⟩ := round_skip (by omega) hS1 h6 bW acc0 v1 h
        rw [h6]
        exact ⟨a1, a2, _, sl', by have := stDs_snoc hms hsD; rwa [List.append_nil] at this, a3, a4, a5⟩
       clear hkk
       gi_wp2
       exact hskip _ hbz
     ·have yk5 : (yk == 5) = false := beq_eq_false_iff_ne.2 h5
      clear h5
      have CE := equal_any va vb false false S S _ _ (W.alloc (.cells #[.int .i64 0, .bool false, .int .i64 0, .string ⟨#[]⟩, .slice none 0 0, .slice none 0 0] 25)) (hT.below (bwW.trans (hbz.mono (by have := bwW.size; omega))) hT.z) (V.lies_keep (fun h => h) (fun y hy => (hbz.block y (by have := hS y hy; omega)).trans (hkW y hy)) (fun _ h => h) _ hG.a) (V.lies_keep (fun h => h) (fun y hy => (hbz.block y (by have := hS y hy; omega)).trans (hkW y hy)) (fun _ h => h) _ hG.b) (fun y hy => by have := hS y hy; omega) (fun y hy => by have := hS y hy; omega) (Nat.le_trans hG.oa.wt (by decide)) (Nat.le_trans hG.ob.wt (by decide))
      clear hka hkb
      gi_wp2
      clear x0 x1 x2 x3 x4 x5 x6 x7 x8 x9 x10 x11 x12 x13
      refine ⟨trivial, (CallsIn.inRound lp (callsIn_wide.2 CE)).mono ?_⟩
      rintro e_ Wz ⟨rfl, be⟩
      clear CE
      have hse := be.size
      have hst := (be.block W.heap.size (by omega)).trans hst
      have bXz := (be.block Bx (by omega)).trans bXz
      have hbz := hbz.trans (be.mono (by omega))
      have hsz : W.heap.size < Wz.heap.size := by omega
      obtain ⟨x0, x1, x2, x3, x4, x5, x6, x7, x8, x9, x10, x11, x12, x13⟩ := cells14 bXz
      cases heq : eqlV va vb
      ·have hne : ¬ (true = true ∧ eqlV va vb = true) := by rw [heq]; simp
       have CL := V.lies_keep (fun h => h) (fun y hy => (hbz.block y (by have := hS y hy; omega)).trans (hkW y hy)) (fun _ h => h) _ hG.b
       cases hcl : clnB vb
       ·have hsD : stD f (⟨key, va, vb, [.int .i64 yk, .bool yb, .int .i64 yi, .string ys, .slice yal ynl ycl, .slice yam ynm ycm], [.int .i64 zk, .bool zb, .int .i64 zi, .string zs, .slice zal znl zcl, .slice zam znm zcm], true, true⟩ : Pr) = none := by first | (unfold stD; dsimp only; rw [if_neg (by decide), if_neg hkk, if_neg hne, if_neg (by rw [hcl]; decide)]) | simp [stD, hkk, hne, hcl]
        have hpn : ∀ We, Below W.heap.size W We → KeepsFrom w6.heap.size W We ∧ (∃ p x, (pre ++ [(⟨key, va, vb, [.int .i64 yk, .bool yb, .int .i64 yi, .string ys, .slice yal ynl ycl, .slice yam ynm ycm], [.int .i64 zk, .bool zb, .int .i64 zi, .string zs, .slice zal znl zcl, .slice zam znm zcm], true, true⟩ : Pr)]) = p ++ [x] ∧ stD f x = none) ∧ Below (w.heap.size + 1) w6 We := fun We h => by
         obtain ⟨a1, a2, sl', a3, a4, a5⟩ := round_skip (by omega) hS1 h6 bW acc0 v1 h
         rw [h6]
         exact ⟨a1, ⟨pre, _, rfl, hsD⟩, a5⟩
        have CP := putin_pan vb S _ Wz low (hE.below (bwW.trans (hbz.mono (by omega))) hE.z) hcl CL (fun y hy => by have := hS y hy; omega)
        clear hkk hne
        gi_wp2
        refine ⟨trivial, (CallsIn.inRound lp (callsIn_wide.2 CP)).mono ?_⟩
        rintro e_ Wc ⟨rfl, bu⟩
        gi_wp2
        have hq := hpn Wc (hbz.trans (bu.mono (by omega)))
        exact ⟨rfl, hq.1, rfl, hq.2.1, hq.2.2⟩
       ·have hsD : stD f (⟨key, va, vb, [.int .i64 yk, .bool yb, .int .i64 yi, .string ys, .slice yal ynl ycl, .slice yam ynm ycm], [.int .i64 zk, .bool zb, .int .i64 zi, .string zs, .slice zal znl zcl, .slice zam znm zcm], true, true⟩ : Pr) = some [(key, vb)] := by first | (unfold stD; dsimp only; rw [if_neg (by decide), if_neg hkk, if_neg hne, if_pos hcl]) | simp [stD, hkk, hne, hcl]
        have hfin : ∀ We, (KeepsFrom (w.heap.size + 4) W We ∧ Kx (w.heap.size + 4) (w.heap.size + 1) W We ∧ ∃ sl', We.heap[w.heap.size + 1]? = some (.cells #[.int .i64 5, .bool false, .int .i64 0, .string ⟨#[]⟩, .slice none 0 0, sl'] 25) ∧ AccK S (w.heap.size + 4) (ps.map (fun q => q.1) ++ [(key, vb)]) sl' We ∧ Below (w.heap.size + 1) w6 We) → KeepsFrom w6.heap.size W We ∧ Kx (w.heap.size + 4) (w.heap.size + 1) W We ∧ ∃ ms sl, stDs f (pre ++ [(⟨key, va, vb, [.int .i64 yk, .bool yb, .int .i64 yi, .string ys, .slice yal ynl ycl, .slice yam ynm ycm], [.int .i64 zk, .bool zb, .int .i64 zi, .string zs, .slice zal znl zcl, .slice zam znm zcm], true, true⟩ : Pr)]) = some ms ∧ We.heap[w.heap.size + 1]? = some (.cells #[.int .i64 5, .bool false, .int .i64 0, .string ⟨#[]⟩, .slice none 0 0, sl] 25) ∧ AccK S (w.heap.size + 4) ms sl We ∧ Below (w.heap.size + 1) w6 We := fun We h => by
         rw [h6]
         obtain ⟨a1, a2, sl', a3, a4, a5⟩ := h
         exact ⟨a1, a2, _, sl', stDs_snoc hms hsD, a3, a4, a5⟩
        have CP := putin_any vb S _ Wz hcl CL (fun y hy => by have := hS y hy; omega)
        clear hkk hne
        gi_wp2
        refine ⟨trivial, (CallsIn.inRound lp (callsIn_wide.2 CP)).mono ?_⟩
        rintro e_ Wc ⟨cu, rfl, hu0, bu⟩
        clear CP
        obtain ⟨uk, ub, ui, us, ual, unl, ucl, uam, unm, ucm, rfl⟩ := V.ten hu0
        have hzu := bu.size
        have hstc := (bu.block W.heap.size (by omega)).trans hst
        obtain ⟨cz0, cz1, cz2, cz3, cz4, cz5⟩ := sixC hstc
        have fz := frozen_of_block hstc
        have ho6 := six_o Wc W.heap.size (.int .i64 uk) (.bool ub) (.int .i64 ui) (.string us) (.slice ual unl ucl) (.slice uam unm ucm)
        have hz6 := six_z Wc W.heap.size (.int .i64 uk) (.bool ub) (.int .i64 ui) (.string us) (.slice ual unl ucl) (.slice uam unm ucm)
        have hbk : Below W.heap.size W ((((((Wc.setCell ⟨W.heap.size, 0, none⟩ (.int .i64 uk)).setCell ⟨W.heap.size, 1, none⟩ (.bool ub)).setCell ⟨W.heap.size, 2, none⟩ (.int .i64 ui)).setCell ⟨W.heap.size, 3, none⟩ (.string us)).setCell ⟨W.heap.size, 4, none⟩ (.slice ual unl ucl)).setCell ⟨W.heap.size, 5, none⟩ (.slice uam unm ucm)) := Below.set6 (hbz.trans (bu.mono (by omega))) (M := W.heap.size) (Nat.le_refl _) 0 1 2 3 4 5 (.int .i64 uk) (.bool ub) (.int .i64 ui) (.string us) (.slice ual unl ucl) (.slice uam unm ucm)
        have hst6 := box_six hstc (.int .i64 uk) (.bool ub) (.int .i64 ui) (.string us) (.slice ual unl ucl) (.slice uam unm ucm)
        have hu : (vb).lies false ((((((Wc.setCell ⟨W.heap.size, 0, none⟩ (.int .i64 uk)).setCell ⟨W.heap.size, 1, none⟩ (.bool ub)).setCell ⟨W.heap.size, 2, none⟩ (.int .i64 ui)).setCell ⟨W.heap.size, 3, none⟩ (.string us)).setCell ⟨W.heap.size, 4, none⟩ (.slice ual unl ucl)).setCell ⟨W.heap.size, 5, none⟩ (.slice uam unm ucm)) (fun y => S y ∨ (W.heap.size ≤ y ∧ y < ((((((Wc.setCell ⟨W.heap.size, 0, none⟩ (.int .i64 uk)).setCell ⟨W.heap.size, 1, none⟩ (.bool ub)).setCell ⟨W.heap.size, 2, none⟩ (.int .i64 ui)).setCell ⟨W.heap.size, 3, none⟩ (.string us)).setCell ⟨W.heap.size, 4, none⟩ (.slice ual unl ucl)).setCell ⟨W.heap.size, 5, none⟩ (.slice uam unm ucm)).heap.size)) [.int .i64 uk, .bool ub, .int .i64 ui, .string us, .slice ual unl ucl, .slice uam unm ucm] := V.lies_keep (fun h => h) (fun y hy => ho6 y (by rcases hy with hy | hy <;> first | (have := hS y hy; omega) | (have := hy.1; omega))) (fun y hy => hy.elim .inl (fun h => .inr ⟨by have := h.1; omega, by have := h.2; omega⟩)) _ hu0
        have hkz : W.heap.size < ((((((Wc.setCell ⟨W.heap.size, 0, none⟩ (.int .i64 uk)).setCell ⟨W.heap.size, 1, none⟩ (.bool ub)).setCell ⟨W.heap.size, 2, none⟩ (.int .i64 ui)).setCell ⟨W.heap.size, 3, none⟩ (.string us)).setCell ⟨W.heap.size, 4, none⟩ (.slice ual unl ucl)).setCell ⟨W.heap.size, 5, none⟩ (.slice uam unm ucm)).heap.size := by omega
        have h12 := hmk (And.intro hbk (And.intro hst6 (And.intro hu hkz)))
        clear hbk hst6 hu hkz ho6 hz6 hu0 hsz
        gi_wp2
        clear cz0 cz1 cz2 cz3 cz4 cz5 fz hst
        obtain ⟨hbk, hst, hu, hkz⟩ := h12.out
        clear h12
        generalize ((((((Wc.setCell ⟨W.heap.size, 0, none⟩ (.int .i64 uk)).setCell ⟨W.heap.size, 1, none⟩ (.bool ub)).setCell ⟨W.heap.size, 2, none⟩ (.int .i64 ui)).setCell ⟨W.heap.size, 3, none⟩ (.string us)).setCell ⟨W.heap.size, 4, none⟩ (.slice ual unl ucl)).setCell ⟨W.heap.size, 5, none⟩ (.slice uam unm ucm)) = Wk at *
        refine round_held_drew (S := fun X => X.heap[W.heap.size]? = some (.cells #[.int .i64 uk, .bool ub, .int .i64 ui, .string us, .slice ual unl ucl, .slice uam unm ucm] 25)) (by kernel_rfl) (by kernel_rfl) (by rintro ⟨_, _, h⟩; exact h) hst (fun hHeld => ?_)
        (refine tjA 0 ?_; (try simp only [Act.put, zA, zB, zC]))
        (refine tjA 2 ?_; (try simp only [Act.put, zA, zB, zC]))
        (refine tkA 3 ?_ ?_ ?_; rotate_left 1; (intro W0 hSw; (have z0_ : W0.cell? ⟨W.heap.size, 0, none⟩ = some (.int .i64 uk) := (by rw [cell_of_block hSw]; rfl); have z1_ : W0.cell? ⟨W.heap.size, 1, none⟩ = some (.bool ub) := (by rw [cell_of_block hSw]; rfl); have z2_ : W0.cell? ⟨W.heap.size, 2, none⟩ = some (.int .i64 ui) := (by rw [cell_of_block hSw]; rfl); have z3_ : W0.cell? ⟨W.heap.size, 3, none⟩ = some (.string us) := (by rw [cell_of_block hSw]; rfl); have z4_ : W0.cell? ⟨W.heap.size, 4, none⟩ = some (.slice ual unl ucl) := (by rw [cell_of_block hSw]; rfl); have z5_ : W0.cell? ⟨W.heap.size, 5, none⟩ = some (.slice uam unm ucm) := (by rw [cell_of_block hSw]; rfl)); go_simp; (try with_reducible rfl)); (try simp only [Act.put, zA, zB, zC]))
        (refine tjA 4 ?_; (try simp only [Act.put, zA, zB, zC]))
        have hbe : Below Wk.heap.size Wk (Wk.alloc (.cells #[.string ⟨#[]⟩, .int .i64 0, .bool false, .int .i64 0, .string ⟨#[]⟩, .slice none 0 0, .slice none 0 0] 57)).drew := (one_belowG Wk _).drew
        have hb2 : Below W.heap.size W (Wk.alloc (.cells #[.string ⟨#[]⟩, .int .i64 0, .bool false, .int .i64 0, .string ⟨#[]⟩, .slice none 0 0, .slice none 0 0] 57)).drew := hbk.trans (hbe.mono (by omega))
        have hz2 : (Wk.alloc (.cells #[.string ⟨#[]⟩, .int .i64 0, .bool false, .int .i64 0, .string ⟨#[]⟩, .slice none 0 0, .slice none 0 0] 57)).drew.heap.size = Wk.heap.size + 1 := alloc_size _ _
        have nb : (Wk.alloc (.cells #[.string ⟨#[]⟩, .int .i64 0, .bool false, .int .i64 0, .string ⟨#[]⟩, .slice none 0 0, .slice none 0 0] 57)).drew.heap[Wk.heap.size]? = some (.cells #[.string ⟨#[]⟩, .int .i64 0, .bool false, .int .i64 0, .string ⟨#[]⟩, .slice none 0 0, .slice none 0 0] 57) := heap_alloc_new Wk _
        have hX2 := (hbe.block W.heap.size (by omega)).trans hst
        have hv2 := (hb2.block (w.heap.size + 1) (by omega)).trans v1
        have ho2 := ho.below hb2
        unfold OwnC at ho2
        rw [List.length_map] at ho2
        have hx2 : PM (Wk.alloc (.cells #[.string ⟨#[]⟩, .int .i64 0, .bool false, .int .i64 0, .string ⟨#[]⟩, .slice none 0 0, .slice none 0 0] 57)).drew (fun y => S y ∨ (W.heap.size ≤ y ∧ y < (Wk.alloc (.cells #[.string ⟨#[]⟩, .int .i64 0, .bool false, .int .i64 0, .string ⟨#[]⟩, .slice none 0 0, .slice none 0 0] 57)).drew.heap.size)) ((key, vb), [.string key, .int .i64 uk, .bool ub, .int .i64 ui, .string us, .slice ual unl ucl, .slice uam unm ucm]) := ⟨_, rfl, hG.k, V.lies_keep (fun h => h) (fun y hy => hbe.block y (by rcases hy with hy | hy <;> first | omega | (have := hS y hy; omega))) (fun y hy => hy.elim .inl (fun h => .inr ⟨h.1, by omega⟩)) _ hu⟩
        have ck : Wk.cell? ⟨w.heap.size + 1, 5, none⟩ = some (.slice sa ps.length sc) := (World.cell?_of_block (w := W) (a := ⟨w.heap.size + 1, 5, none⟩) (hbk.block (w.heap.size + 1) (by omega))).trans c3
        have cka : ∀ o, (Wk.alloc o).cell? ⟨w.heap.size + 1, 5, none⟩ = some (.slice sa ps.length sc) := fun o => (World.cell?_of_block (w := Wk) (a := ⟨w.heap.size + 1, 5, none⟩) (Below.heap_alloc Wk o (w.heap.size + 1) (by omega))).trans ck
        refine ryA [1, 6] ?_
        refine rA2 (fun K hK => ?_) fun K hK => ?_
        ·go_simp
         refine hK.out _ _ hst (fun hHeld => ?_)
         clear hK K
         (try simp only [Act.put, zA, zB, zC])
         (refine tjA 5 ?_; (try simp only [Act.put, zA, zB, zC]))
         refine ryA [6] ?_
         refine rA1 fun K hK => ?_
         go_simp
         refine hK.out _ _ hX2 (fun hHeld => ?_)
         clear hK K
         (try simp only [Act.put, zA, zB, zC])
         generalize (Wk.alloc (.cells #[.string ⟨#[]⟩, .int .i64 0, .bool false, .int .i64 0, .string ⟨#[]⟩, .slice none 0 0, .slice none 0 0] 57)).drew = W2 at *
         refine ryA [7] ?_
         refine rA1 fun K hK => ?_
         refine step_blank rfl (.tmp 55) (.tmp 60) rfl (w.heap.size + 4) (.slice sa ps.length sc) ps.length _ rfl ho2 Wk.heap.size rfl nb (by omega) (by omega) ?_
         intro g cap w5 h5 g5 l5
         have hX5 : w5.heap[W.heap.size]? = some (.cells #[.int .i64 uk, .bool ub, .int .i64 ui, .string us, .slice ual unl ucl, .slice uam unm ucm] 25) := (g5.block W.heap.size (by omega) (fun h => hBo h.symm)).trans hX2
         refine hK.out _ _ hX5 (fun hHeld => ?_)
         clear hK K
         (try simp only [Act.put, zA, zB, zC])
         have hgn : g ≠ w.heap.size + 1 := by have := (World.ownsRow.lt h5 g rfl).1; omega
         have hgx : W.heap.size ≠ g := fun h => by
          rcases l5 with l5 | l5
          ·exact hBo (by rw [h]; exact l5)
          ·omega
         have yN : (ps.length : Int) < ((ps.length + 1 : Nat) : Int) := by omega
         have yN2 : (ps.length : Int) < (ps.length : Int) + 1 := by omega
         (refine tjA 8 ?_; (try simp only [Act.put, zA, zB, zC]))
         (refine tjA 10 ?_; (try simp only [Act.put, zA, zB, zC]))
         have hv5 : w5.heap[w.heap.size + 1]? = some (.cells #[.int .i64 5, .bool false, .int .i64 0, .string ⟨#[]⟩, .slice none 0 0, .slice sa ps.length sc] 25) := (g5.block _ (by omega) (fun h => by have := (hown _ h.symm).1; omega)).trans hv2
         have c5 : w5.cell? ⟨w.heap.size + 1, 5, none⟩ = some (.slice sa ps.length sc) := by rw [cell_of_block hv5]; rfl
         have f5 : w5.frozen? ⟨w.heap.size + 1, 5, none⟩ = false := frozen_of_block hv5 5
         obtain ⟨bc, bf⟩ := blank_cells h5 ho2.1
         have b0 : w5.cell? ⟨g, ps.length * 7, none⟩ = some (.string ⟨#[]⟩) := bc 0 _ rfl
         have b1 : w5.cell? ⟨g, ps.length * 7 + 1, none⟩ = some (.int .i64 0) := bc 1 _ rfl
         have b2 : w5.cell? ⟨g, ps.length * 7 + 2, none⟩ = some (.bool false) := bc 2 _ rfl
         have b3 : w5.cell? ⟨g, ps.length * 7 + 3, none⟩ = some (.int .i64 0) := bc 3 _ rfl
         have b4 : w5.cell? ⟨g, ps.length * 7 + 4, none⟩ = some (.string ⟨#[]⟩) := bc 4 _ rfl
         have b5 : w5.cell? ⟨g, ps.length * 7 + 5, none⟩ = some (.slice none 0 0) := bc 5 _ rfl
         have b6 : w5.cell? ⟨g, ps.length * 7 + 6, none⟩ = some (.slice none 0 0) := bc 6 _ rfl
         have E1 := end1 (n := ps.length) hgn hv5 (.slice (some ⟨g, 0, none⟩) (ps.length + 1) cap) (.string key) (.int .i64 uk) (.bool ub) (.int .i64 ui) (.string us) (.slice ual unl ucl) (.slice uam unm ucm)
         have E2 := end2 (n := ps.length) hgn hv5 (.slice (some ⟨g, 0, none⟩) (ps.length + 1) cap) (.string key) (.int .i64 uk) (.bool ub) (.int .i64 ui) (.string us) (.slice ual unl ucl) (.slice uam unm ucm)
         have oA : ∀ z, z ≠ g → (((((((w5.setCell ⟨g, ps.length * 7, none⟩ (.string key)).setCell ⟨g, ps.length * 7 + 1, none⟩ (.int .i64 uk)).setCell ⟨g, ps.length * 7 + 2, none⟩ (.bool ub)).setCell ⟨g, ps.length * 7 + 3, none⟩ (.int .i64 ui)).setCell ⟨g, ps.length * 7 + 4, none⟩ (.string us)).setCell ⟨g, ps.length * 7 + 5, none⟩ (.slice ual unl ucl)).setCell ⟨g, ps.length * 7 + 6, none⟩ (.slice uam unm ucm)).heap[z]? = w5.heap[z]? := fun z hz => sets7_o w5 g ps.length (.string key) (.int .i64 uk) (.bool ub) (.int .i64 ui) (.string us) (.slice ual unl ucl) (.slice uam unm ucm) z hz
         have oM : ∀ z, z ≠ w.heap.size + 1 → (w5.setCell ⟨w.heap.size + 1, 5, none⟩ (.slice (some ⟨g, 0, none⟩) (ps.length + 1) cap)).heap[z]? = w5.heap[z]? := fun z hz => set_other hz
         have a5 : (((((((w5.setCell ⟨g, ps.length * 7, none⟩ (.string key)).setCell ⟨g, ps.length * 7 + 1, none⟩ (.int .i64 uk)).setCell ⟨g, ps.length * 7 + 2, none⟩ (.bool ub)).setCell ⟨g, ps.length * 7 + 3, none⟩ (.int .i64 ui)).setCell ⟨g, ps.length * 7 + 4, none⟩ (.string us)).setCell ⟨g, ps.length * 7 + 5, none⟩ (.slice ual unl ucl)).setCell ⟨g, ps.length * 7 + 6, none⟩ (.slice uam unm ucm)).cell? ⟨w.heap.size + 1, 5, none⟩ = some (.slice sa ps.length sc) := (World.cell?_of_block (w := w5) (a := ⟨w.heap.size + 1, 5, none⟩) (oA _ (fun h => hgn h.symm))).trans c5
         have af : (((((((w5.setCell ⟨g, ps.length * 7, none⟩ (.string key)).setCell ⟨g, ps.length * 7 + 1, none⟩ (.int .i64 uk)).setCell ⟨g, ps.length * 7 + 2, none⟩ (.bool ub)).setCell ⟨g, ps.length * 7 + 3, none⟩ (.int .i64 ui)).setCell ⟨g, ps.length * 7 + 4, none⟩ (.string us)).setCell ⟨g, ps.length * 7 + 5, none⟩ (.slice ual unl ucl)).setCell ⟨g, ps.length * 7 + 6, none⟩ (.slice uam unm ucm)).frozen? ⟨w.heap.size + 1, 5, none⟩ = false := frozen_of_block ((oA _ (fun h => hgn h.symm)).trans hv5) 5
         have mf : ∀ ii, (w5.setCell ⟨w.heap.size + 1, 5, none⟩ (.slice (some ⟨g, 0, none⟩) (ps.length + 1) cap)).frozen? ⟨g, ii, none⟩ = false := fun ii => (frozen_other (oM g hgn) ii).trans (bf ii)
         have m0 : (w5.setCell ⟨w.heap.size + 1, 5, none⟩ (.slice (some ⟨g, 0, none⟩) (ps.length + 1) cap)).cell? ⟨g, ps.length * 7, none⟩ = some (.string ⟨#[]⟩) := (World.cell?_of_block (w := w5) (a := ⟨g, ps.length * 7, none⟩) (oM g hgn)).trans b0
         have m1 : (w5.setCell ⟨w.heap.size + 1, 5, none⟩ (.slice (some ⟨g, 0, none⟩) (ps.length + 1) cap)).cell? ⟨g, ps.length * 7 + 1, none⟩ = some (.int .i64 0) := (World.cell?_of_block (w := w5) (a := ⟨g, ps.length * 7 + 1, none⟩) (oM g hgn)).trans b1
         have m2 : (w5.setCell ⟨w.heap.size + 1, 5, none⟩ (.slice (some ⟨g, 0, none⟩) (ps.length + 1) cap)).cell? ⟨g, ps.length * 7 + 2, none⟩ = some (.bool false) := (World.cell?_of_block (w := w5) (a := ⟨g, ps.length * 7 + 2, none⟩) (oM g hgn)).trans b2
         have m3 : (w5.setCell ⟨w.heap.size + 1, 5, none⟩ (.slice (some ⟨g, 0, none⟩) (ps.length + 1) cap)).cell? ⟨g, ps.length * 7 + 3, none⟩ = some (.int .i64 0) := (World.cell?_of_block (w := w5) (a := ⟨g, ps.length * 7 + 3, none⟩) (oM g hgn)).trans b3
         have m4 : (w5.setCell ⟨w.heap.size + 1, 5, none⟩ (.slice (some ⟨g, 0, none⟩) (ps.length + 1) cap)).cell? ⟨g, ps.length * 7 + 4, none⟩ = some (.string ⟨#[]⟩) := (World.cell?_of_block (w := w5) (a := ⟨g, ps.length * 7 + 4, none⟩) (oM g hgn)).trans b4
         have m5 : (w5.setCell ⟨w.heap.size + 1, 5, none⟩ (.slice (some ⟨g, 0, none⟩) (ps.length + 1) cap)).cell? ⟨g, ps.length * 7 + 5, none⟩ = some (.slice none 0 0) := (World.cell?_of_block (w := w5) (a := ⟨g, ps.length * 7 + 5, none⟩) (oM g hgn)).trans b5
         have m6 : (w5.setCell ⟨w.heap.size + 1, 5, none⟩ (.slice (some ⟨g, 0, none⟩) (ps.length + 1) cap)).cell? ⟨g, ps.length * 7 + 6, none⟩ = some (.slice none 0 0) := (World.cell?_of_block (w := w5) (a := ⟨g, ps.length * 7 + 6, none⟩) (oM g hgn)).trans b6
         refine ryA [9, 11] ?_
         refine rA2 (fun K hK => ?_) fun K hK => ?_
         ·go_simp
          refine hK.out _ _ ((oA W.heap.size hgx).trans hX5) (fun hHeld => ?_)
          clear hK K
          (try simp only [Act.put, zA, zB, zC])
          refine ryA [11] ?_
          refine rA1 fun K hK => ?_
          go_simp
          refine hK.out _ _ ((E1.o_ W.heap.size hgx (by omega)).trans hX5) (fun hHeld => ?_)
          clear hK K
          (try simp only [Act.put, zA, zB, zC])
          refine wpAnyH_done (by kernel_rfl) ?_ _
          have R1 := round_at (by omega) hS1 h6 bW rfl rfl ho hp hb2 hx2 h5 g5 l5 E1
          gi_wp2
          exact hfin _ R1
         ·go_simp
          refine hK.out _ _ ((oM W.heap.size (by omega)).trans hX5) (fun hHeld => ?_)
          clear hK K
          (try simp only [Act.put, zA, zB, zC])
          refine ryA [9] ?_
          refine rA1 fun K hK => ?_
          go_simp
          refine hK.out _ _ ((E2.o_ W.heap.size hgx (by omega)).trans hX5) (fun hHeld => ?_)
          clear hK K
          (try simp only [Act.put, zA, zB, zC])
          refine wpAnyH_done (by kernel_rfl) ?_ _
          have R1 := round_at (by omega) hS1 h6 bW rfl rfl ho hp hb2 hx2 h5 g5 l5 E2
          gi_wp2
          exact hfin _ R1
        ·go_simp
         refine hK.out _ _ hX2 (fun hHeld => ?_)
         clear hK K
         (try simp only [Act.put, zA, zB, zC])
         refine ryA [1] ?_
         refine rA1 fun K hK => ?_
         go_simp
         refine hK.out _ _ hX2 (fun hHeld => ?_)
         clear hK K
         (try simp only [Act.put, zA, zB, zC])
         (refine tjA 5 ?_; (try simp only [Act.put, zA, zB, zC]))
         generalize (Wk.alloc (.cells #[.string ⟨#[]⟩, .int .i64 0, .bool false, .int .i64 0, .string ⟨#[]⟩, .slice none 0 0, .slice none 0 0] 57)).drew = W2 at *
         refine ryA [7] ?_
         refine rA1 fun K hK => ?_
         refine step_blank rfl (.tmp 55) (.tmp 60) rfl (w.heap.size + 4) (.slice sa ps.length sc) ps.length _ rfl ho2 Wk.heap.size rfl nb (by omega) (by omega) ?_
         intro g cap w5 h5 g5 l5
         have hX5 : w5.heap[W.heap.size]? = some (.cells #[.int .i64 uk, .bool ub, .int .i64 ui, .string us, .slice ual unl ucl, .slice uam unm ucm] 25) := (g5.block W.heap.size (by omega) (fun h => hBo h.symm)).trans hX2
         refine hK.out _ _ hX5 (fun hHeld => ?_)
         clear hK K
         (try simp only [Act.put, zA, zB, zC])
         have hgn : g ≠ w.heap.size + 1 := by have := (World.ownsRow.lt h5 g rfl).1; omega
         have hgx : W.heap.size ≠ g := fun h => by
          rcases l5 with l5 | l5
          ·exact hBo (by rw [h]; exact l5)
          ·omega
         have yN : (ps.length : Int) < ((ps.length + 1 : Nat) : Int) := by omega
         have yN2 : (ps.length : Int) < (ps.length : Int) + 1 := by omega
         (refine tjA 8 ?_; (try simp only [Act.put, zA, zB, zC]))
         (refine tjA 10 ?_; (try simp only [Act.put, zA, zB, zC]))
         have hv5 : w5.heap[w.heap.size + 1]? = some (.cells #[.int .i64 5, .bool false, .int .i64 0, .string ⟨#[]⟩, .slice none 0 0, .slice sa ps.length sc] 25) := (g5.block _ (by omega) (fun h => by have := (hown _ h.symm).1; omega)).trans hv2
         have c5 : w5.cell? ⟨w.heap.size + 1, 5, none⟩ = some (.slice sa ps.length sc) := by rw [cell_of_block hv5]; rfl
         have f5 : w5.frozen? ⟨w.heap.size + 1, 5, none⟩ = false := frozen_of_block hv5 5
         obtain ⟨bc, bf⟩ := blank_cells h5 ho2.1
         have b0 : w5.cell? ⟨g, ps.length * 7, none⟩ = some (.string ⟨#[]⟩) := bc 0 _ rfl
         have b1 : w5.cell? ⟨g, ps.length * 7 + 1, none⟩ = some (.int .i64 0) := bc 1 _ rfl
         have b2 : w5.cell? ⟨g, ps.length * 7 + 2, none⟩ = some (.bool false) := bc 2 _ rfl
         have b3 : w5.cell? ⟨g, ps.length * 7 + 3, none⟩ = some (.int .i64 0) := bc 3 _ rfl
         have b4 : w5.cell? ⟨g, ps.length * 7 + 4, none⟩ = some (.string ⟨#[]⟩) := bc 4 _ rfl
         have b5 : w5.cell? ⟨g, ps.length * 7 + 5, none⟩ = some (.slice none 0 0) := bc 5 _ rfl
         have b6 : w5.cell? ⟨g, ps.length * 7 + 6, none⟩ = some (.slice none 0 0) := bc 6 _ rfl
         have E1 := end1 (n := ps.length) hgn hv5 (.slice (some ⟨g, 0, none⟩) (ps.length + 1) cap) (.string key) (.int .i64 uk) (.bool ub) (.int .i64 ui) (.string us) (.slice ual unl ucl) (.slice uam unm ucm)
         have E2 := end2 (n := ps.length) hgn hv5 (.slice (some ⟨g, 0, none⟩) (ps.length + 1) cap) (.string key) (.int .i64 uk) (.bool ub) (.int .i64 ui) (.string us) (.slice ual unl ucl) (.slice uam unm ucm)
         have oA : ∀ z, z ≠ g → (((((((w5.setCell ⟨g, ps.length * 7, none⟩ (.string key)).setCell ⟨g, ps.length * 7 + 1, none⟩ (.int .i64 uk)).setCell ⟨g, ps.length * 7 + 2, none⟩ (.bool ub)).setCell ⟨g, ps.length * 7 + 3, none⟩ (.int .i64 ui)).setCell ⟨g, ps.length * 7 + 4, none⟩ (.string us)).setCell ⟨g, ps.length * 7 + 5, none⟩ (.slice ual unl ucl)).setCell ⟨g, ps.length * 7 + 6, none⟩ (.slice uam unm ucm)).heap[z]? = w5.heap[z]? := fun z hz => sets7_o w5 g ps.length (.string key) (.int .i64 uk) (.bool ub) (.int .i64 ui) (.string us) (.slice ual unl ucl) (.slice uam unm ucm) z hz
         have oM : ∀ z, z ≠ w.heap.size + 1 → (w5.setCell ⟨w.heap.size + 1, 5, none⟩ (.slice (some ⟨g, 0, none⟩) (ps.length + 1) cap)).heap[z]? = w5.heap[z]? := fun z hz => set_other hz
         have a5 : (((((((w5.setCell ⟨g, ps.length * 7, none⟩ (.string key)).setCell ⟨g, ps.length * 7 + 1, none⟩ (.int .i64 uk)).setCell ⟨g, ps.length * 7 + 2, none⟩ (.bool ub)).setCell ⟨g, ps.length * 7 + 3, none⟩ (.int .i64 ui)).setCell ⟨g, ps.length * 7 + 4, none⟩ (.string us)).setCell ⟨g, ps.length * 7 + 5, none⟩ (.slice ual unl ucl)).setCell ⟨g, ps.length * 7 + 6, none⟩ (.slice uam unm ucm)).cell? ⟨w.heap.size + 1, 5, none⟩ = some (.slice sa ps.length sc) := (World.cell?_of_block (w := w5) (a := ⟨w.heap.size + 1, 5, none⟩) (oA _ (fun h => hgn h.symm))).trans c5
         have af : (((((((w5.setCell ⟨g, ps.length * 7, none⟩ (.string key)).setCell ⟨g, ps.length * 7 + 1, none⟩ (.int .i64 uk)).setCell ⟨g, ps.length * 7 + 2, none⟩ (.bool ub)).setCell ⟨g, ps.length * 7 + 3, none⟩ (.int .i64 ui)).setCell ⟨g, ps.length * 7 + 4, none⟩ (.string us)).setCell ⟨g, ps.length * 7 + 5, none⟩ (.slice ual unl ucl)).setCell ⟨g, ps.length * 7 + 6, none⟩ (.slice uam unm ucm)).frozen? ⟨w.heap.size + 1, 5, none⟩ = false := frozen_of_block ((oA _ (fun h => hgn h.symm)).trans hv5) 5
         have mf : ∀ ii, (w5.setCell ⟨w.heap.size + 1, 5, none⟩ (.slice (some ⟨g, 0, none⟩) (ps.length + 1) cap)).frozen? ⟨g, ii, none⟩ = false := fun ii => (frozen_other (oM g hgn) ii).trans (bf ii)
         have m0 : (w5.setCell ⟨w.heap.size + 1, 5, none⟩ (.slice (some ⟨g, 0, none⟩) (ps.length + 1) cap)).cell? ⟨g, ps.length * 7, none⟩ = some (.string ⟨#[]⟩) := (World.cell?_of_block (w := w5) (a := ⟨g, ps.length * 7, none⟩) (oM g hgn)).trans b0
         have m1 : (w5.setCell ⟨w.heap.size + 1, 5, none⟩ (.slice (some ⟨g, 0, none⟩) (ps.length + 1) cap)).cell? ⟨g, ps.length * 7 + 1, none⟩ = some (.int .i64 0) := (World.cell?_of_block (w := w5) (a := ⟨g, ps.length * 7 + 1, none⟩) (oM g hgn)).trans b1
         have m2 : (w5.setCell ⟨w.heap.size + 1, 5, none⟩ (.slice (some ⟨g, 0, none⟩) (ps.length + 1) cap)).cell? ⟨g, ps.length * 7 + 2, none⟩ = some (.bool false) := (World.cell?_of_block (w := w5) (a := ⟨g, ps.length * 7 + 2, none⟩) (oM g hgn)).trans b2
         have m3 : (w5.setCell ⟨w.heap.size + 1, 5, none⟩ (.slice (some ⟨g, 0, none⟩) (ps.length + 1) cap)).cell? ⟨g, ps.length * 7 + 3, none⟩ = some (.int .i64 0) := (World.cell?_of_block (w := w5) (a := ⟨g, ps.length * 7 + 3, none⟩) (oM g hgn)).trans b3
         have m4 : (w5.setCell ⟨w.heap.size + 1, 5, none⟩ (.slice (some ⟨g, 0, none⟩) (ps.length + 1) cap)).cell? ⟨g, ps.length * 7 + 4, none⟩ = some (.string ⟨#[]⟩) := (World.cell?_of_block (w := w5) (a := ⟨g, ps.length * 7 + 4, none⟩) (oM g hgn)).trans b4
         have m5 : (w5.setCell ⟨w.heap.size + 1, 5, none⟩ (.slice (some ⟨g, 0, none⟩) (ps.length + 1) cap)).cell? ⟨g, ps.length * 7 + 5, none⟩ = some (.slice none 0 0) := (World.cell?_of_block (w := w5) (a := ⟨g, ps.length * 7 + 5, none⟩) (oM g hgn)).trans b5
         have m6 : (w5.setCell ⟨w.heap.size + 1, 5, none⟩ (.slice (some ⟨g, 0, none⟩) (ps.length + 1) cap)).cell? ⟨g, ps.length * 7 + 6, none⟩ = some (.slice none 0 0) := (World.cell?_of_block (w := w5) (a := ⟨g, ps.length * 7 + 6, none⟩) (oM g hgn)).trans b6
         refine ryA [9, 11] ?_
         refine rA2 (fun K hK => ?_) fun K hK => ?_
         ·go_simp
          refine hK.out _ _ ((oA W.heap.size hgx).trans hX5) (fun hHeld => ?_)
          clear hK K
          (try simp only [Act.put, zA, zB, zC])
          refine ryA [11] ?_
          refine rA1 fun K hK => ?_
          go_simp
          refine hK.out _ _ ((E1.o_ W.heap.size hgx (by omega)).trans hX5) (fun hHeld => ?_)
          clear hK K
          (try simp only [Act.put, zA, zB, zC])
          refine wpAnyH_done (by kernel_rfl) ?_ _
          have R1 := round_at (by omega) hS1 h6 bW rfl rfl ho hp hb2 hx2 h5 g5 l5 E1
          gi_wp2
          exact hfin _ R1
         ·go_simp
          refine hK.out _ _ ((oM W.heap.size (by omega)).trans hX5) (fun hHeld => ?_)
          clear hK K
          (try simp only [Act.put, zA, zB, zC])
          refine ryA [9] ?_
          refine rA1 fun K hK => ?_
          go_simp
          refine hK.out _ _ ((E2.o_ W.heap.size hgx (by omega)).trans hX5) (fun hHeld => ?_)
          clear hK K
          (try simp only [Act.put, zA, zB, zC])
          refine wpAnyH_done (by kernel_rfl) ?_ _
          have R1 := round_at (by omega) hS1 h6 bW rfl rfl ho hp hb2 hx2 h5 g5 l5 E2
          gi_wp2
          exact hfin _ R1
      ·have hsD : stD f (⟨key, va, vb, [.int .i64 yk, .bool yb, .int .i64 yi, .string ys, .slice yal ynl ycl, .slice yam ynm ycm], [.int .i64 zk, .bool zb, .int .i64 zi, .string zs, .slice zal znl zcl, .slice zam znm zcm], true, true⟩ : Pr) = some [] := by first | (unfold stD; dsimp only; rw [if_neg (by decide), if_neg hkk, if_pos ⟨rfl, heq⟩]) | simp [stD, hkk, heq]
       have hskip : ∀ We, Below W.heap.size W We → KeepsFrom w6.heap.size W We ∧ Kx (w.heap.size + 4) (w.heap.size + 1) W We ∧ ∃ ms sl, stDs f (pre ++ [(⟨key, va, vb, [.int .i64 yk, .bool yb, .int .i64 yi, .string ys, .slice yal ynl ycl, .slice yam ynm ycm], [.int .i64 zk, .bool zb, .int .i64 zi, .string zs, .slice zal znl zcl, .slice zam znm zcm], true, true⟩ : Pr)]) = some ms ∧ We.heap[w.heap.size + 1]? = some (.cells #[.int .i64 5, .bool false, .int .i64 0, .string ⟨#[]⟩, .slice none 0 0, sl] 25) ∧ AccK S (w.heap.size + 4) ms sl We ∧ Below (w.heap.size + 1) w6 We := fun We h => by
        obtain ⟨a1, a2, sl', a3, a4, a5⟩ := round_skip (by omega) hS1 h6 bW acc0 v1 h
        rw [h6]
        exact ⟨a1, a2, _, sl', by have := stDs_snoc hms hsD; rwa [List.append_nil] at this, a3, a4, a5⟩
       clear hkk
       gi_wp2
       exact hskip _ hbz
end Go.Proofs.YtjfldbmopjojdaaDoor
