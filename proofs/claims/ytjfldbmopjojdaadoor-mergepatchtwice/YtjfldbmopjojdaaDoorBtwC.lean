import Derived.Test.YtjfldbmopjojdaaDoorG38
import Derived.Test.YtjfldbmopjojdaaDoorCleA
/- mergepatch.betweenMaps where nothing is in both maps and what is new is clean. -/
set_option linter.unusedSimpArgs false
set_option linter.unusedVariables false
namespace Go.Proofs.YtjfldbmopjojdaaDoor
open Go Go.RowKit Go.Lib Go.Shelf
/-- a pair of which just one map has the key; what is new is clean -/
structure FlG (w : World) (S : Nat → Prop) (x : Pr) : Prop where
  k : x.key.size ≤ maxLen
  a : x.va.lies false w S x.a
  b : x.vb.lies false w S x.b
  g : x.g = true → x.f = false ∧ ¬ kindOf x.va = 5 ∧ clnB x.vb = true
/-- what a patch says of it -/
def stB (x : Pr) : Mem := (x.key, if x.g = true then x.vb else nullV)
attribute [local go_sem] Oper.semAt_some
set_option maxHeartbeats 8000000 in
set_option maxRecDepth 100000 in
theorem btw_flat (S : Nat → Prop) (qa qb : List (Mem × List Value)) (aa ab : Option Addr) (ca cb ba oa bb ob : Nat) (w : World) (hS : ∀ b, S b → b < w.heap.size) (haH : Headed aa qa.length ca ba oa) (hbH : Headed ab qb.length cb bb ob) (rowa : RowsOf w ba oa 7 (qa.map (fun q => q.2))) (rowb : RowsOf w bb ob 7 (qb.map (fun q => q.2)))
    (pma : ∀ q ∈ qa, PM w S q) (pmb : ∀ q ∈ qb, PM w S q) (insa : 0 < qa.length → S ba) (insb : 0 < qb.length → S bb) (hqa : qa.length ≤ 1114112) (hqb : qb.length ≤ 1114112) (HALL : ∀ x ∈ tgR qa qb, FlG w S x) :
    Calls Tryd.prog 56 #[.slice aa qa.length ca, .slice ab qb.length cb] w (RpPost (.mk 5 false 0 ⟨#[]⟩ [] ((tgR qa qb).map stB)) S w) := by
  have hS1 : ∀ y, S y → y < w.heap.size + 1 := fun y hy => by have := hS y hy; omega
  have hz4 : ((w.alloc (.cells #[.int .i64 0, .bool false, .int .i64 0, .string ⟨#[]⟩, .slice none 0 0, .slice none 0 0] 25)).alloc (.cells #[.int .i64 5, .bool false, .int .i64 0, .string ⟨#[]⟩, .slice none 0 0, .slice none 0 0] 25)).heap.size = w.heap.size + 2 := by rw [alloc_size, alloc_size]
  have hr4 := alloc2_keep1 w (.cells #[.int .i64 0, .bool false, .int .i64 0, .string ⟨#[]⟩, .slice none 0 0, .slice none 0 0] 25) (.cells #[.int .i64 5, .bool false, .int .i64 0, .string ⟨#[]⟩, .slice none 0 0, .slice none 0 0] 25)
  have n4 := alloc2_new w (.cells #[.int .i64 0, .bool false, .int .i64 0, .string ⟨#[]⟩, .slice none 0 0, .slice none 0 0] 25) (.cells #[.int .i64 5, .bool false, .int .i64 0, .string ⟨#[]⟩, .slice none 0 0, .slice none 0 0] 25)
  have bw4 : Below w.heap.size w ((w.alloc (.cells #[.int .i64 0, .bool false, .int .i64 0, .string ⟨#[]⟩, .slice none 0 0, .slice none 0 0] 25)).alloc (.cells #[.int .i64 5, .bool false, .int .i64 0, .string ⟨#[]⟩, .slice none 0 0, .slice none 0 0] 25)) := two_below w _ _
  refine (callsIn_wide (n := 3)).1 ?_
  refine callsIn_of_wp_marks Tryd.func56 rfl trivial ?_ rfl
  simp only [Tryd.ntmps56, List.size_toArray, List.length_cons, List.length_nil, Nat.reduceAdd, Nat.reduceSub, Array.replicate_succ, Array.replicate_zero, List.push_toArray, List.append_toArray, List.nil_append, List.cons_append]
  gi_wp2
  generalize ((w.alloc (.cells #[.int .i64 0, .bool false, .int .i64 0, .string ⟨#[]⟩, .slice none 0 0, .slice none 0 0] 25)).alloc (.cells #[.int .i64 5, .bool false, .int .i64 0, .string ⟨#[]⟩, .slice none 0 0, .slice none 0 0] 25)) = w4 at *
  refine ⟨trivial, (callsIn_wide.2 (together_any aa ab qa.length qb.length ca cb w4)).mono ?_⟩
  rintro e w6 ⟨rfl, hw6⟩
  rw [hz4]
  have b46 : Below w4.heap.size w4 w6 := by rw [hw6]; exact two_belowS w4 _ _
  have h6 : w6.heap.size = w.heap.size + 4 := by rw [hw6, alloc_size, alloc_size, hz4]
  have cA1 : w6.cell? ⟨w.heap.size + 2, 0, none⟩ = some (.slice aa qa.length ca) := by
    have h := (Below.heap_alloc (w4.alloc (.cells #[.slice aa qa.length ca] 23)) (.cells #[.slice ab qb.length cb] 23) w4.heap.size (by rw [alloc_size]; omega)).trans (heap_alloc_new w4 _)
    rw [← hw6, hz4] at h
    rw [cell_of_block h]; rfl
  have cA2 : w6.cell? ⟨w.heap.size + 3, 0, none⟩ = some (.slice ab qb.length cb) := by
    have h := heap_alloc_new (w4.alloc (.cells #[.slice aa qa.length ca] 23)) (.cells #[.slice ab qb.length cb] 23)
    rw [← hw6, alloc_size, hz4] at h
    rw [cell_of_block h]; rfl
  have v6 := (b46.block (w.heap.size + 1) (by omega)).trans n4
  have r6 := (b46.block w.heap.size (by omega)).trans hr4
  have bw6 := bw4.trans (b46.mono (by omega))
  clear hw6 b46 n4 hr4 bw4 hz4 w4
  have HS := tog_seq qa qb (withG (tgR qa qb) HALL) (withG_map _ _) (3 - 1) (w.heap.size + 4) (w.heap.size + 1) (w.heap.size + 2) (w.heap.size + 3) ba oa bb ob ca cb aa ab w6 cA1 cA2 (by omega) (by omega) (by omega) (by omega) (by omega)
    (fun h => ⟨haH.at_.resolve_left (by omega), by have := hS ba (insa h); omega, by have := hS ba (insa h); omega⟩) (fun h => ⟨hbH.at_.resolve_left (by omega), by have := hS bb (insb h); omega, by have := hS bb (insb h); omega⟩)
    (rows_below hS insa rowa bw6) (rows_below hS insb rowb bw6) (by omega) (by omega) (pm_six pma) (pm_six pmb)
  gi_wp2
  refine wpIn_rangeFunc_ownH rfl (by decide) (gf := 64) (lb := #[.pointer (some ⟨w.heap.size + 2, 0, none⟩), .pointer (some ⟨w.heap.size + 3, 0, none⟩)]) rfl trivial (enters_of Tryd.func64 (by kernel_rfl) rfl) HS (fun h k => h.trans k) (fun W l o o' hl h h1 h2 => kx_of (belowK_b (w := w6) (by omega) W l o o' hl h h1 h2)) (Below.refl _ _) (fun _ => rfl)
    (fun (pre : List {x : Pr // FlG w S x}) (W : World) => ∃ sl, W.heap[w.heap.size + 1]? = some (.cells #[.int .i64 5, .bool false, .int .i64 0, .string ⟨#[]⟩, .slice none 0 0, sl] 25) ∧ AccK S (w.heap.size + 4) (pre.map (fun x => stB x.1)) sl W ∧ Below (w.heap.size + 1) w6 W) (fun _ _ _ => False) ?hI (fun _ _ _ _ _ h _ _ => h) ⟨_, v6, AccK.nil S _ w6, Below.refl _ _⟩ (fun (x : {x : Pr // FlG w S x}) (a : Act) (W : World) => ∃ Bx, w.heap.size + 4 ≤ Bx ∧ W.heap[Bx]? = some (.cells (x.1.a ++ x.1.b ++ [Value.bool x.1.f, Value.bool x.1.g]).toArray 73) ∧ a = { tmps := #[.slice aa qa.length ca, .slice ab qb.length cb, undef, undef, .pointer (some ⟨w.heap.size, 0, none⟩), .pointer (some ⟨w.heap.size + 1, 0, none⟩), .string x.1.key, .pointer (some ⟨Bx, 0, none⟩), undef, .agg #[.int .i64 5, .bool false, .int .i64 0, .string ⟨#[]⟩, .slice none 0 0, .slice none 0 0], .slice aa qa.length ca, .slice ab qb.length cb, .func (.func 64) #[] #[.pointer (some ⟨w.heap.size + 2, 0, none⟩), .pointer (some ⟨w.heap.size + 3, 0, none⟩)], .string x.1.key, .agg (x.1.a ++ x.1.b ++ [Value.bool x.1.f, Value.bool x.1.g]).toArray, undef, undef, undef, undef, undef, undef, undef, undef, undef, undef, undef, undef, undef, undef, undef, undef, undef, undef, undef, undef, undef, undef, undef, undef, undef, undef, undef, undef, undef, undef, undef, undef, undef, undef, undef, undef, undef, undef, undef, undef, undef, undef, undef, undef, undef, undef, undef, undef, undef, undef], defers := [] }) ?hAx ?assign ?body ?done ?stop
  case hI =>
    rintro pre A B row ⟨sl, h1, h2, h3⟩ hg hr
    have hz := h3.size
    exact ⟨sl, (hg.block _ (by omega) (fun h => by have := (hr _ h.symm).1; omega)).trans h1, h2.own (fun y hy => by have := hS y hy; omega) hg (fun r h => (hr r h).2), h3.grown hg (by omega) (fun q h => by have := (hr q h).1; omega)⟩
  case hAx =>
    rintro x a' _ A B row ⟨Bx, h1, h2, h3⟩ hg hr
    refine ⟨Bx, h1, (hg.block _ (Array.getElem?_eq_some_iff.1 h2).1 (fun h => ?_)).trans h2, h3⟩
    obtain ⟨_, o, h4, h5⟩ := hr _ h.symm
    rw [h2] at h4
    cases h4
    cases h5
  case assign =>
    rintro lp pre x W K ⟨sl, v1, acc, bW⟩ hK
    have hzW := bW.size
    obtain ⟨⟨key, va, vb, xa, xb, xf, xg⟩, hG⟩ := x
    obtain ⟨yk, yb, yi, ys, yal, ynl, ycl, yam, ynm, ycm, ea⟩ := V.ten hG.a
    obtain ⟨zk, zb, zi, zs, zal, znl, zcl, zam, znm, zcm, eb⟩ := V.ten hG.b
    simp only at ea eb
    subst ea eb
    have hK' := hK { tmps := #[.slice aa qa.length ca, .slice ab qb.length cb, undef, undef, .pointer (some ⟨w.heap.size, 0, none⟩), .pointer (some ⟨w.heap.size + 1, 0, none⟩), .string key, .pointer (some ⟨W.heap.size, 0, none⟩), undef, .agg #[.int .i64 5, .bool false, .int .i64 0, .string ⟨#[]⟩, .slice none 0 0, .slice none 0 0], .slice aa qa.length ca, .slice ab qb.length cb, .func (.func 64) #[] #[.pointer (some ⟨w.heap.size + 2, 0, none⟩), .pointer (some ⟨w.heap.size + 3, 0, none⟩)], .string key, .agg #[.int .i64 yk, .bool yb, .int .i64 yi, .string ys, .slice yal ynl ycl, .slice yam ynm ycm, .int .i64 zk, .bool zb, .int .i64 zi, .string zs, .slice zal znl zcl, .slice zam znm zcm, .bool xf, .bool xg], undef, undef, undef, undef, undef, undef, undef, undef, undef, undef, undef, undef, undef, undef, undef, undef, undef, undef, undef, undef, undef, undef, undef, undef, undef, undef, undef, undef, undef, undef, undef, undef, undef, undef, undef, undef, undef, undef, undef, undef, undef, undef, undef, undef, undef, undef, undef, undef, undef, undef], defers := [] } (W.alloc (.cells #[.int .i64 yk, .bool yb, .int .i64 yi, .string ys, .slice yal ynl ycl, .slice yam ynm ycm, .int .i64 zk, .bool zb, .int .i64 zi, .string zs, .slice zal znl zcl, .slice zam znm zcm, .bool xf, .bool xg] 73)) ((KeepsOthers.alloc _ _).from _) (kx_of ((Below.refl _ W).alloc (by omega) _)) ⟨sl, (Below.heap_alloc W _ _ (by omega)).trans v1, acc.keep (fun y hy => Below.heap_alloc W _ y (by rcases hy with hy | hy <;> first | omega | (have := hS y hy; omega))) (by rw [alloc_size]; omega), bW.alloc (by omega) _⟩ ⟨W.heap.size, by omega, heap_alloc_new W _, rfl⟩
    clear hK
    simp only [Pr.enc]
    gi_wp2
    exact hK'
  case body =>
    rintro lp pre x a' W hlp ⟨r, hr⟩ ⟨sl, v1, acc, bW⟩ ⟨Bx, hBx, bX, rfl⟩ hlt
    have hzW := bW.size
    obtain ⟨⟨key, va, vb, xa, xb, xf, xg⟩, hG⟩ := x
    obtain ⟨yk, yb, yi, ys, yal, ynl, ycl, yam, ynm, ycm, ea⟩ := V.ten hG.a
    obtain ⟨zk, zb, zi, zs, zal, znl, zcl, zam, znm, zcm, eb⟩ := V.ten hG.b
    simp only at ea eb
    subst ea eb
    have hka : kindOf va = yk := kind_lies hG.a
    simp only [List.cons_append, List.nil_append] at bX ⊢
    have hBxs : Bx < W.heap.size := (Array.getElem?_eq_some_iff.1 bX).1
    have hkW : ∀ y, S y → W.heap[y]? = w.heap[y]? := fun y hy => by have := hS y hy; exact (bW.block y (by omega)).trans (bw6.block y this)
    have hlen : pre.length ≤ 3000000 := by
      have q2 := tg_len qa qb
      have q3 := congrArg List.length (withG_map (tgR qa qb) HALL)
      rw [List.length_map] at q3
      omega
    obtain ⟨ps, sa, sc, rfl, eps, ho, hp⟩ := acc.open
    have hlen : ps.length ≤ 3000000 := by
      have := congrArg List.length eps
      rw [List.length_map, List.length_map] at this
      omega
    have hown : ∀ r, (Value.slice sa ps.length sc).ownBlock = some r → w.heap.size + 4 ≤ r ∧ r < W.heap.size := World.ownsRow.lt ho
    have c3 : W.cell? ⟨w.heap.size + 1, 5, none⟩ = some (.slice sa ps.length sc) := by rw [cell_of_block v1]; rfl
    have hbz : Below W.heap.size W (W.alloc (.cells #[.int .i64 0, .bool false, .int .i64 0, .string ⟨#[]⟩, .slice none 0 0, .slice none 0 0] 25)) := one_belowG _ _
    have hsz : (W.alloc (.cells #[.int .i64 0, .bool false, .int .i64 0, .string ⟨#[]⟩, .slice none 0 0, .slice none 0 0] 25)).heap.size = W.heap.size + 1 := alloc_size _ _
    have hst := heap_alloc_new W (.cells #[.int .i64 0, .bool false, .int .i64 0, .string ⟨#[]⟩, .slice none 0 0, .slice none 0 0] 25)
    have bXz := (hbz.block Bx hBxs).trans bX
    obtain ⟨x0, x1, x2, x3, x4, x5, x6, x7, x8, x9, x10, x11, x12, x13⟩ := cells14 bXz
    have hBo : (Value.slice sa ps.length sc).ownBlock ≠ some W.heap.size := fun h => by have := (hown _ h).2; omega
    cases xg
    · have hu : nullV.lies false (W.alloc (.cells #[.int .i64 0, .bool false, .int .i64 0, .string ⟨#[]⟩, .slice none 0 0, .slice none 0 0] 25)) (fun y => S y ∨ (W.heap.size ≤ y ∧ y < (W.alloc (.cells #[.int .i64 0, .bool false, .int .i64 0, .string ⟨#[]⟩, .slice none 0 0, .slice none 0 0] 25)).heap.size)) [.int .i64 0, .bool false, .int .i64 0, .string ⟨#[]⟩, .slice none 0 0, .slice none 0 0] := null_lies _ _
      have hfin : ∀ We, (KeepsFrom (w.heap.size + 4) W We ∧ Kx (w.heap.size + 4) (w.heap.size + 1) W We ∧ ∃ sl', We.heap[w.heap.size + 1]? = some (.cells #[.int .i64 5, .bool false, .int .i64 0, .string ⟨#[]⟩, .slice none 0 0, sl'] 25) ∧ AccK S (w.heap.size + 4) (ps.map (fun q => q.1) ++ [(key, nullV)]) sl' We ∧ Below (w.heap.size + 1) w6 We) → KeepsFrom w6.heap.size W We ∧ Kx (w.heap.size + 4) (w.heap.size + 1) W We ∧ ∃ sl, We.heap[w.heap.size + 1]? = some (.cells #[.int .i64 5, .bool false, .int .i64 0, .string ⟨#[]⟩, .slice none 0 0, sl] 25) ∧ AccK S (w.heap.size + 4) ((pre ++ [(⟨⟨key, va, vb, [.int .i64 yk, .bool yb, .int .i64 yi, .string ys, .slice yal ynl ycl, .slice yam ynm ycm], [.int .i64 zk, .bool zb, .int .i64 zi, .string zs, .slice zal znl zcl, .slice zam znm zcm], xf, false⟩, hG⟩ : {x : Pr // FlG w S x})]).map (fun x => stB x.1)) sl We ∧ Below (w.heap.size + 1) w6 We := fun We h => by
        rw [h6, List.map_append]
        obtain ⟨a1, a2, sl', a3, a4, a5⟩ := h
        refine ⟨a1, a2, sl', a3, ?_, a5⟩
        rw [← eps]
        exact a4
      clear hka
      gi_wp2
      clear x0 x1 x2 x3 x4 x5 x6 x7 x8 x9 x10 x11 x12 x13 bXz
      have hbk := hbz
      generalize (W.alloc (.cells #[.int .i64 0, .bool false, .int .i64 0, .string ⟨#[]⟩, .slice none 0 0, .slice none 0 0] 25)) = Wk at *
      have hkz : W.heap.size < Wk.heap.size := by omega
      clear hsz
      refine round_held_drew (S := fun X => X.heap[W.heap.size]? = some (.cells #[.int .i64 0, .bool false, .int .i64 0, .string ⟨#[]⟩, .slice none 0 0, .slice none 0 0] 25)) (by kernel_rfl) (by kernel_rfl) (by rintro ⟨_, _, h⟩; exact h) hst (fun hHeld => ?_)
      (refine wpAnyH_take (i := 0) (v := ?_) rfl (by kernel_rfl) (by kernel_rfl) (by kernel_rfl) (fun _ _ _ h => h) (Or.inl ⟨by kernel_rfl, ?_⟩) (by assumption) ?_; rotate_left 1; (intro W0 hSw; (try dsimp only at hSw); go_simp; (try with_reducible rfl)); (try simp only [Act.put, List.setIfInBounds_toArray, List.set_cons_zero, List.set_cons_succ]))
      (refine wpAnyH_take (i := 2) (v := ?_) rfl (by kernel_rfl) (by kernel_rfl) (by kernel_rfl) (fun _ _ _ h => h) (Or.inl ⟨by kernel_rfl, ?_⟩) (by assumption) ?_; rotate_left 1; (intro W0 hSw; (try dsimp only at hSw); go_simp; (try with_reducible rfl)); (try simp only [Act.put, List.setIfInBounds_toArray, List.set_cons_zero, List.set_cons_succ]))
      (refine wpAnyH_take (i := 3) (v := ?_) rfl (by kernel_rfl) (by kernel_rfl) (by kernel_rfl) (fun _ _ _ h => h) (Or.inl ⟨by kernel_rfl, ?_⟩) (by assumption) ?_; rotate_left 1; (intro W0 hSw; (have z0_ : W0.cell? ⟨W.heap.size, 0, none⟩ = some (.int .i64 0) := (by rw [cell_of_block hSw]; rfl); have z1_ : W0.cell? ⟨W.heap.size, 1, none⟩ = some (.bool false) := (by rw [cell_of_block hSw]; rfl); have z2_ : W0.cell? ⟨W.heap.size, 2, none⟩ = some (.int .i64 0) := (by rw [cell_of_block hSw]; rfl); have z3_ : W0.cell? ⟨W.heap.size, 3, none⟩ = some (.string ⟨#[]⟩) := (by rw [cell_of_block hSw]; rfl); have z4_ : W0.cell? ⟨W.heap.size, 4, none⟩ = some (.slice none 0 0) := (by rw [cell_of_block hSw]; rfl); have z5_ : W0.cell? ⟨W.heap.size, 5, none⟩ = some (.slice none 0 0) := (by rw [cell_of_block hSw]; rfl)); go_simp; (try with_reducible rfl)); (try simp only [Act.put, List.setIfInBounds_toArray, List.set_cons_zero, List.set_cons_succ]))
      (refine wpAnyH_take (i := 4) (v := ?_) rfl (by kernel_rfl) (by kernel_rfl) (by kernel_rfl) (fun _ _ _ h => h) (Or.inl ⟨by kernel_rfl, ?_⟩) (by assumption) ?_; rotate_left 1; (intro W0 hSw; (try dsimp only at hSw); go_simp; (try with_reducible rfl)); (try simp only [Act.put, List.setIfInBounds_toArray, List.set_cons_zero, List.set_cons_succ]))
      have hbe : Below Wk.heap.size Wk (Wk.alloc (.cells #[.string ⟨#[]⟩, .int .i64 0, .bool false, .int .i64 0, .string ⟨#[]⟩, .slice none 0 0, .slice none 0 0] 57)).drew := (one_belowG Wk _).drew
      have hb2 : Below W.heap.size W (Wk.alloc (.cells #[.string ⟨#[]⟩, .int .i64 0, .bool false, .int .i64 0, .string ⟨#[]⟩, .slice none 0 0, .slice none 0 0] 57)).drew := hbk.trans (hbe.mono (by omega))
      have hz2 : (Wk.alloc (.cells #[.string ⟨#[]⟩, .int .i64 0, .bool false, .int .i64 0, .string ⟨#[]⟩, .slice none 0 0, .slice none 0 0] 57)).drew.heap.size = Wk.heap.size + 1 := alloc_size _ _
      have nb : (Wk.alloc (.cells #[.string ⟨#[]⟩, .int .i64 0, .bool false, .int .i64 0, .string ⟨#[]⟩, .slice none 0 0, .slice none 0 0] 57)).drew.heap[Wk.heap.size]? = some (.cells #[.string ⟨#[]⟩, .int .i64 0, .bool false, .int .i64 0, .string ⟨#[]⟩, .slice none 0 0, .slice none 0 0] 57) := heap_alloc_new Wk _
      have hX2 := (hbe.block W.heap.size (by omega)).trans hst
      have hv2 := (hb2.block (w.heap.size + 1) (by omega)).trans v1
      have ho2 := ho.below hb2
      unfold OwnC at ho2
      rw [List.length_map] at ho2
      have hx2 : PM (Wk.alloc (.cells #[.string ⟨#[]⟩, .int .i64 0, .bool false, .int .i64 0, .string ⟨#[]⟩, .slice none 0 0, .slice none 0 0] 57)).drew (fun y => S y ∨ (W.heap.size ≤ y ∧ y < (Wk.alloc (.cells #[.string ⟨#[]⟩, .int .i64 0, .bool false, .int .i64 0, .string ⟨#[]⟩, .slice none 0 0, .slice none 0 0] 57)).drew.heap.size)) ((key, nullV), [.string key, .int .i64 0, .bool false, .int .i64 0, .string ⟨#[]⟩, .slice none 0 0, .slice none 0 0]) := ⟨_, rfl, hG.k, V.lies_keep (fun h => h) (fun y hy => hbe.block y (by rcases hy with hy | hy <;> first | omega | (have := hS y hy; omega))) (fun y hy => hy.elim .inl (fun h => .inr ⟨h.1, by omega⟩)) _ hu⟩
      have ck : Wk.cell? ⟨w.heap.size + 1, 5, none⟩ = some (.slice sa ps.length sc) := (World.cell?_of_block (w := W) (a := ⟨w.heap.size + 1, 5, none⟩) (hbk.block (w.heap.size + 1) (by omega))).trans c3
      have cka : ∀ o, (Wk.alloc o).cell? ⟨w.heap.size + 1, 5, none⟩ = some (.slice sa ps.length sc) := fun o => (World.cell?_of_block (w := Wk) (a := ⟨w.heap.size + 1, 5, none⟩) (Below.heap_alloc Wk o (w.heap.size + 1) (by omega))).trans ck
      refine wpAnyH_ready (rs := [1, 6]) (by kernel_rfl) (by simp) ?_
      refine AllReadyH.cons rfl (fun K hK => ?_) (AllReadyH.cons rfl (fun K hK => ?_) AllReadyH.nil)
      · go_simp
        refine hK.out _ _ hst (fun hHeld => ?_)
        clear hK K
        (try simp only [Act.put, List.setIfInBounds_toArray, List.set_cons_zero, List.set_cons_succ])
        (refine wpAnyH_take (i := 5) (v := ?_) rfl (by kernel_rfl) (by kernel_rfl) (by kernel_rfl) (fun _ _ _ h => h) (Or.inl ⟨by kernel_rfl, ?_⟩) (by assumption) ?_; rotate_left 1; (intro W0 hSw; (try dsimp only at hSw); go_simp; (try with_reducible rfl)); (try simp only [Act.put, List.setIfInBounds_toArray, List.set_cons_zero, List.set_cons_succ]))
        refine wpAnyH_ready (rs := [6]) (by kernel_rfl) (by simp) ?_
        refine AllReadyH.cons rfl (fun K hK => ?_) AllReadyH.nil
        go_simp
        refine hK.out _ _ hX2 (fun hHeld => ?_)
        clear hK K
        (try simp only [Act.put, List.setIfInBounds_toArray, List.set_cons_zero, List.set_cons_succ])
        generalize (Wk.alloc (.cells #[.string ⟨#[]⟩, .int .i64 0, .bool false, .int .i64 0, .string ⟨#[]⟩, .slice none 0 0, .slice none 0 0] 57)).drew = W2 at *
        refine wpAnyH_ready (rs := [7]) (by kernel_rfl) (by simp) ?_
        refine AllReadyH.cons rfl (fun K hK => ?_) AllReadyH.nil
        refine step_blank rfl (.tmp 55) (.tmp 60) rfl (w.heap.size + 4) (.slice sa ps.length sc) ps.length _ rfl ho2 Wk.heap.size rfl nb (by omega) (by omega) ?_
        intro g cap w5 h5 g5 l5
        have hX5 : w5.heap[W.heap.size]? = some (.cells #[.int .i64 0, .bool false, .int .i64 0, .string ⟨#[]⟩, .slice none 0 0, .slice none 0 0] 25) := (g5.block W.heap.size (by omega) (fun h => hBo h.symm)).trans hX2
        refine hK.out _ _ hX5 (fun hHeld => ?_)
        clear hK K
        (try simp only [Act.put, List.setIfInBounds_toArray, List.set_cons_zero, List.set_cons_succ])
        have hgn : g ≠ w.heap.size + 1 := by have := (World.ownsRow.lt h5 g rfl).1; omega
        have hgx : W.heap.size ≠ g := fun h => by
          rcases l5 with l5 | l5
          · exact hBo (by rw [h]; exact l5)
          · omega
        have yN : (ps.length : Int) < ((ps.length + 1 : Nat) : Int) := by omega
        have yN2 : (ps.length : Int) < (ps.length : Int) + 1 := by omega
        (refine wpAnyH_take (i := 8) (v := ?_) rfl (by kernel_rfl) (by kernel_rfl) (by kernel_rfl) (fun _ _ _ h => h) (Or.inl ⟨by kernel_rfl, ?_⟩) (by assumption) ?_; rotate_left 1; (intro W0 hSw; (try dsimp only at hSw); go_simp; (try with_reducible rfl)); (try simp only [Act.put, List.setIfInBounds_toArray, List.set_cons_zero, List.set_cons_succ]))
        (refine wpAnyH_take (i := 10) (v := ?_) rfl (by kernel_rfl) (by kernel_rfl) (by kernel_rfl) (fun _ _ _ h => h) (Or.inl ⟨by kernel_rfl, ?_⟩) (by assumption) ?_; rotate_left 1; (intro W0 hSw; (try dsimp only at hSw); go_simp; (try with_reducible rfl)); (try simp only [Act.put, List.setIfInBounds_toArray, List.set_cons_zero, List.set_cons_succ]))
        have hv5 : w5.heap[w.heap.size + 1]? = some (.cells #[.int .i64 5, .bool false, .int .i64 0, .string ⟨#[]⟩, .slice none 0 0, .slice sa ps.length sc] 25) := (g5.block _ (by omega) (fun h => by have := (hown _ h.symm).1; omega)).trans hv2
        have c5 : w5.cell? ⟨w.heap.size + 1, 5, none⟩ = some (.slice sa ps.length sc) := by rw [cell_of_block hv5]; rfl
        have f5 : w5.frozen? ⟨w.heap.size + 1, 5, none⟩ = false := frozen_of_block hv5 5
        obtain ⟨bc, bf⟩ := blank_cells h5 ho2.1
        have b0 : w5.cell? ⟨g, ps.length * 7, none⟩ = some (.string ⟨#[]⟩) := bc 0 _ rfl
        have b1 : w5.cell? ⟨g, ps.length * 7 + 1, none⟩ = some (.int .i64 0) := bc 1 _ rfl
        have b2 : w5.cell? ⟨g, ps.length * 7 + 2, none⟩ = some (.bool false) := bc 2 _ rfl
        have b3 : w5.cell? ⟨g, ps.length * 7 + 3, none⟩ = some (.int .i64 0) := bc 3 _ rfl
        have b4 : w5.cell? ⟨g, ps.length * 7 + 4, none⟩ = some (.string ⟨#[]⟩) := bc 4 _ rfl
        have b5 : w5.cell? ⟨g, ps.length * 7 + 5, none⟩ = some (.slice none 0 0) := bc 5 _ rfl
        have b6 : w5.cell? ⟨g, ps.length * 7 + 6, none⟩ = some (.slice none 0 0) := bc 6 _ rfl
        have E1 := end1 (n := ps.length) hgn hv5 (.slice (some ⟨g, 0, none⟩) (ps.length + 1) cap) (.string key) (.int .i64 0) (.bool false) (.int .i64 0) (.string ⟨#[]⟩) (.slice none 0 0) (.slice none 0 0)
        have E2 := end2 (n := ps.length) hgn hv5 (.slice (some ⟨g, 0, none⟩) (ps.length + 1) cap) (.string key) (.int .i64 0) (.bool false) (.int .i64 0) (.string ⟨#[]⟩) (.slice none 0 0) (.slice none 0 0)
        have oA : ∀ z, z ≠ g → (((((((w5.setCell ⟨g, ps.length * 7, none⟩ (.string key)).setCell ⟨g, ps.length * 7 + 1, none⟩ (.int .i64 0)).setCell ⟨g, ps.length * 7 + 2, none⟩ (.bool false)).setCell ⟨g, ps.length * 7 + 3, none⟩ (.int .i64 0)).setCell ⟨g, ps.length * 7 + 4, none⟩ (.string ⟨#[]⟩)).setCell ⟨g, ps.length * 7 + 5, none⟩ (.slice none 0 0)).setCell ⟨g, ps.length * 7 + 6, none⟩ (.slice none 0 0)).heap[z]? = w5.heap[z]? := fun z hz => sets7_o w5 g ps.length (.string key) (.int .i64 0) (.bool false) (.int .i64 0) (.string ⟨#[]⟩) (.slice none 0 0) (.slice none 0 0) z hz
        have oM : ∀ z, z ≠ w.heap.size + 1 → (w5.setCell ⟨w.heap.size + 1, 5, none⟩ (.slice (some ⟨g, 0, none⟩) (ps.length + 1) cap)).heap[z]? = w5.heap[z]? := fun z hz => set_other hz
        have a5 : (((((((w5.setCell ⟨g, ps.length * 7, none⟩ (.string key)).setCell ⟨g, ps.length * 7 + 1, none⟩ (.int .i64 0)).setCell ⟨g, ps.length * 7 + 2, none⟩ (.bool false)).setCell ⟨g, ps.length * 7 + 3, none⟩ (.int .i64 0)).setCell ⟨g, ps.length * 7 + 4, none⟩ (.string ⟨#[]⟩)).setCell ⟨g, ps.length * 7 + 5, none⟩ (.slice none 0 0)).setCell ⟨g, ps.length * 7 + 6, none⟩ (.slice none 0 0)).cell? ⟨w.heap.size + 1, 5, none⟩ = some (.slice sa ps.length sc) := (World.cell?_of_block (w := w5) (a := ⟨w.heap.size + 1, 5, none⟩) (oA _ (fun h => hgn h.symm))).trans c5
        have af : (((((((w5.setCell ⟨g, ps.length * 7, none⟩ (.string key)).setCell ⟨g, ps.length * 7 + 1, none⟩ (.int .i64 0)).setCell ⟨g, ps.length * 7 + 2, none⟩ (.bool false)).setCell ⟨g, ps.length * 7 + 3, none⟩ (.int .i64 0)).setCell ⟨g, ps.length * 7 + 4, none⟩ (.string ⟨#[]⟩)).setCell ⟨g, ps.length * 7 + 5, none⟩ (.slice none 0 0)).setCell ⟨g, ps.length * 7 + 6, none⟩ (.slice none 0 0)).frozen? ⟨w.heap.size + 1, 5, none⟩ = false := frozen_of_block ((oA _ (fun h => hgn h.symm)).trans hv5) 5
        have mf : ∀ ii, (w5.setCell ⟨w.heap.size + 1, 5, none⟩ (.slice (some ⟨g, 0, none⟩) (ps.length + 1) cap)).frozen? ⟨g, ii, none⟩ = false := fun ii => (frozen_other (oM g hgn) ii).trans (bf ii)
        have m0 : (w5.setCell ⟨w.heap.size + 1, 5, none⟩ (.slice (some ⟨g, 0, none⟩) (ps.length + 1) cap)).cell? ⟨g, ps.length * 7, none⟩ = some (.string ⟨#[]⟩) := (World.cell?_of_block (w := w5) (a := ⟨g, ps.length * 7, none⟩) (oM g hgn)).trans b0
        have m1 : (w5.setCell ⟨w.heap.size + 1, 5, none⟩ (.slice (some ⟨g, 0, none⟩) (ps.length + 1) cap)).cell? ⟨g, ps.length * 7 + 1, none⟩ = some (.int .i64 0) := (World.cell?_of_block (w := w5) (a := ⟨g, ps.length * 7 + 1, none⟩) (oM g hgn)).trans b1
        have m2 : (w5.setCell ⟨w.heap.size + 1, 5, none⟩ (.slice (some ⟨g, 0, none⟩) (ps.length + 1) cap)).cell? ⟨g, ps.length * 7 + 2, none⟩ = some (.bool false) := (World.cell?_of_block (w := w5) (a := ⟨g, ps.length * 7 + 2, none⟩) (oM g hgn)).trans b2
        have m3 : (w5.setCell ⟨w.heap.size + 1, 5, none⟩ (.slice (some ⟨g, 0, none⟩) (ps.length + 1) cap)).cell? ⟨g, ps.length * 7 + 3, none⟩ = some (.int .i64 0) := (World.cell?_of_block (w := w5) (a := ⟨g, ps.length * 7 + 3, none⟩) (oM g hgn)).trans b3
        have m4 : (w5.setCell ⟨w.heap.size + 1, 5, none⟩ (.slice (some ⟨g, 0, none⟩) (ps.length + 1) cap)).cell? ⟨g, ps.length * 7 + 4, none⟩ = some (.string ⟨#[]⟩) := (World.cell?_of_block (w := w5) (a := ⟨g, ps.length * 7 + 4, none⟩) (oM g hgn)).trans b4
        have m5 : (w5.setCell ⟨w.heap.size + 1, 5, none⟩ (.slice (some ⟨g, 0, none⟩) (ps.length + 1) cap)).cell? ⟨g, ps.length * 7 + 5, none⟩ = some (.slice none 0 0) := (World.cell?_of_block (w := w5) (a := ⟨g, ps.length * 7 + 5, none⟩) (oM g hgn)).trans b5
        have m6 : (w5.setCell ⟨w.heap.size + 1, 5, none⟩ (.slice (some ⟨g, 0, none⟩) (ps.length + 1) cap)).cell? ⟨g, ps.length * 7 + 6, none⟩ = some (.slice none 0 0) := (World.cell?_of_block (w := w5) (a := ⟨g, ps.length * 7 + 6, none⟩) (oM g hgn)).trans b6
        refine wpAnyH_ready (rs := [9, 11]) (by kernel_rfl) (by simp) ?_
        refine AllReadyH.cons rfl (fun K hK => ?_) (AllReadyH.cons rfl (fun K hK => ?_) AllReadyH.nil)
        · go_simp
          refine hK.out _ _ ((oA W.heap.size hgx).trans hX5) (fun hHeld => ?_)
          clear hK K
          (try simp only [Act.put, List.setIfInBounds_toArray, List.set_cons_zero, List.set_cons_succ])
          refine wpAnyH_ready (rs := [11]) (by kernel_rfl) (by simp) ?_
          refine AllReadyH.cons rfl (fun K hK => ?_) AllReadyH.nil
          go_simp
          refine hK.out _ _ ((E1.o_ W.heap.size hgx (by omega)).trans hX5) (fun hHeld => ?_)
          clear hK K
          (try simp only [Act.put, List.setIfInBounds_toArray, List.set_cons_zero, List.set_cons_succ])
          refine wpAnyH_done (by kernel_rfl) ?_ _
          have R1 := round_at (by omega) hS1 h6 bW rfl rfl ho hp hb2 hx2 h5 g5 l5 E1
          gi_wp2
          exact hfin _ R1
        · go_simp
          refine hK.out _ _ ((oM W.heap.size (by omega)).trans hX5) (fun hHeld => ?_)
          clear hK K
          (try simp only [Act.put, List.setIfInBounds_toArray, List.set_cons_zero, List.set_cons_succ])
          refine wpAnyH_ready (rs := [9]) (by kernel_rfl) (by simp) ?_
          refine AllReadyH.cons rfl (fun K hK => ?_) AllReadyH.nil
          go_simp
          refine hK.out _ _ ((E2.o_ W.heap.size hgx (by omega)).trans hX5) (fun hHeld => ?_)
          clear hK K
          (try simp only [Act.put, List.setIfInBounds_toArray, List.set_cons_zero, List.set_cons_succ])
          refine wpAnyH_done (by kernel_rfl) ?_ _
          have R1 := round_at (by omega) hS1 h6 bW rfl rfl ho hp hb2 hx2 h5 g5 l5 E2
          gi_wp2
          exact hfin _ R1
      · go_simp
        refine hK.out _ _ hX2 (fun hHeld => ?_)
        clear hK K
        (try simp only [Act.put, List.setIfInBounds_toArray, List.set_cons_zero, List.set_cons_succ])
        refine wpAnyH_ready (rs := [1]) (by kernel_rfl) (by simp) ?_
        refine AllReadyH.cons rfl (fun K hK => ?_) AllReadyH.nil
        go_simp
        refine hK.out _ _ hX2 (fun hHeld => ?_)
        clear hK K
        (try simp only [Act.put, List.setIfInBounds_toArray, List.set_cons_zero, List.set_cons_succ])
        (refine wpAnyH_take (i := 5) (v := ?_) rfl (by kernel_rfl) (by kernel_rfl) (by kernel_rfl) (fun _ _ _ h => h) (Or.inl ⟨by kernel_rfl, ?_⟩) (by assumption) ?_; rotate_left 1; (intro W0 hSw; (try dsimp only at hSw); go_simp; (try with_reducible rfl)); (try simp only [Act.put, List.setIfInBounds_toArray, List.set_cons_zero, List.set_cons_succ]))
        generalize (Wk.alloc (.cells #[.string ⟨#[]⟩, .int .i64 0, .bool false, .int .i64 0, .string ⟨#[]⟩, .slice none 0 0, .slice none 0 0] 57)).drew = W2 at *
        refine wpAnyH_ready (rs := [7]) (by kernel_rfl) (by simp) ?_
        refine AllReadyH.cons rfl (fun K hK => ?_) AllReadyH.nil
        refine step_blank rfl (.tmp 55) (.tmp 60) rfl (w.heap.size + 4) (.slice sa ps.length sc) ps.length _ rfl ho2 Wk.heap.size rfl nb (by omega) (by omega) ?_
        intro g cap w5 h5 g5 l5
        have hX5 : w5.heap[W.heap.size]? = some (.cells #[.int .i64 0, .bool false, .int .i64 0, .string ⟨#[]⟩, .slice none 0 0, .slice none 0 0] 25) := (g5.block W.heap.size (by omega) (fun h => hBo h.symm)).trans hX2
        refine hK.out _ _ hX5 (fun hHeld => ?_)
        clear hK K
        (try simp only [Act.put, List.setIfInBounds_toArray, List.set_cons_zero, List.set_cons_succ])
        have hgn : g ≠ w.heap.size + 1 := by have := (World.ownsRow.lt h5 g rfl).1; omega
        have hgx : W.heap.size ≠ g := fun h => by
          rcases l5 with l5 | l5
          · exact hBo (by rw [h]; exact l5)
          · omega
        have yN : (ps.length : Int) < ((ps.length + 1 : Nat) : Int) := by omega
        have yN2 : (ps.length : Int) < (ps.length : Int) + 1 := by omega
        (refine wpAnyH_take (i := 8) (v := ?_) rfl (by kernel_rfl) (by kernel_rfl) (by kernel_rfl) (fun _ _ _ h => h) (Or.inl ⟨by kernel_rfl, ?_⟩) (by assumption) ?_; rotate_left 1; (intro W0 hSw; (try dsimp only at hSw); go_simp; (try with_reducible rfl)); (try simp only [Act.put, List.setIfInBounds_toArray, List.set_cons_zero, List.set_cons_succ]))
        (refine wpAnyH_take (i := 10) (v := ?_) rfl (by kernel_rfl) (by kernel_rfl) (by kernel_rfl) (fun _ _ _ h => h) (Or.inl ⟨by kernel_rfl, ?_⟩) (by assumption) ?_; rotate_left 1; (intro W0 hSw; (try dsimp only at hSw); go_simp; (try with_reducible rfl)); (try simp only [Act.put, List.setIfInBounds_toArray, List.set_cons_zero, List.set_cons_succ]))
        have hv5 : w5.heap[w.heap.size + 1]? = some (.cells #[.int .i64 5, .bool false, .int .i64 0, .string ⟨#[]⟩, .slice none 0 0, .slice sa ps.length sc] 25) := (g5.block _ (by omega) (fun h => by have := (hown _ h.symm).1; omega)).trans hv2
        have c5 : w5.cell? ⟨w.heap.size + 1, 5, none⟩ = some (.slice sa ps.length sc) := by rw [cell_of_block hv5]; rfl
        have f5 : w5.frozen? ⟨w.heap.size + 1, 5, none⟩ = false := frozen_of_block hv5 5
        obtain ⟨bc, bf⟩ := blank_cells h5 ho2.1
        have b0 : w5.cell? ⟨g, ps.length * 7, none⟩ = some (.string ⟨#[]⟩) := bc 0 _ rfl
        have b1 : w5.cell? ⟨g, ps.length * 7 + 1, none⟩ = some (.int .i64 0) := bc 1 _ rfl
        have b2 : w5.cell? ⟨g, ps.length * 7 + 2, none⟩ = some (.bool false) := bc 2 _ rfl
        have b3 : w5.cell? ⟨g, ps.length * 7 + 3, none⟩ = some (.int .i64 0) := bc 3 _ rfl
        have b4 : w5.cell? ⟨g, ps.length * 7 + 4, none⟩ = some (.string ⟨#[]⟩) := bc 4 _ rfl
        have b5 : w5.cell? ⟨g, ps.length * 7 + 5, none⟩ = some (.slice none 0 0) := bc 5 _ rfl
        have b6 : w5.cell? ⟨g, ps.length * 7 + 6, none⟩ = some (.slice none 0 0) := bc 6 _ rfl
        have E1 := end1 (n := ps.length) hgn hv5 (.slice (some ⟨g, 0, none⟩) (ps.length + 1) cap) (.string key) (.int .i64 0) (.bool false) (.int .i64 0) (.string ⟨#[]⟩) (.slice none 0 0) (.slice none 0 0)
        have E2 := end2 (n := ps.length) hgn hv5 (.slice (some ⟨g, 0, none⟩) (ps.length + 1) cap) (.string key) (.int .i64 0) (.bool false) (.int .i64 0) (.string ⟨#[]⟩) (.slice none 0 0) (.slice none 0 0)
        have oA : ∀ z, z ≠ g → (((((((w5.setCell ⟨g, ps.length * 7, none⟩ (.string key)).setCell ⟨g, ps.length * 7 + 1, none⟩ (.int .i64 0)).setCell ⟨g, ps.length * 7 + 2, none⟩ (.bool false)).setCell ⟨g, ps.length * 7 + 3, none⟩ (.int .i64 0)).setCell ⟨g, ps.length * 7 + 4, none⟩ (.string ⟨#[]⟩)).setCell ⟨g, ps.length * 7 + 5, none⟩ (.slice none 0 0)).setCell ⟨g, ps.length * 7 + 6, none⟩ (.slice none 0 0)).heap[z]? = w5.heap[z]? := fun z hz => sets7_o w5 g ps.length (.string key) (.int .i64 0) (.bool false) (.int .i64 0) (.string ⟨#[]⟩) (.slice none 0 0) (.slice none 0 0) z hz
        have oM : ∀ z, z ≠ w.heap.size + 1 → (w5.setCell ⟨w.heap.size + 1, 5, none⟩ (.slice (some ⟨g, 0, none⟩) (ps.length + 1) cap)).heap[z]? = w5.heap[z]? := fun z hz => set_other hz
        have a5 : (((((((w5.setCell ⟨g, ps.length * 7, none⟩ (.string key)).setCell ⟨g, ps.length * 7 + 1, none⟩ (.int .i64 0)).setCell ⟨g, ps.length * 7 + 2, none⟩ (.bool false)).setCell ⟨g, ps.length * 7 + 3, none⟩ (.int .i64 0)).setCell ⟨g, ps.length * 7 + 4, none⟩ (.string ⟨#[]⟩)).setCell ⟨g, ps.length * 7 + 5, none⟩ (.slice none 0 0)).setCell ⟨g, ps.length * 7 + 6, none⟩ (.slice none 0 0)).cell? ⟨w.heap.size + 1, 5, none⟩ = some (.slice sa ps.length sc) := (World.cell?_of_block (w := w5) (a := ⟨w.heap.size + 1, 5, none⟩) (oA _ (fun h => hgn h.symm))).trans c5
        have af : (((((((w5.setCell ⟨g, ps.length * 7, none⟩ (.string key)).setCell ⟨g, ps.length * 7 + 1, none⟩ (.int .i64 0)).setCell ⟨g, ps.length * 7 + 2, none⟩ (.bool false)).setCell ⟨g, ps.length * 7 + 3, none⟩ (.int .i64 0)).setCell ⟨g, ps.length * 7 + 4, none⟩ (.string ⟨#[]⟩)).setCell ⟨g, ps.length * 7 + 5, none⟩ (.slice none 0 0)).setCell ⟨g, ps.length * 7 + 6, none⟩ (.slice none 0 0)).frozen? ⟨w.heap.size + 1, 5, none⟩ = false := frozen_of_block ((oA _ (fun h => hgn h.symm)).trans hv5) 5
        have mf : ∀ ii, (w5.setCell ⟨w.heap.size + 1, 5, none⟩ (.slice (some ⟨g, 0, none⟩) (ps.length + 1) cap)).frozen? ⟨g, ii, none⟩ = false := fun ii => (frozen_other (oM g hgn) ii).trans (bf ii)
        have m0 : (w5.setCell ⟨w.heap.size + 1, 5, none⟩ (.slice (some ⟨g, 0, none⟩) (ps.length + 1) cap)).cell? ⟨g, ps.length * 7, none⟩ = some (.string ⟨#[]⟩) := (World.cell?_of_block (w := w5) (a := ⟨g, ps.length * 7, none⟩) (oM g hgn)).trans b0
        have m1 : (w5.setCell ⟨w.heap.size + 1, 5, none⟩ (.slice (some ⟨g, 0, none⟩) (ps.length + 1) cap)).cell? ⟨g, ps.length * 7 + 1, none⟩ = some (.int .i64 0) := (World.cell?_of_block (w := w5) (a := ⟨g, ps.length * 7 + 1, none⟩) (oM g hgn)).trans b1
        have m2 : (w5.setCell ⟨w.heap.size + 1, 5, none⟩ (.slice (some ⟨g, 0, none⟩) (ps.length + 1) cap)).cell? ⟨g, ps.length * 7 + 2, none⟩ = some (.bool false) := (World.cell?_of_block (w := w5) (a := ⟨g, ps.length * 7 + 2, none⟩) (oM g hgn)).trans b2
        have m3 : (w5.setCell ⟨w.heap.size + 1, 5, none⟩ (.slice (some ⟨g, 0, none⟩) (ps.length + 1) cap)).cell? ⟨g, ps.length * 7 + 3, none⟩ = some (.int .i64 0) := (World.cell?_of_block (w := w5) (a := ⟨g, ps.length * 7 + 3, none⟩) (oM g hgn)).trans b3
        have m4 : (w5.setCell ⟨w.heap.size + 1, 5, none⟩ (.slice (some ⟨g, 0, none⟩) (ps.length + 1) cap)).cell? ⟨g, ps.length * 7 + 4, none⟩ = some (.string ⟨#[]⟩) := (World.cell?_of_block (w := w5) (a := ⟨g, ps.length * 7 + 4, none⟩) (oM g hgn)).trans b4
        have m5 : (w5.setCell ⟨w.heap.size + 1, 5, none⟩ (.slice (some ⟨g, 0, none⟩) (ps.length + 1) cap)).cell? ⟨g, ps.length * 7 + 5, none⟩ = some (.slice none 0 0) := (World.cell?_of_block (w := w5) (a := ⟨g, ps.length * 7 + 5, none⟩) (oM g hgn)).trans b5
        have m6 : (w5.setCell ⟨w.heap.size + 1, 5, none⟩ (.slice (some ⟨g, 0, none⟩) (ps.length + 1) cap)).cell? ⟨g, ps.length * 7 + 6, none⟩ = some (.slice none 0 0) := (World.cell?_of_block (w := w5) (a := ⟨g, ps.length * 7 + 6, none⟩) (oM g hgn)).trans b6
        refine wpAnyH_ready (rs := [9, 11]) (by kernel_rfl) (by simp) ?_
        refine AllReadyH.cons rfl (fun K hK => ?_) (AllReadyH.cons rfl (fun K hK => ?_) AllReadyH.nil)
        · go_simp
          refine hK.out _ _ ((oA W.heap.size hgx).trans hX5) (fun hHeld => ?_)
          clear hK K
          (try simp only [Act.put, List.setIfInBounds_toArray, List.set_cons_zero, List.set_cons_succ])
          refine wpAnyH_ready (rs := [11]) (by kernel_rfl) (by simp) ?_
          refine AllReadyH.cons rfl (fun K hK => ?_) AllReadyH.nil
          go_simp
          refine hK.out _ _ ((E1.o_ W.heap.size hgx (by omega)).trans hX5) (fun hHeld => ?_)
          clear hK K
          (try simp only [Act.put, List.setIfInBounds_toArray, List.set_cons_zero, List.set_cons_succ])
          refine wpAnyH_done (by kernel_rfl) ?_ _
          have R1 := round_at (by omega) hS1 h6 bW rfl rfl ho hp hb2 hx2 h5 g5 l5 E1
          gi_wp2
          exact hfin _ R1
        · go_simp
          refine hK.out _ _ ((oM W.heap.size (by omega)).trans hX5) (fun hHeld => ?_)
          clear hK K
          (try simp only [Act.put, List.setIfInBounds_toArray, List.set_cons_zero, List.set_cons_succ])
          refine wpAnyH_ready (rs := [9]) (by kernel_rfl) (by simp) ?_
          refine AllReadyH.cons rfl (fun K hK => ?_) AllReadyH.nil
          go_simp
          refine hK.out _ _ ((E2.o_ W.heap.size hgx (by omega)).trans hX5) (fun hHeld => ?_)
          clear hK K
          (try simp only [Act.put, List.setIfInBounds_toArray, List.set_cons_zero, List.set_cons_succ])
          refine wpAnyH_done (by kernel_rfl) ?_ _
          have R1 := round_at (by omega) hS1 h6 bW rfl rfl ho hp hb2 hx2 h5 g5 l5 E2
          gi_wp2
          exact hfin _ R1
    · obtain ⟨hf, hk5, hcl⟩ := hG.g rfl
      simp only at hf hk5 hcl
      subst hf
      rw [hka] at hk5
      have yk5 : (yk == 5) = false := beq_eq_false_iff_ne.2 hk5
      clear hka hk5
      have CP := putin_any vb S _ (W.alloc (.cells #[.int .i64 0, .bool false, .int .i64 0, .string ⟨#[]⟩, .slice none 0 0, .slice none 0 0] 25)) hcl (V.lies_keep (fun h => h) (fun y hy => (hbz.block y (by have := hS y hy; omega)).trans (hkW y hy)) (fun _ h => h) _ hG.b) (fun y hy => by have := hS y hy; omega)
      have hfin : ∀ We, (KeepsFrom (w.heap.size + 4) W We ∧ Kx (w.heap.size + 4) (w.heap.size + 1) W We ∧ ∃ sl', We.heap[w.heap.size + 1]? = some (.cells #[.int .i64 5, .bool false, .int .i64 0, .string ⟨#[]⟩, .slice none 0 0, sl'] 25) ∧ AccK S (w.heap.size + 4) (ps.map (fun q => q.1) ++ [(key, vb)]) sl' We ∧ Below (w.heap.size + 1) w6 We) → KeepsFrom w6.heap.size W We ∧ Kx (w.heap.size + 4) (w.heap.size + 1) W We ∧ ∃ sl, We.heap[w.heap.size + 1]? = some (.cells #[.int .i64 5, .bool false, .int .i64 0, .string ⟨#[]⟩, .slice none 0 0, sl] 25) ∧ AccK S (w.heap.size + 4) ((pre ++ [(⟨⟨key, va, vb, [.int .i64 yk, .bool yb, .int .i64 yi, .string ys, .slice yal ynl ycl, .slice yam ynm ycm], [.int .i64 zk, .bool zb, .int .i64 zi, .string zs, .slice zal znl zcl, .slice zam znm zcm], false, true⟩, hG⟩ : {x : Pr // FlG w S x})]).map (fun x => stB x.1)) sl We ∧ Below (w.heap.size + 1) w6 We := fun We h => by
        rw [h6, List.map_append]
        obtain ⟨a1, a2, sl', a3, a4, a5⟩ := h
        refine ⟨a1, a2, sl', a3, ?_, a5⟩
        rw [← eps]
        exact a4
      gi_wp2
      refine ⟨trivial, ?_⟩
      gi_wp2
      clear x0 x1 x2 x3 x4 x5 x6 x7 x8 x9 x10 x11 x12 x13
      generalize (W.alloc (.cells #[.int .i64 0, .bool false, .int .i64 0, .string ⟨#[]⟩, .slice none 0 0, .slice none 0 0] 25)) = Wz at *
      refine ⟨trivial, (CallsIn.inRound lp (callsIn_wide.2 CP)).mono ?_⟩
      rintro e_ Wc ⟨cu, rfl, hu0, bu⟩
      clear CP
      obtain ⟨uk, ub, ui, us, ual, unl, ucl, uam, unm, ucm, rfl⟩ := V.ten hu0
      have hzu := bu.size
      have hstc := (bu.block W.heap.size (by omega)).trans hst
      have cz0 : Wc.cell? ⟨W.heap.size, 0, none⟩ = some (.int .i64 0) := by rw [cell_of_block hstc]; rfl
      have cz1 : Wc.cell? ⟨W.heap.size, 1, none⟩ = some (.bool false) := by rw [cell_of_block hstc]; rfl
      have cz2 : Wc.cell? ⟨W.heap.size, 2, none⟩ = some (.int .i64 0) := by rw [cell_of_block hstc]; rfl
      have cz3 : Wc.cell? ⟨W.heap.size, 3, none⟩ = some (.string ⟨#[]⟩) := by rw [cell_of_block hstc]; rfl
      have cz4 : Wc.cell? ⟨W.heap.size, 4, none⟩ = some (.slice none 0 0) := by rw [cell_of_block hstc]; rfl
      have cz5 : Wc.cell? ⟨W.heap.size, 5, none⟩ = some (.slice none 0 0) := by rw [cell_of_block hstc]; rfl
      have fz := frozen_of_block hstc
      have ho6 := six_o Wc W.heap.size (.int .i64 uk) (.bool ub) (.int .i64 ui) (.string us) (.slice ual unl ucl) (.slice uam unm ucm)
      have hz6 := six_z Wc W.heap.size (.int .i64 uk) (.bool ub) (.int .i64 ui) (.string us) (.slice ual unl ucl) (.slice uam unm ucm)
      have hbk : Below W.heap.size W ((((((Wc.setCell ⟨W.heap.size, 0, none⟩ (.int .i64 uk)).setCell ⟨W.heap.size, 1, none⟩ (.bool ub)).setCell ⟨W.heap.size, 2, none⟩ (.int .i64 ui)).setCell ⟨W.heap.size, 3, none⟩ (.string us)).setCell ⟨W.heap.size, 4, none⟩ (.slice ual unl ucl)).setCell ⟨W.heap.size, 5, none⟩ (.slice uam unm ucm)) := Below.set6 (hbz.trans (bu.mono (by omega))) (M := W.heap.size) (Nat.le_refl _) 0 1 2 3 4 5 (.int .i64 uk) (.bool ub) (.int .i64 ui) (.string us) (.slice ual unl ucl) (.slice uam unm ucm)
      have hst6 := box_six hstc (.int .i64 uk) (.bool ub) (.int .i64 ui) (.string us) (.slice ual unl ucl) (.slice uam unm ucm)
      have hu : vb.lies false ((((((Wc.setCell ⟨W.heap.size, 0, none⟩ (.int .i64 uk)).setCell ⟨W.heap.size, 1, none⟩ (.bool ub)).setCell ⟨W.heap.size, 2, none⟩ (.int .i64 ui)).setCell ⟨W.heap.size, 3, none⟩ (.string us)).setCell ⟨W.heap.size, 4, none⟩ (.slice ual unl ucl)).setCell ⟨W.heap.size, 5, none⟩ (.slice uam unm ucm)) (fun y => S y ∨ (W.heap.size ≤ y ∧ y < ((((((Wc.setCell ⟨W.heap.size, 0, none⟩ (.int .i64 uk)).setCell ⟨W.heap.size, 1, none⟩ (.bool ub)).setCell ⟨W.heap.size, 2, none⟩ (.int .i64 ui)).setCell ⟨W.heap.size, 3, none⟩ (.string us)).setCell ⟨W.heap.size, 4, none⟩ (.slice ual unl ucl)).setCell ⟨W.heap.size, 5, none⟩ (.slice uam unm ucm)).heap.size)) [.int .i64 uk, .bool ub, .int .i64 ui, .string us, .slice ual unl ucl, .slice uam unm ucm] := V.lies_keep (fun h => h) (fun y hy => ho6 y (by rcases hy with hy | hy <;> first | (have := hS y hy; omega) | (have := hy.1; omega))) (fun y hy => hy.elim .inl (fun h => .inr ⟨by have := h.1; omega, by have := h.2; omega⟩)) _ hu0
      have hkz : W.heap.size < ((((((Wc.setCell ⟨W.heap.size, 0, none⟩ (.int .i64 uk)).setCell ⟨W.heap.size, 1, none⟩ (.bool ub)).setCell ⟨W.heap.size, 2, none⟩ (.int .i64 ui)).setCell ⟨W.heap.size, 3, none⟩ (.string us)).setCell ⟨W.heap.size, 4, none⟩ (.slice ual unl ucl)).setCell ⟨W.heap.size, 5, none⟩ (.slice uam unm ucm)).heap.size := by omega
      have h12 := hmk (And.intro hbk (And.intro hst6 (And.intro hu hkz)))
      clear hbk hst6 hu hkz ho6 hz6 hu0 hsz
      gi_wp2
      clear cz0 cz1 cz2 cz3 cz4 cz5 fz hst
      obtain ⟨hbk, hst, hu, hkz⟩ := h12.out
      clear h12
      generalize ((((((Wc.setCell ⟨W.heap.size, 0, none⟩ (.int .i64 uk)).setCell ⟨W.heap.size, 1, none⟩ (.bool ub)).setCell ⟨W.heap.size, 2, none⟩ (.int .i64 ui)).setCell ⟨W.heap.size, 3, none⟩ (.string us)).setCell ⟨W.heap.size, 4, none⟩ (.slice ual unl ucl)).setCell ⟨W.heap.size, 5, none⟩ (.slice uam unm ucm)) = Wk at *
      refine round_held_drew (S := fun X => X.heap[W.heap.size]? = some (.cells #[.int .i64 uk, .bool ub, .int .i64 ui, .string us, .slice ual unl ucl, .slice uam unm ucm] 25)) (by kernel_rfl) (by kernel_rfl) (by rintro ⟨_, _, h⟩; exact h) hst (fun hHeld => ?_)
      (refine wpAnyH_take (i := 0) (v := ?_) rfl (by kernel_rfl) (by kernel_rfl) (by kernel_rfl) (fun _ _ _ h => h) (Or.inl ⟨by kernel_rfl, ?_⟩) (by assumption) ?_; rotate_left 1; (intro W0 hSw; (try dsimp only at hSw); go_simp; (try with_reducible rfl)); (try simp only [Act.put, List.setIfInBounds_toArray, List.set_cons_zero, List.set_cons_succ]))
      (refine wpAnyH_take (i := 2) (v := ?_) rfl (by kernel_rfl) (by kernel_rfl) (by kernel_rfl) (fun _ _ _ h => h) (Or.inl ⟨by kernel_rfl, ?_⟩) (by assumption) ?_; rotate_left 1; (intro W0 hSw; (try dsimp only at hSw); go_simp; (try with_reducible rfl)); (try simp only [Act.put, List.setIfInBounds_toArray, List.set_cons_zero, List.set_cons_succ]))
      (refine wpAnyH_take (i := 3) (v := ?_) rfl (by kernel_rfl) (by kernel_rfl) (by kernel_rfl) (fun _ _ _ h => h) (Or.inl ⟨by kernel_rfl, ?_⟩) (by assumption) ?_; rotate_left 1; (intro W0 hSw; (have z0_ : W0.cell? ⟨W.heap.size, 0, none⟩ = some (.int .i64 uk) := (by rw [cell_of_block hSw]; rfl); have z1_ : W0.cell? ⟨W.heap.size, 1, none⟩ = some (.bool ub) := (by rw [cell_of_block hSw]; rfl); have z2_ : W0.cell? ⟨W.heap.size, 2, none⟩ = some (.int .i64 ui) := (by rw [cell_of_block hSw]; rfl); have z3_ : W0.cell? ⟨W.heap.size, 3, none⟩ = some (.string us) := (by rw [cell_of_block hSw]; rfl); have z4_ : W0.cell? ⟨W.heap.size, 4, none⟩ = some (.slice ual unl ucl) := (by rw [cell_of_block hSw]; rfl); have z5_ : W0.cell? ⟨W.heap.size, 5, none⟩ = some (.slice uam unm ucm) := (by rw [cell_of_block hSw]; rfl)); go_simp; (try with_reducible rfl)); (try simp only [Act.put, List.setIfInBounds_toArray, List.set_cons_zero, List.set_cons_succ]))
      (refine wpAnyH_take (i := 4) (v := ?_) rfl (by kernel_rfl) (by kernel_rfl) (by kernel_rfl) (fun _ _ _ h => h) (Or.inl ⟨by kernel_rfl, ?_⟩) (by assumption) ?_; rotate_left 1; (intro W0 hSw; (try dsimp only at hSw); go_simp; (try with_reducible rfl)); (try simp only [Act.put, List.setIfInBounds_toArray, List.set_cons_zero, List.set_cons_succ]))
      have hbe : Below Wk.heap.size Wk (Wk.alloc (.cells #[.string ⟨#[]⟩, .int .i64 0, .bool false, .int .i64 0, .string ⟨#[]⟩, .slice none 0 0, .slice none 0 0] 57)).drew := (one_belowG Wk _).drew
      have hb2 : Below W.heap.size W (Wk.alloc (.cells #[.string ⟨#[]⟩, .int .i64 0, .bool false, .int .i64 0, .string ⟨#[]⟩, .slice none 0 0, .slice none 0 0] 57)).drew := hbk.trans (hbe.mono (by omega))
      have hz2 : (Wk.alloc (.cells #[.string ⟨#[]⟩, .int .i64 0, .bool false, .int .i64 0, .string ⟨#[]⟩, .slice none 0 0, .slice none 0 0] 57)).drew.heap.size = Wk.heap.size + 1 := alloc_size _ _
      have nb : (Wk.alloc (.cells #[.string ⟨#[]⟩, .int .i64 0, .bool false, .int .i64 0, .string ⟨#[]⟩, .slice none 0 0, .slice none 0 0] 57)).drew.heap[Wk.heap.size]? = some (.cells #[.string ⟨#[]⟩, .int .i64 0, .bool false, .int .i64 0, .string ⟨#[]⟩, .slice none 0 0, .slice none 0 0] 57) := heap_alloc_new Wk _
      have hX2 := (hbe.block W.heap.size (by omega)).trans hst
      have hv2 := (hb2.block (w.heap.size + 1) (by omega)).trans v1
      have ho2 := ho.below hb2
      unfold OwnC at ho2
      rw [List.length_map] at ho2
      have hx2 : PM (Wk.alloc (.cells #[.string ⟨#[]⟩, .int .i64 0, .bool false, .int .i64 0, .string ⟨#[]⟩, .slice none 0 0, .slice none 0 0] 57)).drew (fun y => S y ∨ (W.heap.size ≤ y ∧ y < (Wk.alloc (.cells #[.string ⟨#[]⟩, .int .i64 0, .bool false, .int .i64 0, .string ⟨#[]⟩, .slice none 0 0, .slice none 0 0] 57)).drew.heap.size)) ((key, vb), [.string key, .int .i64 uk, .bool ub, .int .i64 ui, .string us, .slice ual unl ucl, .slice uam unm ucm]) := ⟨_, rfl, hG.k, V.lies_keep (fun h => h) (fun y hy => hbe.block y (by rcases hy with hy | hy <;> first | omega | (have := hS y hy; omega))) (fun y hy => hy.elim .inl (fun h => .inr ⟨h.1, by omega⟩)) _ hu⟩
      have ck : Wk.cell? ⟨w.heap.size + 1, 5, none⟩ = some (.slice sa ps.length sc) := (World.cell?_of_block (w := W) (a := ⟨w.heap.size + 1, 5, none⟩) (hbk.block (w.heap.size + 1) (by omega))).trans c3
      have cka : ∀ o, (Wk.alloc o).cell? ⟨w.heap.size + 1, 5, none⟩ = some (.slice sa ps.length sc) := fun o => (World.cell?_of_block (w := Wk) (a := ⟨w.heap.size + 1, 5, none⟩) (Below.heap_alloc Wk o (w.heap.size + 1) (by omega))).trans ck
      refine wpAnyH_ready (rs := [1, 6]) (by kernel_rfl) (by simp) ?_
      refine AllReadyH.cons rfl (fun K hK => ?_) (AllReadyH.cons rfl (fun K hK => ?_) AllReadyH.nil)
      · go_simp
        refine hK.out _ _ hst (fun hHeld => ?_)
        clear hK K
        (try simp only [Act.put, List.setIfInBounds_toArray, List.set_cons_zero, List.set_cons_succ])
        (refine wpAnyH_take (i := 5) (v := ?_) rfl (by kernel_rfl) (by kernel_rfl) (by kernel_rfl) (fun _ _ _ h => h) (Or.inl ⟨by kernel_rfl, ?_⟩) (by assumption) ?_; rotate_left 1; (intro W0 hSw; (try dsimp only at hSw); go_simp; (try with_reducible rfl)); (try simp only [Act.put, List.setIfInBounds_toArray, List.set_cons_zero, List.set_cons_succ]))
        refine wpAnyH_ready (rs := [6]) (by kernel_rfl) (by simp) ?_
        refine AllReadyH.cons rfl (fun K hK => ?_) AllReadyH.nil
        go_simp
        refine hK.out _ _ hX2 (fun hHeld => ?_)
        clear hK K
        (try simp only [Act.put, List.setIfInBounds_toArray, List.set_cons_zero, List.set_cons_succ])
        generalize (Wk.alloc (.cells #[.string ⟨#[]⟩, .int .i64 0, .bool false, .int .i64 0, .string ⟨#[]⟩, .slice none 0 0, .slice none 0 0] 57)).drew = W2 at *
        refine wpAnyH_ready (rs := [7]) (by kernel_rfl) (by simp) ?_
        refine AllReadyH.cons rfl (fun K hK => ?_) AllReadyH.nil
        refine step_blank rfl (.tmp 55) (.tmp 60) rfl (w.heap.size + 4) (.slice sa ps.length sc) ps.length _ rfl ho2 Wk.heap.size rfl nb (by omega) (by omega) ?_
        intro g cap w5 h5 g5 l5
        have hX5 : w5.heap[W.heap.size]? = some (.cells #[.int .i64 uk, .bool ub, .int .i64 ui, .string us, .slice ual unl ucl, .slice uam unm ucm] 25) := (g5.block W.heap.size (by omega) (fun h => hBo h.symm)).trans hX2
        refine hK.out _ _ hX5 (fun hHeld => ?_)
        clear hK K
        (try simp only [Act.put, List.setIfInBounds_toArray, List.set_cons_zero, List.set_cons_succ])
        have hgn : g ≠ w.heap.size + 1 := by have := (World.ownsRow.lt h5 g rfl).1; omega
        have hgx : W.heap.size ≠ g := fun h => by
          rcases l5 with l5 | l5
          · exact hBo (by rw [h]; exact l5)
          · omega
        have yN : (ps.length : Int) < ((ps.length + 1 : Nat) : Int) := by omega
        have yN2 : (ps.length : Int) < (ps.length : Int) + 1 := by omega
        (refine wpAnyH_take (i := 8) (v := ?_) rfl (by kernel_rfl) (by kernel_rfl) (by kernel_rfl) (fun _ _ _ h => h) (Or.inl ⟨by kernel_rfl, ?_⟩) (by assumption) ?_; rotate_left 1; (intro W0 hSw; (try dsimp only at hSw); go_simp; (try with_reducible rfl)); (try simp only [Act.put, List.setIfInBounds_toArray, List.set_cons_zero, List.set_cons_succ]))
        (refine wpAnyH_take (i := 10) (v := ?_) rfl (by kernel_rfl) (by kernel_rfl) (by kernel_rfl) (fun _ _ _ h => h) (Or.inl ⟨by kernel_rfl, ?_⟩) (by assumption) ?_; rotate_left 1; (intro W0 hSw; (try dsimp only at hSw); go_simp; (try with_reducible rfl)); (try simp only [Act.put, List.setIfInBounds_toArray, List.set_cons_zero, List.set_cons_succ]))
        have hv5 : w5.heap[w.heap.size + 1]? = some (.cells #[.int .i64 5, .bool false, .int .i64 0, .string ⟨#[]⟩, .slice none 0 0, .slice sa ps.length sc] 25) := (g5.block _ (by omega) (fun h => by have := (hown _ h.symm).1; omega)).trans hv2
        have c5 : w5.cell? ⟨w.heap.size + 1, 5, none⟩ = some (.slice sa ps.length sc) := by rw [cell_of_block hv5]; rfl
        have f5 : w5.frozen? ⟨w.heap.size + 1, 5, none⟩ = false := frozen_of_block hv5 5
        obtain ⟨bc, bf⟩ := blank_cells h5 ho2.1
        have b0 : w5.cell? ⟨g, ps.length * 7, none⟩ = some (.string ⟨#[]⟩) := bc 0 _ rfl
        have b1 : w5.cell? ⟨g, ps.length * 7 + 1, none⟩ = some (.int .i64 0) := bc 1 _ rfl
        have b2 : w5.cell? ⟨g, ps.length * 7 + 2, none⟩ = some (.bool false) := bc 2 _ rfl
        have b3 : w5.cell? ⟨g, ps.length * 7 + 3, none⟩ = some (.int .i64 0) := bc 3 _ rfl
        have b4 : w5.cell? ⟨g, ps.length * 7 + 4, none⟩ = some (.string ⟨#[]⟩) := bc 4 _ rfl
        have b5 : w5.cell? ⟨g, ps.length * 7 + 5, none⟩ = some (.slice none 0 0) := bc 5 _ rfl
        have b6 : w5.cell? ⟨g, ps.length * 7 + 6, none⟩ = some (.slice none 0 0) := bc 6 _ rfl
        have E1 := end1 (n := ps.length) hgn hv5 (.slice (some ⟨g, 0, none⟩) (ps.length + 1) cap) (.string key) (.int .i64 uk) (.bool ub) (.int .i64 ui) (.string us) (.slice ual unl ucl) (.slice uam unm ucm)
        have E2 := end2 (n := ps.length) hgn hv5 (.slice (some ⟨g, 0, none⟩) (ps.length + 1) cap) (.string key) (.int .i64 uk) (.bool ub) (.int .i64 ui) (.string us) (.slice ual unl ucl) (.slice uam unm ucm)
        have oA : ∀ z, z ≠ g → (((((((w5.setCell ⟨g, ps.length * 7, none⟩ (.string key)).setCell ⟨g, ps.length * 7 + 1, none⟩ (.int .i64 uk)).setCell ⟨g, ps.length * 7 + 2, none⟩ (.bool ub)).setCell ⟨g, ps.length * 7 + 3, none⟩ (.int .i64 ui)).setCell ⟨g, ps.length * 7 + 4, none⟩ (.string us)).setCell ⟨g, ps.length * 7 + 5, none⟩ (.slice ual unl ucl)).setCell ⟨g, ps.length * 7 + 6, none⟩ (.slice uam unm ucm)).heap[z]? = w5.heap[z]? := fun z hz => sets7_o w5 g ps.length (.string key) (.int .i64 uk) (.bool ub) (.int .i64 ui) (.string us) (.slice ual unl ucl) (.slice uam unm ucm) z hz
        have oM : ∀ z, z ≠ w.heap.size + 1 → (w5.setCell ⟨w.heap.size + 1, 5, none⟩ (.slice (some ⟨g, 0, none⟩) (ps.length + 1) cap)).heap[z]? = w5.heap[z]? := fun z hz => set_other hz
        have a5 : (((((((w5.setCell ⟨g, ps.length * 7, none⟩ (.string key)).setCell ⟨g, ps.length * 7 + 1, none⟩ (.int .i64 uk)).setCell ⟨g, ps.length * 7 + 2, none⟩ (.bool ub)).setCell ⟨g, ps.length * 7 + 3, none⟩ (.int .i64 ui)).setCell ⟨g, ps.length * 7 + 4, none⟩ (.string us)).setCell ⟨g, ps.length * 7 + 5, none⟩ (.slice ual unl ucl)).setCell ⟨g, ps.length * 7 + 6, none⟩ (.slice uam unm ucm)).cell? ⟨w.heap.size + 1, 5, none⟩ = some (.slice sa ps.length sc) := (World.cell?_of_block (w := w5) (a := ⟨w.heap.size + 1, 5, none⟩) (oA _ (fun h => hgn h.symm))).trans c5
        have af : (((((((w5.setCell ⟨g, ps.length * 7, none⟩ (.string key)).setCell ⟨g, ps.length * 7 + 1, none⟩ (.int .i64 uk)).setCell ⟨g, ps.length * 7 + 2, none⟩ (.bool ub)).setCell ⟨g, ps.length * 7 + 3, none⟩ (.int .i64 ui)).setCell ⟨g, ps.length * 7 + 4, none⟩ (.string us)).setCell ⟨g, ps.length * 7 + 5, none⟩ (.slice ual unl ucl)).setCell ⟨g, ps.length * 7 + 6, none⟩ (.slice uam unm ucm)).frozen? ⟨w.heap.size + 1, 5, none⟩ = false := frozen_of_block ((oA _ (fun h => hgn h.symm)).trans hv5) 5
        have mf : ∀ ii, (w5.setCell ⟨w.heap.size + 1, 5, none⟩ (.slice (some ⟨g, 0, none⟩) (ps.length + 1) cap)).frozen? ⟨g, ii, none⟩ = false := fun ii => (frozen_other (oM g hgn) ii).trans (bf ii)
        have m0 : (w5.setCell ⟨w.heap.size + 1, 5, none⟩ (.slice (some ⟨g, 0, none⟩) (ps.length + 1) cap)).cell? ⟨g, ps.length * 7, none⟩ = some (.string ⟨#[]⟩) := (World.cell?_of_block (w := w5) (a := ⟨g, ps.length * 7, none⟩) (oM g hgn)).trans b0
        have m1 : (w5.setCell ⟨w.heap.size + 1, 5, none⟩ (.slice (some ⟨g, 0, none⟩) (ps.length + 1) cap)).cell? ⟨g, ps.length * 7 + 1, none⟩ = some (.int .i64 0) := (World.cell?_of_block (w := w5) (a := ⟨g, ps.length * 7 + 1, none⟩) (oM g hgn)).trans b1
        have m2 : (w5.setCell ⟨w.heap.size + 1, 5, none⟩ (.slice (some ⟨g, 0, none⟩) (ps.length + 1) cap)).cell? ⟨g, ps.length * 7 + 2, none⟩ = some (.bool false) := (World.cell?_of_block (w := w5) (a := ⟨g, ps.length * 7 + 2, none⟩) (oM g hgn)).trans b2
        have m3 : (w5.setCell ⟨w.heap.size + 1, 5, none⟩ (.slice (some ⟨g, 0, none⟩) (ps.length + 1) cap)).cell? ⟨g, ps.length * 7 + 3, none⟩ = some (.int .i64 0) := (World.cell?_of_block (w := w5) (a := ⟨g, ps.length * 7 + 3, none⟩) (oM g hgn)).trans b3
        have m4 : (w5.setCell ⟨w.heap.size + 1, 5, none⟩ (.slice (some ⟨g, 0, none⟩) (ps.length + 1) cap)).cell? ⟨g, ps.length * 7 + 4, none⟩ = some (.string ⟨#[]⟩) := (World.cell?_of_block (w := w5) (a := ⟨g, ps.length * 7 + 4, none⟩) (oM g hgn)).trans b4
        have m5 : (w5.setCell ⟨w.heap.size + 1, 5, none⟩ (.slice (some ⟨g, 0, none⟩) (ps.length + 1) cap)).cell? ⟨g, ps.length * 7 + 5, none⟩ = some (.slice none 0 0) := (World.cell?_of_block (w := w5) (a := ⟨g, ps.length * 7 + 5, none⟩) (oM g hgn)).trans b5
        have m6 : (w5.setCell ⟨w.heap.size + 1, 5, none⟩ (.slice (some ⟨g, 0, none⟩) (ps.length + 1) cap)).cell? ⟨g, ps.length * 7 + 6, none⟩ = some (.slice none 0 0) := (World.cell?_of_block (w := w5) (a := ⟨g, ps.length * 7 + 6, none⟩) (oM g hgn)).trans b6
        refine wpAnyH_ready (rs := [9, 11]) (by kernel_rfl) (by simp) ?_
        refine AllReadyH.cons rfl (fun K hK => ?_) (AllReadyH.cons rfl (fun K hK => ?_) AllReadyH.nil)
        · go_simp
          refine hK.out _ _ ((oA W.heap.size hgx).trans hX5) (fun hHeld => ?_)
          clear hK K
          (try simp only [Act.put, List.setIfInBounds_toArray, List.set_cons_zero, List.set_cons_succ])
          refine wpAnyH_ready (rs := [11]) (by kernel_rfl) (by simp) ?_
          refine AllReadyH.cons rfl (fun K hK => ?_) AllReadyH.nil
          go_simp
          refine hK.out _ _ ((E1.o_ W.heap.size hgx (by omega)).trans hX5) (fun hHeld => ?_)
          clear hK K
          (try simp only [Act.put, List.setIfInBounds_toArray, List.set_cons_zero, List.set_cons_succ])
          refine wpAnyH_done (by kernel_rfl) ?_ _
          have R1 := round_at (by omega) hS1 h6 bW rfl rfl ho hp hb2 hx2 h5 g5 l5 E1
          gi_wp2
          exact hfin _ R1
        · go_simp
          refine hK.out _ _ ((oM W.heap.size (by omega)).trans hX5) (fun hHeld => ?_)
          clear hK K
          (try simp only [Act.put, List.setIfInBounds_toArray, List.set_cons_zero, List.set_cons_succ])
          refine wpAnyH_ready (rs := [9]) (by kernel_rfl) (by simp) ?_
          refine AllReadyH.cons rfl (fun K hK => ?_) AllReadyH.nil
          go_simp
          refine hK.out _ _ ((E2.o_ W.heap.size hgx (by omega)).trans hX5) (fun hHeld => ?_)
          clear hK K
          (try simp only [Act.put, List.setIfInBounds_toArray, List.set_cons_zero, List.set_cons_succ])
          refine wpAnyH_done (by kernel_rfl) ?_ _
          have R1 := round_at (by omega) hS1 h6 bW rfl rfl ho hp hb2 hx2 h5 g5 l5 E2
          gi_wp2
          exact hfin _ R1
      · go_simp
        refine hK.out _ _ hX2 (fun hHeld => ?_)
        clear hK K
        (try simp only [Act.put, List.setIfInBounds_toArray, List.set_cons_zero, List.set_cons_succ])
        refine wpAnyH_ready (rs := [1]) (by kernel_rfl) (by simp) ?_
        refine AllReadyH.cons rfl (fun K hK => ?_) AllReadyH.nil
        go_simp
        refine hK.out _ _ hX2 (fun hHeld => ?_)
        clear hK K
        (try simp only [Act.put, List.setIfInBounds_toArray, List.set_cons_zero, List.set_cons_succ])
        (refine wpAnyH_take (i := 5) (v := ?_) rfl (by kernel_rfl) (by kernel_rfl) (by kernel_rfl) (fun _ _ _ h => h) (Or.inl ⟨by kernel_rfl, ?_⟩) (by assumption) ?_; rotate_left 1; (intro W0 hSw; (try dsimp only at hSw); go_simp; (try with_reducible rfl)); (try simp only [Act.put, List.setIfInBounds_toArray, List.set_cons_zero, List.set_cons_succ]))
        generalize (Wk.alloc (.cells #[.string ⟨#[]⟩, .int .i64 0, .bool false, .int .i64 0, .string ⟨#[]⟩, .slice none 0 0, .slice none 0 0] 57)).drew = W2 at *
        refine wpAnyH_ready (rs := [7]) (by kernel_rfl) (by simp) ?_
        refine AllReadyH.cons rfl (fun K hK => ?_) AllReadyH.nil
        refine step_blank rfl (.tmp 55) (.tmp 60) rfl (w.heap.size + 4) (.slice sa ps.length sc) ps.length _ rfl ho2 Wk.heap.size rfl nb (by omega) (by omega) ?_
        intro g cap w5 h5 g5 l5
        have hX5 : w5.heap[W.heap.size]? = some (.cells #[.int .i64 uk, .bool ub, .int .i64 ui, .string us, .slice ual unl ucl, .slice uam unm ucm] 25) := (g5.block W.heap.size (by omega) (fun h => hBo h.symm)).trans hX2
        refine hK.out _ _ hX5 (fun hHeld => ?_)
        clear hK K
        (try simp only [Act.put, List.setIfInBounds_toArray, List.set_cons_zero, List.set_cons_succ])
        have hgn : g ≠ w.heap.size + 1 := by have := (World.ownsRow.lt h5 g rfl).1; omega
        have hgx : W.heap.size ≠ g := fun h => by
          rcases l5 with l5 | l5
          · exact hBo (by rw [h]; exact l5)
          · omega
        have yN : (ps.length : Int) < ((ps.length + 1 : Nat) : Int) := by omega
        have yN2 : (ps.length : Int) < (ps.length : Int) + 1 := by omega
        (refine wpAnyH_take (i := 8) (v := ?_) rfl (by kernel_rfl) (by kernel_rfl) (by kernel_rfl) (fun _ _ _ h => h) (Or.inl ⟨by kernel_rfl, ?_⟩) (by assumption) ?_; rotate_left 1; (intro W0 hSw; (try dsimp only at hSw); go_simp; (try with_reducible rfl)); (try simp only [Act.put, List.setIfInBounds_toArray, List.set_cons_zero, List.set_cons_succ]))
        (refine wpAnyH_take (i := 10) (v := ?_) rfl (by kernel_rfl) (by kernel_rfl) (by kernel_rfl) (fun _ _ _ h => h) (Or.inl ⟨by kernel_rfl, ?_⟩) (by assumption) ?_; rotate_left 1; (intro W0 hSw; (try dsimp only at hSw); go_simp; (try with_reducible rfl)); (try simp only [Act.put, List.setIfInBounds_toArray, List.set_cons_zero, List.set_cons_succ]))
        have hv5 : w5.heap[w.heap.size + 1]? = some (.cells #[.int .i64 5, .bool false, .int .i64 0, .string ⟨#[]⟩, .slice none 0 0, .slice sa ps.length sc] 25) := (g5.block _ (by omega) (fun h => by have := (hown _ h.symm).1; omega)).trans hv2
        have c5 : w5.cell? ⟨w.heap.size + 1, 5, none⟩ = some (.slice sa ps.length sc) := by rw [cell_of_block hv5]; rfl
        have f5 : w5.frozen? ⟨w.heap.size + 1, 5, none⟩ = false := frozen_of_block hv5 5
        obtain ⟨bc, bf⟩ := blank_cells h5 ho2.1
        have b0 : w5.cell? ⟨g, ps.length * 7, none⟩ = some (.string ⟨#[]⟩) := bc 0 _ rfl
        have b1 : w5.cell? ⟨g, ps.length * 7 + 1, none⟩ = some (.int .i64 0) := bc 1 _ rfl
        have b2 : w5.cell? ⟨g, ps.length * 7 + 2, none⟩ = some (.bool false) := bc 2 _ rfl
        have b3 : w5.cell? ⟨g, ps.length * 7 + 3, none⟩ = some (.int .i64 0) := bc 3 _ rfl
        have b4 : w5.cell? ⟨g, ps.length * 7 + 4, none⟩ = some (.string ⟨#[]⟩) := bc 4 _ rfl
        have b5 : w5.cell? ⟨g, ps.length * 7 + 5, none⟩ = some (.slice none 0 0) := bc 5 _ rfl
        have b6 : w5.cell? ⟨g, ps.length * 7 + 6, none⟩ = some (.slice none 0 0) := bc 6 _ rfl
        have E1 := end1 (n := ps.length) hgn hv5 (.slice (some ⟨g, 0, none⟩) (ps.length + 1) cap) (.string key) (.int .i64 uk) (.bool ub) (.int .i64 ui) (.string us) (.slice ual unl ucl) (.slice uam unm ucm)
        have E2 := end2 (n := ps.length) hgn hv5 (.slice (some ⟨g, 0, none⟩) (ps.length + 1) cap) (.string key) (.int .i64 uk) (.bool ub) (.int .i64 ui) (.string us) (.slice ual unl ucl) (.slice uam unm ucm)
        have oA : ∀ z, z ≠ g → (((((((w5.setCell ⟨g, ps.length * 7, none⟩ (.string key)).setCell ⟨g, ps.length * 7 + 1, none⟩ (.int .i64 uk)).setCell ⟨g, ps.length * 7 + 2, none⟩ (.bool ub)).setCell ⟨g, ps.length * 7 + 3, none⟩ (.int .i64 ui)).setCell ⟨g, ps.length * 7 + 4, none⟩ (.string us)).setCell ⟨g, ps.length * 7 + 5, none⟩ (.slice ual unl ucl)).setCell ⟨g, ps.length * 7 + 6, none⟩ (.slice uam unm ucm)).heap[z]? = w5.heap[z]? := fun z hz => sets7_o w5 g ps.length (.string key) (.int .i64 uk) (.bool ub) (.int .i64 ui) (.string us) (.slice ual unl ucl) (.slice uam unm ucm) z hz
        have oM : ∀ z, z ≠ w.heap.size + 1 → (w5.setCell ⟨w.heap.size + 1, 5, none⟩ (.slice (some ⟨g, 0, none⟩) (ps.length + 1) cap)).heap[z]? = w5.heap[z]? := fun z hz => set_other hz
        have a5 : (((((((w5.setCell ⟨g, ps.length * 7, none⟩ (.string key)).setCell ⟨g, ps.length * 7 + 1, none⟩ (.int .i64 uk)).setCell ⟨g, ps.length * 7 + 2, none⟩ (.bool ub)).setCell ⟨g, ps.length * 7 + 3, none⟩ (.int .i64 ui)).setCell ⟨g, ps.length * 7 + 4, none⟩ (.string us)).setCell ⟨g, ps.length * 7 + 5, none⟩ (.slice ual unl ucl)).setCell ⟨g, ps.length * 7 + 6, none⟩ (.slice uam unm ucm)).cell? ⟨w.heap.size + 1, 5, none⟩ = some (.slice sa ps.length sc) := (World.cell?_of_block (w := w5) (a := ⟨w.heap.size + 1, 5, none⟩) (oA _ (fun h => hgn h.symm))).trans c5
        have af : (((((((w5.setCell ⟨g, ps.length * 7, none⟩ (.string key)).setCell ⟨g, ps.length * 7 + 1, none⟩ (.int .i64 uk)).setCell ⟨g, ps.length * 7 + 2, none⟩ (.bool ub)).setCell ⟨g, ps.length * 7 + 3, none⟩ (.int .i64 ui)).setCell ⟨g, ps.length * 7 + 4, none⟩ (.string us)).setCell ⟨g, ps.length * 7 + 5, none⟩ (.slice ual unl ucl)).setCell ⟨g, ps.length * 7 + 6, none⟩ (.slice uam unm ucm)).frozen? ⟨w.heap.size + 1, 5, none⟩ = false := frozen_of_block ((oA _ (fun h => hgn h.symm)).trans hv5) 5
        have mf : ∀ ii, (w5.setCell ⟨w.heap.size + 1, 5, none⟩ (.slice (some ⟨g, 0, none⟩) (ps.length + 1) cap)).frozen? ⟨g, ii, none⟩ = false := fun ii => (frozen_other (oM g hgn) ii).trans (bf ii)
        have m0 : (w5.setCell ⟨w.heap.size + 1, 5, none⟩ (.slice (some ⟨g, 0, none⟩) (ps.length + 1) cap)).cell? ⟨g, ps.length * 7, none⟩ = some (.string ⟨#[]⟩) := (World.cell?_of_block (w := w5) (a := ⟨g, ps.length * 7, none⟩) (oM g hgn)).trans b0
        have m1 : (w5.setCell ⟨w.heap.size + 1, 5, none⟩ (.slice (some ⟨g, 0, none⟩) (ps.length + 1) cap)).cell? ⟨g, ps.length * 7 + 1, none⟩ = some (.int .i64 0) := (World.cell?_of_block (w := w5) (a := ⟨g, ps.length * 7 + 1, none⟩) (oM g hgn)).trans b1
        have m2 : (w5.setCell ⟨w.heap.size + 1, 5, none⟩ (.slice (some ⟨g, 0, none⟩) (ps.length + 1) cap)).cell? ⟨g, ps.length * 7 + 2, none⟩ = some (.bool false) := (World.cell?_of_block (w := w5) (a := ⟨g, ps.length * 7 + 2, none⟩) (oM g hgn)).trans b2
        have m3 : (w5.setCell ⟨w.heap.size + 1, 5, none⟩ (.slice (some ⟨g, 0, none⟩) (ps.length + 1) cap)).cell? ⟨g, ps.length * 7 + 3, none⟩ = some (.int .i64 0) := (World.cell?_of_block (w := w5) (a := ⟨g, ps.length * 7 + 3, none⟩) (oM g hgn)).trans b3
        have m4 : (w5.setCell ⟨w.heap.size + 1, 5, none⟩ (.slice (some ⟨g, 0, none⟩) (ps.length + 1) cap)).cell? ⟨g, ps.length * 7 + 4, none⟩ = some (.string ⟨#[]⟩) := (World.cell?_of_block (w := w5) (a := ⟨g, ps.length * 7 + 4, none⟩) (oM g hgn)).trans b4
        have m5 : (w5.setCell ⟨w.heap.size + 1, 5, none⟩ (.slice (some ⟨g, 0, none⟩) (ps.length + 1) cap)).cell? ⟨g, ps.length * 7 + 5, none⟩ = some (.slice none 0 0) := (World.cell?_of_block (w := w5) (a := ⟨g, ps.length * 7 + 5, none⟩) (oM g hgn)).trans b5
        have m6 : (w5.setCell ⟨w.heap.size + 1, 5, none⟩ (.slice (some ⟨g, 0, none⟩) (ps.length + 1) cap)).cell? ⟨g, ps.length * 7 + 6, none⟩ = some (.slice none 0 0) := (World.cell?_of_block (w := w5) (a := ⟨g, ps.length * 7 + 6, none⟩) (oM g hgn)).trans b6
        refine wpAnyH_ready (rs := [9, 11]) (by kernel_rfl) (by simp) ?_
        refine AllReadyH.cons rfl (fun K hK => ?_) (AllReadyH.cons rfl (fun K hK => ?_) AllReadyH.nil)
        · go_simp
          refine hK.out _ _ ((oA W.heap.size hgx).trans hX5) (fun hHeld => ?_)
          clear hK K
          (try simp only [Act.put, List.setIfInBounds_toArray, List.set_cons_zero, List.set_cons_succ])
          refine wpAnyH_ready (rs := [11]) (by kernel_rfl) (by simp) ?_
          refine AllReadyH.cons rfl (fun K hK => ?_) AllReadyH.nil
          go_simp
          refine hK.out _ _ ((E1.o_ W.heap.size hgx (by omega)).trans hX5) (fun hHeld => ?_)
          clear hK K
          (try simp only [Act.put, List.setIfInBounds_toArray, List.set_cons_zero, List.set_cons_succ])
          refine wpAnyH_done (by kernel_rfl) ?_ _
          have R1 := round_at (by omega) hS1 h6 bW rfl rfl ho hp hb2 hx2 h5 g5 l5 E1
          gi_wp2
          exact hfin _ R1
        · go_simp
          refine hK.out _ _ ((oM W.heap.size (by omega)).trans hX5) (fun hHeld => ?_)
          clear hK K
          (try simp only [Act.put, List.setIfInBounds_toArray, List.set_cons_zero, List.set_cons_succ])
          refine wpAnyH_ready (rs := [9]) (by kernel_rfl) (by simp) ?_
          refine AllReadyH.cons rfl (fun K hK => ?_) AllReadyH.nil
          go_simp
          refine hK.out _ _ ((E2.o_ W.heap.size hgx (by omega)).trans hX5) (fun hHeld => ?_)
          clear hK K
          (try simp only [Act.put, List.setIfInBounds_toArray, List.set_cons_zero, List.set_cons_succ])
          refine wpAnyH_done (by kernel_rfl) ?_ _
          have R1 := round_at (by omega) hS1 h6 bW rfl rfl ho hp hb2 hx2 h5 g5 l5 E2
          gi_wp2
          exact hfin _ R1
  case done =>
    rintro D ys W hD rfl ⟨sl, v1, acc, bW⟩ hK
    have hzW := bW.size
    have hD6 : w.heap.size + 4 ≤ D := by omega
    have ems : (withG (tgR qa qb) HALL).map (fun x => stB x.1) = (tgR qa qb).map stB := by
      have h := congrArg (List.map stB) (withG_map (tgR qa qb) HALL)
      rw [List.map_map] at h
      exact h
    rw [ems] at acc
    obtain ⟨sa, sc, rfl⟩ := acc.len
    have r1 := (bW.block w.heap.size (by omega)).trans r6
    have FP := fin_put r1 (by omega) hK (.int .i64 5) (.bool false) (.int .i64 0) (.string ⟨#[]⟩) (.slice none 0 0) (.slice sa ((tgR qa qb).map stB).length sc)
    have HE := hmk (fin_at hS (Nat.le_refl _) (by omega) (by omega) bw6 h6 bW acc hD6 hK FP.2)
    generalize ((tgR qa qb).map stB).length = nn at *
    have cv0 : W.cell? ⟨w.heap.size + 1, 0, none⟩ = some (.int .i64 5) := by rw [cell_of_block v1]; rfl
    have cv1 : W.cell? ⟨w.heap.size + 1, 1, none⟩ = some (.bool false) := by rw [cell_of_block v1]; rfl
    have cv2 : W.cell? ⟨w.heap.size + 1, 2, none⟩ = some (.int .i64 0) := by rw [cell_of_block v1]; rfl
    have cv3 : W.cell? ⟨w.heap.size + 1, 3, none⟩ = some (.string ⟨#[]⟩) := by rw [cell_of_block v1]; rfl
    have cv4 : W.cell? ⟨w.heap.size + 1, 4, none⟩ = some (.slice none 0 0) := by rw [cell_of_block v1]; rfl
    have cv5 : W.cell? ⟨w.heap.size + 1, 5, none⟩ = some (.slice sa nn sc) := by rw [cell_of_block v1]; rfl
    have cr0 : W.cell? ⟨w.heap.size, 0, none⟩ = some (.int .i64 0) := by rw [cell_of_block r1]; rfl
    have cr1 : W.cell? ⟨w.heap.size, 1, none⟩ = some (.bool false) := by rw [cell_of_block r1]; rfl
    have cr2 : W.cell? ⟨w.heap.size, 2, none⟩ = some (.int .i64 0) := by rw [cell_of_block r1]; rfl
    have cr3 : W.cell? ⟨w.heap.size, 3, none⟩ = some (.string ⟨#[]⟩) := by rw [cell_of_block r1]; rfl
    have cr4 : W.cell? ⟨w.heap.size, 4, none⟩ = some (.slice none 0 0) := by rw [cell_of_block r1]; rfl
    have cr5 : W.cell? ⟨w.heap.size, 5, none⟩ = some (.slice none 0 0) := by rw [cell_of_block r1]; rfl
    have fr := frozen_of_block r1
    clear acc v1
    gi_wp2
    refine ⟨by simp, .inl ⟨_, _, rfl, run_takeDeferred FP.1, ?_⟩⟩
    have cf0 := (cell_of_block FP.2.g_ 0)
    have cf1 := (cell_of_block FP.2.g_ 1)
    have cf2 := (cell_of_block FP.2.g_ 2)
    have cf3 := (cell_of_block FP.2.g_ 3)
    have cf4 := (cell_of_block FP.2.g_ 4)
    have cf5 := (cell_of_block FP.2.g_ 5)
    refine ⟨.agg #[.int .i64 5, .bool false, .int .i64 0, .string ⟨#[]⟩, .slice none 0 0, .slice sa nn sc], ?_, ?_⟩
    · rw [results_cell1 rfl]
      go_simp
    · exact ⟨_, rfl, HE.out.1, HE.out.2⟩
  case stop =>
    rintro D c pre W _ _ h _
    exact h.elim
end Go.Proofs.YtjfldbmopjojdaaDoor
