/- joined: BtwE BtwF -/
import Derived.Test.YtjfldbmopjojdaaDoorBtwD
set_option linter.unusedSimpArgs false
set_option linter.unusedVariables false
namespace Go.Proofs.YtjfldbmopjojdaaDoor
open Go Go.RowKit Go.Lib Go.Shelf
theorem ok_mems {v : V} (h : Ok v) {qs : List (Mem × List Value)} (e : qs.map (fun q => q.1) = memsOf v) : (∀ q ∈ qs, Ok q.1.2) ∧ qs.length ≤ 1114112 ∧ ∀ q ∈ qs, dpV q.1.2 + 1 ≤ dpV v := by
 have hm : ∀ q ∈ qs, q.1 ∈ memsOf v := fun q hq => by rw [← e]; exact List.mem_map_of_mem hq
 refine ⟨fun q hq => ?_, ?_, fun q hq => ?_⟩
 ·have := hm q hq
  obtain ⟨k, b, i, s, l, m⟩ := v
  exact h.mem this
 ·have := h.wt; have := mems_wt v; have := wtM_len (memsOf v); have q2 := congrArg List.length e; rw [List.length_map] at q2; omega
 ·have := hm q hq
  obtain ⟨k, b, i, s, l, m⟩ := v
  have := memNd (m := m) this
  rw [dpV]
  omega
theorem null_lies6 (w : World) (S : Nat → Prop) : nullV.lies false w S nul6 := null_lies w S
theorem btw_any (low : Addr) : ∀ (N : Nat) (S : Nat → Prop) (qa qb : List (Mem × List Value)) (aa ab : Option Addr) (ca cb ba oa bb ob : Nat) (w : World), Tb w → ErrAt low w → (∀ b, S b → b < w.heap.size) → Headed aa qa.length ca ba oa → Headed ab qb.length cb bb ob → RowsOf w ba oa 7 (qa.map (fun q => q.2)) → RowsOf w bb ob 7 (qb.map (fun q => q.2)) →
 (∀ q ∈ qa, PM w S q) → (∀ q ∈ qb, PM w S q) → (0 < qa.length → S ba) → (0 < qb.length → S bb) → qa.length ≤ 1114112 → qb.length ≤ 1114112 → (∀ q ∈ qa, Ok q.1.2) → (∀ q ∈ qb, Ok q.1.2) → (∀ q ∈ qa, dpV q.1.2 < N) →
 Calls Tryd.prog 56 #[.slice aa qa.length ca, .slice ab qb.length cb] w (BwPost low (btwM (N + 1) (qa.map (fun q => q.1)) (qb.map (fun q => q.1))) S w) := by
 intro N
 induction N with
 | zero =>
  intro S qa qb aa ab ca cb ba oa bb ob w hT hE hS haH hbH rowa rowb pma pmb insa insb hqa hqb oka okb hd
  rw [btwM_tg]
  refine btw_step low (btwM 0) S qa qb aa ab ca cb ba oa bb ob w hT hE hS haH hbH rowa rowb pma pmb insa insb hqa hqb (tg_all qa qb ?_ ?_ ?_)
  ·intro y hy; have := hd y hy; omega
  ·intro z hz
   obtain ⟨cs, e0, e1, e2⟩ := pmb z hz
   exact ⟨e1, null_lies6 w S, by show z.1.2.lies false w S z.2.tail; rw [e0]; exact e2, null_ok, okb z hz, fun _ => rfl, fun h => by change (0 : Int) = 5 at h; omega⟩
  ·intro y hy; have := hd y hy; omega
 | succ N IH =>
  intro S qa qb aa ab ca cb ba oa bb ob w hT hE hS haH hbH rowa rowb pma pmb insa insb hqa hqb oka okb hd
  rw [btwM_tg]
  refine btw_step low (btwM (N + 1)) S qa qb aa ab ca cb ba oa bb ob w hT hE hS haH hbH rowa rowb pma pmb insa insb hqa hqb (tg_all qa qb ?_ ?_ ?_)
  ·intro y hy
   obtain ⟨cs, e0, e1, e2⟩ := pma y hy
   exact ⟨e1, by show y.1.2.lies false w S y.2.tail; rw [e0]; exact e2, null_lies6 w S, oka y hy, null_ok, fun h => (by cases h), fun _ h => by change (0 : Int) = 5 at h; omega⟩
  ·intro z hz
   obtain ⟨cs, e0, e1, e2⟩ := pmb z hz
   exact ⟨e1, null_lies6 w S, by show z.1.2.lies false w S z.2.tail; rw [e0]; exact e2, null_ok, okb z hz, fun _ => rfl, fun h => by change (0 : Int) = 5 at h; omega⟩
  ·intro y hy z hz
   obtain ⟨cs, e0, e1, e2⟩ := pma y hy
   obtain ⟨ds, d0, d1, d2⟩ := pmb z hz
   have la : y.1.2.lies false w S y.2.tail := by rw [e0]; exact e2
   have lb : z.1.2.lies false w S z.2.tail := by rw [d0]; exact d2
   refine ⟨d1, la, lb, oka y hy, okb z hz, fun h => (by cases h), ?_⟩
   intro _ _ p q W hp hq hb
   have hp : y.2.tail[5]? = some p := hp
   have hq : z.2.tail[5]? = some q := hq
   have la2 := V.lies_keep (S' := S) (fun h => h) (fun x hx => hb.block x (hS x hx)) (fun x hx => hx) _ la
   have lb2 := V.lies_keep (S' := S) (fun h => h) (fun x hx => hb.block x (hS x hx)) (fun x hx => hx) _ lb
   obtain ⟨yk, yb, yi, ys, yal, ynl, ycl, yam, ynm, ycm, ey⟩ := V.ten la2
   obtain ⟨zk, zb, zi, zs, zal, znl, zcl, zam, znm, zcm, ez⟩ := V.ten lb2
   rw [ey] at hp la2
   rw [ez] at hq lb2
   obtain rfl : Value.slice yam ynm ycm = p := by simpa using hp
   obtain rfl : Value.slice zam znm zcm = q := by simpa using hq
   obtain ⟨ba', oa', qa', haH', eqa, lqa, rowa', pma', insa'⟩ := mems_seg la2
   obtain ⟨bb', ob', qb', hbH', eqb, lqb, rowb', pmb', insb'⟩ := mems_seg lb2
   subst lqa lqb
   obtain ⟨o1, o2, o3⟩ := ok_mems (oka y hy) eqa
   obtain ⟨u1, u2, u3⟩ := ok_mems (okb z hz) eqb
   have h := IH S qa' qb' yam zam ycm zcm ba' oa' bb' ob' W (hT.below hb hT.z) (hE.below hb hE.z) (fun b h => Nat.lt_of_lt_of_le (hS b h) hb.size) haH' hbH' rowa' rowb' pma' pmb' insa' insb' o2 u2 o1 u1 (fun q hq => by have := o3 q hq; have := hd y hy; omega)
   rw [eqa, eqb] at h
   exact h
end Go.Proofs.YtjfldbmopjojdaaDoor
namespace Go.Proofs.YtjfldbmopjojdaaDoor
open Go.RowKit Go.Lib
def BvPost (low : Addr) (o : Option V) (S : Nat → Prop) (w : World) (e : Ending) (w' : World) : Prop :=
 match o with
 | some v => RpPost v S w e w'
 | none => e = .panicked [{ v := errV low, recovered := false }] ∧ Below w.heap.size w w'
set_option maxHeartbeats 8000000 in
set_option maxRecDepth 100000 in
theorem between_any (low : Addr) (a b : V) (S : Nat → Prop) (cs ds : List Value) (w : World) (hT : Tb w) (hE : ErrAt low w) (oka : Ok a) (okb : Ok b) (hv : a.lies false w S cs) (hx : b.lies false w S ds) (hS : ∀ b, S b → b < w.heap.size) :
 Calls Tryd.prog 41 #[.agg cs.toArray, .agg ds.toArray] w (BvPost low (btwV 41 a b) S w) := by
 obtain ⟨tk, tb, ti, ts, tal, tnl, tcl, tam, tnm, tcm, rfl⟩ := V.ten hv
 obtain ⟨pk, pb, pi, ps, pal, pnl, pcl, pam, pnm, pcm, rfl⟩ := V.ten hx
 have hka : kindOf a = tk := kind_lies hv
 have hkb : kindOf b = pk := kind_lies hx
 have hx0 := hx
 have Bww3 : Below w.heap.size w (((w.alloc (.cells #[.int .i64 tk, .bool tb, .int .i64 ti, .string ts, .slice tal tnl tcl, .slice tam tnm tcm] 25)).alloc (.cells #[.int .i64 pk, .bool pb, .int .i64 pi, .string ps, .slice pal pnl pcl, .slice pam pnm pcm] 25)).alloc (.cells #[.int .i64 0, .bool false, .int .i64 0, .string ⟨#[]⟩, .slice none 0 0, .slice none 0 0] 25)) := three_below w _ _ _
 have hz3 : (((w.alloc (.cells #[.int .i64 tk, .bool tb, .int .i64 ti, .string ts, .slice tal tnl tcl, .slice tam tnm tcm] 25)).alloc (.cells #[.int .i64 pk, .bool pb, .int .i64 pi, .string ps, .slice pal pnl pcl, .slice pam pnm pcm] 25)).alloc (.cells #[.int .i64 0, .bool false, .int .i64 0, .string ⟨#[]⟩, .slice none 0 0, .slice none 0 0] 25)).heap.size = w.heap.size + 3 := by rw [alloc_size, alloc_size, alloc_size]
 obtain ⟨htw3, hpw3, hzw3⟩ := three_allocs w (.cells #[.int .i64 tk, .bool tb, .int .i64 ti, .string ts, .slice tal tnl tcl, .slice tam tnm tcm] 25) (.cells #[.int .i64 pk, .bool pb, .int .i64 pi, .string ps, .slice pal pnl pcl, .slice pam pnm pcm] 25) (.cells #[.int .i64 0, .bool false, .int .i64 0, .string ⟨#[]⟩, .slice none 0 0, .slice none 0 0] 25)
 have hv3 := V.lies_keep (S' := S) (fun h => h) (fun x hx => Bww3.block x (hS x hx)) (fun x hx => hx) _ hv
 have hx3 := V.lies_keep (S' := S) (fun h => h) (fun x hx => Bww3.block x (hS x hx)) (fun x hx => hx) _ hx
 clear hv hx
 obtain ⟨ck0, ck1, ck2, ck3, ck4, ck5⟩ := sixC htw3
 obtain ⟨cl0, cl1, cl2, cl3, cl4, cl5⟩ := sixC hpw3
 by_cases hkk : kindOf a = 5 ∧ kindOf b = 5
 ·obtain rfl : tk = 5 := hka.symm.trans hkk.1
  obtain rfl : pk = 5 := hkb.symm.trans hkk.2
  have HV : Hid (btwV 41 a b = (btwM 41 (memsOf a) (memsOf b)).map mapV) := by show _ = _; rw [btwV, if_pos hkk]
  rw [HV.out]
  clear hka hkb hkk HV
  cases hres : btwM 41 (memsOf a) (memsOf b) with
  | none =>
   have HO := hmk hres
   clear hres
   go_enter Tryd.func41, Tryd.ntmps41
   go_wp2_with fail
   clear ck0 ck1 ck2 ck3 ck4 ck5 cl0 cl1 cl2 cl3 cl4 cl5
   generalize (((w.alloc (.cells #[.int .i64 5, .bool tb, .int .i64 ti, .string ts, .slice tal tnl tcl, .slice tam tnm tcm] 25)).alloc (.cells #[.int .i64 5, .bool pb, .int .i64 pi, .string ps, .slice pal pnl pcl, .slice pam pnm pcm] 25)).alloc (.cells #[.int .i64 0, .bool false, .int .i64 0, .string ⟨#[]⟩, .slice none 0 0, .slice none 0 0] 25)) = w3 at *
   obtain ⟨ba, oa, qa, haH, eqa, lqa, rowa, pma, insa⟩ := mems_seg hv3
   obtain ⟨bb, ob, qb, hbH, eqb, lqb, rowb, pmb, insb⟩ := mems_seg hx3
   subst lqa lqb
   obtain ⟨o1, o2, o3⟩ := ok_mems oka eqa
   obtain ⟨u1, u2, u3⟩ := ok_mems okb eqb
   have CB := btw_any low 40 S qa qb tam pam tcm pcm ba oa bb ob w3 (hT.below Bww3 hT.z) (hE.below Bww3 hE.z) (fun b hb => by have := hS b hb; omega) haH hbH rowa rowb pma pmb insa insb o2 u2 o1 u1 (fun q hq => by have := o3 q hq; have := oka.d; omega)
   rw [eqa, eqb, HO.out] at CB
   clear rowa rowb pma pmb insa insb eqa eqb haH hbH hv3 hx3 o1 o2 o3 u1 u2 u3
   refine CB.mono ?_
   clear CB
   rintro e w4 ⟨rfl, b4⟩
   go_wp2_with fail
   exact ⟨rfl, rfl, Bww3.trans (b4.mono (by omega))⟩
  | some ms =>
   have HO := hmk hres
   clear hres
   go_enter Tryd.func41, Tryd.ntmps41
   go_wp2_with fail
   clear ck0 ck1 ck2 ck3 ck4 ck5 cl0 cl1 cl2 cl3 cl4 cl5
   generalize (((w.alloc (.cells #[.int .i64 5, .bool tb, .int .i64 ti, .string ts, .slice tal tnl tcl, .slice tam tnm tcm] 25)).alloc (.cells #[.int .i64 5, .bool pb, .int .i64 pi, .string ps, .slice pal pnl pcl, .slice pam pnm pcm] 25)).alloc (.cells #[.int .i64 0, .bool false, .int .i64 0, .string ⟨#[]⟩, .slice none 0 0, .slice none 0 0] 25)) = w3 at *
   obtain ⟨ba, oa, qa, haH, eqa, lqa, rowa, pma, insa⟩ := mems_seg hv3
   obtain ⟨bb, ob, qb, hbH, eqb, lqb, rowb, pmb, insb⟩ := mems_seg hx3
   subst lqa lqb
   obtain ⟨o1, o2, o3⟩ := ok_mems oka eqa
   obtain ⟨u1, u2, u3⟩ := ok_mems okb eqb
   have CB := btw_any low 40 S qa qb tam pam tcm pcm ba oa bb ob w3 (hT.below Bww3 hT.z) (hE.below Bww3 hE.z) (fun b hb => by have := hS b hb; omega) haH hbH rowa rowb pma pmb insa insb o2 u2 o1 u1 (fun q hq => by have := o3 q hq; have := oka.d; omega)
   rw [eqa, eqb, HO.out] at CB
   clear rowa rowb pma pmb insa insb eqa eqb haH hbH hv3 hx3 o1 o2 o3 u1 u2 u3
   refine CB.mono ?_
   clear CB
   rintro e w4 ⟨csn, rfl, hln, b4⟩
   obtain ⟨nk, nb, ni, ns, nal, nnl, ncl, nam, nnm, ncm, rfl⟩ := V.ten hln
   have hzw4 := b4.size
   have htw4 := (b4.block (w.heap.size) (by omega)).trans htw3
   have hpw4 := (b4.block (w.heap.size + 1) (by omega)).trans hpw3
   have hzw4 := (b4.block (w.heap.size + 2) (by omega)).trans hzw3
   have Bww4 := Bww3.trans (b4.mono (by omega))
   obtain ⟨cz0, cz1, cz2, cz3, cz4, cz5⟩ := sixC hzw4
   have fz := frozen_of_block hzw4
   have HE := hmk (wo_fin (M := w.heap.size + 2) (S := S) (by omega) hS Bww4 (V.lies_keep (fun h => h) (fun _ _ => rfl) (fun y hy => hy.elim .inl (fun h => .inr ⟨by have := h.1; omega, by have := h.1; omega, h.2⟩)) _ hln))
   go_wp2_with fail
   (try simp only [Exit.inBlock, Exit.then])
   refine bodyPost_ret (v := .agg #[.int .i64 nk, .bool nb, .int .i64 ni, .string ns, .slice nal nnl ncl, .slice nam nnm ncm]) ?_ rfl ?_
   rotate_left
   ·exact ⟨[.int .i64 nk, .bool nb, .int .i64 ni, .string ns, .slice nal nnl ncl, .slice nam nnm ncm], rfl, HE.out.1, HE.out.2⟩
   ·rw [results_cell1 rfl]
    go_simp
 ·by_cases h5 : tk = 5
  ·have tk5 : (tk == 5) = true := by rw [h5]; rfl
   have pk5 : (pk == 5) = false := beq_eq_false_iff_ne.2 (fun h => hkk ⟨by rw [hka, h5], by rw [hkb, h]⟩)
   clear h5
   by_cases hk0 : pk = 0
   ·subst hk0
    have HV : Hid (btwV 41 a b = some b) := by show _ = _; rw [btwV, if_neg hkk, if_pos hkb]
    rw [HV.out]
    clear hka hkb hkk HV
    have BF : Below w.heap.size w (((w.alloc (.cells #[.int .i64 tk, .bool tb, .int .i64 ti, .string ts, .slice tal tnl tcl, .slice tam tnm tcm] 25)).alloc (.cells #[.int .i64 0, .bool pb, .int .i64 pi, .string ps, .slice pal pnl pcl, .slice pam pnm pcm] 25)).alloc (.cells #[.int .i64 0, .bool pb, .int .i64 pi, .string ps, .slice pal pnl pcl, .slice pam pnm pcm] 25)) := (((Below.refl _ _).alloc (Nat.le_refl _) _).alloc (by rw [alloc_size]; omega) _).alloc (by rw [alloc_size, alloc_size]; omega) _
    have HE := hmk (And.intro (V.lies_keep (S' := OrNew S w (((w.alloc (.cells #[.int .i64 tk, .bool tb, .int .i64 ti, .string ts, .slice tal tnl tcl, .slice tam tnm tcm] 25)).alloc (.cells #[.int .i64 0, .bool pb, .int .i64 pi, .string ps, .slice pal pnl pcl, .slice pam pnm pcm] 25)).alloc (.cells #[.int .i64 0, .bool pb, .int .i64 pi, .string ps, .slice pal pnl pcl, .slice pam pnm pcm] 25))) (fun h => h) (fun x hx => BF.block x (hS x hx)) (fun y hy => .inl hy) _ hx0) BF)
    clear BF
    go_enter Tryd.func41, Tryd.ntmps41
    go_wp2_with fail
    (try simp only [Exit.inBlock, Exit.then])
    refine bodyPost_ret (v := .agg #[.int .i64 0, .bool pb, .int .i64 pi, .string ps, .slice pal pnl pcl, .slice pam pnm pcm]) ?_ rfl ?_
    rotate_left
    ·exact ⟨[.int .i64 0, .bool pb, .int .i64 pi, .string ps, .slice pal pnl pcl, .slice pam pnm pcm], rfl, HE.out.1, HE.out.2⟩
    ·rw [results_cell1 rfl]
     go_simp
   ·have pk0 : (pk == 0) = false := beq_eq_false_iff_ne.2 hk0
    cases hcl : clnB b
    ·have HV : Hid (btwV 41 a b = none) := by show _ = _; rw [btwV, if_neg hkk, if_neg (by rw [hkb]; exact hk0), if_neg (by rw [hcl]; decide)]
     rw [HV.out]
     clear hka hkb hkk HV
     go_enter Tryd.func41, Tryd.ntmps41
     go_wp2_with fail
     clear ck0 ck1 ck2 ck3 ck4 ck5 cl0 cl1 cl2 cl3 cl4 cl5
     generalize (((w.alloc (.cells #[.int .i64 tk, .bool tb, .int .i64 ti, .string ts, .slice tal tnl tcl, .slice tam tnm tcm] 25)).alloc (.cells #[.int .i64 pk, .bool pb, .int .i64 pi, .string ps, .slice pal pnl pcl, .slice pam pnm pcm] 25)).alloc (.cells #[.int .i64 0, .bool false, .int .i64 0, .string ⟨#[]⟩, .slice none 0 0, .slice none 0 0] 25)) = w3 at *
     have CP := putin_pan b S _ w3 low (hE.below Bww3 hE.z) hcl hx3 (fun y hy => by have := hS y hy; omega)
     refine CP.mono ?_
     rintro e w4 ⟨rfl, b4⟩
     go_wp2_with fail
     exact ⟨rfl, rfl, Bww3.trans (b4.mono (by omega))⟩
    ·have HV : Hid (btwV 41 a b = some b) := by show _ = _; rw [btwV, if_neg hkk, if_neg (by rw [hkb]; exact hk0), if_pos hcl]
     rw [HV.out]
     clear hka hkb hkk HV
     go_enter Tryd.func41, Tryd.ntmps41
     go_wp2_with fail
     clear ck0 ck1 ck2 ck3 ck4 ck5 cl0 cl1 cl2 cl3 cl4 cl5
     generalize (((w.alloc (.cells #[.int .i64 tk, .bool tb, .int .i64 ti, .string ts, .slice tal tnl tcl, .slice tam tnm tcm] 25)).alloc (.cells #[.int .i64 pk, .bool pb, .int .i64 pi, .string ps, .slice pal pnl pcl, .slice pam pnm pcm] 25)).alloc (.cells #[.int .i64 0, .bool false, .int .i64 0, .string ⟨#[]⟩, .slice none 0 0, .slice none 0 0] 25)) = w3 at *
     have CP := putin_any b S _ w3 hcl hx3 (fun y hy => by have := hS y hy; omega)
     refine CP.mono ?_
     rintro e w4 ⟨csn, rfl, hln, b4⟩
     clear CP
     obtain ⟨nk, nb, ni, ns, nal, nnl, ncl, nam, nnm, ncm, rfl⟩ := V.ten hln
     have hzw4 := b4.size
     have htw4 := (b4.block (w.heap.size) (by omega)).trans htw3
     have hpw4 := (b4.block (w.heap.size + 1) (by omega)).trans hpw3
     have hzw4 := (b4.block (w.heap.size + 2) (by omega)).trans hzw3
     have Bww4 := Bww3.trans (b4.mono (by omega))
     obtain ⟨cz0, cz1, cz2, cz3, cz4, cz5⟩ := sixC hzw4
     have fz := frozen_of_block hzw4
     have HE := hmk (wo_fin (M := w.heap.size + 2) (S := S) (by omega) hS Bww4 (V.lies_keep (fun h => h) (fun _ _ => rfl) (fun y hy => hy.elim .inl (fun h => .inr ⟨by have := h.1; omega, by have := h.1; omega, h.2⟩)) _ hln))
     go_wp2_with fail
     (try simp only [Exit.inBlock, Exit.then])
     refine bodyPost_ret (v := .agg #[.int .i64 nk, .bool nb, .int .i64 ni, .string ns, .slice nal nnl ncl, .slice nam nnm ncm]) ?_ rfl ?_
     rotate_left
     ·exact ⟨[.int .i64 nk, .bool nb, .int .i64 ni, .string ns, .slice nal nnl ncl, .slice nam nnm ncm], rfl, HE.out.1, HE.out.2⟩
     ·rw [results_cell1 rfl]
      go_simp
  ·have tk5 : (tk == 5) = false := beq_eq_false_iff_ne.2 h5
   clear h5
   by_cases hk0 : pk = 0
   ·subst hk0
    have HV : Hid (btwV 41 a b = some b) := by show _ = _; rw [btwV, if_neg hkk, if_pos hkb]
    rw [HV.out]
    clear hka hkb hkk HV
    have BF : Below w.heap.size w (((w.alloc (.cells #[.int .i64 tk, .bool tb, .int .i64 ti, .string ts, .slice tal tnl tcl, .slice tam tnm tcm] 25)).alloc (.cells #[.int .i64 0, .bool pb, .int .i64 pi, .string ps, .slice pal pnl pcl, .slice pam pnm pcm] 25)).alloc (.cells #[.int .i64 0, .bool pb, .int .i64 pi, .string ps, .slice pal pnl pcl, .slice pam pnm pcm] 25)) := (((Below.refl _ _).alloc (Nat.le_refl _) _).alloc (by rw [alloc_size]; omega) _).alloc (by rw [alloc_size, alloc_size]; omega) _
    have HE := hmk (And.intro (V.lies_keep (S' := OrNew S w (((w.alloc (.cells #[.int .i64 tk, .bool tb, .int .i64 ti, .string ts, .slice tal tnl tcl, .slice tam tnm tcm] 25)).alloc (.cells #[.int .i64 0, .bool pb, .int .i64 pi, .string ps, .slice pal pnl pcl, .slice pam pnm pcm] 25)).alloc (.cells #[.int .i64 0, .bool pb, .int .i64 pi, .string ps, .slice pal pnl pcl, .slice pam pnm pcm] 25))) (fun h => h) (fun x hx => BF.block x (hS x hx)) (fun y hy => .inl hy) _ hx0) BF)
    clear BF
    go_enter Tryd.func41, Tryd.ntmps41
    go_wp2_with fail
    (try simp only [Exit.inBlock, Exit.then])
    refine bodyPost_ret (v := .agg #[.int .i64 0, .bool pb, .int .i64 pi, .string ps, .slice pal pnl pcl, .slice pam pnm pcm]) ?_ rfl ?_
    rotate_left
    ·exact ⟨[.int .i64 0, .bool pb, .int .i64 pi, .string ps, .slice pal pnl pcl, .slice pam pnm pcm], rfl, HE.out.1, HE.out.2⟩
    ·rw [results_cell1 rfl]
     go_simp
   ·have pk0 : (pk == 0) = false := beq_eq_false_iff_ne.2 hk0
    cases hcl : clnB b
    ·have HV : Hid (btwV 41 a b = none) := by show _ = _; rw [btwV, if_neg hkk, if_neg (by rw [hkb]; exact hk0), if_neg (by rw [hcl]; decide)]
     rw [HV.out]
     clear hka hkb hkk HV
     go_enter Tryd.func41, Tryd.ntmps41
     go_wp2_with fail
     clear ck0 ck1 ck2 ck3 ck4 ck5 cl0 cl1 cl2 cl3 cl4 cl5
     generalize (((w.alloc (.cells #[.int .i64 tk, .bool tb, .int .i64 ti, .string ts, .slice tal tnl tcl, .slice tam tnm tcm] 25)).alloc (.cells #[.int .i64 pk, .bool pb, .int .i64 pi, .string ps, .slice pal pnl pcl, .slice pam pnm pcm] 25)).alloc (.cells #[.int .i64 0, .bool false, .int .i64 0, .string ⟨#[]⟩, .slice none 0 0, .slice none 0 0] 25)) = w3 at *
     have CP := putin_pan b S _ w3 low (hE.below Bww3 hE.z) hcl hx3 (fun y hy => by have := hS y hy; omega)
     refine CP.mono ?_
     rintro e w4 ⟨rfl, b4⟩
     go_wp2_with fail
     exact ⟨rfl, rfl, Bww3.trans (b4.mono (by omega))⟩
    ·have HV : Hid (btwV 41 a b = some b) := by show _ = _; rw [btwV, if_neg hkk, if_neg (by rw [hkb]; exact hk0), if_pos hcl]
     rw [HV.out]
     clear hka hkb hkk HV
     go_enter Tryd.func41, Tryd.ntmps41
     go_wp2_with fail
     clear ck0 ck1 ck2 ck3 ck4 ck5 cl0 cl1 cl2 cl3 cl4 cl5
     generalize (((w.alloc (.cells #[.int .i64 tk, .bool tb, .int .i64 ti, .string ts, .slice tal tnl tcl, .slice tam tnm tcm] 25)).alloc (.cells #[.int .i64 pk, .bool pb, .int .i64 pi, .string ps, .slice pal pnl pcl, .slice pam pnm pcm] 25)).alloc (.cells #[.int .i64 0, .bool false, .int .i64 0, .string ⟨#[]⟩, .slice none 0 0, .slice none 0 0] 25)) = w3 at *
     have CP := putin_any b S _ w3 hcl hx3 (fun y hy => by have := hS y hy; omega)
     refine CP.mono ?_
     rintro e w4 ⟨csn, rfl, hln, b4⟩
     clear CP
     obtain ⟨nk, nb, ni, ns, nal, nnl, ncl, nam, nnm, ncm, rfl⟩ := V.ten hln
     have hzw4 := b4.size
     have htw4 := (b4.block (w.heap.size) (by omega)).trans htw3
     have hpw4 := (b4.block (w.heap.size + 1) (by omega)).trans hpw3
     have hzw4 := (b4.block (w.heap.size + 2) (by omega)).trans hzw3
     have Bww4 := Bww3.trans (b4.mono (by omega))
     obtain ⟨cz0, cz1, cz2, cz3, cz4, cz5⟩ := sixC hzw4
     have fz := frozen_of_block hzw4
     have HE := hmk (wo_fin (M := w.heap.size + 2) (S := S) (by omega) hS Bww4 (V.lies_keep (fun h => h) (fun _ _ => rfl) (fun y hy => hy.elim .inl (fun h => .inr ⟨by have := h.1; omega, by have := h.1; omega, h.2⟩)) _ hln))
     go_wp2_with fail
     (try simp only [Exit.inBlock, Exit.then])
     refine bodyPost_ret (v := .agg #[.int .i64 nk, .bool nb, .int .i64 ni, .string ns, .slice nal nnl ncl, .slice nam nnm ncm]) ?_ rfl ?_
     rotate_left
     ·exact ⟨[.int .i64 nk, .bool nb, .int .i64 ni, .string ns, .slice nal nnl ncl, .slice nam nnm ncm], rfl, HE.out.1, HE.out.2⟩
     ·rw [results_cell1 rfl]
      go_simp
end Go.Proofs.YtjfldbmopjojdaaDoor
