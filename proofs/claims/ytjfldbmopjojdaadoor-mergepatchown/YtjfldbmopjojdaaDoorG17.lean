/- joined: RapX MrgS RcnX AplX DifA PutP RowX -/
import Derived.Test.YtjfldbmopjojdaaDoorPchC
import Derived.Defers
import Derived.Recover
import Derived.LaidEql
import Derived.LaidLaws
import Derived.LaidSub
set_option linter.unusedSimpArgs false
set_option linter.unusedVariables false
namespace Go.Proofs.YtjfldbmopjojdaaDoor
open Go.RowKit Go.Lib
def NwPost (p : V × Int) (w : World) (e : Ending) (w' : World) : Prop := ∃ cs : List Value, e = .returned (.tuple #[.agg cs.toArray, .int .i64 p.2]) ∧ p.1.lies false w' (New w w') cs ∧ Below w.heap.size w w'
def aplF (t p : V) : V × Int := if chkE t 32 = 0 then (if chkE p 32 = 0 then (if chkE (pchV t p) 32 = 0 then (pchV t p, 0) else (nullV, (chkE (pchV t p) 32 : Int))) else (nullV, (chkE p 32 : Int))) else (nullV, (chkE t 32 : Int))
theorem pch_wt2 {t p : V} (ht : Ok t) (hp : Ok p) : (pchV t p).wt ≤ 2228224 := by
 have h1 := pch_wt t p
 have h2 := mems_wt t
 have h3 := ht.wt
 have h4 := hp.wt
 omega
end Go.Proofs.YtjfldbmopjojdaaDoor
namespace Go.Proofs.YtjfldbmopjojdaaDoor
open Go.RowKit Go.Lib
def smM (g : ByteArray → V → Nat) : List Mem → Nat
 | [] => 0
 | (k, x) :: t => g k x + smM g t
theorem sm_filt (g : ByteArray → V → Nat) (p : Mem → Bool) : ∀ m : List Mem, smM g (m.filter p) ≤ smM g m
 | [] => by simp [smM]
 | (k, x) :: t => by
  have h := sm_filt g p t
  cases hf : p (k, x) with
  | true => rw [List.filter_cons_of_pos (by rw [hf])]; simp only [smM]; omega
  | false => rw [List.filter_cons_of_neg (by rw [hf]; simp)]; simp only [smM]; omega
theorem sm_app (g : ByteArray → V → Nat) : ∀ a b : List Mem, smM g (a ++ b) = smM g a + smM g b
 | [], b => by simp [smM]
 | (k, x) :: t, b => by
  have h := sm_app g t b
  rw [List.cons_append]; simp only [smM]; omega
theorem sm_get {g : ByteArray → V → Nat} (hg : ∀ k x, smM g (memsOf x) ≤ g k x) (k : ByteArray) : ∀ o : List Mem, smM g (o.filter (fun y : Mem => ltB y.1 k)) + smM g (o.filter (fun y : Mem => ltB k y.1)) + smM g (memsOf (getR o k)) ≤ smM g o
 | [] => by simp [smM, getR, nullV, memsOf]
 | (ka, xa) :: t => by
  have ih := sm_get hg k t
  rw [getR]
  have hm := hg ka xa
  by_cases he : ka.toList = k.toList
  ·rw [if_pos he]
   have h1 : ¬ ltB ka k = true := fun h => lt_ne h he
   have h2 : ¬ ltB k ka = true := fun h => lt_ne h he.symm
   rw [List.filter_cons_of_neg (by exact h1), List.filter_cons_of_neg (by exact h2)]
   simp only [smM]
   omega
  ·rw [if_neg he]
   by_cases h1 : ltB ka k = true
   ·rw [List.filter_cons_of_pos (by exact h1), List.filter_cons_of_neg (by rw [lt_asym h1]; simp)]
    simp only [smM]
    omega
   ·rw [List.filter_cons_of_neg (by exact h1)]
    by_cases h2 : ltB k ka = true
    ·rw [List.filter_cons_of_pos (by exact h2)]
     simp only [smM]
     omega
    ·rw [List.filter_cons_of_neg (by exact h2)]
     simp only [smM]
     omega
structure Mu (μ : V → Nat) (a : ByteArray → Nat) (c : Nat) : Prop where
 m : ∀ M, μ (.mk 5 false 0 ⟨#[]⟩ [] M) = c + smM (fun k x => a k + μ x) M
 u : ∀ k b i s l m, c + smM (fun k x => a k + μ x) m ≤ μ (.mk k b i s l m)
mutual
theorem pch_mu {μ : V → Nat} {a : ByteArray → Nat} {c : Nat} (h : Mu μ a c) : ∀ (t p : V), μ (pchV t p) ≤ smM (fun k x => a k + μ x) (memsOf t) + μ p
 | t, .mk k b i s l m => by
  rw [pchV]
  split
  ·have h1 := pchM_mu h (if kindOf t = 5 then memsOf t else []) m
   have h2 : smM (fun k x => a k + μ x) (if kindOf t = 5 then memsOf t else []) ≤ smM (fun k x => a k + μ x) (memsOf t) := by split <;> simp [smM]
   have h3 := h.u k b i s l m
   rw [h.m]
   omega
  ·omega
theorem pchM_mu {μ : V → Nat} {a : ByteArray → Nat} {c : Nat} (h : Mu μ a c) : ∀ (o q : List Mem), smM (fun k x => a k + μ x) (pchM o q) ≤ smM (fun k x => a k + μ x) o + smM (fun k x => a k + μ x) q
 | o, [] => by rw [pchM]; omega
 | o, (k, x) :: q => by
  rw [pchM]
  have h0 := pchM_mu h (if kindOf x = 0 then wotR o k else witR o k (pchV (getR o k) x)) q
  have h1 := pch_mu h (getR o k) x
  have hg : ∀ (k : ByteArray) (x : V), smM (fun k x => a k + μ x) (memsOf x) ≤ a k + μ x := fun k x => by
   obtain ⟨k', b, i, s, l, m⟩ := x
   have := h.u k' b i s l m
   show smM _ m ≤ _
   omega
  have h2 : smM (fun k x => a k + μ x) (if kindOf x = 0 then wotR o k else witR o k (pchV (getR o k) x)) ≤ smM (fun k x => a k + μ x) o + (a k + μ x) := by
   split
   ·have := sm_filt (fun k x => a k + μ x) (fun y => !(y.1.toList == k.toList)) o
    rw [wotR]; omega
   ·have := sm_get hg k o
    rw [witR, sm_app, smM]
    show smM _ (o.filter (fun y : Mem => ltB y.1 k)) + (a k + μ (pchV (getR o k) x) + smM _ (o.filter (fun y : Mem => ltB k y.1))) ≤ _
    omega
  show _ ≤ _ + (a k + μ x + smM _ q)
  omega
end
theorem sm_nd : ∀ m : List Mem, smM (fun _ x => 0 + ndV x) m = ndM m
 | [] => by rw [smM, ndM]
 | (k, x) :: t => by rw [smM, ndM, sm_nd t]; omega
theorem sm_by : ∀ m : List Mem, smM (fun k x => k.size + byV x) m = keyB m + byM m
 | [] => by rw [smM, keyB, byM]
 | (k, x) :: t => by
  rw [smM, keyB, byM, sm_by t]
  show k.size + _ + _ = k.size + _ + _
  omega
theorem mu_nd : Mu ndV (fun _ => 0) 1 := ⟨fun M => by rw [ndV, ndL, sm_nd], fun k b i s l m => by rw [ndV, sm_nd]; omega⟩
theorem mu_by : Mu byV (fun k => k.size) 0 := ⟨fun M => by rw [byV, byL, sm_by]; show 0 + _ + _ + _ = _; omega, fun k b i s l m => by rw [byV, sm_by]; omega⟩
theorem dpM_filt (p : Mem → Bool) : ∀ m : List Mem, dpM (m.filter p) ≤ dpM m
 | [] => by simp [dpM]
 | (k, x) :: t => by
  have h := dpM_filt p t
  cases hf : p (k, x) with
  | true => rw [List.filter_cons_of_pos (by rw [hf])]; simp only [dpM]; omega
  | false => rw [List.filter_cons_of_neg (by rw [hf]; simp)]; simp only [dpM]; omega
theorem dpM_app : ∀ a b : List Mem, dpM (a ++ b) = max (dpM a) (dpM b)
 | [], b => by simp [dpM]
 | (k, x) :: t, b => by
  have h := dpM_app t b
  rw [List.cons_append]; simp only [dpM]; omega
theorem dpM_mems (x : V) : dpM (memsOf x) ≤ dpV x := by
 obtain ⟨k, b, i, s, l, m⟩ := x
 rw [dpV]
 show dpM m ≤ _
 omega
theorem dp_get (k : ByteArray) : ∀ o : List Mem, dpM (memsOf (getR o k)) + 1 ≤ max (dpM o) 1
 | [] => by simp [getR, nullV, memsOf, dpM]
 | (ka, xa) :: t => by
  have ih := dp_get k t
  have h := dpM_mems xa
  rw [getR, dpM]
  split
  ·simp only; omega
  ·omega
mutual
theorem pch_dp : ∀ (t p : V), dpV (pchV t p) ≤ max (dpM (memsOf t)) (dpV p)
 | t, .mk k b i s l m => by
  rw [pchV]
  split
  ·have h1 := pchM_dp (if kindOf t = 5 then memsOf t else []) m
   have h2 : dpM (if kindOf t = 5 then memsOf t else []) ≤ dpM (memsOf t) := by split <;> simp [dpM]
   rw [dpV, dpL, dpV]
   omega
  ·omega
theorem pchM_dp : ∀ (o q : List Mem), dpM (pchM o q) ≤ max (dpM o) (dpM q)
 | o, [] => by rw [pchM]; omega
 | o, (k, x) :: q => by
  rw [pchM]
  have h0 := pchM_dp (if kindOf x = 0 then wotR o k else witR o k (pchV (getR o k) x)) q
  have h1 := pch_dp (getR o k) x
  have h2 : dpM (if kindOf x = 0 then wotR o k else witR o k (pchV (getR o k) x)) ≤ max (dpM o) (dpV x + 1) := by
   split
   ·have := dpM_filt (fun y => !(y.1.toList == k.toList)) o
    rw [wotR]; omega
   ·have h3 := dpM_filt (fun y : Mem => ltB y.1 k) o
    have h4 := dpM_filt (fun y : Mem => ltB k y.1) o
    have h5 := dp_get k o
    rw [witR, dpM_app, dpM]
    show max (dpM (o.filter (fun y : Mem => ltB y.1 k))) (max (dpV (pchV (getR o k) x) + 1) (dpM (o.filter (fun y : Mem => ltB k y.1)))) ≤ _
    omega
  rw [dpM]
  omega
end
theorem chk_clean {v : V} (h : chkE v 32 = 0) : chkE (pchV nullV v) 32 = 0 := by
 have h0 := (chk_iff v 32 (by omega)).1 h
 refine (chk_iff _ 32 (by omega)).2 ⟨pch_good _ _ null_good h0.1, ?_, ?_, ?_⟩
 ·have := pch_dp nullV v
  have e : dpM (memsOf nullV) = 0 := rfl
  have := h0.2.1
  omega
 ·have := pch_mu mu_nd nullV v
  have e : smM (fun _ x => 0 + ndV x) (memsOf nullV) = 0 := rfl
  have := h0.2.2.1
  omega
 ·have := pch_mu mu_by nullV v
  have e : smM (fun k x => k.size + byV x) (memsOf nullV) = 0 := rfl
  have := h0.2.2.2
  omega
end Go.Proofs.YtjfldbmopjojdaaDoor
namespace Go.Proofs.YtjfldbmopjojdaaDoor
open Go.RowKit Go.Lib
def clnF (v : V) : V × Int := if chkE v 32 = 0 then (pchV nullV v, 0) else (nullV, (chkE v 32 : Int))
def finF (v : V) : V × Int := if chkE v 32 = 0 then (v, 0) else (nullV, (chkE v 32 : Int))
def bothE (t p : V) : Nat := if chkE t 32 = 0 then chkE p 32 else chkE t 32
set_option maxHeartbeats 8000000 in
set_option maxRecDepth 100000 in
theorem both_any (t p : V) (S : Nat → Prop) (cs ds : List Value) (w : World) (hT : Tb w) (hv : t.lies false w S cs) (hx : p.lies false w S ds) (hS : ∀ b, S b → b < w.heap.size) (hwt : t.wt ≤ 2147483648) (hwp : p.wt ≤ 2147483648) :
 Calls Tryd.prog 32 #[.agg cs.toArray, .agg ds.toArray] w (NPost (bothE t p) w) := by
 obtain ⟨tk, tb, ti, ts, tal, tnl, tcl, tam, tnm, tcm, rfl⟩ := V.ten hv
 obtain ⟨pk, pb, pi, ps, pal, pnl, pcl, pam, pnm, pcm, rfl⟩ := V.ten hx
 have HL : Hid (∀ W, Below w.heap.size w W → t.lies false W S [.int .i64 tk, .bool tb, .int .i64 ti, .string ts, .slice tal tnl tcl, .slice tam tnm tcm] ∧ p.lies false W S [.int .i64 pk, .bool pb, .int .i64 pi, .string ps, .slice pal pnl pcl, .slice pam pnm pcm] ∧ (∀ b, S b → b < W.heap.size)) := fun W hB => ⟨V.lies_keep (fun h => h) (fun x hx => hB.block x (hS x hx)) (fun x hx => hx) _ hv, V.lies_keep (fun h => h) (fun x hx => hB.block x (hS x hx)) (fun x hx => hx) _ hx, fun x hx => Nat.lt_of_lt_of_le (hS x hx) hB.size⟩
 have HT : Hid (∀ W, Below w.heap.size w W → Tb W) := fun W hb => hT.below hb hT.z
 have Bww2 : Below w.heap.size w ((w.alloc (.cells #[.int .i64 tk, .bool tb, .int .i64 ti, .string ts, .slice tal tnl tcl, .slice tam tnm tcm] 25)).alloc (.cells #[.int .i64 pk, .bool pb, .int .i64 pi, .string ps, .slice pal pnl pcl, .slice pam pnm pcm] 25)) := two_below w _ _
 have hz2 : ((w.alloc (.cells #[.int .i64 tk, .bool tb, .int .i64 ti, .string ts, .slice tal tnl tcl, .slice tam tnm tcm] 25)).alloc (.cells #[.int .i64 pk, .bool pb, .int .i64 pi, .string ps, .slice pal pnl pcl, .slice pam pnm pcm] 25)).heap.size = w.heap.size + 2 := by rw [alloc_size, alloc_size]
 have htw2 := alloc2_keep1 w (.cells #[.int .i64 tk, .bool tb, .int .i64 ti, .string ts, .slice tal tnl tcl, .slice tam tnm tcm] 25) (.cells #[.int .i64 pk, .bool pb, .int .i64 pi, .string ps, .slice pal pnl pcl, .slice pam pnm pcm] 25)
 have hpw2 := alloc2_new w (.cells #[.int .i64 tk, .bool tb, .int .i64 ti, .string ts, .slice tal tnl tcl, .slice tam tnm tcm] 25) (.cells #[.int .i64 pk, .bool pb, .int .i64 pi, .string ps, .slice pal pnl pcl, .slice pam pnm pcm] 25)
 have C1 : Hid (∀ W, Below w.heap.size w W → Calls Tryd.prog 38 #[.agg #[.int .i64 tk, .bool tb, .int .i64 ti, .string ts, .slice tal tnl tcl, .slice tam tnm tcm], .int .i64 32] W (NPost (chkE t 32) W)) := fun W hb => check_any false t 32 S _ W (HT.out W hb) (HL.out W hb).1 (HL.out W hb).2.2 (by omega)
 have C2 : Hid (∀ W, Below w.heap.size w W → Calls Tryd.prog 38 #[.agg #[.int .i64 pk, .bool pb, .int .i64 pi, .string ps, .slice pal pnl pcl, .slice pam pnm pcm], .int .i64 32] W (NPost (chkE p 32) W)) := fun W hb => check_any false p 32 S _ W (HT.out W hb) (HL.out W hb).2.1 (HL.out W hb).2.2 (by omega)
 clear hv hx
 by_cases h1 : chkE t 32 = 0
 rotate_left
 ·have HF : Hid (bothE t p = chkE t 32) := by show _ = _; rw [bothE, if_neg h1]
  generalize chkE t 32 = c1 at *
  have y1 : ¬ (c1 : Int) = 0 := by omega
  have yb1 : ((c1 : Int) != 0) = true := by simp; omega
  obtain ⟨ck0, ck1, ck2, ck3, ck4, ck5⟩ := sixC htw2
  go_enter Tryd.func32, Tryd.ntmps32
  go_wp2_with fail
  clear ck0 ck1 ck2 ck3 ck4 ck5
  generalize ((w.alloc (.cells #[.int .i64 tk, .bool tb, .int .i64 ti, .string ts, .slice tal tnl tcl, .slice tam tnm tcm] 25)).alloc (.cells #[.int .i64 pk, .bool pb, .int .i64 pi, .string ps, .slice pal pnl pcl, .slice pam pnm pcm] 25)) = w2 at *
  refine (C1.out w2 Bww2).mono ?_
  rintro e w3 ⟨rfl, b3⟩
  have hzw3 := b3.size
  have htw3 := (b3.block (w.heap.size) (by omega)).trans htw2
  have hpw3 := (b3.block (w.heap.size + 1) (by omega)).trans hpw2
  have Bww3 := Bww2.trans (b3.mono (by omega))
  go_wp2_with fail
  go_ret
  rw [HF.out]
  exact ⟨rfl, Bww3⟩
 have HF : Hid (bothE t p = chkE p 32) := by show _ = _; rw [bothE, if_pos h1]
 rw [h1] at C1
 clear h1
 generalize chkE p 32 = c2 at *
 obtain ⟨ck0, ck1, ck2, ck3, ck4, ck5⟩ := sixC htw2
 go_enter Tryd.func32, Tryd.ntmps32
 go_wp2_with fail
 clear ck0 ck1 ck2 ck3 ck4 ck5
 generalize ((w.alloc (.cells #[.int .i64 tk, .bool tb, .int .i64 ti, .string ts, .slice tal tnl tcl, .slice tam tnm tcm] 25)).alloc (.cells #[.int .i64 pk, .bool pb, .int .i64 pi, .string ps, .slice pal pnl pcl, .slice pam pnm pcm] 25)) = w2 at *
 refine (C1.out w2 Bww2).mono ?_
 rintro e w3 ⟨rfl, b3⟩
 have hzw3 := b3.size
 have htw3 := (b3.block (w.heap.size) (by omega)).trans htw2
 have hpw3 := (b3.block (w.heap.size + 1) (by omega)).trans hpw2
 have Bww3 := Bww2.trans (b3.mono (by omega))
 obtain ⟨ck0, ck1, ck2, ck3, ck4, ck5⟩ := sixC hpw3
 go_wp2_with fail
 clear ck0 ck1 ck2 ck3 ck4 ck5
 refine (C2.out w3 Bww3).mono ?_
 rintro e w4 ⟨rfl, b4⟩
 have hzw4 := b4.size
 have htw4 := (b4.block (w.heap.size) (by omega)).trans htw3
 have hpw4 := (b4.block (w.heap.size + 1) (by omega)).trans hpw3
 have Bww4 := Bww3.trans (b4.mono (by omega))
 go_wp2_with fail
 go_ret
 rw [HF.out]
 exact ⟨rfl, Bww4⟩
end Go.Proofs.YtjfldbmopjojdaaDoor
namespace Go.Proofs.YtjfldbmopjojdaaDoor
open Go.RowKit Go.Lib
theorem apl_both {t p : V} (h : ¬ bothE t p = 0) : aplF t p = (nullV, (bothE t p : Int)) := by
 unfold bothE at h ⊢
 unfold aplF
 by_cases h1 : chkE t 32 = 0
 ·rw [if_pos h1] at h ⊢
  rw [if_pos h1, if_neg h]
 ·rw [if_neg h1, if_neg h1]
theorem both_two {t p : V} (h : bothE t p = 0) : chkE t 32 = 0 ∧ chkE p 32 = 0 := by
 unfold bothE at h
 by_cases h1 : chkE t 32 = 0
 ·rw [if_pos h1] at h; exact ⟨h1, h⟩
 ·rw [if_neg h1] at h; exact absurd h h1
theorem apl_fin {t p : V} (h : bothE t p = 0) : aplF t p = finF (pchV t p) := by
 obtain ⟨h1, h2⟩ := both_two h
 rw [aplF, finF, if_pos h1, if_pos h2]
theorem cln_fin {v : V} (h : chkE v 32 = 0) : clnF v = finF (pchV nullV v) := by
 rw [clnF, finF, if_pos h, if_pos (chk_clean h)]
end Go.Proofs.YtjfldbmopjojdaaDoor
namespace Go.Proofs.YtjfldbmopjojdaaDoor
open Go.RowKit Go.Lib
theorem diff_idle (w : World) : CallsD Tryd.prog 40 #[] .returning w fun e u' w' => e = .returned (.tuple #[]) ∧ u' = .returning ∧ w' = w := by
 refine callsD_of_wpS Tryd.func40 rfl fun c₀ cs hu => ?_
 apply wpS_seq
 apply wpS_region
 simp [wpOpsS, go_sem, recoverD, hu, Tryd.ntmps40, Exit.thenS]
 apply wpS_seq
 apply wpS_region
 simp [wpOpsS, go_sem, recoverD, hu, Exit.thenS]
 refine wpS_cond (t := false) (by simp [Act.eval, Array.replicate]) ?_
 simp only [Bool.false_eq_true, if_false]
 refine wpS_of_wp (wp_skip ?_)
 cases c₀
 simp_all [bodyPostS, results, Tryd.results40]
def DfPost (x : V) (w : World) (e : Ending) (w' : World) : Prop := ∃ cs : List Value, e = .returned (.tuple #[.agg cs.toArray, .bool true, .int .i64 0]) ∧ x.lies false w' (New w w') cs ∧ Below w.heap.size w w'
end Go.Proofs.YtjfldbmopjojdaaDoor
namespace Go.Proofs.YtjfldbmopjojdaaDoor
open Go Go.RowKit Go.Lib Go.Shelf
def errV (low : Addr) : Value := .iface 105 (.pointer (some low))
structure ErrAt (low : Addr) (w : World) : Prop where
 c : w.cell? ⟨0, 0, none⟩ = some (errV low)
 z : 0 < w.heap.size
theorem ErrAt.below {low : Addr} {B : Nat} {w w' : World} (h : ErrAt low w) (hb : Below B w w') (hB : 0 < B) : ErrAt low w' := ⟨(hb.cell (p := ⟨0, 0, none⟩) hB).trans h.c, Nat.lt_of_lt_of_le h.z hb.size⟩
set_option maxHeartbeats 8000000 in
set_option maxRecDepth 100000 in
theorem putin_pan (v : V) (S : Nat → Prop) (cs : List Value) (w : World) (low : Addr) (hE : ErrAt low w) (hc : clnB v = false) (hv : v.lies false w S cs) (hS : ∀ x, S x → x < w.heap.size) : Calls Tryd.prog 57 #[.agg cs.toArray] w (fun e w' => e = .panicked [{ v := errV low, recovered := false }] ∧ Below w.heap.size w w') := by
 obtain ⟨ek, eb, ei, es, eal, enl, ecl, eam, enm, ecm, rfl⟩ := V.ten hv
 have B2 : Below w.heap.size w ((w.alloc (.cells #[.int .i64 ek, .bool eb, .int .i64 ei, .string es, .slice eal enl ecl, .slice eam enm ecm] 25)).alloc (.cells #[.int .i64 0, .bool false, .int .i64 0, .string ⟨#[]⟩, .slice none 0 0, .slice none 0 0] 25)) := two_below w _ _
 have hz2 : ((w.alloc (.cells #[.int .i64 ek, .bool eb, .int .i64 ei, .string es, .slice eal enl ecl, .slice eam enm ecm] 25)).alloc (.cells #[.int .i64 0, .bool false, .int .i64 0, .string ⟨#[]⟩, .slice none 0 0, .slice none 0 0] 25)).heap.size = w.heap.size + 2 := by rw [alloc_size, alloc_size]
 have h1 := alloc2_keep1 w (.cells #[.int .i64 ek, .bool eb, .int .i64 ei, .string es, .slice eal enl ecl, .slice eam enm ecm] 25) (.cells #[.int .i64 0, .bool false, .int .i64 0, .string ⟨#[]⟩, .slice none 0 0, .slice none 0 0] 25)
 have h2 := alloc2_new w (.cells #[.int .i64 ek, .bool eb, .int .i64 ei, .string es, .slice eal enl ecl, .slice eam enm ecm] 25) (.cells #[.int .i64 0, .bool false, .int .i64 0, .string ⟨#[]⟩, .slice none 0 0, .slice none 0 0] 25)
 obtain ⟨a0, a1, a2, a3, a4, a5⟩ := sixC h1
 go_enter Tryd.func57, Tryd.ntmps57
 go_wp2_with fail
 clear a0 a1 a2 a3 a4 a5
 generalize ((w.alloc (.cells #[.int .i64 ek, .bool eb, .int .i64 ei, .string es, .slice eal enl ecl, .slice eam enm ecm] 25)).alloc (.cells #[.int .i64 0, .bool false, .int .i64 0, .string ⟨#[]⟩, .slice none 0 0, .slice none 0 0] 25)) = w2 at *
 have CC := clean67_any v S _ w2 (V.lies_keep (fun h => h) (fun x hx => B2.block x (hS x hx)) (fun _ h => h) _ hv) (fun x hx => by have := hS x hx; omega)
 rw [hc] at CC
 refine CC.mono ?_
 rintro e w3 ⟨rfl, b3⟩
 clear CC
 have B3 := B2.trans (b3.mono (by omega))
 have hg := (hE.below B3 hE.z).c
 unfold errV at hg
 go_wp2_with fail
 exact ⟨rfl, rfl, B3⟩
theorem neq_self (low : Addr) (W : World) : Sem.run Tryd.prog (binOp BinOp.neq 20 (.iface 105 (.pointer (some low))) (.iface 105 (.pointer (some low)))) W = .ok (.bool false) W := by
 have hi : Tryd.prog.underlying 20 = some (.interface #[]) := by first | exact Tryd.underlying20 | kernel_rfl
 have hp : Tryd.prog.underlying 105 = some (.pointer 123) := by first | exact Tryd.underlying105 | kernel_rfl
 obtain ⟨i, hinfo, hcomp⟩ : ∃ i, Tryd.prog.info? 105 = some i ∧ i.comparable = true := ⟨(Tryd.prog.info? 105).get!, by kernel_rfl, by kernel_rfl⟩
 obtain ⟨j, hte⟩ : ∃ j, Tryd.prog.info? 123 = some j := ⟨(Tryd.prog.info? 123).get!, by kernel_rfl⟩
 simp only [binOp]
 simp [Op.equal, Op.maxDepth, run_equalIn_iface_ptr_same W 9998 _ hi hp hinfo hcomp hte]
set_option maxRecDepth 100000 in
theorem diff_catch (low : Addr) (w : World) (hE : ErrAt low w) : CallsD Tryd.prog 40 #[] (.panicking [{ v := errV low, recovered := false }]) w fun e u' w' => e = .returned (.tuple #[]) ∧ u' = .panicking [{ v := errV low, recovered := true }] ∧ w' = w := by
 have hg := hE.c
 unfold errV at hg ⊢
 refine callsD_of_wpS Tryd.func40 rfl fun c₀ cs hu => ?_
 apply wpS_seq
 apply wpS_region
 simp [wpOpsS, go_sem, recoverD, hu, Tryd.ntmps40, Exit.thenS]
 apply wpS_seq
 apply wpS_region
 simp [wpOpsS, go_sem, recoverD, hu, Exit.thenS, hg, neq_self]
 refine wpS_cond (t := false) (by simp [Act.eval, Array.replicate]) ?_
 simp only [Bool.false_eq_true, if_false]
 refine wpS_of_wp (wp_skip ?_)
 cases c₀
 simp_all [bodyPostS, results, Tryd.results40]
end Go.Proofs.YtjfldbmopjojdaaDoor
set_option maxRecDepth 100000
namespace Go.Proofs.YtjfldbmopjojdaaDoor
open Go.Shelf Go.Lib Go.ChangeShapes Go.RowKit
theorem star_err : ("*errors.errorString" : String) = "*" ++ "errors.errorString" := by decide
theorem row105 (u : TypeId) (h : Tryd.prog.typeName? 3 u = some "*errors.errorString") : u = 105 :=
 typeName_ptr_named (nm := "errors.errorString") (by rw [← star_err]; kernel_rfl) (by kernel_rfl) (by decide) u (by rw [← star_err]; exact h)
theorem cells123 : Tryd.prog.cellsOf 123 = 1 := by kernel_rfl
theorem errAt_of {W : World} (h0 : laidMet Tryd.prog [("unicode/utf8.acceptRanges", Rows.laid_unicode_utf8_acceptRanges), ("freehold/mergepatch.errNoPatch", Rows.laid_freehold_mergepatch_errNoPatch), ("unicode/utf8.first", Rows.laid_unicode_utf8_first)] W) : ∃ low, ErrAt low W := by
 have h : laidMet Tryd.prog [("freehold/mergepatch.errNoPatch", Rows.laid_freehold_mergepatch_errNoPatch)] W := laidMet.filter (fun x => x.1 == "freehold/mergepatch.errNoPatch") h0
 obtain ⟨ps, ⟨g1, t1, cs1, f1, p1, q1, hg1, ht1, hv1, hd1, hq1, e1⟩, hnd, hrows⟩ := h
 obtain rfl : g1 = 0 := Option.some.inj (hg1.symm.trans (by kernel_rfl))
 obtain rfl : t1 = 63 := Option.some.inj (ht1.symm.trans (by kernel_rfl))
 have hq1' : q1 = [] := hq1
 subst hq1'
 subst e1
 obtain ⟨l1⟩ := cs1
 have ok1 : ∀ u v, l1 = [.iface u v] → Value.okWide Tryd.prog W .any 0 u v := fun u v e => by
  subst e
  exact (hrows 0 0 (by simp [MemPlace.row])).2 u v (by simpa using World.var?_cell hg1 hv1 0)
 obtain ⟨a1, s1, rfl, hc1, hs1, hz1, rfl⟩ := errorString_of_trod Tryd.underlying63 row105 Tryd.underlying105 Tryd.underlying123 rfl rfl Tryd.underlying9 cells123 cells9 hd1 ok1
 have hc : W.cell? ⟨0, 0, none⟩ = some (errV a1) := by unfold errV; simpa using World.var?_cell hg1 hv1 0
 exact ⟨a1, hc, block_lt hc⟩
noncomputable def lowE : Nat := (World.holding Tryd.prog default ⟨#[], #[], []⟩).heap.size
noncomputable def laidWorldE (os : Os) : World :=
 let w0 := World.holding Tryd.prog os ⟨#[.cells #[.string ⟨#[110, 111, 32, 109, 101, 114, 103, 101, 32, 112, 97, 116, 99, 104, 32, 108, 101, 97, 100, 115, 32, 116, 104, 101, 114, 101]⟩] 123], #[], []⟩
 { w0 with heap := (((w0.heap.modify 1 (putCells (Lib.firstTab.map fun z => Value.int .u8 z).toArray)).modify 2
  (putCells ((List.range 16).flatMap fun i => [Value.int .u8 (Lib.accLo i), Value.int .u8 (Lib.accHi i)]).toArray)).modify 0 (putCells #[.iface 105 (.pointer (some ⟨lowE, 0, none⟩))])) }
end Go.Proofs.YtjfldbmopjojdaaDoor
