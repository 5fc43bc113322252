/- joined: CleA RndA TogA -/
import Derived.Test.YtjfldbmopjojdaaDoorG11
import Derived.RangeFuncNested
import Derived.RangeFuncBound
import Derived.RangeFuncCalls
import Derived.RangeFuncLeaves
import Derived.Shelf.RegionOpen
import Derived.Shelf.Abstract
import Derived.OwnWalkIn
import Derived.TacticsInMore
import Derived.LoopNIn
import Derived.LoopIn
set_option linter.unusedSimpArgs false
set_option linter.unusedVariables false
namespace Go.Proofs.YtjfldbmopjojdaaDoor
open Go.RowKit Go.Lib
mutual
def clnB : V → Bool
 | .mk k _ _ _ _ m => !(k == 0) && clnM m
def clnM : List Mem → Bool
 | [] => true
 | (_, x) :: t => clnB x && clnM t
end
theorem clnM_drop {m : List Mem} {j : Nat} (h : j < m.length) : clnM (m.drop j) = (clnB (m[j]).2 && clnM (m.drop (j + 1))) := by
 rw [List.drop_eq_getElem_cons h]
 rcases m[j] with ⟨k, x⟩
 rw [clnM]
set_option maxHeartbeats 8000000 in
set_option maxRecDepth 100000 in
theorem clean67_any (v : V) : ∀ (S : Nat → Prop) (cs : List Value) (w : World), v.lies false w S cs → (∀ x, S x → x < w.heap.size) → Calls Tryd.prog 67 #[.agg cs.toArray] w (BPost (clnB v) w) := by
 induction v using V.ind_v with
 | h k b i s l m ihl ihm =>
 intro S cs w hl hS
 rw [V.lies] at hl
 obtain ⟨al, cl, bl, ol, am, cm, bm, om, rfl, hk, hi, hs, hal, ham, hl1, hm1, _⟩ := hl
 have HM : Hid (liesM false w S m bm om) := hm1
 clear hl1 hm1
 have hml : m.length ≤ 9223372036854775807 := Nat.le_trans ham.le ham.max
 have B0 : Below w.heap.size w (w.alloc (.cells #[.int .i64 k, .bool b, .int .i64 i, .string s, .slice al l.length cl, .slice am m.length cm] 25)) := (Below.refl _ _).alloc (Nat.le_refl _) _
 have hb := heap_alloc_new w (.cells #[.int .i64 k, .bool b, .int .i64 i, .string s, .slice al l.length cl, .slice am m.length cm] 25)
 have hz0 := alloc_size w (.cells #[.int .i64 k, .bool b, .int .i64 i, .string s, .slice al l.length cl, .slice am m.length cm] 25)
 have c0 : (w.alloc (.cells #[.int .i64 k, .bool b, .int .i64 i, .string s, .slice al l.length cl, .slice am m.length cm] 25)).cell? ⟨w.heap.size, 0, none⟩ = some (.int .i64 k) := by rw [cell_of_block hb]; rfl
 have c5 : (w.alloc (.cells #[.int .i64 k, .bool b, .int .i64 i, .string s, .slice al l.length cl, .slice am m.length cm] 25)).cell? ⟨w.heap.size, 5, none⟩ = some (.slice am m.length cm) := by rw [cell_of_block hb]; rfl
 have HE : Hid (clnB (.mk k b i s l m) = (!(k == 0) && clnM m)) := by show _ = _; rw [clnB]
 generalize clnB (.mk k b i s l m) = RR at *
 by_cases hk0 : k = 0
 ·subst hk0
  have HF : Hid (RR = false) := by show _ = _; rw [HE.out]; rfl
  go_enter Tryd.func67, Tryd.ntmps67
  go_wp2_with fail
  go_ret
  exact ⟨by rw [HF.out]; rfl, B0⟩
 ·have yk : (k == 0) = false := beq_eq_false_iff_ne.2 hk0
  have HF : Hid (RR = clnM m) := by show _ = _; rw [HE.out, yk]; rfl
  clear HE
  go_enter Tryd.func67, Tryd.ntmps67
  go_wp2_with fail
  generalize (w.alloc (.cells #[.int .i64 k, .bool b, .int .i64 i, .string s, .slice al l.length cl, .slice am m.length cm] 25)) = w0 at *
  clear c0 c5
  go_loopw [11] (fun e wr => ∃ j : Nat, j ≤ m.length ∧ e = .int .i64 (j : Int) ∧ Below w0.heap.size w0 wr ∧ Hid (RR = clnM (m.drop j))) (fun e _ => m.length - (RowKit.intOf e).toNat)
  case atStart => exact ⟨0, by omega, rfl, Below.refl _ _, HF⟩
  case round =>
   obtain ⟨j, hj, rfl, bj, HJ⟩ := hrel
   have hzr := bj.size
   by_cases hjl : j < m.length
   ·have y1 : (j : Int) < m.length := by omega
    obtain ⟨hSb, hks, csj, hrow, hlj⟩ := liesM_get HM.out j hjl
    obtain rfl : am = some ⟨bm, om, none⟩ := ham.at_.resolve_left (by omega)
    have hk1 : ∀ x, S x → wr.heap[x]? = w.heap[x]? := fun x hx => (bj.block x (by have := hS x hx; omega)).trans (B0.block x (hS x hx))
    obtain ⟨ek, eb, ei, es, eal, enl, ecl, eam, enm, ecm, rfl⟩ := V.ten hlj
    obtain ⟨q, q0, q1, q2, q3, q4, q5⟩ := row7 (hrow.keep (hk1 _ hSb))
    have HD := hmk (HJ.out.trans (clnM_drop hjl))
    have IH := ihm m[j] (List.getElem_mem hjl) S
    generalize (m[j]).1 = key at *
    have na := heap_alloc_new wr (.cells #[.string key, .int .i64 ek, .bool eb, .int .i64 ei, .string es, .slice eal enl ecl, .slice eam enm ecm] 57)
    have ba : Below wr.heap.size wr (wr.alloc (.cells #[.string key, .int .i64 ek, .bool eb, .int .i64 ei, .string es, .slice eal enl ecl, .slice eam enm ecm] 57)) := (Below.refl _ _).alloc (Nat.le_refl _) _
    have a0 : (wr.alloc (.cells #[.string key, .int .i64 ek, .bool eb, .int .i64 ei, .string es, .slice eal enl ecl, .slice eam enm ecm] 57)).cell? ⟨wr.heap.size, 1, none⟩ = some (.int .i64 ek) := by rw [cell_of_block na]; rfl
    have a1 : (wr.alloc (.cells #[.string key, .int .i64 ek, .bool eb, .int .i64 ei, .string es, .slice eal enl ecl, .slice eam enm ecm] 57)).cell? ⟨wr.heap.size, 2, none⟩ = some (.bool eb) := by rw [cell_of_block na]; rfl
    have a2 : (wr.alloc (.cells #[.string key, .int .i64 ek, .bool eb, .int .i64 ei, .string es, .slice eal enl ecl, .slice eam enm ecm] 57)).cell? ⟨wr.heap.size, 3, none⟩ = some (.int .i64 ei) := by rw [cell_of_block na]; rfl
    have a3 : (wr.alloc (.cells #[.string key, .int .i64 ek, .bool eb, .int .i64 ei, .string es, .slice eal enl ecl, .slice eam enm ecm] 57)).cell? ⟨wr.heap.size, 4, none⟩ = some (.string es) := by rw [cell_of_block na]; rfl
    have a4 : (wr.alloc (.cells #[.string key, .int .i64 ek, .bool eb, .int .i64 ei, .string es, .slice eal enl ecl, .slice eam enm ecm] 57)).cell? ⟨wr.heap.size, 5, none⟩ = some (.slice eal enl ecl) := by rw [cell_of_block na]; rfl
    have a5 : (wr.alloc (.cells #[.string key, .int .i64 ek, .bool eb, .int .i64 ei, .string es, .slice eal enl ecl, .slice eam enm ecm] 57)).cell? ⟨wr.heap.size, 6, none⟩ = some (.slice eam enm ecm) := by rw [cell_of_block na]; rfl
    have IC := IH _ (wr.alloc (.cells #[.string key, .int .i64 ek, .bool eb, .int .i64 ei, .string es, .slice eal enl ecl, .slice eam enm ecm] 57)) (V.lies_keep (fun h => h) (fun x hx => (ba.block x (by have := hS x hx; omega)).trans (hk1 x hx)) (fun _ h => h) _ hlj) (fun x hx => by have := hS x hx; rw [alloc_size]; omega)
    generalize clnB (m[j]).2 = Z at *
    clear hlj hrow HJ IH hk1
    go_wp2_with fail
    refine IC.mono ?_
    rintro e w3 ⟨rfl, b3⟩
    clear IC
    have b4 : Below w0.heap.size w0 w3 := bj.trans ((ba.trans (b3.mono ba.size)).mono hzr)
    cases Z
    ·have HF : Hid (RR = false) := by show _ = _; rw [HD.out]; rfl
     go_wp2_with fail
     go_ret
     exact ⟨by rw [HF.out]; rfl, B0.trans (b4.mono (by omega))⟩
    ·have HF : Hid (RR = clnM (m.drop (j + 1))) := by show _ = _; rw [HD.out]; rfl
     go_wp2_with fail
     go_roundw
     case rel => exact ⟨j + 1, by omega, by go_num, b4, HF⟩
     case measure => simp [RowKit.intOf]; omega
   ·obtain rfl : j = m.length := by omega
    have y1 : ¬ (m.length : Int) < m.length := by omega
    have HF : Hid (RR = true) := by show _ = _; rw [HJ.out, List.drop_length, clnM]
    go_wp2_with fail
    go_ret
    exact ⟨by rw [HF.out]; rfl, B0.trans (bj.mono (by omega))⟩
set_option maxHeartbeats 8000000 in
set_option maxRecDepth 100000 in
theorem putin_any (v : V) (S : Nat → Prop) (cs : List Value) (w : World) (hc : clnB v = true) (hv : v.lies false w S cs) (hS : ∀ x, S x → x < w.heap.size) : Calls Tryd.prog 57 #[.agg cs.toArray] w (RpPost v S w) := by
 obtain ⟨ek, eb, ei, es, eal, enl, ecl, eam, enm, ecm, rfl⟩ := V.ten hv
 have B2 : Below w.heap.size w ((w.alloc (.cells #[.int .i64 ek, .bool eb, .int .i64 ei, .string es, .slice eal enl ecl, .slice eam enm ecm] 25)).alloc (.cells #[.int .i64 0, .bool false, .int .i64 0, .string ⟨#[]⟩, .slice none 0 0, .slice none 0 0] 25)) := two_below w _ _
 have hz2 : ((w.alloc (.cells #[.int .i64 ek, .bool eb, .int .i64 ei, .string es, .slice eal enl ecl, .slice eam enm ecm] 25)).alloc (.cells #[.int .i64 0, .bool false, .int .i64 0, .string ⟨#[]⟩, .slice none 0 0, .slice none 0 0] 25)).heap.size = w.heap.size + 2 := by rw [alloc_size, alloc_size]
 have h1 := alloc2_keep1 w (.cells #[.int .i64 ek, .bool eb, .int .i64 ei, .string es, .slice eal enl ecl, .slice eam enm ecm] 25) (.cells #[.int .i64 0, .bool false, .int .i64 0, .string ⟨#[]⟩, .slice none 0 0, .slice none 0 0] 25)
 have h2 := alloc2_new w (.cells #[.int .i64 ek, .bool eb, .int .i64 ei, .string es, .slice eal enl ecl, .slice eam enm ecm] 25) (.cells #[.int .i64 0, .bool false, .int .i64 0, .string ⟨#[]⟩, .slice none 0 0, .slice none 0 0] 25)
 obtain ⟨a0, a1, a2, a3, a4, a5⟩ := sixC h1
 go_enter Tryd.func57, Tryd.ntmps57
 go_wp2_with fail
 clear a0 a1 a2 a3 a4 a5
 generalize ((w.alloc (.cells #[.int .i64 ek, .bool eb, .int .i64 ei, .string es, .slice eal enl ecl, .slice eam enm ecm] 25)).alloc (.cells #[.int .i64 0, .bool false, .int .i64 0, .string ⟨#[]⟩, .slice none 0 0, .slice none 0 0] 25)) = w2 at *
 have CC := clean67_any v S _ w2 (V.lies_keep (fun h => h) (fun x hx => B2.block x (hS x hx)) (fun _ h => h) _ hv) (fun x hx => by have := hS x hx; omega)
 rw [hc] at CC
 refine CC.mono ?_
 rintro e w3 ⟨rfl, b3⟩
 clear CC
 have B3 := B2.trans (b3.mono (by omega))
 have hz3 := b3.size
 have g1 := (b3.block w.heap.size (by omega)).trans h1
 have g2 := (b3.block (w.heap.size + 1) (by omega)).trans h2
 obtain ⟨a0, a1, a2, a3, a4, a5⟩ := sixC g1
 obtain ⟨z0, z1, z2, z3, z4, z5⟩ := sixC g2
 have fz := frozen_of_block g2
 have HE := hmk (wo_fin (M := w.heap.size + 1) (S := S) (by omega) hS B3 (V.lies_keep (S' := fun y => S y ∨ (w.heap.size ≤ y ∧ y ≠ w.heap.size + 1 ∧ y < w3.heap.size)) (fun h => h) (fun x hx => B3.block x (hS x hx)) (fun x hx => .inl hx) _ hv))
 go_wp2_with fail
 (try simp only [Exit.inBlock, Exit.then])
 refine bodyPost_ret (v := .agg #[.int .i64 ek, .bool eb, .int .i64 ei, .string es, .slice eal enl ecl, .slice eam enm ecm]) ?_ rfl ?_
 rotate_left
 ·exact ⟨[.int .i64 ek, .bool eb, .int .i64 ei, .string es, .slice eal enl ecl, .slice eam enm ecm], rfl, HE.out.1, HE.out.2⟩
 ·rw [results_cell1 rfl]
  go_simp
end Go.Proofs.YtjfldbmopjojdaaDoor
namespace Go.Proofs.YtjfldbmopjojdaaDoor
open Go Go.RowKit
theorem upon_round {P : Program} {o : Oper} {a : Act} {K : Act → World → Prop} {Q : Exit → Act → World → Prop} {l n : Nat} : ∀ {r : Result Next}, o.upon P a K Q r → o.uponIn (Fence.wide.inRound l) n P a K Q r
 | .ok (.value v) w', h => h
 | .ok .skip w', h => h
 | .ok (.defer d) w', h => h
 | .ok (.enter f args) w', h => ⟨fun q => (by cases q), CallsIn.inRound l (callsIn_wide.2 h)⟩
 | .ok (.row row args) w', h => ⟨fun q => (by cases q), fun c cs _ => by
  obtain ⟨v, w'', r, s⟩ := h c cs
  exact ⟨v, w'', r, stepsIn_wide.2 s⟩⟩
 | .halt (.panic v) w', h => h
theorem oper_round {P : Program} {o : Oper} {a : Act} {w : World} {K : Act → World → Prop} {Q : Exit → Act → World → Prop} {l n : Nat} (hd : ∀ c, o.op ≠ .defer c) (h : o.wp P a w K Q) : o.wpIn (Fence.wide.inRound l) n P a w K Q := by
 refine ⟨fun _ _ => trivial, ?_⟩
 rw [Oper.semAt_eq _ _ _ hd]
 exact upon_round h
theorem any_round {P : Program} {md : Region.Mode} {ops : Array Oper} {Q : Exit → Act → World → Prop} {l n : Nat} (hd : ∀ (i : Nat) o, ops[i]? = some o → ∀ c, o.op ≠ .defer c) (hq : ¬ LetsOut Q) :
 ∀ (fuel : Nat) (listed : Array Bool) (a : Act) (w : World), wpAny P md ops Q fuel listed a w → wpAnyIn (Fence.wide.inRound l) n P md ops Q fuel listed a w
 | 0, listed, a, w, h => h
 | fuel + 1, listed, a, w, h => by
  refine ⟨h.1, fun i hi => ?_⟩
  have h2 := h.2 i hi
  unfold wpOp at h2
  unfold wpOpIn
  cases ho : ops[i]? with
  | none =>
   rw [ho] at h2
   exact any_round hd hq fuel _ _ _ h2
  | some o =>
   rw [ho] at h2
   simp only at h2 ⊢
   by_cases hw : Region.wanted o (yielded ops a.tmps) = true
   ·rw [if_pos hw] at h2 ⊢
    rcases h2 with h2 | h2
    ·exact Oper.wpIn_mono (fun a w h => any_round hd hq fuel _ a w h) (oper_round (hd i o ho) h2)
    ·exact absurd h2.2 hq
   ·rw [if_neg hw] at h2 ⊢
    exact ⟨fun _ _ => trivial, any_round hd hq fuel _ _ _ h2⟩
def noDefer (ops : List Oper) : Bool := ops.all fun o => match o.op with | .defer _ => false | _ => true
theorem noDefer_of {ops : List Oper} (h : noDefer ops = true) : ∀ (i : Nat) o, ops.toArray[i]? = some o → ∀ c, o.op ≠ .defer c := by
 intro i o ho c hc
 have hm : o ∈ ops := by
  rw [List.getElem?_toArray] at ho
  exact List.mem_of_getElem? ho
 have := List.all_eq_true.1 h o hm
 simp only [hc] at this
 cases this
theorem round_held_drew {P : Program} {ops : List Oper} {Q : Exit → Act → World → Prop} {S : World → Prop} {id l n : Nat} {a : Act} {w : World} (hm : P.follows .mixedOrders = true) (hd : noDefer ops = true) (hq : ¬ LetsOut Q) (hS : S w.drew)
 (h : S w.drew → wpAnyH P .any ops.toArray Q S ops.toArray.size (Array.replicate ops.toArray.size false) a w.drew) : (Code.region id ops.toArray true).wpIn (Fence.wide.inRound l) n P Q a w :=
 wpIn_region_any hm (any_round (noDefer_of hd) hq _ _ _ _ (wpAny_of_held _ _ _ _ (h hS)))
end Go.Proofs.YtjfldbmopjojdaaDoor
namespace Go.Proofs.YtjfldbmopjojdaaDoor
open Go Go.RowKit Go.Lib Go.Shelf
structure Pr where
 key : ByteArray
 va : V
 vb : V
 a : List Value
 b : List Value
 f : Bool
 g : Bool
def Pr.enc (x : Pr) : Array Value := #[.string x.key, .agg (x.a ++ x.b ++ [Value.bool x.f, Value.bool x.g]).toArray]
def nul6 : List Value := [.int .i64 0, .bool false, .int .i64 0, .string ⟨#[]⟩, .slice none 0 0, .slice none 0 0]
def pA (y : Mem × List Value) : Pr := ⟨y.1.1, y.1.2, nullV, y.2.tail, nul6, true, false⟩
def pB (z : Mem × List Value) : Pr := ⟨z.1.1, nullV, z.1.2, nul6, z.2.tail, false, true⟩
def pAB (y z : Mem × List Value) : Pr := ⟨z.1.1, y.1.2, z.1.2, y.2.tail, z.2.tail, true, true⟩
def tgR : List (Mem × List Value) → List (Mem × List Value) → List Pr
 | [], [] => []
 | y :: s, [] => pA y :: tgR s []
 | [], z :: t => pB z :: tgR [] t
 | y :: s, z :: t => if ltB y.1.1 z.1.1 = true then pA y :: tgR s (z :: t) else if ltB z.1.1 y.1.1 = true then pB z :: tgR (y :: s) t else pAB y z :: tgR s t
termination_by a b => a.length + b.length
def sty (f : V → V → V) (x : Pr) : List Mem := if x.g = false then [(x.key, x.va)] else if kindOf x.vb = 0 then [] else [(x.key, f x.va x.vb)]
def stys (f : V → V → V) (l : List Pr) : List Mem := l.flatMap (sty f)
theorem stys_tg (f : V → V → V) : ∀ (a b : List (Mem × List Value)), stys f (tgR a b) = mrgM f (a.map (fun q => q.1)) (b.map (fun q => q.1))
 | [], [] => by rw [tgR, List.map_nil, mrgM]; rfl
 | y :: s, [] => by
  have ih := stys_tg f s []
  rw [List.map_nil, mrgM] at ih
  rw [tgR, List.map_nil, mrgM, List.map_cons, ← ih, stys, List.flatMap_cons]
  rfl
 | [], z :: t => by
  have ih := stys_tg f [] t
  rw [List.map_nil] at ih
  rw [tgR, List.map_nil, List.map_cons, mrgM, ← ih, stys, List.flatMap_cons]
  by_cases h : kindOf z.1.2 = 0
  ·rw [if_pos h, show sty f (pB z) = [] from by rw [sty, pB]; simp [h]]
   rfl
  ·rw [if_neg h, show sty f (pB z) = [(z.1.1, f nullV z.1.2)] from by rw [sty, pB]; simp [h]]
   rfl
 | y :: s, z :: t => by
  have i1 := stys_tg f s (z :: t)
  have i2 := stys_tg f (y :: s) t
  have i3 := stys_tg f s t
  rw [List.map_cons] at i1
  rw [List.map_cons] at i2
  rw [tgR, List.map_cons, List.map_cons]
  obtain ⟨⟨ka, xa⟩, ca⟩ := y
  obtain ⟨⟨kb, xb⟩, cb⟩ := z
  simp only at i1 i2 i3 ⊢
  rw [mrgM]
  by_cases h1 : ltB ka kb = true
  ·rw [if_pos h1, if_pos h1, ← i1, stys, List.flatMap_cons]; rfl
  ·rw [if_neg h1, if_neg h1]
   by_cases h2 : ltB kb ka = true
   ·rw [if_pos h2, if_pos h2, ← i2, stys, List.flatMap_cons]
    by_cases h : kindOf xb = 0
    ·rw [if_pos h, show sty f (pB ((kb, xb), cb)) = [] from by rw [sty, pB]; simp [h]]
     rfl
    ·rw [if_neg h, show sty f (pB ((kb, xb), cb)) = [(kb, f nullV xb)] from by rw [sty, pB]; simp [h]]
     rfl
   ·rw [if_neg h2, if_neg h2, ← i3, stys, List.flatMap_cons]
    by_cases h : kindOf xb = 0
    ·rw [if_pos h, show sty f (pAB ((ka, xa), ca) ((kb, xb), cb)) = [] from by rw [sty, pAB]; simp [h]]
     rfl
    ·rw [if_neg h, show sty f (pAB ((ka, xa), ca) ((kb, xb), cb)) = [(kb, f xa xb)] from by rw [sty, pAB]; simp [h]]
     rfl
termination_by a b => a.length + b.length
theorem tg_len : ∀ (a b : List (Mem × List Value)), (tgR a b).length ≤ a.length + b.length
 | [], [] => by rw [tgR]; simp
 | y :: s, [] => by have := tg_len s []; rw [tgR, List.length_cons, List.length_cons]; simp only [List.length_nil] at this ⊢; omega
 | [], z :: t => by have := tg_len [] t; rw [tgR, List.length_cons, List.length_cons]; simp only [List.length_nil] at this ⊢; omega
 | y :: s, z :: t => by
  have i1 := tg_len s (z :: t)
  have i2 := tg_len (y :: s) t
  have i3 := tg_len s t
  simp only [List.length_cons] at i1 i2
  rw [tgR]
  split
  ·simp only [List.length_cons]; omega
  ·split <;> (simp only [List.length_cons]; omega)
termination_by a b => a.length + b.length
theorem tg_all {G : Pr → Prop} : ∀ (a b : List (Mem × List Value)), (∀ y ∈ a, G (pA y)) → (∀ z ∈ b, G (pB z)) → (∀ y ∈ a, ∀ z ∈ b, G (pAB y z)) → ∀ x ∈ tgR a b, G x
 | [], [], _, _, _ => by rw [tgR]; intro x hx; cases hx
 | y :: s, [], h1, h2, h3 => by
  rw [tgR]
  intro x hx
  rcases List.mem_cons.1 hx with rfl | hx
  ·exact h1 _ List.mem_cons_self
  ·exact tg_all s [] (fun y hy => h1 y (List.mem_cons_of_mem _ hy)) h2 (fun y hy => h3 y (List.mem_cons_of_mem _ hy)) x hx
 | [], z :: t, h1, h2, h3 => by
  rw [tgR]
  intro x hx
  rcases List.mem_cons.1 hx with rfl | hx
  ·exact h2 _ List.mem_cons_self
  ·exact tg_all [] t h1 (fun y hy => h2 y (List.mem_cons_of_mem _ hy)) (fun y hy => by cases hy) x hx
 | y :: s, z :: t, h1, h2, h3 => by
  have q1 : ∀ y ∈ s, G (pA y) := fun y hy => h1 y (List.mem_cons_of_mem _ hy)
  have q2 : ∀ z ∈ t, G (pB z) := fun y hy => h2 y (List.mem_cons_of_mem _ hy)
  have i1 := tg_all s (z :: t) q1 h2 (fun y hy => h3 y (List.mem_cons_of_mem _ hy))
  have i2 := tg_all (y :: s) t h1 q2 (fun y hy z hz => h3 y hy z (List.mem_cons_of_mem _ hz))
  have i3 := tg_all s t q1 q2 (fun y hy z hz => h3 y (List.mem_cons_of_mem _ hy) z (List.mem_cons_of_mem _ hz))
  rw [tgR]
  intro x hx
  split at hx
  ·rcases List.mem_cons.1 hx with rfl | hx
   ·exact h1 _ List.mem_cons_self
   ·exact i1 x hx
  ·split at hx
   ·rcases List.mem_cons.1 hx with rfl | hx
    ·exact h2 _ List.mem_cons_self
    ·exact i2 x hx
   ·rcases List.mem_cons.1 hx with rfl | hx
    ·exact h3 _ List.mem_cons_self _ List.mem_cons_self
    ·exact i3 x hx
termination_by a b => a.length + b.length
def withG {G : Pr → Prop} : ∀ (l : List Pr), (∀ x ∈ l, G x) → List {x : Pr // G x}
 | [], _ => []
 | x :: t, h => ⟨x, h x List.mem_cons_self⟩ :: withG t (fun y hy => h y (List.mem_cons_of_mem _ hy))
theorem withG_map {G : Pr → Prop} : ∀ (l : List Pr) (h : ∀ x ∈ l, G x), (withG l h).map (fun x => x.1) = l
 | [], _ => rfl
 | x :: t, h => by rw [withG, List.map_cons, withG_map]
set_option maxHeartbeats 8000000 in
set_option maxRecDepth 100000 in
theorem together_any (aa ab : Option Addr) (na nb : Nat) (ca cb : Nat) (w : World) :
 Calls Tryd.prog 49 #[.slice aa na ca, .slice ab nb cb] w fun e w' => e = .returned (.func (.func 64) #[] #[.pointer (some ⟨w.heap.size, 0, none⟩), .pointer (some ⟨w.heap.size + 1, 0, none⟩)]) ∧ w' = (w.alloc (.cells #[.slice aa na ca] 23)).alloc (.cells #[.slice ab nb cb] 23) := by
 go_enter Tryd.func49, Tryd.ntmps49
 go_wp2_with fail
 go_ret
 exact ⟨rfl, rfl⟩
end Go.Proofs.YtjfldbmopjojdaaDoor
