/- joined: MrgR RndA TogA -/
import Derived.Test.YtjfldbmopjojdaaDoorG18
import Derived.RangeFuncNested
import Derived.RangeFuncBound
import Derived.RangeFuncCalls
import Derived.RangeFuncLeaves
import Derived.Shelf.RegionOpen
import Derived.Test.YtjfldbmopjojdaaDoorAccM
import Derived.Shelf.Abstract
import Derived.OwnWalkIn
import Derived.TacticsInMore
import Derived.LoopNIn
import Derived.LoopIn
set_option linter.unusedSimpArgs false
set_option linter.unusedVariables false
namespace Go.Proofs.YtjfldbmopjojdaaDoor
open Go.RowKit Go.Lib
mutual
theorem wt_nb : ∀ v : V, v.wt = ndV v + byV v
 | .mk k b i s l m => by rw [V.wt, ndV, byV, wt_nbL l, wt_nbM m]; omega
theorem wt_nbL : ∀ l : List V, wtL l = ndL l + byL l
 | [] => by rw [wtL, ndL, byL]
 | x :: t => by rw [wtL, ndL, byL, wt_nb x, wt_nbL t]; omega
theorem wt_nbM : ∀ m : List Mem, wtM m = ndM m + byM m + keyB m
 | [] => by rw [wtM, ndM, byM, keyB]
 | (k, x) :: t => by
  rw [wtM, ndM, byM, keyB, wt_nb x, wt_nbM t]
  show k.size + _ + _ = _ + _ + (k.size + _)
  omega
end
structure Ok (v : V) : Prop where
 g : allG v
 d : dpV v ≤ 40
 n : ndV v ≤ 65536
 b : byV v ≤ 1048576
theorem ok_chk {v : V} {D : Nat} (hD : D ≤ 40) (h : chkE v (D : Int) = 0) : Ok v := by
 have := (chk_iff v D hD).1 h
 exact ⟨this.1, by omega, this.2.2.1, this.2.2.2⟩
theorem Ok.ok {v : V} (h : Ok v) : okV v = true := by
 have := (chk_iff v 40 (Nat.le_refl _)).2 ⟨h.g, h.d, h.n, h.b⟩
 rw [okV, ← chkE40]
 exact decide_eq_true this
theorem Ok.cln {v : V} (h : Ok v) : clnV v = v := by rw [clnV, if_pos h.ok]
theorem Ok.wt {v : V} (h : Ok v) : v.wt ≤ 1114112 := by have := h.n; have := h.b; rw [wt_nb]; omega
theorem memNd : ∀ {m : List Mem} {y : Mem}, y ∈ m → ndV y.2 ≤ ndM m ∧ byV y.2 ≤ byM m ∧ dpV y.2 + 1 ≤ dpM m
 | (k, x) :: t, y, h => by
  rw [ndM, byM, dpM]
  rcases List.mem_cons.1 h with rfl | h
  ·simp only; omega
  ·have := memNd h; omega
theorem Ok.mem {k : Int} {b : Bool} {i : Int} {s : ByteArray} {l : List V} {m : List Mem} (h : Ok (.mk k b i s l m)) {y : Mem} (hy : y ∈ m) : Ok y.2 := by
 have h1 := h.g
 have h2 := h.d
 have h3 := h.n
 have h4 := h.b
 rw [allG] at h1
 rw [dpV] at h2
 rw [ndV] at h3
 rw [byV] at h4
 have := memNd hy
 exact ⟨allGM_i.1 h1.2.2 y hy, by omega, by omega, by omega⟩
theorem null_ok : Ok nullV := ⟨null_good, by rw [nullV, dpV, dpL, dpM]; omega, by rw [nullV, ndV, ndL, ndM]; omega, by rw [nullV, byV, byL, byM, keyB]; show (⟨#[]⟩ : ByteArray).size + _ + _ + _ ≤ _; have : (⟨#[]⟩ : ByteArray).size = 0 := rfl; omega⟩
theorem Ok.get {k : Int} {b : Bool} {i : Int} {s : ByteArray} {l : List V} {m : List Mem} (h : Ok (.mk k b i s l m)) (key : ByteArray) : Ok (getR m key) := by
 have key' : ∀ t : List Mem, (∀ y ∈ t, Ok y.2) → Ok (getR t key) := fun t => by
  induction t with
  | nil => intro _; exact null_ok
  | cons y t ih =>
   intro ht
   rw [getR]
   split
   ·exact ht y (List.mem_cons_self ..)
   ·exact ih fun z hz => ht z (List.mem_cons_of_mem _ hz)
 exact key' m fun y hy => h.mem hy
end Go.Proofs.YtjfldbmopjojdaaDoor
namespace Go.Proofs.YtjfldbmopjojdaaDoor
open Go Go.RowKit
theorem upon_round {P : Program} {o : Oper} {a : Act} {K : Act → World → Prop} {Q : Exit → Act → World → Prop} {l n : Nat} : ∀ {r : Result Next}, o.upon P a K Q r → o.uponIn (Fence.wide.inRound l) n P a K Q r
 | .ok (.value v) w', h => h
 | .ok .skip w', h => h
 | .ok (.defer d) w', h => h
 | .ok (.enter f args) w', h => ⟨fun q => (by cases q), CallsIn.inRound l (callsIn_wide.2 h)⟩
 | .ok (.row row args) w', h => ⟨fun q => (by cases q), fun c cs _ => by
  obtain ⟨v, w'', r, s⟩ := h c cs
  exact ⟨v, w'', r, stepsIn_wide.2 s⟩⟩
 | .halt (.panic v) w', h => h
theorem oper_round {P : Program} {o : Oper} {a : Act} {w : World} {K : Act → World → Prop} {Q : Exit → Act → World → Prop} {l n : Nat} (hd : ∀ c, o.op ≠ .defer c) (h : o.wp P a w K Q) : o.wpIn (Fence.wide.inRound l) n P a w K Q := by
 refine ⟨fun _ _ => trivial, ?_⟩
 rw [Oper.semAt_eq _ _ _ hd]
 exact upon_round h
theorem any_round {P : Program} {md : Region.Mode} {ops : Array Oper} {Q : Exit → Act → World → Prop} {l n : Nat} (hd : ∀ (i : Nat) o, ops[i]? = some o → ∀ c, o.op ≠ .defer c) (hq : ¬ LetsOut Q) :
 ∀ (fuel : Nat) (listed : Array Bool) (a : Act) (w : World), wpAny P md ops Q fuel listed a w → wpAnyIn (Fence.wide.inRound l) n P md ops Q fuel listed a w
 | 0, listed, a, w, h => h
 | fuel + 1, listed, a, w, h => by
  refine ⟨h.1, fun i hi => ?_⟩
  have h2 := h.2 i hi
  unfold wpOp at h2
  unfold wpOpIn
  cases ho : ops[i]? with
  | none =>
   rw [ho] at h2
   exact any_round hd hq fuel _ _ _ h2
  | some o =>
   rw [ho] at h2
   simp only at h2 ⊢
   by_cases hw : Region.wanted o (yielded ops a.tmps) = true
   ·rw [if_pos hw] at h2 ⊢
    rcases h2 with h2 | h2
    ·exact Oper.wpIn_mono (fun a w h => any_round hd hq fuel _ a w h) (oper_round (hd i o ho) h2)
    ·exact absurd h2.2 hq
   ·rw [if_neg hw] at h2 ⊢
    exact ⟨fun _ _ => trivial, any_round hd hq fuel _ _ _ h2⟩
def noDefer (ops : List Oper) : Bool := ops.all fun o => match o.op with | .defer _ => false | _ => true
theorem noDefer_of {ops : List Oper} (h : noDefer ops = true) : ∀ (i : Nat) o, ops.toArray[i]? = some o → ∀ c, o.op ≠ .defer c := by
 intro i o ho c hc
 have hm : o ∈ ops := by
  rw [List.getElem?_toArray] at ho
  exact List.mem_of_getElem? ho
 have := List.all_eq_true.1 h o hm
 simp only [hc] at this
 cases this
theorem round_held_drew {P : Program} {ops : List Oper} {Q : Exit → Act → World → Prop} {S : World → Prop} {id l n : Nat} {a : Act} {w : World} (hm : P.follows .mixedOrders = true) (hd : noDefer ops = true) (hq : ¬ LetsOut Q) (hS : S w.drew)
 (h : S w.drew → wpAnyH P .any ops.toArray Q S ops.toArray.size (Array.replicate ops.toArray.size false) a w.drew) : (Code.region id ops.toArray true).wpIn (Fence.wide.inRound l) n P Q a w :=
 wpIn_region_any hm (any_round (noDefer_of hd) hq _ _ _ _ (wpAny_of_held _ _ _ _ (h hS)))
end Go.Proofs.YtjfldbmopjojdaaDoor
namespace Go.Proofs.YtjfldbmopjojdaaDoor
open Go Go.RowKit Go.Lib Go.Shelf
structure Pr where
 key : ByteArray
 va : V
 vb : V
 a : List Value
 b : List Value
 f : Bool
 g : Bool
def Pr.enc (x : Pr) : Array Value := #[.string x.key, .agg (x.a ++ x.b ++ [Value.bool x.f, Value.bool x.g]).toArray]
def nul6 : List Value := [.int .i64 0, .bool false, .int .i64 0, .string ⟨#[]⟩, .slice none 0 0, .slice none 0 0]
def pA (y : Mem × List Value) : Pr := ⟨y.1.1, y.1.2, nullV, y.2.tail, nul6, true, false⟩
def pB (z : Mem × List Value) : Pr := ⟨z.1.1, nullV, z.1.2, nul6, z.2.tail, false, true⟩
def pAB (y z : Mem × List Value) : Pr := ⟨z.1.1, y.1.2, z.1.2, y.2.tail, z.2.tail, true, true⟩
def tgR : List (Mem × List Value) → List (Mem × List Value) → List Pr
 | [], [] => []
 | y :: s, [] => pA y :: tgR s []
 | [], z :: t => pB z :: tgR [] t
 | y :: s, z :: t => if ltB y.1.1 z.1.1 = true then pA y :: tgR s (z :: t) else if ltB z.1.1 y.1.1 = true then pB z :: tgR (y :: s) t else pAB y z :: tgR s t
termination_by a b => a.length + b.length
def sty (f : V → V → V) (x : Pr) : List Mem := if x.g = false then [(x.key, x.va)] else if kindOf x.vb = 0 then [] else [(x.key, f x.va x.vb)]
def stys (f : V → V → V) (l : List Pr) : List Mem := l.flatMap (sty f)
theorem stys_tg (f : V → V → V) : ∀ (a b : List (Mem × List Value)), stys f (tgR a b) = mrgM f (a.map (fun q => q.1)) (b.map (fun q => q.1))
 | [], [] => by rw [tgR, List.map_nil, mrgM]; rfl
 | y :: s, [] => by
  have ih := stys_tg f s []
  rw [List.map_nil, mrgM] at ih
  rw [tgR, List.map_nil, mrgM, List.map_cons, ← ih, stys, List.flatMap_cons]
  rfl
 | [], z :: t => by
  have ih := stys_tg f [] t
  rw [List.map_nil] at ih
  rw [tgR, List.map_nil, List.map_cons, mrgM, ← ih, stys, List.flatMap_cons]
  by_cases h : kindOf z.1.2 = 0
  ·rw [if_pos h, show sty f (pB z) = [] from by rw [sty, pB]; simp [h]]
   rfl
  ·rw [if_neg h, show sty f (pB z) = [(z.1.1, f nullV z.1.2)] from by rw [sty, pB]; simp [h]]
   rfl
 | y :: s, z :: t => by
  have i1 := stys_tg f s (z :: t)
  have i2 := stys_tg f (y :: s) t
  have i3 := stys_tg f s t
  rw [List.map_cons] at i1
  rw [List.map_cons] at i2
  rw [tgR, List.map_cons, List.map_cons]
  obtain ⟨⟨ka, xa⟩, ca⟩ := y
  obtain ⟨⟨kb, xb⟩, cb⟩ := z
  simp only at i1 i2 i3 ⊢
  rw [mrgM]
  by_cases h1 : ltB ka kb = true
  ·rw [if_pos h1, if_pos h1, ← i1, stys, List.flatMap_cons]; rfl
  ·rw [if_neg h1, if_neg h1]
   by_cases h2 : ltB kb ka = true
   ·rw [if_pos h2, if_pos h2, ← i2, stys, List.flatMap_cons]
    by_cases h : kindOf xb = 0
    ·rw [if_pos h, show sty f (pB ((kb, xb), cb)) = [] from by rw [sty, pB]; simp [h]]
     rfl
    ·rw [if_neg h, show sty f (pB ((kb, xb), cb)) = [(kb, f nullV xb)] from by rw [sty, pB]; simp [h]]
     rfl
   ·rw [if_neg h2, if_neg h2, ← i3, stys, List.flatMap_cons]
    by_cases h : kindOf xb = 0
    ·rw [if_pos h, show sty f (pAB ((ka, xa), ca) ((kb, xb), cb)) = [] from by rw [sty, pAB]; simp [h]]
     rfl
    ·rw [if_neg h, show sty f (pAB ((ka, xa), ca) ((kb, xb), cb)) = [(kb, f xa xb)] from by rw [sty, pAB]; simp [h]]
     rfl
termination_by a b => a.length + b.length
theorem tg_len : ∀ (a b : List (Mem × List Value)), (tgR a b).length ≤ a.length + b.length
 | [], [] => by rw [tgR]; simp
 | y :: s, [] => by have := tg_len s []; rw [tgR, List.length_cons, List.length_cons]; simp only [List.length_nil] at this ⊢; omega
 | [], z :: t => by have := tg_len [] t; rw [tgR, List.length_cons, List.length_cons]; simp only [List.length_nil] at this ⊢; omega
 | y :: s, z :: t => by
  have i1 := tg_len s (z :: t)
  have i2 := tg_len (y :: s) t
  have i3 := tg_len s t
  simp only [List.length_cons] at i1 i2
  rw [tgR]
  split
  ·simp only [List.length_cons]; omega
  ·split <;> (simp only [List.length_cons]; omega)
termination_by a b => a.length + b.length
theorem tg_all {G : Pr → Prop} : ∀ (a b : List (Mem × List Value)), (∀ y ∈ a, G (pA y)) → (∀ z ∈ b, G (pB z)) → (∀ y ∈ a, ∀ z ∈ b, G (pAB y z)) → ∀ x ∈ tgR a b, G x
 | [], [], _, _, _ => by rw [tgR]; intro x hx; cases hx
 | y :: s, [], h1, h2, h3 => by
  rw [tgR]
  intro x hx
  rcases List.mem_cons.1 hx with rfl | hx
  ·exact h1 _ List.mem_cons_self
  ·exact tg_all s [] (fun y hy => h1 y (List.mem_cons_of_mem _ hy)) h2 (fun y hy => h3 y (List.mem_cons_of_mem _ hy)) x hx
 | [], z :: t, h1, h2, h3 => by
  rw [tgR]
  intro x hx
  rcases List.mem_cons.1 hx with rfl | hx
  ·exact h2 _ List.mem_cons_self
  ·exact tg_all [] t h1 (fun y hy => h2 y (List.mem_cons_of_mem _ hy)) (fun y hy => by cases hy) x hx
 | y :: s, z :: t, h1, h2, h3 => by
  have q1 : ∀ y ∈ s, G (pA y) := fun y hy => h1 y (List.mem_cons_of_mem _ hy)
  have q2 : ∀ z ∈ t, G (pB z) := fun y hy => h2 y (List.mem_cons_of_mem _ hy)
  have i1 := tg_all s (z :: t) q1 h2 (fun y hy => h3 y (List.mem_cons_of_mem _ hy))
  have i2 := tg_all (y :: s) t h1 q2 (fun y hy z hz => h3 y hy z (List.mem_cons_of_mem _ hz))
  have i3 := tg_all s t q1 q2 (fun y hy z hz => h3 y (List.mem_cons_of_mem _ hy) z (List.mem_cons_of_mem _ hz))
  rw [tgR]
  intro x hx
  split at hx
  ·rcases List.mem_cons.1 hx with rfl | hx
   ·exact h1 _ List.mem_cons_self
   ·exact i1 x hx
  ·split at hx
   ·rcases List.mem_cons.1 hx with rfl | hx
    ·exact h2 _ List.mem_cons_self
    ·exact i2 x hx
   ·rcases List.mem_cons.1 hx with rfl | hx
    ·exact h3 _ List.mem_cons_self _ List.mem_cons_self
    ·exact i3 x hx
termination_by a b => a.length + b.length
def withG {G : Pr → Prop} : ∀ (l : List Pr), (∀ x ∈ l, G x) → List {x : Pr // G x}
 | [], _ => []
 | x :: t, h => ⟨x, h x List.mem_cons_self⟩ :: withG t (fun y hy => h y (List.mem_cons_of_mem _ hy))
theorem withG_map {G : Pr → Prop} : ∀ (l : List Pr) (h : ∀ x ∈ l, G x), (withG l h).map (fun x => x.1) = l
 | [], _ => rfl
 | x :: t, h => by rw [withG, List.map_cons, withG_map]
set_option maxHeartbeats 8000000 in
set_option maxRecDepth 100000 in
theorem together_any (aa ab : Option Addr) (na nb : Nat) (ca cb : Nat) (w : World) :
 Calls Tryd.prog 49 #[.slice aa na ca, .slice ab nb cb] w fun e w' => e = .returned (.func (.func 64) #[] #[.pointer (some ⟨w.heap.size, 0, none⟩), .pointer (some ⟨w.heap.size + 1, 0, none⟩)]) ∧ w' = (w.alloc (.cells #[.slice aa na ca] 23)).alloc (.cells #[.slice ab nb cb] 23) := by
 go_enter Tryd.func49, Tryd.ntmps49
 go_wp2_with fail
 go_ret
 exact ⟨rfl, rfl⟩
end Go.Proofs.YtjfldbmopjojdaaDoor
