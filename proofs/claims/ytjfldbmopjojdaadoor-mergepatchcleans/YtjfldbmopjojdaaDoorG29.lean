/- joined: MrgR RndA -/
import Derived.Test.YtjfldbmopjojdaaDoorMrgQ
import Derived.Test.YtjfldbmopjojdaaDoorMovA
import Derived.RangeFuncNested
import Derived.RangeFuncBound
import Derived.RangeFuncCalls
import Derived.RangeFuncLeaves
import Derived.Shelf.RegionOpen
/- mergepatch: one member of the patch at a time; what is taken stays within the limits. -/
set_option linter.unusedSimpArgs false
set_option linter.unusedVariables false
namespace Go.Proofs.YtjfldbmopjojdaaDoor
open Go.RowKit Go.Lib
theorem pchM_snoc : ∀ (q : List Mem) (o : List Mem) (k : ByteArray) (x : V), pchM o (q ++ [(k, x)]) = stpR pchV (pchM o q) k x
  | [], o, k, x => by rw [List.nil_append, pchM_cons, pchM, pchM]
  | (k', x') :: q, o, k, x => by rw [List.cons_append, pchM_cons, pchM_snoc q, pchM_cons]
theorem pchM_next {o q : List Mem} {j : Nat} (hj : j < q.length) : pchM o (q.take (j + 1)) = stpR pchV (pchM o (q.take j)) (q[j]).1 (q[j]).2 := by
  rw [List.take_succ_eq_append_getElem hj, pchM_snoc]
theorem getR_far' {k k' : ByteArray} (hk : ¬ k.toList = k'.toList) (z : V) (t : List Mem) : getR ((k, z) :: t) k' = getR t k' := by rw [getR, if_neg hk]
/-- the other keys have what they had -/
theorem getR_stp {f : V → V → V} {k k' : ByteArray} {x : V} (hk : ¬ k.toList = k'.toList) : ∀ {o : List Mem}, Srt o → getR (stpR f o k x) k' = getR o k' := by
  intro o
  induction o with
  | nil =>
    intro _
    rw [stpR]
    split
    · rfl
    · show getR [(k, f nullV x)] k' = _
      rw [getR_far' hk]
  | cons y a ih =>
    intro hs
    obtain ⟨ka, xa⟩ := y
    have hs1 := (List.pairwise_cons.1 hs).1
    have ih := ih (List.pairwise_cons.1 hs).2
    by_cases h1 : ltB ka k = true
    · have hne := lt_ne h1
      have e : stpR f ((ka, xa) :: a) k x = (ka, xa) :: stpR f a k x := by
        rw [stpR, stpR]
        have e1 : wotR ((ka, xa) :: a) k = (ka, xa) :: wotR a k := by rw [wotR, List.filter_cons_of_pos (by simpa using hne)]; rfl
        have e2 : ∀ z, witR ((ka, xa) :: a) k z = (ka, xa) :: witR a k z := fun z => by
          rw [witR, List.filter_cons_of_pos (by exact h1), List.filter_cons_of_neg (by rw [lt_asym h1]; simp)]; rfl
        rw [e1, e2, getR, if_neg hne]
        split <;> rfl
      rw [e, getR, getR, ih]
    · by_cases h2 : ltB k ka = true
      · have hf : ∀ y ∈ (ka, xa) :: a, ltB k y.1 = true := fun y hy => by
          rcases List.mem_cons.1 hy with rfl | hy
          · exact h2
          · exact ltB_trans h2 (hs1 y hy)
        rw [stpR, (far_w hf).1, (far_w hf).2]
        split
        · rfl
        · rw [getR_far' hk]
      · have he : ka.toList = k.toList := Classical.byContradiction fun hne => h2 (ltB_tri ka k (by simpa using h1) hne)
        have hf : ∀ y ∈ a, ltB k y.1 = true := fun y hy => by rw [← lt_same he]; exact hs1 y hy
        have e1 : wotR ((ka, xa) :: a) k = a := by
          rw [wotR, List.filter_cons_of_neg (by simpa using he)]; exact (far_w hf).1
        have e2 : ∀ z, witR ((ka, xa) :: a) k z = (k, z) :: a := fun z => by
          have := (far_w hf).2 z
          rw [witR] at this ⊢
          rw [List.filter_cons_of_neg (by exact h1), List.filter_cons_of_neg (by exact h2)]; exact this
        rw [stpR, e1, e2, getR_far' (fun e => hk (he.symm.trans e))]
        split
        · rfl
        · rw [getR_far' hk]
theorem getR_pch {k : ByteArray} : ∀ {q o : List Mem}, Srt o → (∀ y ∈ q, ¬ y.1.toList = k.toList) → getR (pchM o q) k = getR o k
  | [], o, _, _ => by rw [pchM]
  | (k', x) :: q, o, ho, h => by
    rw [pchM_cons, getR_pch (stp_srt ho k' x) (fun y hy => h y (List.mem_cons_of_mem _ hy)), getR_stp (h (k', x) (List.mem_cons_self ..)) ho]
theorem getR_at {o q : List Mem} (ho : Srt o) (hq : Srt q) {j : Nat} (hj : j < q.length) : getR (pchM o (q.take j)) (q[j]).1 = getR o (q[j]).1 := by
  refine getR_pch ho fun y hy => ?_
  obtain ⟨i, hi, rfl⟩ := List.getElem_of_mem hy
  rw [List.length_take] at hi
  rw [List.getElem_take]
  exact lt_ne ((List.pairwise_iff_getElem.1 hq) i j (by omega) hj (by omega))
mutual
theorem wt_nb : ∀ v : V, v.wt = ndV v + byV v
  | .mk k b i s l m => by rw [V.wt, ndV, byV, wt_nbL l, wt_nbM m]; omega
theorem wt_nbL : ∀ l : List V, wtL l = ndL l + byL l
  | [] => by rw [wtL, ndL, byL]
  | x :: t => by rw [wtL, ndL, byL, wt_nb x, wt_nbL t]; omega
theorem wt_nbM : ∀ m : List Mem, wtM m = ndM m + byM m + keyB m
  | [] => by rw [wtM, ndM, byM, keyB]
  | (k, x) :: t => by
    rw [wtM, ndM, byM, keyB, wt_nb x, wt_nbM t]
    show k.size + _ + _ = _ + _ + (k.size + _)
    omega
end
/-- a value that is taken -/
structure Ok (v : V) : Prop where
  g : allG v
  d : dpV v ≤ 40
  n : ndV v ≤ 65536
  b : byV v ≤ 1048576
theorem ok_chk {v : V} {D : Nat} (hD : D ≤ 40) (h : chkE v (D : Int) = 0) : Ok v := by
  have := (chk_iff v D hD).1 h
  exact ⟨this.1, by omega, this.2.2.1, this.2.2.2⟩
theorem Ok.ok {v : V} (h : Ok v) : okV v = true := by
  have := (chk_iff v 40 (Nat.le_refl _)).2 ⟨h.g, h.d, h.n, h.b⟩
  rw [okV, ← chkE40]
  exact decide_eq_true this
theorem Ok.cln {v : V} (h : Ok v) : clnV v = v := by rw [clnV, if_pos h.ok]
theorem Ok.wt {v : V} (h : Ok v) : v.wt ≤ 1114112 := by have := h.n; have := h.b; rw [wt_nb]; omega
theorem memNd : ∀ {m : List Mem} {y : Mem}, y ∈ m → ndV y.2 ≤ ndM m ∧ byV y.2 ≤ byM m ∧ dpV y.2 + 1 ≤ dpM m
  | (k, x) :: t, y, h => by
    rw [ndM, byM, dpM]
    rcases List.mem_cons.1 h with rfl | h
    · simp only; omega
    · have := memNd h; omega
theorem Ok.mem {k : Int} {b : Bool} {i : Int} {s : ByteArray} {l : List V} {m : List Mem} (h : Ok (.mk k b i s l m)) {y : Mem} (hy : y ∈ m) : Ok y.2 := by
  have h1 := h.g
  have h2 := h.d
  have h3 := h.n
  have h4 := h.b
  rw [allG] at h1
  rw [dpV] at h2
  rw [ndV] at h3
  rw [byV] at h4
  have := memNd hy
  exact ⟨allGM_i.1 h1.2.2 y hy, by omega, by omega, by omega⟩
theorem null_ok : Ok nullV := ⟨null_good, by rw [nullV, dpV, dpL, dpM]; omega, by rw [nullV, ndV, ndL, ndM]; omega, by rw [nullV, byV, byL, byM, keyB]; show (⟨#[]⟩ : ByteArray).size + _ + _ + _ ≤ _; have : (⟨#[]⟩ : ByteArray).size = 0 := rfl; omega⟩
theorem Ok.get {k : Int} {b : Bool} {i : Int} {s : ByteArray} {l : List V} {m : List Mem} (h : Ok (.mk k b i s l m)) (key : ByteArray) : Ok (getR m key) := by
  have key' : ∀ t : List Mem, (∀ y ∈ t, Ok y.2) → Ok (getR t key) := fun t => by
    induction t with
    | nil => intro _; exact null_ok
    | cons y t ih =>
      intro ht
      rw [getR]
      split
      · exact ht y (List.mem_cons_self ..)
      · exact ih fun z hz => ht z (List.mem_cons_of_mem _ hz)
  exact key' m fun y hy => h.mem hy
end Go.Proofs.YtjfldbmopjojdaaDoor
/- A region that draws, in a round of a range over a function: walked as a plain one. -/
namespace Go.Proofs.YtjfldbmopjojdaaDoor
open Go Go.RowKit
theorem upon_round {P : Program} {o : Oper} {a : Act} {K : Act → World → Prop} {Q : Exit → Act → World → Prop} {l n : Nat} : ∀ {r : Result Next}, o.upon P a K Q r → o.uponIn (Fence.wide.inRound l) n P a K Q r
  | .ok (.value v) w', h => h
  | .ok .skip w', h => h
  | .ok (.defer d) w', h => h
  | .ok (.enter f args) w', h => ⟨fun q => (by cases q), CallsIn.inRound l (callsIn_wide.2 h)⟩
  | .ok (.row row args) w', h => ⟨fun q => (by cases q), fun c cs _ => by
      obtain ⟨v, w'', r, s⟩ := h c cs
      exact ⟨v, w'', r, stepsIn_wide.2 s⟩⟩
  | .halt (.panic v) w', h => h
theorem oper_round {P : Program} {o : Oper} {a : Act} {w : World} {K : Act → World → Prop} {Q : Exit → Act → World → Prop} {l n : Nat} (hd : ∀ c, o.op ≠ .defer c) (h : o.wp P a w K Q) : o.wpIn (Fence.wide.inRound l) n P a w K Q := by
  refine ⟨fun _ _ => trivial, ?_⟩
  rw [Oper.semAt_eq _ _ _ hd]
  exact upon_round h
theorem any_round {P : Program} {md : Region.Mode} {ops : Array Oper} {Q : Exit → Act → World → Prop} {l n : Nat} (hd : ∀ (i : Nat) o, ops[i]? = some o → ∀ c, o.op ≠ .defer c) (hq : ¬ LetsOut Q) :
    ∀ (fuel : Nat) (listed : Array Bool) (a : Act) (w : World), wpAny P md ops Q fuel listed a w → wpAnyIn (Fence.wide.inRound l) n P md ops Q fuel listed a w
  | 0, listed, a, w, h => h
  | fuel + 1, listed, a, w, h => by
    refine ⟨h.1, fun i hi => ?_⟩
    have h2 := h.2 i hi
    unfold wpOp at h2
    unfold wpOpIn
    cases ho : ops[i]? with
    | none =>
      rw [ho] at h2
      exact any_round hd hq fuel _ _ _ h2
    | some o =>
      rw [ho] at h2
      simp only at h2 ⊢
      by_cases hw : Region.wanted o (yielded ops a.tmps) = true
      · rw [if_pos hw] at h2 ⊢
        rcases h2 with h2 | h2
        · exact Oper.wpIn_mono (fun a w h => any_round hd hq fuel _ a w h) (oper_round (hd i o ho) h2)
        · exact absurd h2.2 hq
      · rw [if_neg hw] at h2 ⊢
        exact ⟨fun _ _ => trivial, any_round hd hq fuel _ _ _ h2⟩
/-- none of the operations is a defer statement -/
def noDefer (ops : List Oper) : Bool := ops.all fun o => match o.op with | .defer _ => false | _ => true
theorem noDefer_of {ops : List Oper} (h : noDefer ops = true) : ∀ (i : Nat) o, ops.toArray[i]? = some o → ∀ c, o.op ≠ .defer c := by
  intro i o ho c hc
  have hm : o ∈ ops := by
    rw [List.getElem?_toArray] at ho
    exact List.mem_of_getElem? ho
  have := List.all_eq_true.1 h o hm
  simp only [hc] at this
  cases this
theorem round_held_drew {P : Program} {ops : List Oper} {Q : Exit → Act → World → Prop} {S : World → Prop} {id l n : Nat} {a : Act} {w : World} (hm : P.follows .mixedOrders = true) (hd : noDefer ops = true) (hq : ¬ LetsOut Q) (hS : S w.drew)
    (h : S w.drew → wpAnyH P .any ops.toArray Q S ops.toArray.size (Array.replicate ops.toArray.size false) a w.drew) : (Code.region id ops.toArray true).wpIn (Fence.wide.inRound l) n P Q a w :=
  wpIn_region_any hm (any_round (noDefer_of hd) hq _ _ _ _ (wpAny_of_held _ _ _ _ (h hS)))
end Go.Proofs.YtjfldbmopjojdaaDoor
