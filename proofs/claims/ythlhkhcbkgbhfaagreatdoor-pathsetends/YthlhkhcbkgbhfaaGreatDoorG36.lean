/- joined: RndA ValS -/
import Derived.RangeFuncNested
import Derived.RangeFuncBound
import Derived.RangeFuncCalls
import Derived.RangeFuncLeaves
import Derived.Shelf.RegionOpen
import Derived.Test.YthlhkhcbkgbhfaaGreatDoorEndS
import Derived.Shelf.Abstract
import Derived.OwnWalkIn
import Derived.TacticsInMore
import Derived.LoopNIn
import Derived.LoopIn
/- A region that draws, in a round of a range over a function: walked as a plain one. -/
set_option linter.unusedSimpArgs false
set_option linter.unusedVariables false
namespace Go.Proofs.YthlhkhcbkgbhfaaGreatDoor
open Go Go.RowKit
theorem upon_round {P : Program} {o : Oper} {a : Act} {K : Act → World → Prop} {Q : Exit → Act → World → Prop} {l n : Nat} : ∀ {r : Result Next}, o.upon P a K Q r → o.uponIn (Fence.wide.inRound l) n P a K Q r
  | .ok (.value v) w', h => h
  | .ok .skip w', h => h
  | .ok (.defer d) w', h => h
  | .ok (.enter f args) w', h => ⟨fun q => (by cases q), CallsIn.inRound l (callsIn_wide.2 h)⟩
  | .ok (.row row args) w', h => ⟨fun q => (by cases q), fun c cs _ => by
      obtain ⟨v, w'', r, s⟩ := h c cs
      exact ⟨v, w'', r, stepsIn_wide.2 s⟩⟩
  | .halt (.panic v) w', h => h
theorem oper_round {P : Program} {o : Oper} {a : Act} {w : World} {K : Act → World → Prop} {Q : Exit → Act → World → Prop} {l n : Nat} (hd : ∀ c, o.op ≠ .defer c) (h : o.wp P a w K Q) : o.wpIn (Fence.wide.inRound l) n P a w K Q := by
  refine ⟨fun _ _ => trivial, ?_⟩
  rw [Oper.semAt_eq _ _ _ hd]
  exact upon_round h
theorem any_round {P : Program} {md : Region.Mode} {ops : Array Oper} {Q : Exit → Act → World → Prop} {l n : Nat} (hd : ∀ (i : Nat) o, ops[i]? = some o → ∀ c, o.op ≠ .defer c) (hq : ¬ LetsOut Q) :
    ∀ (fuel : Nat) (listed : Array Bool) (a : Act) (w : World), wpAny P md ops Q fuel listed a w → wpAnyIn (Fence.wide.inRound l) n P md ops Q fuel listed a w
  | 0, listed, a, w, h => h
  | fuel + 1, listed, a, w, h => by
    refine ⟨h.1, fun i hi => ?_⟩
    have h2 := h.2 i hi
    unfold wpOp at h2
    unfold wpOpIn
    cases ho : ops[i]? with
    | none =>
      rw [ho] at h2
      exact any_round hd hq fuel _ _ _ h2
    | some o =>
      rw [ho] at h2
      simp only at h2 ⊢
      by_cases hw : Region.wanted o (yielded ops a.tmps) = true
      · rw [if_pos hw] at h2 ⊢
        rcases h2 with h2 | h2
        · exact Oper.wpIn_mono (fun a w h => any_round hd hq fuel _ a w h) (oper_round (hd i o ho) h2)
        · exact absurd h2.2 hq
      · rw [if_neg hw] at h2 ⊢
        exact ⟨fun _ _ => trivial, any_round hd hq fuel _ _ _ h2⟩
/-- none of the operations is a defer statement -/
def noDefer (ops : List Oper) : Bool := ops.all fun o => match o.op with | .defer _ => false | _ => true
theorem noDefer_of {ops : List Oper} (h : noDefer ops = true) : ∀ (i : Nat) o, ops.toArray[i]? = some o → ∀ c, o.op ≠ .defer c := by
  intro i o ho c hc
  have hm : o ∈ ops := by
    rw [List.getElem?_toArray] at ho
    exact List.mem_of_getElem? ho
  have := List.all_eq_true.1 h o hm
  simp only [hc] at this
  cases this
theorem round_held_drew {P : Program} {ops : List Oper} {Q : Exit → Act → World → Prop} {S : World → Prop} {id l n : Nat} {a : Act} {w : World} (hm : P.follows .mixedOrders = true) (hd : noDefer ops = true) (hq : ¬ LetsOut Q) (hS : S w.drew)
    (h : S w.drew → wpAnyH P .any ops.toArray Q S ops.toArray.size (Array.replicate ops.toArray.size false) a w.drew) : (Code.region id ops.toArray true).wpIn (Fence.wide.inRound l) n P Q a w :=
  wpIn_region_any hm (any_round (noDefer_of hd) hq _ _ _ _ (wpAny_of_held _ _ _ _ (h hS)))
end Go.Proofs.YthlhkhcbkgbhfaaGreatDoor
/- slices.Values over paths: the paths, one by one. -/
namespace Go.Proofs.YthlhkhcbkgbhfaaGreatDoor
open Go Go.RowKit Go.Lib Go.Shelf
/-- all below n0 but vx is as it was -/
structure Kx (n0 vx : Nat) (w w' : World) : Prop where
  os : w'.os = w.os
  tape : w'.tape = w.tape
  output : w'.output = w.output
  size : w.heap.size ≤ w'.heap.size
  block : ∀ k, k < n0 → k ≠ vx → w'.heap[k]? = w.heap[k]?
theorem kx_of {n0 vx : Nat} {w w' : World} (h : Below n0 w w') : Kx n0 vx w w' := ⟨h.os, h.tape, h.output, h.size, fun k hk _ => h.block k hk⟩
theorem Kx.trans {n0 vx : Nat} {a b c : World} (h : Kx n0 vx a b) (k : Kx n0 vx b c) : Kx n0 vx a c := ⟨k.os.trans h.os, k.tape.trans h.tape, k.output.trans h.output, Nat.le_trans h.size k.size, fun q hq hv => (k.block q hq hv).trans (h.block q hq hv)⟩
theorem Kx.refl (n0 vx : Nat) (w : World) : Kx n0 vx w w := ⟨rfl, rfl, rfl, Nat.le_refl _, fun _ _ _ => rfl⟩
theorem Kx.cell {n0 vx : Nat} {w w' : World} (h : Kx n0 vx w w') {p : Addr} (hp : p.block < n0) (hv : p.block ≠ vx) : w'.cell? p = w.cell? p := World.cell?_of_block (h.block _ hp hv)
theorem values_any (aa : Option Addr) (na ca : Nat) (w : World) :
    Calls Tryz.prog 45 #[.slice aa na ca] w fun e w' => e = .returned (.func (.func 66) #[] #[.pointer (some ⟨w.heap.size, 0, none⟩)]) ∧ w' = w.alloc (.cells #[.slice aa na ca] 22) := by
  go_enter Tryz.func45, Tryz.ntmps45
  go_wp2_with fail
  go_ret
  exact ⟨rfl, rfl⟩
attribute [local go_sem] Oper.semAt_some
set_option maxHeartbeats 8000000 in
set_option maxRecDepth 100000 in
theorem val_seq {w0 : World} {S : Nat → Prop} {zs : List (PC w0 S)} (xs : List {x : PC w0 S // x ∈ zs}) (hzs : xs.map (fun x => x.1) = zs) (n n0 vx A1 ba oa ca : Nat) (aa : Option Addr) (w : World)
    (h1 : w.cell? ⟨A1, 0, none⟩ = some (.slice aa xs.length ca)) (hA1 : A1 < n0) (hv1 : A1 ≠ vx) (hn0 : n0 ≤ w.heap.size) (ha : 0 < xs.length → aa = some ⟨ba, oa, none⟩ ∧ ba < n0 ∧ ba ≠ vx) (ra : ∀ (j : Nat) (hj : j < xs.length), w.cell? ⟨ba, oa + j, none⟩ = some (xs[j]).1.enc) (hla : xs.length ≤ 2147483647) :
    SeqStopsK Fence.wide n Tryz.prog 66 #[.pointer (some ⟨A1, 0, none⟩)] (fun x : {x : PC w0 S // x ∈ zs} => #[x.1.enc]) (Kx n0 vx) (fun ys => ys.map (fun x => x.1) = zs) (fun _ => True) xs.length w := by
  intro l J Jx W hW hJ hJx hY h0
  have k0 : Kx n0 vx w W := kx_of (hW.mono hn0)
  have c1 := (k0.cell (p := ⟨A1, 0, none⟩) hA1 hv1).trans h1
  refine callsIn_of_wp Tryz.func66 rfl trivial ?_ rfl
  simp only [Tryz.ntmps66, List.size_toArray, List.length_cons, List.length_nil, Nat.reduceAdd, Nat.reduceSub, Array.replicate_succ, Array.replicate_zero, List.push_toArray, List.append_toArray, List.nil_append, List.cons_append]
  gi_wp2
  gi_loopw [7] (fun e7 wr => ∃ (i : Nat) (pre rest : List {x : PC w0 S // x ∈ zs}), i ≤ xs.length ∧ e7 = .int .i64 (i : Int) ∧ Hid (xs = pre ++ rest) ∧ Hid (pre.length = i) ∧ Hid (Kx n0 vx w wr) ∧ J pre wr) (fun e7 _ => xs.length - (RowKit.intOf e7).toNat)
  case atStart => exact ⟨0, [], xs, by omega, rfl, rfl, rfl, k0, h0⟩
  case round =>
    clear k0 c1
    obtain ⟨i, pre, rest, hi, rfl, HX, HI, HB, hj⟩ := hrel
    have bw := HB.out
    clear HB
    by_cases hil : i < xs.length
    rotate_left
    · obtain rfl : i = xs.length := by omega
      have y1 : ¬ (xs.length : Int) < xs.length := by omega
      have hr0 : rest = [] := by
        have := congrArg List.length HX.out
        have hpl := HI.out
        rw [List.length_append] at this
        exact List.length_eq_zero_iff.1 (by omega)
      have hjx : J xs wr := by rw [HX.out, hr0, List.append_nil]; exact hj
      clear hr0 HX HI
      gi_wp2
      go_end0
      exact ⟨⟨_, rfl⟩, .inl (by first | exact hjx | exact hj | exact ⟨_, rfl, hjx⟩ | exact ⟨_, hzs, hjx⟩ | exact ⟨xs, hzs, hjx⟩)⟩
    · have y1 : (i : Int) < xs.length := by omega
      obtain ⟨rfl, hb1, hb2⟩ := ha (by omega)
      have c2 := (bw.cell (p := ⟨ba, oa + i, none⟩) hb1 hb2).trans (ra i hil)
      cases rest with
      | nil =>
        have hx := HX.out
        have hpl := HI.out
        rw [List.append_nil] at hx; rw [hx] at hil; omega
      | cons x rest =>
      have hxi : xs[i] = x := by
        have hpl := HI.out
        have : xs[i]? = some x := by rw [HX.out, List.getElem?_append_right (by omega), hpl, Nat.sub_self]; rfl
        rw [List.getElem?_eq_getElem hil] at this
        exact Option.some.inj this
      rw [hxi] at c2
      obtain ⟨fn, tmps, assign, body, hy, hR⟩ := hY pre x wr hj (by have := HI.out; omega)
      simp only [PC.enc] at hy c2
      clear hxi
      gi_wp2
      refine ⟨fun h => (by cases h), hR.mono ?_⟩
      rintro e W3 (⟨rfl, hJ3, hk3⟩ | ⟨rfl, hJx3⟩)
      · gi_wp2
        go_roundw
        case rel => exact ⟨i + 1, pre ++ [x], rest, by omega, by go_num, hmk (by rw [HX.out]; simp), hmk (by have := HI.out; simp; omega), bw.trans hk3, hJ3⟩
        case measure => simp [RowKit.intOf]; omega
      · gi_wp2
        refine bodyPost_ret (results_none rfl _ _ _) rfl ?_
        exact ⟨⟨_, rfl⟩, .inr ⟨pre ++ [x], trivial, hJx3⟩⟩
end Go.Proofs.YthlhkhcbkgbhfaaGreatDoor
