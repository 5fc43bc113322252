/- joined: RngP RngB -/
import Derived.Test.YtjfldbmopjojdaaDoorG3
import Derived.RangeFuncNested
namespace Go
open Go.RowKit
variable {P : Program} {f : FuncId} {Q : Exit → Act → World → Prop} {a : Act} {w : World}
def Code.wpOf (f : FuncId) (P : Program) (c : Code) (Q : Exit → Act → World → Prop) (a : Act) (w : World) : Prop :=
 ∀ (b : Frame) (k : List Item) (cs : List Frame), b.fn = f → b.roundOf = none → ∃ e a' w', Q e a' w' ∧ ArrivesIn (Machine.fenced P Fence.wide) P (lone (b.atR a (.code c :: k)) cs w) b k cs e a' w'
theorem wpOf_of_wpIn {c : Code} {n : Nat} (h : c.wpIn Fence.wide n P Q a w) : c.wpOf f P Q a w := fun b k cs _ hr => h b k cs hr trivial (room_wide _)
theorem wpOf_seq {x y : Code} (h : x.wpOf f P (Exit.then (y.wpOf f P Q) Q) a w) : (Code.seq x y).wpOf f P Q a w := by
 intro b k cs hf hr
 have s0 : StepsIn (Machine.fenced P Fence.wide) P (lone (b.atR a (.code (.seq x y) :: k)) cs w) (lone (b.atR a (.code x :: .code y :: k)) cs w) := .one (fenced_wide P _) stepR_seq
 obtain ⟨e, a₁, w₁, hq, h1⟩ := h b (.code y :: k) cs hf hr
 rcases he : e with _ | _ | _ | _ | _ | _ <;> subst he
 case normal =>
  obtain ⟨e₂, a₂, w₂, hq₂, h2⟩ := hq b k cs hf hr
  exact ⟨e₂, a₂, w₂, hq₂, .of_steps (StepsIn.trans s0 h1) h2⟩
 all_goals exact ⟨_, a₁, w₁, hq, .of_steps s0 (.pass (x := .code y) rfl (fun _ _ => .inl (by simp)) h1)⟩
def goesOn (R : World → Prop) (Rp : List PanicEntry → World → Prop) : Exit → Act → World → Prop
 | .normal, _, w => R w
 | .panic ch, a, w => a.defers = [] ∧ Rp ch w
 | _, _, _ => False
theorem round_goesOn {l : Nat} {fn : Func} {tmps : Array Value} {assign body : Code} {n : Nat} {R : Ending → World → Prop} (hfn : P.funcs[f]? = some fn)
 (h : assign.wpIn (Fence.wide.inRound l) n P (Exit.then (fun a₁ w₁ => ∃ w₂, (Instr.beginRound l).run P w₁ = .ok () w₂ ∧ body.wpIn (Fence.wide.inRound l) n P
  (goesOn (fun w₃ => ∃ v w₄, (Instr.endRound l none).run P w₃ = .ok v w₄ ∧ R (.returned v) w₄) (fun ch w₃ => R (.panicked ch) w₃)) a₁ w₂) (fun _ _ _ => False)) { tmps := tmps, defers := [] } w) :
 RoundIn Fence.wide n P l f tmps assign body w R := by
 refine ⟨trivial, fun c cs _ => ?_⟩
 have fw := fun m => fenced_wide P m
 obtain ⟨b, hb, hbf, hbr, hbk⟩ : ∃ b : Frame, Frame.round l f tmps assign body .normal = b.atR { tmps := tmps, defers := [] } [.code assign, .beginRound, .code body] ∧ b.fn = f ∧ b.roundOf = some l ∧ b.kind = .normal :=
  ⟨{ (default : Frame) with fn := f, kind := .normal, roundOf := some l }, by simp [Frame.round, Frame.atR], rfl, rfl, rfl⟩
 rw [hb]
 obtain ⟨e, a₁, w₁, hq, h1⟩ := h b [.beginRound, .code body] (c :: cs) hbr trivial (room_wide _)
 cases e with
 | normal =>
  obtain ⟨w₂, hbeg, hbody⟩ := hq
  have s1 := StepsIn.trans h1 (.one (fw _) (stepR_beginRound hbr hbeg))
  obtain ⟨e₂, a₂, w₃, hq₂, h2⟩ := hbody b [] (c :: cs) hbr trivial (room_wide _)
  cases e₂ with
  | normal =>
   obtain ⟨v, w₄, hend, hR⟩ := hq₂
   exact ⟨.returned v, w₄, hR, StepsIn.trans s1 (StepsIn.trans h2 (.one (fw _) (stepR_round_end hbr hbk hend)))⟩
  | panic ch =>
   obtain ⟨hd, hR⟩ := hq₂
   obtain ⟨todo, h3⟩ := h2
   have hl : ({ b.atR a₂ todo with mode := .panicking ch } : Frame).leaving P w₃ (.panicked ch) := ⟨rfl, hd, fn, by show P.funcs[b.fn]? = _; rw [hbf]; exact hfn⟩
   exact ⟨.panicked ch, w₃, hR, StepsIn.trans s1 (StepsIn.trans h3 (.one (fw _) (step_leave_panicked hl)))⟩
  | ret => exact hq₂.elim
  | exit id => exact hq₂.elim
  | goto t => exact hq₂.elim
  | outgrown => exact hq₂.elim
 | ret => exact hq.elim
 | exit id => exact hq.elim
 | goto t => exact hq.elim
 | panic ch => exact hq.elim
 | outgrown => exact hq.elim
def SeqPan {α : Type} (n : Nat) (P : Program) (g : Nat) (lb : Array Value) (encs : α → Array Value) (Kp : World → World → Prop) (xs : List α) (w : World) : Prop :=
 ∀ (l : Nat) (J : List α → World → Prop) (Jp : List PanicEntry → List α → World → Prop) (W : World), Below w.heap.size w W → AbidesFrom W.heap.size J →
  (∀ pre x rest W1, xs = pre ++ x :: rest → J pre W1 → YieldAt Fence.wide (n - 1) P l (encs x) W1 fun e W' =>
   (e = .returned (.bool true) ∧ J (pre ++ [x]) W' ∧ Kp W1 W') ∨ (∃ ch, e = .panicked ch ∧ Jp ch (pre ++ [x]) W')) →
  J [] W →
  CallsIn Fence.wide n P g (#[.func (.yield l) #[] #[]] ++ lb) W fun e W' => (∃ v, e = .returned v ∧ J xs W') ∨ (∃ ch pre rest, e = .panicked ch ∧ xs = pre ++ rest ∧ Jp ch pre W')
theorem wpOf_range {α : Type} {g : Operand} {ps : Array Tmp} {assign body : Code} {n : Nat} {fn : Func} (hfn : P.funcs[f]? = some fn)
 {gf : Nat} {lb : Array Value} (hg : a.eval g = .func (.func gf) #[] lb) (eg : ∀ args w, (callFunc gf args).run P w = .ok (.enter gf args) w)
 {encs : α → Array Value} {Kp : World → World → Prop} {xs : List α} (hseq : SeqPan n P gf lb encs Kp xs w)
 (hKt : ∀ {A B C : World}, Kp A B → Kp B C → Kp A C) (hKb : ∀ (W : World) (l : Nat) (o o' : Obj), w.heap.size ≤ l → W.heap[l]? = some o → o.isCells = false → o.isWalk = false → Kp W (W.putObj l o')) (hps : ∀ x, (encs x).size = ps.size)
 (I : List α → World → Prop) (Ip : List PanicEntry → List α → World → Prop) (hI : OwnFrom w.heap.size I) (h0 : I [] w) (Ax : α → Act → World → Prop) (hAx : ∀ x a', OwnFrom w.heap.size (fun (_ : Unit) W => Ax x a' W))
 (hassign : ∀ (l : Nat) (pre : List α) (x : α) (rest : List α) (W : World) (K : Act → World → Prop), xs = pre ++ x :: rest → I pre W → (∀ a' W', KeepsFrom w.heap.size W W' → Kp W W' → I pre W' → Ax x a' W' → K a' W') →
  assign.wpIn (Fence.wide.inRound l) (n - 1) P (Exit.then K (fun _ _ _ => False)) { tmps := (ps.zip (encs x)).foldl (fun t (p, v) => t.setIfInBounds p v) a.tmps, defers := [] } W)
 (hbody : ∀ (l : Nat) (pre : List α) (x : α) (rest : List α) (a' : Act) (W : World), xs = pre ++ x :: rest → w.heap.size ≤ l → (∃ r, W.heap[l]? = some (.loop r)) → I pre W → Ax x a' W →
  body.wpIn (Fence.wide.inRound l) (n - 1) P (goesOn (fun W' => KeepsFrom w.heap.size W W' ∧ Kp W W' ∧ I (pre ++ [x]) W') (fun ch W' => KeepsFrom w.heap.size W W' ∧ Ip ch (pre ++ [x]) W')) a' W)
 (hdone : ∀ (W : World), I xs W → W.heap[w.heap.size]? = some (.deferred (some [])) → Q .normal { a with defers := { target := .collected w.heap.size, args := #[] } :: a.defers } W)
 (hpan : ∀ (ch : List PanicEntry) (pre rest : List α) (W : World), xs = pre ++ rest → Ip ch pre W → W.heap[w.heap.size]? = some (.deferred (some [])) → Q (.panic ch) { a with defers := { target := .collected w.heap.size, args := #[] } :: a.defers } W) :
 (Code.rangeFunc g ps assign body).wpOf f P Q a w := by
 intro b k cs hbf hbr
 have fw := fun m => fenced_wide P m
 have hent := run_enterLoop_outer (P := P) (w := w) f a.tmps ps assign body
 obtain ⟨rc, hrc⟩ : ∃ rc : LoopState → Option Code → Loop, rc = fun st pe => { state := st, pending := pe, fn := f, tmps := a.tmps, params := ps, assign, body, defers := w.heap.size } := ⟨_, rfl⟩
 obtain ⟨W1, hW1⟩ : ∃ W1, (w.alloc (.deferred (some []))).alloc (.loop (rc .ready none)) = W1 := ⟨_, rfl⟩
 have e1 : (Instr.enterLoop b.fn a.tmps ps assign body b.roundOf).run P w = .ok (w.heap.size + 1, [{ target := .collected w.heap.size, args := #[] }]) W1 := by
  rw [hbf, hbr, hent, ← hW1, hrc]
 have hL1 : W1.heap[w.heap.size + 1]? = some (.loop (rc .ready none)) := by
  rw [← hW1]; have := World.alloc_heap_new (w.alloc (.deferred (some []))) (.loop (rc .ready none)); rwa [World.size_alloc] at this
 have hD1 : W1.heap[w.heap.size]? = some (.deferred (some [])) := by
  rw [← hW1]; exact (Below.heap_alloc _ _ _ (by simp)).trans (World.alloc_heap_new w _)
 have hI1 : I [] W1 := by rw [← hW1]; exact hI.alloc _ (hI.alloc _ h0)
 have hb1 : Below w.heap.size w W1 := by rw [← hW1]; exact ((Below.refl _ w).alloc (Nat.le_refl _) _).alloc (by simp) _
 have hz1 : W1.heap.size = w.heap.size + 2 := by rw [← hW1]; simp
 have henter := stepR_rangeFunc (P := P) (b := b) (a := a) (k := k) (cs := cs) (w := w) (g := g) (f := gf) (args := #[.func (.yield (w.heap.size + 1)) #[] #[]] ++ lb) (w₁' := W1) (w₂ := W1)
  (d := { target := .fn (.func gf) lb, args := #[.func (.yield (w.heap.size + 1)) #[] #[]] }) e1 (by simp only [resolve, hg]; simp [go_sem]) (by simp [invoke, go_sem, eg])
 have key := hseq (w.heap.size + 1) (fun pre W => I pre W ∧ W.heap[w.heap.size + 1]? = some (.loop (rc .ready none)) ∧ W.heap[w.heap.size]? = some (.deferred (some [])))
  (fun ch pre W => Ip ch pre W ∧ W.heap[w.heap.size]? = some (.deferred (some []))) W1 hb1
  (fun s A B row hs hgr hr => ⟨hI s A B row hs.1 hgr (fun r e => by obtain ⟨hB, o, ho, hwk⟩ := hr r e; exact ⟨by omega, o, ho, Obj.not_cells_of_walk hwk⟩), (grownBy_keeps hgr (fun r e => (hr r e).2) hs.2.1 rfl).trans hs.2.1, (grownBy_keeps hgr (fun r e => (hr r e).2) hs.2.2 rfl).trans hs.2.2⟩)
  ?_ ⟨hI1, hL1, hD1⟩
 ·obtain ⟨e, W2, fr, hR, hs, hff, hl⟩ := key.2 (b.atR { a with defers := [{ target := .collected w.heap.size, args := #[] }] ++ a.defers } (.inRangeFunc (w.heap.size + 1) :: k) :: cs) (room_wide _)
  rcases hR with ⟨v, rfl, hi, hlp, hdd⟩ | ⟨ch, pre, rest, rfl, hx, hip, hdd⟩
  ·have hend := run_endLoop (P := P) hlp (by rw [hrc]; simp)
   have hp : (rc .ready none).pending = none := by rw [hrc]
   have hend2 : (Instr.endLoop (w.heap.size + 1)).run P W2 = .ok none (W2.putObj (w.heap.size + 1) (.loop { rc .ready none with state := .exhausted })) := by rw [hend]; exact congrArg (fun z => Result.ok z _) hp
   refine ⟨.normal, _, W2.putObj (w.heap.size + 1) (.loop { rc .ready none with state := .exhausted }), hdone _ (hI.putObj _ hi (by omega) hlp rfl) ((World.putObj_heap_other (by omega)).trans hdd), ?_⟩
   refine .head (fw _) henter (StepsIn.trans hs (.head (fw _) ?_ (.one (fw _) (stepR_endRangeFunc hend2))))
   rw [← finish_atR_inRangeFunc (w.heap.size + 1) v]; exact step_leave_returned hl
  ·refine ⟨.panic ch, _, W2, hpan ch pre rest W2 hx hip hdd, .inRangeFunc (w.heap.size + 1) :: k, .head (fw _) henter (StepsIn.trans hs (.one (fw _) ?_))⟩
   rw [← Frame.raise_atR]; exact step_leave_panicked hl
 ·rintro pre x rest W hx ⟨hi, hlp, hdd⟩
  have hy := run_yield (P := P) (args := encs x) hlp (by rw [hrc]; exact hps x)
  have hfe : (rc .ready none).fn = f := by rw [hrc]
  refine ⟨(rc .ready none).fn, _, (rc .ready none).assign, (rc .ready none).body, hy, ?_⟩
  rw [hfe]
  refine round_goesOn hfn ?_
  have ea : (rc .ready none).assign = assign := by rw [hrc]
  have eb : (rc .ready none).body = body := by rw [hrc]
  have et : (rc .ready none).tmps = a.tmps := by rw [hrc]
  have ep : (rc .ready none).params = ps := by rw [hrc]
  rw [ea, eb, et, ep]
  refine hassign _ pre x rest W _ hx hi ?_
  intro a' Wa kf kp hia hax
  have hla := kf.same _ _ (by omega) hlp rfl
  have hda := kf.same _ _ (Nat.le_refl _) hdd rfl
  have hlt : w.heap.size + 1 < Wa.heap.size := (Array.getElem?_eq_some_iff.1 hla).1
  refine ⟨_, run_beginRound hla (by rw [hrc]), ?_⟩
  obtain ⟨rb, hrb⟩ : ∃ rb : Loop, rb = { rc .ready none with state := .busy } := ⟨_, rfl⟩
  rw [← hrb]
  have hl2 : (Wa.putObj (w.heap.size + 1) (.loop rb)).heap[w.heap.size + 1]? = some (.loop rb) := World.putObj_heap_same hlt
  have hd2 : (Wa.putObj (w.heap.size + 1) (.loop rb)).heap[w.heap.size]? = some (.deferred (some [])) := (World.putObj_heap_other (by omega)).trans hda
  have kb := hKb Wa _ _ (.loop rb) (by omega) hla rfl rfl
  refine wpIn_mono (hbody _ pre x rest a' _ hx (by omega) ⟨_, hl2⟩ (hI.putObj _ hia (by omega) hla rfl) ((hAx x a').putObj (s := ()) _ hax (by omega) hla rfl)) ?_
  rintro e a3 W3 hp
  cases e with
  | normal =>
   obtain ⟨k3, kp3, i3⟩ := hp
   have hl3 := k3.same _ _ (by omega) hl2 rfl
   have hend := run_endRound (P := P) none hl3
   have er : ({ rb with state := if (none : Option Code).isNone then .ready else .done, pending := none } : Loop) = rc .ready none := by rw [hrb, hrc]; rfl
   rw [er] at hend
   exact ⟨_, _, hend, .inl ⟨rfl, ⟨hI.putObj _ i3 (by omega) hl3 rfl, World.putObj_heap_same (Array.getElem?_eq_some_iff.1 hl3).1, (World.putObj_heap_other (by omega)).trans (k3.same _ _ (Nat.le_refl _) hd2 rfl)⟩,
    hKt kp (hKt (hKt kb kp3) (hKb _ _ _ _ (by omega) hl3 rfl rfl))⟩⟩
  | panic ch =>
   obtain ⟨hd, k3, ip⟩ := hp
   exact ⟨hd, .inr ⟨ch, rfl, ip, k3.same _ _ (Nat.le_refl _) hd2 rfl⟩⟩
  | ret => exact hp.elim
  | exit id => exact hp.elim
  | goto t => exact hp.elim
  | outgrown => exact hp.elim
theorem calls_of_wpOf {fn : Func} {c : Code} {args : Array Value} {R : Ending → World → Prop} (hf : P.funcs[f]? = some fn) (hb : fn.body = some c)
 (h : c.wpOf f P (bodyPostM Fence.wide 0 P fn R) { tmps := args ++ Array.replicate (fn.ntmps - args.size) undef, defers := [] } w) : Calls P f args w R := by
 refine (callsIn_wide (n := 0)).1 ⟨trivial, fun cs _ => ?_⟩
 have fw := fun m => fenced_wide P m
 obtain ⟨b, hent, hbf, hbr, hbk⟩ : ∃ b : Frame, Frame.enter P f args .normal = b.atR { tmps := args ++ Array.replicate (fn.ntmps - args.size) undef, defers := [] } [.code c] ∧ b.fn = f ∧ b.roundOf = none ∧ b.kind = .normal :=
  ⟨{ (default : Frame) with fn := f, kind := .normal, roundOf := none }, by simp [Frame.enter, Frame.atR, hf, hb], rfl, rfl, rfl⟩
 obtain ⟨e, a', w', hq, h1⟩ := h b [] cs hbf hbr
 rw [hent]
 have hf' : P.funcs[b.fn]? = some fn := by rw [hbf]; exact hf
 have out : ∀ (u : FrameMode) (todo : List Item), LeavesInM Fence.wide 0 P fn a'.tmps R a'.defers u w' → StepsIn (Machine.fenced P Fence.wide) P (lone (b.atR { tmps := args ++ Array.replicate (fn.ntmps - args.size) undef, defers := [] } [.code c]) cs w) (lone { b.atR a' todo with mode := u } cs w') →
  ∃ e w'' fr', R e w'' ∧ ComesIn (Machine.fenced P Fence.wide) P (lone (b.atR { tmps := args ++ Array.replicate (fn.ntmps - args.size) undef, defers := [] } [.code c]) cs w) (lone fr' cs w'') e ∧ fr'.fn = f ∧ fr'.leaving P w'' e := fun u todo hl hs => by
  obtain ⟨e, w'', fr', hR, h2, hfn, hlv⟩ := leaves_stepsInM a'.defers u w' { b.atR a' todo with mode := u } cs rfl rfl rfl hf' hbk trivial (room_wide _) hl
  exact ⟨e, w'', fr', hR, ComesIn.of_steps hs h2, hfn.trans hbf, hlv⟩
 cases e with
 | normal => exact out .returning [] hq (StepsIn.trans h1 (.one (fw _) (stepR_end hbr)))
 | ret =>
  obtain ⟨todo, h2⟩ := h1.1 hbr
  exact out .returning todo hq h2
 | panic ch =>
  obtain ⟨todo, h2⟩ := h1
  exact out (.panicking ch) todo hq h2
 | exit id => exact hq.elim
 | goto t => exact hq.elim
 | outgrown => exact ⟨.outgrown, w', b, hq, h1.resolve_left (by rw [hbk]; simp), hbf, trivial⟩
end Go
namespace Go
open Go.RowKit
variable {P : Program} {f : FuncId} {Q : Exit → Act → World → Prop} {a : Act} {w : World}
theorem wpOf_block {i : Nat} {x : Code} (h : x.wpOf f P (Exit.inBlock i Q) a w) : (Code.block i x).wpOf f P Q a w := by
 intro b k cs hf hr
 have s0 : StepsIn (Machine.fenced P Fence.wide) P (lone (b.atR a (.code (.block i x) :: k)) cs w) (lone (b.atR a (.code x :: .inBlock i :: k)) cs w) := .one (fenced_wide P _) stepR_block
 obtain ⟨e, a₁, w₁, hq, h1⟩ := h b (.inBlock i :: k) cs hf hr
 cases e with
 | normal => exact ⟨.normal, a₁, w₁, hq, StepsIn.trans s0 (StepsIn.trans h1 (.one (fenced_wide P _) stepR_inBlock))⟩
 | exit j =>
  by_cases hj : j = i
  ·simp only [Exit.inBlock, hj, if_true] at hq
   exact ⟨.normal, a₁, w₁, hq, StepsIn.trans s0 (h1.1 k (by simp [exitTo, hj]))⟩
  ·simp only [Exit.inBlock, hj, if_false] at hq
   have hne : (i == j) = false := beq_eq_false_iff_ne.2 (fun h => hj h.symm)
   have hx : exitTo j (.inBlock i :: k) = exitTo j k := by simp [exitTo, hne]
   exact ⟨.exit j, a₁, w₁, hq, fun k' hk => StepsIn.trans s0 (h1.1 k' (by rw [hx]; exact hk)), fun hr' hk => let ⟨k₁, u1, u2⟩ := h1.2 hr' (by rw [hx]; exact hk); ⟨k₁, u1, StepsIn.trans s0 u2⟩⟩
 | goto l =>
  have hx : gotoIn l (.inBlock i :: k) = gotoIn l k := by simp [gotoIn]
  exact ⟨_, a₁, w₁, hq, fun k' hk => StepsIn.trans s0 (h1.1 k' (by rw [hx]; exact hk)), fun hr' hk => let ⟨k₁, u1, u2⟩ := h1.2 hr' (by rw [hx]; exact hk); ⟨k₁, u1, StepsIn.trans s0 u2⟩⟩
 | ret => exact ⟨_, a₁, w₁, hq, .of_steps s0 h1⟩
 | panic ch => exact ⟨_, a₁, w₁, hq, .of_steps s0 h1⟩
 | outgrown => exact ⟨_, a₁, w₁, hq, .of_steps s0 h1⟩
end Go
