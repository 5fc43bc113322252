/- joined: RatP RatQ BrcC -/
import Derived.Test.YtdgfjdhobdfglaaGreatDoorG33
set_option linter.unusedSimpArgs false
set_option linter.unusedVariables false
set_option maxRecDepth 100000
namespace Go.Proofs.YtdgfjdhobdfglaaGreatDoor
open Go.RowKit Go.Lib
def pvOf (g n : Nat) : Value := .slice (some ⟨g, 0, none⟩) n 32
structure RdS (S PS SS : Nat -> Prop) (rb g : Nat) (sv : Value) (p : List El) (A : List (List El)) (w : World) : Prop where
 td : Td w
 bx : w.heap[rb]? = some (.cells #[sv] 43 (0, 0))
 op : OwnP w 0 PS (pvOf g p.length) p
 oq : OwnQ w 0 SS sv A
 lo : 9 < rb /\ 9 < g /\ g ≠ rb /\ ∀ r, sv.ownBlock = some r -> 9 < r /\ r ≠ rb /\ r ≠ g
 hp : ∀ b, PS b -> b ≠ rb /\ some b ≠ sv.ownBlock
 hs : ∀ b, SS b -> b ≠ rb /\ b ≠ g
 hS : ∀ b, S b -> b < w.heap.size /\ b ≠ rb /\ b ≠ g /\ some b ≠ sv.ownBlock
structure Fr (rb g n : Nat) (sv : Value) (w w' : World) : Prop where
 os : w'.os = w.os
 tape : w'.tape = w.tape
 output : w'.output = w.output
 size : w.heap.size <= w'.heap.size
 block : ∀ b, b < w.heap.size -> b ≠ rb -> b ≠ g -> some b ≠ sv.ownBlock -> w'.heap[b]? = w.heap[b]?
 buf : ∀ xs, w.ownsRow 0 52 9 (pvOf g n) n xs -> w'.ownsRow 0 52 9 (pvOf g n) n xs
theorem lt_of_block {w : World} {b : Nat} {o : Obj} (h : w.heap[b]? = some o) : b < w.heap.size := (Array.getElem?_eq_some_iff.1 h).1
theorem RdS.rlt {S PS SS : Nat -> Prop} {rb g : Nat} {sv : Value} {p : List El} {A : List (List El)} {w : World} (h : RdS S PS SS rb g sv p A w) : rb < w.heap.size := lt_of_block h.bx
theorem RdS.glt {S PS SS : Nat -> Prop} {rb g : Nat} {sv : Value} {p : List El} {A : List (List El)} {w : World} (h : RdS S PS SS rb g sv p A w) : g < w.heap.size := (h.op.lt (g := g) rfl).2
theorem RdS.slt {S PS SS : Nat -> Prop} {rb g : Nat} {sv : Value} {p : List El} {A : List (List El)} {w : World} (h : RdS S PS SS rb g sv p A w) {r : Nat} (hr : sv.ownBlock = some r) : r < w.heap.size := (h.oq.lt hr).2
theorem Fr.of_below {rb g n : Nat} {sv : Value} {w w' : World} (h : Below w.heap.size w w') : Fr rb g n sv w w' := ⟨h.os, h.tape, h.output, h.size, fun b hb _ _ _ => h.block b hb, fun xs hx => own_below hx h⟩
theorem Fr.trans {rb g n : Nat} {sv sv1 : Value} {w w1 w2 : World} (h : Fr rb g n sv w w1) (k : Fr rb g n sv1 w1 w2) (hv : sv1.ownBlock = sv.ownBlock \/ ∀ r, sv1.ownBlock = some r -> w.heap.size <= r) : Fr rb g n sv w w2 :=
 ⟨k.os.trans h.os, k.tape.trans h.tape, k.output.trans h.output, Nat.le_trans h.size k.size, fun b hb h1 h2 h3 => (k.block b (Nat.lt_of_lt_of_le hb h.size) h1 h2 (fun e => by
  rcases hv with hv | hv
  ·exact h3 (e.trans hv)
  ·have := hv b e.symm; omega)).trans (h.block b hb h1 h2 h3), fun xs hx => k.buf xs (h.buf xs hx)⟩
theorem own_pre {w : World} {e sz g n k cap : Nat} {xs ys : List Value} (h : w.ownsRow 0 e sz (.slice (some ⟨g, 0, none⟩) (n + k) cap) (n + k) (xs ++ ys)) (hx : xs.length = n * sz) : w.ownsRow 0 e sz (.slice (some ⟨g, 0, none⟩) n cap) n xs := by
 obtain ⟨h1, h2⟩ := h
 rcases h2 with ⟨h2, _⟩ | ⟨g', cap', cur, h2, hg, hb, hle, hm, hcs, hpre⟩
 ·cases h2
 ·injection h2 with e1 e2 e3
  injection e1 with e1
  injection e1 with e1
  subst e1 e3
  refine ⟨hx, .inr ⟨g, cap, cur, rfl, hg, hb, by omega, hm, hcs, ?_⟩⟩
  have : cur.toList.take (n * sz) = (cur.toList.take ((n + k) * sz)).take (n * sz) := by
   rw [List.take_take, Nat.min_eq_left (Nat.mul_le_mul_right _ (by omega))]
  rw [this, hpre, <- hx, List.take_left']
  rfl
theorem RdS.after {S PS SS SS' : Nat -> Prop} {rb g : Nat} {sv sv' : Value} {p : List El} {A A' : List (List El)} {w w' : World} (h : RdS S PS SS rb g sv p A w) (f : Fr rb g p.length sv w w') (hbx : w'.heap[rb]? = some (.cells #[sv'] 43 (0, 0))) (hq : OwnQ w' 0 SS' sv' A')
 (hv : sv'.ownBlock = sv.ownBlock \/ ∀ r, sv'.ownBlock = some r -> w.heap.size <= r) (hss : ∀ b, SS' b -> SS b \/ w.heap.size <= b) : RdS S PS SS' rb g sv' p A' w' := by
 have hr := h.rlt
 have hg := h.glt
 obtain ⟨l1, l2, l3, l4⟩ := h.lo
 have ho : ∀ b, b < w.heap.size -> some b ≠ sv.ownBlock -> some b ≠ sv'.ownBlock := fun b hb h1 e => by
  rcases hv with hv | hv
  ·exact h1 (e.trans hv)
  ·have := hv b e.symm; omega
 have h10 : Below 10 w w' := ⟨f.os, f.tape, f.output, f.size, fun b hb => by
  have hz := h.td.z
  refine f.block b (by omega) (by omega) (by omega) (fun e => ?_)
  have := (l4 b e.symm).1
  omega⟩
 refine ⟨h.td.below h10 (by omega) f.size, hbx, ?_, hq, ⟨l1, l2, l3, fun r hr' => ?_⟩, fun b hb => ⟨(h.hp b hb).1, ho b (h.op.off b hb).2.1 (h.hp b hb).2⟩, fun b hb => ?_, fun b hb => ?_⟩
 ·obtain ⟨⟨xs, o1, o2⟩, o3⟩ := h.op
  refine ⟨⟨xs, f.buf xs o1, fun j hj => keepP _ _ _ _ _ _ (fun b hb => f.block b (o3 b hb).2.1 (h.hp b hb).1 (fun e => (o3 b hb).2.2 (by rw [e]; rfl)) (h.hp b hb).2) (fun _ h => h) (o2 j hj)⟩, fun b hb => ⟨Nat.zero_le _, Nat.lt_of_lt_of_le (o3 b hb).2.1 f.size, (o3 b hb).2.2⟩⟩
 ·rcases hv with hv | hv
  ·exact l4 r (hv ▸ hr')
  ·have := hv r hr'
   exact ⟨by omega, by omega, by omega⟩
 ·rcases hss b hb with h1 | h1
  ·exact h.hs b h1
  ·exact ⟨by omega, by omega⟩
 ·have h1 := h.hS b hb
  exact ⟨Nat.lt_of_lt_of_le h1.1 f.size, h1.2.1, h1.2.2.1, ho b h1.1 h1.2.2.2⟩
theorem RdS.below {S PS SS : Nat -> Prop} {rb g : Nat} {sv : Value} {p : List El} {A : List (List El)} {w w' : World} (h : RdS S PS SS rb g sv p A w) (b : Below w.heap.size w w') : RdS S PS SS rb g sv p A w' :=
 h.after (Fr.of_below b) ((b.block _ h.rlt).trans h.bx) (h.oq.below keepQ b) (.inl rfl) (fun _ h => .inl h)
theorem RdS.more {S S' PS SS : Nat -> Prop} {rb g N : Nat} {sv : Value} {p : List El} {A : List (List El)} {w : World} (h : RdS S PS SS rb g sv p A w) (hr : rb < N) (hg : g < N) (hv : ∀ r, sv.ownBlock = some r -> r < N) (hS : ∀ b, S' b -> S b \/ (N <= b /\ b < w.heap.size)) : RdS S' PS SS rb g sv p A w :=
 ⟨h.td, h.bx, h.op, h.oq, h.lo, h.hp, h.hs, fun b hb => (hS b hb).elim (h.hS b) (fun h1 => ⟨h1.2, by omega, by omega, fun e => by have := hv b e.symm; omega⟩)⟩
theorem RdS.push {S PS SS T : Nat -> Prop} {rb g : Nat} {sv : Value} {p : List El} {A : List (List El)} {w w' : World} {el : El} {xs cx : List Value} (h : RdS S PS SS rb g sv p A w)
 (o1 : w.ownsRow 0 52 9 (pvOf g p.length) p.length xs) (o2 : ∀ (j : Nat) (hj : j < p.length), EP p[j] w PS ((xs.drop (j * 9)).take 9))
 (n1 : w'.ownsRow 0 52 9 (pvOf g (p.length + 1)) (p.length + 1) (xs ++ cx)) (gr : w.grownBy w' (some g)) (hl : EP el w T cx) (hcx : cx.length = 9) (hT : ∀ b, T b -> S b) :
 RdS S (fun b => PS b \/ T b) SS rb g sv (p ++ [el]) A w' := by
 have hr := h.rlt
 obtain ⟨l1, l2, l3, l4⟩ := h.lo
 have hb : ∀ b, b < w.heap.size -> b ≠ g -> w'.heap[b]? = w.heap[b]? := fun b h1 h2 => gr.block b h1 (fun e => h2 (by injection e))
 have h10 : Below 10 w w' := ⟨gr.os, gr.tape, gr.output, gr.size, fun b hb' => hb b (by have := h.td.z; omega) (by omega)⟩
 have e0 : (p ++ [el]).length = p.length + 1 := by simp
 have hTg : ∀ b, T b -> b < w.heap.size /\ b ≠ rb /\ b ≠ g /\ some b ≠ sv.ownBlock := fun b hb => h.hS b (hT b hb)
 refine ⟨h.td.below h10 (by omega) gr.size, (hb _ hr (fun e => l3 e.symm)).trans h.bx, ?_, ?_, ⟨l1, l2, l3, l4⟩, fun b hb' => ?_, h.hs, fun b hb' => ?_⟩
 ·rw [e0]
  refine ⟨⟨xs ++ cx, by rw [e0]; exact n1, fun j hj => ?_⟩, fun b hb' => ?_⟩
  ·by_cases hjl : j < p.length
   ·rw [List.getElem_append_left hjl, chunk_left o1.1 hjl]
    exact keepP _ _ _ _ _ _ (fun b h' => hb b (h.op.off b h').2.1 (fun e => (h.op.off b h').2.2 (by rw [e]; rfl))) (fun _ h => .inl h) (o2 j hjl)
   ·have hj' : j = p.length := by simp at hj; omega
    subst hj'
    rw [List.getElem_append_right (Nat.le_refl _), chunk_last o1.1 hcx]
    simp only [Nat.sub_self, List.getElem_cons_zero]
    exact keepP _ _ _ _ _ _ (fun b h' => hb b (hTg b h').1 (hTg b h').2.2.1) (fun _ h => .inr h) hl
  ·rcases hb' with h' | h'
   ·exact ⟨Nat.zero_le _, Nat.lt_of_lt_of_le (h.op.off b h').2.1 gr.size, (h.op.off b h').2.2⟩
   ·exact ⟨Nat.zero_le _, Nat.lt_of_lt_of_le (hTg b h').1 gr.size, fun e => (hTg b h').2.2.1 (by simpa [pvOf, Value.ownBlock] using e)⟩
 ·exact h.oq.keep keepQ gr (fun r e => by
   injection e with e
   subst e
   exact ⟨fun hs => (h.hs _ hs).2 rfl, fun e => (l4 _ e).2.2 rfl⟩)
 ·rcases hb' with h' | h'
  ·exact h.hp b h'
  ·exact ⟨(hTg b h').2.1, (hTg b h').2.2.2⟩
 ·have h1 := h.hS b hb'
  exact ⟨Nat.lt_of_lt_of_le h1.1 gr.size, h1.2⟩
theorem Fr.push {rb g n : Nat} {sv : Value} {w w' : World} {xs cx : List Value} (o1 : w.ownsRow 0 52 9 (pvOf g n) n xs) (n1 : w'.ownsRow 0 52 9 (pvOf g (n + 1)) (n + 1) (xs ++ cx)) (gr : w.grownBy w' (some g)) : Fr rb g n sv w w' :=
 ⟨gr.os, gr.tape, gr.output, gr.size, fun b hb _ h2 _ => gr.block b hb (fun e => h2 (by injection e)), fun ys hy => by
  have e : ys = xs := by
   obtain ⟨a1, a2⟩ := hy
   obtain ⟨b1, b2⟩ := o1
   rcases a2 with ⟨a2, _⟩ | ⟨g', c', cur, a2, _, ab, _, _, _, ap⟩
   ·cases a2
   rcases b2 with ⟨b2, _⟩ | ⟨g2, c2, cur2, b2, _, bb, _, _, _, bp⟩
   ·cases b2
   injection a2 with a2 _ _
   injection a2 with a2
   injection a2 with a2
   injection b2 with b2 _ _
   injection b2 with b2
   injection b2 with b2
   subst a2 b2
   rw [ab] at bb
   injection bb with bb
   injection bb with bb
   subst bb
   rw [<- ap, <- bp]
  subst e
  exact own_pre n1 o1.1⟩
theorem Fr.down {rb g n : Nat} {sv sv1 : Value} {w w5 w6 : World} {xs cx : List Value} (f : Fr rb g n sv w w5) (n1 : w5.ownsRow 0 52 9 (pvOf g (n + 1)) (n + 1) (xs ++ cx)) (hx : xs.length = n * 9) (k : Fr rb g (n + 1) sv1 w5 w6) (hv : sv1.ownBlock = sv.ownBlock \/ ∀ r, sv1.ownBlock = some r -> w.heap.size <= r) : Fr rb g n sv w w6 :=
 ⟨k.os.trans f.os, k.tape.trans f.tape, k.output.trans f.output, Nat.le_trans f.size k.size, fun b hb h1 h2 h3 => (k.block b (Nat.lt_of_lt_of_le hb f.size) h1 h2 (fun e => by
  rcases hv with hv | hv
  ·exact h3 (e.trans hv)
  ·have := hv b e.symm; omega)).trans (f.block b hb h1 h2 h3), fun ys hy => by
  have h5 := k.buf _ n1
  have h6 := f.buf ys hy
  have h7 := own_pre n1 hx
  have e : ys = xs := by
   obtain ⟨a1, a2⟩ := h6
   obtain ⟨b1, b2⟩ := h7
   rcases a2 with ⟨a2, _⟩ | ⟨g', c', cur, a2, _, ab, _, _, _, ap⟩
   ·cases a2
   rcases b2 with ⟨b2, _⟩ | ⟨g2, c2, cur2, b2, _, bb, _, _, _, bp⟩
   ·cases b2
   injection a2 with a2 _ _
   injection a2 with a2
   injection a2 with a2
   injection b2 with b2 _ _
   injection b2 with b2
   injection b2 with b2
   subst a2 b2
   rw [ab] at bb
   injection bb with bb
   injection bb with bb
   subst bb
   rw [<- ap, <- bp]
  subst e
  exact own_pre h5 hx⟩
theorem step_fits {P : Program} {ops : Array Oper} {o : Oper} {a : Act} {w : World} {K' : Act -> World -> Prop} {Q : Exit -> Act -> World -> Prop} {D : Prop} (hgd : o.guard = none) (s x : Operand) (t e : TypeId) (i : TypeInfo) (size : Nat)
 (ho : o.op = .call { callee := .builtin .append, args := #[s, x], argTypes := #[t, t] }) (ht : P.underlying t = some (.slice e)) (hi : P.info? e = some i) (hsize : i.size = size)
 (g n cap : Nat) (xs : List Value) (hs : a.eval s = .slice (some ⟨g, 0, none⟩) n cap) (hown : w.ownsRow 0 e size (.slice (some ⟨g, 0, none⟩) n cap) n xs) (tb c : Nat) (cx : List Value) (hx : a.eval x = .slice (some ⟨tb, 0, none⟩) 1 c) (fz : Nat × Nat) (htb : w.heap[tb]? = some (.cells cx.toArray e fz)) (hcx : cx.length = size) (h1c : ∀ u ∈ cx, u.oneCell' = true) (hroom : n + 1 <= cap)
 (h : ∀ w', w'.ownsRow 0 e size (.slice (some ⟨g, 0, none⟩) (n + 1) cap) (n + 1) (xs ++ cx) -> w.grownBy w' (some g) -> K' (a.put o.dst (.slice (some ⟨g, 0, none⟩) (n + 1) cap)) w') :
 if Region.wanted o (yielded ops a.tmps) = true then Oper.wp P o a w K' Q else D := by
 have hw : Region.wanted o (yielded ops a.tmps) = true := by simp [Region.wanted, hgd]
 rw [if_pos hw]
 obtain ⟨w', hrun, r1, r2⟩ := run_append_fits (P := P) w 0 t o.type e i size ht hi hsize g n cap xs hown ⟨tb, 0, none⟩ 1 c cx (by omega) (cells_of_block htb) h1c hroom
 unfold Oper.wp
 simp [execOp, ho, resolve, invoke, builtin, hs, hx, hrun, Result.andThen]
 exact h w' r1 r2
theorem step_setQ {ops : Array Oper} {o : Oper} {a : Act} {W : World} {K' : Act -> World -> Prop} {Q : Exit -> Act -> World -> Prop} {D : Prop} (hgd : o.guard = none) (s x : Operand)
 (ho : o.op = .call { callee := .builtin .append, args := #[s, x], argTypes := #[28, 28] }) {SS T : Nat -> Prop} {A : List (List El)} (sv : Value) {y : List El} {cv : Value} (hs : a.eval s = sv) (hown : OwnQ W 0 SS sv A) (c : Nat) (hx : a.eval x = .slice (some ⟨W.heap.size, 0, none⟩) 1 c)
 (hl : EQ y W T [cv]) (hT : ∀ b, T b -> b < W.heap.size /\ some b ≠ sv.ownBlock) (hlen : A.length <= 4294967296)
 (k : ∀ g cap w', OwnQ w' 0 (fun b => SS b \/ T b) (.slice (some ⟨g, 0, none⟩) (A.length + 1) cap) (A ++ [y]) -> (W.alloc (.cells #[cv] 46)).grownBy w' sv.ownBlock -> (sv.ownBlock = some g \/ W.heap.size < g) -> K' (a.put o.dst (.slice (some ⟨g, 0, none⟩) (A.length + 1) cap)) w') :
 if Region.wanted o (yielded ops a.tmps) = true then Oper.wp Tryz.prog o a (W.alloc (.cells #[cv] 46)) K' Q else D := by
 obtain ⟨i0, h0, h1, h2, h3⟩ := infoQ'
 have ba : Below W.heap.size W (W.alloc (.cells #[cv] 46)) := (Below.refl _ _).alloc (Nat.le_refl _) _
 have hza := alloc_size W (.cells #[cv] 46)
 refine step_push keepQ hgd s x 28 ho 0 i0 _ 24 Tryz.underlying28 h0 h1 h2 h3 rfl (by decide) (by decide) sv y hs (hown.alloc keepQ _) W.heap.size c (0, 0) hx (heap_alloc_new W _) (EQ.seven hl).1 (EQ.seven hl).2 (keepQ _ _ _ _ _ _ (fun b hb => ba.block b (hT b hb).1) (fun _ h => h) hl) (fun b hb => ⟨Nat.zero_le _, by have := (hT b hb).1; omega, (hT b hb).2⟩) hlen (Nat.zero_le _) ?_
 intro g cap w' o' gr e
 exact k g cap w' o' gr (e.imp id (fun h => by omega))
def RtPost (v : V) (D : Option (List (List El))) (SS : Nat -> Prop) (rb g : Nat) (sv : Value) (p : List El) (A : List (List El)) (w : World) (e : Ending) (w' : World) : Prop :=
 Fr rb g p.length sv w w' /\ ((D = none /\ e = .returned (.bool false)) \/ ∃ D' L sv' SS', D = some D' /\ Rs D' L /\ L.length <= v.wt /\ e = .returned (.bool true) /\ w'.heap[rb]? = some (.cells #[sv'] 43 (0, 0)) /\ OwnQ w' 0 SS' sv' (A ++ L) /\ (sv'.ownBlock = sv.ownBlock \/ ∀ r, sv'.ownBlock = some r -> w.heap.size <= r) /\ ∀ b, SS' b -> SS b \/ w.heap.size <= b)
def wtB : List (El × V) -> Nat
 | [] => 0
 | (_, x) :: t => x.wt + wtB t
theorem wtB_app : ∀ a b : List (El × V), wtB (a ++ b) = wtB a + wtB b
 | [], b => by simp [wtB]
 | (e, x) :: t, b => by simp only [List.cons_append, wtB, wtB_app t b]; omega
theorem wtB_perm {a b : List (El × V)} (h : a.Perm b) : wtB a = wtB b := by
 induction h with
 | nil => rfl
 | cons x _ ih => obtain ⟨e, v⟩ := x; simp only [wtB, ih]
 | swap x y l => obtain ⟨e, v⟩ := x; obtain ⟨e', v'⟩ := y; simp only [wtB]; omega
 | trans _ _ h1 h2 => rw [h1, h2]
theorem wtB_take {B : List (El × V)} {j : Nat} (h : j < B.length) : wtB (B.take (j + 1)) = wtB (B.take j) + (B[j]).2.wt := by
 rw [List.take_succ_eq_append_getElem h, wtB_app]
 rcases B[j] with ⟨e, x⟩
 simp [wtB]
theorem wtB_tk (B : List (El × V)) (j : Nat) : wtB (B.take j) <= wtB B := by
 have := wtB_app (B.take j) (B.drop j)
 rw [List.take_append_drop] at this
 omega
theorem br_wt : ∀ {m : List Mem} {B : List (El × V)}, brF m = some B -> wtB B <= wtM m
 | [], B, h => by rw [brF] at h; injection h with h; subst h; simp [wtB]
 | (k, x) :: t, B, h => by
  rw [brF] at h
  split at h
  ·cases h
  ·cases hb : brF t with
   | none => rw [hb] at h; cases h
   | some B' =>
    rw [hb] at h
    simp at h
    subst h
    have := br_wt hb
    simp only [wtB, wtM]
    omega
theorem cut_wt (m : List Mem) : wtM (cutF m).2.1 <= wtM m := by
 cases m with
 | nil => exact Nat.le_refl _
 | cons y t =>
  obtain ⟨k, x⟩ := y
  rw [cutF]
  split
  ·simp only [wtM]; omega
  ·exact Nat.le_refl _
theorem cut_mem {m : List Mem} {y : Mem} (h : y ∈ (cutF m).2.1) : y ∈ m := by
 cases m with
 | nil => exact h
 | cons z t =>
  obtain ⟨k, x⟩ := z
  rw [cutF] at h
  split at h
  ·exact List.mem_cons_of_mem _ h
  ·exact h
theorem cut_pw {m : List Mem} (h : m.Pairwise (fun a b => ltB a.1 b.1 = true)) : (cutF m).2.1.Pairwise (fun a b => ltB a.1 b.1 = true) := by
 cases m with
 | nil => exact h
 | cons z t =>
  obtain ⟨k, x⟩ := z
  rw [cutF]
  split
  ·exact (List.pairwise_cons.1 h).2
  ·exact h
theorem ksM_cut {m : List Mem} (h : ksM m) : ksM (cutF m).2.1 := by
 cases m with
 | nil => exact h
 | cons z t =>
  obtain ⟨k, x⟩ := z
  rw [cutF]
  split
  ·rw [ksM] at h; exact h.2.2
  ·exact h
theorem chkM_mem (D : Nat) : ∀ (m : List Mem) (lv : Nat) (st : St), st.2.2 <= D -> (chkM D m lv st).1 = 0 -> ∀ y ∈ m, ∃ st' : St, st'.2.2 <= D /\ (chkV D y.2 lv st').1 = 0
 | [], lv, st, hd, h, y, hy => by cases hy
 | (k, x) :: t, lv, st, hd, h, y, hy => by
  rw [chkM] at h
  split at h
  ·rename_i h0
   rcases List.mem_cons.1 hy with rfl | hy
   ·exact ⟨st, hd, h0⟩
   ·exact chkM_mem D t lv _ (chkV_d D x lv st hd h0) h y hy
  ·rename_i h0
   exact (h0 h).elim
theorem chkV_lv {D : Nat} {v : V} {lv : Nat} {st : St} (hd : st.2.2 <= D) (h : (chkV D v lv st).1 = 0) : lv <= D := by
 obtain ⟨k, b, i, s, l, m⟩ := v
 rw [chkV] at h
 dsimp only at h
 split at h
 ·rename_i h0
  exact (entF_ok hd h0).2
 ·rename_i h0
  exact (h0 h).elim
theorem chkV_kids {D : Nat} {k : Int} {b : Bool} {i : Int} {s : ByteArray} {l : List V} {m : List Mem} {lv : Nat} {st : St} (hd : st.2.2 <= D) (h : (chkV D (.mk k b i s l m) lv st).1 = 0) : riseB m = true /\ ksM m /\ ∀ y ∈ m, ∃ st' : St, st'.2.2 <= D /\ (chkV D y.2 (lv + 1) st').1 = 0 := by
 have hg := chkV_allG D _ lv st h
 have hk := chkV_ks D _ lv st hd h
 rw [allG] at hg
 rw [ksV] at hk
 rw [chkV] at h
 dsimp only at h
 split at h
 ·rename_i h0
  have e := (entF_ok hd h0).1
  split at h
  ·rename_i h1
   refine ⟨?_, hk, chkM_mem D m (lv + 1) _ (chkL_bnd D l (lv + 1) _ e h1).d h⟩
   have := hg.1
   rw [goodB, Bool.and_eq_true] at this
   exact this.2
  ·rename_i h1
   exact (h1 h).elim
 ·rename_i h0
  exact (h0 h).elim
end Go.Proofs.YtdgfjdhobdfglaaGreatDoor
set_option maxRecDepth 100000
namespace Go.Proofs.YtdgfjdhobdfglaaGreatDoor
open Go.RowKit Go.Lib
theorem set_step {S2 PS SS : Nat -> Prop} {rb g : Nat} {sv cv : Value} {p : List El} {A : List (List El)} {w2 w4 w6 : World} {g5 cap : Nat} (r : RdS S2 PS SS rb g sv p A w2) (b4 : Below w2.heap.size w2 w4)
 (o6 : OwnQ w6 0 (fun b => SS b \/ New w2 w4 b) (.slice (some ⟨g5, 0, none⟩) (A.length + 1) cap) (A ++ [p])) (gr : (w4.alloc (.cells #[cv] 46)).grownBy w6 sv.ownBlock) (e6 : sv.ownBlock = some g5 \/ w4.heap.size < g5) :
 w6.heap[rb]? = some (.cells #[sv] 43 (0, 0)) /\
 Fr rb g p.length sv w2 (w6.setCell ⟨rb, 0, none⟩ (.slice (some ⟨g5, 0, none⟩) (A.length + 1) cap)) /\ (w6.setCell ⟨rb, 0, none⟩ (.slice (some ⟨g5, 0, none⟩) (A.length + 1) cap)).heap[rb]? = some (.cells #[.slice (some ⟨g5, 0, none⟩) (A.length + 1) cap] 43 (0, 0)) /\
 OwnQ (w6.setCell ⟨rb, 0, none⟩ (.slice (some ⟨g5, 0, none⟩) (A.length + 1) cap)) 0 (fun b => SS b \/ New w2 w4 b) (.slice (some ⟨g5, 0, none⟩) (A.length + 1) cap) (A ++ [p]) := by
 have hr := r.rlt
 have hg := r.glt
 have hz4 := b4.size
 obtain ⟨l1, l2, l3, l4⟩ := r.lo
 have ba : Below w2.heap.size w2 (w4.alloc (.cells #[cv] 46)) := b4.alloc hz4 _
 have hza := alloc_size w4 (.cells #[cv] 46)
 have hgs := gr.size
 have hrs : some rb ≠ sv.ownBlock := fun e => (l4 rb e.symm).2.1 rfl
 have hgsv : some g ≠ sv.ownBlock := fun e => (l4 g e.symm).2.2 rfl
 have h6 : ∀ b, b < w2.heap.size -> some b ≠ sv.ownBlock -> w6.heap[b]? = w2.heap[b]? := fun b hb hne => (gr.block b (by omega) hne).trans (ba.block b hb)
 have bx6 := (h6 rb hr hrs).trans r.bx
 have g7 := grown_set1 w6 rb 0 (.slice (some ⟨g5, 0, none⟩) (A.length + 1) cap)
 have hz7 := g7.size
 have hg5 : g5 ≠ rb := by
  rcases e6 with e | e
  ·exact (l4 g5 e).2.1
  ·omega
 refine ⟨bx6, ⟨g7.os.trans (gr.os.trans ba.os), g7.tape.trans (gr.tape.trans ba.tape), g7.output.trans (gr.output.trans ba.output), by omega, fun b hb h1 h2 h3 => (set_other h1).trans (h6 b hb h3), fun xs hx => ?_⟩, ?_, ?_⟩
 ·have x1 := own_below hx ba
  have x2 := own_keep x1 gr (fun k e e' => by
   have : g = k := by simpa [pvOf, Value.ownBlock] using e'
   subst this
   exact hgsv e.symm)
  exact own_keep x2 g7 (fun k e e' => by
   have h1 : g = k := by simpa [pvOf, Value.ownBlock] using e'
   injection e with e
   omega)
 ·rw [set_block bx6]; rfl
 ·refine o6.keep keepQ g7 (fun k e => ?_)
  injection e with e
  subst e
  refine ⟨fun h => ?_, fun h => ?_⟩
  ·rcases h with h | h
   ·exact (r.hs _ h).1 rfl
   ·have := h.1; omega
  ·have : g5 = rb := by simpa [Value.ownBlock] using h
   exact hg5 this
theorem set_at {S2 PS SS : Nat -> Prop} {rb g : Nat} {sv sv' : Value} {p : List El} {A : List (List El)} {w2 w4 w7 : World} {g5 n cap : Nat} (r : RdS S2 PS SS rb g sv p A w2) (b4 : Below w2.heap.size w2 w4) (e6 : sv.ownBlock = some g5 \/ w4.heap.size < g5) (hsv : sv' = .slice (some ⟨g5, 0, none⟩) n cap)
 (f7 : Fr rb g p.length sv w2 w7) (hb : w7.heap[rb]? = some (.cells #[sv'] 43 (0, 0))) (hq : OwnQ w7 0 (fun b => SS b \/ New w2 w4 b) sv' (A ++ [p])) :
 RdS S2 PS (fun b => SS b \/ New w2 w4 b) rb g sv' p (A ++ [p]) w7 /\ (sv'.ownBlock = sv.ownBlock \/ ∀ r, sv'.ownBlock = some r -> w2.heap.size <= r) := by
 have hz4 := b4.size
 have hv : sv'.ownBlock = sv.ownBlock \/ ∀ r, sv'.ownBlock = some r -> w2.heap.size <= r := by
  subst hsv
  rcases e6 with e | e
  ·exact .inl e.symm
  ·refine .inr (fun k hk => ?_)
   have : g5 = k := by simpa [Value.ownBlock] using hk
   omega
 exact ⟨r.after f7 hb hq hv (fun b h => h.imp id (fun h => h.1)), hv⟩
end Go.Proofs.YtdgfjdhobdfglaaGreatDoor
set_option maxRecDepth 100000
namespace Go.Proofs.YtdgfjdhobdfglaaGreatDoor
open Go.RowKit Go.Lib
set_option maxHeartbeats 16000000 in
theorem branches_any (m : List Mem) (S : Nat -> Prop) (am : Option Addr) (cm bm om : Nat) (w : World) (tb : Td w) (ham : Headed am m.length cm bm om) (hm : liesM false w S m bm om) (hS : ∀ b, S b -> b < w.heap.size) (hks : ksM m) (hwt : m.length <= 2147483647) :
 Calls Tryz.prog 21 #[.slice am m.length cm] w (BrPost m S w) := by
 have HM := hmk hm
 have HKS := hmk hks
 have HTB := hmk tb
 have HS := hmk hS
 clear hm hks tb
 go_enter Tryz.func21, Tryz.ntmps21
 go_wp2_with fail
 go_loopw [4, 12] (fun e4 e wr => ∃ (j : Nat) (A : List (El × V)), j <= m.length /\ e = .int .i64 (j : Int) /\ OutB w S A e4 wr /\ A.length = j /\ Hid (brF (m.take j) = some A)) (fun _ e _ => m.length - (RowKit.intOf e).toNat)
 case atStart => exact ⟨0, [], by omega, rfl, OutB.nil _ _, rfl, hmk (by simp [brF])⟩
 case round =>
  obtain ⟨j, A, hj, rfl, oj, hAl, HA⟩ := hrel
  have bj := oj.b
  have hzr := bj.size
  by_cases hjl : j < m.length
  case neg =>
   obtain rfl : j = m.length := by omega
   have y1 : ¬ (m.length : Int) < m.length := by omega
   have HA' : Hid (brF m = some A) := by have := HA.out; rwa [List.take_length] at this
   clear HA
   obtain ⟨SP, ow, hsp⟩ := oj.o
   have hf := oj.f
   obtain ⟨⟨xs, h1, h2⟩, h3⟩ := ow
   have hform := own_form h1
   have OW : Hid (OwnR EB 64 15 wr 0 SP u4 A) := ⟨⟨xs, h1, h2⟩, h3⟩
   have HSP := hmk hsp
   have BJ := hmk bj
   clear h1 h2 h3 oj bj hsp
   rcases hform with ⟨rfl, hA0⟩ | ⟨g, cap, rfl⟩
   ·have hA1 : A = [] := List.eq_nil_of_length_eq_zero hA0
    subst hA1
    have c := hmk (bsort_nil wr)
    clear hAl hA0
    go_wp2_with fail
    refine c.out.mono ?_
    rintro e w1 ⟨rfl, rfl⟩
    go_wp2_with fail
    go_ret2
    exact ⟨BJ.out, .inr ⟨[], [], none, 0, 0, 0, HA'.out, List.Perm.refl _, List.Pairwise.nil, rfl, ⟨Nat.le_refl _, by simp [maxLen], .inl rfl, fun _ => rfl⟩, fun j h => by simp at h⟩⟩
   ·obtain ⟨d, hd1, hd2, hg, hcap, hcap2⟩ := own_bc OW.out rfl
    have hdl : d.length = A.length := by rw [<- hd1]; simp
    have hne : ∀ b, SP b -> b < wr.heap.size /\ b ≠ g := fun b hb => ⟨(OW.out.off b hb).2.1, fun e => (OW.out.off b hb).2.2 (by rw [e]; rfl)⟩
    have c := hmk (bsort_any d g cap wr (fun _ _ => rfl) hne hd2 hg (by omega))
    rw [hdl] at c
    have hgw := hf g rfl
    have HD := hmk hd1
    have hnn : A.length <= 2147483647 := by omega
    have HDL := hmk hdl
    clear hd2 OW hd1 hdl hAl
    generalize A.length = n at *
    go_wp2_with fail
    refine c.out.mono ?_
    rintro e w1 ⟨rfl, d', hp, hs, hr, gr⟩
    have HP := hmk hp
    have HR := hmk hr
    have HSR := hmk hs
    have B1 := hmk (BJ.out.grown gr hzr (fun k e => by cases e; exact hgw))
    have hz1 := gr.size
    have HGR := hmk gr
    have hd'l : Hid (d'.length = n) := by
     show _ = _
     exact hp.length_eq.trans HDL.out
    clear hp hr hs c gr
    go_wp2_with fail
    go_ret2
    refine ⟨B1.out, .inr ⟨A, d'.map BC.pr, some ⟨g, 0, none⟩, cap, g, 0, HA'.out, ?_, ?_, ?_, ?_, ?_⟩⟩
    ·rw [<- HD.out]; exact HP.out.map _
    ·exact List.pairwise_map.2 (HSR.out.imp (fun {x y} h => (by have h' : 0 <= oeE y.e x.e := h; show ¬ oeE y.e x.e < 0; omega)))
    ·rw [List.length_map, hd'l.out]; rfl
    ·rw [List.length_map, hd'l.out]; exact ⟨by omega, hcap2, .inr rfl, fun e => by cases e⟩
    ·intro i hi
     have hi' : i < d'.length := by simpa using hi
     refine ⟨.inr ⟨hgw, by omega⟩, (d'[i]).enc, HR.out i hi', ?_⟩
     rw [List.getElem_map]
     refine keepB _ _ _ _ _ _ (fun b hb => ?_) (fun b hb => ?_) (⟨_, _, rfl, (d'[i]).he, (d'[i]).hv⟩ : EB (d'[i]).pr wr SP (d'[i]).enc)
     ·exact HGR.out.block b (hne b hb).1 (fun e => (hne b hb).2 (by injection e))
     ·rcases HSP.out b hb with h | h
      ·exact .inl h
      ·exact .inr ⟨h, by have := (hne b hb).1; omega⟩
  have y1 : (j : Int) < m.length := by omega
  obtain ⟨hSb, hks', csj, hrow, hlj⟩ := liesM_get HM.out j hjl
  obtain rfl : am = some ⟨bm, om, none⟩ := ham.at_.resolve_left (by omega)
  obtain ⟨hkz, hkx⟩ := ksM_get HKS.out hjl
  have HBS : Hid (∀ e, elF (m[j]).1 = some e -> brF (m.take (j + 1)) = some (A ++ [(e, (m[j]).2)])) := fun e he => br_snoc hjl HA.out he
  have HBN : Hid (elF (m[j]).1 = none -> brF m = none) := fun he => brF_none (List.getElem_mem hjl) he
  generalize (m[j]).1 = key at *
  generalize (m[j]).2 = x at *
  obtain ⟨xk, xb, xi, xs, xal, xnl, xcl, xam, xnm, xcm, rfl⟩ := V.ten hlj
  have kb : Hid (∀ W, Below w.heap.size w W -> ∀ b, S b -> W.heap[b]? = w.heap[b]?) := fun W hb b h => hb.block b (HS.out b h)
  obtain ⟨q, q0, q1, q2, q3, q4, q5⟩ := row7 (hrow.keep (kb.out wr bj _ hSb))
  have HBX : Hid ((wr.alloc (.cells #[.string key, .int .i64 xk, .bool xb, .int .i64 xi, .string xs, .slice xal xnl xcl, .slice xam xnm xcm] 40)).heap[wr.heap.size]? = some (.cells #[.string key, .int .i64 xk, .bool xb, .int .i64 xi, .string xs, .slice xal xnl xcl, .slice xam xnm xcm] 40 (0, 0))) := heap_alloc_new wr _
  have ba : Below wr.heap.size wr (wr.alloc (.cells #[.string key, .int .i64 xk, .bool xb, .int .i64 xi, .string xs, .slice xal xnl xcl, .slice xam xnm xcm] 40)) := (Below.refl _ _).alloc (Nat.le_refl _) _
  have oa := oj.below ba
  have hown : ∀ r, u4.ownBlock = some r -> w.heap.size <= r /\ r < wr.heap.size := fun r e => ⟨oj.f r e, oj.lt e⟩
  have hza := alloc_size wr (.cells #[.string key, .int .i64 xk, .bool xb, .int .i64 xi, .string xs, .slice xal xnl xcl, .slice xam xnm xcm] 40)
  have HX := hmk hlj
  have B1 := hmk (bj.trans (ba.mono hzr))
  have c1 := hmk (parse_any key _ (HTB.out.below B1.out HTB.out.z B1.out.size) (by omega))
  have HEL : Hid (elF key = if (parF key.data.toList 33 0 []).2.2 = 0 then (match (parF key.data.toList 33 0 []).1 with | [e] => some e | _ => none) else none) := rfl
  clear hrow hlj oj ba
  have z0 : (wr.alloc (.cells #[.string key, .int .i64 xk, .bool xb, .int .i64 xi, .string xs, .slice xal xnl xcl, .slice xam xnm xcm] 40)).cell? ⟨wr.heap.size, 0, none⟩ = some (.string key) := by rw [cell_of_block HBX.out]; rfl
  go_wp2_with fail
  clear q q0 q1 q2 q3 q4 q5 z0
  generalize wr.alloc (.cells #[.string key, .int .i64 xk, .bool xb, .int .i64 xi, .string xs, .slice xal xnl xcl, .slice xam xnm xcm] 40) = wa at *
  refine c1.out.mono ?_
  generalize parF key.data.toList 33 0 [] = P at *
  rintro e w2 ⟨aq, cq, bq, oq, rfl, hhq, hlq, b2⟩
  have hz2 := b2.size
  obtain ⟨P1, P2, P3⟩ := P
  dsimp only at hhq hlq HEL ⊢
  have HLQ := hmk hlq
  have hPl : P1.length <= 9223372036854775807 := Nat.le_trans hhq.le hhq.max
  have B2 := hmk (B1.out.trans (b2.mono (by omega)))
  have HB2 := hmk b2
  clear c1 hlq
  by_cases hP3 : P3 = 0
  case neg =>
   have y4 : ¬ (P3 : Int) = 0 := by omega
   have HN : Hid (brF m = none) := HBN.out (by rw [HEL.out, if_neg hP3])
   clear HEL HLQ
   go_wp2_with fail
   go_ret2
   exact ⟨B2.out, .inl ⟨HN.out, rfl⟩⟩
  subst hP3
  by_cases hP1 : P1.length = 1
  case neg =>
   have y4 : ¬ (P1.length : Int) = 1 := by omega
   have HN : Hid (brF m = none) := HBN.out (by
    rw [HEL.out, if_pos rfl]
    clear HEL HLQ hhq hPl y4
    cases P1 with
    | nil => rfl
    | cons y t => cases t with
     | nil => exact (hP1 rfl).elim
     | cons z t => rfl)
   clear HEL HLQ
   go_wp2_with fail
   go_ret2
   exact ⟨B2.out, .inl ⟨HN.out, rfl⟩⟩
  obtain ⟨el, rfl⟩ := List.length_eq_one_iff.1 hP1
  have HSN : Hid (brF (m.take (j + 1)) = some (A ++ [(el, x)])) := HBS.out el (by rw [HEL.out, if_pos rfl])
  clear HEL hP1 HBN HBS
  obtain ⟨hSq, ecs, hre, hle⟩ := HLQ.out 0 (by simp)
  rw [List.getElem_cons_zero] at hle
  have hre' : rowAt w2 bq oq ecs := by simpa using hre
  obtain rfl : aq = some ⟨bq, oq, none⟩ := hhq.at_.resolve_left (by simp)
  obtain ⟨zk, zs, zam, znm, zcm, zvk, zvb, zvi, zvs, zval, zvnl, zvcl, zvam, zvnm, zvcm, rfl⟩ := El.nine hle
  have HLE := hmk hle
  have o2 := oa.below b2
  have NB2 : Hid (w2.heap[wr.heap.size]? = some (.cells #[.string key, .int .i64 xk, .bool xb, .int .i64 xi, .string xs, .slice xal xnl xcl, .slice xam xnm xcm] 40 (0, 0))) := (HB2.out.block _ (by omega)).trans HBX.out
  clear hle hre HLQ oa
  go_wp2_with fail
  have BD : Hid (Below w2.heap.size w2 w2.drew) := (Below.refl _ _).drew
  refine wp_region_held_drew (S := fun W => W.heap[wr.heap.size]? = some (.cells #[.string key, .int .i64 xk, .bool xb, .int .i64 xi, .string xs, .slice xal xnl xcl, .slice xam xnm xcm] 40 (0, 0)) /\ W.heap[bq]? = w2.heap[bq]?) (by kernel_rfl) ⟨NB2.out, rfl⟩ (fun hHeld => ?_)
  (refine tjA 0 ?_; (try simp only [Act.put, zA, zB, zC]))
  (refine tjA 1 ?_; (try simp only [Act.put, zA, zB, zC]))
  (refine tjA 2 ?_; (try simp only [Act.put, zA, zB, zC]))
  (refine tkA 3 ?_ ?_ ?_; rotate_left 1; (intro W0 hSw; obtain ⟨z0, z1, z2, z3, z4, z5, z6, z7, z8⟩ := row9 (hre'.keep hSw.2); go_simp; (try with_reducible rfl)); (try simp only [Act.put, zA, zB, zC]))
  (refine tjA 4 ?_; (try simp only [Act.put, zA, zB, zC]))
  (refine tkA 5 ?_ ?_ ?_; rotate_left 1; (intro W0 hSw; obtain ⟨z0, z1, z2, z3, z4, z5, z6⟩ := cN7 hSw.1; go_simp; (try with_reducible rfl)); (try simp only [Act.put, zA, zB, zC]))
  (refine tjA 6 ?_; (try simp only [Act.put, zA, zB, zC]))
  refine ryA [7] ?_
  refine rA1 fun K hK => ?_
  go_simp
  have oD := o2.below BD.out
  have hqg : some bq ≠ u4.ownBlock := fun e => by have := (hown bq e.symm).2; have := hSq.1; omega
  have hxg : some wr.heap.size ≠ u4.ownBlock := fun e => by have := (hown _ e.symm).2; omega
  refine hK.out _ _ ⟨(((Below.refl _ w2.drew).alloc (Nat.le_refl _) _).block _ (by show _ < w2.heap.size; omega)).trans NB2.out, ((Below.refl _ w2.drew).alloc (Nat.le_refl _) _).block _ (by show _ < w2.heap.size; exact hSq.2)⟩ (fun hHeld => ?_)
  clear hK K
  (try simp only [Act.put, zA, zB, zC])
  have HEB : Hid (EB (el, x) w2.drew (fun b => S b \/ New wa w2 b) [.int .i64 zk, .string zs, .slice zam znm zcm, .int .i64 zvk, .bool zvb, .int .i64 zvi, .string zvs, .slice zval zvnl zvcl, .slice zvam zvnm zvcm, .int .i64 xk, .bool xb, .int .i64 xi, .string xs, .slice xal xnl xcl, .slice xam xnm xcm]) := ⟨[.int .i64 zk, .string zs, .slice zam znm zcm, .int .i64 zvk, .bool zvb, .int .i64 zvi, .string zvs, .slice zval zvnl zvcl, .slice zvam zvnm zvcm], [.int .i64 xk, .bool xb, .int .i64 xi, .string xs, .slice xal xnl xcl, .slice xam xnm xcm], rfl, El.lies_keep (w := w2) (w' := w2.drew) (S := New wa w2) (S' := fun b => S b \/ New wa w2 b) (fun _ _ => rfl) (fun b h => .inr h) HLE.out, V.lies_keep (w := w) (w' := w2.drew) (S := S) (S' := fun b => S b \/ New wa w2 b) (fun h => h) (fun b hb => kb.out w2 B2.out b hb) (fun b h => .inl h) _ HX.out⟩
  refine ryA [8] ?_
  refine rA1 fun K hK => ?_
  refine step_outB rfl (.tmp 30) (.tmp 37) rfl u4 rfl oD HS.out HEB.out (fun b hb => hb.elim (fun h => .inl h) (fun h => .inr ⟨by have := h.1; omega, h.2, fun e => by have := (hown b e.symm).2; have := h.1; omega⟩)) 1 rfl (by omega) ?_
  intro g cap w5 o5 g5
  refine hK.out _ _ ⟨((g5.block _ (by rw [alloc_size]; show _ < w2.heap.size + 1; omega) hxg).trans (((Below.refl _ w2.drew).alloc (Nat.le_refl _) _).block _ (by show _ < w2.heap.size; omega))).trans NB2.out, (g5.block _ (by rw [alloc_size]; show _ < w2.heap.size + 1; have := hSq.2; omega) hqg).trans (((Below.refl _ w2.drew).alloc (Nat.le_refl _) _).block _ (by show _ < w2.heap.size; exact hSq.2))⟩ (fun hHeld => ?_)
  clear hK K
  (try simp only [Act.put, zA, zB, zC])
  first
   | (refine tjA 9 ?_; (try simp only [Act.put, zA, zB, zC]))
  refine wpAnyH_done (by kernel_rfl) ?_ _
  (try dsimp only [Act.put, List.getElem_toArray, List.getElem_cons_succ, List.getElem_cons_zero, List.setIfInBounds_toArray, List.set_cons_zero, List.set_cons_succ])
  clear hHeld oD o2
  rw [hAl] at o5
  go_wp2_with fail
  go_roundw
  case rel => exact ⟨j + 1, A ++ [(el, x)], by omega, by go_num, o5, by simp [hAl], HSN⟩
  case measure => simp [RowKit.intOf]; omega
end Go.Proofs.YtdgfjdhobdfglaaGreatDoor
