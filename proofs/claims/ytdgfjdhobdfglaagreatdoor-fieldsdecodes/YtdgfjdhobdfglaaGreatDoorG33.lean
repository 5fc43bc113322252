/- joined: BrcB CatK OtqK -/
import Derived.Test.YtdgfjdhobdfglaaGreatDoorG32
set_option linter.unusedSimpArgs false
set_option linter.unusedVariables false
set_option maxRecDepth 100000
namespace Go.Proofs.YtdgfjdhobdfglaaGreatDoor
open Go.RowKit Go.Lib
section
variable {α : Type} {E : α -> World -> (Nat -> Prop) -> List Value -> Prop} {ty sz : Nat} {P : Program}
theorem run_pushW (K : KeepE E) (P : Program) (w : World) (base : Nat) (t rt : TypeId) (i : TypeInfo) (z : Value) (bytes : Nat) (ht : P.underlying t = some (.slice ty)) (hi : P.info? ty = some i) (hz : i.zero = some z)
 (hsize : i.size = sz) (hby : i.bytes = bytes) (hzs : z.cells.size = sz) (hsz : 0 < sz) (hb200 : bytes <= 1000)
 {S Sx : Nat -> Prop} {v : Value} {l : List α} (x : α) {cx : List Value} (hown : OwnR E ty sz w base S v l)
 (tb c : Nat) (fz : Nat × Nat) (htb : w.heap[tb]? = some (.cells cx.toArray ty fz)) (hcx : cx.length = sz) (h1c : ∀ u ∈ cx, u.oneCell' = true) (hE : E x w Sx cx) (hSx : ∀ b, Sx b -> base <= b /\ b < w.heap.size /\ some b ≠ v.ownBlock)
 (hlen : l.length <= 4294967296) (hbase : base <= w.heap.size) :
 ∃ g cap w', (Builtin.append_ #[t, t] rt #[v, .slice (some ⟨tb, 0, none⟩) 1 c]).run P w = .ok (.slice (some ⟨g, 0, none⟩) (l.length + 1) cap) w' /\
  OwnR E ty sz w' base (fun b => S b \/ Sx b) (.slice (some ⟨g, 0, none⟩) (l.length + 1) cap) (l ++ [x]) /\ w.grownBy w' v.ownBlock /\ (v.ownBlock = some g \/ w.heap.size <= g) := by
 obtain ⟨⟨xs, h1, h2⟩, h3⟩ := hown
 have hbb : (l.length + 1) * bytes <= 140737488355328 := by
  have := Nat.mul_le_mul (show l.length + 1 <= 4294967297 by omega) hb200
  omega
 obtain ⟨g, cap, w', hrun, r1, r2, r3⟩ := run_append_new (P := P) w base t rt ty i z sz bytes ht hi hz hsize hby hzs hsz v l.length xs h1 ⟨tb, 0, none⟩ 1 c cx (by omega) (cells_of_block htb) h1c (by simp only [maxLen]; omega) hbb hbase (by omega)
 refine ⟨g, cap, w', hrun, OwnR.push K h3 h1 h2 hE hSx hcx r1 r2 ?_, r2, r3⟩
 rcases r3 with e | e
 ·exact .inl (by rw [e]; rfl)
 ·exact .inr (fun g' hg' => by simp [Value.ownBlock] at hg'; omega)
theorem step_pushW (K : KeepE E) {ops : Array Oper} {o : Oper} {a : Act} {w : World} {K' : Act -> World -> Prop} {Q : Exit -> Act -> World -> Prop} {D : Prop} (hgd : o.guard = none) (s x : Operand) (t : TypeId)
 (ho : o.op = .call { callee := .builtin .append, args := #[s, x], argTypes := #[t, t] })
 (base : Nat) (i : TypeInfo) (z : Value) (bytes : Nat) (ht : P.underlying t = some (.slice ty)) (hi : P.info? ty = some i) (hz : i.zero = some z)
 (hsize : i.size = sz) (hby : i.bytes = bytes) (hzs : z.cells.size = sz) (hsz : 0 < sz) (hb200 : bytes <= 1000)
 {S Sx : Nat -> Prop} (v : Value) {l : List α} (y : α) {cx : List Value} (hs : a.eval s = v) (hown : OwnR E ty sz w base S v l)
 (tb c : Nat) (fz : Nat × Nat) (hx : a.eval x = .slice (some ⟨tb, 0, none⟩) 1 c) (htb : w.heap[tb]? = some (.cells cx.toArray ty fz)) (hcx : cx.length = sz) (h1c : ∀ u ∈ cx, u.oneCell' = true) (hE : E y w Sx cx) (hSx : ∀ b, Sx b -> base <= b /\ b < w.heap.size /\ some b ≠ v.ownBlock)
 (hlen : l.length <= 4294967296) (hbase : base <= w.heap.size)
 (h : ∀ g cap w', OwnR E ty sz w' base (fun b => S b \/ Sx b) (.slice (some ⟨g, 0, none⟩) (l.length + 1) cap) (l ++ [y]) -> w.grownBy w' v.ownBlock -> (v.ownBlock = some g \/ w.heap.size <= g) -> K' (a.put o.dst (.slice (some ⟨g, 0, none⟩) (l.length + 1) cap)) w') :
 if Region.wanted o (yielded ops a.tmps) = true then Oper.wp P o a w K' Q else D := by
 have hw : Region.wanted o (yielded ops a.tmps) = true := by simp [Region.wanted, hgd]
 rw [if_pos hw]
 obtain ⟨g, cap, w', hrun, r1, r2, r3⟩ := run_pushW K P w base t o.type i z bytes ht hi hz hsize hby hzs hsz hb200 y hown tb c fz htb hcx h1c hE hSx hlen hbase
 unfold Oper.wp
 simp [execOp, ho, resolve, invoke, builtin, hs, hx, hrun, Result.andThen]
 exact h g cap w' r1 r2 r3
end
theorem infoB : (Tryz.prog.info? 64).map (fun i => (i.zero, i.size, i.bytes)) = some (some (.agg #[.int .i64 0, .string ⟨#[]⟩, .slice none 0 0, .int .i64 0, .bool false, .int .i64 0, .string ⟨#[]⟩, .slice none 0 0, .slice none 0 0, .int .i64 0, .bool false, .int .i64 0, .string ⟨#[]⟩, .slice none 0 0, .slice none 0 0]), 15, 224) := by kernel_rfl
structure OutB (w : World) (S : Nat -> Prop) (l : List (El × V)) (v : Value) (W : World) : Prop where
 b : Below w.heap.size w W
 o : ∃ SP, OwnR EB 64 15 W 0 SP v l /\ ∀ b, SP b -> S b \/ w.heap.size <= b
 f : ∀ r, v.ownBlock = some r -> w.heap.size <= r
theorem OutB.nil (w : World) (S : Nat -> Prop) : OutB w S [] (.slice none 0 0) w := ⟨Below.refl _ _, ⟨_, OwnR.nil _ _, fun b h => h.elim⟩, fun r h => by simp [Value.ownBlock] at h⟩
theorem OutB.below {w W W' : World} {S : Nat -> Prop} {l : List (El × V)} {v : Value} (h : OutB w S l v W) (b : Below W.heap.size W W') : OutB w S l v W' := by
 obtain ⟨SP, o, hs⟩ := h.o
 exact ⟨h.b.trans (b.mono h.b.size), ⟨SP, o.below keepB b, hs⟩, h.f⟩
theorem OutB.lt {w W : World} {S : Nat -> Prop} {l : List (El × V)} {v : Value} (h : OutB w S l v W) {r : Nat} (hr : v.ownBlock = some r) : r < W.heap.size := by
 obtain ⟨SP, o, hs⟩ := h.o
 exact (o.lt hr).2
theorem EB.fifteen {w : World} {S : Nat -> Prop} {x : El × V} {cs : List Value} (h : EB x w S cs) : cs.length = 15 /\ ∀ u ∈ cs, u.oneCell' = true := by
 obtain ⟨ec, vc, rfl, h1, h2⟩ := h
 have e1 := BC.len (⟨x.1, x.2, ec, vc, h1, h2⟩ : BC w S)
 have e2 := BC.one (⟨x.1, x.2, ec, vc, h1, h2⟩ : BC w S)
 exact ⟨e1, e2⟩
theorem step_outB {ops : Array Oper} {o : Oper} {a : Act} {K' : Act -> World -> Prop} {Q : Exit -> Act -> World -> Prop} {D : Prop} (hgd : o.guard = none) (s x : Operand)
 (ho : o.op = .call { callee := .builtin .append, args := #[s, x], argTypes := #[59, 59] })
 {w W : World} {S T : Nat -> Prop} {l : List (El × V)} (v : Value) {y : El × V} {cs : List Value} (hs : a.eval s = v) (h : OutB w S l v W) (hS : ∀ b, S b -> b < w.heap.size) (hl : EB y W T cs) (hT : ∀ b, T b -> S b \/ (w.heap.size <= b /\ b < W.heap.size /\ some b ≠ v.ownBlock))
 (c : Nat) (hx : a.eval x = .slice (some ⟨W.heap.size, 0, none⟩) 1 c) (hlen : l.length <= 4294967296)
 (k : ∀ g cap w', OutB w S (l ++ [y]) (.slice (some ⟨g, 0, none⟩) (l.length + 1) cap) w' -> (W.alloc (.cells cs.toArray 64)).grownBy w' v.ownBlock -> K' (a.put o.dst (.slice (some ⟨g, 0, none⟩) (l.length + 1) cap)) w') :
 if Region.wanted o (yielded ops a.tmps) = true then Oper.wp Tryz.prog o a (W.alloc (.cells cs.toArray 64)) K' Q else D := by
 obtain ⟨i0, h0, h1, h2, h3⟩ := info_parts infoB
 obtain ⟨SP, ow, hs1⟩ := h.o
 have ba : Below W.heap.size W (W.alloc (.cells cs.toArray 64)) := (Below.refl _ _).alloc (Nat.le_refl _) _
 have hzb := h.b.size
 have hza := ba.size
 have hlt : ∀ b, T b -> b < W.heap.size /\ some b ≠ v.ownBlock := fun b hb => by
  rcases hT b hb with h1 | h1
  ·have h2 := hS b h1
   exact ⟨by omega, fun e => by have := h.f b e.symm; omega⟩
  ·exact h1.2
 refine step_pushW keepB hgd s x 59 ho 0 i0 _ 224 Tryz.underlying59 h0 h1 h2 h3 rfl (by decide) (by decide) v y hs (ow.alloc keepB _) W.heap.size c (0, 0) hx (heap_alloc_new W _) (EB.fifteen hl).1 (EB.fifteen hl).2 (keepB _ _ _ _ _ _ (fun b hb => ba.block b (hlt b hb).1) (fun _ h => h) hl) (fun b hb => ⟨Nat.zero_le _, by have := (hlt b hb).1; omega, (hlt b hb).2⟩) hlen (Nat.zero_le _) ?_
 intro g cap w' o' gr e
 refine k g cap w' ⟨(h.b.trans (ba.mono hzb)).grown gr (by omega) (fun r e => h.f r e), ⟨_, o', fun b hb => hb.elim (fun h => hs1 b h) (fun h => (hT b h).imp id (fun h => h.1))⟩, fun r hr => ?_⟩ gr
 have hr' : g = r := by simpa [Value.ownBlock] using hr
 subst hr'
 rcases e with e | e
 ·exact h.f g e
 ·omega
def liesB (w : World) (S : Nat -> Prop) (l : List (El × V)) (b o : Nat) : Prop := ∀ (j : Nat) (h : j < l.length), S b /\ ∃ cs, rowAt w b (o + j * 15) cs /\ EB l[j] w S cs
def BrPost (m : List Mem) (S : Nat -> Prop) (w : World) (e : Ending) (w' : World) : Prop :=
 Below w.heap.size w w' /\ ((brF m = none /\ e = .returned (.tuple #[.slice none 0 0, .bool false])) \/ ∃ B B' a c b o, brF m = some B /\ B'.Perm B /\ B'.Pairwise (fun x y : El × V => ¬ oeE y.1 x.1 < 0) /\ e = .returned (.tuple #[.slice a B'.length c, .bool true]) /\ Headed a B'.length c b o /\ liesB w' (Tw S w w') B' b o)
theorem brF_app : ∀ {m n : List Mem} {A : List (El × V)}, brF m = some A -> brF (m ++ n) = (brF n).map (A ++ ·)
 | [], n, A, h => by rw [brF] at h; injection h with h; subst h; rw [List.nil_append]; cases brF n <;> simp
 | (k, x) :: t, n, A, h => by
  rw [brF] at h
  rw [List.cons_append, brF]
  cases he : elF k with
  | none => rw [he] at h; cases h
  | some e =>
   rw [he] at h
   dsimp only at h ⊢
   cases hb : brF t with
   | none => rw [hb] at h; cases h
   | some B =>
    rw [hb] at h
    simp at h
    subst h
    rw [brF_app hb]
    cases brF n <;> simp
theorem br_snoc {m : List Mem} {j : Nat} (h : j < m.length) {A : List (El × V)} {e : El} (hA : brF (m.take j) = some A) (he : elF (m[j]).1 = some e) : brF (m.take (j + 1)) = some (A ++ [(e, (m[j]).2)]) := by
 rw [List.take_succ_eq_append_getElem h, brF_app hA]
 generalize m[j] = y at *
 obtain ⟨k, x⟩ := y
 have he' : elF k = some e := he
 simp [brF, he']
theorem own_bc {W : World} {SP : Nat -> Prop} {l : List (El × V)} {g n cap : Nat} (h : OwnR EB 64 15 W 0 SP (.slice (some ⟨g, 0, none⟩) n cap) l) (hn : n = l.length) :
 ∃ d : List (BC W SP), d.map BC.pr = l /\ Go.Sort.HoldsK BC.enc 15 W g 0 d.toArray /\ g < W.heap.size /\ l.length <= cap /\ cap <= maxLen := by
 subst hn
 obtain ⟨⟨xs, h1, h2⟩, h3⟩ := h
 obtain ⟨hx, ho⟩ := h1
 rcases ho with ⟨e, _⟩ | ⟨g', cap', cur, e, hg, hblk, hle, hm, hcs, hpre⟩
 ·cases e
 injection e with e1 e2 e3
 injection e1 with e1
 injection e1 with e1
 subst e1 e3
 have h4 : ∀ j : Fin l.length, ∃ x : BC W SP, x.pr = l[j] /\ x.enc = (xs.drop (j.val * 15)).take 15 := fun j => by
  obtain ⟨ec, vc, hc, he, hv⟩ := h2 j.val j.2
  exact ⟨⟨_, _, ec, vc, he, hv⟩, rfl, hc.symm⟩
 obtain ⟨f, hf⟩ := Classical.axiomOfChoice h4
 have hlt : g < W.heap.size := by
  rcases Nat.lt_or_ge g W.heap.size with h | h
  ·exact h
  ·rw [Array.getElem?_eq_none h] at hblk; cases hblk
 refine ⟨List.ofFn f, ?_, ?_, hlt, hle, hm⟩
 ·apply List.ext_getElem
  ·simp
  ·intro i h1 h2
   rw [List.getElem_map, List.getElem_ofFn]
   exact (hf _).1
 ·intro j hj
  have hj' : j < l.length * 15 := by simpa using hj
  have h15 : j / 15 < l.length := by omega
  have hm15 : j % 15 < 15 := Nat.mod_lt _ (by omega)
  refine ⟨?_, frozen_of_block hblk _⟩
  rw [Nat.zero_add, cell_of_block hblk]
  have e1 : cur[j]? = (cur.toList.take (l.length * 15))[j]? := by rw [List.getElem?_take, if_pos hj', Array.getElem?_toList]
  rw [e1, hpre]
  have hj2 : j < xs.length := by rw [hx]; exact hj'
  rw [List.getElem?_eq_getElem hj2]
  have e2 : (Go.Sort.flatK BC.enc 15 (List.ofFn f).toArray)[j]! = xs[j] := by
   rw [Go.Sort.get_flatK _ _ _ _ (by simpa using hj')]
   rw [get_arrB (d := List.ofFn f) (by simpa using h15), List.getElem_ofFn, (hf ⟨j / 15, h15⟩).2]
   have e3 : ((xs.drop (j / 15 * 15)).take 15)[j % 15]? = some xs[j] := by
    rw [List.getElem?_take, if_pos hm15, List.getElem?_drop, show j / 15 * 15 + j % 15 = j by omega, List.getElem?_eq_getElem hj2]
   rw [List.getElem!_eq_getElem?_getD, e3]
   rfl
  rw [<- e2]
  simp [hj']
end Go.Proofs.YtdgfjdhobdfglaaGreatDoor
set_option maxRecDepth 100000
namespace Go.Proofs.YtdgfjdhobdfglaaGreatDoor
open Go.RowKit Go.Lib
theorem flatG {w : World} {sz b : Nat} : ∀ (L : List (List Value)) (o : Nat), (∀ (j : Nat) (h : j < L.length), rowAt w b (o + j * sz) L[j]) -> (∀ x ∈ L, x.length = sz) ->
 (∀ j u, L.flatten[j]? = some u -> w.cell? ⟨b, o + j, none⟩ = some u) /\ L.flatten.length = L.length * sz /\ ∀ (j : Nat) (h : j < L.length), (L.flatten.drop (j * sz)).take sz = L[j]
 | [], o, _, _ => ⟨fun j u h => by simp at h, by simp, fun j h => by simp at h⟩
 | x :: t, o, hr, hl => by
  have hx : x.length = sz := hl x (List.mem_cons_self ..)
  obtain ⟨h1, h2, h3⟩ := flatG t (o + sz) (fun j h => by
   have := hr (j + 1) (by simp; omega)
   rw [List.getElem_cons_succ] at this
   have e : o + (j + 1) * sz = o + sz + j * sz := by rw [Nat.succ_mul]; omega
   rwa [e] at this) (fun y hy => hl y (List.mem_cons_of_mem _ hy))
  refine ⟨fun j u hu => ?_, by rw [List.flatten_cons, List.length_append, h2, hx, List.length_cons, Nat.succ_mul]; omega, fun j hj => ?_⟩
  ·rw [List.flatten_cons] at hu
   by_cases hjx : j < x.length
   ·rw [List.getElem?_append_left hjx] at hu
    have := hr 0 (by simp) j u hu
    simpa using this
   ·rw [List.getElem?_append_right (by omega)] at hu
    have := h1 (j - x.length) u hu
    rwa [show o + sz + (j - x.length) = o + j by omega] at this
  ·cases j with
   | zero => simp [<- hx]
   | succ j =>
    have := h3 j (by simpa using hj)
    rw [List.flatten_cons, List.getElem_cons_succ, <- this, show (j + 1) * sz = x.length + j * sz by rw [Nat.succ_mul]; omega]
    congr 1
    simp [List.drop_append]
section
variable {α : Type} {E : α -> World -> (Nat -> Prop) -> List Value -> Prop} {ty sz : Nat} {P : Program}
theorem chunk_right {xs cx : List Value} {n j sz : Nat} (hl : xs.length = n * sz) (hj : n <= j) : ((xs ++ cx).drop (j * sz)).take sz = (cx.drop ((j - n) * sz)).take sz := by
 have e : j * sz = xs.length + (j - n) * sz := by rw [hl, <- Nat.add_mul]; congr 1; omega
 rw [e]
 congr 1
 simp [List.drop_append]
theorem OwnR.cat (K : KeepE E) {w w' : World} {base : Nat} {S Sx : Nat -> Prop} {v v' : Value} {l ys : List α} {news xs : List Value}
 (h3 : ∀ b, S b -> base <= b /\ b < w.heap.size /\ some b ≠ v.ownBlock) (h1 : w.ownsRow base ty sz v l.length xs) (h2 : ∀ (j : Nat) (h : j < l.length), E l[j] w S ((xs.drop (j * sz)).take sz))
 (hE : ∀ (j : Nat) (h : j < ys.length), E ys[j] w Sx ((news.drop (j * sz)).take sz)) (hSx : ∀ b, Sx b -> base <= b /\ b < w.heap.size /\ some b ≠ v.ownBlock)
 (ho : w'.ownsRow base ty sz v' (l.length + ys.length) (xs ++ news)) (hg : w.grownBy w' v.ownBlock) (hn : v.ownBlock = v'.ownBlock \/ ∀ g, v'.ownBlock = some g -> w.heap.size <= g) :
 OwnR E ty sz w' base (fun b => S b \/ Sx b) v' (l ++ ys) := by
 have hall : ∀ b, S b \/ Sx b -> base <= b /\ b < w.heap.size /\ some b ≠ v.ownBlock := fun b hb => hb.elim (h3 b) (hSx b)
 have hb : ∀ b, S b \/ Sx b -> w'.heap[b]? = w.heap[b]? := fun b hb => hg.block b (hall b hb).2.1 (hall b hb).2.2
 refine ⟨⟨xs ++ news, by simpa using ho, fun j hj => ?_⟩, fun b hS => ⟨(hall b hS).1, Nat.lt_of_lt_of_le (hall b hS).2.1 hg.size, ?_⟩⟩
 ·by_cases hjl : j < l.length
  ·rw [List.getElem_append_left hjl, chunk_left h1.1 hjl]
   exact K _ _ _ _ _ _ (fun b h => hb b (.inl h)) (fun _ h => .inl h) (h2 j hjl)
  ·have hj' : j - l.length < ys.length := by simp at hj; omega
   rw [chunk_right h1.1 (by omega), List.getElem_append_right (by omega)]
   exact K _ _ _ _ _ _ (fun b h => hb b (.inr h)) (fun _ h => .inr h) (hE _ hj')
 ·rcases hn with e | e
  ·rw [<- e]; exact (hall b hS).2.2
  ·intro h
   have := e b h.symm
   have := (hall b hS).2.1
   omega
theorem wpl_catO (K : KeepE E) (W : World) {ops : Array Oper} {rest : List Oper} {o : Oper} {a : Act} {Q : Exit -> Act -> World -> Prop} (hgd : o.guard = none) (s x : Operand) (t : TypeId)
 (ho : o.op = .call { callee := .builtin .append, args := #[s, x], argTypes := #[t, t] })
 (base : Nat) (i : TypeInfo) (z : Value) (bytes : Nat) (ht : P.underlying t = some (.slice ty)) (hi : P.info? ty = some i) (hz : i.zero = some z)
 (hsize : i.size = sz) (hby : i.bytes = bytes) (hzs : z.cells.size = sz) (hsz : 0 < sz) (hb200 : bytes <= 200)
 {S T : Nat -> Prop} (v : Value) {l : List α} (ys : List α) (hs : a.eval s = v) (hown : OwnR E ty sz W base S v l)
 (ao : Option Addr) (c b q : Nat) (hx : a.eval x = .slice ao ys.length c) (hd : Headed ao ys.length c b q) (L : List (List Value)) (hL : L.length = ys.length)
 (hrow : ∀ (j : Nat) (h : j < L.length), rowAt W b (q + j * sz) L[j]) (hlL : ∀ x ∈ L, x.length = sz /\ ∀ u ∈ x, u.oneCell' = true) (hE : ∀ (j : Nat) (h : j < ys.length), E ys[j] W T (L[j]'(by omega)))
 (hT : ∀ b, T b -> base <= b /\ b < W.heap.size /\ some b ≠ v.ownBlock) (hlen : l.length + ys.length <= 4294967296) (hbase : base <= W.heap.size)
 (h : ∀ v' w', OwnR E ty sz w' base (fun b => S b \/ T b) v' (l ++ ys) -> W.grownBy w' v.ownBlock -> (v.ownBlock = v'.ownBlock \/ ∀ g, v'.ownBlock = some g -> W.heap.size <= g) -> wpList P ops Q rest (a.put o.dst v') w') : wpList P ops Q (o :: rest) a W := by
 obtain ⟨⟨xs, h1, h2⟩, h3⟩ := hown
 obtain ⟨f1, f2, f3⟩ := flatG L q hrow (fun x hx => (hlL x hx).1)
 have f4 : ∀ u ∈ L.flatten, u.oneCell' = true := fun u hu => by
  obtain ⟨y, hy, hu'⟩ := List.mem_flatten.1 hu
  exact (hlL y hy).2 u hu'
 have hEE : ∀ (j : Nat) (h : j < ys.length), E ys[j] W T ((L.flatten.drop (j * sz)).take sz) := fun j hj => by
  rw [f3 j (by omega)]; exact hE j hj
 rw [hL] at f2
 have fin : ∀ v' w', w'.ownsRow base ty sz v' (l.length + ys.length) (xs ++ L.flatten) -> W.grownBy w' v.ownBlock -> (v.ownBlock = v'.ownBlock \/ ∀ g, v'.ownBlock = some g -> W.heap.size <= g) -> wpList P ops Q rest (a.put o.dst v') w' := fun v' w' r1 r2 r3 =>
  h v' w' (OwnR.cat K h3 h1 h2 hEE hT r1 r2 r3) r2 r3
 by_cases hy : ys.length = 0
 ·have hn0 : L.flatten = [] := List.eq_nil_of_length_eq_zero (by rw [f2, hy]; simp)
  rw [hn0, hy] at fin
  rw [hy] at hx hd
  cases ao with
  | none =>
   have hc := hd.nil rfl
   subst hc
   exact wpList_append_own_none hgd s x t ho base ty i sz ht hi v l.length xs hs h1 hx (fin _ _ (by simpa using h1) (World.grownBy.refl _ _) (.inl rfl))
  | some ad =>
   rcases h1.2 with ⟨rfl, e0⟩ | ⟨g, cap, cur, rfl, hb, hg, hc1, hc2, hc3, hc4⟩
   ·refine wpList_append_own W hgd s x t ho base ty i z sz bytes ht hi hz hsize hby hzs hsz _ l.length xs hs h1 ad 0 c [] hx (by simp) (fun j u hu => by simp at hu) (fun u hu => by simp at hu) (by simp only [maxLen]; omega) (by have := Nat.mul_le_mul (show l.length + 0 <= 4294967296 by omega) hb200; omega) hbase ?_
    intro v' w' r1 r2 r3
    obtain rfl := r3.2 ⟨rfl, rfl⟩
    exact fin _ _ r1 r2 (.inl rfl)
   ·obtain ⟨w', hrun, r1, r2⟩ := run_append_fits (P := P) W base t o.type ty i sz ht hi hsize g l.length cap xs h1 ad 0 c [] (by simp) (fun j u hu => by simp at hu) (fun u hu => by simp at hu) (by omega)
    refine wpList_plain hgd fun K' hK' => ?_
    unfold Oper.wp
    simp [execOp, ho, resolve, invoke, builtin, hs, hx, hrun, Result.andThen]
    exact hK' _ _ (fin _ _ r1 r2 (.inl rfl))
 ·obtain rfl : ao = some ⟨b, q, none⟩ := hd.at_.resolve_left hy
  obtain ⟨g, cap, w', hrun, r1, r2, r3⟩ := run_append_new (P := P) W base t o.type ty i z sz bytes ht hi hz hsize hby hzs hsz v l.length xs h1 ⟨b, q, none⟩ ys.length c L.flatten f2 (fun j u hu => by rw [Go.WideShapes.add_plain]; exact f1 j u hu) f4 (by simp only [maxLen]; omega) (by have := Nat.mul_le_mul hlen hb200; omega) hbase (by omega)
  refine wpList_plain hgd fun K' hK' => ?_
  unfold Oper.wp
  simp [execOp, ho, resolve, invoke, builtin, hs, hx, hrun, Result.andThen]
  refine hK' _ _ (fin _ _ r1 r2 ?_)
  rcases r3 with e | e
  ·exact .inl (by rw [e]; simp [Value.ownBlock])
  ·exact .inr (fun g' hg' => by have : g = g' := by simpa [Value.ownBlock] using hg'
                                omega)
end
end Go.Proofs.YtdgfjdhobdfglaaGreatDoor
set_option maxRecDepth 100000
namespace Go.Proofs.YtdgfjdhobdfglaaGreatDoor
open Go.RowKit Go.Lib
structure OutQ (w : World) (S : Nat -> Prop) (l : List (List El)) (v : Value) (W : World) : Prop where
 b : Below w.heap.size w W
 o : ∃ SP, OwnQ W 0 SP v l /\ ∀ b, SP b -> S b \/ w.heap.size <= b
 f : ∀ r, v.ownBlock = some r -> w.heap.size <= r
theorem OutQ.nil (w : World) (S : Nat -> Prop) : OutQ w S [] (.slice none 0 0) w := ⟨Below.refl _ _, ⟨_, OwnR.nil _ _, fun b h => h.elim⟩, fun r h => by simp [Value.ownBlock] at h⟩
theorem OutQ.below {w W W' : World} {S : Nat -> Prop} {l : List (List El)} {v : Value} (h : OutQ w S l v W) (b : Below W.heap.size W W') : OutQ w S l v W' := by
 obtain ⟨SP, o, hs⟩ := h.o
 exact ⟨h.b.trans (b.mono h.b.size), ⟨SP, o.below keepQ b, hs⟩, h.f⟩
theorem OutQ.list {w W : World} {S : Nat -> Prop} {l : List (List El)} {v : Value} (h : OutQ w S l v W) : ∃ a c b o, v = .slice a l.length c /\ Headed a l.length c b o /\ liesQ W (Tw S w W) l b o := by
 obtain ⟨SP, o, hs⟩ := h.o
 exact own_listQ o (fun b hb => (hs b hb).imp id (fun h => ⟨h, (o.off b hb).2.1⟩)) (fun g hg => .inr ⟨h.f g hg, (o.lt hg).2⟩)
theorem infoQ' : ∃ i0, Tryz.prog.info? 46 = some i0 /\ i0.zero = some (.slice none 0 0) /\ i0.size = 1 /\ i0.bytes = 24 := by
 obtain ⟨i0, hi0, hz0, hz1, hz2⟩ := info_parts info33
 exact ⟨i0, hi0, hz0, hz1, hz2⟩
theorem EQ.seven {w : World} {S : Nat -> Prop} {x : List El} {cs : List Value} (h : EQ x w S cs) : cs.length = 1 /\ ∀ u ∈ cs, u.oneCell' = true := by
 obtain ⟨v, rfl, ap, cp, bp, op, rfl, _⟩ := h
 exact ⟨rfl, oneQ⟩
theorem OutQ.step {w W : World} {S T : Nat -> Prop} {l : List (List El)} {v : Value} {y : List El} {cs : List Value} (h : OutQ w S l v W) (hS : ∀ b, S b -> b < w.heap.size) (hl : EQ y W T cs) (hT : ∀ b, T b -> S b \/ (w.heap.size <= b /\ b < W.heap.size /\ some b ≠ v.ownBlock)) (c : Nat) :
 ∃ SP Sx, OwnQ (W.alloc (.cells cs.toArray 46)) 0 SP v l /\ EQ y (W.alloc (.cells cs.toArray 46)) Sx cs /\ (∀ b, Sx b -> 0 <= b /\ b < (W.alloc (.cells cs.toArray 46)).heap.size /\ some b ≠ v.ownBlock) /\
  ∀ g cap w', OwnQ w' 0 (fun b => SP b \/ Sx b) (.slice (some ⟨g, 0, none⟩) (l.length + 1) cap) (l ++ [y]) -> (W.alloc (.cells cs.toArray 46)).grownBy w' v.ownBlock -> (v.ownBlock = some g \/ (W.alloc (.cells cs.toArray 46)).heap.size <= g) -> OutQ w S (l ++ [y]) (.slice (some ⟨g, 0, none⟩) (l.length + 1) cap) w' := by
 obtain ⟨SP, o, hs⟩ := h.o
 have ba : Below W.heap.size W (W.alloc (.cells cs.toArray 46)) := (Below.refl _ _).alloc (Nat.le_refl _) _
 have hzb := h.b.size
 have hza := ba.size
 have hlt : ∀ b, T b -> b < W.heap.size /\ some b ≠ v.ownBlock := fun b hb => by
  rcases hT b hb with h1 | h1
  ·have h2 := hS b h1
   exact ⟨by omega, fun e => by have := h.f b e.symm; omega⟩
  ·exact h1.2
 refine ⟨SP, T, o.alloc keepQ _, keepQ _ _ _ _ _ _ (fun b hb => ba.block b (hlt b hb).1) (fun _ h => h) hl, fun b hb => ⟨Nat.zero_le _, by have := (hlt b hb).1; omega, (hlt b hb).2⟩, fun g cap w' o' gr e => ⟨(h.b.trans (ba.mono hzb)).grown gr (by omega) (fun r e => h.f r e), ⟨_, o', fun b hb => hb.elim (fun h => hs b h) (fun h => (hT b h).imp id (fun h => h.1))⟩, fun r hr => by
  have hr' : g = r := by simpa [Value.ownBlock] using hr
  subst hr'
  rcases e with e | e
  ·exact h.f g e
  ·omega⟩⟩
section
variable {P : Program}
theorem wpl_outQ {ops : Array Oper} {rest : List Oper} {o : Oper} {a : Act} {Q : Exit -> Act -> World -> Prop} (hgd : o.guard = none) (s x : Operand)
 (ho : o.op = .call { callee := .builtin .append, args := #[s, x], argTypes := #[28, 28] })
 {w W : World} {S T : Nat -> Prop} {l : List (List El)} (v : Value) {y : List El} {cs : List Value} (hs : a.eval s = v) (h : OutQ w S l v W) (hS : ∀ b, S b -> b < w.heap.size) (hl : EQ y W T cs) (hT : ∀ b, T b -> S b \/ (w.heap.size <= b /\ b < W.heap.size /\ some b ≠ v.ownBlock))
 (c : Nat) (hx : a.eval x = .slice (some ⟨W.heap.size, 0, none⟩) 1 c) (hlen : l.length <= 4294967296)
 (k : ∀ g cap w', OutQ w S (l ++ [y]) (.slice (some ⟨g, 0, none⟩) (l.length + 1) cap) w' -> wpList Tryz.prog ops Q rest (a.put o.dst (.slice (some ⟨g, 0, none⟩) (l.length + 1) cap)) w') : wpList Tryz.prog ops Q (o :: rest) a (W.alloc (.cells cs.toArray 46)) := by
 obtain ⟨i0, h0, h1, h2, h3⟩ := infoQ'
 obtain ⟨SP, Sx, o1, e1, hx1, k1⟩ := h.step hS hl hT c
 refine wpl_push keepQ _ hgd s x 28 ho 0 i0 _ 24 Tryz.underlying28 h0 h1 h2 h3 rfl (by decide) (by decide) v y hs o1 W.heap.size c (0, 0) hx (heap_alloc_new W _) (EQ.seven hl).1 (EQ.seven hl).2 e1 hx1 hlen (Nat.zero_le _) ?_
 intro g cap w' o' gr e
 exact k g cap w' (k1 g cap w' o' gr e)
end
theorem cellsQ {w : World} {S : Nat -> Prop} {l : List (List El)} {b o : Nat} (h : liesQ w S l b o) : ∃ L : List (List Value), L.length = l.length /\ (∀ (j : Nat) (h : j < L.length), rowAt w b (o + j * 1) L[j]) /\ (∀ x ∈ L, x.length = 1 /\ ∀ u ∈ x, u.oneCell' = true) /\ ∀ (j : Nat) (h : j < l.length) (h' : j < L.length), EQ l[j] w S L[j] := by
 have h1 : ∀ j : Fin l.length, ∃ x : List Value, rowAt w b (o + j.val * 1) x /\ EQ l[j.val] w S x := fun j => by
  obtain ⟨_, v, hv, hp⟩ := h j j.2
  refine ⟨[v], ?_, v, rfl, hp⟩
  intro i u hu
  cases i with
  | zero => simp at hu; subst hu; simpa using hv
  | succ i => simp at hu
 obtain ⟨f, hf⟩ := Classical.axiomOfChoice h1
 refine ⟨List.ofFn f, by simp, fun j hj => ?_, fun x hx => ?_, fun j hj hj' => ?_⟩
 ·rw [List.getElem_ofFn]; exact (hf ⟨j, by simpa using hj⟩).1
 ·obtain ⟨j, rfl⟩ := List.mem_ofFn.1 hx
  exact EQ.seven (hf j).2
 ·rw [List.getElem_ofFn]; exact (hf ⟨j, hj⟩).2
section
variable {P : Program}
theorem wpl_outCat {ops : Array Oper} {rest : List Oper} {o : Oper} {a : Act} {Q : Exit -> Act -> World -> Prop} (hgd : o.guard = none) (s x : Operand)
 (ho : o.op = .call { callee := .builtin .append, args := #[s, x], argTypes := #[28, 28] })
 {w W : World} {S T : Nat -> Prop} {l : List (List El)} (v : Value) (ys : List (List El)) (hs : a.eval s = v) (h : OutQ w S l v W) (hS : ∀ b, S b -> b < w.heap.size)
 (ao : Option Addr) (c b q : Nat) (hx : a.eval x = .slice ao ys.length c) (hd : Headed ao ys.length c b q) (hl : liesQ W T ys b q) (hT : ∀ b, T b -> S b \/ (w.heap.size <= b /\ b < W.heap.size /\ some b ≠ v.ownBlock)) (hlen : l.length + ys.length <= 4294967296)
 (k : ∀ v' w', OutQ w S (l ++ ys) v' w' -> W.grownBy w' v.ownBlock -> wpList Tryz.prog ops Q rest (a.put o.dst v') w') : wpList Tryz.prog ops Q (o :: rest) a W := by
 obtain ⟨i0, h0, h1, h2, h3⟩ := infoQ'
 obtain ⟨SP, ow, hs1⟩ := h.o
 obtain ⟨L, l1, l2, l3, l4⟩ := cellsQ hl
 have hzb := h.b.size
 have hlt : ∀ b, T b -> b < W.heap.size /\ some b ≠ v.ownBlock := fun b hb => by
  rcases hT b hb with h1 | h1
  ·have h2 := hS b h1
   exact ⟨by omega, fun e => by have := h.f b e.symm; omega⟩
  ·exact h1.2
 refine wpl_catO keepQ W hgd s x 28 ho 0 i0 _ 24 Tryz.underlying28 h0 h1 h2 h3 rfl (by decide) (by decide) v ys hs ow ao c b q hx hd L l1 l2 l3 (fun j hj => l4 j hj (by omega)) (fun b hb => ⟨Nat.zero_le _, (hlt b hb).1, (hlt b hb).2⟩) hlen (Nat.zero_le _) ?_
 intro v' w' o' gr e
 refine k v' w' ⟨h.b.grown gr (by omega) (fun r e => h.f r e), ⟨_, o', fun b hb => hb.elim (fun h => hs1 b h) (fun h => (hT b h).imp id (fun h => h.1))⟩, fun r hr => ?_⟩ gr
 rcases e with e | e
 ·exact h.f r (e.trans hr)
 ·have := e r hr; omega
end
theorem OutQ.lt {w W : World} {S : Nat -> Prop} {l : List (List El)} {v : Value} (h : OutQ w S l v W) {r : Nat} (hr : v.ownBlock = some r) : r < W.heap.size := by
 obtain ⟨SP, o, hs⟩ := h.o
 exact (o.lt hr).2
structure OutP (w : World) (S : Nat -> Prop) (l : List El) (v : Value) (W : World) : Prop where
 b : Below w.heap.size w W
 o : ∃ SP, OwnP W 0 SP v l /\ ∀ b, SP b -> S b \/ w.heap.size <= b
 f : ∀ r, v.ownBlock = some r -> w.heap.size <= r
theorem OutP.nil (w : World) (S : Nat -> Prop) : OutP w S [] (.slice none 0 0) w := ⟨Below.refl _ _, ⟨_, OwnR.nil _ _, fun b h => h.elim⟩, fun r h => by simp [Value.ownBlock] at h⟩
theorem OutP.below {w W W' : World} {S : Nat -> Prop} {l : List El} {v : Value} (h : OutP w S l v W) (b : Below W.heap.size W W') : OutP w S l v W' := by
 obtain ⟨SP, o, hs⟩ := h.o
 exact ⟨h.b.trans (b.mono h.b.size), ⟨SP, o.below keepP b, hs⟩, h.f⟩
theorem OutP.list {w W : World} {S : Nat -> Prop} {l : List El} {v : Value} (h : OutP w S l v W) : ∃ a c b o, v = .slice a l.length c /\ Headed a l.length c b o /\ liesP W (Tw S w W) l b o := by
 obtain ⟨SP, o, hs⟩ := h.o
 exact own_listP o (fun b hb => (hs b hb).imp id (fun h => ⟨h, (o.off b hb).2.1⟩)) (fun g hg => .inr ⟨h.f g hg, (o.lt hg).2⟩)
theorem infoP' : ∃ i0, Tryz.prog.info? 52 = some i0 /\ i0.zero = some (.agg #[.int .i64 0, .string ⟨#[]⟩, .slice none 0 0, .int .i64 0, .bool false, .int .i64 0, .string ⟨#[]⟩, .slice none 0 0, .slice none 0 0]) /\ i0.size = 9 /\ i0.bytes = 136 := by
 obtain ⟨i0, hi0, hz0, hz1, hz2⟩ := info_parts info35
 exact ⟨i0, hi0, hz0, hz1, hz2⟩
theorem nineOne {k vk vi : Int} {s vs : ByteArray} {am val vam : Option Addr} {nm cm vnl vcl vnm vcm : Nat} {vb : Bool} : ∀ u ∈ [Value.int .i64 k, .string s, .slice am nm cm, .int .i64 vk, .bool vb, .int .i64 vi, .string vs, .slice val vnl vcl, .slice vam vnm vcm], u.oneCell' = true := by
 intro u hu
 simp only [List.mem_cons, List.not_mem_nil, or_false] at hu
 rcases hu with rfl | rfl | rfl | rfl | rfl | rfl | rfl | rfl | rfl <;> rfl
theorem EP.seven {w : World} {S : Nat -> Prop} {x : El} {cs : List Value} (h : EP x w S cs) : cs.length = 9 /\ ∀ u ∈ cs, u.oneCell' = true := by
 obtain ⟨k, s, am, nm, cm, vk, vb, vi, vs, val, vnl, vcl, vam, vnm, vcm, rfl⟩ := El.nine h
 exact ⟨rfl, nineOne⟩
theorem OutP.step {w W : World} {S T : Nat -> Prop} {l : List El} {v : Value} {y : El} {cs : List Value} (h : OutP w S l v W) (hS : ∀ b, S b -> b < w.heap.size) (hl : EP y W T cs) (hT : ∀ b, T b -> S b \/ (w.heap.size <= b /\ b < W.heap.size /\ some b ≠ v.ownBlock)) (c : Nat) :
 ∃ SP Sx, OwnP (W.alloc (.cells cs.toArray 52)) 0 SP v l /\ EP y (W.alloc (.cells cs.toArray 52)) Sx cs /\ (∀ b, Sx b -> 0 <= b /\ b < (W.alloc (.cells cs.toArray 52)).heap.size /\ some b ≠ v.ownBlock) /\
  ∀ g cap w', OwnP w' 0 (fun b => SP b \/ Sx b) (.slice (some ⟨g, 0, none⟩) (l.length + 1) cap) (l ++ [y]) -> (W.alloc (.cells cs.toArray 52)).grownBy w' v.ownBlock -> (v.ownBlock = some g \/ (W.alloc (.cells cs.toArray 52)).heap.size <= g) -> OutP w S (l ++ [y]) (.slice (some ⟨g, 0, none⟩) (l.length + 1) cap) w' := by
 obtain ⟨SP, o, hs⟩ := h.o
 have ba : Below W.heap.size W (W.alloc (.cells cs.toArray 52)) := (Below.refl _ _).alloc (Nat.le_refl _) _
 have hzb := h.b.size
 have hza := ba.size
 have hlt : ∀ b, T b -> b < W.heap.size /\ some b ≠ v.ownBlock := fun b hb => by
  rcases hT b hb with h1 | h1
  ·have h2 := hS b h1
   exact ⟨by omega, fun e => by have := h.f b e.symm; omega⟩
  ·exact h1.2
 refine ⟨SP, T, o.alloc keepP _, keepP _ _ _ _ _ _ (fun b hb => ba.block b (hlt b hb).1) (fun _ h => h) hl, fun b hb => ⟨Nat.zero_le _, by have := (hlt b hb).1; omega, (hlt b hb).2⟩, fun g cap w' o' gr e => ⟨(h.b.trans (ba.mono hzb)).grown gr (by omega) (fun r e => h.f r e), ⟨_, o', fun b hb => hb.elim (fun h => hs b h) (fun h => (hT b h).imp id (fun h => h.1))⟩, fun r hr => by
  have hr' : g = r := by simpa [Value.ownBlock] using hr
  subst hr'
  rcases e with e | e
  ·exact h.f g e
  ·omega⟩⟩
section
variable {P : Program}
theorem wpl_outP {ops : Array Oper} {rest : List Oper} {o : Oper} {a : Act} {Q : Exit -> Act -> World -> Prop} (hgd : o.guard = none) (s x : Operand)
 (ho : o.op = .call { callee := .builtin .append, args := #[s, x], argTypes := #[46, 46] })
 {w W : World} {S T : Nat -> Prop} {l : List El} (v : Value) {y : El} {cs : List Value} (hs : a.eval s = v) (h : OutP w S l v W) (hS : ∀ b, S b -> b < w.heap.size) (hl : EP y W T cs) (hT : ∀ b, T b -> S b \/ (w.heap.size <= b /\ b < W.heap.size /\ some b ≠ v.ownBlock))
 (c : Nat) (hx : a.eval x = .slice (some ⟨W.heap.size, 0, none⟩) 1 c) (hlen : l.length <= 4294967296)
 (k : ∀ g cap w', OutP w S (l ++ [y]) (.slice (some ⟨g, 0, none⟩) (l.length + 1) cap) w' -> wpList Tryz.prog ops Q rest (a.put o.dst (.slice (some ⟨g, 0, none⟩) (l.length + 1) cap)) w') : wpList Tryz.prog ops Q (o :: rest) a (W.alloc (.cells cs.toArray 52)) := by
 obtain ⟨i0, h0, h1, h2, h3⟩ := infoP'
 obtain ⟨SP, Sx, o1, e1, hx1, k1⟩ := h.step hS hl hT c
 refine wpl_push keepP _ hgd s x 46 ho 0 i0 _ 136 Tryz.underlying46 h0 h1 h2 h3 rfl (by decide) (by decide) v y hs o1 W.heap.size c (0, 0) hx (heap_alloc_new W _) (EP.seven hl).1 (EP.seven hl).2 e1 hx1 hlen (Nat.zero_le _) ?_
 intro g cap w' o' gr e
 exact k g cap w' (k1 g cap w' o' gr e)
end
theorem cellsP {w : World} {S : Nat -> Prop} {l : List El} {b o : Nat} (h : liesP w S l b o) : ∃ L : List (List Value), L.length = l.length /\ (∀ (j : Nat) (h : j < L.length), rowAt w b (o + j * 9) L[j]) /\ (∀ x ∈ L, x.length = 9 /\ ∀ u ∈ x, u.oneCell' = true) /\ ∀ (j : Nat) (h : j < l.length) (h' : j < L.length), EP l[j] w S L[j] := by
 have h1 : ∀ j : Fin l.length, ∃ x : List Value, rowAt w b (o + j.val * 9) x /\ EP l[j.val] w S x := fun j => by
  obtain ⟨_, x, hx, hp⟩ := h j j.2
  exact ⟨x, hx, hp⟩
 obtain ⟨f, hf⟩ := Classical.axiomOfChoice h1
 refine ⟨List.ofFn f, by simp, fun j hj => ?_, fun x hx => ?_, fun j hj hj' => ?_⟩
 ·rw [List.getElem_ofFn]; exact (hf ⟨j, by simpa using hj⟩).1
 ·obtain ⟨j, rfl⟩ := List.mem_ofFn.1 hx
  exact EP.seven (hf j).2
 ·rw [List.getElem_ofFn]; exact (hf ⟨j, hj⟩).2
section
variable {P : Program}
theorem wpl_outCatP {ops : Array Oper} {rest : List Oper} {o : Oper} {a : Act} {Q : Exit -> Act -> World -> Prop} (hgd : o.guard = none) (s x : Operand)
 (ho : o.op = .call { callee := .builtin .append, args := #[s, x], argTypes := #[46, 46] })
 {w W : World} {S T : Nat -> Prop} {l : List El} (v : Value) (ys : List El) (hs : a.eval s = v) (h : OutP w S l v W) (hS : ∀ b, S b -> b < w.heap.size)
 (ao : Option Addr) (c b q : Nat) (hx : a.eval x = .slice ao ys.length c) (hd : Headed ao ys.length c b q) (hl : liesP W T ys b q) (hT : ∀ b, T b -> S b \/ (w.heap.size <= b /\ b < W.heap.size /\ some b ≠ v.ownBlock)) (hlen : l.length + ys.length <= 4294967296)
 (k : ∀ v' w', OutP w S (l ++ ys) v' w' -> W.grownBy w' v.ownBlock -> wpList Tryz.prog ops Q rest (a.put o.dst v') w') : wpList Tryz.prog ops Q (o :: rest) a W := by
 obtain ⟨i0, h0, h1, h2, h3⟩ := infoP'
 obtain ⟨SP, ow, hs1⟩ := h.o
 obtain ⟨L, l1, l2, l3, l4⟩ := cellsP hl
 have hzb := h.b.size
 have hlt : ∀ b, T b -> b < W.heap.size /\ some b ≠ v.ownBlock := fun b hb => by
  rcases hT b hb with h1 | h1
  ·have h2 := hS b h1
   exact ⟨by omega, fun e => by have := h.f b e.symm; omega⟩
  ·exact h1.2
 refine wpl_catO keepP W hgd s x 46 ho 0 i0 _ 136 Tryz.underlying46 h0 h1 h2 h3 rfl (by decide) (by decide) v ys hs ow ao c b q hx hd L l1 l2 l3 (fun j hj => l4 j hj (by omega)) (fun b hb => ⟨Nat.zero_le _, (hlt b hb).1, (hlt b hb).2⟩) hlen (Nat.zero_le _) ?_
 intro v' w' o' gr e
 refine k v' w' ⟨h.b.grown gr (by omega) (fun r e => h.f r e), ⟨_, o', fun b hb => hb.elim (fun h => hs1 b h) (fun h => (hT b h).imp id (fun h => h.1))⟩, fun r hr => ?_⟩ gr
 rcases e with e | e
 ·exact h.f r (e.trans hr)
 ·have := e r hr; omega
end
theorem OutP.lt {w W : World} {S : Nat -> Prop} {l : List El} {v : Value} (h : OutP w S l v W) {r : Nat} (hr : v.ownBlock = some r) : r < W.heap.size := by
 obtain ⟨SP, o, hs⟩ := h.o
 exact (o.lt hr).2
end Go.Proofs.YtdgfjdhobdfglaaGreatDoor
