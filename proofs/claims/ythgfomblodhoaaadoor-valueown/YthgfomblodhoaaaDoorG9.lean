/- joined: PutA PutB PutC RfD RfE SizA -/
import Derived.Test.YthgfomblodhoaaaDoorG8
import Derived.Lib.ValidLaws
import Derived.Deep.Cut
import Derived.Laws.ResultCell
import Derived.Deep.RegionHeld3
/- Many appended at once. -/
set_option linter.unusedSimpArgs false
set_option linter.unusedVariables false
namespace Go.Proofs.YthgfomblodhoaaaDoor
open Go.RowKit
theorem chunk_right {xs cx : List Value} {n j sz : Nat} (hl : xs.length = n * sz) : ((xs ++ cx).drop ((n + j) * sz)).take sz = (cx.drop (j * sz)).take sz := by
  rw [Nat.add_mul, ← hl, List.drop_append, List.drop_of_length_le (by omega), List.nil_append]
  congr 2
  omega
section
variable {α : Type} {E : α → World → (Nat → Prop) → List Value → Prop} {ty sz : Nat}
theorem OwnR.pushes (K : KeepE E) {w w' : World} {base : Nat} {S Sx : Nat → Prop} {v v' : Value} {l ys : List α} {cx xs : List Value}
    (h3 : ∀ b, S b → base ≤ b ∧ b < w.heap.size ∧ some b ≠ v.ownBlock) (h1 : w.ownsRow base ty sz v l.length xs) (h2 : ∀ (j : Nat) (h : j < l.length), E l[j] w S ((xs.drop (j * sz)).take sz))
    (hE : ∀ (j : Nat) (h : j < ys.length), E ys[j] w Sx ((cx.drop (j * sz)).take sz)) (hSx : ∀ b, Sx b → base ≤ b ∧ b < w.heap.size ∧ some b ≠ v.ownBlock)
    (ho : w'.ownsRow base ty sz v' (l.length + ys.length) (xs ++ cx)) (hg : w.grownBy w' v.ownBlock) (hn : v.ownBlock = v'.ownBlock ∨ ∀ g, v'.ownBlock = some g → w.heap.size ≤ g) :
    OwnR E ty sz w' base (fun b => S b ∨ Sx b) v' (l ++ ys) := by
  have hall : ∀ b, S b ∨ Sx b → base ≤ b ∧ b < w.heap.size ∧ some b ≠ v.ownBlock := fun b hb => hb.elim (h3 b) (hSx b)
  have hb : ∀ b, S b ∨ Sx b → w'.heap[b]? = w.heap[b]? := fun b hb => hg.block b (hall b hb).2.1 (hall b hb).2.2
  refine ⟨⟨xs ++ cx, by simpa using ho, fun j hj => ?_⟩, fun b hS => ⟨(hall b hS).1, Nat.lt_of_lt_of_le (hall b hS).2.1 hg.size, ?_⟩⟩
  · by_cases hjl : j < l.length
    · rw [List.getElem_append_left hjl, chunk_left h1.1 hjl]
      exact K _ _ _ _ _ _ (fun b h => hb b (.inl h)) (fun _ h => .inl h) (h2 j hjl)
    · obtain ⟨q, rfl⟩ : ∃ q, j = l.length + q := ⟨j - l.length, by omega⟩
      have hq : q < ys.length := by simp at hj; omega
      rw [chunk_right h1.1, List.getElem_append_right (by omega)]
      have := K ys[q] w w' Sx (fun b => S b ∨ Sx b) _ (fun b h => hb b (.inr h)) (fun _ h => .inr h) (hE q hq)
      simpa using this
  · rcases hn with e | e
    · rw [← e]; exact (hall b hS).2.2
    · intro h
      have := e b h.symm
      have := (hall b hS).2.1
      omega
theorem run_pushes (K : KeepE E) (P : Program) (w : World) (t rt : TypeId) (i : TypeInfo) (z : Value) (bytes : Nat) (ht : P.underlying t = some (.slice ty)) (hi : P.info? ty = some i) (hz : i.zero = some z)
    (hsize : i.size = sz) (hby : i.bytes = bytes) (hzs : z.cells.size = sz) (hsz : 0 < sz) (hb200 : bytes ≤ 200)
    {S Sx : Nat → Prop} {g n cap : Nat} {l ys : List α} {cx : List Value} (hn : n = l.length) (hown : OwnR E ty sz w 0 S (.slice (some ⟨g, 0, none⟩) n cap) l)
    (ao : Option Addr) (c : Nat) (hcx : cx.length = ys.length * sz) (hnone : ao = none → ys.length = 0 ∧ c = 0) (hc : ∀ ad, ao = some ad → ∀ j u, cx[j]? = some u → w.cell? (ad.add j) = some u) (h1c : ∀ u ∈ cx, u.oneCell' = true)
    (hE : ∀ (j : Nat) (h : j < ys.length), E ys[j] w Sx ((cx.drop (j * sz)).take sz)) (hSx : ∀ b, Sx b → b < w.heap.size ∧ b ≠ g) (hlen : l.length + ys.length ≤ 4294967296) :
    ∃ g' cap' w', (Builtin.append_ #[t, t] rt #[.slice (some ⟨g, 0, none⟩) n cap, .slice ao ys.length c]).run P w = .ok (.slice (some ⟨g', 0, none⟩) (n + ys.length) cap') w' ∧
      OwnR E ty sz w' 0 (fun b => S b ∨ Sx b) (.slice (some ⟨g', 0, none⟩) (n + ys.length) cap') (l ++ ys) ∧ w.grownBy w' (some g) ∧ (g' = g ∨ w.heap.size ≤ g') := by
  subst hn
  obtain ⟨⟨xs, h1, h2⟩, h3⟩ := hown
  have hSx' : ∀ b, Sx b → 0 ≤ b ∧ b < w.heap.size ∧ some b ≠ (Value.slice (some ⟨g, 0, none⟩) l.length cap).ownBlock := fun b hb => ⟨Nat.zero_le _, (hSx b hb).1, fun e => (hSx b hb).2 (by simp [Value.ownBlock] at e; exact e)⟩
  cases ao with
  | none =>
    obtain ⟨h0, rfl⟩ := hnone rfl
    have hys : ys = [] := List.eq_nil_of_length_eq_zero h0
    subst hys
    have hcx0 : cx = [] := List.eq_nil_of_length_eq_zero (by simpa using hcx)
    subst hcx0
    refine ⟨g, cap, w, run_append_owned_none (P := P) w 0 t rt ty i sz ht hi _ l.length xs h1, ?_, World.grownBy.refl _ _, .inl rfl⟩
    have := OwnR.pushes (ys := []) (cx := []) (Sx := Sx) K h3 h1 h2 (fun j h => by simp at h) hSx' (by simpa using h1) (World.grownBy.refl _ _) (.inl rfl)
    simpa using this
  | some ad =>
    by_cases hr : l.length + ys.length ≤ cap
    · obtain ⟨w', hrun, r1, r2⟩ := run_append_fits (P := P) w 0 t rt ty i sz ht hi hsize g l.length cap xs h1 ad ys.length c cx hcx (hc ad rfl) h1c hr
      exact ⟨g, cap, w', hrun, OwnR.pushes K h3 h1 h2 hE hSx' r1 r2 (.inl rfl), r2, .inl rfl⟩
    · have hle : l.length ≤ cap := by
        rcases h1.2 with ⟨e, _⟩ | ⟨g1, cap1, cur, e, _, _, h4, _⟩
        · cases e
        · cases e; exact h4
      have hbb : (l.length + ys.length) * bytes ≤ 140737488355328 := by
        have := Nat.mul_le_mul hlen hb200
        omega
      obtain ⟨g', cap', w', hrun, r1, r2, r3⟩ := run_append_new (P := P) w 0 t rt ty i z sz bytes ht hi hz hsize hby hzs hsz _ l.length xs h1 ad ys.length c cx hcx (hc ad rfl) h1c (by simp only [maxLen]; omega) hbb (Nat.zero_le _) (by omega)
      have hgg : g' = g ∨ w.heap.size ≤ g' := r3.elim (fun e => .inl (by simp [Value.ownBlock] at e; exact e.symm)) .inr
      refine ⟨g', cap', w', hrun, OwnR.pushes K h3 h1 h2 hE hSx' r1 r2 ?_, r2, hgg⟩
      rcases r3 with e | e
      · exact .inl (by rw [e]; rfl)
      · exact .inr (fun x hx => by simp [Value.ownBlock] at hx; omega)
theorem wpl_pushes (K : KeepE E) (P : Program) (w : World) {ops : Array Oper} {rest : List Oper} {o : Oper} {a : Act} {Q : Exit → Act → World → Prop} (hgd : o.guard = none) (s x : Operand) (t : TypeId)
    (ho : o.op = .call { callee := .builtin .append, args := #[s, x], argTypes := #[t, t] })
    (i : TypeInfo) (z : Value) (bytes : Nat) (ht : P.underlying t = some (.slice ty)) (hi : P.info? ty = some i) (hz : i.zero = some z)
    (hsize : i.size = sz) (hby : i.bytes = bytes) (hzs : z.cells.size = sz) (hsz : 0 < sz) (hb200 : bytes ≤ 200)
    {S Sx : Nat → Prop} {g n cap : Nat} {l ys : List α} {cx : List Value} (hn : n = l.length) (hs : a.eval s = .slice (some ⟨g, 0, none⟩) n cap) (hown : OwnR E ty sz w 0 S (.slice (some ⟨g, 0, none⟩) n cap) l)
    (ao : Option Addr) (k c : Nat) (hk : k = ys.length) (hx : a.eval x = .slice ao k c) (hcx : cx.length = ys.length * sz) (hnone : ao = none → ys.length = 0 ∧ c = 0) (hc : ∀ ad, ao = some ad → ∀ j u, cx[j]? = some u → w.cell? (ad.add j) = some u) (h1c : ∀ u ∈ cx, u.oneCell' = true)
    (hE : ∀ (j : Nat) (h : j < ys.length), E ys[j] w Sx ((cx.drop (j * sz)).take sz)) (hSx : ∀ b, Sx b → b < w.heap.size ∧ b ≠ g) (hlen : l.length + ys.length ≤ 4294967296)
    (h : ∀ g' cap' w', OwnR E ty sz w' 0 (fun b => S b ∨ Sx b) (.slice (some ⟨g', 0, none⟩) (n + k) cap') (l ++ ys) → w.grownBy w' (some g) → (g' = g ∨ w.heap.size ≤ g') → wpList P ops Q rest (a.put o.dst (.slice (some ⟨g', 0, none⟩) (n + k) cap')) w') : wpList P ops Q (o :: rest) a w := by
  subst hk
  refine wpList_plain hgd fun K' hK' => ?_
  obtain ⟨g', cap', w', hrun, r1, r2, r3⟩ := run_pushes K P w t o.type i z bytes ht hi hz hsize hby hzs hsz hb200 hn hown ao c hcx hnone hc h1c hE hSx hlen
  unfold Oper.wp
  simp [execOp, ho, resolve, invoke, builtin, hs, hx, hrun, Result.andThen]
  exact hK' _ _ (h g' cap' w' r1 r2 r3)
end
end Go.Proofs.YthgfomblodhoaaaDoor
/- freeholdlaw02.put: some members. -/
namespace Go.Proofs.YthgfomblodhoaaaDoor
open Go.RowKit
theorem OwnM.out {w w0 : World} {S T : Nat → Prop} {g n cap : Nat} {l : List Mem} (h : OwnM false w 0 S (.slice (some ⟨g, 0, none⟩) n cap) (l.map some)) (hn : n = l.length) (hST : ∀ x, S x → T x) (hg : w0.heap.size ≤ g) : Headed (some ⟨g, 0, none⟩) l.length cap g 0 ∧ liesM false w (fun y => T y ∨ (w0.heap.size ≤ y ∧ y < w.heap.size)) l g 0 := by
  have h1 := h.le
  have h2 := h.lt (g := g) rfl
  simp only [List.length_map] at h1
  refine ⟨⟨h1.1, h1.2, .inr rfl, fun h => by cases h⟩, liesM_mk fun j hj => ?_⟩
  obtain ⟨cs, r1, r2⟩ := h.at (by simp [hn]) j (by simpa using hj)
  rw [List.getElem_map] at r2
  obtain ⟨cs', rfl, hk, r3⟩ := r2
  exact ⟨.inr ⟨hg, h2.2⟩, hk, cs', r1, V.lies_keep (fun h => h) (fun _ _ => rfl) (fun b hb => .inl (hST b hb)) _ r3⟩
end Go.Proofs.YthgfomblodhoaaaDoor
/- freeholdlaw02.put: the very members. -/
namespace Go.Proofs.YthgfomblodhoaaaDoor
open Go.RowKit
def lessKey (key : ByteArray) (y : Mem) : Bool := Op.bytesLess y.1.toList key.toList
def keyIs (key : ByteArray) : Option Mem → Bool
  | some y => y.1.toList == key.toList
  | none => false
/-- what 'put' answers -/
def putF (old : List Mem) (x : Mem) : List Mem :=
  if keyIs x.1 old[(old.filter (lessKey x.1)).length]? = true then old else old.filter (lessKey x.1) ++ [x] ++ old.drop (old.filter (lessKey x.1)).length
def PutPostS (T : Nat → Prop) (old : List Mem) (x : Mem) (w : World) (e : Ending) (w' : World) : Prop :=
  ∃ (ao : Option Addr) (cap b o : Nat), e = .returned (.slice ao (putF old x).length cap) ∧ Headed ao (putF old x).length cap b o ∧ liesM false w' (fun y => T y ∨ (w.heap.size ≤ y ∧ y < w'.heap.size)) (putF old x) b o ∧ Below w.heap.size w w'
theorem PutPostS.of {T : Nat → Prop} {old : List Mem} {x : Mem} {w : World} {e : Ending} {w' : World} {ms : List Mem} (h : ms = putF old x) (h1 : ∃ (ao : Option Addr) (cap b o : Nat), e = .returned (.slice ao ms.length cap) ∧ Headed ao ms.length cap b o ∧ liesM false w' (fun y => T y ∨ (w.heap.size ≤ y ∧ y < w'.heap.size)) ms b o ∧ Below w.heap.size w w') : PutPostS T old x w e w' := by
  subst h; exact h1
end Go.Proofs.YthgfomblodhoaaaDoor
/- freeholdref02: walk. -/
namespace Go.Proofs.YthgfomblodhoaaaDoor
open Go.RowKit Go.Lib
structure RwF (w : World) (box : Array Value) (n y : Nat) (wr : World) : Prop where
  below : Below w.heap.size w wr
  b0 : wr.heap[w.heap.size]? = some (.cells box 25 (0, 0))
  b1 : wr.heap[w.heap.size + 1]? = some (.cells #[.int .i64 (n : Int), .int .i64 (y : Int)] 54 (0, 0))
  b2 : wr.heap[w.heap.size + 1 + 1]? = some (.cells #[.int .i64 0, .int .i64 0] 54 (0, 0))
theorem RwF.lt {w : World} {box : Array Value} {n y : Nat} {wr : World} (h : RwF w box n y wr) : w.heap.size + 3 ≤ wr.heap.size := (Array.getElem?_eq_some_iff.1 h.b2).1
theorem RwF.grown {w : World} {box : Array Value} {n y : Nat} {wr wr' : World} (h : RwF w box n y wr) (g : wr.grownBy wr' none) : RwF w box n y wr' := by
  have hs := h.lt
  exact ⟨h.below.grown g (by omega) (fun r e => by cases e), (g.block _ (by omega) (by simp)).trans h.b0, (g.block _ (by omega) (by simp)).trans h.b1, (g.block _ (by omega) (by simp)).trans h.b2⟩
theorem RwF.set {w : World} {box : Array Value} {n y n' y' : Nat} {wr : World} (h : RwF w box n y wr) (i : Nat) (u : Value) (e : (#[.int .i64 (n : Int), .int .i64 (y : Int)] : Array Value).setIfInBounds i u = #[.int .i64 (n' : Int), .int .i64 (y' : Int)]) : RwF w box n' y' (wr.setCell ⟨w.heap.size + 1, i, none⟩ u) := by
  have hs := h.lt
  have g := grown_set1 wr (w.heap.size + 1) i u
  have hn : ∀ q, q ≠ w.heap.size + 1 → some q ≠ some (w.heap.size + 1) := fun q hq e => hq (Option.some.inj e)
  refine ⟨h.below.grown g (by omega) (fun r e => by cases e; omega), (g.block _ (by omega) (hn _ (by omega))).trans h.b0, ?_, (g.block _ (by omega) (hn _ (by omega))).trans h.b2⟩
  rw [set_block h.b1, e]
end Go.Proofs.YthgfomblodhoaaaDoor
/- freeholdref02.Check, freeholdref00.Value. -/
namespace Go.Proofs.YthgfomblodhoaaaDoor
open Go.RowKit Go.Lib
/-- whether a value is beyond the bound; if not, how heavy it is -/
def BeyPost (v : V) (w : World) (e : Ending) (w' : World) : Prop := ∃ r, e = .returned (.bool r) ∧ (r = false → v.wt ≤ 2147483647) ∧ Below w.heap.size w w'
set_option maxHeartbeats 4000000 in
set_option maxRecDepth 100000 in
theorem beyond_any (v : V) (S : Nat → Prop) (cs : List Value) (w : World) (hl : v.lies false w S cs) (hS : ∀ b, S b → b < w.heap.size) : Calls Tryd.prog 6 #[.agg cs.toArray] w (BeyPost v w) := by
  obtain ⟨k, b, i, s, al, nl, cl, am, nm, cm, rfl⟩ := V.ten hl
  have ga : w.grownBy ((w.alloc (.cells #[.int .i64 k, .bool b, .int .i64 i, .string s, .slice al nl cl, .slice am nm cm] 25)).alloc (.cells #[.int .i64 0] 55)) none := grown_alloc (World.grownBy_alloc _ _ _) _
  have hn := alloc2_new w (.cells #[.int .i64 k, .bool b, .int .i64 i, .string s, .slice al nl cl, .slice am nm cm] 25) (.cells #[.int .i64 0] 55)
  have hC : Cnt (w.heap.size + 1) 0 ((w.alloc (.cells #[.int .i64 k, .bool b, .int .i64 i, .string s, .slice al nl cl, .slice am nm cm] 25)).alloc (.cells #[.int .i64 0] 55)) := ⟨by rw [cell_of_block hn]; rfl, frozen_of_block hn 0⟩
  have c := cval_any v (w.heap.size + 1) 0 65520 S _ _ (V.lies_keep (fun h => h) (fun x hx => ga.block x (hS x hx) (by simp)) (fun _ h => h) _ hl) (fun x hx => ⟨by have := hS x hx; omega, Nat.lt_of_lt_of_le (hS x hx) ga.size⟩) hC (by omega) (by omega)
  have e5 : ((65520 : Nat) : Int) = 65520 := rfl
  rw [e5] at c
  go_enter Tryd.func6, Tryd.ntmps6
  go_wp2_with fail
  refine c.mono ?_
  rintro e w1 ⟨r, rfl, g1, h1⟩
  go_wp2_with fail
  go_ret
  exact ⟨r, rfl, fun h => by have := (h1 h).1; omega, (below_of_grown ga).grown g1 ga.size (fun q e => by cases e; omega)⟩
end Go.Proofs.YthgfomblodhoaaaDoor
/- Depth, Nodes, Scalar and the document's: contracts. -/
namespace Go.Proofs.YthgfomblodhoaaaDoor
open Go.RowKit Go.Lib
def okV (v : V) : Bool := decide ((chkV 40 v 0 (0, 0, 0)).1 = 0)
def sizD (v : V) : Int := if okV v = true then (dptV v : Int) else -1
def sizN (v : V) : Int := if okV v = true then ((chkV 40 v 0 (0, 0, 0)).2.1 : Int) else -1
def kindOf : V → Int
  | .mk k _ _ _ _ _ => k
def sizS (v : V) : Bool := okV v && (decide (1 ≤ kindOf v) && decide (kindOf v ≤ 3))
def IPost (r : Int) (w : World) (e : Ending) (w' : World) : Prop := e = .returned (.int .i64 r) ∧ Below w.heap.size w w'
theorem chkE40 (v : V) : chkE v 40 = (chkV 40 v 0 (0, 0, 0)).1 := by rw [chkE, if_neg (by omega)]; rfl
theorem okV_true {v : V} (h : okV v = true) : (chkV 40 v 0 (0, 0, 0)).1 = 0 := of_decide_eq_true h
theorem okV_false {v : V} (h : okV v = false) : (chkV 40 v 0 (0, 0, 0)).1 ≠ 0 := of_decide_eq_false h
theorem dpt_of {v : V} (h : okV v = true) : (chkV 40 v 0 (0, 0, 0)).2.2.2 = dptV v := by
  rw [chkV_dpt 40 v 0 _ (okV_true h)]; simp
set_option maxHeartbeats 4000000 in
set_option maxRecDepth 100000 in
theorem depth_any (R : Bool) (v : V) (S : Nat → Prop) (cs : List Value) (w : World) (t : Tb w) (hl : v.lies R w S cs) (hS : ∀ b, S b → b < w.heap.size) (hwt : v.wt ≤ 1099511627776) :
    Calls Tryd.prog 27 #[.agg cs.toArray] w (IPost (sizD v) w) := by
  obtain ⟨k, b, i, s, al, nl, cl, am, nm, cm, rfl⟩ := V.ten hl
  have ga : w.grownBy ((w.alloc (.cells #[.int .i64 k, .bool b, .int .i64 i, .string s, .slice al nl cl, .slice am nm cm] 25)).alloc (.cells #[.int .i64 40, .int .i64 0, .int .i64 0, .int .i64 0] 70)) none := grown_alloc (World.grownBy_alloc _ _ _) _
  have hk : ∀ x, S x → ((w.alloc (.cells #[.int .i64 k, .bool b, .int .i64 i, .string s, .slice al nl cl, .slice am nm cm] 25)).alloc (.cells #[.int .i64 40, .int .i64 0, .int .i64 0, .int .i64 0] 70)).heap[x]? = w.heap[x]? := fun x hx => ga.block x (hS x hx) (by simp)
  have c := visit_any v R (w.heap.size + 1) 40 0 (0, 0, 0) S _ _ (t.grown ga (fun r e => by cases e)) (V.lies_keep (fun h => h) hk (fun _ h => h) _ hl) (fun x hx => ⟨by have := hS x hx; omega, Nat.lt_of_lt_of_le (hS x hx) ga.size⟩) ⟨alloc2_new w _ _⟩ (by have := t.z; omega) hwt ⟨by simp, by simp, by simp⟩ (by omega) (by omega)
  cases ho : okV v with
  | true =>
    have HF : Hid (sizD v = (dptV v : Int)) := by show _ = _; rw [sizD, if_pos ho]
    have h0 := okV_true ho
    have hd := dpt_of ho
    clear ho
    generalize chkV 40 v 0 (0, 0, 0) = z at *
    generalize dptV v = d at *
    go_enter Tryd.func27, Tryd.ntmps27
    go_wp2_with fail
    refine c.mono ?_
    rintro e w1 ⟨rfl, h1, g1⟩
    have h2 := h1.b
    rw [hd] at h2
    have d3 : w1.cell? ⟨w.heap.size + 1, 3, none⟩ = some (.int .i64 (d : Int)) := by rw [cell_of_block h2]; rfl
    have y1 : ((z.1 : Nat) : Int) = 0 := by omega
    clear h1 h2 hd
    go_wp2_with fail
    go_ret
    rw [HF.out]
    exact ⟨rfl, (below_of_grown ga).grown g1 ga.size (fun r e => by cases e; omega)⟩
  | false =>
    have HF : Hid (sizD v = -1) := by show _ = _; rw [sizD, if_neg (by simp [ho])]
    have h0 := okV_false ho
    clear ho
    generalize chkV 40 v 0 (0, 0, 0) = z at *
    go_enter Tryd.func27, Tryd.ntmps27
    go_wp2_with fail
    refine c.mono ?_
    rintro e w1 ⟨rfl, h1, g1⟩
    have y1 : ¬ ((z.1 : Nat) : Int) = 0 := by omega
    clear h1
    go_wp2_with fail
    go_ret
    rw [HF.out]
    exact ⟨rfl, (below_of_grown ga).grown g1 ga.size (fun r e => by cases e; omega)⟩
set_option maxHeartbeats 4000000 in
set_option maxRecDepth 100000 in
theorem nodes_any (R : Bool) (v : V) (S : Nat → Prop) (cs : List Value) (w : World) (t : Tb w) (hl : v.lies R w S cs) (hS : ∀ b, S b → b < w.heap.size) (hwt : v.wt ≤ 1099511627776) :
    Calls Tryd.prog 26 #[.agg cs.toArray] w (IPost (sizN v) w) := by
  obtain ⟨k, b, i, s, al, nl, cl, am, nm, cm, rfl⟩ := V.ten hl
  have ga : w.grownBy ((w.alloc (.cells #[.int .i64 k, .bool b, .int .i64 i, .string s, .slice al nl cl, .slice am nm cm] 25)).alloc (.cells #[.int .i64 40, .int .i64 0, .int .i64 0, .int .i64 0] 70)) none := grown_alloc (World.grownBy_alloc _ _ _) _
  have hk : ∀ x, S x → ((w.alloc (.cells #[.int .i64 k, .bool b, .int .i64 i, .string s, .slice al nl cl, .slice am nm cm] 25)).alloc (.cells #[.int .i64 40, .int .i64 0, .int .i64 0, .int .i64 0] 70)).heap[x]? = w.heap[x]? := fun x hx => ga.block x (hS x hx) (by simp)
  have c := visit_any v R (w.heap.size + 1) 40 0 (0, 0, 0) S _ _ (t.grown ga (fun r e => by cases e)) (V.lies_keep (fun h => h) hk (fun _ h => h) _ hl) (fun x hx => ⟨by have := hS x hx; omega, Nat.lt_of_lt_of_le (hS x hx) ga.size⟩) ⟨alloc2_new w _ _⟩ (by have := t.z; omega) hwt ⟨by simp, by simp, by simp⟩ (by omega) (by omega)
  cases ho : okV v with
  | true =>
    have HF : Hid (sizN v = ((chkV 40 v 0 (0, 0, 0)).2.1 : Int)) := by show _ = _; rw [sizN, if_pos ho]
    have h0 := okV_true ho
    clear ho
    generalize chkV 40 v 0 (0, 0, 0) = z at *
    obtain ⟨z1, z2, z3, z4⟩ := z
    simp only at HF h0 c
    go_enter Tryd.func26, Tryd.ntmps26
    go_wp2_with fail
    refine c.mono ?_
    rintro e w1 ⟨rfl, h1, g1⟩
    have h2 := h1.b
    have d1 : w1.cell? ⟨w.heap.size + 1, 1, none⟩ = some (.int .i64 (z2 : Int)) := by rw [cell_of_block h2]; rfl
    have y1 : ((z1 : Nat) : Int) = 0 := by omega
    clear h1 h2
    go_wp2_with fail
    go_ret
    rw [HF.out]
    exact ⟨rfl, (below_of_grown ga).grown g1 ga.size (fun r e => by cases e; omega)⟩
  | false =>
    have HF : Hid (sizN v = -1) := by show _ = _; rw [sizN, if_neg (by simp [ho])]
    have h0 := okV_false ho
    clear ho
    generalize chkV 40 v 0 (0, 0, 0) = z at *
    go_enter Tryd.func26, Tryd.ntmps26
    go_wp2_with fail
    refine c.mono ?_
    rintro e w1 ⟨rfl, h1, g1⟩
    have y1 : ¬ ((z.1 : Nat) : Int) = 0 := by omega
    clear h1
    go_wp2_with fail
    go_ret
    rw [HF.out]
    exact ⟨rfl, (below_of_grown ga).grown g1 ga.size (fun r e => by cases e; omega)⟩
set_option maxHeartbeats 4000000 in
set_option maxRecDepth 100000 in
theorem taken_any (R : Bool) (v : V) (S : Nat → Prop) (cs : List Value) (w : World) (t : Tb w) (hl : v.lies R w S cs) (hS : ∀ b, S b → b < w.heap.size) (hwt : v.wt ≤ 1099511627776) :
    Calls Tryd.prog 30 #[.agg cs.toArray] w (BPost (okV v) w) := by
  obtain ⟨k, b, i, s, al, nl, cl, am, nm, cm, rfl⟩ := V.ten hl
  have ga : w.grownBy (w.alloc (.cells #[.int .i64 k, .bool b, .int .i64 i, .string s, .slice al nl cl, .slice am nm cm] 25)) none := World.grownBy_alloc _ _ _
  have c := check_any R v 40 S _ _ (t.grown ga (fun r e => by cases e)) (V.lies_keep (fun h => h) (fun x hx => ga.block x (hS x hx) (by simp)) (fun _ h => h) _ hl) (fun x hx => Nat.lt_of_lt_of_le (hS x hx) ga.size) hwt
  rw [chkE40] at c
  have HF : Hid (okV v = ((((chkV 40 v 0 (0, 0, 0)).1 : Nat) : Int) == 0)) := by
    show _ = _
    rw [okV, Bool.eq_iff_iff, decide_eq_true_iff, beq_iff_eq]
    omega
  generalize (chkV 40 v 0 (0, 0, 0)).1 = z at *
  go_enter Tryd.func30, Tryd.ntmps30
  go_wp2_with fail
  refine c.mono ?_
  rintro e w1 ⟨rfl, b1⟩
  go_wp2_with fail
  go_ret
  refine ⟨?_, (below_of_grown ga).trans (b1.mono ga.size)⟩
  rw [HF.out]
  rfl
set_option maxHeartbeats 4000000 in
set_option maxRecDepth 100000 in
theorem scalar_any (R : Bool) (v : V) (S : Nat → Prop) (cs : List Value) (w : World) (t : Tb w) (hl : v.lies R w S cs) (hS : ∀ b, S b → b < w.heap.size) (hwt : v.wt ≤ 1099511627776) :
    Calls Tryd.prog 42 #[.agg cs.toArray] w (BPost (sizS v) w) := by
  have hl0 := hl
  obtain ⟨k, b, i, s, l, m⟩ := v
  rw [V.lies] at hl
  obtain ⟨al, cl, bl, ol, am, cm, bm, om, rfl, hk, hi, hs, hal, ham, _⟩ := hl
  have ga : w.grownBy (w.alloc (.cells #[.int .i64 k, .bool b, .int .i64 i, .string s, .slice al l.length cl, .slice am m.length cm] 25)) none := World.grownBy_alloc _ _ _
  have c := taken_any R _ S _ _ (t.grown ga (fun r e => by cases e)) (V.lies_keep (fun h => h) (fun x hx => ga.block x (hS x hx) (by simp)) (fun _ h => h) _ hl0) (fun x hx => Nat.lt_of_lt_of_le (hS x hx) ga.size) hwt
  clear hl0 hwt
  by_cases h3 : k = 1 ∨ k = 2 ∨ k = 3
  · have HF : Hid (sizS (V.mk k b i s l m) = okV (V.mk k b i s l m)) := by
      show _ = _
      rw [sizS, kindOf, decide_eq_true (show 1 ≤ k by omega), decide_eq_true (show k ≤ 3 by omega)]; simp
    generalize okV (V.mk k b i s l m) = z at *
    rcases h3 with rfl | rfl | rfl
    all_goals
      go_enter Tryd.func42, Tryd.ntmps42
      go_wp2_with fail
      refine c.mono ?_
      rintro e w1 ⟨rfl, b1⟩
      go_wp2_with fail
      go_ret
      rw [HF.out]
      exact ⟨rfl, (below_of_grown ga).trans (b1.mono ga.size)⟩
  · have HF : Hid (sizS (V.mk k b i s l m) = false) := by
      show _ = _
      rw [sizS, kindOf]
      by_cases h1 : 1 ≤ k
      · rw [decide_eq_false (show ¬ k ≤ 3 by omega)]; simp
      · rw [decide_eq_false h1]; simp
    have y1 : ¬ k = 1 := by omega
    have y2 : ¬ k = 2 := by omega
    have y3 : ¬ k = 3 := by omega
    clear c
    go_enter Tryd.func42, Tryd.ntmps42
    go_wp2_with fail
    go_ret
    rw [HF.out]
    exact ⟨rfl, below_of_grown ga⟩
end Go.Proofs.YthgfomblodhoaaaDoor
