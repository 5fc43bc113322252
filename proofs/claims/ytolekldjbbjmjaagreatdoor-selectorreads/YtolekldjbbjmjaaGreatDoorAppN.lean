import Derived.Test.YtolekldjbbjmjaaGreatDoorG0
import Derived.ArgAppend
import Derived.Deep.RegionLaw
/- Rows of the call's own, of values or members, to which one more is appended. -/
set_option linter.unusedSimpArgs false
set_option linter.unusedVariables false
namespace Go.Proofs.YtolekldjbbjmjaaGreatDoor
open Go.RowKit
section
variable {P : Program}
/-- append to a row of the call's own: in its place, or in a new block -/
theorem run_append_new (w : World) (base : Nat) (t ty e : TypeId) (i : TypeInfo) (z : Value) (size bytes : Nat) (ht : P.underlying t = some (.slice e)) (hi : P.info? e = some i) (hz : i.zero = some z)
    (hsize : i.size = size) (hby : i.bytes = bytes) (hzs : z.cells.size = size) (hsz : 0 < size)
    (v : Value) (n : Nat) (xs : List Value) (hown : w.ownsRow base e size v n xs)
    (a : Addr) (m c : Nat) (news : List Value) (hl : news.length = m * size) (hnews : ∀ j u, news[j]? = some u → w.cell? (a.add j) = some u) (h1 : ∀ u ∈ news, u.oneCell' = true)
    (h63 : n + m ≤ maxLen) (hbytes : (n + m) * bytes ≤ 140737488355328) (hbase : base ≤ w.heap.size) (hm : 0 < m) :
    ∃ g cap w', (Builtin.append_ #[t, t] ty #[v, .slice (some a) m c]).run P w = .ok (.slice (some ⟨g, 0, none⟩) (n + m) cap) w' ∧ w'.ownsRow base e size (.slice (some ⟨g, 0, none⟩) (n + m) cap) (n + m) (xs ++ news) ∧ w.grownBy w' v.ownBlock ∧
      (v.ownBlock = some g ∨ w.heap.size ≤ g) := by
  have hnew : ∀ v' w', (Builtin.append_ #[t, t] ty #[v, .slice (some a) m c]).run P w = .ok v' w' → w'.ownsRow w.heap.size e size v' (n + m) (xs ++ news) → w.grownBy w' none →
      ∃ g cap w', (Builtin.append_ #[t, t] ty #[v, .slice (some a) m c]).run P w = .ok (.slice (some ⟨g, 0, none⟩) (n + m) cap) w' ∧ w'.ownsRow base e size (.slice (some ⟨g, 0, none⟩) (n + m) cap) (n + m) (xs ++ news) ∧ w.grownBy w' v.ownBlock ∧
      (v.ownBlock = some g ∨ w.heap.size ≤ g) := by
    intro v' w' hrun ho hg
    rcases ho.2 with ⟨_, h0⟩ | ⟨g, cap, cur, rfl, hb, hg1, hc1, hc2, hc3, hc4⟩
    · omega
    · exact ⟨g, cap, w', hrun, ⟨ho.1, .inr ⟨g, cap, cur, rfl, Nat.le_trans hbase hb, hg1, hc1, hc2, hc3, hc4⟩⟩, ⟨hg.os, hg.tape, hg.output, hg.size, fun k hk _ => hg.block k hk (by simp)⟩, .inr hb⟩
  rcases hown.2 with ⟨rfl, rfl⟩ | ⟨g, cap, cur, rfl, hb, hg, hc1, hc2, hc3, hc4⟩
  · have hx0 : xs = [] := List.eq_nil_of_length_eq_zero (by simpa using hown.1)
    subst hx0
    obtain ⟨v', w', hrun, r1, r2, _⟩ := run_append_own (P := P) w w.heap.size t ty e i z size bytes ht hi hz hsize hby hzs hsz (.slice none 0 0) 0 [] (World.ownsRow_nil w _ e size) a m c news hl hnews h1 h63 hbytes (Nat.le_refl _)
    exact hnew v' w' hrun r1 r2
  · by_cases hr : n + m ≤ cap
    · obtain ⟨w', hrun, r1, r2⟩ := run_append_fits (P := P) w base t ty e i size ht hi hsize g n cap xs hown a m c news hl hnews h1 hr
      exact ⟨g, cap, w', hrun, r1, r2, .inl rfl⟩
    · obtain ⟨v', w', hrun, r1, r2⟩ := run_append_arg_grows (P := P) w t ty e i z size bytes ht hi hz hsize hby hzs hsz ⟨g, 0, none⟩ n cap xs hown.1 (hown.cells rfl) a m c news hl hnews (by omega) h63 hbytes
      exact hnew v' w' hrun r1 r2
end
section
variable {α : Type} (E : α → World → (Nat → Prop) → List Value → Prop) (ty sz : Nat)
/-- a row of the call's own, whose elements lie in blocks of S -/
structure OwnR (w : World) (base : Nat) (S : Nat → Prop) (v : Value) (l : List α) : Prop where
  row : ∃ xs, w.ownsRow base ty sz v l.length xs ∧ ∀ (j : Nat) (h : j < l.length), E l[j] w S ((xs.drop (j * sz)).take sz)
  off : ∀ b, S b → base ≤ b ∧ b < w.heap.size ∧ some b ≠ v.ownBlock
def KeepE : Prop := ∀ (x : α) (w w' : World) (S S' : Nat → Prop) (cs : List Value), (∀ b, S b → w'.heap[b]? = w.heap[b]?) → (∀ b, S b → S' b) → E x w S cs → E x w' S' cs
variable {E ty sz}
theorem OwnR.nil (w : World) (base : Nat) : OwnR E ty sz w base (fun _ => False) (.slice none 0 0) [] :=
  ⟨⟨[], World.ownsRow_nil w base ty sz, fun j h => by simp at h⟩, fun b h => h.elim⟩
theorem OwnR.keep (K : KeepE E) {w w' : World} {base : Nat} {S : Nat → Prop} {v : Value} {l : List α} {row : Option Nat} (h : OwnR E ty sz w base S v l) (hg : w.grownBy w' row) (hr : ∀ r, row = some r → ¬ S r ∧ v.ownBlock ≠ some r) : OwnR E ty sz w' base S v l := by
  obtain ⟨⟨xs, h1, h2⟩, h3⟩ := h
  have hb : ∀ b, S b → w'.heap[b]? = w.heap[b]? := fun b hb => hg.block b (h3 b hb).2.1 (fun e => (hr b e.symm).1 hb)
  refine ⟨⟨xs, h1.kept hg ?_, fun j hj => K _ _ _ _ _ _ hb (fun _ h => h) (h2 j hj)⟩, fun b hb => ⟨(h3 b hb).1, Nat.lt_of_lt_of_le (h3 b hb).2.1 hg.size, (h3 b hb).2.2⟩⟩
  cases hrow : row with
  | none =>
    cases hv : v.ownBlock with
    | none => exact .inl rfl
    | some g => exact .inr (by simp)
  | some r => exact .inr (hr r hrow).2
theorem OwnR.lt {w : World} {base : Nat} {S : Nat → Prop} {v : Value} {l : List α} (h : OwnR E ty sz w base S v l) {g : Nat} (hg : v.ownBlock = some g) : base ≤ g ∧ g < w.heap.size := by
  obtain ⟨⟨xs, h1, _⟩, _⟩ := h
  exact h1.lt g hg
theorem OwnR.base {w : World} {base base' : Nat} {S : Nat → Prop} {v : Value} {l : List α} (h : OwnR E ty sz w base S v l) (hb : base' ≤ base) : OwnR E ty sz w base' S v l := by
  obtain ⟨⟨xs, h1, h2⟩, h3⟩ := h
  refine ⟨⟨xs, ⟨h1.1, ?_⟩, h2⟩, fun b hS => ⟨Nat.le_trans hb (h3 b hS).1, (h3 b hS).2⟩⟩
  rcases h1.2 with h | ⟨g, cap, cur, e, q, r⟩
  · exact .inl h
  · exact .inr ⟨g, cap, cur, e, Nat.le_trans hb q, r⟩
theorem chunk_left {xs cx : List Value} {n j sz : Nat} (hl : xs.length = n * sz) (hj : j < n) : ((xs ++ cx).drop (j * sz)).take sz = (xs.drop (j * sz)).take sz := by
  have h : (j + 1) * sz ≤ n * sz := Nat.mul_le_mul_right _ hj
  rw [Nat.succ_mul] at h
  rw [List.drop_append_of_le_length (by omega), List.take_append_of_le_length (by simp; omega)]
theorem chunk_last {xs cx : List Value} {n sz : Nat} (hl : xs.length = n * sz) (hc : cx.length = sz) : ((xs ++ cx).drop (n * sz)).take sz = cx := by
  rw [← hl, List.drop_left, ← hc, List.take_length]
/-- one more -/
theorem OwnR.push (K : KeepE E) {w w' : World} {base : Nat} {S Sx : Nat → Prop} {v v' : Value} {l : List α} {x : α} {cx xs : List Value} 
    (h3 : ∀ b, S b → base ≤ b ∧ b < w.heap.size ∧ some b ≠ v.ownBlock) (h1 : w.ownsRow base ty sz v l.length xs) (h2 : ∀ (j : Nat) (h : j < l.length), E l[j] w S ((xs.drop (j * sz)).take sz))
    (hE : E x w Sx cx) (hSx : ∀ b, Sx b → base ≤ b ∧ b < w.heap.size ∧ some b ≠ v.ownBlock) (hcx : cx.length = sz)
    (ho : w'.ownsRow base ty sz v' (l.length + 1) (xs ++ cx)) (hg : w.grownBy w' v.ownBlock) (hn : v.ownBlock = v'.ownBlock ∨ ∀ g, v'.ownBlock = some g → w.heap.size ≤ g) :
    OwnR E ty sz w' base (fun b => S b ∨ Sx b) v' (l ++ [x]) := by
  have hall : ∀ b, S b ∨ Sx b → base ≤ b ∧ b < w.heap.size ∧ some b ≠ v.ownBlock := fun b hb => hb.elim (h3 b) (hSx b)
  have hb : ∀ b, S b ∨ Sx b → w'.heap[b]? = w.heap[b]? := fun b hb => hg.block b (hall b hb).2.1 (hall b hb).2.2
  refine ⟨⟨xs ++ cx, by simpa using ho, fun j hj => ?_⟩, fun b hS => ⟨(hall b hS).1, Nat.lt_of_lt_of_le (hall b hS).2.1 hg.size, ?_⟩⟩
  · by_cases hjl : j < l.length
    · rw [List.getElem_append_left hjl, chunk_left h1.1 hjl]
      exact K _ _ _ _ _ _ (fun b h => hb b (.inl h)) (fun _ h => .inl h) (h2 j hjl)
    · obtain rfl : j = l.length := by simp at hj; omega
      rw [chunk_last h1.1 hcx, List.getElem_append_right (by omega)]
      simpa using K _ _ _ _ _ _ (fun b h => hb b (.inr h)) (fun _ h => .inr h) hE
  · rcases hn with e | e
    · rw [← e]; exact (hall b hS).2.2
    · intro h
      have := e b h.symm
      have := (hall b hS).2.1
      omega
theorem cells_of_block {w : World} {tb : Nat} {cx : List Value} {t : TypeId} {fz : Nat × Nat} (hb : w.heap[tb]? = some (.cells cx.toArray t fz)) : ∀ j u, cx[j]? = some u → w.cell? ((⟨tb, 0, none⟩ : Addr).add j) = some u := by
  intro j u hu
  rw [Go.WideShapes.add_plain]
  simp [World.cell?, hb, hu]
/-- append's law on such a row -/
theorem run_push (K : KeepE E) (P : Program) (w : World) (base : Nat) (t rt : TypeId) (i : TypeInfo) (z : Value) (bytes : Nat) (ht : P.underlying t = some (.slice ty)) (hi : P.info? ty = some i) (hz : i.zero = some z)
    (hsize : i.size = sz) (hby : i.bytes = bytes) (hzs : z.cells.size = sz) (hsz : 0 < sz) (hb200 : bytes ≤ 200)
    {S Sx : Nat → Prop} {v : Value} {l : List α} (x : α) {cx : List Value} (hown : OwnR E ty sz w base S v l)
    (tb c : Nat) (fz : Nat × Nat) (htb : w.heap[tb]? = some (.cells cx.toArray ty fz)) (hcx : cx.length = sz) (h1c : ∀ u ∈ cx, u.oneCell' = true) (hE : E x w Sx cx) (hSx : ∀ b, Sx b → base ≤ b ∧ b < w.heap.size ∧ some b ≠ v.ownBlock)
    (hlen : l.length ≤ 4294967296) (hbase : base ≤ w.heap.size) :
    ∃ g cap w', (Builtin.append_ #[t, t] rt #[v, .slice (some ⟨tb, 0, none⟩) 1 c]).run P w = .ok (.slice (some ⟨g, 0, none⟩) (l.length + 1) cap) w' ∧
      OwnR E ty sz w' base (fun b => S b ∨ Sx b) (.slice (some ⟨g, 0, none⟩) (l.length + 1) cap) (l ++ [x]) ∧ w.grownBy w' v.ownBlock ∧ (v.ownBlock = some g ∨ w.heap.size ≤ g) := by
  obtain ⟨⟨xs, h1, h2⟩, h3⟩ := hown
  have hbb : (l.length + 1) * bytes ≤ 140737488355328 := by
    have := Nat.mul_le_mul (show l.length + 1 ≤ 4294967297 by omega) hb200
    omega
  obtain ⟨g, cap, w', hrun, r1, r2, r3⟩ := run_append_new (P := P) w base t rt ty i z sz bytes ht hi hz hsize hby hzs hsz v l.length xs h1 ⟨tb, 0, none⟩ 1 c cx (by omega) (cells_of_block htb) h1c (by simp only [maxLen]; omega) hbb hbase (by omega)
  refine ⟨g, cap, w', hrun, OwnR.push K h3 h1 h2 hE hSx hcx r1 r2 ?_, r2, r3⟩
  rcases r3 with e | e
  · exact .inl (by rw [e]; rfl)
  · exact .inr (fun g' hg' => by simp [Value.ownBlock] at hg'; omega)
end
section
variable {α : Type} {E : α → World → (Nat → Prop) → List Value → Prop} {ty sz : Nat} {P : Program}
theorem wpl_push (K : KeepE E) (w : World) {ops : Array Oper} {rest : List Oper} {o : Oper} {a : Act} {Q : Exit → Act → World → Prop} (hgd : o.guard = none) (s x : Operand) (t : TypeId)
    (ho : o.op = .call { callee := .builtin .append, args := #[s, x], argTypes := #[t, t] })
    (base : Nat) (i : TypeInfo) (z : Value) (bytes : Nat) (ht : P.underlying t = some (.slice ty)) (hi : P.info? ty = some i) (hz : i.zero = some z)
    (hsize : i.size = sz) (hby : i.bytes = bytes) (hzs : z.cells.size = sz) (hsz : 0 < sz) (hb200 : bytes ≤ 200)
    {S Sx : Nat → Prop} (v : Value) {l : List α} (y : α) {cx : List Value} (hs : a.eval s = v) (hown : OwnR E ty sz w base S v l)
    (tb c : Nat) (fz : Nat × Nat) (hx : a.eval x = .slice (some ⟨tb, 0, none⟩) 1 c) (htb : w.heap[tb]? = some (.cells cx.toArray ty fz)) (hcx : cx.length = sz) (h1c : ∀ u ∈ cx, u.oneCell' = true) (hE : E y w Sx cx) (hSx : ∀ b, Sx b → base ≤ b ∧ b < w.heap.size ∧ some b ≠ v.ownBlock)
    (hlen : l.length ≤ 4294967296) (hbase : base ≤ w.heap.size)
    (h : ∀ g cap w', OwnR E ty sz w' base (fun b => S b ∨ Sx b) (.slice (some ⟨g, 0, none⟩) (l.length + 1) cap) (l ++ [y]) → w.grownBy w' v.ownBlock → (v.ownBlock = some g ∨ w.heap.size ≤ g) → wpList P ops Q rest (a.put o.dst (.slice (some ⟨g, 0, none⟩) (l.length + 1) cap)) w') : wpList P ops Q (o :: rest) a w := by
  refine wpList_plain hgd fun K' hK' => ?_
  obtain ⟨g, cap, w', hrun, r1, r2, r3⟩ := run_push K P w base t o.type i z bytes ht hi hz hsize hby hzs hsz hb200 y hown tb c fz htb hcx h1c hE hSx hlen hbase
  unfold Oper.wp
  simp [execOp, ho, resolve, invoke, builtin, hs, hx, hrun, Result.andThen]
  exact hK' _ _ (h g cap w' r1 r2 r3)
end
/-- an element of a list that is being made: a value, or a mark -/
def EL (R : Bool) (x : Option V) (w : World) (S : Nat → Prop) (cs : List Value) : Prop :=
  match x with
  | some v => v.lies R w S cs
  | none => cs = [.int .i64 77, .bool false, .int .i64 0, .string ⟨#[]⟩, .slice none 0 0, .slice none 0 0]
def EM (R : Bool) (x : Option Mem) (w : World) (S : Nat → Prop) (cs : List Value) : Prop :=
  match x with
  | some m => ∃ cs', cs = .string m.1 :: cs' ∧ m.1.size ≤ maxLen ∧ m.2.lies R w S cs'
  | none => cs = [.string ⟨#[114, 111, 111, 109]⟩, .int .i64 0, .bool false, .int .i64 0, .string ⟨#[]⟩, .slice none 0 0, .slice none 0 0]
abbrev OwnL (R : Bool) := OwnR (EL R) 51 6
abbrev OwnM (R : Bool) := OwnR (EM R) 53 7
end Go.Proofs.YtolekldjbbjmjaaGreatDoor
