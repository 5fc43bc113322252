import Derived.Test.YtljgofmmihmmfabDoorBytA
import Derived.Test.YtljgofmmihmmfabDoorQSub
import Derived.Test.YtljgofmmihmmfabDoorChkB
/- Many appended at once. -/
set_option linter.unusedSimpArgs false
set_option linter.unusedVariables false
namespace Go.Proofs.YtljgofmmihmmfabDoor
open Go.RowKit

theorem chunk_right {xs cx : List Value} {n j sz : Nat} (hl : xs.length = n * sz) : ((xs ++ cx).drop ((n + j) * sz)).take sz = (cx.drop (j * sz)).take sz := by
  rw [Nat.add_mul, ← hl, List.drop_append, List.drop_of_length_le (by omega), List.nil_append]
  congr 2
  omega

section
variable {α : Type} {E : α → World → (Nat → Prop) → List Value → Prop} {ty sz : Nat}

theorem OwnR.pushes (K : KeepE E) {w w' : World} {base : Nat} {S Sx : Nat → Prop} {v v' : Value} {l ys : List α} {cx xs : List Value}
    (h3 : ∀ b, S b → base ≤ b ∧ b < w.heap.size ∧ some b ≠ v.ownBlock) (h1 : w.ownsRow base ty sz v l.length xs) (h2 : ∀ (j : Nat) (h : j < l.length), E l[j] w S ((xs.drop (j * sz)).take sz))
    (hE : ∀ (j : Nat) (h : j < ys.length), E ys[j] w Sx ((cx.drop (j * sz)).take sz)) (hSx : ∀ b, Sx b → base ≤ b ∧ b < w.heap.size ∧ some b ≠ v.ownBlock)
    (ho : w'.ownsRow base ty sz v' (l.length + ys.length) (xs ++ cx)) (hg : w.grownBy w' v.ownBlock) (hn : v.ownBlock = v'.ownBlock ∨ ∀ g, v'.ownBlock = some g → w.heap.size ≤ g) :
    OwnR E ty sz w' base (fun b => S b ∨ Sx b) v' (l ++ ys) := by
  have hall : ∀ b, S b ∨ Sx b → base ≤ b ∧ b < w.heap.size ∧ some b ≠ v.ownBlock := fun b hb => hb.elim (h3 b) (hSx b)
  have hb : ∀ b, S b ∨ Sx b → w'.heap[b]? = w.heap[b]? := fun b hb => hg.block b (hall b hb).2.1 (hall b hb).2.2
  refine ⟨⟨xs ++ cx, by simpa using ho, fun j hj => ?_⟩, fun b hS => ⟨(hall b hS).1, Nat.lt_of_lt_of_le (hall b hS).2.1 hg.size, ?_⟩⟩
  · by_cases hjl : j < l.length
    · rw [List.getElem_append_left hjl, chunk_left h1.1 hjl]
      exact K _ _ _ _ _ _ (fun b h => hb b (.inl h)) (fun _ h => .inl h) (h2 j hjl)
    · obtain ⟨q, rfl⟩ : ∃ q, j = l.length + q := ⟨j - l.length, by omega⟩
      have hq : q < ys.length := by simp at hj; omega
      rw [chunk_right h1.1, List.getElem_append_right (by omega)]
      have := K ys[q] w w' Sx (fun b => S b ∨ Sx b) _ (fun b h => hb b (.inr h)) (fun _ h => .inr h) (hE q hq)
      simpa using this
  · rcases hn with e | e
    · rw [← e]; exact (hall b hS).2.2
    · intro h
      have := e b h.symm
      have := (hall b hS).2.1
      omega

theorem run_pushes (K : KeepE E) (P : Program) (w : World) (t rt : TypeId) (i : TypeInfo) (z : Value) (bytes : Nat) (ht : P.underlying t = some (.slice ty)) (hi : P.info? ty = some i) (hz : i.zero = some z)
    (hsize : i.size = sz) (hby : i.bytes = bytes) (hzs : z.cells.size = sz) (hsz : 0 < sz) (hb200 : bytes ≤ 200)
    {S Sx : Nat → Prop} {g n cap : Nat} {l ys : List α} {cx : List Value} (hn : n = l.length) (hown : OwnR E ty sz w 0 S (.slice (some ⟨g, 0, none⟩) n cap) l)
    (ao : Option Addr) (c : Nat) (hcx : cx.length = ys.length * sz) (hnone : ao = none → ys.length = 0 ∧ c = 0) (hc : ∀ ad, ao = some ad → ∀ j u, cx[j]? = some u → w.cell? (ad.add j) = some u) (h1c : ∀ u ∈ cx, u.oneCell' = true)
    (hE : ∀ (j : Nat) (h : j < ys.length), E ys[j] w Sx ((cx.drop (j * sz)).take sz)) (hSx : ∀ b, Sx b → b < w.heap.size ∧ b ≠ g) (hlen : l.length + ys.length ≤ 4294967296) :
    ∃ g' cap' w', (Builtin.append_ #[t, t] rt #[.slice (some ⟨g, 0, none⟩) n cap, .slice ao ys.length c]).run P w = .ok (.slice (some ⟨g', 0, none⟩) (n + ys.length) cap') w' ∧
      OwnR E ty sz w' 0 (fun b => S b ∨ Sx b) (.slice (some ⟨g', 0, none⟩) (n + ys.length) cap') (l ++ ys) ∧ w.grownBy w' (some g) ∧ (g' = g ∨ w.heap.size ≤ g') := by
  subst hn
  obtain ⟨⟨xs, h1, h2⟩, h3⟩ := hown
  have hSx' : ∀ b, Sx b → 0 ≤ b ∧ b < w.heap.size ∧ some b ≠ (Value.slice (some ⟨g, 0, none⟩) l.length cap).ownBlock := fun b hb => ⟨Nat.zero_le _, (hSx b hb).1, fun e => (hSx b hb).2 (by simp [Value.ownBlock] at e; exact e)⟩
  cases ao with
  | none =>
    obtain ⟨h0, rfl⟩ := hnone rfl
    have hys : ys = [] := List.eq_nil_of_length_eq_zero h0
    subst hys
    have hcx0 : cx = [] := List.eq_nil_of_length_eq_zero (by simpa using hcx)
    subst hcx0
    refine ⟨g, cap, w, run_append_owned_none (P := P) w 0 t rt ty i sz ht hi _ l.length xs h1, ?_, World.grownBy.refl _ _, .inl rfl⟩
    have := OwnR.pushes (ys := []) (cx := []) (Sx := Sx) K h3 h1 h2 (fun j h => by simp at h) hSx' (by simpa using h1) (World.grownBy.refl _ _) (.inl rfl)
    simpa using this
  | some ad =>
    by_cases hr : l.length + ys.length ≤ cap
    · obtain ⟨w', hrun, r1, r2⟩ := run_append_fits (P := P) w 0 t rt ty i sz ht hi hsize g l.length cap xs h1 ad ys.length c cx hcx (hc ad rfl) h1c hr
      exact ⟨g, cap, w', hrun, OwnR.pushes K h3 h1 h2 hE hSx' r1 r2 (.inl rfl), r2, .inl rfl⟩
    · have hle : l.length ≤ cap := by
        rcases h1.2 with ⟨e, _⟩ | ⟨g1, cap1, cur, e, _, _, h4, _⟩
        · cases e
        · cases e; exact h4
      have hbb : (l.length + ys.length) * bytes ≤ 140737488355328 := by
        have := Nat.mul_le_mul hlen hb200
        omega
      obtain ⟨g', cap', w', hrun, r1, r2, r3⟩ := run_append_new (P := P) w 0 t rt ty i z sz bytes ht hi hz hsize hby hzs hsz _ l.length xs h1 ad ys.length c cx hcx (hc ad rfl) h1c (by simp only [maxLen]; omega) hbb (Nat.zero_le _) (by omega)
      have hgg : g' = g ∨ w.heap.size ≤ g' := r3.elim (fun e => .inl (by simp [Value.ownBlock] at e; exact e.symm)) .inr
      refine ⟨g', cap', w', hrun, OwnR.pushes K h3 h1 h2 hE hSx' r1 r2 ?_, r2, hgg⟩
      rcases r3 with e | e
      · exact .inl (by rw [e]; rfl)
      · exact .inr (fun x hx => by simp [Value.ownBlock] at hx; omega)

theorem wpl_pushes (K : KeepE E) (P : Program) (w : World) {ops : Array Oper} {rest : List Oper} {o : Oper} {a : Act} {Q : Exit → Act → World → Prop} (hgd : o.guard = none) (s x : Operand) (t : TypeId)
    (ho : o.op = .call { callee := .builtin .append, args := #[s, x], argTypes := #[t, t] })
    (i : TypeInfo) (z : Value) (bytes : Nat) (ht : P.underlying t = some (.slice ty)) (hi : P.info? ty = some i) (hz : i.zero = some z)
    (hsize : i.size = sz) (hby : i.bytes = bytes) (hzs : z.cells.size = sz) (hsz : 0 < sz) (hb200 : bytes ≤ 200)
    {S Sx : Nat → Prop} {g n cap : Nat} {l ys : List α} {cx : List Value} (hn : n = l.length) (hs : a.eval s = .slice (some ⟨g, 0, none⟩) n cap) (hown : OwnR E ty sz w 0 S (.slice (some ⟨g, 0, none⟩) n cap) l)
    (ao : Option Addr) (k c : Nat) (hk : k = ys.length) (hx : a.eval x = .slice ao k c) (hcx : cx.length = ys.length * sz) (hnone : ao = none → ys.length = 0 ∧ c = 0) (hc : ∀ ad, ao = some ad → ∀ j u, cx[j]? = some u → w.cell? (ad.add j) = some u) (h1c : ∀ u ∈ cx, u.oneCell' = true)
    (hE : ∀ (j : Nat) (h : j < ys.length), E ys[j] w Sx ((cx.drop (j * sz)).take sz)) (hSx : ∀ b, Sx b → b < w.heap.size ∧ b ≠ g) (hlen : l.length + ys.length ≤ 4294967296)
    (h : ∀ g' cap' w', OwnR E ty sz w' 0 (fun b => S b ∨ Sx b) (.slice (some ⟨g', 0, none⟩) (n + k) cap') (l ++ ys) → w.grownBy w' (some g) → (g' = g ∨ w.heap.size ≤ g') → wpList P ops Q rest (a.put o.dst (.slice (some ⟨g', 0, none⟩) (n + k) cap')) w') : wpList P ops Q (o :: rest) a w := by
  subst hk
  refine wpList_plain hgd fun K' hK' => ?_
  obtain ⟨g', cap', w', hrun, r1, r2, r3⟩ := run_pushes K P w t o.type i z bytes ht hi hz hsize hby hzs hsz hb200 hn hown ao c hcx hnone hc h1c hE hSx hlen
  unfold Oper.wp
  simp [execOp, ho, resolve, invoke, builtin, hs, hx, hrun, Result.andThen]
  exact hK' _ _ (h g' cap' w' r1 r2 r3)
end

end Go.Proofs.YtljgofmmihmmfabDoor
