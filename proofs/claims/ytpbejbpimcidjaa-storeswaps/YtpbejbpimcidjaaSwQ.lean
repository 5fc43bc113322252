/- What the book knows, in plain terms; the book in memory. -/
import Derived.Test.YtpbejbpimcidjaaSwP
set_option linter.unusedSimpArgs false
set_option linter.unusedVariables false
namespace Go.Proofs.Ytpbejbpimcidjaa
open Go Go.Lib Go.RowKit Go.Maps Go.Sort

abbrev Sn := Option (Int × ByteArray)
/-- a write: its kind, its key's number, its bytes -/
abbrev He := Int × Nat × ByteArray
def toE (e : He) : Evt := (e.1, nm e.2.1, e.2.2)
abbrev An := Nat → Sn
def upA (A : An) (r : Int) (e : He) : An := fun j => if j = e.2.1 then (if e.1 = 3 then none else some (r, e.2.2)) else A j
def runA (A : An) (r : Int) : List He → An
  | [] => A
  | e :: t => runA (upA A (r + 1) e) (r + 1) t
abbrev A0 : An := fun _ => none
theorem runA_snoc (A : An) (r : Int) (l : List He) (e : He) : runA A r (l ++ [e]) = upA (runA A r l) (r + (l.length : Int) + 1) e := by
  induction l generalizing A r with
  | nil => simp [runA]
  | cons x t ih =>
    show runA (upA A (r + 1) x) (r + 1) (t ++ [e]) = _
    rw [ih]
    simp only [runA, List.length_cons]
    rw [show r + 1 + (t.length : Int) + 1 = r + ((t.length + 1 : Nat) : Int) + 1 by omega]
def one (s : Sn) : Nat := if s.isSome then 1 else 0
def cnt (A : An) : Nat := one (A 0) + one (A 1) + one (A 2) + one (A 3) + one (A 4)
theorem nm_inj {i j : Nat} (hi : i < 5) (hj : j < 5) (h : (nm i).data.toList = (nm j).data.toList) : i = j := by
  have h1 : [107, UInt8.ofNat (97 + i)] = [107, UInt8.ofNat (97 + j)] := h
  simp only [List.cons.injEq, true_and, and_true] at h1
  have h2 := congrArg UInt8.toNat h1
  rw [UInt8.toNat_ofNat', UInt8.toNat_ofNat'] at h2
  omega
/-- a state of the store is what the book knows -/
structure Agr (D : DataW Unit) (A : An) : Prop where
  tidy : Tidy D
  has : ∀ x, has D (.string x) = true ↔ ∃ k, k < 5 ∧ x = (nm k).data.toList ∧ (A k).isSome = true
  at_ : ∀ k, k < 5 → ∀ r d, A k = some (r, d) → ∀ z, D.atKey (kL (nm k)) z = dat r d
  size : size D = cnt A
theorem Agr.empty : Agr (.map []) A0 := ⟨tidy_empty, fun x => ⟨fun h => (by cases h), fun ⟨k, _, _, h⟩ => (by cases h)⟩, fun k _ r d h => (by cases h), rfl⟩
theorem Agr.yes {D : DataW Unit} {A : An} (h : Agr D A) {k : Nat} (hk : k < 5) (hs : (A k).isSome = true) : Maps.has D (kL (nm k)) = true := (h.has _).2 ⟨k, hk, rfl, hs⟩
theorem Agr.no {D : DataW Unit} {A : An} (h : Agr D A) {k : Nat} (hk : k < 5) (hs : A k = none) : Maps.has D (kL (nm k)) = false := by
  cases hh : Maps.has D (kL (nm k))
  · rfl
  · obtain ⟨j, hj, e, h2⟩ := (h.has _).1 hh
    rw [← nm_inj hk hj e, hs] at h2
    cases h2
theorem Agr.le {D : DataW Unit} {A : An} (h : Agr D A) : Maps.size D ≤ 5 := by
  rw [h.size]
  unfold cnt one
  repeat (first | split | omega)
theorem cnt_up (A : An) (r : Int) (e : He) (he : e.2.1 < 5) : cnt (upA A r e) + one (A e.2.1) = cnt A + (if e.1 = 3 then 0 else 1) := by
  obtain ⟨kd, k, d⟩ := e
  have h : k = 0 ∨ k = 1 ∨ k = 2 ∨ k = 3 ∨ k = 4 := by simp only at he; omega
  simp only
  rcases h with rfl | rfl | rfl | rfl | rfl <;> by_cases h3 : kd = 3 <;> simp [cnt, upA, h3, one] <;> omega
theorem Agr.wr {D : DataW Unit} {A : An} (h : Agr D A) (e : He) (he : e.2.1 < 5) (r : Int) : Agr (wr D e.1 (nm e.2.1) r e.2.2) (upA A r e) := by
  have hc := cnt_up A r e he
  have hh : one (A e.2.1) = if Maps.has D (kL (nm e.2.1)) then 1 else 0 := by
    cases hs : A e.2.1 with
    | none => rw [h.no he hs]; rfl
    | some x => rw [h.yes he (by rw [hs]; rfl)]; rfl
  obtain ⟨kd, k, d⟩ := e
  simp only at *
  unfold Go.Proofs.Ytpbejbpimcidjaa.wr
  by_cases h3 : kd = 3
  · rw [if_pos h3]
    refine ⟨h.tidy.del _, fun x => ?_, fun j hj r' d' hA z => ?_, ?_⟩
    · by_cases hx : x = (nm k).data.toList
      · subst hx
        rw [has_del_same]
        refine ⟨fun q => (by cases q), fun ⟨j, hj, e, q⟩ => ?_⟩
        rw [nm_inj he hj e] at q
        simp [upA, h3] at q
      · rw [has_del_other (fun q => hx (Lit.string.inj q)), h.has]
        refine ⟨fun ⟨j, hj, e, q⟩ => ⟨j, hj, e, ?_⟩, fun ⟨j, hj, e, q⟩ => ⟨j, hj, e, ?_⟩⟩
        · have hjk : j ≠ k := fun q => hx (q ▸ e)
          simpa [upA, hjk] using q
        · have hjk : j ≠ k := fun q => hx (q ▸ e)
          simpa [upA, hjk] using q
    · have hjk : j ≠ k := fun q => by simp [upA, q, h3] at hA
      rw [atKey_del_other (k := kL (nm k)) (k' := kL (nm j)) (fun q => hjk (nm_inj hj he (Lit.string.inj q)))]
      exact h.at_ j hj r' d' (by simpa [upA, hjk] using hA) z
    · have hs := size_del (k := kL (nm k)) h.tidy
      rw [h.size, ← hh] at hs
      rw [if_pos h3] at hc
      omega
  · rw [if_neg h3]
    refine ⟨h.tidy.put (kl_key _) _, fun x => ?_, fun j hj r' d' hA z => ?_, ?_⟩
    · by_cases hx : x = (nm k).data.toList
      · subst hx
        exact ⟨fun _ => ⟨k, he, rfl, by simp [upA, h3]⟩, fun _ => has_put_same h.tidy.isMap (kl_key (nm k)) _⟩
      · rw [has_put_other (fun q => hx (Lit.string.inj q)), h.has]
        refine ⟨fun ⟨j, hj, e, q⟩ => ⟨j, hj, e, ?_⟩, fun ⟨j, hj, e, q⟩ => ⟨j, hj, e, ?_⟩⟩
        · have hjk : j ≠ k := fun q => hx (q ▸ e)
          simpa [upA, hjk] using q
        · have hjk : j ≠ k := fun q => hx (q ▸ e)
          simpa [upA, hjk] using q
    · by_cases hjk : j = k
      · subst hjk
        obtain ⟨rfl, rfl⟩ : r = r' ∧ d = d' := by simpa [upA, h3] using hA
        exact atKey_put_same h.tidy.isMap (kl_key (nm j)) _ _
      · rw [atKey_put_other (k := kL (nm k)) (k' := kL (nm j)) (fun q => hjk (nm_inj hj he (Lit.string.inj q)))]
        exact h.at_ j hj r' d' (by simpa [upA, hjk] using hA) z
    · rw [size_put h.tidy, h.size]
      rw [if_neg h3] at hc
      rw [hh] at hc
      split at hc
      · rename_i q; rw [if_pos q]; omega
      · rename_i q; rw [if_neg q]; omega
theorem Agr.fol {D : DataW Unit} {A : An} (h : Agr D A) (l : List He) (hl : ∀ e ∈ l, e.2.1 < 5) (r : Int) : Agr (fol D r (l.map toE)) (runA A r l) := by
  induction l generalizing D A r with
  | nil => exact h
  | cons e t ih => exact ih (h.wr e (hl e List.mem_cons_self) (r + 1)) (fun x hx => hl x (List.mem_cons_of_mem _ hx)) (r + 1)
/-- a thing that was seen, in three cells -/
def SnC (w : World) (s : Sn) (a b c : Value) : Prop := match s with
  | none => a = .bool false ∧ b = .int .i64 0 ∧ c = .slice none 0 0
  | some x => a = .bool true ∧ b = .int .i64 x.1 ∧ Byt w c x.2 ∧ x.2.size ≤ 4096
def Row15 (w : World) (A : An) (cs : List Value) : Prop := cs.length = 15 ∧ ∀ k, k < 5 → ∃ a b c, cs[k * 3]? = some a ∧ cs[k * 3 + 1]? = some b ∧ cs[k * 3 + 2]? = some c ∧ SnC w (A k) a b c
theorem SnC.keep {w w' : World} {s : Sn} {a b c : Value} (h : SnC w s a b c) (q : ∀ (y : Nat) (c : Array Value) (fr : Nat × Nat), w.heap[y]? = some (Obj.cells c 5 fr) → w'.heap[y]? = w.heap[y]?) : SnC w' s a b c := by
  cases s with
  | none => exact h
  | some x => exact ⟨h.1, h.2.1, h.2.2.1.keep q, h.2.2.2⟩
theorem Row15.keep {w w' : World} {A : An} {cs : List Value} (h : Row15 w A cs) (q : ∀ (y : Nat) (c : Array Value) (fr : Nat × Nat), w.heap[y]? = some (Obj.cells c 5 fr) → w'.heap[y]? = w.heap[y]?) : Row15 w' A cs :=
  ⟨h.1, fun k hk => by
    obtain ⟨a, b, c, h1, h2, h3, h4⟩ := h.2 k hk
    exact ⟨a, b, c, h1, h2, h3, h4.keep q⟩⟩
/-- an event that the book has -/
def ebc (r : Int) (e : He) (v : Value) : List Value := [.int .i64 r, .int .i64 e.1, .string (nm e.2.1), v]
def ebs (r : Int) : List (He × Value) → List Value
  | [] => []
  | x :: t => ebc (r + 1) x.1 x.2 ++ ebs (r + 1) t
theorem ebs_snoc (r : Int) (l : List (He × Value)) (x : He × Value) : ebs r (l ++ [x]) = ebs r l ++ ebc (r + (l.length : Int) + 1) x.1 x.2 := by
  induction l generalizing r with
  | nil => simp [ebs]
  | cons y t ih =>
    show ebc (r + 1) y.1 y.2 ++ ebs (r + 1) (t ++ [x]) = _
    rw [ih]
    simp only [ebs, List.length_cons, List.append_assoc]
    rw [show r + 1 + (t.length : Int) + 1 = r + ((t.length + 1 : Nat) : Int) + 1 by omega]
theorem ebs_at {r : Int} {l : List (He × Value)} {k : Nat} {x : He × Value} (h : l[k]? = some x) : (ebs r l)[k * 4]? = some (.int .i64 (r + 1 + (k : Int))) ∧ (ebs r l)[k * 4 + 1]? = some (.int .i64 x.1.1) ∧ (ebs r l)[k * 4 + 2]? = some (.string (nm x.1.2.1)) ∧ (ebs r l)[k * 4 + 3]? = some x.2 := by
  induction l generalizing k r with
  | nil => simp at h
  | cons y t ih =>
    have hl : (ebc (r + 1) y.1 y.2).length = 4 := rfl
    show (ebc (r + 1) y.1 y.2 ++ ebs (r + 1) t)[k * 4]? = _ ∧ (ebc (r + 1) y.1 y.2 ++ ebs (r + 1) t)[k * 4 + 1]? = _ ∧ (ebc (r + 1) y.1 y.2 ++ ebs (r + 1) t)[k * 4 + 2]? = _ ∧ (ebc (r + 1) y.1 y.2 ++ ebs (r + 1) t)[k * 4 + 3]? = _
    rcases k with _ | k
    · simp only [List.getElem?_cons_zero, Option.some.injEq] at h
      subst h
      refine ⟨?_, rfl, rfl, rfl⟩
      rw [show r + 1 + ((0 : Nat) : Int) = r + 1 by omega]
      rfl
    · rw [List.getElem?_cons_succ] at h
      obtain ⟨h1, h2, h3, h4⟩ := ih (r := r + 1) h
      refine ⟨?_, ?_, ?_, ?_⟩
      · rw [List.getElem?_append_right (by omega), hl, show (k + 1) * 4 - 4 = k * 4 by omega, h1, show r + 1 + 1 + (k : Int) = r + 1 + ((k + 1 : Nat) : Int) by omega]
      · rw [List.getElem?_append_right (by omega), hl, show (k + 1) * 4 + 1 - 4 = k * 4 + 1 by omega]; exact h2
      · rw [List.getElem?_append_right (by omega), hl, show (k + 1) * 4 + 2 - 4 = k * 4 + 2 by omega]; exact h3
      · rw [List.getElem?_append_right (by omega), hl, show (k + 1) * 4 + 3 - 4 = k * 4 + 3 by omega]; exact h4
theorem ebs_len (r : Int) (l : List (He × Value)) : (ebs r l).length = l.length * 4 := by
  induction l generalizing r with
  | nil => rfl
  | cons y t ih => rw [ebs, List.length_append, ih]; simp [ebc]; omega
/-- a write that may be -/
def Hok (e : He) : Prop := (e.1 = 1 ∨ e.1 = 2 ∨ e.1 = 3) ∧ e.2.1 < 5 ∧ e.2.2.size ≤ 4096
/-- the book: what is now, all states, all events -/
structure Bok (w0 W : World) (B : Nat) (at_ first : Int) (hh : List He) (row : List Value) (sv evv : Value) : Prop where
  box : W.heap[B]? = some (.cells (#[.int .i64 at_] ++ row.toArray ++ #[sv, evv]) 37)
  now : Row15 W (runA A0 first hh) row
  states : ∃ R : List (List Value), R.length = hh.length + 1 ∧ W.ownsRow w0.heap.size 33 15 sv (hh.length + 1) R.flatten ∧ ∀ (i : Nat) (rw : List Value), R[i]? = some rw → Row15 W (runA A0 first (hh.take i)) rw
  events : ∃ L : List (He × Value), L.map Prod.fst = hh ∧ W.ownsRow w0.heap.size 70 4 evv hh.length (ebs first L) ∧ ∀ x ∈ L, Byt W x.2 x.1.2.2
  b : w0.heap.size ≤ B
  ok : ∀ e ∈ hh, Hok e
theorem row_keep {w w' : World} {N e s : Nat} {v : Value} {n : Nat} {xs : List Value} (h : w.ownsRow N e s v n xs) (q : ∀ (y : Nat) (c : Array Value) (fr : Nat × Nat), w.heap[y]? = some (Obj.cells c e fr) → w'.heap[y]? = w.heap[y]?) : w'.ownsRow N e s v n xs :=
  ⟨h.1, h.2.imp id (fun ⟨g, cap, cur, e1, e2, e3, e4⟩ => ⟨g, cap, cur, e1, e2, (q g cur _ e3).trans e3, e4⟩)⟩
/-- what a step must leave as it was, for the book -/
def Kb (w w' : World) : Prop := ∀ (y : Nat) (c : Array Value) (t : TypeId) (fr : Nat × Nat), w.heap[y]? = some (Obj.cells c t fr) → (t = 37 ∨ t = 33 ∨ t = 70 ∨ t = 5 ∨ t = 32) → w'.heap[y]? = w.heap[y]?
theorem Kb.of_below {w w' : World} (b : Below w.heap.size w w') : Kb w w' := fun y c t fr e _ => b.block y (lt_of_block e)
theorem Bok.keep {w0 W W' : World} {B : Nat} {at_ first : Int} {hh : List He} {row : List Value} {sv evv : Value} (h : Bok w0 W B at_ first hh row sv evv) (q : Kb W W') : Bok w0 W' B at_ first hh row sv evv := by
  have q5 : ∀ (y : Nat) (c : Array Value) (fr : Nat × Nat), W.heap[y]? = some (Obj.cells c 5 fr) → W'.heap[y]? = W.heap[y]? := fun y c fr e => q y c 5 fr e (.inr (.inr (.inr (.inl rfl))))
  obtain ⟨R, r1, r2, r3⟩ := h.states
  obtain ⟨L, l1, l2, l3⟩ := h.events
  exact ⟨(q B _ 37 _ h.box (.inl rfl)).trans h.box, h.now.keep q5, ⟨R, r1, row_keep r2 (fun y c fr e => q y c 33 fr e (.inr (.inl rfl))), fun i rw hi => (r3 i rw hi).keep q5⟩, ⟨L, l1, row_keep l2 (fun y c fr e => q y c 70 fr e (.inr (.inr (.inl rfl)))), fun x hx => (l3 x hx).keep q5⟩, h.b, h.ok⟩
end Go.Proofs.Ytpbejbpimcidjaa
