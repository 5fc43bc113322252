/- joined: SimB SimC SimD SimE -/
import Derived.Test.YtolekldjbbjmjaaGreatDoorG20
/- the document's add (layer 20). -/
set_option linter.unusedSimpArgs false
set_option linter.unusedVariables false
namespace Go.Proofs.YtolekldjbbjmjaaGreatDoor
open Go.RowKit Go.Lib
/-- the first place behind which the text belongs -/
def addI (l : List ByteArray) (s : ByteArray) : Nat := (l.takeWhile (fun x => !(Op.bytesLess s.toList x.toList))).length
def addV (l : List ByteArray) (s : ByteArray) : List ByteArray := if amongB l s then l else l.take (addI l s) ++ [s] ++ l.drop (addI l s)
theorem addI_le (l : List ByteArray) (s : ByteArray) : addI l s ≤ l.length := (List.takeWhile_sublist _).length_le
theorem addI_lt : ∀ {l : List ByteArray} {s : ByteArray} {t : Nat} (h : t < addI l s), Op.bytesLess s.toList (l[t]'(Nat.lt_of_lt_of_le h (addI_le l s))).toList = false
  | [], s, t, h => by simp [addI] at h
  | x :: r, s, t, h => by
    unfold addI at h
    rw [List.takeWhile_cons] at h
    split at h
    · rename_i hs
      cases t with
      | zero => simpa using hs
      | succ t => exact addI_lt (l := r) (s := s) (t := t) (by simpa [addI] using h)
    · simp at h
theorem addI_stop : ∀ {l : List ByteArray} {s : ByteArray} (h : addI l s < l.length), Op.bytesLess s.toList (l[addI l s]).toList = true
  | [], s, h => by simp at h
  | x :: r, s, h => by
    by_cases hs : (!(Op.bytesLess s.toList x.toList)) = true
    · have e : addI (x :: r) s = addI r s + 1 := by unfold addI; rw [List.takeWhile_cons, if_pos hs]; rfl
      have h2 : addI r s < r.length := by rw [e] at h; simpa using h
      have := addI_stop (l := r) (s := s) h2
      simp only [e, List.getElem_cons_succ]
      exact this
    · have e : addI (x :: r) s = 0 := by unfold addI; rw [List.takeWhile_cons, if_neg hs]; rfl
      simp only [e, List.getElem_cons_zero]
      simpa using hs
end Go.Proofs.YtolekldjbbjmjaaGreatDoor
/- the document's barred (layer 20). -/
namespace Go.Proofs.YtolekldjbbjmjaaGreatDoor
open Go.RowKit Go.Lib
def SmallS (l : List ByteArray) : Prop := ∀ s ∈ l, s.size ≤ 140737488355328
theorem addV_mem {l : List ByteArray} {s x : ByteArray} (h : x ∈ addV l s) : x ∈ l ∨ x = s := by
  unfold addV at h
  split at h
  · exact .inl h
  · rw [List.mem_append, List.mem_append] at h
    rcases h with (h | h) | h
    · exact .inl (List.mem_of_mem_take h)
    · exact .inr (by simpa using h)
    · exact .inl (List.mem_of_mem_drop h)
theorem addV_len (l : List ByteArray) (s : ByteArray) : (addV l s).length ≤ l.length + 1 := by
  unfold addV
  split
  · omega
  · rw [List.length_append, List.length_append, List.length_take, List.length_drop]; simp only [List.length_singleton]; have := addI_le l s; omega
def addsV (acc vs : List ByteArray) : List ByteArray := vs.foldl addV acc
theorem addsV_len : ∀ (vs acc : List ByteArray), (addsV acc vs).length ≤ acc.length + vs.length
  | [], acc => by simp [addsV]
  | x :: t, acc => by
    have h1 := addsV_len t (addV acc x)
    have h2 := addV_len acc x
    have e : addsV acc (x :: t) = addsV (addV acc x) t := rfl
    rw [e, List.length_cons]; omega
theorem wtT_part (l : List Trm) (i : Nat) (hi : i ≤ l.length) : wtT (l.take i) ≤ wtT l := by
  have : ∀ k, i + k ≤ l.length → wtT (l.take i) ≤ wtT (l.take (i + k)) := by
    intro k
    induction k with
    | zero => intro _; exact Nat.le_refl _
    | succ k ih =>
      intro hk
      have h1 := ih (by omega)
      have h2 := wtT_take (show i + k < l.length by omega)
      rw [← Nat.add_assoc, h2]
      omega
  have h := this (l.length - i) (by omega)
  rw [show i + (l.length - i) = l.length by omega, List.take_length] at h
  exact h
def gatV (op : Int) (l : List Trm) (key : ByteArray) : List ByteArray := l.foldl (fun acc t => if isOp key op t then addsV acc t.2.2 else acc) []
end Go.Proofs.YtolekldjbbjmjaaGreatDoor
/- the document's allowed (layer 20). -/
namespace Go.Proofs.YtolekldjbbjmjaaGreatDoor
open Go.RowKit Go.Lib
/-- does an In of the key let the text through? -/
def letQ (key s : ByteArray) (t : Trm) : Bool := !(isOp key 3 t) || amongB t.2.2 s
def okS (l : List Trm) (key : ByteArray) (no : List ByteArray) (s : ByteArray) : Bool := !(amongB no s) && l.all (letQ key s)
def pickL (l : List Trm) (key : ByteArray) (no acc vs : List ByteArray) : List ByteArray := vs.foldl (fun acc s => if okS l key no s then addV acc s else acc) acc
def allowV (l : List Trm) (key : ByteArray) (no : List ByteArray) (k : List Trm) : List ByteArray := k.foldl (fun acc t => if isOp key 3 t then pickL l key no acc t.2.2 else acc) []
end Go.Proofs.YtolekldjbbjmjaaGreatDoor
/- a term is put behind others; plain: what Simplify answers (layer 20). -/
namespace Go.Proofs.YtolekldjbbjmjaaGreatDoor
open Go.RowKit Go.Lib
theorem grown_below {w w' : World} {row : Option Nat} (h : Below w.heap.size w w') : w.grownBy w' row := ⟨h.os, h.tape, h.output, h.size, fun k hk _ => h.block k hk⟩
theorem own_read1 {w : World} {base : Nat} {S : Nat → Prop} {v : Value} {l : List ByteArray} (h : OwnSt w base S v l) (hs : SmallS l) : ∃ a c b o, v = .slice a l.length c ∧ Headed a l.length c b o ∧ liesS w (fun y => v.ownBlock = some y) l b o := by
  obtain ⟨a, c, rfl⟩ := own_slice h
  cases l with
  | nil =>
    have h' := h
    obtain ⟨⟨xs, h1, _⟩, _⟩ := h'
    rcases h1.2 with ⟨e, e2⟩ | ⟨g, cap, cur, e, _⟩
    · simp only [Value.slice.injEq] at e
      obtain ⟨rfl, _, rfl⟩ := e
      exact ⟨none, 0, 0, 0, rfl, head_nilS, fun j hj => by simp at hj⟩
    · simp only [Value.slice.injEq] at e
      obtain ⟨rfl, _, rfl⟩ := e
      have h2 := h.le
      exact ⟨_, _, g, 0, rfl, ⟨h2.1, h2.2, .inr rfl, fun h => by cases h⟩, fun j hj => by simp at hj⟩
  | cons x t =>
    obtain ⟨g, cap, hv, hc1, hc2, hg1, hg2⟩ := own_some h (by simp)
    simp only [Value.slice.injEq] at hv
    obtain ⟨rfl, _, rfl⟩ := hv
    refine ⟨_, _, g, 0, rfl, ⟨hc1, hc2, .inr rfl, fun h => by cases h⟩, fun j hj => ⟨rfl, hs _ (List.getElem_mem hj), ?_⟩⟩
    have := own_str h rfl j hj
    exact this
set_option maxRecDepth 100000 in
theorem wpl_termL (W : World) {ops : Array Oper} {rest : List Oper} {o : Oper} {act : Act} {Q : Exit → Act → World → Prop} (hgd : o.guard = none) (s x : Operand)
    (ho : o.op = .call { callee := .builtin .append, args := #[s, x], argTypes := #[22, 22] }) (base : Nat) {S Sx : Nat → Prop} {u : Value} {out : List Trm} (hs : act.eval s = u) (hown : OwnF W base S u out)
    (key : ByteArray) (op : Int) {a : Option Addr} {c b oo : Nat} {vs : List ByteArray} (hd : Headed a vs.length c b oo) (hl : liesS W Sx vs b oo) (hlt : ∀ r, Sx r → r < W.heap.size) (hop : In64 op) (hk : key.size ≤ 140737488355328) (hsep : ∀ r, Sx r → base ≤ r ∧ some r ≠ u.ownBlock)
    (hx : act.eval x = .slice (some ⟨W.heap.size, 0, none⟩) 1 1) (hlen : out.length ≤ 4294967296) (hbase : base ≤ W.heap.size)
    (h : ∀ g cap w', OwnF w' base (fun b => S b ∨ Sx b) (.slice (some ⟨g, 0, none⟩) (out.length + 1) cap) (out ++ [(key, op, vs)]) → W.grownBy w' u.ownBlock → (u.ownBlock = some g ∨ W.heap.size ≤ g) → wpList Tryz.prog ops Q rest (act.put o.dst (.slice (some ⟨g, 0, none⟩) (out.length + 1) cap)) w') :
    wpList Tryz.prog ops Q (o :: rest) act (W.alloc (.cells #[.string key, .int .i64 op, .slice a vs.length c] 35)) := by
  obtain ⟨i5, hi5, hz5⟩ := Option.map_eq_some_iff.1 info50
  simp only [Prod.mk.injEq] at hz5
  have hbw : Below W.heap.size W (W.alloc (.cells #[.string key, .int .i64 op, .slice a vs.length c] 35)) := (Below.refl _ _).alloc (Nat.le_refl _) _
  have hT := heap_alloc_new W (.cells #[.string key, .int .i64 op, .slice a vs.length c] 35)
  refine wpl_push keepF _ hgd s x 22 ho base i5 _ 48 Tryz.underlying22 hi5 hz5.1 hz5.2.1 hz5.2.2 rfl (by decide) (by decide) (Sx := Sx) _ (key, op, vs) hs (hown.alloc keepF _) W.heap.size 1 (0, 0) hx hT rfl one3 ?_ ?_ hlen (by rw [alloc_size]; omega) ?_
  · exact ⟨a, c, b, oo, rfl, hop, hk, hd, hl.keep (fun y hy => hbw.block y (hlt y hy)) (fun _ h => h), fun h => by cases h⟩
  · intro y hy
    have h1 := hsep y hy
    have h2 := hlt y hy
    exact ⟨h1.1, by rw [alloc_size]; omega, h1.2⟩
  · intro g cap w' o1 g1 e1
    refine h g cap w' o1 (grown_trans (World.grownBy_alloc W _ _) g1) (e1.imp id (fun hh => ?_))
    rw [alloc_size] at hh; omega
/- plain -/
def keysV (l : List Trm) : List ByteArray := addsV [] (l.map (·.1))
def simpT (l : List Trm) (k : ByteArray) : Option (List Trm) :=
  if hasOp l k 2 then (if hasOp l k 1 || hasOp l k 3 then none else some [(k, 2, [])])
  else if hasOp l k 3 then (if (allowV l k (gatV 4 l k) l).length = 0 then none else some [(k, 3, allowV l k (gatV 4 l k) l)])
  else some ((if hasOp l k 1 then [(k, 1, [])] else []) ++ (if (gatV 4 l k).length = 0 then [] else [(k, 4, gatV 4 l k)]))
def simpS (l : List Trm) (acc : Option (List Trm)) (k : ByteArray) : Option (List Trm) := match acc, simpT l k with
  | some o, some x => some (o ++ x)
  | _, _ => none
def simpW (l : List Trm) (ks : List ByteArray) : Option (List Trm) := ks.foldl (simpS l) (some [])
def simplV (l : List Trm) : Option (List Trm) := if l.all goodB then simpW l (keysV l) else none
theorem simpS_none (l : List Trm) (ks : List ByteArray) : ks.foldl (simpS l) none = none := by
  induction ks with
  | nil => rfl
  | cons k t ih => exact ih
theorem simpW_next {l : List Trm} {ks : List ByteArray} {i : Nat} (h : i < ks.length) : simpW l (ks.take (i + 1)) = simpS l (simpW l (ks.take i)) ks[i] := by
  unfold simpW
  rw [List.take_succ_eq_append_getElem h, List.foldl_append]
  rfl
theorem simpW_stop {l : List Trm} {ks : List ByteArray} {i : Nat} (h : i < ks.length) (hn : simpT l ks[i] = none) : simpW l ks = none := by
  have e : ks = ks.take i ++ ks[i] :: ks.drop (i + 1) := by rw [← List.drop_eq_getElem_cons h, List.take_append_drop]
  unfold simpW
  rw [e, List.foldl_append, List.foldl_cons]
  have : simpS l (List.foldl (simpS l) (some []) (ks.take i)) ks[i] = none := by
    unfold simpS
    rw [hn]
    split <;> first | rfl | (rename_i h; cases h)
  rw [this, simpS_none]
theorem simpT_len {l : List Trm} {k : ByteArray} {x : List Trm} (h : simpT l k = some x) : x.length ≤ 2 := by
  unfold simpT at h
  split at h
  · split at h
    · cases h
    · cases h; simp
  · split at h
    · split at h
      · cases h
      · cases h; simp
    · cases h
      rw [List.length_append]
      split <;> split <;> simp
theorem simpW_go {l : List Trm} {ks : List ByteArray} {i : Nat} {o x : List Trm} (h : i < ks.length) (h1 : simpW l (ks.take i) = some o) (h2 : simpT l ks[i] = some x) : simpW l (ks.take (i + 1)) = some (o ++ x) := by
  rw [simpW_next h, h1]
  unfold simpS
  rw [h2]
def SmPost (r : Option (List Trm)) (w : World) (e : Ending) (w' : World) : Prop := ∃ a c b o, e = .returned (.tuple #[.slice a (r.getD []).length c, .bool r.isSome]) ∧ Headed a (r.getD []).length c b o ∧ liesT false w' (New w w') (r.getD []) b o ∧ Below w.heap.size w w'
theorem sm_none {w w' : World} (h : Below w.heap.size w w') : SmPost none w (.returned (.tuple #[.slice none 0 0, .bool false])) w' := ⟨none, 0, 0, 0, rfl, head_nilS, fun j hj => by simp at hj, h⟩
theorem sm_some {w w' : World} {SM : Nat → Prop} {v : Value} {out : List Trm} (ho : OwnF w' w.heap.size SM v out) (h : Below w.heap.size w w') : SmPost (some out) w (.returned (.tuple #[v, .bool true])) w' := by
  obtain ⟨a, c, b, o, rfl, h1, h2⟩ := own_terms ho
  exact ⟨a, c, b, o, rfl, h1, h2, h⟩
end Go.Proofs.YtolekldjbbjmjaaGreatDoor
