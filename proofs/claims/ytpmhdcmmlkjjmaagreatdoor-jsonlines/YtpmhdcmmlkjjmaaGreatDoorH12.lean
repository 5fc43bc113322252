/- joined: JsM CatJ -/
import Derived.Test.YtpmhdcmmlkjjmaaGreatDoorH8
import Derived.Laws.AppendOwnNone
/- members put in where they belong: plain. -/
set_option linter.unusedSimpArgs false
set_option linter.unusedVariables false
namespace Go.Proofs.YtpmhdcmmlkjjmaaGreatDoor
open Go.RowKit Go.Lib
theorem toList_data (a : ByteArray) : a.toList = a.data.toList := ByteArray.toList_eq a
theorem less_cmp : ∀ a b : List UInt8, Op.bytesLess a b = decide (compareBytes a b = -1)
  | [], [] => by simp [Op.bytesLess, compareBytes]
  | [], _ :: _ => by simp [Op.bytesLess, compareBytes]
  | _ :: _, [] => by simp [Op.bytesLess, compareBytes]
  | x :: t, y :: u => by
    have ih := less_cmp t u
    simp only [Op.bytesLess, compareBytes]
    by_cases h1 : x < y
    · simp [h1]
    · by_cases h2 : y < x
      · have hne : x ≠ y := fun e => by subst e; exact h1 h2
        simp [h1, h2, hne]
      · have he : x = y := u8_tri x y h1 h2
        subst he
        simp [h1, ih]
theorem less_k (a b : ByteArray) : Op.bytesLess a.toList b.toList = decide (cmpS a b < 0) := by
  rw [less_cmp, toList_data, toList_data, Bool.eq_iff_iff, decide_eq_true_iff, decide_eq_true_iff]
  have h : compareBytes a.data.toList b.data.toList = cmpS a b := rfl
  rw [h]
  have := k_one a b
  omega
theorem ins_at {key : ByteArray} {v : V} : ∀ {L : List Mem} {k : Nat}, k ≤ L.length → (∀ i (hi : i < L.length), k ≤ i → cmpS key (L[i]).1 < 0) → (∀ i (hi : i < L.length), i < k → ¬ cmpS key (L[i]).1 < 0) → insM (key, v) L = L.take k ++ [(key, v)] ++ L.drop k
  | [], k, hk, _, _ => by
    simp [insM]
  | y :: t, 0, hk, h1, h2 => by
    have this : cmpS key y.1 < 0 := h1 0 (by simp) (Nat.le_refl _)
    rw [insM, if_pos this]
    rfl
  | y :: t, k + 1, hk, h1, h2 => by
    have this : ¬ cmpS key y.1 < 0 := h2 0 (by simp) (by omega)
    rw [insM, if_neg this, ins_at (k := k) (by simpa using hk) (fun i hi hki => by have := h1 (i + 1) (by simp; omega) (by omega); simpa using this) (fun i hi hki => by have := h2 (i + 1) (by simp; omega) (by omega); simpa using this)]
    rfl
theorem low_all {key : ByteArray} {L : List Mem} {k : Nat} (hs : L.Pairwise leM) (hk : k < L.length) (h : ¬ cmpS key (L[k]).1 < 0) : ∀ i (hi : i < L.length), i < k + 1 → ¬ cmpS key (L[i]).1 < 0 := fun i hi hik => by
  by_cases e : i = k
  · subst e; exact h
  · have := List.pairwise_iff_getElem.1 hs i k hi hk (by omega)
    exact k_ntrans h this
def keysM (L : List Mem) : List (List UInt8) := L.map fun x => x.1.data.toList
theorem key_eq {a b : ByteArray} (h : a.data.toList = b.data.toList) : a = b := by
  cases a; cases b
  exact congrArg ByteArray.mk (Array.toList_inj.1 h)
theorem fresh_at {key : ByteArray} {L : List Mem} {k : Nat} (hs : L.Pairwise leM) (hk : k < L.length) (h : ¬ cmpS key (L[k]).1 < 0) (hne : ¬ (L[k]).1 = key) (hi : ∀ i (hi : i < L.length), k + 1 ≤ i → cmpS key (L[i]).1 < 0) : key.data.toList ∉ keysM L := by
  intro hm
  obtain ⟨x, hx, e⟩ := List.mem_map.1 hm
  obtain ⟨i, hil, rfl⟩ := List.getElem_of_mem hx
  have e' : (L[i]).1 = key := key_eq e
  rcases Nat.lt_trichotomy i k with q | q | q
  · have h2 := List.pairwise_iff_getElem.1 hs i k hil hk q
    have h3 : ¬ cmpS (L[k]).1 key < 0 := by rw [← e']; exact h2
    have h4 := k_anti key (L[k]).1
    exact hne (kz (show cmpS (L[k]).1 key = 0 by omega))
  · subst q; exact hne e'
  · have h2 := hi i hil q
    rw [e', k_self] at h2
    omega
theorem fresh_zero {key : ByteArray} {L : List Mem} (hi : ∀ i (hi : i < L.length), 0 ≤ i → cmpS key (L[i]).1 < 0) : key.data.toList ∉ keysM L := by
  intro hm
  obtain ⟨x, hx, e⟩ := List.mem_map.1 hm
  obtain ⟨i, hil, rfl⟩ := List.getElem_of_mem hx
  have e' : (L[i]).1 = key := key_eq e
  have h2 := hi i hil (Nat.zero_le _)
  rw [e', k_self] at h2
  omega
theorem old_at {key : ByteArray} {L : List Mem} {k : Nat} (hk : k < L.length) (h : (L[k]).1 = key) : key.data.toList ∈ keysM L := List.mem_map.2 ⟨L[k], List.getElem_mem hk, by rw [h]⟩
/-- the value set by its key -/
def setK (key : ByteArray) (x : V) (y : Mem) : Mem := if y.1.data.toList = key.data.toList then (y.1, x) else y
theorem set_same {key : ByteArray} {x : V} : ∀ {L : List Mem}, key.data.toList ∉ keysM L → L.map (setK key x) = L
  | [], _ => rfl
  | y :: t, h => by
    have h1 : ¬ key.data.toList = y.1.data.toList := fun e => h (by rw [keysM, List.map_cons, e]; exact List.mem_cons_self ..)
    rw [List.map_cons, set_same (L := t) (fun q => h (by rw [keysM, List.map_cons]; exact List.mem_cons_of_mem _ q)), setK, if_neg (fun e => h1 e.symm)]
theorem set_ins {key : ByteArray} {v x : V} : ∀ {L : List Mem}, key.data.toList ∉ keysM L → (insM (key, v) L).map (setK key x) = insM (key, x) L
  | [], _ => by simp [insM, setK]
  | y :: t, h => by
    have h1 : ¬ key.data.toList = y.1.data.toList := fun e => h (by rw [keysM, List.map_cons, e]; exact List.mem_cons_self ..)
    have h2 : key.data.toList ∉ keysM t := fun q => h (by rw [keysM, List.map_cons]; exact List.mem_cons_of_mem _ q)
    rw [insM, insM]
    by_cases e : cmpS key y.1 < 0
    · rw [if_pos e, if_pos e, List.map_cons, set_same h, setK, if_pos rfl]
    · rw [if_neg e, if_neg e, List.map_cons, set_ins h2, setK, if_neg (fun e => h1 e.symm)]
theorem ins_sort {key : ByteArray} {x : V} {acc : List Mem} (hn : ((acc ++ [(key, x)]).map fun x => x.1.data.toList).Nodup) : insM (key, x) (sortM acc) = sortM (acc ++ [(key, x)]) :=
  sort_one hn ((insM_perm _ _).trans (((sortM_perm acc).cons _).trans (List.perm_append_comm (l₁ := [(key, x)])))) (insM_sorted (sortM_sorted acc))
theorem keys_sort {acc : List Mem} {key : List UInt8} : key ∈ keysM (sortM acc) ↔ key ∈ keysM acc := ((sortM_perm acc).map _).mem_iff
end Go.Proofs.YtpmhdcmmlkjjmaaGreatDoor
/- append of a whole slice to a row of one's own, by what its elements are. -/
set_option maxRecDepth 100000
namespace Go.Proofs.YtpmhdcmmlkjjmaaGreatDoor
open Go.RowKit
/-- rows beside one another, as one row of cells -/
theorem flatG {w : World} {sz b : Nat} : ∀ (L : List (List Value)) (o : Nat), (∀ (j : Nat) (h : j < L.length), rowAt w b (o + j * sz) L[j]) → (∀ x ∈ L, x.length = sz) →
    (∀ j u, L.flatten[j]? = some u → w.cell? ⟨b, o + j, none⟩ = some u) ∧ L.flatten.length = L.length * sz ∧ ∀ (j : Nat) (h : j < L.length), (L.flatten.drop (j * sz)).take sz = L[j]
  | [], o, _, _ => ⟨fun j u h => by simp at h, by simp, fun j h => by simp at h⟩
  | x :: t, o, hr, hl => by
    have hx : x.length = sz := hl x (List.mem_cons_self ..)
    obtain ⟨h1, h2, h3⟩ := flatG t (o + sz) (fun j h => by
      have := hr (j + 1) (by simp; omega)
      rw [List.getElem_cons_succ] at this
      have e : o + (j + 1) * sz = o + sz + j * sz := by rw [Nat.succ_mul]; omega
      rwa [e] at this) (fun y hy => hl y (List.mem_cons_of_mem _ hy))
    refine ⟨fun j u hu => ?_, by rw [List.flatten_cons, List.length_append, h2, hx, List.length_cons, Nat.succ_mul]; omega, fun j hj => ?_⟩
    · rw [List.flatten_cons] at hu
      by_cases hjx : j < x.length
      · rw [List.getElem?_append_left hjx] at hu
        have := hr 0 (by simp) j u hu
        simpa using this
      · rw [List.getElem?_append_right (by omega)] at hu
        have := h1 (j - x.length) u hu
        rwa [show o + sz + (j - x.length) = o + j by omega] at this
    · cases j with
      | zero => simp [← hx]
      | succ j =>
        have := h3 j (by simpa using hj)
        rw [List.flatten_cons, List.getElem_cons_succ, ← this, show (j + 1) * sz = x.length + j * sz by rw [Nat.succ_mul]; omega]
        congr 1
        simp [List.drop_append]
section
variable {α : Type} {E : α → World → (Nat → Prop) → List Value → Prop} {ty sz : Nat} {P : Program}
theorem chunk_right {xs cx : List Value} {n j sz : Nat} (hl : xs.length = n * sz) (hj : n ≤ j) : ((xs ++ cx).drop (j * sz)).take sz = (cx.drop ((j - n) * sz)).take sz := by
  have e : j * sz = xs.length + (j - n) * sz := by rw [hl, ← Nat.add_mul]; congr 1; omega
  rw [e]
  congr 1
  simp [List.drop_append]
theorem OwnR.cat (K : KeepE E) {w w' : World} {base : Nat} {S Sx : Nat → Prop} {v v' : Value} {l ys : List α} {news xs : List Value}
    (h3 : ∀ b, S b → base ≤ b ∧ b < w.heap.size ∧ some b ≠ v.ownBlock) (h1 : w.ownsRow base ty sz v l.length xs) (h2 : ∀ (j : Nat) (h : j < l.length), E l[j] w S ((xs.drop (j * sz)).take sz))
    (hE : ∀ (j : Nat) (h : j < ys.length), E ys[j] w Sx ((news.drop (j * sz)).take sz)) (hSx : ∀ b, Sx b → base ≤ b ∧ b < w.heap.size ∧ some b ≠ v.ownBlock)
    (ho : w'.ownsRow base ty sz v' (l.length + ys.length) (xs ++ news)) (hg : w.grownBy w' v.ownBlock) (hn : v.ownBlock = v'.ownBlock ∨ ∀ g, v'.ownBlock = some g → w.heap.size ≤ g) :
    OwnR E ty sz w' base (fun b => S b ∨ Sx b) v' (l ++ ys) := by
  have hall : ∀ b, S b ∨ Sx b → base ≤ b ∧ b < w.heap.size ∧ some b ≠ v.ownBlock := fun b hb => hb.elim (h3 b) (hSx b)
  have hb : ∀ b, S b ∨ Sx b → w'.heap[b]? = w.heap[b]? := fun b hb => hg.block b (hall b hb).2.1 (hall b hb).2.2
  refine ⟨⟨xs ++ news, by simpa using ho, fun j hj => ?_⟩, fun b hS => ⟨(hall b hS).1, Nat.lt_of_lt_of_le (hall b hS).2.1 hg.size, ?_⟩⟩
  · by_cases hjl : j < l.length
    · rw [List.getElem_append_left hjl, chunk_left h1.1 hjl]
      exact K _ _ _ _ _ _ (fun b h => hb b (.inl h)) (fun _ h => .inl h) (h2 j hjl)
    · have hj' : j - l.length < ys.length := by simp at hj; omega
      rw [chunk_right h1.1 (by omega), List.getElem_append_right (by omega)]
      exact K _ _ _ _ _ _ (fun b h => hb b (.inr h)) (fun _ h => .inr h) (hE _ hj')
  · rcases hn with e | e
    · rw [← e]; exact (hall b hS).2.2
    · intro h
      have := e b h.symm
      have := (hall b hS).2.1
      omega
/-- append(row, xs...) -/
theorem wpl_catO (K : KeepE E) (W : World) {ops : Array Oper} {rest : List Oper} {o : Oper} {a : Act} {Q : Exit → Act → World → Prop} (hgd : o.guard = none) (s x : Operand) (t : TypeId)
    (ho : o.op = .call { callee := .builtin .append, args := #[s, x], argTypes := #[t, t] })
    (base : Nat) (i : TypeInfo) (z : Value) (bytes : Nat) (ht : P.underlying t = some (.slice ty)) (hi : P.info? ty = some i) (hz : i.zero = some z)
    (hsize : i.size = sz) (hby : i.bytes = bytes) (hzs : z.cells.size = sz) (hsz : 0 < sz) (hb200 : bytes ≤ 200)
    {S T : Nat → Prop} (v : Value) {l : List α} (ys : List α) (hs : a.eval s = v) (hown : OwnR E ty sz W base S v l)
    (ao : Option Addr) (c b q : Nat) (hx : a.eval x = .slice ao ys.length c) (hd : Headed ao ys.length c b q) (L : List (List Value)) (hL : L.length = ys.length)
    (hrow : ∀ (j : Nat) (h : j < L.length), rowAt W b (q + j * sz) L[j]) (hlL : ∀ x ∈ L, x.length = sz ∧ ∀ u ∈ x, u.oneCell' = true) (hE : ∀ (j : Nat) (h : j < ys.length), E ys[j] W T (L[j]'(by omega)))
    (hT : ∀ b, T b → base ≤ b ∧ b < W.heap.size ∧ some b ≠ v.ownBlock) (hlen : l.length + ys.length ≤ 4294967296) (hbase : base ≤ W.heap.size)
    (h : ∀ v' w', OwnR E ty sz w' base (fun b => S b ∨ T b) v' (l ++ ys) → W.grownBy w' v.ownBlock → (v.ownBlock = v'.ownBlock ∨ ∀ g, v'.ownBlock = some g → W.heap.size ≤ g) → wpList P ops Q rest (a.put o.dst v') w') : wpList P ops Q (o :: rest) a W := by
  obtain ⟨⟨xs, h1, h2⟩, h3⟩ := hown
  obtain ⟨f1, f2, f3⟩ := flatG L q hrow (fun x hx => (hlL x hx).1)
  have f4 : ∀ u ∈ L.flatten, u.oneCell' = true := fun u hu => by
    obtain ⟨y, hy, hu'⟩ := List.mem_flatten.1 hu
    exact (hlL y hy).2 u hu'
  have hEE : ∀ (j : Nat) (h : j < ys.length), E ys[j] W T ((L.flatten.drop (j * sz)).take sz) := fun j hj => by
    rw [f3 j (by omega)]; exact hE j hj
  rw [hL] at f2
  have fin : ∀ v' w', w'.ownsRow base ty sz v' (l.length + ys.length) (xs ++ L.flatten) → W.grownBy w' v.ownBlock → (v.ownBlock = v'.ownBlock ∨ ∀ g, v'.ownBlock = some g → W.heap.size ≤ g) → wpList P ops Q rest (a.put o.dst v') w' := fun v' w' r1 r2 r3 =>
    h v' w' (OwnR.cat K h3 h1 h2 hEE hT r1 r2 r3) r2 r3
  by_cases hy : ys.length = 0
  · have hn0 : L.flatten = [] := List.eq_nil_of_length_eq_zero (by rw [f2, hy]; simp)
    rw [hn0, hy] at fin
    rw [hy] at hx hd
    cases ao with
    | none =>
      have hc := hd.nil rfl
      subst hc
      exact wpList_append_own_none hgd s x t ho base ty i sz ht hi v l.length xs hs h1 hx (fin _ _ (by simpa using h1) (World.grownBy.refl _ _) (.inl rfl))
    | some ad =>
      rcases h1.2 with ⟨rfl, e0⟩ | ⟨g, cap, cur, rfl, hb, hg, hc1, hc2, hc3, hc4⟩
      · refine wpList_append_own W hgd s x t ho base ty i z sz bytes ht hi hz hsize hby hzs hsz _ l.length xs hs h1 ad 0 c [] hx (by simp) (fun j u hu => by simp at hu) (fun u hu => by simp at hu) (by simp only [maxLen]; omega) (by have := Nat.mul_le_mul (show l.length + 0 ≤ 4294967296 by omega) hb200; omega) hbase ?_
        intro v' w' r1 r2 r3
        obtain rfl := r3.2 ⟨rfl, rfl⟩
        exact fin _ _ r1 r2 (.inl rfl)
      · obtain ⟨w', hrun, r1, r2⟩ := run_append_fits (P := P) W base t o.type ty i sz ht hi hsize g l.length cap xs h1 ad 0 c [] (by simp) (fun j u hu => by simp at hu) (fun u hu => by simp at hu) (by omega)
        refine wpList_plain hgd fun K' hK' => ?_
        unfold Oper.wp
        simp [execOp, ho, resolve, invoke, builtin, hs, hx, hrun, Result.andThen]
        exact hK' _ _ (fin _ _ r1 r2 (.inl rfl))
  · obtain rfl : ao = some ⟨b, q, none⟩ := hd.at_.resolve_left hy
    obtain ⟨g, cap, w', hrun, r1, r2, r3⟩ := run_append_new (P := P) W base t o.type ty i z sz bytes ht hi hz hsize hby hzs hsz v l.length xs h1 ⟨b, q, none⟩ ys.length c L.flatten f2 (fun j u hu => by rw [Go.WideShapes.add_plain]; exact f1 j u hu) f4 (by simp only [maxLen]; omega) (by have := Nat.mul_le_mul hlen hb200; omega) hbase (by omega)
    refine wpList_plain hgd fun K' hK' => ?_
    unfold Oper.wp
    simp [execOp, ho, resolve, invoke, builtin, hs, hx, hrun, Result.andThen]
    refine hK' _ _ (fin _ _ r1 r2 ?_)
    rcases r3 with e | e
    · exact .inl (by rw [e]; simp [Value.ownBlock])
    · exact .inr (fun g' hg' => by have : g = g' := by simpa [Value.ownBlock] using hg'
                                   omega)
end
end Go.Proofs.YtpmhdcmmlkjjmaaGreatDoor
