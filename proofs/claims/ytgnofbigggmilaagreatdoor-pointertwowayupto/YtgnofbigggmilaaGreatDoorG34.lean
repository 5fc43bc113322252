/- joined: KdsP PutP SegU GapA -/
import Derived.Test.YtgnofbigggmilaaGreatDoorG31
import Derived.Test.YtgnofbigggmilaaGreatDoorConU
/- what is taken stays taken below; the document's walk as a function; the tokens below a place. -/
set_option linter.unusedSimpArgs false
set_option linter.unusedVariables false
namespace Go.Proofs.YtgnofbigggmilaaGreatDoor
open Go.RowKit Go.Lib
theorem rdF_chk {v : V} {p : ByteArray} (h : rdF v p = 0) : chkE v 40 = 0 := (rd_zero h).1
end Go.Proofs.YtgnofbigggmilaaGreatDoor
/- Set, Add and Take as functions; the document's; what is less is taken, too. -/
namespace Go.Proofs.YtgnofbigggmilaaGreatDoor
open Go.RowKit Go.Lib
def insL {α : Type} (l : List α) (j : Nat) (x : α) : List α := l.take j ++ ([x] ++ l.drop j)
/-- one is added -/
def gapF (t : ByteArray) (n : Nat) : Option Nat := if t.data.toList = [45] then some n else idxF t.data.toList (n + 1)
def addF : V → ByteArray → V → V × Int
  | .mk k b i s l m, t, x => if k = 5 then (if keyIs t m[posF m t]? = true then (replV (.mk k b i s l m) (posF m t) x, 0) else (.mk k b i s l (insL m (posF m t) (t, x)), 0))
    else if k = 4 then ((gapF t l.length).elim (nullV, 42) (fun j => (.mk k b i s (insL l j x) m, 0)))
    else (nullV, 41)
def rd2F (v : V) (p : ByteArray) (x : V) : Int := if rdF v p = 0 then (chkE x 40 : Int) else rdF v p
def lastT (ts : List ByteArray) : ByteArray := ts.getLastD ⟨#[]⟩
def addPF (v : V) (p : ByteArray) (x : V) : V × Int := if rd2F v p x = 0 then (if toksOf p = [] then nweF x 0 else nweF (wkV (fun w => addF w (lastT (toksOf p)) x) v (toksOf p).dropLast).1 (wkV (fun w => addF w (lastT (toksOf p)) x) v (toksOf p).dropLast).2.1) else (nullV, rd2F v p x)
theorem rd2_zero {v x : V} {p : ByteArray} (h : rd2F v p x = 0) : rdF v p = 0 ∧ chkE x 40 = 0 := by
  rw [rd2F] at h
  split at h
  · rename_i h0
    exact ⟨h0, by omega⟩
  · rename_i h0
    exact absurd h h0
theorem rd_allG {v : V} {p : ByteArray} (h : rdF v p = 0) : allG v := chkV_allG 40 v 0 (0, 0, 0) (by rw [← chkE40]; exact rdF_chk h)
end Go.Proofs.YtgnofbigggmilaaGreatDoor
/- lists as rows, and what lies in them. -/
namespace Go.Proofs.YtgnofbigggmilaaGreatDoor
open Go.RowKit Go.Lib
theorem RowsOf.take {w : World} {b o c : Nat} {css : List (List Value)} (h : RowsOf w b o c css) (p : Nat) : RowsOf w b o c (css.take p) :=
  ⟨fun x hx => h.len x (List.mem_of_mem_take hx), fun x hx => h.one x (List.mem_of_mem_take hx), fun j hj => by
    rw [List.getElem_take]
    exact h.row j (by rw [List.length_take] at hj; omega)⟩
theorem RowsOf.drop {w : World} {b o c : Nat} {css : List (List Value)} (h : RowsOf w b o c css) (p : Nat) : RowsOf w b (o + p * c) c (css.drop p) :=
  ⟨fun x hx => h.len x (List.mem_of_mem_drop hx), fun x hx => h.one x (List.mem_of_mem_drop hx), fun j hj => by
    rw [List.length_drop] at hj
    rw [List.getElem_drop, show o + p * c + j * c = o + (p + j) * c by rw [Nat.add_mul]; omega]
    exact h.row (p + j) (by omega)⟩
/-- the head of what stands behind the first p -/
theorem headed_drop {al : Option Addr} {n cl b o c p : Nat} (h : Headed al n cl b o) (hp : p ≤ n) (hn : 0 < n) : Headed (if cl = p then some ⟨b, o, none⟩ else some ⟨b, o + p * c, none⟩ : Option Addr) (n - p) (cl - p) b (o + p * c) := by
  have h1 := h.le
  have h2 := h.max
  refine ⟨by omega, by omega, ?_, fun e => ?_⟩
  · by_cases hc : cl = p
    · exact .inl (by omega)
    · rw [if_neg hc]; exact .inr rfl
  · split at e <;> cases e
theorem zip_maps {α β : Type} : ∀ (l : List α) (r : List β), l.length = r.length → (l.zip r).map (fun q => q.1) = l ∧ (l.zip r).map (fun q => q.2) = r
  | [], [], _ => by simp
  | [], y :: r, h => by simp at h
  | x :: l, [], h => by simp at h
  | x :: l, y :: r, h => by
    have := zip_maps l r (by simpa using h)
    simp [this.1, this.2]
theorem insL_map {α β : Type} (f : α → β) (l : List α) (j : Nat) (x : α) : (insL l j x).map f = insL (l.map f) j (f x) := by simp [insL, List.map_take, List.map_drop]
theorem insL_mem {α : Type} {l : List α} {j : Nat} {y x : α} (h : x ∈ insL l j y) : x = y ∨ x ∈ l := by
  rw [insL] at h
  rcases List.mem_append.1 h with h | h
  · exact .inr (List.mem_of_mem_take h)
  · rcases List.mem_append.1 h with h | h
    · exact .inl (List.mem_singleton.1 h)
    · exact .inr (List.mem_of_mem_drop h)
def PL (w : World) (S : Nat → Prop) (q : V × List Value) : Prop := q.1.lies false w S q.2
theorem PL.keep {w w' : World} {S S' : Nat → Prop} {q : V × List Value} (h : PL w S q) (hw : ∀ b, S b → w'.heap[b]? = w.heap[b]?) (hS : ∀ b, S b → S' b) : PL w' S' q := V.lies_keep (fun h => h) hw hS _ h
theorem segL {w : World} {S : Nat → Prop} {l : List V} {b o : Nat} (h : liesL false w S l b o) : ∃ ps : List (V × List Value), ps.map (fun q => q.1) = l ∧ RowsOf w b o 6 (ps.map (fun q => q.2)) ∧ (∀ q ∈ ps, PL w S q) ∧ (0 < ps.length → S b) := by
  obtain ⟨css, h1, h2, h3⟩ := rowsL_of h
  have hz := zip_maps l css h1.symm
  refine ⟨l.zip css, hz.1, by rw [hz.2]; exact h2, fun q hq => ?_, fun hp => ?_⟩
  · obtain ⟨j, hj, rfl⟩ := List.getElem_of_mem hq
    rw [List.length_zip] at hj
    rw [List.getElem_zip]
    exact h3 j (by omega) (by omega)
  · rw [List.length_zip] at hp
    exact (liesL_get h 0 (by omega)).1
theorem ownL {w : World} {S : Nat → Prop} {B : Nat} {v : Value} {ps : List (V × List Value)} (h : OwnC B 25 6 v (ps.map (fun q => q.2)) w) (hp : ∀ q ∈ ps, PL w S q) : ∃ a n b o, v = .slice a (ps.map (fun q => q.1)).length n ∧ Headed a (ps.map (fun q => q.1)).length n b o ∧ liesL false w (fun x => S x ∨ (B ≤ x ∧ x < w.heap.size)) (ps.map (fun q => q.1)) b o := by
  have h' := h
  rcases h.2 with ⟨rfl, e⟩ | ⟨g, cap, cur, rfl, hB, hg, hle, hmax, hsz, htk⟩
  · have e0 : ps = [] := by simpa using e
    subst e0
    exact ⟨none, 0, 0, 0, rfl, ⟨Nat.le_refl _, Nat.zero_le _, .inl rfl, fun _ => rfl⟩, by rw [List.map_nil, liesL]; trivial⟩
  · simp only [List.length_map] at hle
    have hgl := (World.ownsRow.lt h' g rfl).2
    refine ⟨some ⟨g, 0, none⟩, cap, g, 0, by rw [List.length_map, List.length_map], ⟨by rw [List.length_map]; exact hle, hmax, .inr rfl, fun h => by cases h⟩, liesL_mk fun j hj => ?_⟩
    have hj' : j < ps.length := by simpa using hj
    have hq := hp ps[j] (List.getElem_mem hj')
    have hlen : ∀ x ∈ ps.map (fun q => q.2), x.length = 6 := fun x hx => by
      obtain ⟨q, hq, rfl⟩ := List.mem_map.1 hx
      exact by
        obtain ⟨k, b, i, s, al, nl, cl, am, nm, cm, e⟩ := V.ten (hp q hq)
        rw [e]; rfl
    have hrow : rowAt w g (0 + j * 6) (ps[j]).2 := fun r u hu => by
      have hr : r < 6 := by
        have := (List.getElem?_eq_some_iff.1 hu).1
        have h9 := hlen (ps[j]).2 (List.mem_map.2 ⟨_, List.getElem_mem hj', rfl⟩)
        omega
      have h1 := flat_get hlen j r hr (by simpa using hj')
      rw [List.getElem_map] at h1
      have h2 := World.ownsRow.cells h' (g := g) rfl (j * 6 + r) u (by rw [h1]; exact hu)
      rw [Go.WideShapes.add_plain] at h2
      simpa using h2
    rw [List.getElem_map]
    exact ⟨.inr ⟨hB, hgl⟩, (ps[j]).2, hrow, V.lies_keep (fun h => h) (fun _ _ => rfl) (fun b hb => .inl hb) _ hq⟩
def PM (w : World) (S : Nat → Prop) (q : Mem × List Value) : Prop := ∃ cs, q.2 = .string q.1.1 :: cs ∧ q.1.1.size ≤ maxLen ∧ q.1.2.lies false w S cs
theorem PM.keep {w w' : World} {S S' : Nat → Prop} {q : Mem × List Value} (h : PM w S q) (hw : ∀ b, S b → w'.heap[b]? = w.heap[b]?) (hS : ∀ b, S b → S' b) : PM w' S' q := by
  obtain ⟨cs, h1, h2, h3⟩ := h
  exact ⟨cs, h1, h2, V.lies_keep (fun h => h) hw hS _ h3⟩
theorem segM {w : World} {S : Nat → Prop} {l : List Mem} {b o : Nat} (h : liesM false w S l b o) : ∃ ps : List (Mem × List Value), ps.map (fun q => q.1) = l ∧ RowsOf w b o 7 (ps.map (fun q => q.2)) ∧ (∀ q ∈ ps, PM w S q) ∧ (0 < ps.length → S b) := by
  obtain ⟨css, h1, h2, h3⟩ := rowsM_of h
  have hz := zip_maps l css h1.symm
  refine ⟨l.zip css, hz.1, by rw [hz.2]; exact h2, fun q hq => ?_, fun hp => ?_⟩
  · obtain ⟨j, hj, rfl⟩ := List.getElem_of_mem hq
    rw [List.length_zip] at hj
    rw [List.getElem_zip]
    exact h3 j (by omega) (by omega)
  · rw [List.length_zip] at hp
    exact (liesM_get h 0 (by omega)).1
theorem ownM {w : World} {S : Nat → Prop} {B : Nat} {v : Value} {ps : List (Mem × List Value)} (h : OwnC B 64 7 v (ps.map (fun q => q.2)) w) (hp : ∀ q ∈ ps, PM w S q) : ∃ a n b o, v = .slice a (ps.map (fun q => q.1)).length n ∧ Headed a (ps.map (fun q => q.1)).length n b o ∧ liesM false w (fun x => S x ∨ (B ≤ x ∧ x < w.heap.size)) (ps.map (fun q => q.1)) b o := by
  have h' := h
  rcases h.2 with ⟨rfl, e⟩ | ⟨g, cap, cur, rfl, hB, hg, hle, hmax, hsz, htk⟩
  · have e0 : ps = [] := by simpa using e
    subst e0
    exact ⟨none, 0, 0, 0, rfl, ⟨Nat.le_refl _, Nat.zero_le _, .inl rfl, fun _ => rfl⟩, by rw [List.map_nil, liesM]; trivial⟩
  · simp only [List.length_map] at hle
    have hgl := (World.ownsRow.lt h' g rfl).2
    refine ⟨some ⟨g, 0, none⟩, cap, g, 0, by rw [List.length_map, List.length_map], ⟨by rw [List.length_map]; exact hle, hmax, .inr rfl, fun h => by cases h⟩, liesM_mk fun j hj => ?_⟩
    have hj' : j < ps.length := by simpa using hj
    have hq := hp ps[j] (List.getElem_mem hj')
    have hlen : ∀ x ∈ ps.map (fun q => q.2), x.length = 7 := fun x hx => by
      obtain ⟨q, hq, rfl⟩ := List.mem_map.1 hx
      exact by
        obtain ⟨cs, e0, _, e1⟩ := hp q hq
        obtain ⟨k, b, i, s, al, nl, cl, am, nm, cm, e⟩ := V.ten e1
        rw [e0, e]; rfl
    have hrow : rowAt w g (0 + j * 7) (ps[j]).2 := fun r u hu => by
      have hr : r < 7 := by
        have := (List.getElem?_eq_some_iff.1 hu).1
        have h9 := hlen (ps[j]).2 (List.mem_map.2 ⟨_, List.getElem_mem hj', rfl⟩)
        omega
      have h1 := flat_get hlen j r hr (by simpa using hj')
      rw [List.getElem_map] at h1
      have h2 := World.ownsRow.cells h' (g := g) rfl (j * 7 + r) u (by rw [h1]; exact hu)
      rw [Go.WideShapes.add_plain] at h2
      simpa using h2
    rw [List.getElem_map]
    obtain ⟨cs, e0, e1, e2⟩ := hq
    rw [e0] at hrow
    exact ⟨.inr ⟨hB, hgl⟩, e1, cs, hrow, V.lies_keep (fun h => h) (fun _ _ => rfl) (fun b hb => .inl hb) _ e2⟩
end Go.Proofs.YtgnofbigggmilaaGreatDoor
/- pointer.gap. -/
namespace Go.Proofs.YtgnofbigggmilaaGreatDoor
open Go.RowKit Go.Lib
set_option maxHeartbeats 1000000 in
set_option maxRecDepth 100000 in
theorem gap_any (t : ByteArray) (n : Nat) (w : World) (ht : t.size ≤ 281474976710656) (hn : n ≤ 4000000) (tg : Tg w) : Calls Tryz.prog 66 #[.string t, .int .i64 (n : Int)] w (IxPost (gapF t n) w) := by
  have CI := hmk (index_any t (n + 1) w ht (by omega) tg)
  have e1 : ((n + 1 : Nat) : Int) = (n : Int) + 1 := by omega
  rw [e1] at CI
  have HG : Hid (gapF t n = if t.data.toList = [45] then some n else idxF t.data.toList (n + 1)) := rfl
  generalize gapF t n = O at *
  generalize idxF t.data.toList (n + 1) = I at *
  by_cases h : t.data.toList = [45]
  · have y1 : (t.toList == [45]) = true := by rw [beq_iff_eq, ByteArray.toList_eq]; exact h
    have y2 : t.toList = [45] := by simpa using y1
    have HO : Hid (O = some n) := by show _ = _; rw [HG.out, if_pos h]
    have y3 : (⟨#[45]⟩ : ByteArray).toList = [45] := by rw [ByteArray.toList_eq]
    go_enter Tryz.func66, Tryz.ntmps66
    go_wp2_with fail
    go_ret2
    exact ⟨by rw [HO.out]; rfl, Below.refl _ _⟩
  · have y1 : (t.toList == [45]) = false := by rw [beq_eq_false_iff_ne, ByteArray.toList_eq]; exact h
    have y2 : ¬ t.toList = [45] := by simpa using y1
    have HO : Hid (O = I) := by show _ = _; rw [HG.out, if_neg h]
    have y3 : (⟨#[45]⟩ : ByteArray).toList = [45] := by rw [ByteArray.toList_eq]
    go_enter Tryz.func66, Tryz.ntmps66
    go_wp2_with fail
    refine CI.out.mono ?_
    rintro e w1 ⟨rfl, b1⟩
    go_wp2_with fail
    go_ret2
    exact ⟨by rw [HO.out]; rfl, b1⟩
end Go.Proofs.YtgnofbigggmilaaGreatDoor
