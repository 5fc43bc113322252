import Derived.Test.YtagjbphadakifaaDoorAppN
/- twin: the same value in memory of its own. -/
set_option linter.unusedSimpArgs false
set_option linter.unusedVariables false
namespace Go.Proofs.YtagjbphadakifaaDoor
open Go.RowKit
def TwinPost (k : Int) (b : Bool) (i : Int) (s : ByteArray) (l : List V) (m : List Mem) (w : World) (e : Ending) (w' : World) : Prop :=
  ∃ gl cl gm cm SL SM, e = .returned (.agg #[.int .i64 k, .bool b, .int .i64 i, .string s, .slice (some ⟨gl, 0, none⟩) l.length cl, .slice (some ⟨gm, 0, none⟩) m.length cm]) ∧ Below w.heap.size w w' ∧
    OwnL true w' w.heap.size SL (.slice (some ⟨gl, 0, none⟩) (l.length + 1) cl) (l.map some ++ [none]) ∧ OwnM true w' w.heap.size SM (.slice (some ⟨gm, 0, none⟩) (m.length + 1) cm) (m.map some ++ [none]) ∧ ¬ SL gm ∧ ¬ SM gl ∧ gl ≠ gm
theorem OwnR.alloc {α : Type} {E : α → World → (Nat → Prop) → List Value → Prop} {ty sz : Nat} (K : KeepE E) {w : World} {base : Nat} {S : Nat → Prop} {v : Value} {l : List α} (h : OwnR E ty sz w base S v l) (o : Obj) : OwnR E ty sz (w.alloc o) base S v l :=
  h.keep K (World.grownBy_alloc w o none) (fun r e => by cases e)
theorem grown_of_below {w w' : World} (h : Below w.heap.size w w') : w.grownBy w' none := ⟨h.os, h.tape, h.output, h.size, fun k hk _ => h.block k hk⟩
theorem OwnR.below {α : Type} {E : α → World → (Nat → Prop) → List Value → Prop} {ty sz : Nat} (K : KeepE E) {w w' : World} {base : Nat} {S : Nat → Prop} {v : Value} {l : List α} (h : OwnR E ty sz w base S v l) (hb : Below w.heap.size w w') : OwnR E ty sz w' base S v l :=
  h.keep K (grown_of_below hb) (fun r e => by cases e)
theorem grown_set1 (w : World) (B i : Nat) (u : Value) : w.grownBy (w.setCell ⟨B, i, none⟩ u) (some B) := grown_set (World.grownBy.refl w (some B)) i u
theorem OwnR.set {α : Type} {E : α → World → (Nat → Prop) → List Value → Prop} {ty sz : Nat} (K : KeepE E) {w : World} {base B : Nat} {S : Nat → Prop} {v : Value} {l : List α} (h : OwnR E ty sz w base S v l) (hB : B < base) (i : Nat) (u : Value) : OwnR E ty sz (w.setCell ⟨B, i, none⟩ u) base S v l :=
  h.keep K (grown_set1 w B i u) (fun r e => by
    cases e
    exact ⟨fun hS => by have := (h.off _ hS).1; omega, fun e => by have := (h.lt e).1; omega⟩)
theorem set_block {w : World} {b : Nat} {c : Array Value} {t : TypeId} {f : Nat × Nat} (h : w.heap[b]? = some (.cells c t f)) (i : Nat) (u : Value) : (w.setCell ⟨b, i, none⟩ u).heap[b]? = some (.cells (c.setIfInBounds i u) t f) := by
  simp [World.setCell, Array.getElem?_modify, h]
theorem rowAt_of_own {w : World} {base ty sz n g cap : Nat} {xs : List Value} (h : w.ownsRow base ty sz (.slice (some ⟨g, 0, none⟩) n cap) n xs) (j : Nat) : rowAt w g (0 + j * sz) ((xs.drop (j * sz)).take sz) := by
  intro q u hu
  have hq : xs[j * sz + q]? = some u := by
    rw [List.getElem?_take] at hu
    split at hu
    · rwa [List.getElem?_drop] at hu
    · cases hu
  have := h.cells (g := g) rfl (j * sz + q) u hq
  rw [Go.WideShapes.add_plain] at this
  rwa [Nat.add_assoc]
theorem OwnR.at {α : Type} {E : α → World → (Nat → Prop) → List Value → Prop} {ty sz : Nat} {w : World} {base g n cap : Nat} {S : Nat → Prop} {l : List α} (h : OwnR E ty sz w base S (.slice (some ⟨g, 0, none⟩) n cap) l) (hn : n = l.length) (j : Nat) (hj : j < l.length) :
    ∃ cs, rowAt w g (0 + j * sz) cs ∧ E l[j] w S cs := by
  subst hn
  obtain ⟨⟨xs, h1, h2⟩, _⟩ := h
  exact ⟨_, rowAt_of_own h1 j, h2 j hj⟩
theorem OwnR.le {α : Type} {E : α → World → (Nat → Prop) → List Value → Prop} {ty sz : Nat} {w : World} {base g n cap : Nat} {S : Nat → Prop} {l : List α} (h : OwnR E ty sz w base S (.slice (some ⟨g, 0, none⟩) n cap) l) : l.length ≤ cap ∧ cap ≤ maxLen := by
  obtain ⟨⟨xs, h1, _⟩, _⟩ := h
  rcases h1.2 with ⟨e, _⟩ | ⟨g', cap', cur, e, _, _, h3, h4, _⟩
  · cases e
  · cases e; exact ⟨h3, h4⟩
/-- what a twin is -/
theorem TwinPost.lies {k : Int} {b : Bool} {i : Int} {s : ByteArray} {l : List V} {m : List Mem} {w' : World} {gl cl gm cm N : Nat} {SL SM : Nat → Prop} (hk : In64 k) (hi : In64 i) (hs : s.size ≤ maxLen)
    (hL : OwnL true w' N SL (.slice (some ⟨gl, 0, none⟩) (l.length + 1) cl) (l.map some ++ [none])) (hM : OwnM true w' N SM (.slice (some ⟨gm, 0, none⟩) (m.length + 1) cm) (m.map some ++ [none])) :
    (V.mk k b i s l m).lies true w' (fun x => N ≤ x ∧ x < w'.heap.size) [.int .i64 k, .bool b, .int .i64 i, .string s, .slice (some ⟨gl, 0, none⟩) l.length cl, .slice (some ⟨gm, 0, none⟩) m.length cm] := by
  have hl1 := hL.le
  have hm1 := hM.le
  have hgl := hL.lt (g := gl) rfl
  have hgm := hM.lt (g := gm) rfl
  simp at hl1 hm1
  rw [V.lies]
  refine ⟨_, _, gl, 0, _, _, gm, 0, rfl, hk, hi, hs, ⟨by omega, hl1.2, .inr rfl, fun h => by cases h⟩, ⟨by omega, hm1.2, .inr rfl, fun h => by cases h⟩, liesL_mk fun j hj => ⟨hgl, ?_⟩, liesM_mk fun j hj => ?_, fun _ => ⟨rfl, by omega, hgl, ?_, rfl, by omega, hgm, ?_⟩⟩
  · obtain ⟨cs, h1, h2⟩ := hL.at (by simp) j (by simp; omega)
    refine ⟨cs, h1, ?_⟩
    rw [List.getElem_append_left (by simpa using hj), List.getElem_map] at h2
    exact V.lies_keep (fun h => h) (fun _ _ => rfl) (fun b hb => ⟨(hL.off b hb).1, (hL.off b hb).2.1⟩) _ h2
  · obtain ⟨cs, h1, h2⟩ := hM.at (by simp) j (by simp; omega)
    rw [List.getElem_append_left (by simpa using hj), List.getElem_map] at h2
    obtain ⟨cs', rfl, hks, h3⟩ := h2
    exact ⟨hgm, hks, cs', h1, V.lies_keep (fun h => h) (fun _ _ => rfl) (fun b hb => ⟨(hM.off b hb).1, (hM.off b hb).2.1⟩) _ h3⟩
  · obtain ⟨cs, h1, h2⟩ := hL.at (by simp) l.length (by simp)
    rw [List.getElem_append_right (by simp)] at h2
    simp only [List.length_map, Nat.sub_self, List.getElem_cons_zero] at h2
    have h3 : cs = [.int .i64 77, .bool false, .int .i64 0, .string ⟨#[]⟩, .slice none 0 0, .slice none 0 0] := h2
    subst h3
    exact h1 0 _ rfl
  · obtain ⟨cs, h1, h2⟩ := hM.at (by simp) m.length (by simp)
    rw [List.getElem_append_right (by simp)] at h2
    simp only [List.length_map, Nat.sub_self, List.getElem_cons_zero] at h2
    have h3 : cs = [.string ⟨#[114, 111, 111, 109]⟩, .int .i64 0, .bool false, .int .i64 0, .string ⟨#[]⟩, .slice none 0 0, .slice none 0 0] := h2
    subst h3
    exact h1 0 _ rfl
end Go.Proofs.YtagjbphadakifaaDoor
