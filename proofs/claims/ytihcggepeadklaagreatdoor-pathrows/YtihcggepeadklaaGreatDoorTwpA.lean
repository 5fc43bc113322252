import Derived.Test.YtihcggepeadklaaGreatDoorG21
/- twin: the same path in memory of its own. -/
set_option linter.unusedSimpArgs false
set_option linter.unusedVariables false
namespace Go.Proofs.YtihcggepeadklaaGreatDoor
open Go.RowKit
def EP (x : El) (w : World) (S : Nat → Prop) (cs : List Value) : Prop := x.lies w S cs
theorem keepP : KeepE EP := fun x w w' S S' cs hw hS h => El.lies_keep hw hS h
abbrev OwnP := OwnR EP 48 9
theorem info35 : (Tryz.prog.info? 48).map (fun i => (i.zero, i.size, i.bytes)) = some (some (.agg #[.int .i64 0, .string ⟨#[]⟩, .slice none 0 0, .int .i64 0, .bool false, .int .i64 0, .string ⟨#[]⟩, .slice none 0 0, .slice none 0 0]), 9, 136) := by kernel_rfl
theorem one9 {k i j : Int} {b : Bool} {s r : ByteArray} {p q o : Option Addr} {n c n' c' n2 c2 : Nat} : ∀ u ∈ [Value.int .i64 k, .string r, .slice o n2 c2, .int .i64 i, .bool b, .int .i64 j, .string s, .slice p n c, .slice q n' c'], u.oneCell' = true := by
  intro u hu
  simp at hu
  rcases hu with rfl | rfl | rfl | rfl | rfl | rfl | rfl | rfl | rfl <;> rfl
/-- the block of the element that is made -/
structure TpF (w : World) (loc : Array Value) (wr : World) : Prop where
  below : Below w.heap.size w wr
  b2 : wr.heap[w.heap.size]? = some (.cells loc 48 (0, 0))
theorem TpF.lt {w : World} {loc : Array Value} {wr : World} (h : TpF w loc wr) : w.heap.size + 1 ≤ wr.heap.size := (Array.getElem?_eq_some_iff.1 h.b2).1
theorem TpF.grown {w : World} {loc : Array Value} {wr wr' : World} (h : TpF w loc wr) {row : Option Nat} (g : wr.grownBy wr' row) (hr : ∀ r, row = some r → w.heap.size + 1 ≤ r) : TpF w loc wr' := by
  have hs := h.lt
  exact ⟨h.below.grown g (by omega) (fun r e => by have := hr r e; omega), (g.block _ (by omega) (fun e => by have := hr _ e.symm; omega)).trans h.b2⟩
theorem TpF.set {w : World} {loc loc' : Array Value} {wr : World} (h : TpF w loc wr) (i : Nat) (u : Value) (e : loc.setIfInBounds i u = loc') : TpF w loc' (wr.setCell ⟨w.heap.size, i, none⟩ u) := by
  have g := grown_set1 wr w.heap.size i u
  refine ⟨h.below.grown g h.below.size (fun r e => by cases e; omega), ?_⟩
  rw [set_block h.b2, e]
theorem own_listP {w : World} {N : Nat} {S T : Nat → Prop} {v : Value} {l : List El} (h : OwnP w N S v l) (hT : ∀ b, S b → T b) (hv : ∀ g, v.ownBlock = some g → T g) : ∃ a c b o, v = .slice a l.length c ∧ Headed a l.length c b o ∧ liesP w T l b o := by
  have h' := h
  obtain ⟨⟨xs, h1, h2⟩, h3⟩ := h'
  rcases h1.2 with ⟨rfl, e⟩ | ⟨g, cap, cur, rfl, _⟩
  · have : l = [] := List.length_eq_zero_iff.1 e
    subst this
    exact ⟨none, 0, 0, 0, rfl, ⟨Nat.le_refl _, by simp [maxLen], .inl rfl, fun _ => rfl⟩, fun j hj => by simp at hj⟩
  · have hle := h.le
    refine ⟨_, cap, g, 0, rfl, ⟨hle.1, hle.2, .inr rfl, fun h => by cases h⟩, fun j hj => ⟨hv g rfl, ?_⟩⟩
    obtain ⟨cs, k1, k2⟩ := h.at rfl j hj
    exact ⟨cs, k1, El.lies_keep (fun _ _ => rfl) hT k2⟩
end Go.Proofs.YtihcggepeadklaaGreatDoor
