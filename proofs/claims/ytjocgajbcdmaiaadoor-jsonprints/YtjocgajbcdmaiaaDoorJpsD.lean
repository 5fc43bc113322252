/- where appended bytes lie: in their row, or in a new block. -/
import Derived.Test.YtjocgajbcdmaiaaDoorJpsA
set_option linter.unusedSimpArgs false
set_option linter.unusedVariables false
namespace Go.Proofs.YtjocgajbcdmaiaaDoor
open Go.RowKit Go.Lib

/-- in the row that v has, or in a block from n on -/
def Lands (v : Value) (n : Nat) (v' : Value) : Prop := ∀ g, v'.ownBlock = some g → v.ownBlock = some g ∨ n ≤ g
theorem Lands.trans {v v1 v2 : Value} {n n1 : Nat} (h : Lands v n v1) (h' : Lands v1 n1 v2) (hn : n ≤ n1) : Lands v n v2 := fun g hg => by
  rcases h' g hg with e | e
  · exact h g e
  · exact .inr (Nat.le_trans hn e)
theorem Lands.refl (v : Value) (n : Nat) : Lands v n v := fun g hg => .inl hg
/-- one turn behind another: nothing but the first row has turned -/
theorem grown_lands {w w1 w2 : World} {v v1 : Value} (h : w.grownBy w1 v.ownBlock) (h' : w1.grownBy w2 v1.ownBlock) (hl : Lands v w.heap.size v1) : w.grownBy w2 v.ownBlock :=
  ⟨h'.os.trans h.os, h'.tape.trans h.tape, h'.output.trans h.output, Nat.le_trans h.size h'.size, fun k hk hne => (h'.block k (Nat.lt_of_lt_of_le hk h.size) (fun e => by
    rcases hl k e.symm with e1 | e1
    · exact hne e1.symm
    · omega)).trans (h.block k hk hne)⟩

theorem run_str_where (w : World) (B : Nat) (v : Value) (l : List UInt8) (hown : Own B v l w) (ty : TypeId) (t : ByteArray) (h0 : 0 < t.size) (hlen : l.length + t.size ≤ 140737488355328) (hbase : B ≤ w.heap.size) :
    ∃ v' w', (Builtin.append_ #[28, 9] ty #[v, .string t]).run Tryd.prog w = .ok v' w' ∧ Own B v' (l ++ t.data.toList) w' ∧ w.grownBy w' v.ownBlock ∧ Lands v w.heap.size v' := by
  obtain ⟨i0, hi, hz0, hz1, hz2⟩ := info_parts info5
  obtain ⟨v', w', hr, h1, h2, _⟩ := run_append_own_string (P := Tryd.prog) w B 28 9 ty 5 i0 Tryd.underlying28 Tryd.underlying9 hi hz0 hz1 hz2 v l.length (byteCells l) hown t (by unfold maxLen; omega) hlen hbase
  refine ⟨v', w', hr, ?_, h2, ?_⟩
  · show w'.ownsRow B 5 1 v' (l ++ t.data.toList).length (byteCells (l ++ t.data.toList))
    have e : byteCells (l ++ t.data.toList) = byteCells l ++ strCells t := by simp [byteCells, strCells]
    have e2 : t.data.toList.length = t.size := by rw [Array.length_toList]; rfl
    rw [e, List.length_append, e2]
    exact h1
  · intro g' hg'
    rcases hown.2 with ⟨rfl, hx⟩ | ⟨g, cap, cur, rfl, hbg, hg, hnc, hcm, hcs, htake⟩
    · have h3 := run_append_nil_string (P := Tryd.prog) w 28 9 ty 5 i0 (.int .u8 0) Tryd.underlying28 Tryd.underlying9 hi hz0 t h0 (by omega) (by rw [hz2]; omega)
      rw [h3] at hr
      obtain ⟨rfl, _⟩ := Result.ok.inj hr
      simp [Value.ownBlock] at hg'
      exact .inr (by omega)
    · by_cases hroom : l.length + t.size ≤ cap
      · have hcs' : cur.size = cap := by simpa using hcs
        have h3 := run_append_room_string (P := Tryd.prog) w 28 9 ty 5 i0 Tryd.underlying28 Tryd.underlying9 hi hz1 g l.length cap cur hg t hroom (by omega)
        rw [h3] at hr
        obtain ⟨rfl, _⟩ := Result.ok.inj hr
        exact .inl hg'
      · have hxl : (byteCells l).length = l.length := byteCells_length l
        have holds : ∀ j u, (byteCells l)[j]? = some u → w.cell? ((⟨g, 0, none⟩ : Addr).add j) = some u := World.ownsRow.cells hown (g := g) rfl
        have h3 := run_append_grow_string (P := Tryd.prog) w 28 9 ty 5 i0 (.int .u8 0) Tryd.underlying28 Tryd.underlying9 hi hz0 ⟨g, 0, none⟩ l.length cap (byteCells l) (by rw [hz1]; omega) holds t (by omega) (by omega) (by rw [hz2]; exact growslice_fits (by omega) (by omega))
        rw [h3] at hr
        obtain ⟨rfl, _⟩ := Result.ok.inj hr
        simp [Value.ownBlock] at hg'
        exact .inr (by omega)
end Go.Proofs.YtjocgajbcdmaiaaDoor
