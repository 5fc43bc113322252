/- value.rising. -/
import Derived.Test.YtagjbphadakifaaDoorChkA
import Derived.Test.YtagjbphadakifaaDoorQSub
import Derived.Laws.Cover1
set_option linter.unusedSimpArgs false
set_option linter.unusedVariables false
namespace Go.Proofs.YtagjbphadakifaaDoor
open Go.RowKit Go.Lib
def keyAt (l : List Mem) (j : Nat) : ByteArray := match l[j]? with | some x => x.1 | none => ⟨#[]⟩
theorem keyAt_eq {l : List Mem} {j : Nat} (h : j < l.length) : keyAt l j = (l[j]).1 := by simp [keyAt, h]
def utfB (s : ByteArray) : Bool := validD s.data.toList
def ltB (a b : ByteArray) : Bool := Op.bytesLess a.toList b.toList
def okAt (l : List Mem) (j : Nat) : Bool := utfB (keyAt l j) && (decide (j = 0) || ltB (keyAt l (j - 1)) (keyAt l j))
def riseB (l : List Mem) : Bool := (List.range l.length).all (okAt l)
theorem riseB_true {l : List Mem} (h : ∀ j, j < l.length → okAt l j = true) : riseB l = true := by
  simp only [riseB, List.all_eq_true, List.mem_range]; exact h
theorem riseB_false {l : List Mem} {j : Nat} (hj : j < l.length) (h : okAt l j = false) : riseB l = false := by
  rw [riseB, List.all_eq_false]; exact ⟨j, by simpa using hj, by simp [h]⟩
theorem V.ten {R : Bool} {w : World} {S : Nat → Prop} {v : V} {cs : List Value} (h : v.lies R w S cs) : ∃ k b i s al nl cl am nm cm, cs = [.int .i64 k, .bool b, .int .i64 i, .string s, .slice al nl cl, .slice am nm cm] := by
  cases v
  rw [V.lies] at h
  obtain ⟨al, cl, bl, ol, am, cm, bm, om, e, _⟩ := h
  exact ⟨_, _, _, _, _, _, _, _, _, _, e⟩
end Go.Proofs.YtagjbphadakifaaDoor
