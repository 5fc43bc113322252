/- joined: ClnA FndA -/
import Derived.Test.YtjgbjhahmgegiaaGreatDoorAnwD
/- value.Clone. -/
set_option linter.unusedSimpArgs false
set_option linter.unusedVariables false
namespace Go.Proofs.YtjgbjhahmgegiaaGreatDoor
open Go.RowKit Go.Lib
def nullV : V := .mk 0 false 0 ⟨#[]⟩ [] []
theorem null_lies (W : World) (S : Nat → Prop) : nullV.lies false W S [.int .i64 0, .bool false, .int .i64 0, .string ⟨#[]⟩, .slice none 0 0, .slice none 0 0] :=
  lies_S (by constructor <;> omega) (by constructor <;> omega) (by decide) headed_nil headed_nil (by rw [liesL]; trivial) (by rw [liesM]; trivial)
theorem lies_set6A {w : World} {B M : Nat} {v : V} {cs : List Value} (h : v.lies false w (From B w) cs) (hM : M < B) (i1 i2 i3 i4 i5 i6 : Nat) (u1 u2 u3 u4 u5 u6 : Value) :
    v.lies false ((((((w.setCell ⟨M, i1, none⟩ u1).setCell ⟨M, i2, none⟩ u2).setCell ⟨M, i3, none⟩ u3).setCell ⟨M, i4, none⟩ u4).setCell ⟨M, i5, none⟩ u5).setCell ⟨M, i6, none⟩ u6) (From B ((((((w.setCell ⟨M, i1, none⟩ u1).setCell ⟨M, i2, none⟩ u2).setCell ⟨M, i3, none⟩ u3).setCell ⟨M, i4, none⟩ u4).setCell ⟨M, i5, none⟩ u5).setCell ⟨M, i6, none⟩ u6)) cs :=
  V.lies_keep (fun h => h) (fun x hx => by have := hx.1; repeat (rw [set_other (show x ≠ M by omega)])) (fun x hx => ⟨hx.1, by simp only [size_set1]; exact hx.2⟩) _ h
end Go.Proofs.YtjgbjhahmgegiaaGreatDoor
/- slices.BinarySearchFunc over members, value.find. -/
namespace Go.Proofs.YtjgbjhahmgegiaaGreatDoor
open Go.RowKit Go.Lib
/-- where a key stands, or would -/
def posF (l : List Mem) (key : ByteArray) : Nat := (l.filter (lessKey key)).length
theorem pos_le (l : List Mem) (key : ByteArray) : posF l key ≤ l.length := List.length_filter_le _ _
theorem pos_less {l : List Mem} {key : ByteArray} (h : Srt l) {t : Nat} (ht : t < l.length) : ltB (l[t]).1 key = decide (t < posF l key) := by
  have hf := srt_filter (key := key) h
  have hle := pos_le l key
  change _ = decide (t < posF l key)
  by_cases hp : t < posF l key
  · rw [decide_eq_true hp]
    have hm : l[t] ∈ l.filter (lessKey key) := by
      rw [hf.1]
      have : (l.take (l.filter (lessKey key)).length)[t]? = some l[t] := by
        rw [List.getElem?_take, if_pos (show t < (l.filter (lessKey key)).length from hp), List.getElem?_eq_getElem ht]
      exact List.mem_of_getElem? this
    exact (List.mem_filter.1 hm).2
  · rw [decide_eq_false hp]
    refine hf.2 l[t] ?_
    have : (l.drop (l.filter (lessKey key)).length)[t - posF l key]? = some l[t] := by
      rw [List.getElem?_drop, show (l.filter (lessKey key)).length + (t - posF l key) = t from by have : posF l key = (l.filter (lessKey key)).length := rfl; omega, List.getElem?_eq_getElem ht]
    exact List.mem_of_getElem? this
theorem srt_rise {l : List Mem} (h : riseB l = true) : Srt l := by
  have h0 : ∀ j, j < l.length → okAt l j = true := by
    simpa only [riseB, List.all_eq_true, List.mem_range] using h
  have h1 : ∀ (j : Nat) (hj : j + 1 < l.length), ltB (l[j]).1 (l[j + 1]).1 = true := fun j hj => by
    have := h0 (j + 1) hj
    rw [okAt, keyAt_eq hj, Nat.add_sub_cancel, keyAt_eq (by omega)] at this
    simpa using (Bool.and_eq_true _ _ ▸ this).2
  have h2 : ∀ (d i : Nat) (hd : i + (d + 1) < l.length), ltB (l[i]).1 (l[i + (d + 1)]).1 = true := by
    intro d
    induction d with
    | zero => intro i hd; exact h1 i hd
    | succ d ih =>
      intro i hd
      exact ltB_trans (ih i (by omega)) (h1 (i + (d + 1)) hd)
  refine List.pairwise_iff_getElem.2 fun i j hi hj hij => ?_
  have := h2 (j - i - 1) i (by omega)
  have e : i + (j - i - 1 + 1) = j := by omega
  simp only [e] at this
  exact this
end Go.Proofs.YtjgbjhahmgegiaaGreatDoor
