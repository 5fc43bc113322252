/- joined: ClnA RclA SrtP -/
import Derived.Test.YthgfomblodhoaaaDoorAnwD
import Derived.Shelf.SlSortCmp.KitK
/- value.Clone. -/
set_option linter.unusedSimpArgs false
set_option linter.unusedVariables false
namespace Go.Proofs.YthgfomblodhoaaaDoor
open Go.RowKit Go.Lib
def nullV : V := .mk 0 false 0 ⟨#[]⟩ [] []
def clnV (v : V) : V := if okV v = true then v else nullV
theorem null_lies (W : World) (S : Nat → Prop) : nullV.lies false W S [.int .i64 0, .bool false, .int .i64 0, .string ⟨#[]⟩, .slice none 0 0, .slice none 0 0] :=
  lies_S (by constructor <;> omega) (by constructor <;> omega) (by decide) headed_nil headed_nil (by rw [liesL]; trivial) (by rw [liesM]; trivial)
theorem lies_set6A {w : World} {B M : Nat} {v : V} {cs : List Value} (h : v.lies false w (From B w) cs) (hM : M < B) (i1 i2 i3 i4 i5 i6 : Nat) (u1 u2 u3 u4 u5 u6 : Value) :
    v.lies false ((((((w.setCell ⟨M, i1, none⟩ u1).setCell ⟨M, i2, none⟩ u2).setCell ⟨M, i3, none⟩ u3).setCell ⟨M, i4, none⟩ u4).setCell ⟨M, i5, none⟩ u5).setCell ⟨M, i6, none⟩ u6) (From B ((((((w.setCell ⟨M, i1, none⟩ u1).setCell ⟨M, i2, none⟩ u2).setCell ⟨M, i3, none⟩ u3).setCell ⟨M, i4, none⟩ u4).setCell ⟨M, i5, none⟩ u5).setCell ⟨M, i6, none⟩ u6)) cs :=
  V.lies_keep (fun h => h) (fun x hx => by have := hx.1; repeat (rw [set_other (show x ≠ M by omega)])) (fun x hx => ⟨hx.1, by simp only [size_set1]; exact hx.2⟩) _ h
end Go.Proofs.YthgfomblodhoaaaDoor
/- the document's clone. -/
namespace Go.Proofs.YthgfomblodhoaaaDoor
open Go.RowKit
/-- a row of one's own, as a list -/
theorem own_listL {w : World} {N : Nat} {S : Nat → Prop} {v : Value} {l : List V} (h : OwnL false w N S v (l.map some)) : ∃ a c b o, v = .slice a l.length c ∧ Headed a l.length c b o ∧ liesL false w (From N w) l b o := by
  have h' := h
  obtain ⟨⟨xs, h1, h2⟩, h3⟩ := h'
  rcases h1.2 with ⟨rfl, e⟩ | ⟨g, cap, cur, rfl, _⟩
  · have e0 : l.length = 0 := by simpa using e
    have : l = [] := List.length_eq_zero_iff.1 e0
    subst this
    exact ⟨none, 0, 0, 0, rfl, headed_nil, by rw [liesL]; trivial⟩
  · have hle := h.le
    have hlt := h.lt (g := g) rfl
    simp only [List.length_map] at hle ⊢
    refine ⟨_, cap, g, 0, rfl, ⟨hle.1, hle.2, .inr rfl, fun h => by cases h⟩, liesL_mk fun j hj => ⟨hlt, ?_⟩⟩
    obtain ⟨cs, k1, k2⟩ := h.at (by simp) j (by simpa using hj)
    rw [List.getElem_map] at k2
    exact ⟨cs, k1, V.lies_keep (fun h => h) (fun _ _ => rfl) (fun b hb => ⟨(h.off b hb).1, (h.off b hb).2.1⟩) _ k2⟩
end Go.Proofs.YthgfomblodhoaaaDoor
/- Members with their cells; their order. -/
namespace Go.Proofs.YthgfomblodhoaaaDoor
open Go.RowKit Go.Lib Go.Sort
/-- a member, with the cells that hold it -/
structure MC where
  key : ByteArray
  val : V
  ek : Int
  eb : Bool
  ei : Int
  es : ByteArray
  eal : Option Addr
  enl : Nat
  ecl : Nat
  eam : Option Addr
  enm : Nat
  ecm : Nat
instance : Inhabited MC := ⟨⟨⟨#[]⟩, nullV, 0, false, 0, ⟨#[]⟩, none, 0, 0, none, 0, 0⟩⟩
def MC.cs (x : MC) : List Value := [.int .i64 x.ek, .bool x.eb, .int .i64 x.ei, .string x.es, .slice x.eal x.enl x.ecl, .slice x.eam x.enm x.ecm]
def MC.enc (x : MC) : List Value := .string x.key :: x.cs
def MC.mem (x : MC) : Mem := (x.key, x.val)
def MC.cmp (x y : MC) : Int := cmpS x.key y.key
theorem MC.len (x : MC) : x.enc.length = 7 := rfl
theorem MC.one (x : MC) : ∀ v ∈ x.enc, v.oneCell' = true := by
  intro v hv
  simp only [MC.enc, MC.cs, List.mem_cons, List.not_mem_nil, or_false] at hv
  rcases hv with rfl | rfl | rfl | rfl | rfl | rfl | rfl <;> rfl
theorem mc_lt (x y : MC) : ltOf MC.cmp x y = ltB x.key y.key := by
  have h1 := cmp_one x.key.data.toList y.key.data.toList
  change cmpS x.key y.key = -1 ∨ cmpS x.key y.key = 0 ∨ cmpS x.key y.key = 1 at h1
  rw [ltOf, Bool.eq_iff_iff, decide_eq_true_iff, ltB_cmp, MC.cmp]
  omega
theorem ltB_ntrans {a b c : ByteArray} (h : ltB a b = false) (h' : ltB b c = false) : ltB a c = false := by
  rw [Bool.eq_false_iff]
  intro hac
  by_cases e : a.toList = b.toList
  · have h1 := (ltB_cmp a c).1 hac
    have h2 : cmpS b c = -1 := by rw [cmpS, ← toList_data, ← e, toList_data]; exact h1
    rw [(ltB_cmp b c).2 h2] at h'
    cases h'
  · have := ltB_trans (ltB_tri h e) hac
    rw [this] at h'
    cases h'
theorem mc_swo : SWO (ltOf MC.cmp) where
  irrefl x := by rw [mc_lt]; exact ltB_irr _
  trans x y z h1 h2 := by rw [mc_lt] at *; exact ltB_trans h1 h2
  ntrans x y z h1 h2 := by rw [mc_lt] at *; exact ltB_ntrans h1 h2
theorem mc_of {R : Bool} {w : World} {S : Nat → Prop} : ∀ {l : List Mem} {b o : Nat}, liesM R w S l b o → ∃ d : List MC, d.map MC.mem = l ∧ (∀ x ∈ d, x.key.size ≤ maxLen ∧ x.val.lies R w S x.cs) ∧ (∀ (j : Nat) (h : j < d.length), rowAt w b (o + j * 7) (d[j]).enc)
  | [], b, o, _ => ⟨[], rfl, by simp, by intro j h; simp at h⟩
  | (k, x) :: t, b, o, hl => by
    rw [liesM] at hl
    obtain ⟨hS, ⟨hk, cs, hr, hx⟩, ht⟩ := hl
    obtain ⟨d, h1, h2, h3⟩ := mc_of ht
    obtain ⟨ek, eb, ei, es, eal, enl, ecl, eam, enm, ecm, rfl⟩ := V.ten hx
    refine ⟨⟨k, x, ek, eb, ei, es, eal, enl, ecl, eam, enm, ecm⟩ :: d, by rw [List.map_cons, h1]; rfl, ?_, ?_⟩
    · intro y hy
      rcases List.mem_cons.1 hy with rfl | hy
      · exact ⟨hk, hx⟩
      · exact h2 y hy
    · intro j h
      cases j with
      | zero => rw [Nat.zero_mul, Nat.add_zero]; exact hr
      | succ j =>
        have := h3 j (by simpa using h)
        rw [show o + 7 + j * 7 = o + (j + 1) * 7 by omega] at this
        exact this
theorem lies_of_mc {R : Bool} {w : World} {S : Nat → Prop} {d : List MC} {b o : Nat} (hS : S b) (h2 : ∀ x ∈ d, x.key.size ≤ maxLen ∧ x.val.lies R w S x.cs) (h3 : ∀ (j : Nat) (h : j < d.length), rowAt w b (o + j * 7) (d[j]).enc) : liesM R w S (d.map MC.mem) b o :=
  liesM_mk fun j h => by
    have h' : j < d.length := by simpa using h
    have e : (d.map MC.mem)[j] = MC.mem d[j] := List.getElem_map ..
    rw [e]
    have := h2 d[j] (List.getElem_mem h')
    exact ⟨hS, this.1, (d[j]).cs, h3 j h', this.2⟩
theorem get_arr {d : List MC} {i : Nat} (h : i < d.length) : d.toArray[i]! = d[i] := by simp [h]
/-- the flat row of rows -/
theorem flat_row {d : List MC} {w : World} {b o : Nat} (h3 : ∀ (j : Nat) (h : j < d.length), rowAt w b (o + j * 7) (d[j]).enc) (j : Nat) (u : Value) (hu : (flatK MC.enc 7 d.toArray).toList[j]? = some u) : w.cell? ⟨b, o + j, none⟩ = some u := by
  have hj : j < d.length * 7 := by
    have := (List.getElem?_eq_some_iff.1 hu).1
    simpa using this
  have h7 : j / 7 < d.length := by omega
  have hm : j % 7 < 7 := Nat.mod_lt _ (by omega)
  have e0 : (flatK MC.enc 7 d.toArray)[j]! = u := by
    rw [Array.getElem?_toList] at hu
    rw [Array.getElem!_eq_getD, Array.getD_eq_getD_getElem?, hu]
    rfl
  rw [get_flatK _ _ _ _ (by simpa using hj), get_arr h7] at e0
  have := h3 (j / 7) h7 (j % 7) u (by rw [← e0, List.getElem?_eq_getElem (by rw [MC.len]; exact hm), getElem!_pos _ _ (by rw [MC.len]; exact hm)])
  rw [show o + j / 7 * 7 + j % 7 = o + j by omega] at this
  exact this
theorem flat_one {d : List MC} : ∀ u ∈ (flatK MC.enc 7 d.toArray).toList, u.oneCell' = true := by
  intro u hu
  obtain ⟨j, hj, rfl⟩ := List.getElem_of_mem hu
  have hj' : j < d.length * 7 := by simpa using hj
  have h7 : j / 7 < d.length := by omega
  have hm : j % 7 < 7 := Nat.mod_lt _ (by omega)
  have e0 : (flatK MC.enc 7 d.toArray)[j]! = (flatK MC.enc 7 d.toArray).toList[j] := by
    rw [getElem!_pos _ _ (by simpa using hj)]; rfl
  rw [← e0, get_flatK _ _ _ _ (by simpa using hj'), get_arr h7, getElem!_pos _ _ (by rw [MC.len]; exact hm)]
  exact MC.one _ _ (List.getElem_mem _)
theorem rows_of_holds {d : Array MC} {w : World} {b o : Nat} (h : HoldsK MC.enc 7 w b o d) (j : Nat) (hj : j < d.toList.length) : rowAt w b (o + j * 7) (d.toList[j]).enc := by
  intro t u hu
  have ht : t < 7 := by have := (List.getElem?_eq_some_iff.1 hu).1; rwa [MC.len] at this
  have hj' : j < d.size := by simpa using hj
  have := (HoldsK.cell h hj' ht).1
  rw [this]
  have e : d[j]! = d.toList[j] := by rw [getElem!_pos d j hj']; rfl
  rw [e]
  obtain ⟨h1, h2⟩ := List.getElem?_eq_some_iff.1 hu
  rw [getElem!_pos _ t h1, h2]
/-- what the sorting leaves alone -/
theorem sortW_below {w0 : World} {B g off n : Nat} {d : Array MC} {os : Array Obj} (h : B ≤ g) (hB : B ≤ w0.heap.size) : Below B w0 (sortWorldK MC.enc 7 w0 g off n d os) := by
  refine ⟨rfl, rfl, rfl, size_sortWorldK_c MC.enc 7 w0 g off n d os, fun k hk => ?_⟩
  have e : (sortWorldK MC.enc 7 w0 g off n d os).heap = (w0.heap.modify g (onCells (Go.Sort.putCells id off (flatK MC.enc 7 d)))) ++ os := rfl
  rw [e, Array.getElem?_append_left (by rw [Array.size_modify]; omega), Array.getElem?_modify, if_neg (by omega)]
end Go.Proofs.YthgfomblodhoaaaDoor
