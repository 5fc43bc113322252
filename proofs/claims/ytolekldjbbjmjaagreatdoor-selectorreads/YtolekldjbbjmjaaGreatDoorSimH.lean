import Derived.Test.YtolekldjbbjmjaaGreatDoorG29
import Derived.Shelf.SlIter.Nil
import Derived.Shelf.SlIter.Keys
import Derived.Shelf.SlIter.Sorted
import Derived.Shelf.SortM.Plain
import Derived.Shelf.SortM.SortNone
import Derived.Shelf.Slices.CompactS
import Derived.Shelf.SlicesE.Clone
import Derived.Sort.OwnSorted
/- the library's Sort, Compact, Clone, Sorted(maps.Keys(..)) by their contracts, laid at this program. -/
set_option linter.unusedSimpArgs false
set_option linter.unusedVariables false
namespace Go.Proofs
open Go.Shelf Go.RowKit Go.Maps Go.Sort
def Tryz.sort56_ren : Go.Shelf.Ren := ⟨fun | 6 => 49 | 8 => 71 | 9 => 70 | 19 => 95 | 20 => 96 | 21 => 87 | 22 => 88 | 23 => 89 | 24 => 90 | 25 => 91 | 26 => 92 | 27 => 85 | 28 => 93 | 29 => 94 | 31 => 116 | 32 => 117 | 36 => 115 | 37 => 118 | 38 => 119 | 39 => 114 | 41 => 129 | n => n, fun | 0 => 0 | 3 => 3 | 4 => 4 | 5 => 5 | 9 => 9 | 26 => 33 | 27 => 33 | 28 => 96 | 29 => 9 | 31 => 110 | 32 => 111 | 33 => 109 | 35 => 126 | 36 => 127 | 41 => 106 | 43 => 132 | 44 => 133 | 45 => 134 | 46 => 135 | 47 => 125 | 48 => 128 | 49 => 129 | 50 => 117 | 51 => 130 | 52 => 131 | 53 => 151 | 54 => 152 | 55 => 153 | 57 => 155 | 60 => 154 | 61 => 156 | 62 => 43 | 63 => 173 | 64 => 174 | 66 => 175 | 73 => 194 | 76 => 197 | 77 => 93 | 82 => 103 | n => n, fun | n => n⟩
set_option maxRecDepth 100000 in
theorem Tryz.sort56 : Go.Proofs.SlLaysM.n6 Tryz.prog Tryz.sort56_ren := {
  mixed := by kernel_rfl
  f6 := ⟨Tryz.f49.name, by kernel_rfl, Tryz.func49.trans (congrArg some (by kernel_rfl))⟩
  f8 := Tryz.func71.trans (congrArg some (by kernel_rfl))
  f9 := ⟨Tryz.f70.name, by kernel_rfl, Tryz.func70.trans (congrArg some (by kernel_rfl))⟩
  f19 := Tryz.func95.trans (congrArg some (by kernel_rfl))
  f20 := Tryz.func96.trans (congrArg some (by kernel_rfl))
  f21 := ⟨Tryz.f87.name, by kernel_rfl, Tryz.func87.trans (congrArg some (by kernel_rfl))⟩
  f22 := ⟨Tryz.f88.name, by kernel_rfl, Tryz.func88.trans (congrArg some (by kernel_rfl))⟩
  f23 := ⟨Tryz.f89.name, by kernel_rfl, Tryz.func89.trans (congrArg some (by kernel_rfl))⟩
  f24 := ⟨Tryz.f90.name, by kernel_rfl, Tryz.func90.trans (congrArg some (by kernel_rfl))⟩
  f25 := ⟨Tryz.f91.name, by kernel_rfl, Tryz.func91.trans (congrArg some (by kernel_rfl))⟩
  f26 := ⟨Tryz.f92.name, by kernel_rfl, Tryz.func92.trans (congrArg some (by kernel_rfl))⟩
  f27 := ⟨Tryz.f85.name, by kernel_rfl, Tryz.func85.trans (congrArg some (by kernel_rfl))⟩
  f28 := ⟨Tryz.f93.name, by kernel_rfl, Tryz.func93.trans (congrArg some (by kernel_rfl))⟩
  f29 := ⟨Tryz.f94.name, by kernel_rfl, Tryz.func94.trans (congrArg some (by kernel_rfl))⟩
  f31 := Tryz.func116.trans (congrArg some (by kernel_rfl))
  f32 := Tryz.func117.trans (congrArg some (by kernel_rfl))
  f36 := ⟨Tryz.f115.name, by kernel_rfl, Tryz.func115.trans (congrArg some (by kernel_rfl))⟩
  f37 := ⟨Tryz.f118.name, by kernel_rfl, Tryz.func118.trans (congrArg some (by kernel_rfl))⟩
  f38 := ⟨Tryz.f119.name, by kernel_rfl, Tryz.func119.trans (congrArg some (by kernel_rfl))⟩
  f39 := ⟨Tryz.f114.name, by kernel_rfl, Tryz.func114.trans (congrArg some (by kernel_rfl))⟩
  f41 := ⟨Tryz.f129.name, by kernel_rfl, Tryz.func129.trans (congrArg some (by kernel_rfl))⟩
  t0 := Tryz.underlying0
  a0 := Tryz.isAgg0
  z0 := Tryz.sizeOf0
  v0 := Tryz.zeroValue0
  t3 := Tryz.underlying3
  a3 := Tryz.isAgg3
  z3 := Tryz.sizeOf3
  v3 := Tryz.zeroValue3
  t4 := Tryz.underlying4
  a4 := Tryz.isAgg4
  z4 := Tryz.sizeOf4
  v4 := Tryz.zeroValue4
  t5 := Tryz.underlying5
  a5 := Tryz.isAgg5
  z5 := Tryz.sizeOf5
  v5 := Tryz.zeroValue5
  t9 := Tryz.underlying9
  a9 := Tryz.isAgg9
  z9 := Tryz.sizeOf9
  v9 := Tryz.zeroValue9
  t26 := Tryz.underlying33
  a26 := Tryz.isAgg33
  z26 := Tryz.sizeOf33
  v26 := Tryz.zeroValue33
  t27 := Tryz.underlying33
  a27 := Tryz.isAgg33
  z27 := Tryz.sizeOf33
  v27 := Tryz.zeroValue33
  t29 := Tryz.underlying9
  a29 := Tryz.isAgg9
  z29 := Tryz.sizeOf9
  v29 := Tryz.zeroValue9
  t32 := Tryz.underlying111
  a32 := Tryz.isAgg111
  z32 := Tryz.sizeOf111
  v32 := Tryz.zeroValue111
  t35 := Tryz.underlying126
  a35 := Tryz.isAgg126
  z35 := Tryz.sizeOf126
  v35 := Tryz.zeroValue126
  t36 := Tryz.underlying127
  a36 := Tryz.isAgg127
  z36 := Tryz.sizeOf127
  v36 := Tryz.zeroValue127
  t41 := Tryz.underlying106
  a41 := Tryz.isAgg106
  z41 := Tryz.sizeOf106
  v41 := Tryz.zeroValue106
  t44 := Tryz.underlying133
  a44 := Tryz.isAgg133
  z44 := Tryz.sizeOf133
  v44 := Tryz.zeroValue133
  t46 := Tryz.underlying135
  a46 := Tryz.isAgg135
  z46 := Tryz.sizeOf135
  v46 := Tryz.zeroValue135
  t53 := Tryz.underlying151
  a53 := Tryz.isAgg151
  z53 := Tryz.sizeOf151
  v53 := Tryz.zeroValue151
  t57 := Tryz.underlying155
  a57 := Tryz.isAgg155
  z57 := Tryz.sizeOf155
  v57 := Tryz.zeroValue155
  t63 := Tryz.underlying173
  a63 := Tryz.isAgg173
  z63 := Tryz.sizeOf173
  v63 := Tryz.zeroValue173
  t64 := Tryz.underlying174
  a64 := Tryz.isAgg174
  z64 := Tryz.sizeOf174
  v64 := Tryz.zeroValue174 }
def Tryz.lays194_ren : Go.Shelf.Ren := ⟨fun | 194 => 51 | n => n, fun | 0 => 0 | 3 => 3 | 4 => 4 | 9 => 9 | 31 => 33 | n => n, fun  | n => n⟩
set_option maxRecDepth 100000 in
theorem Tryz.lays194 : Go.Proofs.Lays.n194 Tryz.prog Tryz.lays194_ren := {
  mixed := by kernel_rfl
  f194 := Tryz.func51.trans (congrArg some (by kernel_rfl))
  t0 := Tryz.underlying0
  a0 := Tryz.isAgg0
  z0 := Tryz.sizeOf0
  v0 := Tryz.zeroValue0
  t3 := Tryz.underlying3
  a3 := Tryz.isAgg3
  z3 := Tryz.sizeOf3
  v3 := Tryz.zeroValue3
  t4 := Tryz.underlying4
  a4 := Tryz.isAgg4
  z4 := Tryz.sizeOf4
  v4 := Tryz.zeroValue4
  t9 := Tryz.underlying9
  a9 := Tryz.isAgg9
  z9 := Tryz.sizeOf9
  v9 := Tryz.zeroValue9
  t31 := Tryz.underlying33
  a31 := Tryz.isAgg33
  z31 := Tryz.sizeOf33
  v31 := Tryz.zeroValue33 }
namespace YtolekldjbbjmjaaGreatDoor
open Go.Lib
abbrev bs (s : ByteArray) : List UInt8 := s.data.toList
abbrev ofB (x : List UInt8) : ByteArray := ⟨x.toArray⟩
theorem of_bs (s : ByteArray) : ofB (bs s) = s := by cases s; rfl
theorem enc_bs (l : List ByteArray) : (l.map bs).map encStr = l.map Value.string := by
  rw [List.map_map]
  refine List.map_congr_left fun s _ => ?_
  show encStr (bs s) = _
  cases s; rfl
theorem enc_of (l : List (List UInt8)) : (l.map ofB).map Value.string = l.map encStr := by
  rw [List.map_map]
  rfl
theorem own_xs {w : World} {base : Nat} {S : Nat → Prop} {v : Value} {l : List ByteArray} (h : OwnSt w base S v l) : w.ownsRow base 9 1 v l.length (l.map Value.string) := by
  obtain ⟨⟨xs, h1, h2⟩, _⟩ := h
  have hl : xs.length = l.length := by have := h1.1; omega
  have e : xs = l.map Value.string := by
    refine List.ext_getElem (by simpa using hl) fun j hj1 hj2 => ?_
    have hj : j < l.length := by omega
    have h3 : (xs.drop (j * 1)).take 1 = [Value.string l[j]] := h2 j hj
    rw [Nat.mul_one, List.drop_eq_getElem_cons hj1] at h3
    simp only [List.take_succ_cons, List.take_zero, List.cons.injEq, and_true] at h3
    rw [h3, List.getElem_map]
  rw [← e]; exact h1
def sortB (l : List ByteArray) : List ByteArray := ((l.map bs).mergeSort (fun x y => decide (x ≤ y))).map ofB
theorem sortB_len (l : List ByteArray) : (sortB l).length = l.length := by unfold sortB; simp
theorem sort_any (v : Value) (base : Nat) (l : List ByteArray) (w : World) (h : OwnSt w base (fun _ => False) v l) (hlen : l.length ≤ 2147483647) :
    Calls Tryz.prog 49 #[v] w (fun e w' => e = .returned (.tuple #[]) ∧ OwnSt w' base (fun _ => False) v (sortB l) ∧ w.grownBy w' v.ownBlock) := by
  have hx := own_xs h
  rcases hx.2 with ⟨rfl, h0⟩ | ⟨g, cap, cur, rfl, hbase, hb, h1, h2, h3, h4⟩
  · have hl : l = [] := List.length_eq_zero_iff.1 h0
    subst hl
    refine (AnyM.slices_Sort_string_none Tryz.sort56 none 0 w).mono ?_
    rintro e w' ⟨rfl, rfl⟩
    have e0 : sortB [] = [] := by simp [sortB]
    exact ⟨rfl, by rw [e0]; exact h, World.grownBy.refl _ _⟩
  · have hH : Holds encStr w g 0 (l.map bs).toArray := holds_of_block hb (by rw [enc_bs]; simpa using h4)
    have hg : g < w.heap.size := (Array.getElem?_eq_some_iff.1 hb).1
    have hc := AnyM.slices_Sort_string Tryz.sort56 g 0 cap (l.map bs) w hH hg (by simp; omega)
    rw [List.length_map] at hc
    refine hc.mono ?_
    rintro e w' ⟨rfl, n, os, rfl⟩
    have hlen2 : ((l.map bs).mergeSort (fun x y => decide (x ≤ y))).length = (l.map bs).length := by simp
    have hr := ownsRow_sorted (n := n) (os := os) hlen2 hbase hb (by simpa using h1) h2 h3
    rw [List.length_map] at hr
    refine ⟨rfl, own_strs ?_, grownBy_sorted _⟩
    rw [sortB_len]
    unfold sortB
    rw [enc_of]
    exact hr
def compB (l : List ByteArray) : List ByteArray := (compactUpTo (l.map bs).toArray l.length).map ofB
theorem comp_le {α : Type} [Inhabited α] [DecidableEq α] (d : Array α) (m : Nat) : (compactUpTo d m).length ≤ m := by
  unfold compactUpTo
  rw [List.length_map]
  exact Nat.le_trans (List.length_filter_le _ _) (by simp)
set_option maxRecDepth 100000 in
theorem compact_nil (c : Nat) (w : World) : Calls Tryz.prog 51 #[.slice none 0 c] w (fun e w' => e = .returned (.slice none 0 c) ∧ w' = w) := by
  go_enter Tryz.func51, Tryz.ntmps51
  go_wp2_with fail
  go_ret
  exact ⟨rfl, rfl⟩
theorem compact_any (v : Value) (base : Nat) (l : List ByteArray) (w : World) (h : OwnSt w base (fun _ => False) v l) (hsm : SmallS (compB l)) (hlen : l.length ≤ 2147483647) :
    Calls Tryz.prog 51 #[v] w (fun e w' => ∃ a c b o, e = .returned (.slice a (compB l).length c) ∧ Headed a (compB l).length c b o ∧ liesS w' (fun y => v.ownBlock = some y) (compB l) b o ∧ w.grownBy w' v.ownBlock) := by
  have hx := own_xs h
  rcases hx.2 with ⟨rfl, h0⟩ | ⟨g, cap, cur, rfl, hbase, hb, h1, h2, h3, h4⟩
  · have hl : l = [] := List.length_eq_zero_iff.1 h0
    subst hl
    refine (compact_nil 0 w).mono ?_
    rintro e w' ⟨rfl, rfl⟩
    exact ⟨none, 0, 0, 0, rfl, head_nilS, fun j hj => by simp [compB, compactUpTo] at hj, World.grownBy.refl _ _⟩
  · have hH : Holds encStr w g 0 (l.map bs).toArray := holds_of_block hb (by rw [enc_bs]; simpa using h4)
    have hg : g < w.heap.size := (Array.getElem?_eq_some_iff.1 hb).1
    have hc := Any.slices_Compact_string_arr Tryz.lays194 g 0 cap (l.map bs).toArray w hH (by simp; omega) (by simpa using h1)
    have hsz : (l.map bs).toArray.size = l.length := by simp
    rw [hsz] at hc
    refine hc.mono ?_
    rintro e w' ⟨rfl, q, rfl⟩
    have hcl := comp_le (l.map bs).toArray l.length
    have hcb : (compB l).length = (compactUpTo (l.map bs).toArray l.length).length := by unfold compB; simp
    have hgr := grownBy_sorted (w := w) (g := g) (n := q) (os := #[]) (compactUpTo (l.map bs).toArray l.length ++ List.replicate (l.length - (compactUpTo (l.map bs).toArray l.length).length) []).toArray
    have hgz : ∀ (W : World), grow W #[] = W := fun W => by simp [grow]
    rw [hgz] at hgr
    refine ⟨some ⟨g, 0, none⟩, cap, g, 0, by rw [hcb], ⟨by rw [hcb]; omega, h2, .inr rfl, fun h => by cases h⟩, fun j hj => ⟨rfl, hsm _ (List.getElem_mem hj), ?_⟩, hgr⟩
    have hb2 := heap_sorted (n := q) (os := #[]) (compactUpTo (l.map bs).toArray l.length ++ List.replicate (l.length - (compactUpTo (l.map bs).toArray l.length).length) []).toArray hb
    rw [hgz] at hb2
    have htk := take_putCells cur (compactUpTo (l.map bs).toArray l.length ++ List.replicate (l.length - (compactUpTo (l.map bs).toArray l.length).length) []) (by simp; omega)
    have hj2 : j < (compactUpTo (l.map bs).toArray l.length).length := by omega
    rw [cell_of_block hb2, Nat.zero_add, ← Array.getElem?_toList]
    have e1 := congrArg (fun x => x[j]?) htk
    (try simp only at e1)
    rw [List.getElem?_take_of_lt (by simp; omega)] at e1
    rw [e1, List.map_append, List.getElem?_append_left (by simpa using hj2), List.getElem?_map, List.getElem?_eq_getElem hj2]
    simp only [compB, List.getElem_map, Option.map_some]
/- plain: sorted, compacted -/
theorem le_less {x y : List UInt8} : x ≤ y ↔ Op.bytesLess y x = false := by
  rw [bytesLess_eq, decide_eq_false_iff_not, List.not_lt]
theorem lt_of_le {x y : List UInt8} (h : Op.bytesLess y x = false) (hne : x ≠ y) : Op.bytesLess x y = true := by
  have h1 := less_turn x y
  rw [h] at h1
  have h2 : (x == y) = false := by rw [beq_eq_false_iff_ne]; exact hne
  rw [h2, Bool.or_false] at h1
  exact h1
theorem le_lt {x y z : List UInt8} (h : Op.bytesLess y x = false) (h2 : Op.bytesLess y z = true) : Op.bytesLess x z = true := by
  by_cases e : x = y
  · rw [e]; exact h2
  · exact less_trans (lt_of_le h e) h2
theorem sorted_le (l : List ByteArray) : ((l.map bs).mergeSort (fun x y => decide (x ≤ y))).Pairwise (fun x y => Op.bytesLess y x = false) := by
  have tr : ∀ a b c : List UInt8, leB a b = true → leB b c = true → leB a c = true := fun a b c h1 h2 => by simp only [leB, decide_eq_true_eq] at *; exact List.le_trans h1 h2
  have tt : ∀ a b : List UInt8, (leB a b || leB b a) = true := fun a b => by simp only [leB, Bool.or_eq_true, decide_eq_true_eq]; exact List.le_total a b
  refine (List.pairwise_mergeSort tr tt (l.map bs)).imp fun h => ?_
  exact le_less.1 (by simpa [leB] using h)
theorem comp_ris {zs : List (List UInt8)} (hs : zs.Pairwise (fun x y => Op.bytesLess y x = false)) : (compactUpTo zs.toArray zs.length).Pairwise (fun x y => Op.bytesLess x y = true) := by
  have hle : ∀ i j, i ≤ j → j < zs.length → Op.bytesLess (zs.toArray[j]!) (zs.toArray[i]!) = false := fun i j hij hj => by
    rw [getElem!_pos zs.toArray j (by simpa using hj), getElem!_pos zs.toArray i (by simp; omega)]
    by_cases e : i = j
    · subst e; exact less_self _
    · simpa using List.pairwise_iff_getElem.1 hs i j (by omega) hj (by omega)
  unfold compactUpTo
  rw [List.pairwise_map]
  refine ((List.pairwise_lt_range (n := zs.length)).filter _).imp_of_mem fun {i j} hi hj hij => ?_
  rw [List.mem_filter, List.mem_range] at hi hj
  have hk := hj.2
  unfold keeps at hk
  rw [decide_eq_true_eq] at hk
  rcases hk with hk | hk
  · omega
  · exact le_lt (hle i (j - 1) (by omega) (by omega)) (lt_of_le (hle (j - 1) j (by omega) hj.1) (fun e => hk e.symm))
theorem comp_mem {zs : List (List UInt8)} (x : List UInt8) : x ∈ compactUpTo zs.toArray zs.length ↔ x ∈ zs := by
  unfold compactUpTo
  rw [List.mem_map]
  constructor
  · rintro ⟨j, hj, rfl⟩
    rw [List.mem_filter, List.mem_range] at hj
    rw [getElem!_pos zs.toArray j (by simpa using hj.1)]
    simp
  · intro hx
    obtain ⟨j, hj, rfl⟩ := List.mem_iff_getElem.1 hx
    induction j using Nat.strongRecOn with
    | ind j ih =>
      by_cases hk : keeps zs.toArray j = true
      · exact ⟨j, List.mem_filter.2 ⟨List.mem_range.2 hj, hk⟩, by rw [getElem!_pos zs.toArray j (by simpa using hj)]; simp⟩
      · unfold keeps at hk
        rw [decide_eq_true_eq] at hk
        have h0 : j ≠ 0 := fun e => hk (.inl e)
        have h1 : zs.toArray[j]! = zs.toArray[j - 1]! := Classical.byContradiction fun e => hk (.inr e)
        rw [getElem!_pos zs.toArray j (by simpa using hj), getElem!_pos zs.toArray (j - 1) (by simp; omega)] at h1
        obtain ⟨i, hi, e⟩ := ih (j - 1) (by omega) (by omega) (List.getElem_mem _)
        refine ⟨i, hi, ?_⟩
        rw [e]
        simpa using h1.symm
theorem bsl (s : ByteArray) : s.toList = bs s := by rw [ByteArray.toList_eq]
theorem comp_sort_ris (l : List ByteArray) : Ris (compB (sortB l)) := by
  unfold compB
  have e : (sortB l).map bs = (l.map bs).mergeSort (fun x y => decide (x ≤ y)) := by unfold sortB; rw [List.map_map]; exact List.map_id' _
  have e2 : (sortB l).length = ((l.map bs).mergeSort (fun x y => decide (x ≤ y))).length := by rw [← e]; simp
  rw [e, e2]
  refine List.pairwise_map.2 ((comp_ris (sorted_le l)).imp fun {x y} h => ?_)
  show Op.bytesLess (ofB x).toList (ofB y).toList = true
  rw [bsl, bsl]
  exact h
theorem comp_sort_mem (l : List ByteArray) (x : ByteArray) : x ∈ compB (sortB l) ↔ x ∈ l := by
  unfold compB
  have e : (sortB l).map bs = (l.map bs).mergeSort (fun x y => decide (x ≤ y)) := by unfold sortB; rw [List.map_map]; exact List.map_id' _
  have e2 : (sortB l).length = ((l.map bs).mergeSort (fun x y => decide (x ≤ y))).length := by rw [← e]; simp
  rw [e, e2, List.mem_map]
  constructor
  · rintro ⟨y, hy, rfl⟩
    rw [comp_mem, (List.mergeSort_perm _ _).mem_iff, List.mem_map] at hy
    obtain ⟨s, hs, rfl⟩ := hy
    rw [of_bs]; exact hs
  · intro hx
    exact ⟨bs x, by rw [comp_mem, (List.mergeSort_perm _ _).mem_iff]; exact List.mem_map_of_mem hx, of_bs x⟩
end YtolekldjbbjmjaaGreatDoor
end Go.Proofs
