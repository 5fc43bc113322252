import Derived.Test.YtagjbphadakifaaDoorSimG
import Derived.Shelf.SlIter.Nil
import Derived.Shelf.SlIter.Keys
import Derived.Shelf.SlIter.Sorted
import Derived.Shelf.SortM.Plain
import Derived.Shelf.SortM.SortNone
import Derived.Shelf.Slices.CompactS
import Derived.Shelf.SlicesE.Clone
import Derived.Sort.OwnSorted
/- the library's Sort, Compact, Clone, Sorted(maps.Keys(..)) by their contracts, laid at this program. -/
set_option linter.unusedSimpArgs false
set_option linter.unusedVariables false
namespace Go.Proofs
open Go.Shelf Go.RowKit Go.Maps Go.Sort
def Tryd.keys35_ren : Go.Shelf.Ren := ⟨fun | 6 => 34 | 7 => 35 | 8 => 55 | 9 => 56 | 10 => 57 | 11 => 72 | 12 => 73 | 13 => 74 | 14 => 84 | 15 => 85 | 16 => 86 | 17 => 87 | 18 => 88 | 19 => 89 | 20 => 76 | 21 => 90 | 22 => 91 | 23 => 92 | 24 => 93 | 25 => 100 | 26 => 101 | 27 => 102 | 28 => 103 | 29 => 104 | 30 => 95 | 31 => 107 | n => n, fun | 0 => 0 | 3 => 71 | 4 => 4 | 22 => 69 | 23 => 69 | 24 => 48 | 25 => 73 | 26 => 9 | 27 => 74 | 28 => 75 | 29 => 76 | 32 => 94 | 33 => 95 | 34 => 103 | 35 => 104 | 36 => 105 | 37 => 106 | 38 => 114 | 39 => 115 | 40 => 116 | 41 => 117 | 42 => 118 | 43 => 107 | 44 => 119 | 45 => 98 | 46 => 120 | 47 => 121 | 48 => 122 | 49 => 123 | 50 => 124 | 51 => 129 | 52 => 130 | 53 => 131 | 54 => 132 | 55 => 133 | 56 => 134 | 57 => 142 | 58 => 143 | 59 => 144 | 60 => 67 | 66 => 150 | 69 => 153 | 70 => 92 | 75 => 100 | n => n, fun | n => n⟩
set_option maxRecDepth 100000 in
theorem Tryd.keys35 : Go.Proofs.SlLaysZ.n7 Tryd.prog Tryd.keys35_ren := {
  mixed := by kernel_rfl
  f7 := ⟨Tryd.f35.name, by kernel_rfl, Tryd.func35.trans (congrArg some (by kernel_rfl))⟩
  f10 := ⟨Tryd.f57.name, by kernel_rfl, Tryd.func57.trans (congrArg some (by kernel_rfl))⟩
  t0 := Tryd.underlying0
  a0 := Tryd.isAgg0
  z0 := Tryd.sizeOf0
  v0 := Tryd.zeroValue0
  t4 := Tryd.underlying4
  a4 := Tryd.isAgg4
  z4 := Tryd.sizeOf4
  v4 := Tryd.zeroValue4
  t23 := Tryd.underlying69
  a23 := Tryd.isAgg69
  z23 := Tryd.sizeOf69
  v23 := Tryd.zeroValue69
  t26 := Tryd.underlying9
  a26 := Tryd.isAgg9
  z26 := Tryd.sizeOf9
  v26 := Tryd.zeroValue9
  t27 := Tryd.underlying74
  a27 := Tryd.isAgg74
  z27 := Tryd.sizeOf74
  v27 := Tryd.zeroValue74
  t28 := Tryd.underlying75
  a28 := Tryd.isAgg75
  z28 := Tryd.sizeOf75
  v28 := Tryd.zeroValue75
  t33 := Tryd.underlying95
  a33 := Tryd.isAgg95
  z33 := Tryd.sizeOf95
  v33 := Tryd.zeroValue95 }
def Tryd.sorted34_ren : Go.Shelf.Ren := ⟨fun | 6 => 34 | 7 => 35 | 8 => 55 | 9 => 56 | 10 => 57 | 11 => 72 | 12 => 73 | 13 => 74 | 14 => 84 | 15 => 85 | 16 => 86 | 17 => 87 | 18 => 88 | 19 => 89 | 20 => 76 | 21 => 90 | 22 => 91 | 23 => 92 | 24 => 93 | 25 => 100 | 26 => 101 | 27 => 102 | 28 => 103 | 29 => 104 | 30 => 95 | 31 => 107 | n => n, fun | 0 => 0 | 22 => 69 | 23 => 69 | 24 => 48 | 25 => 73 | 26 => 9 | 27 => 74 | 28 => 75 | 29 => 76 | 32 => 94 | 33 => 95 | 34 => 103 | 35 => 104 | 36 => 105 | 37 => 106 | 38 => 114 | 39 => 115 | 40 => 116 | 41 => 117 | 42 => 118 | 43 => 107 | 44 => 119 | 45 => 98 | 46 => 120 | 47 => 121 | 48 => 122 | 49 => 123 | 50 => 124 | 51 => 129 | 52 => 130 | 53 => 131 | 54 => 132 | 55 => 133 | 56 => 134 | 57 => 142 | 58 => 143 | 59 => 144 | 60 => 67 | 66 => 150 | 69 => 153 | 70 => 92 | 75 => 100 | n => n, fun | n => n⟩
set_option maxRecDepth 100000 in
theorem Tryd.sorted34 : Go.Proofs.SlLaysZ.n6 Tryd.prog Tryd.sorted34_ren := {
  mixed := by kernel_rfl
  f6 := ⟨Tryd.f34.name, by kernel_rfl, Tryd.func34.trans (congrArg some (by kernel_rfl))⟩
  f8 := ⟨Tryd.f55.name, by kernel_rfl, Tryd.func55.trans (congrArg some (by kernel_rfl))⟩
  f11 := ⟨Tryd.f72.name, by kernel_rfl, Tryd.func72.trans (congrArg some (by kernel_rfl))⟩
  t0 := Tryd.underlying0
  a0 := Tryd.isAgg0
  z0 := Tryd.sizeOf0
  v0 := Tryd.zeroValue0
  t24 := Tryd.underlying48
  a24 := Tryd.isAgg48
  z24 := Tryd.sizeOf48
  v24 := Tryd.zeroValue48
  t26 := Tryd.underlying9
  a26 := Tryd.isAgg9
  z26 := Tryd.sizeOf9
  v26 := Tryd.zeroValue9
  t28 := Tryd.underlying75
  a28 := Tryd.isAgg75
  z28 := Tryd.sizeOf75
  v28 := Tryd.zeroValue75
  i26 := by kernel_rfl }
def Tryd.sort56_ren : Go.Shelf.Ren := ⟨fun | 6 => 56 | 8 => 74 | 9 => 73 | 19 => 92 | 20 => 93 | 21 => 84 | 22 => 85 | 23 => 86 | 24 => 87 | 25 => 88 | 26 => 89 | 27 => 76 | 28 => 90 | 29 => 91 | 31 => 101 | 32 => 102 | 36 => 100 | 37 => 103 | 38 => 104 | 39 => 95 | 41 => 107 | n => n, fun | 0 => 0 | 3 => 3 | 4 => 4 | 5 => 5 | 9 => 9 | 26 => 48 | 27 => 48 | 28 => 94 | 29 => 9 | 31 => 105 | 32 => 106 | 33 => 104 | 35 => 115 | 36 => 116 | 41 => 98 | 43 => 121 | 44 => 122 | 45 => 123 | 46 => 124 | 47 => 114 | 48 => 117 | 49 => 118 | 50 => 107 | 51 => 119 | 52 => 120 | 53 => 129 | 54 => 130 | 55 => 131 | 57 => 133 | 60 => 132 | 61 => 134 | 62 => 95 | 63 => 142 | 64 => 143 | 66 => 144 | 73 => 150 | 76 => 153 | 77 => 92 | 82 => 100 | n => n, fun | n => n⟩
set_option maxRecDepth 100000 in
theorem Tryd.sort56 : Go.Proofs.SlLaysM.n6 Tryd.prog Tryd.sort56_ren := {
  mixed := by kernel_rfl
  f6 := ⟨Tryd.f56.name, by kernel_rfl, Tryd.func56.trans (congrArg some (by kernel_rfl))⟩
  f8 := Tryd.func74.trans (congrArg some (by kernel_rfl))
  f9 := ⟨Tryd.f73.name, by kernel_rfl, Tryd.func73.trans (congrArg some (by kernel_rfl))⟩
  f19 := Tryd.func92.trans (congrArg some (by kernel_rfl))
  f20 := Tryd.func93.trans (congrArg some (by kernel_rfl))
  f21 := ⟨Tryd.f84.name, by kernel_rfl, Tryd.func84.trans (congrArg some (by kernel_rfl))⟩
  f22 := ⟨Tryd.f85.name, by kernel_rfl, Tryd.func85.trans (congrArg some (by kernel_rfl))⟩
  f23 := ⟨Tryd.f86.name, by kernel_rfl, Tryd.func86.trans (congrArg some (by kernel_rfl))⟩
  f24 := ⟨Tryd.f87.name, by kernel_rfl, Tryd.func87.trans (congrArg some (by kernel_rfl))⟩
  f25 := ⟨Tryd.f88.name, by kernel_rfl, Tryd.func88.trans (congrArg some (by kernel_rfl))⟩
  f26 := ⟨Tryd.f89.name, by kernel_rfl, Tryd.func89.trans (congrArg some (by kernel_rfl))⟩
  f27 := ⟨Tryd.f76.name, by kernel_rfl, Tryd.func76.trans (congrArg some (by kernel_rfl))⟩
  f28 := ⟨Tryd.f90.name, by kernel_rfl, Tryd.func90.trans (congrArg some (by kernel_rfl))⟩
  f29 := ⟨Tryd.f91.name, by kernel_rfl, Tryd.func91.trans (congrArg some (by kernel_rfl))⟩
  f31 := Tryd.func101.trans (congrArg some (by kernel_rfl))
  f32 := Tryd.func102.trans (congrArg some (by kernel_rfl))
  f36 := ⟨Tryd.f100.name, by kernel_rfl, Tryd.func100.trans (congrArg some (by kernel_rfl))⟩
  f37 := ⟨Tryd.f103.name, by kernel_rfl, Tryd.func103.trans (congrArg some (by kernel_rfl))⟩
  f38 := ⟨Tryd.f104.name, by kernel_rfl, Tryd.func104.trans (congrArg some (by kernel_rfl))⟩
  f39 := ⟨Tryd.f95.name, by kernel_rfl, Tryd.func95.trans (congrArg some (by kernel_rfl))⟩
  f41 := ⟨Tryd.f107.name, by kernel_rfl, Tryd.func107.trans (congrArg some (by kernel_rfl))⟩
  t0 := Tryd.underlying0
  a0 := Tryd.isAgg0
  z0 := Tryd.sizeOf0
  v0 := Tryd.zeroValue0
  t3 := Tryd.underlying3
  a3 := Tryd.isAgg3
  z3 := Tryd.sizeOf3
  v3 := Tryd.zeroValue3
  t4 := Tryd.underlying4
  a4 := Tryd.isAgg4
  z4 := Tryd.sizeOf4
  v4 := Tryd.zeroValue4
  t5 := Tryd.underlying5
  a5 := Tryd.isAgg5
  z5 := Tryd.sizeOf5
  v5 := Tryd.zeroValue5
  t9 := Tryd.underlying9
  a9 := Tryd.isAgg9
  z9 := Tryd.sizeOf9
  v9 := Tryd.zeroValue9
  t26 := Tryd.underlying48
  a26 := Tryd.isAgg48
  z26 := Tryd.sizeOf48
  v26 := Tryd.zeroValue48
  t27 := Tryd.underlying48
  a27 := Tryd.isAgg48
  z27 := Tryd.sizeOf48
  v27 := Tryd.zeroValue48
  t29 := Tryd.underlying9
  a29 := Tryd.isAgg9
  z29 := Tryd.sizeOf9
  v29 := Tryd.zeroValue9
  t32 := Tryd.underlying106
  a32 := Tryd.isAgg106
  z32 := Tryd.sizeOf106
  v32 := Tryd.zeroValue106
  t35 := Tryd.underlying115
  a35 := Tryd.isAgg115
  z35 := Tryd.sizeOf115
  v35 := Tryd.zeroValue115
  t36 := Tryd.underlying116
  a36 := Tryd.isAgg116
  z36 := Tryd.sizeOf116
  v36 := Tryd.zeroValue116
  t41 := Tryd.underlying98
  a41 := Tryd.isAgg98
  z41 := Tryd.sizeOf98
  v41 := Tryd.zeroValue98
  t44 := Tryd.underlying122
  a44 := Tryd.isAgg122
  z44 := Tryd.sizeOf122
  v44 := Tryd.zeroValue122
  t46 := Tryd.underlying124
  a46 := Tryd.isAgg124
  z46 := Tryd.sizeOf124
  v46 := Tryd.zeroValue124
  t53 := Tryd.underlying129
  a53 := Tryd.isAgg129
  z53 := Tryd.sizeOf129
  v53 := Tryd.zeroValue129
  t57 := Tryd.underlying133
  a57 := Tryd.isAgg133
  z57 := Tryd.sizeOf133
  v57 := Tryd.zeroValue133
  t63 := Tryd.underlying142
  a63 := Tryd.isAgg142
  z63 := Tryd.sizeOf142
  v63 := Tryd.zeroValue142
  t64 := Tryd.underlying143
  a64 := Tryd.isAgg143
  z64 := Tryd.sizeOf143
  v64 := Tryd.zeroValue143 }
def Tryd.clone70_ren : Go.Shelf.Ren := ⟨fun | 41 => 70 | 64 => 74 | 78 => 92 | 79 => 93 | 89 => 101 | 90 => 102 | n => n, fun | 4 => 4 | 22 => 48 | 23 => 9 | 44 => 98 | 51 => 106 | 57 => 105 | 60 => 115 | 61 => 116 | 66 => 121 | 67 => 122 | 68 => 123 | 69 => 124 | 75 => 129 | 76 => 130 | 77 => 131 | 79 => 133 | 83 => 142 | 84 => 143 | 87 => 67 | 93 => 150 | 96 => 153 | 97 => 92 | 102 => 100 | n => n, fun | n => n⟩
set_option maxRecDepth 100000 in
theorem Tryd.clone70 : Go.Proofs.SlLaysE0.n41 Tryd.prog Tryd.clone70_ren := {
  mixed := by kernel_rfl
  f41 := ⟨Tryd.f70.name, by kernel_rfl, Tryd.func70.trans (congrArg some (by kernel_rfl))⟩
  t4 := Tryd.underlying4
  a4 := Tryd.isAgg4
  z4 := Tryd.sizeOf4
  v4 := Tryd.zeroValue4
  t22 := Tryd.underlying48
  a22 := Tryd.isAgg48
  z22 := Tryd.sizeOf48
  v22 := Tryd.zeroValue48 }
def Tryd.lays194_ren : Go.Shelf.Ren := ⟨fun | 194 => 58 | n => n, fun | 0 => 0 | 3 => 3 | 4 => 4 | 9 => 9 | 31 => 48 | n => n, fun  | n => n⟩
set_option maxRecDepth 100000 in
theorem Tryd.lays194 : Go.Proofs.Lays.n194 Tryd.prog Tryd.lays194_ren := {
  mixed := by kernel_rfl
  f194 := Tryd.func58.trans (congrArg some (by kernel_rfl))
  t0 := Tryd.underlying0
  a0 := Tryd.isAgg0
  z0 := Tryd.sizeOf0
  v0 := Tryd.zeroValue0
  t3 := Tryd.underlying3
  a3 := Tryd.isAgg3
  z3 := Tryd.sizeOf3
  v3 := Tryd.zeroValue3
  t4 := Tryd.underlying4
  a4 := Tryd.isAgg4
  z4 := Tryd.sizeOf4
  v4 := Tryd.zeroValue4
  t9 := Tryd.underlying9
  a9 := Tryd.isAgg9
  z9 := Tryd.sizeOf9
  v9 := Tryd.zeroValue9
  t31 := Tryd.underlying48
  a31 := Tryd.isAgg48
  z31 := Tryd.sizeOf48
  v31 := Tryd.zeroValue48 }
theorem Tryd.sorts34 (m : Nat) : AnyZ.SortsIn Tryd.prog Tryd.sorted34_ren Fence.wide m :=
  ⟨fun blk off cap ss W hH hblk hsz => callsIn_wide.2 (AnyM.slices_Sort_string Tryd.sort56 blk off cap ss W hH hblk hsz),
   fun p cap W => callsIn_wide.2 (AnyM.slices_Sort_string_none Tryd.sort56 p cap W)⟩
theorem Tryd.maps_keys (b : Nat) (W : World) : Calls Tryd.prog 35 #[.map (some b)] W fun e w' => e = .returned (.func (.func 57) #[] #[.pointer (some ⟨W.heap.size, 0, none⟩)]) ∧ w' = W.alloc (.cells #[.map (some b)] 69) :=
  (callsIn_wide (n := 5)).1 (AnyZ.keys_in Tryd.keys35 Fence.wide 5 trivial rfl (some b) W)
set_option maxHeartbeats 1000000 in
theorem Tryd.sorted_keys {H : Type} (b nn : Nat) (D0 : DataW H) (R : Value → Option (DataW H × List MemPlace)) (w : World) (hown : w.ownsMap Tryd.prog 9 R b nn D0) (hmax : Maps.size D0 ≤ maxLen) (hbytes : Maps.size D0 * 16 ≤ 140737488355328) :
    Calls Tryd.prog 34 #[.func (.func 57) #[] #[.pointer (some ⟨w.heap.size, 0, none⟩)]] (w.alloc (.cells #[.map (some b)] 69)) fun e w' => ∃ (v : Value) (ss : List (List UInt8)), e = .returned v ∧ ss.Perm (strKeys D0) ∧
      w'.ownsRow (w.alloc (.cells #[.map (some b)] 69)).heap.size 9 1 v ss.length ((ss.mergeSort (fun x y => decide (x ≤ y))).map encStr) ∧ (v = .slice none 0 0 ↔ ss = []) ∧ Below (w.alloc (.cells #[.map (some b)] 69)).heap.size (w.alloc (.cells #[.map (some b)] 69)) w' := by
  have hbl := hown.lt
  have hseq : SeqGives Fence.wide 2 Tryd.prog 57 #[.pointer (some ⟨w.heap.size, 0, none⟩)] encStr (fun ss => ss.Perm (strKeys D0)) (Maps.size D0) (w.alloc (.cells #[.map (some b)] 69)) :=
    AnyZ.keys_gives (ρ := Tryd.keys35_ren) { Tryd.keys35 with } Fence.wide _ trivial rfl (by omega) w.heap.size b nn D0 _ (by simp) (by simp) (by
      obtain ⟨es, clock, hb, Ft, hs, hD⟩ := hown
      exact ⟨es, clock, (Below.heap_alloc _ _ b hbl).trans hb, Ft, hs, hD⟩)
  exact (callsIn_wide (n := 5)).1 (AnyZ.sorted_in Tryd.sorted34 Fence.wide 5 trivial trivial trivial trivial rfl (by omega) (Tryd.sorts34 _) (enters_of Tryd.func56 (by kernel_rfl) rfl) 57 #[.pointer (some ⟨w.heap.size, 0, none⟩)] trivial (enters_of Tryd.func57 (by kernel_rfl) rfl) _ _ hmax hbytes _ hseq)
namespace YtagjbphadakifaaDoor
open Go.Lib
abbrev bs (s : ByteArray) : List UInt8 := s.data.toList
abbrev ofB (x : List UInt8) : ByteArray := ⟨x.toArray⟩
theorem of_bs (s : ByteArray) : ofB (bs s) = s := by cases s; rfl
theorem enc_bs (l : List ByteArray) : (l.map bs).map encStr = l.map Value.string := by
  rw [List.map_map]
  refine List.map_congr_left fun s _ => ?_
  show encStr (bs s) = _
  cases s; rfl
theorem enc_of (l : List (List UInt8)) : (l.map ofB).map Value.string = l.map encStr := by
  rw [List.map_map]
  rfl
theorem own_xs {w : World} {base : Nat} {S : Nat → Prop} {v : Value} {l : List ByteArray} (h : OwnSt w base S v l) : w.ownsRow base 9 1 v l.length (l.map Value.string) := by
  obtain ⟨⟨xs, h1, h2⟩, _⟩ := h
  have hl : xs.length = l.length := by have := h1.1; omega
  have e : xs = l.map Value.string := by
    refine List.ext_getElem (by simpa using hl) fun j hj1 hj2 => ?_
    have hj : j < l.length := by omega
    have h3 : (xs.drop (j * 1)).take 1 = [Value.string l[j]] := h2 j hj
    rw [Nat.mul_one, List.drop_eq_getElem_cons hj1] at h3
    simp only [List.take_succ_cons, List.take_zero, List.cons.injEq, and_true] at h3
    rw [h3, List.getElem_map]
  rw [← e]; exact h1
def sortB (l : List ByteArray) : List ByteArray := ((l.map bs).mergeSort (fun x y => decide (x ≤ y))).map ofB
theorem sortB_len (l : List ByteArray) : (sortB l).length = l.length := by unfold sortB; simp
theorem sort_any (v : Value) (base : Nat) (l : List ByteArray) (w : World) (h : OwnSt w base (fun _ => False) v l) (hlen : l.length ≤ 2147483647) :
    Calls Tryd.prog 56 #[v] w (fun e w' => e = .returned (.tuple #[]) ∧ OwnSt w' base (fun _ => False) v (sortB l) ∧ w.grownBy w' v.ownBlock) := by
  have hx := own_xs h
  rcases hx.2 with ⟨rfl, h0⟩ | ⟨g, cap, cur, rfl, hbase, hb, h1, h2, h3, h4⟩
  · have hl : l = [] := List.length_eq_zero_iff.1 h0
    subst hl
    refine (AnyM.slices_Sort_string_none Tryd.sort56 none 0 w).mono ?_
    rintro e w' ⟨rfl, rfl⟩
    have e0 : sortB [] = [] := by simp [sortB]
    exact ⟨rfl, by rw [e0]; exact h, World.grownBy.refl _ _⟩
  · have hH : Holds encStr w g 0 (l.map bs).toArray := holds_of_block hb (by rw [enc_bs]; simpa using h4)
    have hg : g < w.heap.size := (Array.getElem?_eq_some_iff.1 hb).1
    have hc := AnyM.slices_Sort_string Tryd.sort56 g 0 cap (l.map bs) w hH hg (by simp; omega)
    rw [List.length_map] at hc
    refine hc.mono ?_
    rintro e w' ⟨rfl, n, os, rfl⟩
    have hlen2 : ((l.map bs).mergeSort (fun x y => decide (x ≤ y))).length = (l.map bs).length := by simp
    have hr := ownsRow_sorted (n := n) (os := os) hlen2 hbase hb (by simpa using h1) h2 h3
    rw [List.length_map] at hr
    refine ⟨rfl, own_strs ?_, grownBy_sorted _⟩
    rw [sortB_len]
    unfold sortB
    rw [enc_of]
    exact hr
def compB (l : List ByteArray) : List ByteArray := (compactUpTo (l.map bs).toArray l.length).map ofB
theorem comp_le {α : Type} [Inhabited α] [DecidableEq α] (d : Array α) (m : Nat) : (compactUpTo d m).length ≤ m := by
  unfold compactUpTo
  rw [List.length_map]
  exact Nat.le_trans (List.length_filter_le _ _) (by simp)
set_option maxRecDepth 100000 in
theorem compact_nil (c : Nat) (w : World) : Calls Tryd.prog 58 #[.slice none 0 c] w (fun e w' => e = .returned (.slice none 0 c) ∧ w' = w) := by
  go_enter Tryd.func58, Tryd.ntmps58
  go_wp2_with fail
  go_ret
  exact ⟨rfl, rfl⟩
theorem compact_any (v : Value) (base : Nat) (l : List ByteArray) (w : World) (h : OwnSt w base (fun _ => False) v l) (hsm : SmallS (compB l)) (hlen : l.length ≤ 2147483647) :
    Calls Tryd.prog 58 #[v] w (fun e w' => ∃ a c b o, e = .returned (.slice a (compB l).length c) ∧ Headed a (compB l).length c b o ∧ liesS w' (fun y => v.ownBlock = some y) (compB l) b o ∧ w.grownBy w' v.ownBlock) := by
  have hx := own_xs h
  rcases hx.2 with ⟨rfl, h0⟩ | ⟨g, cap, cur, rfl, hbase, hb, h1, h2, h3, h4⟩
  · have hl : l = [] := List.length_eq_zero_iff.1 h0
    subst hl
    refine (compact_nil 0 w).mono ?_
    rintro e w' ⟨rfl, rfl⟩
    exact ⟨none, 0, 0, 0, rfl, head_nilS, fun j hj => by simp [compB, compactUpTo] at hj, World.grownBy.refl _ _⟩
  · have hH : Holds encStr w g 0 (l.map bs).toArray := holds_of_block hb (by rw [enc_bs]; simpa using h4)
    have hg : g < w.heap.size := (Array.getElem?_eq_some_iff.1 hb).1
    have hc := Any.slices_Compact_string_arr Tryd.lays194 g 0 cap (l.map bs).toArray w hH (by simp; omega) (by simpa using h1)
    have hsz : (l.map bs).toArray.size = l.length := by simp
    rw [hsz] at hc
    refine hc.mono ?_
    rintro e w' ⟨rfl, q, rfl⟩
    have hcl := comp_le (l.map bs).toArray l.length
    have hcb : (compB l).length = (compactUpTo (l.map bs).toArray l.length).length := by unfold compB; simp
    have hgr := grownBy_sorted (w := w) (g := g) (n := q) (os := #[]) (compactUpTo (l.map bs).toArray l.length ++ List.replicate (l.length - (compactUpTo (l.map bs).toArray l.length).length) []).toArray
    have hgz : ∀ (W : World), grow W #[] = W := fun W => by simp [grow]
    rw [hgz] at hgr
    refine ⟨some ⟨g, 0, none⟩, cap, g, 0, by rw [hcb], ⟨by rw [hcb]; omega, h2, .inr rfl, fun h => by cases h⟩, fun j hj => ⟨rfl, hsm _ (List.getElem_mem hj), ?_⟩, hgr⟩
    have hb2 := heap_sorted (n := q) (os := #[]) (compactUpTo (l.map bs).toArray l.length ++ List.replicate (l.length - (compactUpTo (l.map bs).toArray l.length).length) []).toArray hb
    rw [hgz] at hb2
    have htk := take_putCells cur (compactUpTo (l.map bs).toArray l.length ++ List.replicate (l.length - (compactUpTo (l.map bs).toArray l.length).length) []) (by simp; omega)
    have hj2 : j < (compactUpTo (l.map bs).toArray l.length).length := by omega
    rw [cell_of_block hb2, Nat.zero_add, ← Array.getElem?_toList]
    have e1 := congrArg (fun x => x[j]?) htk
    (try simp only at e1)
    rw [List.getElem?_take_of_lt (by simp; omega)] at e1
    rw [e1, List.map_append, List.getElem?_append_left (by simpa using hj2), List.getElem?_map, List.getElem?_eq_getElem hj2]
    simp only [compB, List.getElem_map, Option.map_some]
/- plain: sorted, compacted -/
theorem le_less {x y : List UInt8} : x ≤ y ↔ Op.bytesLess y x = false := by
  rw [bytesLess_eq, decide_eq_false_iff_not, List.not_lt]
theorem lt_of_le {x y : List UInt8} (h : Op.bytesLess y x = false) (hne : x ≠ y) : Op.bytesLess x y = true := by
  have h1 := less_turn x y
  rw [h] at h1
  have h2 : (x == y) = false := by rw [beq_eq_false_iff_ne]; exact hne
  rw [h2, Bool.or_false] at h1
  exact h1
theorem le_lt {x y z : List UInt8} (h : Op.bytesLess y x = false) (h2 : Op.bytesLess y z = true) : Op.bytesLess x z = true := by
  by_cases e : x = y
  · rw [e]; exact h2
  · exact less_trans (lt_of_le h e) h2
theorem sorted_le (l : List ByteArray) : ((l.map bs).mergeSort (fun x y => decide (x ≤ y))).Pairwise (fun x y => Op.bytesLess y x = false) := by
  have tr : ∀ a b c : List UInt8, leB a b = true → leB b c = true → leB a c = true := fun a b c h1 h2 => by simp only [leB, decide_eq_true_eq] at *; exact List.le_trans h1 h2
  have tt : ∀ a b : List UInt8, (leB a b || leB b a) = true := fun a b => by simp only [leB, Bool.or_eq_true, decide_eq_true_eq]; exact List.le_total a b
  refine (List.pairwise_mergeSort tr tt (l.map bs)).imp fun h => ?_
  exact le_less.1 (by simpa [leB] using h)
theorem comp_ris {zs : List (List UInt8)} (hs : zs.Pairwise (fun x y => Op.bytesLess y x = false)) : (compactUpTo zs.toArray zs.length).Pairwise (fun x y => Op.bytesLess x y = true) := by
  have hle : ∀ i j, i ≤ j → j < zs.length → Op.bytesLess (zs.toArray[j]!) (zs.toArray[i]!) = false := fun i j hij hj => by
    rw [getElem!_pos zs.toArray j (by simpa using hj), getElem!_pos zs.toArray i (by simp; omega)]
    by_cases e : i = j
    · subst e; exact less_self _
    · simpa using List.pairwise_iff_getElem.1 hs i j (by omega) hj (by omega)
  unfold compactUpTo
  rw [List.pairwise_map]
  refine ((List.pairwise_lt_range (n := zs.length)).filter _).imp_of_mem fun {i j} hi hj hij => ?_
  rw [List.mem_filter, List.mem_range] at hi hj
  have hk := hj.2
  unfold keeps at hk
  rw [decide_eq_true_eq] at hk
  rcases hk with hk | hk
  · omega
  · exact le_lt (hle i (j - 1) (by omega) (by omega)) (lt_of_le (hle (j - 1) j (by omega) hj.1) (fun e => hk e.symm))
theorem comp_mem {zs : List (List UInt8)} (x : List UInt8) : x ∈ compactUpTo zs.toArray zs.length ↔ x ∈ zs := by
  unfold compactUpTo
  rw [List.mem_map]
  constructor
  · rintro ⟨j, hj, rfl⟩
    rw [List.mem_filter, List.mem_range] at hj
    rw [getElem!_pos zs.toArray j (by simpa using hj.1)]
    simp
  · intro hx
    obtain ⟨j, hj, rfl⟩ := List.mem_iff_getElem.1 hx
    induction j using Nat.strongRecOn with
    | ind j ih =>
      by_cases hk : keeps zs.toArray j = true
      · exact ⟨j, List.mem_filter.2 ⟨List.mem_range.2 hj, hk⟩, by rw [getElem!_pos zs.toArray j (by simpa using hj)]; simp⟩
      · unfold keeps at hk
        rw [decide_eq_true_eq] at hk
        have h0 : j ≠ 0 := fun e => hk (.inl e)
        have h1 : zs.toArray[j]! = zs.toArray[j - 1]! := Classical.byContradiction fun e => hk (.inr e)
        rw [getElem!_pos zs.toArray j (by simpa using hj), getElem!_pos zs.toArray (j - 1) (by simp; omega)] at h1
        obtain ⟨i, hi, e⟩ := ih (j - 1) (by omega) (by omega) (List.getElem_mem _)
        refine ⟨i, hi, ?_⟩
        rw [e]
        simpa using h1.symm
theorem bsl (s : ByteArray) : s.toList = bs s := by rw [ByteArray.toList_eq]
theorem comp_sort_ris (l : List ByteArray) : Ris (compB (sortB l)) := by
  unfold compB
  have e : (sortB l).map bs = (l.map bs).mergeSort (fun x y => decide (x ≤ y)) := by unfold sortB; rw [List.map_map]; exact List.map_id' _
  have e2 : (sortB l).length = ((l.map bs).mergeSort (fun x y => decide (x ≤ y))).length := by rw [← e]; simp
  rw [e, e2]
  refine List.pairwise_map.2 ((comp_ris (sorted_le l)).imp fun {x y} h => ?_)
  show Op.bytesLess (ofB x).toList (ofB y).toList = true
  rw [bsl, bsl]
  exact h
theorem comp_sort_mem (l : List ByteArray) (x : ByteArray) : x ∈ compB (sortB l) ↔ x ∈ l := by
  unfold compB
  have e : (sortB l).map bs = (l.map bs).mergeSort (fun x y => decide (x ≤ y)) := by unfold sortB; rw [List.map_map]; exact List.map_id' _
  have e2 : (sortB l).length = ((l.map bs).mergeSort (fun x y => decide (x ≤ y))).length := by rw [← e]; simp
  rw [e, e2, List.mem_map]
  constructor
  · rintro ⟨y, hy, rfl⟩
    rw [comp_mem, (List.mergeSort_perm _ _).mem_iff, List.mem_map] at hy
    obtain ⟨s, hs, rfl⟩ := hy
    rw [of_bs]; exact hs
  · intro hx
    exact ⟨bs x, by rw [comp_mem, (List.mergeSort_perm _ _).mem_iff]; exact List.mem_map_of_mem hx, of_bs x⟩
end YtagjbphadakifaaDoor
end Go.Proofs
