/- joined: AneR CpyR ScaA -/
import Derived.Test.YtihcggepeadklaaGreatDoorG14
import Derived.Laws.MakeOwn
import Derived.Test.YtihcggepeadklaaGreatDoorG8
import Derived.Lib.ItoaLen
/- anewElem: an element in memory of its own, its scalars without their lists. -/
set_option linter.unusedSimpArgs false
set_option linter.unusedVariables false
namespace Go.Proofs.YtihcggepeadklaaGreatDoor
open Go.RowKit Go.Lib
/-- the element as it came, and the one that is answered -/
structure AnF (w : World) (ent : Array Value) (wr : World) : Prop where
  below : Below w.heap.size w wr
  b1 : wr.heap[w.heap.size]? = some (.cells ent 48 (0, 0))
  b2 : wr.heap[w.heap.size + 1]? = some (.cells #[.int .i64 0, .string ⟨#[]⟩, .slice none 0 0, .int .i64 0, .bool false, .int .i64 0, .string ⟨#[]⟩, .slice none 0 0, .slice none 0 0] 48 (0, 0))
theorem AnF.lt {w : World} {ent : Array Value} {wr : World} (h : AnF w ent wr) : w.heap.size + 2 ≤ wr.heap.size := (Array.getElem?_eq_some_iff.1 h.b2).1
theorem AnF.grown {w : World} {ent : Array Value} {wr wr' : World} (h : AnF w ent wr) {row : Option Nat} (g : wr.grownBy wr' row) (hr : ∀ r, row = some r → w.heap.size + 2 ≤ r) : AnF w ent wr' := by
  have hs := h.lt
  exact ⟨h.below.grown g (by omega) (fun r e => by have := hr r e; omega), (g.block _ (by omega) (fun e => by have := hr _ e.symm; omega)).trans h.b1, (g.block _ (by omega) (fun e => by have := hr _ e.symm; omega)).trans h.b2⟩
end Go.Proofs.YtihcggepeadklaaGreatDoor
/- checked.Copy: a path once more, in new memory. -/
namespace Go.Proofs.YtihcggepeadklaaGreatDoor
open Go.RowKit Go.Lib
def New (w w' : World) (x : Nat) : Prop := w.heap.size ≤ x ∧ x < w'.heap.size
/-- the rows that stand so far in the block g -/
def RowsE (l : List El) (j g : Nat) (w : World) : Prop := ∀ (i : Nat) (h : i < l.length), i < j → ∃ cs, rowAt w g (i * 9) cs ∧ cs.length = 9 ∧ (l[i]).lies w (fun x => g < x ∧ x < w.heap.size) cs
def Blk (g ty n : Nat) (w : World) : Prop := ∃ arr, w.heap[g]? = some (.cells arr ty (0, 0)) ∧ arr.size = n
theorem Blk.cell {g ty n : Nat} {w : World} (h : Blk g ty n w) (i : Nat) (hi : i < n) : ∃ v, w.cell? ⟨g, i, none⟩ = some v := by
  obtain ⟨arr, h1, h2⟩ := h
  exact ⟨arr[i], by rw [cell_of_block h1]; simp [h2, hi]⟩
theorem Blk.frozen {g ty n : Nat} {w : World} (h : Blk g ty n w) (i : Nat) : w.frozen? ⟨g, i, none⟩ = false := by
  obtain ⟨arr, h1, h2⟩ := h
  exact frozen_of_block h1 i
theorem Blk.keep {g ty n : Nat} {w w' : World} (h : Blk g ty n w) (e : w'.heap[g]? = w.heap[g]?) : Blk g ty n w' := by
  obtain ⟨arr, h1, h2⟩ := h
  exact ⟨arr, e.trans h1, h2⟩
theorem RowsE.below {l : List El} {j g : Nat} {w w' : World} (h : RowsE l j g w) (hg : g < w.heap.size) (hb : Below w.heap.size w w') : RowsE l j g w' := fun i hi hij => by
  obtain ⟨cs, r, hl, lies⟩ := h i hi hij
  exact ⟨cs, r.keep (hb.block g hg), hl, El.lies_keep (fun x hx => hb.block x hx.2) (fun x hx => ⟨hx.1, Nat.lt_of_lt_of_le hx.2 hb.size⟩) lies⟩
end Go.Proofs.YtihcggepeadklaaGreatDoor
/- A scalar's text: the program's and the document's. -/
namespace Go.Proofs.YtihcggepeadklaaGreatDoor
open Go.RowKit Go.Lib
def bolT (b : Bool) : List UInt8 := if b = true then [116, 114, 117, 101] else [102, 97, 108, 115, 101]
def scT (k : Int) (b : Bool) (i : Int) (s : ByteArray) : List UInt8 := if k = 1 then bolT b else if k = 2 then itoa i else Q.qt s.data.toList
theorem qt_lenO (s : ByteArray) : (Q.qt s.data.toList).length ≤ 2 + 6 * s.size := by
  have h := Q.sz_le s.data.toList
  have hl : s.data.toList.length = s.size := by simp
  rw [Q.qt_length]; omega
theorem scT_len {k : Int} {b : Bool} {i : Int} {s : ByteArray} (hi : In64 i) : (scT k b i s).length ≤ 30 + 6 * s.size := by
  rw [scT]
  split
  · rw [bolT]; split <;> simp <;> omega
  split
  · have := itoa_length_le i hi.1 hi.2; omega
  · have := qt_lenO s; omega
theorem fbool_any (b : Bool) (w : World) : Calls Tryz.prog 64 #[.bool b] w fun e w' => e = .returned (.string ⟨(bolT b).toArray⟩) ∧ w' = w := by
  have C : Calls Tryz.prog 103 #[.bool b] w fun e w' => e = .returned (.string ⟨(bolT b).toArray⟩) ∧ w' = w := by
    cases b
    · go_enter Tryz.func103, Tryz.ntmps103
      go_wp2
      go_ret
      exact ⟨rfl, rfl⟩
    · go_enter Tryz.func103, Tryz.ntmps103
      go_wp2
      go_ret
      exact ⟨rfl, rfl⟩
  have HC := hmkN C
  generalize (⟨(bolT b).toArray⟩ : ByteArray) = T at *
  clear C
  go_enter Tryz.func64, Tryz.ntmps64
  go_wp2_with fail
  refine HC.out.mono ?_
  rintro e w' ⟨rfl, rfl⟩
  go_wp2_with fail
  go_ret
  exact ⟨rfl, rfl⟩
set_option maxRecDepth 100000 in
set_option maxHeartbeats 2000000 in
theorem sctext_any (k : Int) (b : Bool) (i : Int) (s : ByteArray) (al : Option Addr) (nl cl : Nat) (am : Option Addr) (nm cm : Nat) (w : World) (t : Td w) (hk : k = 1 ∨ k = 2 ∨ k = 3) (hi : In64 i) (hs : s.size ≤ 2147483648) (hV : validD s.data.toList = true) :
    Calls Tryz.prog 40 #[.agg #[.int .i64 k, .bool b, .int .i64 i, .string s, .slice al nl cl, .slice am nm cm]] w (SPost (scT k b i s) w) := by
  have nb := heap_alloc_new w (.cells #[.int .i64 k, .bool b, .int .i64 i, .string s, .slice al nl cl, .slice am nm cm] 46)
  have hza := alloc_size w (.cells #[.int .i64 k, .bool b, .int .i64 i, .string s, .slice al nl cl, .slice am nm cm] 46)
  have bA : Below w.heap.size w (w.alloc (.cells #[.int .i64 k, .bool b, .int .i64 i, .string s, .slice al nl cl, .slice am nm cm] 46)) := (Below.refl _ w).alloc (Nat.le_refl _) _
  have n0 : (w.alloc (.cells #[.int .i64 k, .bool b, .int .i64 i, .string s, .slice al nl cl, .slice am nm cm] 46)).cell? ⟨w.heap.size, 0, none⟩ = some (.int .i64 k) := by rw [cell_of_block nb]; rfl
  have n1 : (w.alloc (.cells #[.int .i64 k, .bool b, .int .i64 i, .string s, .slice al nl cl, .slice am nm cm] 46)).cell? ⟨w.heap.size, 1, none⟩ = some (.bool b) := by rw [cell_of_block nb]; rfl
  have n2 : (w.alloc (.cells #[.int .i64 k, .bool b, .int .i64 i, .string s, .slice al nl cl, .slice am nm cm] 46)).cell? ⟨w.heap.size, 2, none⟩ = some (.int .i64 i) := by rw [cell_of_block nb]; rfl
  have n3 : (w.alloc (.cells #[.int .i64 k, .bool b, .int .i64 i, .string s, .slice al nl cl, .slice am nm cm] 46)).cell? ⟨w.heap.size, 3, none⟩ = some (.string s) := by rw [cell_of_block nb]; rfl
  have tA : Td (w.alloc (.cells #[.int .i64 k, .bool b, .int .i64 i, .string s, .slice al nl cl, .slice am nm cm] 46)) := t.below bA t.z bA.size
  clear nb
  by_cases k1 : k = 1
  · have HC := hmkN (fbool_any b (w.alloc (.cells #[.int .i64 k, .bool b, .int .i64 i, .string s, .slice al nl cl, .slice am nm cm] 46)))
    have HT : Hid (scT k b i s = bolT b) := hmkN (by rw [scT, if_pos k1])
    rw [HT.out]
    subst k1
    generalize bolT b = T at *
    clear hk tA t HT
    go_enter Tryz.func40, Tryz.ntmps40
    go_wp2_with fail
    refine HC.out.mono ?_
    rintro e w' ⟨rfl, rfl⟩
    go_wp2_with fail
    go_ret
    exact ⟨rfl, bA⟩
  by_cases k2 : k = 2
  · have HC := hmkN (itoa_any i hi (w.alloc (.cells #[.int .i64 k, .bool b, .int .i64 i, .string s, .slice al nl cl, .slice am nm cm] 46)) tA.p)
    have HT : Hid (scT k b i s = itoa i) := hmkN (by rw [scT, if_neg k1, if_pos k2])
    rw [HT.out]
    subst k2
    generalize itoa i = T at *
    clear hk tA t HT k1
    go_enter Tryz.func40, Tryz.ntmps40
    go_wp2_with fail
    refine HC.out.mono ?_
    rintro e w' ⟨rfl, hb⟩
    go_wp2_with fail
    go_ret
    exact ⟨rfl, bA.trans (hb.mono (by omega))⟩
  · have k3 : k = 3 := by omega
    have HC := hmkN (quoted_any s (w.alloc (.cells #[.int .i64 k, .bool b, .int .i64 i, .string s, .slice al nl cl, .slice am nm cm] 46)) hs tA.u tA.l tA.z hV)
    subst k3
    have HT : Hid (scT 3 b i s = Q.qt s.data.toList) := hmkN (by rw [scT, if_neg (by omega), if_neg (by omega)])
    rw [HT.out]
    generalize Q.qt s.data.toList = T at *
    clear hk tA t HT k1 k2
    go_enter Tryz.func40, Tryz.ntmps40
    go_wp2_with fail
    refine HC.out.mono ?_
    rintro e w' ⟨rfl, hb⟩
    go_wp2_with fail
    go_ret
    exact ⟨rfl, bA.trans (hb.mono (by omega))⟩
end Go.Proofs.YtihcggepeadklaaGreatDoor
