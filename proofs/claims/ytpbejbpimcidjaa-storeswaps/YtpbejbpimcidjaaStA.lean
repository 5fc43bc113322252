/- Package store: small functions. -/
import Derived.Shelf.Strconv.Clone
import Derived.Maps.OwnSet
import Derived.Maps.Own
import Derived.StringKeys
import Derived.WalkKit
import Derived.Below
import Derived.LoopN
import Derived.Deep.RegionHeld3
import Derived.ArgAppend
import Derived.Deep.DeepCutAuto
import Derived.BigQuiet
import Derived.Deep.QuietTactic
import Derived.Test.YtpbejbpimcidjaaProg
set_option linter.unusedSimpArgs false
set_option linter.unusedVariables false
namespace Go.Proofs
open Go.Shelf Go.RowKit
def Try.lays316_ren : Go.Shelf.Ren := ⟨fun | 316 => 36 | n => n, fun | 0 => 0 | 3 => 3 | 4 => 4 | 5 => 5 | 9 => 9 | 37 => 30 | 127 => 92 | n => n, fun  | n => n⟩
set_option maxRecDepth 100000 in
theorem Try.lays316 : Go.Proofs.LaysM.n316 Try.prog Try.lays316_ren := {
  mixed := by kernel_rfl
  f316 := Try.func36.trans (congrArg some (by kernel_rfl))
  t0 := Try.underlying0
  a0 := Try.isAgg0
  z0 := Try.sizeOf0
  v0 := Try.zeroValue0
  t3 := Try.underlying3
  a3 := Try.isAgg3
  z3 := Try.sizeOf3
  v3 := Try.zeroValue3
  t4 := Try.underlying4
  a4 := Try.isAgg4
  z4 := Try.sizeOf4
  v4 := Try.zeroValue4
  t9 := Try.underlying9
  a9 := Try.isAgg9
  z9 := Try.sizeOf9
  v9 := Try.zeroValue9
  t37 := Try.underlying30
  a37 := Try.isAgg30
  z37 := Try.sizeOf30
  v37 := Try.zeroValue30
  t127 := Try.underlying92
  a127 := Try.isAgg92
  z127 := Try.sizeOf92
  v127 := Try.zeroValue92
  t5 := Try.underlying5
  a5 := Try.isAgg5
  z5 := Try.sizeOf5
  v5 := Try.zeroValue5
  i0 := by kernel_rfl
  i3 := by kernel_rfl
  i4 := by kernel_rfl
  i5 := by kernel_rfl
  i9 := by kernel_rfl
  i37 := by kernel_rfl
  i127 := by kernel_rfl }
namespace Ytpbejbpimcidjaa
open Go Go.Lib

theorem hmk {p : Prop} (h : p) : Hid p := h
theorem cell_of_block {w : World} {b : Nat} {c : Array Value} {t : TypeId} {f : Nat × Nat} (h : w.heap[b]? = some (.cells c t f)) (i : Nat) : w.cell? ⟨b, i, none⟩ = c[i]? := by simp [World.cell?, h]
theorem frozen_of_block {w : World} {b : Nat} {c : Array Value} {t : TypeId} (h : w.heap[b]? = some (.cells c t (0, 0))) (i : Nat) : w.frozen? ⟨b, i, none⟩ = false := by simp [World.frozen?, h]
theorem alloc_size (w : World) (o : Obj) : (w.alloc o).heap.size = w.heap.size + 1 := by simp
theorem one_belowG (w : World) (o : Obj) : Below w.heap.size w (w.alloc o) := (Below.refl _ _).alloc (Nat.le_refl _) _
theorem grown_trans {a b c : World} {row : Option Nat} (h : a.grownBy b row) (k : b.grownBy c row) : a.grownBy c row :=
  ⟨k.os.trans h.os, k.tape.trans h.tape, k.output.trans h.output, Nat.le_trans h.size k.size, fun i hi hr => (k.block i (Nat.lt_of_lt_of_le hi h.size) hr).trans (h.block i hi hr)⟩
theorem grown_alloc {a b : World} {row : Option Nat} (h : a.grownBy b row) (o : Obj) : a.grownBy (b.alloc o) row := grown_trans h (World.grownBy_alloc _ _ _)
theorem grown_set {a b : World} {B : Nat} (h : a.grownBy b (some B)) (i : Nat) (u : Value) : a.grownBy (b.setCell ⟨B, i, none⟩ u) (some B) :=
  ⟨h.os, h.tape, h.output, by simpa [World.setCell] using (by have := h.size; exact this : a.heap.size ≤ b.heap.size), fun k hk hr => (Below.heap_setCell b ⟨B, i, none⟩ u k (fun e => hr (by rw [e]))).trans (h.block k hk hr)⟩
theorem grown_set1 (w : World) (B i : Nat) (u : Value) : w.grownBy (w.setCell ⟨B, i, none⟩ u) (some B) := grown_set (World.grownBy.refl w (some B)) i u
theorem size_set1 (w : World) (M i : Nat) (u : Value) : (w.setCell ⟨M, i, none⟩ u).heap.size = w.heap.size := by
  simp [World.setCell]
theorem set_other {w : World} {g o x : Nat} {u : Value} (h : x ≠ g) : (w.setCell ⟨g, o, none⟩ u).heap[x]? = w.heap[x]? := by
  by_cases hx : x < w.heap.size
  · exact (grown_set1 w g o u).block x hx (fun e => h (Option.some.inj e))
  · rw [Array.getElem?_eq_none (by rw [size_set1]; omega), Array.getElem?_eq_none (by omega)]
theorem set_block {w : World} {b : Nat} {c : Array Value} {t : TypeId} {f : Nat × Nat} (h : w.heap[b]? = some (.cells c t f)) (i : Nat) (u : Value) : (w.setCell ⟨b, i, none⟩ u).heap[b]? = some (.cells (c.setIfInBounds i u) t f) := by
  simp [World.setCell, Array.getElem?_modify, h]
def Blk (g ty n : Nat) (w : World) : Prop := ∃ arr, w.heap[g]? = some (.cells arr ty (0, 0)) ∧ arr.size = n
theorem Blk.cell {g ty n : Nat} {w : World} (h : Blk g ty n w) (i : Nat) (hi : i < n) : ∃ v, w.cell? ⟨g, i, none⟩ = some v := by
  obtain ⟨arr, h1, h2⟩ := h
  exact ⟨arr[i], by rw [cell_of_block h1]; simp [h2, hi]⟩
theorem Blk.frozen {g ty n : Nat} {w : World} (h : Blk g ty n w) (i : Nat) : w.frozen? ⟨g, i, none⟩ = false := by
  obtain ⟨arr, h1, h2⟩ := h
  exact frozen_of_block h1 i
theorem Blk.keep {g ty n : Nat} {w w' : World} (h : Blk g ty n w) (e : w'.heap[g]? = w.heap[g]?) : Blk g ty n w' := by
  obtain ⟨arr, h1, h2⟩ := h
  exact ⟨arr, e.trans h1, h2⟩
theorem Blk.set {g ty n : Nat} {w : World} (h : Blk g ty n w) (i : Nat) (u : Value) : Blk g ty n (w.setCell ⟨g, i, none⟩ u) := by
  obtain ⟨arr, e, hs⟩ := h
  exact ⟨arr.setIfInBounds i u, set_block e i u, by rw [Array.size_setIfInBounds]; exact hs⟩
theorem Blk.at_ {g ty n : Nat} {w : World} (h : Blk g ty n w) {i : Nat} (u : Value) (hi : i < n) : (w.setCell ⟨g, i, none⟩ u).cell? ⟨g, i, none⟩ = some u := by
  obtain ⟨v, hv⟩ := h.cell i hi
  exact World.cell?_setCell_same' w _ u (by rw [hv]; rfl)
theorem cell_set_off {w : World} {g i j : Nat} {u : Value} (h : j ≠ i) : (w.setCell ⟨g, i, none⟩ u).cell? ⟨g, j, none⟩ = w.cell? ⟨g, j, none⟩ :=
  World.cell?_setCell_other _ _ _ _ (fun e => h (Addr.mk.inj e).2.1.symm)
theorem cell_set_ne {W : World} {B b o i : Nat} (h : b ≠ B) (v : Value) : (W.setCell ⟨B, i, none⟩ v).cell? ⟨b, o, none⟩ = W.cell? ⟨b, o, none⟩ := World.cell?_setCell_far W ⟨B, i, none⟩ ⟨b, o, none⟩ v (fun e => h e.symm)
theorem set_os (w : World) (g i : Nat) (u : Value) : (w.setCell ⟨g, i, none⟩ u).os = w.os := (grown_set1 w g i u).os
theorem set_tape (w : World) (g i : Nat) (u : Value) : (w.setCell ⟨g, i, none⟩ u).tape = w.tape := (grown_set1 w g i u).tape
theorem set_output (w : World) (g i : Nat) (u : Value) : (w.setCell ⟨g, i, none⟩ u).output = w.output := (grown_set1 w g i u).output
/-- the blocks of F are as they were -/
structure Fr (F : Nat → Prop) (w0 w : World) : Prop where
  os : w.os = w0.os
  tape : w.tape = w0.tape
  output : w.output = w0.output
  size : w0.heap.size ≤ w.heap.size
  block : ∀ y, F y → w.heap[y]? = w0.heap[y]?
  lt : ∀ y, F y → y < w0.heap.size
theorem Fr.refl {F : Nat → Prop} {w : World} (h : ∀ y, F y → y < w.heap.size) : Fr F w w := ⟨rfl, rfl, rfl, Nat.le_refl _, fun _ _ => rfl, h⟩
theorem Fr.below {F : Nat → Prop} {w0 w w' : World} (h : Fr F w0 w) (b : Below w.heap.size w w') : Fr F w0 w' :=
  ⟨b.os.trans h.os, b.tape.trans h.tape, b.output.trans h.output, Nat.le_trans h.size b.size, fun y hy => (b.block y (Nat.lt_of_lt_of_le (h.lt y hy) h.size)).trans (h.block y hy), h.lt⟩
theorem Fr.grown {F : Nat → Prop} {w0 w w' : World} {g : Nat} (h : Fr F w0 w) (k : w.grownBy w' (some g)) (hg : ¬ F g) : Fr F w0 w' :=
  ⟨k.os.trans h.os, k.tape.trans h.tape, k.output.trans h.output, Nat.le_trans h.size k.size, fun y hy => (k.block y (Nat.lt_of_lt_of_le (h.lt y hy) h.size) (fun e => hg (Option.some.inj e ▸ hy))).trans (h.block y hy), h.lt⟩
theorem Fr.new {F : Nat → Prop} {w0 w : World} (h : Fr F w0 w) {y : Nat} (hy : w.heap.size ≤ y) : ¬ F y := fun e => by
  have h1 := h.lt y e
  have h2 := h.size
  omega
theorem Fr.trans {F G : Nat → Prop} {w0 w w' : World} (h : Fr F w0 w) (k : Fr G w w') (hs : ∀ y, F y → G y) : Fr F w0 w' :=
  ⟨k.os.trans h.os, k.tape.trans h.tape, k.output.trans h.output, Nat.le_trans h.size k.size, fun y hy => (k.block y (hs y hy)).trans (h.block y hy), h.lt⟩
theorem Fr.le {F G : Nat → Prop} {w0 w : World} (h : Fr F w0 w) (hs : ∀ y, G y → F y) : Fr G w0 w := ⟨h.os, h.tape, h.output, h.size, fun y hy => h.block y (hs y hy), fun y hy => h.lt y (hs y hy)⟩
/-- an object as it is read -/
def oL (l : List Value) : Option (DataW Unit × List MemPlace) := match l with
  | [.int .i64 a, .string s] => some (.agg [.lit (.int .i64 a), .lit (.string s.data.toList)], [])
  | _ => none
def oR (v : Value) : Option (DataW Unit × List MemPlace) := match v with
  | .agg c => oL c.toList
  | _ => none
theorem oR_mk (a : Int) (s : ByteArray) : oR (.agg #[.int .i64 a, .string s]) = some (.agg [.lit (.int .i64 a), .lit (.string s.data.toList)], []) := rfl
theorem oR_inv {v : Value} {a : Int} {l : List UInt8} {ps : List MemPlace} (h : oR v = some (.agg [.lit (.int .i64 a), .lit (.string l)], ps)) : ∃ s : ByteArray, v = .agg #[.int .i64 a, .string s] ∧ s.data.toList = l := by
  unfold oR at h
  split at h
  · rename_i c
    obtain ⟨c⟩ := c
    simp only at h
    unfold oL at h
    split at h
    · simp only [Option.some.injEq, Prod.mk.injEq, DataW.agg.injEq, List.cons.injEq, DataW.lit.injEq, Lit.int.injEq, Lit.string.injEq, and_true, true_and] at h
      obtain ⟨⟨rfl, h2⟩, _⟩ := h
      exact ⟨_, rfl, h2⟩
    · cases h
  · cases h
theorem law9 : Maps.Keyed Try.prog 9 := Maps.string_keyed Try.underlying9
theorem zero51 (w : World) : (zeroValue 51).run Try.prog w = .ok (.agg #[.int .i64 0, .string ⟨#[]⟩]) w := by kernel_rfl
/-- a key as it is read -/
abbrev kL (k : ByteArray) : Lit := .string k.data.toList
theorem key_of (k : ByteArray) (h : k.size ≤ maxLen) : keyOf Try.prog 9 (.string k) = some (kL k) := by
  simp only [keyOf, Try.underlying9, mapKey]
  simp [h]
theorem kl_inj {a b : ByteArray} (h : kL a = kL b) : a = b := by
  have h1 : a.data.toList = b.data.toList := Lit.string.inj h
  have h2 : a.data = b.data := Array.toList_inj.1 h1
  cases a; cases b; cases h2; rfl
theorem kl_key (k : ByteArray) : WideAt.IsKeyLit (kL k) := trivial
def dat (r : Int) (s : ByteArray) : DataW Unit := .agg [.lit (.int .i64 r), .lit (.string s.data.toList)]
/-- what a write of a kind makes of a state -/
def wr (D : DataW Unit) (kd : Int) (k : ByteArray) (r : Int) (d : ByteArray) : DataW Unit := if kd = 3 then D.del (kL k) else D.put (kL k) (dat r d)
theorem clone_any (s : ByteArray) (w : World) (hs : s.size ≤ 1000) : Calls Try.prog 31 #[.string s] w fun e w' => e = .returned (.string s) ∧ Below w.heap.size w w' := by
  have c := hmk (Any.stringslite_Clone Try.lays316 s w (by omega))
  go_enter Try.func31, Try.ntmps31
  go_wp2_with fail
  refine c.out.mono ?_
  rintro e w1 ⟨rfl, b1⟩
  go_wp2_with fail
  go_ret
  exact ⟨rfl, b1⟩
theorem within_any (z n : Int) (w : World) (hn : 0 < n) (hn2 : n ≤ 1000000) : Calls Try.prog 11 #[.int .i64 z, .int .i64 n] w fun e w' => (∃ q : Nat, (q : Int) < n ∧ e = .returned (.int .i64 (q : Int))) ∧ Below w.heap.size w w' := by
  have h := Int.tmod_lt_of_pos z hn
  have h2 := Int.lt_tmod_of_pos z hn
  have hn0 : ¬ n = 0 := by omega
  have hn1 : ¬ n = -1 := by omega
  go_enter Try.func11, Try.ntmps11
  go_wp2_with fail
  · go_ret
    exact ⟨⟨(z.tmod n + n).toNat, by omega, by rw [Int.toNat_of_nonneg (by omega)]; first | rfl | (congr 2; go_num)⟩, Below.refl _ _⟩
  · go_ret
    exact ⟨⟨(z.tmod n).toNat, by omega, by rw [Int.toNat_of_nonneg (by omega)]; first | rfl | (congr 2; go_num)⟩, Below.refl _ _⟩
theorem new_any (a : Int) (w : World) (h0 : 0 ≤ a) (h1 : a ≤ 9007199254740991) : Calls Try.prog 14 #[.int .i64 a] w fun e w' => e = .returned (.tuple #[.pointer (some ⟨w.heap.size, 0, none⟩), .int .i64 0]) ∧ w' = w.alloc (.cells #[.int .i64 a, .int .i64 a, .map none, .map none, .slice none 0 0] 57) := by
  have y0 : ¬ a < 0 := by omega
  have y1 : ¬ (9007199254740991 : Int) < a := by omega
  go_enter Try.func14, Try.ntmps14
  go_wp2_with fail
  go_ret2
  exact ⟨rfl, rfl⟩
theorem floor_any (S : Nat) (r f : Int) (mb mn pv : Value) (w : World) (h : w.heap[S]? = some (.cells #[.int .i64 r, .int .i64 f, mb, mn, pv] 57)) : Calls Try.prog 12 #[.pointer (some ⟨S, 0, none⟩)] w fun e w' => e = .returned (.int .i64 f) ∧ w' = w := by
  have c1 : w.cell? ⟨S, 1, none⟩ = some (.int .i64 f) := by rw [cell_of_block h]; rfl
  go_enter Try.func12, Try.ntmps12
  go_wp2_with fail
  go_ret
  exact ⟨rfl, rfl⟩
theorem rev_any (S : Nat) (r f : Int) (mb mn pv : Value) (w : World) (h : w.heap[S]? = some (.cells #[.int .i64 r, .int .i64 f, mb, mn, pv] 57)) : Calls Try.prog 13 #[.pointer (some ⟨S, 0, none⟩)] w fun e w' => e = .returned (.int .i64 r) ∧ w' = w := by
  have c1 : w.cell? ⟨S, 0, none⟩ = some (.int .i64 r) := by rw [cell_of_block h]; rfl
  go_enter Try.func13, Try.ntmps13
  go_wp2_with fail
  go_ret
  exact ⟨rfl, rfl⟩
theorem len_any (S : Nat) (r f : Int) (mb pv : Value) (bn n : Nat) (D : DataW Unit) (w : World) (h : w.heap[S]? = some (.cells #[.int .i64 r, .int .i64 f, mb, .map (some bn), pv] 57)) (hm : w.ownsMap Try.prog 9 oR bn n D) : Calls Try.prog 26 #[.pointer (some ⟨S, 0, none⟩)] w fun e w' => e = .returned (.int .i64 (Maps.size D)) ∧ w' = w := by
  have c1 : w.cell? ⟨S, 3, none⟩ = some (.map (some bn)) := by rw [cell_of_block h]; rfl
  have HM := hmk hm
  clear hm
  go_enter Try.func26, Try.ntmps26
  go_wp2_with (at_len; refine wpList_len_own _ rfl _ 54 rfl 9 51 Try.underlying54 _ bn n _ rfl HM.out ?_)
  go_ret
  exact ⟨rfl, rfl⟩
theorem check_any (S : Nat) (key : ByteArray) (a : Option Addr) (n c : Nat) (w : World) (h1 : 1 ≤ key.size) (h2 : key.size ≤ 129) (h3 : n ≤ 131072) : Calls Try.prog 15 #[.pointer (some ⟨S, 0, none⟩), .string key, .slice a n c] w fun e w' => e = .returned (.int .i64 0) ∧ w' = w := by
  have y1 : ¬ (key.size : Int) < 1 := by omega
  have y2 : ¬ (129 : Int) < key.size := by omega
  have y3 : ¬ (131072 : Int) < n := by omega
  go_enter Try.func15, Try.ntmps15
  go_wp2_with fail
  go_ret
  exact ⟨rfl, rfl⟩
end Ytpbejbpimcidjaa
end Go.Proofs
