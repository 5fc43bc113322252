/- joined: TwinB ShlV ChkA QSub ChkB TrmA TrmC -/
import Derived.Test.YtolekldjbbjmjaaGreatDoorG1
import Derived.Deep.QuietTactic
import Derived.BigQuiet
import Derived.Shelf.Unicode.ValidAny
import Derived.Deep.RegionWith
import Derived.Laws.Cover1
/- twin: the walk. -/
set_option linter.unusedSimpArgs false
set_option linter.unusedVariables false
namespace Go.Proofs.YtolekldjbbjmjaaGreatDoor
open Go.RowKit
theorem cell_of_block {w : World} {b : Nat} {c : Array Value} {t : TypeId} {f : Nat × Nat} (h : w.heap[b]? = some (.cells c t f)) (i : Nat) : w.cell? ⟨b, i, none⟩ = c[i]? := by simp [World.cell?, h]
theorem frozen_of_block {w : World} {b : Nat} {c : Array Value} {t : TypeId} (h : w.heap[b]? = some (.cells c t (0, 0))) (i : Nat) : w.frozen? ⟨b, i, none⟩ = false := by simp [World.frozen?, h]
/-- the three blocks of the call: the argument, the answer, the value that is made -/
structure TwF (w : World) (box loc : Array Value) (wr : World) : Prop where
  below : Below w.heap.size w wr
  b0 : wr.heap[w.heap.size]? = some (.cells box 51 (0, 0))
  b1 : wr.heap[w.heap.size + 1]? = some (.cells #[.int .i64 0, .bool false, .int .i64 0, .string ⟨#[]⟩, .slice none 0 0, .slice none 0 0] 51 (0, 0))
  b2 : wr.heap[w.heap.size + 1 + 1]? = some (.cells loc 51 (0, 0))
theorem TwF.lt {w : World} {box loc : Array Value} {wr : World} (h : TwF w box loc wr) : w.heap.size + 3 ≤ wr.heap.size := (Array.getElem?_eq_some_iff.1 h.b2).1
theorem TwF.grown {w : World} {box loc : Array Value} {wr wr' : World} (h : TwF w box loc wr) {row : Option Nat} (g : wr.grownBy wr' row) (hr : ∀ r, row = some r → w.heap.size + 3 ≤ r) : TwF w box loc wr' := by
  have hs := h.lt
  have hn : ∀ q, q < w.heap.size + 3 → some q ≠ row := fun q hq e => by have := hr q e.symm; omega
  exact ⟨h.below.grown g (by omega) (fun r e => by have := hr r e; omega), (g.block _ (by omega) (hn _ (by omega))).trans h.b0, (g.block _ (by omega) (hn _ (by omega))).trans h.b1, (g.block _ (by omega) (hn _ (by omega))).trans h.b2⟩
theorem alloc_size (w : World) (o : Obj) : (w.alloc o).heap.size = w.heap.size + 1 := by simp
theorem grown_drew (w : World) (row : Option Nat) : w.grownBy w.drew row := ⟨rfl, rfl, rfl, Nat.le_refl _, fun _ _ _ => rfl⟩
theorem OwnR.drew {α : Type} {E : α → World → (Nat → Prop) → List Value → Prop} {ty sz : Nat} (K : KeepE E) {w : World} {base : Nat} {S : Nat → Prop} {v : Value} {l : List α} (h : OwnR E ty sz w base S v l) : OwnR E ty sz w.drew base S v l :=
  h.keep K (grown_drew w none) (fun r e => by cases e)
theorem results_cell1 {fn : Func} {p : Tmp} {ty : TypeId} (h : fn.results = #[.cell p ty]) (tmps : Array Value) (P : Program) (w : World) :
    (results fn tmps).run P w = ((asAddr (tmps.getD p undef)).run P w).andThen fun a w₁ => (loadVar ty a).run P w₁ := by
  simp only [results, h]
  simp [Sem.run_bind, Result.andThen]
end Go.Proofs.YtolekldjbbjmjaaGreatDoor
/- utf8.ValidString by its contract, laid at this program. -/
namespace Go.Proofs
open Go.Shelf Go.RowKit
def Tryz.lays196_ren : Go.Shelf.Ren := ⟨fun | 196 => 110 | 259 => 127 | n => n, fun | 0 => 0 | 3 => 3 | 4 => 4 | 5 => 5 | 9 => 9 | 12 => 12 | 46 => 111 | 53 => 135 | 119 => 168 | 138 => 170 | 139 => 171 | n => n, fun | 3 => 0 | 4 => 1 | n => n⟩
theorem Tryz.lays196 : Go.Proofs.Lays.n196 Tryz.prog Tryz.lays196_ren := {
  mixed := by kernel_rfl
  f196 := Tryz.func110.trans (congrArg some (by kernel_rfl))
  f259 := Tryz.func127.trans (congrArg some (by kernel_rfl))
  t0 := Tryz.underlying0
  a0 := Tryz.isAgg0
  z0 := Tryz.sizeOf0
  v0 := Tryz.zeroValue0
  t3 := Tryz.underlying3
  a3 := Tryz.isAgg3
  z3 := Tryz.sizeOf3
  v3 := Tryz.zeroValue3
  t4 := Tryz.underlying4
  a4 := Tryz.isAgg4
  z4 := Tryz.sizeOf4
  v4 := Tryz.zeroValue4
  t5 := Tryz.underlying5
  a5 := Tryz.isAgg5
  z5 := Tryz.sizeOf5
  v5 := Tryz.zeroValue5
  t9 := Tryz.underlying9
  a9 := Tryz.isAgg9
  z9 := Tryz.sizeOf9
  v9 := Tryz.zeroValue9
  t12 := Tryz.underlying12
  a12 := Tryz.isAgg12
  z12 := Tryz.sizeOf12
  v12 := Tryz.zeroValue12
  t46 := Tryz.underlying111
  a46 := Tryz.isAgg111
  z46 := Tryz.sizeOf111
  v46 := Tryz.zeroValue111
  t53 := Tryz.underlying135
  a53 := Tryz.isAgg135
  z53 := Tryz.sizeOf135
  v53 := Tryz.zeroValue135
  t119 := Tryz.underlying168
  a119 := Tryz.isAgg168
  z119 := Tryz.sizeOf168
  t138 := Tryz.underlying170
  a138 := Tryz.isAgg170
  z138 := Tryz.sizeOf170
  v138 := Tryz.zeroValue170
  t139 := Tryz.underlying171
  a139 := Tryz.isAgg171
  z139 := Tryz.sizeOf171
  v139 := Tryz.zeroValue171
  g3 := by kernel_rfl
  g4 := by kernel_rfl }
namespace YtolekldjbbjmjaaGreatDoor
open Go.Lib
theorem validString_any (s : ByteArray) (w : World) (hs : s.size ≤ 281474976710656) (hU : Utf8Tabs 0 1 w) :
    Calls Tryz.prog 110 #[.string s] w fun e w' => e = .returned (.bool (validD s.data.toList)) ∧ Below w.heap.size w w' :=
  Any.utf8_ValidString Tryz.lays196 s w (by omega) hU
end YtolekldjbbjmjaaGreatDoor
end Go.Proofs
/- value.plain, value.rising. -/
namespace Go.Proofs.YtolekldjbbjmjaaGreatDoor
open Go.RowKit Go.Lib
theorem utab_grown {w w' : World} {row : Option Nat} (h : Utf8Tabs 0 1 w) (hb : w.grownBy w' row) (h2 : 1 < w.heap.size) (hr : ∀ r, row = some r → 1 < r) : Utf8Tabs 0 1 w' := by
  have hn : ∀ q, q ≤ 1 → some q ≠ row := fun q hq e => by have := hr q e.symm; omega
  have k1 := hb.block 0 (by omega) (hn 0 (by omega))
  have k2 := hb.block 1 (by omega) (hn 1 (by omega))
  exact ⟨fun c hc => (World.cell?_of_block (w := w) (a := ⟨0, c, none⟩) k1).trans (h.1 c hc), fun i hi => ⟨(World.cell?_of_block (w := w) (a := ⟨1, 2 * i, none⟩) k2).trans (h.2 i hi).1, (World.cell?_of_block (w := w) (a := ⟨1, 2 * i + 1, none⟩) k2).trans (h.2 i hi).2⟩⟩
/-- what the calls read beside their arguments -/
structure Tb (w : World) : Prop where
  u : Utf8Tabs 0 1 w
  z : 1 < w.heap.size
theorem Tb.grown {w w' : World} {row : Option Nat} (h : Tb w) (hb : w.grownBy w' row) (hr : ∀ r, row = some r → 1 < r) : Tb w' := ⟨utab_grown h.u hb h.z hr, Nat.lt_of_lt_of_le h.z hb.size⟩
theorem Tb.below {w w' : World} {B : Nat} (h : Tb w) (hb : Below B w w') (hB : 1 < B) : Tb w' := by
  refine ⟨?_, Nat.lt_of_lt_of_le h.z hb.size⟩
  exact ⟨fun c hc => (hb.cell (p := ⟨0, c, none⟩) (by show 0 < B; omega)).trans (h.u.1 c hc), fun i hi => ⟨(hb.cell (p := ⟨1, 2 * i, none⟩) hB).trans (h.u.2 i hi).1, (hb.cell (p := ⟨1, 2 * i + 1, none⟩) hB).trans (h.u.2 i hi).2⟩⟩
def BPost (r : Bool) (w : World) (e : Ending) (w' : World) : Prop := e = .returned (.bool r) ∧ Below w.heap.size w w'
end Go.Proofs.YtolekldjbbjmjaaGreatDoor
/- Regions that draw their order, whose operations only read and whose callees only make memory: one walk. -/
namespace Go.Proofs.YtolekldjbbjmjaaGreatDoor
open Go.RowKit
/-- a world in which all that lay below N lies as it did -/
structure Sub (N : Nat) (w0 : World) where
  w : World
  b : Below N w0 w
instance subThere (N : Nat) (w0 : World) : Inhabited (Sub N w0) := ⟨⟨w0, Below.refl N w0⟩⟩
theorem wp_region_sub {P : Program} (N : Nat) {id : Nat} {Q : Exit → Act → World → Prop} {a : Act} {w : World} {l : List Oper} (hm : P.follows .mixedOrders = true) (hB : Region.lexB .any l.toArray = true)
    (h : wpQuiet P l.toArray (fun w' => ∃ x : Sub N w, w' = x.w) (fun a' => ∀ w', (∃ x : Sub N w, w' = x.w) → Q .normal a' w') l a) : (Code.region id l.toArray true).wp P Q a w :=
  wp_region_quiet (C := fun w' => ∃ x : Sub N w, w' = x.w) hm hB ⟨⟨w.drew, (Below.refl N w).drew⟩, rfl⟩ (by simpa using h)
theorem sub_call {P : Program} {f : FuncId} {args : Array Value} {N : Nat} {w0 : World} {v : Value} (h : ∀ w', Below N w0 w' → Calls P f args w' fun e w'' => e = .returned v ∧ Below N w0 w'') (x : Sub N w0) :
    Calls P f args x.w fun e w'' => e = .returned v ∧ ∃ y : Sub N w0, w'' = y.w :=
  (h x.w x.b).mono fun e w'' ⟨he, hb⟩ => ⟨he, ⟨w'', hb⟩, rfl⟩
theorem sub_cell {N : Nat} {w0 : World} {b o : Nat} {v : Value} (h : w0.cell? ⟨b, o, none⟩ = some v) (hb : b < N) (x : Sub N w0) : x.w.cell? ⟨b, o, none⟩ = some v :=
  (x.b.cell (p := ⟨b, o, none⟩) hb).trans h
end Go.Proofs.YtolekldjbbjmjaaGreatDoor
/- value.rising. -/
namespace Go.Proofs.YtolekldjbbjmjaaGreatDoor
open Go.RowKit Go.Lib
def utfB (s : ByteArray) : Bool := validD s.data.toList
def ltB (a b : ByteArray) : Bool := Op.bytesLess a.toList b.toList
end Go.Proofs.YtolekldjbbjmjaaGreatDoor
/- Terms: how they lie in memory. -/
namespace Go.Proofs.YtolekldjbbjmjaaGreatDoor
open Go.RowKit
theorem hmk {p : Prop} (h : p) : Hid p := h
abbrev Trm := ByteArray × Int × List ByteArray
abbrev roomS : ByteArray := ⟨#[114, 111, 111, 109]⟩
/-- strings lie in a row -/
def liesS (w : World) (S : Nat → Prop) (l : List ByteArray) (b o : Nat) : Prop := ∀ j (h : j < l.length), S b ∧ (l[j]).size ≤ 140737488355328 ∧ w.cell? ⟨b, o + j, none⟩ = some (.string l[j])
theorem liesS.keep {w w' : World} {S S' : Nat → Prop} {l : List ByteArray} {b o : Nat} (h : liesS w S l b o) (hw : ∀ b, S b → w'.heap[b]? = w.heap[b]?) (hS : ∀ b, S b → S' b) : liesS w' S' l b o := fun j hj => by
  obtain ⟨h1, h2, h3⟩ := h j hj
  exact ⟨hS _ h1, h2, (World.cell?_of_block (w := w) (a := ⟨b, o + j, none⟩) (hw _ h1)).trans h3⟩
/-- the term lies in these three cells; R: seventy marks behind its values -/
def Trm.lies (R : Bool) (w : World) (S : Nat → Prop) (t : Trm) (cs : List Value) : Prop := ∃ a c b o, cs = [.string t.1, .int .i64 t.2.1, .slice a t.2.2.length c] ∧ In64 t.2.1 ∧ t.1.size ≤ 140737488355328 ∧ Headed a t.2.2.length c b o ∧ liesS w S t.2.2 b o ∧
  (R = true → a = some ⟨b, o, none⟩ ∧ t.2.2.length + 70 ≤ c ∧ S b ∧ ∀ k, k < 70 → w.cell? ⟨b, o + (t.2.2.length + k), none⟩ = some (.string roomS))
theorem Trm.lies_keep {R R' : Bool} (hR : R' = true → R = true) {w w' : World} {S S' : Nat → Prop} {t : Trm} {cs : List Value} (h : Trm.lies R w S t cs) (hw : ∀ b, S b → w'.heap[b]? = w.heap[b]?) (hS : ∀ b, S b → S' b) : Trm.lies R' w' S' t cs := by
  obtain ⟨a, c, b, o, e, h1, h2, h3, h4, h5⟩ := h
  refine ⟨a, c, b, o, e, h1, h2, h3, h4.keep hw hS, fun hr => ?_⟩
  obtain ⟨q1, q2, q3, q4⟩ := h5 (hR hr)
  exact ⟨q1, q2, hS _ q3, fun k hk => (World.cell?_of_block (w := w) (a := ⟨b, o + (t.2.2.length + k), none⟩) (hw _ q3)).trans (q4 k hk)⟩
def liesT (R : Bool) (w : World) (S : Nat → Prop) (l : List Trm) (b o : Nat) : Prop := ∀ j (h : j < l.length), S b ∧ ∃ cs, rowAt w b (o + j * 3) cs ∧ Trm.lies R w S l[j] cs
theorem liesT.keep {R R' : Bool} (hR : R' = true → R = true) {w w' : World} {S S' : Nat → Prop} {l : List Trm} {b o : Nat} (h : liesT R w S l b o) (hw : ∀ b, S b → w'.heap[b]? = w.heap[b]?) (hS : ∀ b, S b → S' b) : liesT R' w' S' l b o := fun j hj => by
  obtain ⟨h1, cs, h2, h3⟩ := h j hj
  exact ⟨hS _ h1, cs, h2.keep (hw _ h1), Trm.lies_keep hR h3 hw hS⟩
theorem row3 {w : World} {b o : Nat} {c c0 c1 : Value} (h : rowAt w b o [c, c0, c1]) : w.cell? ⟨b, o, none⟩ = some c ∧ w.cell? ⟨b, o + 1, none⟩ = some c0 ∧ w.cell? ⟨b, o + 2, none⟩ = some c1 := ⟨h 0 _ rfl, h 1 _ rfl, h 2 _ rfl⟩
def wtS : List ByteArray → Nat
  | [] => 0
  | s :: t => 1 + s.size + wtS t
def wtT : List Trm → Nat
  | [] => 0
  | x :: t => 1 + x.1.size + wtS x.2.2 + wtT t
theorem wtS_len : ∀ l : List ByteArray, l.length ≤ wtS l
  | [] => Nat.le_refl _
  | s :: t => by have := wtS_len t; simp only [List.length_cons, wtS]; omega
theorem wtT_len : ∀ l : List Trm, l.length ≤ wtT l
  | [] => Nat.le_refl _
  | x :: t => by have := wtT_len t; simp only [List.length_cons, wtT]; omega
theorem wtT_mem : ∀ {l : List Trm} {x : Trm}, x ∈ l → 1 + x.1.size + wtS x.2.2 ≤ wtT l
  | y :: t, x, h => by
    rcases List.mem_cons.1 h with rfl | h
    · simp only [wtT]; omega
    · have := wtT_mem h; simp only [wtT]; omega
theorem wtT_take {l : List Trm} {j : Nat} (h : j < l.length) : wtT (l.take (j + 1)) = wtT (l.take j) + (1 + (l[j]).1.size + wtS (l[j]).2.2) := by
  induction l generalizing j with
  | nil => simp at h
  | cons x t ih =>
    cases j with
    | zero => simp [wtT]
    | succ j =>
      simp only [List.take_succ_cons, wtT, List.getElem_cons_succ]
      rw [ih (by simpa using h)]
      omega
end Go.Proofs.YtolekldjbbjmjaaGreatDoor
/- textsSame, same: of the same. -/
namespace Go.Proofs.YtolekldjbbjmjaaGreatDoor
open Go.RowKit
set_option maxHeartbeats 8000000 in
set_option maxRecDepth 100000 in
theorem textsame_any (l : List ByteArray) (S1 S2 : Nat → Prop) (a1 a2 : Option Addr) (c1 c2 b1 b2 o1 o2 : Nat) (w : World) (h1 : Headed a1 l.length c1 b1 o1) (h2 : Headed a2 l.length c2 b2 o2) (l1 : liesS w S1 l b1 o1) (l2 : liesS w S2 l b2 o2) (hS1 : ∀ b, S1 b → b < w.heap.size) (hS2 : ∀ b, S2 b → b < w.heap.size) :
    Calls Tryz.prog 34 #[.slice a1 l.length c1, .slice a2 l.length c2] w (BPost true w) := by
  have H1 := hmk h1
  have H2 := hmk h2
  have L1 := hmk l1
  have L2 := hmk l2
  have hm : l.length ≤ 9223372036854775807 := Nat.le_trans h1.le h1.max
  clear h1 h2 l1 l2
  go_enter Tryz.func34, Tryz.ntmps34
  go_wp2_with fail
  go_loopw [5] (fun e5 wr => ∃ j : Nat, j ≤ l.length ∧ e5 = .int .i64 (j : Int) ∧ Below w.heap.size w wr) (fun e5 _ => l.length - (RowKit.intOf e5).toNat)
  case atStart => exact ⟨0, by omega, rfl, Below.refl _ _⟩
  case round =>
    obtain ⟨j, hj, rfl, bj⟩ := hrel
    have hzr := bj.size
    by_cases hjl : j < l.length
    · have y1 : (j : Int) < l.length := by omega
      obtain ⟨s1, _, q1⟩ := L1.out j hjl
      obtain ⟨s2, _, q2⟩ := L2.out j hjl
      obtain rfl : a1 = some ⟨b1, o1, none⟩ := H1.out.at_.resolve_left (by omega)
      obtain rfl : a2 = some ⟨b2, o2, none⟩ := H2.out.at_.resolve_left (by omega)
      have h1 := hS1 _ s1
      have h2 := hS2 _ s2
      have x1 : ∀ x : Sub wr.heap.size wr, _ := sub_cell ((bj.cell (p := ⟨b1, o1 + j, none⟩) h1).trans q1) (by omega)
      have x2 : ∀ x : Sub wr.heap.size wr, _ := sub_cell ((bj.cell (p := ⟨b2, o2 + j, none⟩) h2).trans q2) (by omega)
      generalize l[j] = s at *
      clear q1 q2
      go_wp2_with fail
      refine wp_region_sub wr.heap.size (by kernel_rfl) (by kernel_rfl) ?_
      repeat (go_big_quiet_step (fail))
      refine wpQuiet_nil ?_
      rintro wq ⟨⟨wq', bq⟩, hq⟩
      have hq' : wq = wq' := hq
      subst hq'
      clear hq x1 x2
      go_wp2_with fail
      go_roundw
      case rel => exact ⟨j + 1, by omega, by go_num, bj.trans (bq.mono (by omega))⟩
      case measure => simp [RowKit.intOf]; omega
    · obtain rfl : j = l.length := by omega
      have y1 : ¬ (l.length : Int) < l.length := by omega
      go_wp2_with fail
      (try simp only [Exit.inBlock, Exit.then])
      go_ret
      exact ⟨rfl, bj⟩
set_option maxHeartbeats 8000000 in
set_option maxRecDepth 100000 in
theorem same_any (l : List Trm) (R1 R2 : Bool) (S1 S2 : Nat → Prop) (a1 a2 : Option Addr) (c1 c2 b1 b2 o1 o2 : Nat) (w : World) (h1 : Headed a1 l.length c1 b1 o1) (h2 : Headed a2 l.length c2 b2 o2) (l1 : liesT R1 w S1 l b1 o1) (l2 : liesT R2 w S2 l b2 o2) (hS1 : ∀ b, S1 b → b < w.heap.size) (hS2 : ∀ b, S2 b → b < w.heap.size) :
    Calls Tryz.prog 15 #[.slice a1 l.length c1, .slice a2 l.length c2] w (BPost true w) := by
  have H1 := hmk h1
  have H2 := hmk h2
  have L1 := hmk l1
  have L2 := hmk l2
  have hm : l.length ≤ 9223372036854775807 := Nat.le_trans h1.le h1.max
  clear h1 h2 l1 l2
  go_enter Tryz.func15, Tryz.ntmps15
  go_wp2_with fail
  go_loopw [5] (fun e5 wr => ∃ j : Nat, j ≤ l.length ∧ e5 = .int .i64 (j : Int) ∧ Below w.heap.size w wr) (fun e5 _ => l.length - (RowKit.intOf e5).toNat)
  case atStart => exact ⟨0, by omega, rfl, Below.refl _ _⟩
  case round =>
    obtain ⟨j, hj, rfl, bj⟩ := hrel
    have hzr := bj.size
    by_cases hjl : j < l.length
    · have y1 : (j : Int) < l.length := by omega
      obtain ⟨s1, cs1, row1, t1⟩ := L1.out j hjl
      obtain ⟨s2, cs2, row2, t2⟩ := L2.out j hjl
      obtain ⟨ta1, tc1, tb1, to1, rfl, _, _, hd1, ts1, _⟩ := t1
      obtain ⟨ta2, tc2, tb2, to2, rfl, _, _, hd2, ts2, _⟩ := t2
      obtain rfl : a1 = some ⟨b1, o1, none⟩ := H1.out.at_.resolve_left (by omega)
      obtain rfl : a2 = some ⟨b2, o2, none⟩ := H2.out.at_.resolve_left (by omega)
      have h1 := hS1 _ s1
      have h2 := hS2 _ s2
      obtain ⟨q, q0, q1⟩ := row3 (row1.keep (bj.block _ h1))
      obtain ⟨p, p0, p1⟩ := row3 (row2.keep (bj.block _ h2))
      have CT : Hid (∀ y : Sub wr.heap.size wr, Calls Tryz.prog 34 #[.slice ta1 (l[j]).2.2.length tc1, .slice ta2 (l[j]).2.2.length tc2] y.w fun e w'' => e = .returned (.bool true) ∧ ∃ z : Sub wr.heap.size wr, w'' = z.w) :=
        sub_call fun w' hb => (textsame_any (l[j]).2.2 S1 S2 ta1 ta2 tc1 tc2 tb1 tb2 to1 to2 w' hd1 hd2
          (ts1.keep (fun b hh => (hb.block b (by have := hS1 b hh; omega)).trans (bj.block b (hS1 b hh))) (fun _ h => h))
          (ts2.keep (fun b hh => (hb.block b (by have := hS2 b hh; omega)).trans (bj.block b (hS2 b hh))) (fun _ h => h))
          (fun b hh => by have := hS1 b hh; have := hb.size; omega) (fun b hh => by have := hS2 b hh; have := hb.size; omega)).mono (by rintro e w'' ⟨rfl, h3⟩; exact ⟨rfl, hb.trans (h3.mono hb.size)⟩)
      have x0 : ∀ x : Sub wr.heap.size wr, _ := sub_cell q (by omega)
      have x1 : ∀ x : Sub wr.heap.size wr, _ := sub_cell q0 (by omega)
      have x2 : ∀ x : Sub wr.heap.size wr, _ := sub_cell q1 (by omega)
      have z0 : ∀ x : Sub wr.heap.size wr, _ := sub_cell p (by omega)
      have z1 : ∀ x : Sub wr.heap.size wr, _ := sub_cell p0 (by omega)
      have z2 : ∀ x : Sub wr.heap.size wr, _ := sub_cell p1 (by omega)
      clear q q0 q1 p p0 p1 row1 row2 hd1 hd2 ts1 ts2
      generalize l[j] = s at *
      go_wp2_with fail
      refine wp_region_sub wr.heap.size (by kernel_rfl) (by kernel_rfl) ?_
      repeat (go_big_quiet_step (exact CT.out _))
      refine wpQuiet_nil ?_
      rintro wq ⟨⟨wq', bq⟩, hq⟩
      have hq' : wq = wq' := hq
      subst hq'
      clear hq x0 x1 x2 z0 z1 z2 CT
      go_wp2_with fail
      go_roundw
      case rel => exact ⟨j + 1, by omega, by go_num, bj.trans (bq.mono (by omega))⟩
      case measure => simp [RowKit.intOf]; omega
    · obtain rfl : j = l.length := by omega
      have y1 : ¬ (l.length : Int) < l.length := by omega
      go_wp2_with fail
      (try simp only [Exit.inBlock, Exit.then])
      go_ret
      exact ⟨rfl, bj⟩
end Go.Proofs.YtolekldjbbjmjaaGreatDoor
