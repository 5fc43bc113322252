/- joined: DifA PutP RowX GetX -/
import Derived.Test.YtjfldbmopjojdabDoorG25
import Derived.Defers
import Derived.Recover
import Derived.LaidEql
import Derived.LaidLaws
import Derived.LaidSub
set_option linter.unusedSimpArgs false
set_option linter.unusedVariables false
namespace Go.Proofs.YtjfldbmopjojdabDoor
open Go.RowKit Go.Lib
theorem diff_idle (w : World) : CallsD Tryd.prog 14 #[] .returning w fun e u' w' => e = .returned (.tuple #[]) ∧ u' = .returning ∧ w' = w := by
 refine callsD_of_wpS Tryd.func14 rfl fun c₀ cs hu => ?_
 apply wpS_seq
 apply wpS_region
 simp [wpOpsS, go_sem, recoverD, hu, Tryd.ntmps14, Exit.thenS]
 apply wpS_seq
 apply wpS_region
 simp [wpOpsS, go_sem, recoverD, hu, Exit.thenS]
 refine wpS_cond (t := false) (by simp [Act.eval, Array.replicate]) ?_
 simp only [Bool.false_eq_true, if_false]
 refine wpS_of_wp (wp_skip ?_)
 cases c₀
 simp_all [bodyPostS, results, Tryd.results40]
end Go.Proofs.YtjfldbmopjojdabDoor
namespace Go.Proofs.YtjfldbmopjojdabDoor
open Go Go.RowKit Go.Lib Go.Shelf
def errV (low : Addr) : Value := .iface 85 (.pointer (some low))
structure ErrAt (low : Addr) (w : World) : Prop where
 c : w.cell? ⟨0, 0, none⟩ = some (errV low)
 z : 0 < w.heap.size
theorem ErrAt.below {low : Addr} {B : Nat} {w w' : World} (h : ErrAt low w) (hb : Below B w w') (hB : 0 < B) : ErrAt low w' := ⟨(hb.cell (p := ⟨0, 0, none⟩) hB).trans h.c, Nat.lt_of_lt_of_le h.z hb.size⟩
set_option maxHeartbeats 8000000 in
set_option maxRecDepth 100000 in
theorem putin_pan (v : V) (S : Nat → Prop) (cs : List Value) (w : World) (low : Addr) (hE : ErrAt low w) (hc : clnB v = false) (hv : v.lies false w S cs) (hS : ∀ x, S x → x < w.heap.size) : Calls Tryd.prog 25 #[.agg cs.toArray] w (fun e w' => e = .panicked [{ v := errV low, recovered := false }] ∧ Below w.heap.size w w') := by
 obtain ⟨ek, eb, ei, es, eal, enl, ecl, eam, enm, ecm, rfl⟩ := V.ten hv
 have B2 : Below w.heap.size w ((w.alloc (.cells #[.int .i64 ek, .bool eb, .int .i64 ei, .string es, .slice eal enl ecl, .slice eam enm ecm] 25)).alloc (.cells #[.int .i64 0, .bool false, .int .i64 0, .string ⟨#[]⟩, .slice none 0 0, .slice none 0 0] 25)) := two_below w _ _
 have hz2 : ((w.alloc (.cells #[.int .i64 ek, .bool eb, .int .i64 ei, .string es, .slice eal enl ecl, .slice eam enm ecm] 25)).alloc (.cells #[.int .i64 0, .bool false, .int .i64 0, .string ⟨#[]⟩, .slice none 0 0, .slice none 0 0] 25)).heap.size = w.heap.size + 2 := by rw [alloc_size, alloc_size]
 have h1 := alloc2_keep1 w (.cells #[.int .i64 ek, .bool eb, .int .i64 ei, .string es, .slice eal enl ecl, .slice eam enm ecm] 25) (.cells #[.int .i64 0, .bool false, .int .i64 0, .string ⟨#[]⟩, .slice none 0 0, .slice none 0 0] 25)
 have h2 := alloc2_new w (.cells #[.int .i64 ek, .bool eb, .int .i64 ei, .string es, .slice eal enl ecl, .slice eam enm ecm] 25) (.cells #[.int .i64 0, .bool false, .int .i64 0, .string ⟨#[]⟩, .slice none 0 0, .slice none 0 0] 25)
 have a0 : ((w.alloc (.cells #[.int .i64 ek, .bool eb, .int .i64 ei, .string es, .slice eal enl ecl, .slice eam enm ecm] 25)).alloc (.cells #[.int .i64 0, .bool false, .int .i64 0, .string ⟨#[]⟩, .slice none 0 0, .slice none 0 0] 25)).cell? ⟨w.heap.size, 0, none⟩ = some (.int .i64 ek) := by rw [cell_of_block h1]; rfl
 have a1 : ((w.alloc (.cells #[.int .i64 ek, .bool eb, .int .i64 ei, .string es, .slice eal enl ecl, .slice eam enm ecm] 25)).alloc (.cells #[.int .i64 0, .bool false, .int .i64 0, .string ⟨#[]⟩, .slice none 0 0, .slice none 0 0] 25)).cell? ⟨w.heap.size, 1, none⟩ = some (.bool eb) := by rw [cell_of_block h1]; rfl
 have a2 : ((w.alloc (.cells #[.int .i64 ek, .bool eb, .int .i64 ei, .string es, .slice eal enl ecl, .slice eam enm ecm] 25)).alloc (.cells #[.int .i64 0, .bool false, .int .i64 0, .string ⟨#[]⟩, .slice none 0 0, .slice none 0 0] 25)).cell? ⟨w.heap.size, 2, none⟩ = some (.int .i64 ei) := by rw [cell_of_block h1]; rfl
 have a3 : ((w.alloc (.cells #[.int .i64 ek, .bool eb, .int .i64 ei, .string es, .slice eal enl ecl, .slice eam enm ecm] 25)).alloc (.cells #[.int .i64 0, .bool false, .int .i64 0, .string ⟨#[]⟩, .slice none 0 0, .slice none 0 0] 25)).cell? ⟨w.heap.size, 3, none⟩ = some (.string es) := by rw [cell_of_block h1]; rfl
 have a4 : ((w.alloc (.cells #[.int .i64 ek, .bool eb, .int .i64 ei, .string es, .slice eal enl ecl, .slice eam enm ecm] 25)).alloc (.cells #[.int .i64 0, .bool false, .int .i64 0, .string ⟨#[]⟩, .slice none 0 0, .slice none 0 0] 25)).cell? ⟨w.heap.size, 4, none⟩ = some (.slice eal enl ecl) := by rw [cell_of_block h1]; rfl
 have a5 : ((w.alloc (.cells #[.int .i64 ek, .bool eb, .int .i64 ei, .string es, .slice eal enl ecl, .slice eam enm ecm] 25)).alloc (.cells #[.int .i64 0, .bool false, .int .i64 0, .string ⟨#[]⟩, .slice none 0 0, .slice none 0 0] 25)).cell? ⟨w.heap.size, 5, none⟩ = some (.slice eam enm ecm) := by rw [cell_of_block h1]; rfl
 go_enter Tryd.func25, Tryd.ntmps25
 go_wp2_with fail
 clear a0 a1 a2 a3 a4 a5
 generalize ((w.alloc (.cells #[.int .i64 ek, .bool eb, .int .i64 ei, .string es, .slice eal enl ecl, .slice eam enm ecm] 25)).alloc (.cells #[.int .i64 0, .bool false, .int .i64 0, .string ⟨#[]⟩, .slice none 0 0, .slice none 0 0] 25)) = w2 at *
 have CC := clean67_any v S _ w2 (V.lies_keep (fun h => h) (fun x hx => B2.block x (hS x hx)) (fun _ h => h) _ hv) (fun x hx => by have := hS x hx; omega)
 rw [hc] at CC
 refine CC.mono ?_
 rintro e w3 ⟨rfl, b3⟩
 clear CC
 have B3 := B2.trans (b3.mono (by omega))
 have hg := (hE.below B3 hE.z).c
 unfold errV at hg
 go_wp2_with fail
 exact ⟨rfl, rfl, B3⟩
theorem neq_self (low : Addr) (W : World) : Sem.run Tryd.prog (binOp BinOp.neq 20 (.iface 85 (.pointer (some low))) (.iface 85 (.pointer (some low)))) W = .ok (.bool false) W := by
 have hi : Tryd.prog.underlying 20 = some (.interface #[]) := by first | exact Tryd.underlying20 | kernel_rfl
 have hp : Tryd.prog.underlying 85 = some (.pointer 103) := by first | exact Tryd.underlying85 | kernel_rfl
 obtain ⟨i, hinfo, hcomp⟩ : ∃ i, Tryd.prog.info? 85 = some i ∧ i.comparable = true := ⟨(Tryd.prog.info? 85).get!, by kernel_rfl, by kernel_rfl⟩
 obtain ⟨j, hte⟩ : ∃ j, Tryd.prog.info? 103 = some j := ⟨(Tryd.prog.info? 103).get!, by kernel_rfl⟩
 simp only [binOp]
 simp [Op.equal, Op.maxDepth, run_equalIn_iface_ptr_same W 9998 _ hi hp hinfo hcomp hte]
set_option maxRecDepth 100000 in
theorem diff_catch (low : Addr) (w : World) (hE : ErrAt low w) : CallsD Tryd.prog 14 #[] (.panicking [{ v := errV low, recovered := false }]) w fun e u' w' => e = .returned (.tuple #[]) ∧ u' = .panicking [{ v := errV low, recovered := true }] ∧ w' = w := by
 have hg := hE.c
 unfold errV at hg ⊢
 refine callsD_of_wpS Tryd.func14 rfl fun c₀ cs hu => ?_
 apply wpS_seq
 apply wpS_region
 simp [wpOpsS, go_sem, recoverD, hu, Tryd.ntmps14, Exit.thenS]
 apply wpS_seq
 apply wpS_region
 simp [wpOpsS, go_sem, recoverD, hu, Exit.thenS, hg, neq_self]
 refine wpS_cond (t := false) (by simp [Act.eval, Array.replicate]) ?_
 simp only [Bool.false_eq_true, if_false]
 refine wpS_of_wp (wp_skip ?_)
 cases c₀
 simp_all [bodyPostS, results, Tryd.results40]
end Go.Proofs.YtjfldbmopjojdabDoor
set_option maxRecDepth 100000
namespace Go.Proofs.YtjfldbmopjojdabDoor
open Go.Shelf Go.Lib Go.ChangeShapes Go.RowKit
theorem star_err : ("*errors.errorString" : String) = "*" ++ "errors.errorString" := by decide
theorem row105 (u : TypeId) (h : Tryd.prog.typeName? 3 u = some "*errors.errorString") : u = 85 :=
 typeName_ptr_named (nm := "errors.errorString") (by rw [← star_err]; kernel_rfl) (by kernel_rfl) (by decide) u (by rw [← star_err]; exact h)
theorem cells123 : Tryd.prog.cellsOf 103 = 1 := by kernel_rfl
theorem errAt_of {W : World} (h0 : laidMet Tryd.prog [("unicode/utf8.acceptRanges", Rows.laid_unicode_utf8_acceptRanges), ("freehold/mergepatch.errNoPatch", Rows.laid_freehold_mergepatch_errNoPatch), ("unicode/utf8.first", Rows.laid_unicode_utf8_first)] W) : ∃ low, ErrAt low W := by
 have h : laidMet Tryd.prog [("freehold/mergepatch.errNoPatch", Rows.laid_freehold_mergepatch_errNoPatch)] W := laidMet.filter (fun x => x.1 == "freehold/mergepatch.errNoPatch") h0
 obtain ⟨ps, ⟨g1, t1, cs1, f1, p1, q1, hg1, ht1, hv1, hd1, hq1, e1⟩, hnd, hrows⟩ := h
 obtain rfl : g1 = 0 := Option.some.inj (hg1.symm.trans (by kernel_rfl))
 obtain rfl : t1 = 42 := Option.some.inj (ht1.symm.trans (by kernel_rfl))
 have hq1' : q1 = [] := hq1
 subst hq1'
 subst e1
 obtain ⟨l1⟩ := cs1
 have ok1 : ∀ u v, l1 = [.iface u v] → Value.okWide Tryd.prog W .any 0 u v := fun u v e => by
  subst e
  exact (hrows 0 0 (by simp [MemPlace.row])).2 u v (by simpa using World.var?_cell hg1 hv1 0)
 obtain ⟨a1, s1, rfl, hc1, hs1, hz1, rfl⟩ := errorString_of_trod Tryd.underlying42 row105 Tryd.underlying85 Tryd.underlying103 rfl rfl Tryd.underlying9 cells123 cells9 hd1 ok1
 have hc : W.cell? ⟨0, 0, none⟩ = some (errV a1) := by unfold errV; simpa using World.var?_cell hg1 hv1 0
 exact ⟨a1, hc, block_lt hc⟩
noncomputable def lowE : Nat := (World.holding Tryd.prog default ⟨#[], #[], []⟩).heap.size
noncomputable def laidWorldE (os : Os) : World :=
 let w0 := World.holding Tryd.prog os ⟨#[.cells #[.string ⟨#[110, 111, 32, 109, 101, 114, 103, 101, 32, 112, 97, 116, 99, 104, 32, 108, 101, 97, 100, 115, 32, 116, 104, 101, 114, 101]⟩] 103], #[], []⟩
 { w0 with heap := (((w0.heap.modify 1 (putCells (Lib.firstTab.map fun z => Value.int .u8 z).toArray)).modify 2
  (putCells ((List.range 16).flatMap fun i => [Value.int .u8 (Lib.accLo i), Value.int .u8 (Lib.accHi i)]).toArray)).modify 0 (putCells #[.iface 85 (.pointer (some ⟨lowE, 0, none⟩))])) }
end Go.Proofs.YtjfldbmopjojdabDoor
namespace Go.Proofs
open Go.Shelf Go.RowKit
def Tryd.lays106_ren : Go.Shelf.Ren := ⟨fun | 106 => 55 | 213 => 62 | 265 => 64 | n => n, fun | 3 => 3 | 9 => 9 | n => n, fun | n => n⟩
theorem Tryd.lays106 : Go.Proofs.Lays.n106 Tryd.prog Tryd.lays106_ren := {
 mixed := by kernel_rfl
 f106 := Tryd.func55.trans (congrArg some (by kernel_rfl))
 f213 := Tryd.func62.trans (congrArg some (by kernel_rfl))
 f265 := Tryd.func64.trans (congrArg some (by kernel_rfl))
 t3 := Tryd.underlying3
 a3 := Tryd.isAgg3
 z3 := Tryd.sizeOf3
 v3 := Tryd.zeroValue3
 t9 := Tryd.underlying9
 a9 := Tryd.isAgg9
 z9 := Tryd.sizeOf9
 v9 := Tryd.zeroValue9 }
namespace YtjfldbmopjojdabDoor
open Go.Lib Go.RowKit
def JPost (r : Int) (w : World) (e : Ending) (w' : World) : Prop := e = .returned (.int .i64 r) ∧ Below w.heap.size w w'
theorem scompare_any (a b : ByteArray) (w : World) : Calls Tryd.prog 55 #[.string a, .string b] w (JPost (cmpS a b) w) :=
 (Any.strings_Compare Tryd.lays106 a b w).mono fun e w' h => ⟨h.1, by rw [h.2]; exact Below.refl _ _⟩
theorem cmp_one (a b : List UInt8) : compareBytes a b = -1 ∨ compareBytes a b = 0 ∨ compareBytes a b = 1 := by
 induction a generalizing b with
 | nil => cases b <;> simp [compareBytes]
 | cons x t ih =>
  cases b with
  | nil => simp [compareBytes]
  | cons y u =>
   rw [compareBytes]
   split
   ·simp
   ·split
    ·simp
    ·exact ih u
theorem cmpS_zero (a b : ByteArray) : cmpS a b = 0 ↔ a.toList = b.toList := by rw [cmpS, toList_data, toList_data]; exact cmp_zero _ _
theorem okV_true {v : V} (h : okV v = true) : (chkV 40 v 0 (0, 0, 0)).1 = 0 := of_decide_eq_true h
end YtjfldbmopjojdabDoor
end Go.Proofs
