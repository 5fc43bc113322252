/- joined: BtwB DifA PutP -/
import Derived.Test.YtjfldbmopjojdaaDoorAplX
import Derived.Defers
import Derived.Recover
import Derived.LaidEql
set_option linter.unusedSimpArgs false
set_option linter.unusedVariables false
namespace Go.Proofs.YtjfldbmopjojdaaDoor
open Go Go.RowKit Go.Lib Go.Shelf
theorem round_at {S : Nat → Prop} {M B g N cap : Nat} {ps : List (Mem × List Value)} {sl : Value} {W W2 w5 We w6 : World} {x : Mem} {c0 c1 c2 c3 c4 c5 c6 : Value} {ms : List Mem} (hMB : M < B) (hS : ∀ y, S y → y < M) (h6 : w6.heap.size = B) (hB : Below M w6 W) (hps : ps.map (fun q => q.1) = ms) (hN : ps.length = N)
 (ho : OwnC B 57 7 sl (ps.map (fun q => q.2)) W) (hp : ∀ q ∈ ps, PM W (Sq S B sl W) q) (hb : Below W.heap.size W W2) (hx : PM W2 (fun y => S y ∨ (W.heap.size ≤ y ∧ y < W2.heap.size)) (x, [c0, c1, c2, c3, c4, c5, c6]))
 (h5 : w5.ownsRow B 57 7 (.slice (some ⟨g, 0, none⟩) (N + 1) cap) (N + 1) ((ps.map (fun q => q.2)).flatten ++ nul7)) (g5 : W2.grownBy w5 sl.ownBlock) (l5 : sl.ownBlock = some g ∨ W2.heap.size ≤ g)
 (hE : EndP w5 We g M N (.slice (some ⟨g, 0, none⟩) (N + 1) cap) c0 c1 c2 c3 c4 c5 c6) :
 KeepsFrom B W We ∧ Kx B M W We ∧ ∃ sl', We.heap[M]? = some (.cells #[.int .i64 5, .bool false, .int .i64 0, .string ⟨#[]⟩, .slice none 0 0, sl'] 25) ∧ AccK S B (ms ++ [x]) sl' We ∧ Below M w6 We := by
 have hz := hB.size
 have hz2 := hb.size
 have hz5 := g5.size
 have hzE := hE.z_
 have hgB := (World.ownsRow.lt h5 g rfl).1
 have hown : ∀ r, sl.ownBlock = some r → B ≤ r ∧ r < W.heap.size := World.ownsRow.lt ho
 have hcell : ∀ r, sl.ownBlock = some r → ∃ o : Obj, W.heap[r]? = some o ∧ o.isCells = true := fun r hr => by
  rcases ho.2 with ⟨rfl, _⟩ | ⟨g', cap', cur, rfl, _, hg, _⟩
  ·cases hr
  ·have e : g' = r := Option.some.inj hr
   rw [← e]
   exact ⟨_, hg, rfl⟩
 have hlow : ∀ k, k < W.heap.size → k ≠ M → sl.ownBlock ≠ some k → We.heap[k]? = W.heap[k]? := fun k hk hM hne => by
  have hkg : k ≠ g := by
   rcases l5 with l5 | l5
   ·exact fun e => hne (by rw [e]; exact l5)
   ·omega
  exact (hE.o_ k hkg hM).trans ((g5.block k (by omega) (fun e => hne e.symm)).trans (hb.block k hk))
 refine ⟨⟨by omega, fun k o hk ho' hc => ?_⟩, ⟨?_, ?_, ?_, by omega, fun k hk hM => hlow k (by omega) hM (fun e => by have := (hown k e).1; omega)⟩, _, hE.m_, ?_, ?_⟩
 ·refine (hlow k (Array.getElem?_eq_some_iff.1 ho').1 (by omega) (fun e => ?_)).trans ho'
  obtain ⟨o', h1, h2⟩ := hcell k e
  rw [h1] at ho'
  cases ho'
  rw [h2] at hc; cases hc
 ·exact hE.s_.trans (g5.os.trans hb.os)
 ·exact hE.t_.trans (g5.tape.trans hb.tape)
 ·exact hE.p_.trans (g5.output.trans hb.output)
 ·rw [← hps]
  refine AccK.push (w := W2) (fun y hy => by have := hS y hy; omega) (by omega) (fun h => by have := hS _ h; omega) hN (ho.below hb) (fun q hq => (hp q hq).keep (fun b hb' => hb.block b ?_) (fun b hb' => ?_)) (by omega) (hx.keep (fun _ _ => rfl) (fun y hy => ?_)) h5 g5 l5 hE
  ·rcases hb' with h | h
   ·have := hS b h; omega
   ·exact h.2.1
  ·exact hb'.elim .inl (fun h => .inr ⟨h.1, by omega, h.2.2⟩)
  ·exact hy.elim .inl (fun h => .inr ⟨by omega, h.2, fun e => by have := (hown y e).2; omega⟩)
 ·exact hB.trans ⟨hE.s_.trans (g5.os.trans hb.os), hE.t_.trans (g5.tape.trans hb.tape), hE.p_.trans (g5.output.trans hb.output), by omega, fun k hk => hlow k (by omega) (by omega) (fun e => by have := (hown k e).1; omega)⟩
theorem fin_at {S : Nat → Prop} {ms : List Mem} {sl d0 d1 d2 d3 d4 d5 : Value} {ty : TypeId} {W Wf w w6 : World} {D M B R : Nat} (hS : ∀ y, S y → y < w.heap.size) (hw : w.heap.size ≤ R) (hRM : R < M) (hMB : M < B) (bw6 : Below w.heap.size w w6) (h6 : w6.heap.size = B) (bW : Below M w6 W) (acc : AccK S B ms sl W) (hD : B ≤ D) (hK : W.heap[D]? = some (.deferred (some [])))
 (hf : FinP W Wf R D d0 d1 d2 d3 d4 d5 ty) : (V.mk 5 false 0 ⟨#[]⟩ [] ms).lies false Wf (OrNew S w Wf) [.int .i64 5, .bool false, .int .i64 0, .string ⟨#[]⟩, .slice none 0 0, sl] ∧ Below w.heap.size w Wf := by
 have hz := bW.size
 have hzf := hf.z_
 refine ⟨V.lies_keep (fun h => h) (fun y hy => hf.o_ y ?_ ?_) (fun y hy => ?_) _ (lies_cells rfl _ (acc.lies (fun y hy => by have := hS y hy; omega))), ?_⟩
 ·rcases hy.1 with h | h
  ·have := hS y h; omega
  ·omega
 ·intro e
  obtain ⟨o, h1, h2⟩ := hy.2
  rw [e, hK] at h1
  cases h1
  cases h2
 ·rcases hy.1 with h | h
  ·exact .inl h
  ·exact .inr ⟨by omega, by omega⟩
 ·exact ⟨hf.s_.trans (bW.os.trans bw6.os), hf.t_.trans (bW.tape.trans bw6.tape), hf.p_.trans (bW.output.trans bw6.output), by have := bw6.size; omega, fun k hk => (hf.o_ k (by omega) (by omega)).trans ((bW.block k (by omega)).trans (bw6.block k hk))⟩
end Go.Proofs.YtjfldbmopjojdaaDoor
namespace Go.Proofs.YtjfldbmopjojdaaDoor
open Go.RowKit Go.Lib
theorem diff_idle (w : World) : CallsD Tryd.prog 40 #[] .returning w fun e u' w' => e = .returned (.tuple #[]) ∧ u' = .returning ∧ w' = w := by
 refine callsD_of_wpS Tryd.func40 rfl fun c₀ cs hu => ?_
 apply wpS_seq
 apply wpS_region
 simp [wpOpsS, go_sem, recoverD, hu, Tryd.ntmps40, Exit.thenS]
 apply wpS_seq
 apply wpS_region
 simp [wpOpsS, go_sem, recoverD, hu, Exit.thenS]
 refine wpS_cond (t := false) (by simp [Act.eval, Array.replicate]) ?_
 simp only [Bool.false_eq_true, if_false]
 refine wpS_of_wp (wp_skip ?_)
 cases c₀
 simp_all [bodyPostS, results, Tryd.results40]
def DfPost (x : V) (w : World) (e : Ending) (w' : World) : Prop := ∃ cs : List Value, e = .returned (.tuple #[.agg cs.toArray, .bool true, .int .i64 0]) ∧ x.lies false w' (New w w') cs ∧ Below w.heap.size w w'
end Go.Proofs.YtjfldbmopjojdaaDoor
namespace Go.Proofs.YtjfldbmopjojdaaDoor
open Go Go.RowKit Go.Lib Go.Shelf
def errV (low : Addr) : Value := .iface 105 (.pointer (some low))
structure ErrAt (low : Addr) (w : World) : Prop where
 c : w.cell? ⟨0, 0, none⟩ = some (errV low)
 z : 0 < w.heap.size
theorem ErrAt.below {low : Addr} {B : Nat} {w w' : World} (h : ErrAt low w) (hb : Below B w w') (hB : 0 < B) : ErrAt low w' := ⟨(hb.cell (p := ⟨0, 0, none⟩) hB).trans h.c, Nat.lt_of_lt_of_le h.z hb.size⟩
set_option maxHeartbeats 8000000 in
set_option maxRecDepth 100000 in
theorem putin_pan (v : V) (S : Nat → Prop) (cs : List Value) (w : World) (low : Addr) (hE : ErrAt low w) (hc : clnB v = false) (hv : v.lies false w S cs) (hS : ∀ x, S x → x < w.heap.size) : Calls Tryd.prog 57 #[.agg cs.toArray] w (fun e w' => e = .panicked [{ v := errV low, recovered := false }] ∧ Below w.heap.size w w') := by
 obtain ⟨ek, eb, ei, es, eal, enl, ecl, eam, enm, ecm, rfl⟩ := V.ten hv
 have B2 : Below w.heap.size w ((w.alloc (.cells #[.int .i64 ek, .bool eb, .int .i64 ei, .string es, .slice eal enl ecl, .slice eam enm ecm] 25)).alloc (.cells #[.int .i64 0, .bool false, .int .i64 0, .string ⟨#[]⟩, .slice none 0 0, .slice none 0 0] 25)) := two_below w _ _
 have hz2 : ((w.alloc (.cells #[.int .i64 ek, .bool eb, .int .i64 ei, .string es, .slice eal enl ecl, .slice eam enm ecm] 25)).alloc (.cells #[.int .i64 0, .bool false, .int .i64 0, .string ⟨#[]⟩, .slice none 0 0, .slice none 0 0] 25)).heap.size = w.heap.size + 2 := by rw [alloc_size, alloc_size]
 have h1 := alloc2_keep1 w (.cells #[.int .i64 ek, .bool eb, .int .i64 ei, .string es, .slice eal enl ecl, .slice eam enm ecm] 25) (.cells #[.int .i64 0, .bool false, .int .i64 0, .string ⟨#[]⟩, .slice none 0 0, .slice none 0 0] 25)
 have h2 := alloc2_new w (.cells #[.int .i64 ek, .bool eb, .int .i64 ei, .string es, .slice eal enl ecl, .slice eam enm ecm] 25) (.cells #[.int .i64 0, .bool false, .int .i64 0, .string ⟨#[]⟩, .slice none 0 0, .slice none 0 0] 25)
 have a0 : ((w.alloc (.cells #[.int .i64 ek, .bool eb, .int .i64 ei, .string es, .slice eal enl ecl, .slice eam enm ecm] 25)).alloc (.cells #[.int .i64 0, .bool false, .int .i64 0, .string ⟨#[]⟩, .slice none 0 0, .slice none 0 0] 25)).cell? ⟨w.heap.size, 0, none⟩ = some (.int .i64 ek) := by rw [cell_of_block h1]; rfl
 have a1 : ((w.alloc (.cells #[.int .i64 ek, .bool eb, .int .i64 ei, .string es, .slice eal enl ecl, .slice eam enm ecm] 25)).alloc (.cells #[.int .i64 0, .bool false, .int .i64 0, .string ⟨#[]⟩, .slice none 0 0, .slice none 0 0] 25)).cell? ⟨w.heap.size, 1, none⟩ = some (.bool eb) := by rw [cell_of_block h1]; rfl
 have a2 : ((w.alloc (.cells #[.int .i64 ek, .bool eb, .int .i64 ei, .string es, .slice eal enl ecl, .slice eam enm ecm] 25)).alloc (.cells #[.int .i64 0, .bool false, .int .i64 0, .string ⟨#[]⟩, .slice none 0 0, .slice none 0 0] 25)).cell? ⟨w.heap.size, 2, none⟩ = some (.int .i64 ei) := by rw [cell_of_block h1]; rfl
 have a3 : ((w.alloc (.cells #[.int .i64 ek, .bool eb, .int .i64 ei, .string es, .slice eal enl ecl, .slice eam enm ecm] 25)).alloc (.cells #[.int .i64 0, .bool false, .int .i64 0, .string ⟨#[]⟩, .slice none 0 0, .slice none 0 0] 25)).cell? ⟨w.heap.size, 3, none⟩ = some (.string es) := by rw [cell_of_block h1]; rfl
 have a4 : ((w.alloc (.cells #[.int .i64 ek, .bool eb, .int .i64 ei, .string es, .slice eal enl ecl, .slice eam enm ecm] 25)).alloc (.cells #[.int .i64 0, .bool false, .int .i64 0, .string ⟨#[]⟩, .slice none 0 0, .slice none 0 0] 25)).cell? ⟨w.heap.size, 4, none⟩ = some (.slice eal enl ecl) := by rw [cell_of_block h1]; rfl
 have a5 : ((w.alloc (.cells #[.int .i64 ek, .bool eb, .int .i64 ei, .string es, .slice eal enl ecl, .slice eam enm ecm] 25)).alloc (.cells #[.int .i64 0, .bool false, .int .i64 0, .string ⟨#[]⟩, .slice none 0 0, .slice none 0 0] 25)).cell? ⟨w.heap.size, 5, none⟩ = some (.slice eam enm ecm) := by rw [cell_of_block h1]; rfl
 go_enter Tryd.func57, Tryd.ntmps57
 go_wp2_with fail
 clear a0 a1 a2 a3 a4 a5
 generalize ((w.alloc (.cells #[.int .i64 ek, .bool eb, .int .i64 ei, .string es, .slice eal enl ecl, .slice eam enm ecm] 25)).alloc (.cells #[.int .i64 0, .bool false, .int .i64 0, .string ⟨#[]⟩, .slice none 0 0, .slice none 0 0] 25)) = w2 at *
 have CC := clean67_any v S _ w2 (V.lies_keep (fun h => h) (fun x hx => B2.block x (hS x hx)) (fun _ h => h) _ hv) (fun x hx => by have := hS x hx; omega)
 rw [hc] at CC
 refine CC.mono ?_
 rintro e w3 ⟨rfl, b3⟩
 clear CC
 have B3 := B2.trans (b3.mono (by omega))
 have hg := (hE.below B3 hE.z).c
 unfold errV at hg
 go_wp2_with fail
 exact ⟨rfl, rfl, B3⟩
theorem neq_self (low : Addr) (W : World) : Sem.run Tryd.prog (binOp BinOp.neq 20 (.iface 105 (.pointer (some low))) (.iface 105 (.pointer (some low)))) W = .ok (.bool false) W := by
 have hi : Tryd.prog.underlying 20 = some (.interface #[]) := by first | exact Tryd.underlying20 | kernel_rfl
 have hp : Tryd.prog.underlying 105 = some (.pointer 123) := by first | exact Tryd.underlying105 | kernel_rfl
 obtain ⟨i, hinfo, hcomp⟩ : ∃ i, Tryd.prog.info? 105 = some i ∧ i.comparable = true := ⟨(Tryd.prog.info? 105).get!, by kernel_rfl, by kernel_rfl⟩
 obtain ⟨j, hte⟩ : ∃ j, Tryd.prog.info? 123 = some j := ⟨(Tryd.prog.info? 123).get!, by kernel_rfl⟩
 simp only [binOp]
 simp [Op.equal, Op.maxDepth, run_equalIn_iface_ptr_same W 9998 _ hi hp hinfo hcomp hte]
set_option maxRecDepth 100000 in
theorem diff_catch (low : Addr) (w : World) (hE : ErrAt low w) : CallsD Tryd.prog 40 #[] (.panicking [{ v := errV low, recovered := false }]) w fun e u' w' => e = .returned (.tuple #[]) ∧ u' = .panicking [{ v := errV low, recovered := true }] ∧ w' = w := by
 have hg := hE.c
 unfold errV at hg ⊢
 refine callsD_of_wpS Tryd.func40 rfl fun c₀ cs hu => ?_
 apply wpS_seq
 apply wpS_region
 simp [wpOpsS, go_sem, recoverD, hu, Tryd.ntmps40, Exit.thenS]
 apply wpS_seq
 apply wpS_region
 simp [wpOpsS, go_sem, recoverD, hu, Exit.thenS, hg, neq_self]
 refine wpS_cond (t := false) (by simp [Act.eval, Array.replicate]) ?_
 simp only [Bool.false_eq_true, if_false]
 refine wpS_of_wp (wp_skip ?_)
 cases c₀
 simp_all [bodyPostS, results, Tryd.results40]
end Go.Proofs.YtjfldbmopjojdaaDoor
