/- same. -/
import Derived.Test.YtagjbphadakifaaDoorChkB
set_option linter.unusedSimpArgs false
set_option linter.unusedVariables false
namespace Go.Proofs.YtagjbphadakifaaDoor
open Go.RowKit
mutual
/-- the same, field by field -/
def V.eqB : V → V → Bool
  | .mk k b i s l m, .mk k' b' i' s' l' m' => decide (k = k') && decide (b = b') && decide (i = i') && (s.toList == s'.toList) && decide (l.length = l'.length) && decide (m.length = m'.length) && eqL l l' && eqM m m'
def eqL : List V → List V → Bool
  | x :: t, y :: u => V.eqB x y && eqL t u
  | _, _ => true
def eqM : List Mem → List Mem → Bool
  | (k, x) :: t, (k', y) :: u => (k.toList == k'.toList) && V.eqB x y && eqM t u
  | _, _ => true
end
mutual
theorem V.eqB_refl : ∀ v : V, V.eqB v v = true
  | .mk k b i s l m => by rw [V.eqB, eqL_refl l, eqM_refl m]; simp
theorem eqL_refl : ∀ l : List V, eqL l l = true
  | [] => by rw [eqL]; intros; simp_all
  | x :: t => by rw [eqL, V.eqB_refl x, eqL_refl t]; rfl
theorem eqM_refl : ∀ l : List Mem, eqM l l = true
  | [] => by rw [eqM]; intros; simp_all
  | (k, x) :: t => by rw [eqM, V.eqB_refl x, eqM_refl t]; simp
end
theorem eqL_drop {l l' : List V} (hl : l.length = l'.length) {j : Nat} (h : j < l.length) : eqL (l.drop j) (l'.drop j) = (V.eqB l[j] (l'[j]'(by omega)) && eqL (l.drop (j + 1)) (l'.drop (j + 1))) := by
  rw [List.drop_eq_getElem_cons h, List.drop_eq_getElem_cons (show j < l'.length by omega), eqL]
theorem eqM_drop {l l' : List Mem} (hl : l.length = l'.length) {j : Nat} (h : j < l.length) : eqM (l.drop j) (l'.drop j) = (((l[j]).1.toList == (l'[j]'(by omega)).1.toList) && V.eqB (l[j]).2 (l'[j]'(by omega)).2 && eqM (l.drop (j + 1)) (l'.drop (j + 1))) := by
  rw [List.drop_eq_getElem_cons h, List.drop_eq_getElem_cons (show j < l'.length by omega)]
  rcases l[j] with ⟨k, x⟩
  rcases l'[j]'(by omega) with ⟨k', y⟩
  rw [eqM]
theorem two_below (w : World) (o o' : Obj) : Below w.heap.size w ((w.alloc o).alloc o') := ((Below.refl w.heap.size w).alloc (Nat.le_refl _) _).alloc (by rw [alloc_size]; omega) _
theorem sub_call2 {P : Program} {f : FuncId} {args : Array Value} {wr wq : World} {v : Value} (h : ∀ w', Below wr.heap.size wr w' → Calls P f args w' fun e w'' => e = .returned v ∧ Below w'.heap.size w' w'') (bq : Below wr.heap.size wr wq) (x : Sub wq.heap.size wq) :
    Calls P f args x.w fun e w'' => e = .returned v ∧ ∃ y : Sub wq.heap.size wq, w'' = y.w :=
  sub_call (fun w' hb => (h w' (bq.trans (hb.mono bq.size))).mono fun e w'' ⟨he, h2⟩ => ⟨he, hb.trans (h2.mono hb.size)⟩) x
theorem bytes_eq {a b : ByteArray} (h : a.toList = b.toList) : a = b := by
  rw [ByteArray.toList_eq, ByteArray.toList_eq] at h
  exact Go.WideShapes.bytes_inj h
end Go.Proofs.YtagjbphadakifaaDoor
