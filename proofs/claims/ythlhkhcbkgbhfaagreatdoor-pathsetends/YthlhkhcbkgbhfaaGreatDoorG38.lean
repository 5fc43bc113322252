/- joined: CvaS BelP -/
import Derived.Test.YthlhkhcbkgbhfaaGreatDoorCopS
/- pathset.copied of slices.Values: a list of paths, copied. -/
set_option linter.unusedSimpArgs false
set_option linter.unusedVariables false
namespace Go.Proofs.YthlhkhcbkgbhfaaGreatDoor
open Go Go.RowKit Go.Lib Go.Shelf
theorem copval_any {w0 : World} {S : Nat → Prop} (hS0 : ∀ b, S b → b < w0.heap.size) (l : List (List El)) (aa : Option Addr) (ca ba oa A1 : Nat) (w : World) (hw : Below w0.heap.size w0 w) (hh : Headed aa l.length ca ba oa) (hl : liesQ w0 S l ba oa) (hpb : ∀ p ∈ l, pathB p = true) (hwt : ∀ p ∈ l, wtP p ≤ 2147483647) (hn : l.length ≤ 2147483647) (hc : w.heap[A1]? = some (.cells #[.slice aa l.length ca] 22 (0, 0))) :
    Calls Tryz.prog 44 #[.func (.func 66) #[] #[.pointer (some ⟨A1, 0, none⟩)]] w (CopPost l w) := by
  obtain ⟨xs, rfl, hx⟩ := pc_of hl
  have hA : A1 < w.heap.size := (Array.getElem?_eq_some_iff.1 hc).1
  rw [List.length_map] at hh hn hc
  have hsz := hw.size
  refine copied_any hS0 66 _ xs w hw (fun x h => hpb _ (List.mem_map_of_mem h)) (fun x h => hwt _ (List.mem_map_of_mem h)) (by omega) (enters_of Tryz.func66 (by kernel_rfl) rfl) (fun W hW hz => ?_)
  have hb : 0 < xs.length → ba < w0.heap.size := fun h => hS0 _ (hl 0 (by rw [List.length_map]; exact h)).1
  have := val_seq (zs := xs) xs.attach (by simp) (3 - 1) (w.heap.size + 1) w.heap.size A1 ba oa ca aa W (by rw [List.length_attach, cell_of_block ((hW.block A1 hA).trans hc)]; rfl) (by omega) (by omega) hz (fun h => by
    rw [List.length_attach] at h
    have := hb h
    exact ⟨hh.at_.resolve_left (by omega), by omega, by omega⟩) (fun j hj => by
    rw [List.length_attach] at hj
    have h1 := hb (by omega)
    have h2 := hx j hj
    rw [List.getElem_attach]
    exact ((World.cell?_of_block (a := ⟨ba, oa + j, none⟩) ((hW.block ba (by omega)).trans (hw.block ba h1))).trans h2)) (by rw [List.length_attach]; exact hn)
  rw [List.length_attach] at this
  exact this
end Go.Proofs.YthlhkhcbkgbhfaaGreatDoor
/- pathset.Below. -/
namespace Go.Proofs.YthlhkhcbkgbhfaaGreatDoor
open Go Go.RowKit Go.Lib Go.Shelf
def frB (r : Bool) (i : Nat) : Nat := if r then i + 1 else i
theorem bs_from {l : List (List El)} {p : List El} {i : Nat} {r : Bool} (hr : l.Pairwise (fun a b => lexL oeE a b < 0)) (hi : i ≤ l.length) (f1 : ∀ k, (hk : k < l.length) → k < i → lexL oeE l[k] p < 0) (f2 : ∀ k, (hk : k < l.length) → i ≤ k → 0 ≤ lexL oeE l[k] p) (f3 : r = true → ∃ h : i < l.length, lexL oeE l[i] p = 0) (f4 : r = false → ∀ h : i < l.length, lexL oeE l[i] p ≠ 0) :
    frB r i ≤ l.length ∧ (∀ k, (hk : k < l.length) → k < frB r i → ¬ lexL oeE p l[k] < 0) ∧ (∀ k, (hk : k < l.length) → frB r i ≤ k → lexL oeE p l[k] < 0) := by
  have hR := fun a b ha hb hab => List.pairwise_iff_getElem.1 hr a b ha hb hab
  cases r with
  | true =>
    obtain ⟨hil, e⟩ := f3 rfl
    refine ⟨hil, fun k hk h => ?_, fun k hk h => ?_⟩
    · have h : k < i + 1 := h
      have := wk_P.anti p l[k]
      by_cases hki : k = i
      · subst hki; omega
      · have := f1 k hk (by omega); omega
    · have h : i + 1 ≤ k := h
      have h5 := hR i k hil hk (by omega)
      rw [wk_P.cong _ _ _ e] at h5
      exact h5
  | false =>
    refine ⟨hi, fun k hk h => ?_, fun k hk h => ?_⟩
    · have h : k < i := h
      have := wk_P.anti p l[k]
      have := f1 k hk h; omega
    · have h : i ≤ k := h
      have hil : i < l.length := by omega
      have h5 := f2 i hil (Nat.le_refl _)
      have h6 := f4 rfl hil
      have h7 := wk_P.anti p l[i]
      have h8 : lexL oeE p l[i] < 0 := by omega
      by_cases hki : i = k
      · subst hki; exact h8
      · exact wk_P.tri _ _ _ h8 (hR i k hil hk (by omega))
theorem liesQ_part {w : World} {S : Nat → Prop} {l : List (List El)} {b o : Nat} (h : liesQ w S l b o) (i j : Nat) (hj : j ≤ l.length) : liesQ w S ((l.take j).drop i) b (o + i) := fun k hk => by
  simp at hk
  obtain ⟨h1, v, h2, h3⟩ := h (i + k) (by omega)
  refine ⟨h1, v, by rw [Nat.add_assoc]; exact h2, ?_⟩
  simpa using h3
end Go.Proofs.YthlhkhcbkgbhfaaGreatDoor
