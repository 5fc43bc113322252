import Derived.Test.YtljgofmmihmmfabDoorJA
import Derived.Test.YtljgofmmihmmfabDoorJB
/- What Build answers: one list in the keys' order. -/
set_option linter.unusedSimpArgs false
set_option linter.unusedVariables false
namespace Go.Proofs.YtljgofmmihmmfabDoor
open Go.RowKit Go.Lib

def leM (a b : Mem) : Bool := !ltB b.1 a.1
def srtM (l : List Mem) : List Mem := l.mergeSort leM
theorem srtM_perm (l : List Mem) : (srtM l).Perm l := List.mergeSort_perm _ _
theorem srtM_wk (l : List Mem) : Wkl (srtM l) := by
  have h := List.pairwise_mergeSort (le := leM) (fun a b c h1 h2 => by
    simp only [leM, Bool.not_eq_true'] at *
    exact ltB_ntrans h2 h1) (fun a b => by
    simp only [leM]
    cases h1 : ltB b.1 a.1 with
    | false => simp
    | true =>
      have : ltB a.1 b.1 = false := by
        rw [Bool.eq_false_iff]
        intro h2
        have := ltB_trans h1 h2
        rw [ltB_irr] at this
        cases this
      simp [this]) l
  exact h.imp fun {a b} h1 => by simpa [leM] using h1

/-- fit to be built of: each value taken, each key UTF-8, no key twice -/
structure Fine (l : List Mem) : Prop where
  ok : ∀ x ∈ l, okV x.2 = true ∧ utfB x.1 = true
  ne : l.Pairwise (fun a b => ¬ a.1.toList = b.1.toList)
theorem Fine.perm {l l' : List Mem} (h : Fine l) (hp : l.Perm l') : Fine l' :=
  ⟨fun x hx => h.ok x (hp.mem_iff.2 hx), (hp.pairwise_iff fun {x y} h e => h e.symm).1 h.ne⟩
theorem fine_srt {l : List Mem} (h : Fine l) (hw : Wkl l) : Srt l := by
  have := List.Pairwise.and hw h.ne
  exact this.imp fun {a b} h1 => ltB_tri h1.1 (fun e => h1.2 e.symm)
theorem srt_ne {l : List Mem} (h : Srt l) : l.Pairwise (fun a b => ¬ a.1.toList = b.1.toList) := h.imp fun {a b} h1 e => by
  have h2 := (ltB_cmp a.1 b.1).1 h1
  have h3 := (cmpS_zero a.1 b.1).2 e
  omega
theorem srt_uniq : ∀ {l1 l2 : List Mem}, l1.Perm l2 → Srt l1 → Wkl l2 → l1 = l2
  | [], l2, hp, _, _ => (List.Perm.nil_eq hp)
  | a :: t1, [], hp, _, _ => by have := hp.length_eq; simp at this
  | a :: t1, b :: t2, hp, h1, h2 => by
    have e : a = b := by
      have ha : a ∈ b :: t2 := hp.mem_iff.1 (by simp)
      have hb : b ∈ a :: t1 := hp.mem_iff.2 (by simp)
      rcases List.mem_cons.1 ha with e | ha
      · exact e
      rcases List.mem_cons.1 hb with e | hb
      · exact e.symm
      have k1 := (List.pairwise_cons.1 h1).1 b hb
      have k2 := (List.pairwise_cons.1 h2).1 a ha
      rw [k1] at k2
      cases k2
    subst e
    rw [srt_uniq (hp.cons_inv) (List.pairwise_cons.1 h1).2 (List.pairwise_cons.1 h2).2]
theorem rise_utf {l : List Mem} (h : riseB l = true) : ∀ x ∈ l, utfB x.1 = true := by
  intro x hx
  obtain ⟨j, hj, rfl⟩ := List.getElem_of_mem hx
  have h0 : ∀ j, j < l.length → okAt l j = true := by
    simpa only [riseB, List.all_eq_true, List.mem_range] using h
  have := h0 j hj
  rw [okAt, keyAt_eq hj] at this
  exact (Bool.and_eq_true _ _ ▸ this).1
theorem mapE_bad {l : List Mem} (h : riseB l = false) : mapE l = 20 := by
  have hg : goodB 5 false 0 ⟨#[]⟩ 0 l = false := by simp [goodB, h]
  rw [mapE, chkE40, chkV]
  simp [entF, hg]
theorem mapV_bad {l : List Mem} (h : mapE l = 20) : mapV l = nullV := by rw [mapV, if_neg (by rw [h]; omega)]

/-- what Build answers -/
def BvPost (l : List Mem) (w : World) (e : Ending) (w' : World) : Prop :=
  (¬ Fine l ∧ VePost nullV 20 w e w') ∨ (Fine l ∧ VePost (mapV (srtM l)) (mapE (srtM l)) w e w')
theorem bv_of_bld {l : List Mem} {w w' : World} {e : Ending} (h : BldPost l w e w') : BvPost l w e w' := by
  rcases h with ⟨h1, h2⟩ | ⟨h1, l', hp, hw, h2⟩
  · refine .inl ⟨fun hf => ?_, h2⟩
    have : bldOk l = true := by rw [bldOk, List.all_eq_true]; exact fun x hx => (hf.ok x hx).1
    rw [h1] at this
    cases this
  · by_cases hf : Fine l
    · have hs : srtM l = l' := srt_uniq ((srtM_perm l).trans hp.symm) (fine_srt (hf.perm (srtM_perm l).symm) (srtM_wk l)) hw
      rw [← hs] at h2
      exact .inr ⟨hf, h2⟩
    · have hr : riseB l' = false := by
        rw [Bool.eq_false_iff]
        intro hr
        refine hf (Fine.perm ⟨fun x hx => ⟨?_, rise_utf hr x hx⟩, srt_ne (srt_rise hr)⟩ hp)
        exact (List.all_eq_true.1 h1) x (hp.mem_iff.1 hx)
      rw [mapV_bad (mapE_bad hr), mapE_bad hr] at h2
      exact .inl ⟨hf, h2⟩
end Go.Proofs.YtljgofmmihmmfabDoor
