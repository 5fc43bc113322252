/- joined: JmG JmK -/
import Derived.Test.YtpmhdcmmlkjjmaaGreatDoorG48
import Derived.Deep.DeepCutAuto
/- what Check lets by: plain. -/
set_option linter.unusedSimpArgs false
set_option linter.unusedVariables false
set_option maxRecDepth 100000
namespace Go.Proofs.YtpmhdcmmlkjjmaaGreatDoor
open Go.RowKit Go.Lib
mutual
/-- every number fits -/
def inV : V → Prop
  | .mk _ _ i _ l m => In64 i ∧ inL l ∧ inM m
def inL : List V → Prop
  | [] => True
  | x :: t => inV x ∧ inL t
def inM : List Mem → Prop
  | [] => True
  | (_, x) :: t => inV x ∧ inM t
end
theorem inL_iff : ∀ {l : List V}, inL l ↔ ∀ x ∈ l, inV x
  | [] => by simp [inL]
  | x :: t => by rw [inL, inL_iff]; simp
theorem inM_iff : ∀ {l : List Mem}, inM l ↔ ∀ x ∈ l, inV x.2
  | [] => by simp [inM]
  | (k, x) :: t => by rw [inM, inM_iff]; simp
theorem lies_in (v : V) : ∀ {R : Bool} {w : World} {S : Nat → Prop} {cs : List Value}, v.lies R w S cs → inV v := by
  induction v using V.ind_v with
  | h k b i s l m ihl ihm =>
  intro R w S cs hl
  rw [V.lies] at hl
  obtain ⟨al, cl, bl, ol, am, cm, bm, om, rfl, hk, hi, hs, hal, ham, hl1, hm1, _⟩ := hl
  rw [inV]
  refine ⟨hi, inL_iff.2 fun x hx => ?_, inM_iff.2 fun x hx => ?_⟩
  · obtain ⟨j, hj, rfl⟩ := List.getElem_of_mem hx
    obtain ⟨_, cs, _, h⟩ := liesL_get hl1 j hj
    exact ihl _ (List.getElem_mem hj) h
  · obtain ⟨j, hj, rfl⟩ := List.getElem_of_mem hx
    obtain ⟨_, _, cs, _, h⟩ := liesM_get hm1 j hj
    exact ihm _ (List.getElem_mem hj) h
theorem entF_inv {D n y d lv : Nat} {g : Bool} {z : Nat} (h : (entF D n y d lv g z).1 = 0) : n < 65536 ∧ lv ≤ D ∧ g = true ∧ y + z ≤ 1048576 ∧ entF D n y d lv g z = (0, n + 1, y + z, max d lv) := by
  unfold entF at *
  split at h
  · simp at h
  · split at h
    · simp at h
    · split at h
      · simp at h
      · split at h
        · simp at h
        · rename_i h1 h2 h3 h4
          refine ⟨by omega, by omega, by simpa using h3, by omega, ?_⟩
          rw [if_neg h1, if_neg h2, if_neg h3, if_neg h4]
mutual
theorem chk_inv (D : Nat) : ∀ (v : V) (lv : Nat) (st : St), inV v → (chkV D v lv st).1 = 0 → okD D v lv ∧ (chkV D v lv st).2.1 = st.1 + ndV v ∧ (chkV D v lv st).2.2.1 = st.2.1 + byV v ∧ (chkV D v lv st).2.2.2 = max st.2.2 (lv + htV v) ∧ st.1 + ndV v ≤ 65536
  | .mk k b i s l m, lv, st, hi, h => by
    rw [inV] at hi
    rw [chkV] at h ⊢
    dsimp only at h ⊢
    split at h
    · rename_i he
      rw [if_pos he]
      obtain ⟨e1, e2, e3, e4, e5⟩ := entF_inv he
      rw [e5] at h ⊢
      dsimp only at h ⊢
      split at h
      · rename_i hq
        rw [if_pos hq]
        obtain ⟨a1, a2, a3, a4, a5⟩ := chkl_inv D l lv _ hi.2.1 (by dsimp only; omega) (by dsimp only; omega) hq
        obtain ⟨b1, b2, b3, b4, b5⟩ := chkm_inv D m lv _ hi.2.2 (by rw [a4]; dsimp only; omega) (by rw [a2]; omega) h
        dsimp only at a2 a3 a4 a5
        refine ⟨?_, ?_, ?_, ?_, ?_⟩
        · rw [okD]; exact ⟨e2, e3, hi.1, a1, b1⟩
        · rw [b2, a2, ndV]; omega
        · rw [b3, a3, byV]; omega
        · rw [b4, a4, htV]; omega
        · rw [ndV]; rw [a2] at b5; omega
      · rename_i hq; exact absurd h hq
    · rename_i he; exact absurd h he
theorem chkl_inv (D : Nat) : ∀ (l : List V) (lv : Nat) (st : St), inL l → lv ≤ st.2.2 → st.1 ≤ 65536 → (chkL D l (lv + 1) st).1 = 0 → okDL D l (lv + 1) ∧ (chkL D l (lv + 1) st).2.1 = st.1 + ndL l ∧ (chkL D l (lv + 1) st).2.2.1 = st.2.1 + byL l ∧ (chkL D l (lv + 1) st).2.2.2 = max st.2.2 (lv + htL l) ∧ st.1 + ndL l ≤ 65536
  | [], lv, st, hi, hd, hn, h => by
    rw [chkL, okDL, ndL, byL, htL]
    exact ⟨trivial, rfl, rfl, by dsimp only; omega, by omega⟩
  | x :: t, lv, st, hi, hd, hn, h => by
    rw [inL] at hi
    rw [chkL] at h ⊢
    split at h
    · rename_i he
      rw [if_pos he]
      obtain ⟨a1, a2, a3, a4, a5⟩ := chk_inv D x (lv + 1) st hi.1 he
      obtain ⟨b1, b2, b3, b4, b5⟩ := chkl_inv D t lv _ hi.2 (by rw [a4]; omega) (by rw [a2]; omega) h
      refine ⟨?_, ?_, ?_, ?_, ?_⟩
      · rw [okDL]; exact ⟨a1, b1⟩
      · rw [b2, a2, ndL]; omega
      · rw [b3, a3, byL]; omega
      · rw [b4, a4, htL]; omega
      · rw [ndL]; rw [a2] at b5; omega
    · rename_i he; exact absurd h he
theorem chkm_inv (D : Nat) : ∀ (l : List Mem) (lv : Nat) (st : St), inM l → lv ≤ st.2.2 → st.1 ≤ 65536 → (chkM D l (lv + 1) st).1 = 0 → okDM D l (lv + 1) ∧ (chkM D l (lv + 1) st).2.1 = st.1 + ndM l ∧ (chkM D l (lv + 1) st).2.2.1 = st.2.1 + byM l ∧ (chkM D l (lv + 1) st).2.2.2 = max st.2.2 (lv + htM l) ∧ st.1 + ndM l ≤ 65536
  | [], lv, st, hi, hd, hn, h => by
    rw [chkM, okDM, ndM, byM, htM]
    exact ⟨trivial, rfl, rfl, by dsimp only; omega, by omega⟩
  | (k, x) :: t, lv, st, hi, hd, hn, h => by
    rw [inM] at hi
    rw [chkM] at h ⊢
    split at h
    · rename_i he
      rw [if_pos he]
      obtain ⟨a1, a2, a3, a4, a5⟩ := chk_inv D x (lv + 1) st hi.1 he
      obtain ⟨b1, b2, b3, b4, b5⟩ := chkm_inv D t lv _ hi.2 (by rw [a4]; omega) (by rw [a2]; omega) h
      refine ⟨?_, ?_, ?_, ?_, ?_⟩
      · rw [okDM]; exact ⟨a1, b1⟩
      · rw [b2, a2, ndM]; omega
      · rw [b3, a3, byM]; omega
      · rw [b4, a4, htM]; omega
      · rw [ndM]; rw [a2] at b5; omega
    · rename_i he; exact absurd h he
end
end Go.Proofs.YtpmhdcmmlkjjmaaGreatDoor
/- JsonBack: the law's walk. -/
set_option maxRecDepth 100000
namespace Go.Proofs.YtpmhdcmmlkjjmaaGreatDoor
open Go.RowKit Go.Lib
theorem pr_zero {v : V} {z : Int} (h : (prF v z).1 = 0) : 0 ≤ z ∧ z ≤ 40 ∧ chkE v z = 0 ∧ (txtV v).length ≤ 1048576 ∧ prF v z = (0, txtV v) := by
  unfold prF at h
  split at h
  · rename_i h1; exact absurd h h1
  · rename_i h1
    have h1 : chkE v z = 0 := by simpa using h1
    split at h
    · simp at h
    · rename_i h2
      have hz : ¬ (z < 0 ∨ 40 < z) := fun q => by rw [chkE, if_pos q] at h1; cases h1
      refine ⟨by omega, by omega, h1, by omega, ?_⟩
      rw [prF, if_neg (by simp [h1]), if_neg h2]
end Go.Proofs.YtpmhdcmmlkjjmaaGreatDoor
