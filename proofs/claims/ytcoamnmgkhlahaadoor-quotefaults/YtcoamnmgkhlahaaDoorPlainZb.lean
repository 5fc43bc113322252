/- Plain facts on faults: of the whole of a reading. -/
import Derived.Test.YtcoamnmgkhlahaaDoorPlainZ
import Derived.Test.YtcoamnmgkhlahaaDoorRdH
set_option linter.unusedSimpArgs false
set_option linter.unusedVariables false
namespace Go.Proofs.YtcoamnmgkhlahaaDoor.Q

theorem unq_close (g : Nat) (k : Nat) (out : List UInt8) : unq (g + 1) [34] k out = (out, k + 1, 0) := by
  have e : stp [(34 : UInt8)] = (1, [], 1, 0) := by rw [stp_cons, if_neg (by decide), if_pos (by decide)]
  rw [unq_step, e]
  rfl

theorem unq_fault : ∀ (f : Nat) (t : List UInt8) (k : Nat) (out : List UInt8), t.length < f → (unq f t k out).2.2 ≠ 0 →
    ∃ m, (unq f t k out).2.1 = k + m ∧ m ≤ t.length ∧ (m < t.length → ∀ (u : List UInt8) (f' : Nat), (t.take (m + 1) ++ u).length < f' → unq f' (t.take (m + 1) ++ u) k out = unq f t k out) ∧
      ∃ y ∈ allEnds, ∀ f' : Nat, (t.take m ++ (y ++ [34])).length < f' → (unq f' (t.take m ++ (y ++ [34])) k out).2.2 = 0
  | 0, t, k, out, hf, h => by omega
  | f + 1, t, k, out, hf, h => by
    have hle := stp_le t
    rw [unq_step] at h ⊢
    by_cases c0 : (stp t).1 = 0
    · rw [if_pos c0] at h ⊢
      refine ⟨(stp t).2.2.1, rfl, hle.1, fun hl u f' hf' => ?_, ?_⟩
      · obtain ⟨g, rfl⟩ : ∃ g, f' = g + 1 := ⟨f' - 1, by omega⟩
        rw [unq_step, stp_bad_pre t c0 hl, if_pos c0]
      · obtain ⟨y, y1, y2⟩ := stp_end t c0
        refine ⟨y, y1, fun f' hf' => ?_⟩
        obtain ⟨g, rfl⟩ : ∃ g, f' = g + 1 := ⟨f' - 1, by omega⟩
        rcases y2 with ⟨e1, rfl⟩ | y2
        · rw [e1]
          show (unq (g + 1) [34] k out).2.2 = 0
          rw [unq_close]
        · obtain ⟨b, hb⟩ := y2 [34]
          have hl : (t.take (stp t).2.2.1).length = (stp t).2.2.1 := by rw [List.length_take]; omega
          have hd : (t.take (stp t).2.2.1 ++ (y ++ [34])).drop ((stp t).2.2.1 + y.length) = [34] := by
            rw [← List.append_assoc, List.drop_append_of_le_length (by rw [List.length_append, hl]; omega), List.drop_of_length_le (by rw [List.length_append, hl]; omega)]; rfl
          rw [unq_step, hb]
          simp only
          rw [if_neg (by omega), if_neg (by omega), hd]
          simp only [List.length_append, List.length_cons, List.length_nil] at hf'
          obtain ⟨g2, rfl⟩ : ∃ g2, g = g2 + 1 := ⟨g - 1, by omega⟩
          rw [unq_close]
    · rw [if_neg c0] at h ⊢
      by_cases c1 : (stp t).1 = 1
      · rw [if_pos c1] at h; simp at h
      · rw [if_neg c1] at h ⊢
        have c2 : (stp t).1 = 2 := by omega
        have hn := hle.2.1 c0
        obtain ⟨m, i1, i2, i3, y, y1, y2⟩ := unq_fault f (t.drop (stp t).2.2.1) (k + (stp t).2.2.1) (out ++ (stp t).2.1) (by rw [List.length_drop]; omega) h
        have hl : (t.take (stp t).2.2.1).length = (stp t).2.2.1 := by rw [List.length_take]; omega
        have ht : ∀ q, t.take ((stp t).2.2.1 + q) = t.take (stp t).2.2.1 ++ (t.drop (stp t).2.2.1).take q := fun q => by rw [← List.take_add]
        have hgo : ∀ (X : List UInt8) (g : Nat), unq (g + 1) (t.take (stp t).2.2.1 ++ X) k out = unq g X (k + (stp t).2.2.1) (out ++ (stp t).2.1) := by
          intro X g
          rw [unq_step, stp_good_pre t c2, if_neg c0, if_neg c1]
          congr 1
          rw [List.drop_append_of_le_length (by omega), List.drop_of_length_le (by omega)]; rfl
        have hld : (t.drop (stp t).2.2.1).length = t.length - (stp t).2.2.1 := List.length_drop
        refine ⟨(stp t).2.2.1 + m, by rw [i1]; omega, by omega, fun hm u f' hf' => ?_, y, y1, fun f' hf' => ?_⟩
        · rw [show (stp t).2.2.1 + m + 1 = (stp t).2.2.1 + (m + 1) by omega, ht, List.append_assoc] at hf' ⊢
          obtain ⟨g, rfl⟩ : ∃ g, f' = g + 1 := ⟨f' - 1, by omega⟩
          rw [List.length_append, hl] at hf'
          rw [hgo, i3 (by omega) u g (by omega)]
        · rw [ht, List.append_assoc] at hf' ⊢
          obtain ⟨g, rfl⟩ : ∃ g, f' = g + 1 := ⟨f' - 1, by omega⟩
          rw [List.length_append, hl] at hf'
          rw [hgo]
          exact y2 g (by omega)

theorem unqAll_at (a X : List UInt8) : unqAll (a ++ 34 :: X) (a.length : Int) = unq ((a ++ 34 :: X).length + 1) X (a.length + 1) [] := by
  have e : Int.toNat (a.length : Int) = a.length := by omega
  have d : (a ++ 34 :: X).drop a.length = 34 :: X := by rw [List.drop_append_of_le_length (by omega), List.drop_of_length_le (by omega)]; rfl
  have d2 : (a ++ 34 :: X).drop (a.length + 1) = X := by rw [← List.drop_drop, d]; rfl
  rw [unqAll, if_neg (by rw [List.length_append]; omega), e, d, if_pos (show (34 :: X).head? = some 34 from rfl), d2]
theorem unqAll_not (l : List UInt8) (k : Nat) (hk : k ≤ l.length) (h : (l.drop k).head? ≠ some 34) : unqAll l (k : Int) = ([], k, 10) := by
  have e : Int.toNat (k : Int) = k := by omega
  rw [unqAll, if_neg (by omega), e, if_neg h]

theorem unqAll_fault (l : List UInt8) (z : Int) (h : (unqAll l z).2.2 = 10 ∨ (unqAll l z).2.2 = 11 ∨ (unqAll l z).2.2 = 12) :
    0 ≤ z ∧ z ≤ (unqAll l z).2.1 ∧ (unqAll l z).2.1 ≤ l.length ∧ ((unqAll l z).2.1 < l.length → ∀ u, unqAll (l.take ((unqAll l z).2.1 + 1) ++ u) z = unqAll l z) ∧
      (((unqAll l z).2.1 : Int) = z → (unqAll l z).2.2 = 10) ∧ (((unqAll l z).2.1 : Int) ≠ z → ∃ y ∈ allEnds, (unqAll (l.take (unqAll l z).2.1 ++ (y ++ [34])) z).2.2 = 0) := by
  by_cases ho : z < 0 ∨ (l.length : Int) < z
  · rw [unqAll_out l z ho] at h; simp at h
  obtain ⟨k, rfl⟩ : ∃ k : Nat, z = (k : Int) := ⟨z.toNat, by omega⟩
  have hk : k ≤ l.length := by omega
  by_cases hh : (l.drop k).head? = some 34
  · obtain ⟨X, hX⟩ : ∃ X, l.drop k = 34 :: X := by
      cases e : l.drop k with
      | nil => rw [e] at hh; simp at hh
      | cons x X => rw [e] at hh; simp at hh; exact ⟨X, by rw [hh]⟩
    have hl : l = l.take k ++ 34 :: X := by rw [← hX, List.take_append_drop]
    have ha : (l.take k).length = k := by rw [List.length_take]; omega
    generalize l.take k = a at hl ha
    subst hl ha
    clear hh hX hk ho
    have hu := unqAll_at a X
    rw [hu] at h ⊢
    have hlen : (a ++ 34 :: X).length = a.length + 1 + X.length := by simp; omega
    obtain ⟨m, i1, i2, i3, y, y1, y2⟩ := unq_fault ((a ++ 34 :: X).length + 1) X (a.length + 1) [] (by rw [hlen]; omega) (by omega)
    have ht : ∀ q, (a ++ 34 :: X).take (a.length + 1 + q) = a ++ 34 :: X.take q := fun q => by
      rw [List.take_append, List.take_of_length_le (by omega), show a.length + 1 + q - a.length = q + 1 by omega, List.take_succ_cons]
    rw [i1]
    refine ⟨by omega, by omega, by rw [hlen]; omega, fun hm u => ?_, fun e => by omega, fun _ => ⟨y, y1, ?_⟩⟩
    · rw [show a.length + 1 + m + 1 = a.length + 1 + (m + 1) by omega, ht, List.append_assoc, List.cons_append, unqAll_at, i3 (by omega) u _ (by simp; omega)]
    · rw [ht, List.append_assoc, List.cons_append, unqAll_at]
      exact y2 _ (by simp; omega)
  · have e := unqAll_not l k hk hh
    rw [e]
    refine ⟨by omega, Int.le_refl _, hk, fun hm u => ?_, fun _ => rfl, fun c => absurd rfl c⟩
    apply unqAll_not
    · show k ≤ _
      have : k < l.length := hm
      simp; omega
    · have hm' : k < l.length := hm
      intro c
      apply hh
      rw [← c]
      have e2 : (l.take (k + 1) ++ u).drop k = l[k] :: u := by
        rw [List.drop_append_of_le_length (by rw [List.length_take]; omega), List.take_succ_eq_append_getElem hm', List.drop_append_of_le_length (by rw [List.length_take]; omega), List.drop_of_length_le (by rw [List.length_take]; omega)]
        rfl
      show _ = ((l.take (k + 1) ++ u).drop k).head?
      rw [e2, List.drop_eq_getElem_cons hm']
      rfl
end Go.Proofs.YtcoamnmgkhlahaaDoor.Q
