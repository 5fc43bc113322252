import Derived.Test.YtolekldjbbjmjaaGreatDoorG8
import Derived.Lib.MapLaws
/- Plain facts on reading: digits, escapes, one step of a reader, the whole of it; how the library's decoder stands to sequences. -/
set_option linter.unusedSimpArgs false
set_option linter.unusedVariables false
namespace Go.Proofs.YtolekldjbbjmjaaGreatDoor.Q
theorem dec_bad (b : UInt8) (t : List UInt8) (hb : 128 ≤ b.toNat) (h : (nxt (b :: t)).2 = false) : Lib.decodeL (b :: t) = (65533, 1) := by
  have k := nxt_check b t hb
  rw [h] at k
  rw [Lib.decodeL_N]
  rcases Lib.check_decode (b :: t).length b.toNat (t.getD 0 0).toNat (t.getD 1 0).toNat (t.getD 2 0).toNat (by simp) hb b.toNat_lt (t.getD 0 0).toNat_lt (t.getD 1 0).toNat_lt (t.getD 2 0).toNat_lt with ⟨hc, hd⟩ | ⟨m, hm, hc, hd⟩
  · exact hd
  · rw [List.length_cons, k] at hc
    simp at hc
theorem dec_good (b : UInt8) (t : List UInt8) (hb : 128 ≤ b.toNat) (h : (nxt (b :: t)).2 = true) :
    (Lib.decodeL (b :: t)).2 = (nxt (b :: t)).1 ∧ 2 ≤ (nxt (b :: t)).1 ∧ Lib.encodeRune ((Lib.decodeL (b :: t)).1 : Int) = (b :: t).take (nxt (b :: t)).1 := by
  have k := nxt_check b t hb
  rw [h] at k
  have e : (Lib.decodeL (b :: t)).2 = (nxt (b :: t)).1 ∧ 2 ≤ (nxt (b :: t)).1 := by
    rw [Lib.decodeL_N]
    rcases Lib.check_decode (b :: t).length b.toNat (t.getD 0 0).toNat (t.getD 1 0).toNat (t.getD 2 0).toNat (by simp) hb b.toNat_lt (t.getD 0 0).toNat_lt (t.getD 1 0).toNat_lt (t.getD 2 0).toNat_lt with ⟨hc, hd⟩ | ⟨m, hm, hc, hd⟩
    · rw [List.length_cons, k] at hc
      simp at hc
    · rw [List.length_cons, k] at hc
      simp at hc
      subst hc
      exact ⟨hd, hm⟩
  refine ⟨e.1, e.2, ?_⟩
  rw [← e.1]
  exact Lib.encode_decode (b :: t) (by simp) (by omega)
theorem dec_le (l : List UInt8) : (Lib.decodeL l).1 ≤ 1114111 := by
  rw [Lib.decodeL_N]
  have k0 := (l.getD 0 0).toNat_lt
  unfold Lib.decodeN
  repeat' split
  all_goals simp only
  all_goals omega
/-- utf8.FullRuneInString -/
def full : List UInt8 → Bool
  | [] => false
  | b :: t => decide (Lib.firstT b.toNat % 8 ≤ t.length + 1) || (decide (1 < t.length + 1) && (decide ((t.getD 0 0).toNat < Lib.accLo (Lib.firstT b.toNat / 16)) || decide (Lib.accHi (Lib.firstT b.toNat / 16) < (t.getD 0 0).toNat))) || (decide (2 < t.length + 1) && (decide ((t.getD 1 0).toNat < 128) || decide (191 < (t.getD 1 0).toNat)))
theorem full_nxt (b : UInt8) (t : List UInt8) (hb : 128 ≤ b.toNat) (h : (nxt (b :: t)).2 = false) :
    (∀ j, j < (nxt (b :: t)).1 → full ((b :: t).take (j + 1)) = false) ∧ ((nxt (b :: t)).1 = (b :: t).length ∨ full ((b :: t).take ((nxt (b :: t)).1 + 1)) = true) := by
  obtain ⟨h1, h2, h3⟩ := bnd_tab ⟨b.toNat, b.toNat_lt⟩ hb
  simp only at h1 h2 h3
  rw [nxt_cons] at h ⊢
  generalize hB : bnd b.toNat = B at *
  obtain ⟨n, lo, hi⟩ := B
  simp only at h1 h2 h3 h ⊢
  have hn1 : Lib.firstT b.toNat % 8 = 1 ∨ Lib.firstT b.toNat % 8 = n := by split at h1 <;> omega
  have hn0 : n = 0 → Lib.firstT b.toNat % 8 ≤ 1 := by intro e; split at h1 <;> omega
  have hnn : n ≠ 0 → Lib.firstT b.toNat % 8 = n := by intro e; split at h1 <;> omega
  rcases h2 with rfl | rfl | rfl | rfl
  · have e := hn0 rfl
    simp [full, e]
  · have e := hnn (by omega)
    obtain ⟨rfl, rfl⟩ := h3 (by omega)
    rcases t with _ | ⟨c1, t⟩
    · simp [nxtGo, full, e]
    · by_cases c : c1.toNat < Lib.accLo (Lib.firstT b.toNat / 16) ∨ Lib.accHi (Lib.firstT b.toNat / 16) < c1.toNat
      · simp [nxtGo, c, full, e]
      · exfalso; revert h; cases t <;> simp [nxtGo, c]
  · have e := hnn (by omega)
    obtain ⟨rfl, rfl⟩ := h3 (by omega)
    rcases t with _ | ⟨c1, t⟩
    · simp [nxtGo, full, e]
    · by_cases c : c1.toNat < Lib.accLo (Lib.firstT b.toNat / 16) ∨ Lib.accHi (Lib.firstT b.toNat / 16) < c1.toNat
      · rcases c with c | c <;> simp [nxtGo, c, full, e]
      · have c' := not_or.1 c
        rcases t with _ | ⟨c2, t⟩
        · simp only [nxtGo, c, if_false, List.length_cons, List.length_nil]
          refine ⟨?_, by simp⟩
          intro j hj
          have : j = 0 ∨ j = 1 := by simp at hj; omega
          rcases this with rfl | rfl <;> simp [full, e, c'.1, c'.2] <;> omega
        · by_cases d : c2.toNat < 128 ∨ 191 < c2.toNat
          · simp only [nxtGo, c, d, if_false, if_true, List.length_cons]
            refine ⟨?_, by simp [full, e]⟩
            intro j hj
            have : j = 0 ∨ j = 1 := by simp at hj; omega
            rcases this with rfl | rfl <;> simp [full, e, c'.1, c'.2] <;> omega
          · exfalso; revert h; cases t <;> simp [nxtGo, c, d]
  · have e := hnn (by omega)
    obtain ⟨rfl, rfl⟩ := h3 (by omega)
    rcases t with _ | ⟨c1, t⟩
    · simp [nxtGo, full, e]
    · by_cases c : c1.toNat < Lib.accLo (Lib.firstT b.toNat / 16) ∨ Lib.accHi (Lib.firstT b.toNat / 16) < c1.toNat
      · rcases c with c | c <;> simp [nxtGo, c, full, e]
      · have c' := not_or.1 c
        rcases t with _ | ⟨c2, t⟩
        · simp only [nxtGo, c, if_false, List.length_cons, List.length_nil]
          refine ⟨?_, by simp⟩
          intro j hj
          have : j = 0 ∨ j = 1 := by simp at hj; omega
          rcases this with rfl | rfl <;> simp [full, e, c'.1, c'.2] <;> omega
        · by_cases d : c2.toNat < 128 ∨ 191 < c2.toNat
          · simp only [nxtGo, c, d, if_false, if_true, List.length_cons]
            refine ⟨?_, ?_⟩
            · intro j hj
              have : j = 0 ∨ j = 1 := by simp at hj; omega
              rcases this with rfl | rfl <;> simp [full, e, c'.1, c'.2] <;> omega
            · right; rcases d with d | d <;> simp [full, e, d]
          · have d' := not_or.1 d
            rcases t with _ | ⟨c3, t⟩
            · simp only [nxtGo, c, d, if_false, List.length_cons, List.length_nil]
              refine ⟨?_, by simp⟩
              intro j hj
              have : j = 0 ∨ j = 1 ∨ j = 2 := by simp at hj; omega
              rcases this with rfl | rfl | rfl <;> simp [full, e, c'.1, c'.2, d'.1, d'.2] <;> omega
            · by_cases f : c3.toNat < 128 ∨ 191 < c3.toNat
              · simp only [nxtGo, c, d, f, if_false, if_true, List.length_cons]
                refine ⟨?_, by simp [full, e]⟩
                intro j hj
                have : j = 0 ∨ j = 1 ∨ j = 2 := by simp at hj; omega
                rcases this with rfl | rfl | rfl <;> simp [full, e, c'.1, c'.2, d'.1, d'.2] <;> omega
              · exfalso; revert h; cases t <;> simp [nxtGo, c, d, f]
end Go.Proofs.YtolekldjbbjmjaaGreatDoor.Q
