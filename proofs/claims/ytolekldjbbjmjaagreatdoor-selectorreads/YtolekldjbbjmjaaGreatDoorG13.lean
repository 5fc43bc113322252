/- joined: PlainX WalX -/
import Derived.Test.YtolekldjbbjmjaaGreatDoorPlainW
/- Plain facts: whatever is read is a text string, whose quoted text is no longer than what was read. -/
set_option linter.unusedSimpArgs false
set_option linter.unusedVariables false
namespace Go.Proofs.YtolekldjbbjmjaaGreatDoor.Q
theorem valid_nxt (x : UInt8) (t : List UInt8) (h : nxt (x :: t) = (t.length + 1, true)) : Lib.validD (x :: t) = true := by
  refine (valid_cons x t).2 ⟨by rw [h], ?_⟩
  rw [h]
  have e : (x :: t).drop (t.length + 1) = [] := by simp
  simp only
  rw [e]
  rfl
theorem bnd2 (b : Nat) (h : 194 ≤ b ∧ b < 224) : bnd b = (2, 128, 191) := by
  unfold bnd; repeat' split
  all_goals first | rfl | (exfalso; omega)
theorem bnd3 (b : Nat) (h : 224 ≤ b ∧ b < 240) : bnd b = (3, (if b = 224 then 160 else 128), (if b = 237 then 159 else 191)) := by
  unfold bnd; repeat' split
  all_goals first | rfl | (exfalso; omega)
theorem bnd4 (b : Nat) (h : 240 ≤ b ∧ b ≤ 244) : bnd b = (4, (if b = 240 then 144 else 128), (if b = 244 then 143 else 191)) := by
  unfold bnd; repeat' split
  all_goals first | rfl | (exfalso; omega)
theorem byteZ (z : Int) (h0 : 0 ≤ z) (h1 : z < 256) : (z.toNat.toUInt8).toNat = z.toNat := by
  simp; omega
theorem enc_valid (v : Nat) (h1 : v ≤ 1114111) (h2 : ¬ (55296 ≤ v ∧ v ≤ 57343)) : Lib.validD (Lib.encodeRune (v : Int)) = true ∧ (128 ≤ v → ∀ x ∈ Lib.encodeRune (v : Int), 128 ≤ x.toNat) := by
  unfold Lib.encodeRune
  by_cases c1 : v < 128
  · rw [Lib.encodeRuneZ_one (by omega) (by omega)]
    refine ⟨?_, by omega⟩
    rw [List.map_cons, List.map_nil, Lib.validD_cons _ _ (by rw [byteZ _ (by omega) (by omega)]; omega)]
    rfl
  by_cases c2 : v < 2048
  · rw [Lib.encodeRuneZ_two (by omega) (by omega)]
    have e0 := byteZ (192 + (v : Int) / 64) (by omega) (by omega)
    have e1 := byteZ (128 + (v : Int) % 64) (by omega) (by omega)
    simp only [List.map_cons, List.map_nil]
    generalize (192 + (v : Int) / 64).toNat.toUInt8 = x0 at *
    generalize (128 + (v : Int) % 64).toNat.toUInt8 = x1 at *
    refine ⟨valid_nxt x0 [x1] ?_, ?_⟩
    · rw [nxt_cons, bnd2 _ (by omega)]
      simp only
      rw [if_neg (by omega), nxtGo, if_neg (by omega), if_neg (by omega), nxtGo_full _ _ _ _ (by omega)]
      rfl
    · intro _ x hx
      simp at hx
      rcases hx with rfl | rfl <;> omega
  by_cases c3 : v < 65536
  · rw [Lib.encodeRuneZ_three (by omega)]
    have e0 := byteZ (224 + (v : Int) / 4096) (by omega) (by omega)
    have e1 := byteZ (128 + (v : Int) / 64 % 64) (by omega) (by omega)
    have e2 := byteZ (128 + (v : Int) % 64) (by omega) (by omega)
    simp only [List.map_cons, List.map_nil]
    generalize (224 + (v : Int) / 4096).toNat.toUInt8 = x0 at *
    generalize (128 + (v : Int) / 64 % 64).toNat.toUInt8 = x1 at *
    generalize (128 + (v : Int) % 64).toNat.toUInt8 = x2 at *
    refine ⟨valid_nxt x0 [x1, x2] ?_, ?_⟩
    · rw [nxt_cons, bnd3 _ (by omega)]
      simp only
      have a1 : ¬ (x1.toNat < (if x0.toNat = 224 then 160 else 128) ∨ (if x0.toNat = 237 then 159 else 191) < x1.toNat) := by
        split <;> split <;> omega
      rw [if_neg (by omega), nxtGo, if_neg (by omega), if_neg a1, nxtGo, if_neg (by omega), if_neg (by omega), nxtGo_full _ _ _ _ (by omega)]
      rfl
    · intro _ x hx
      simp at hx
      rcases hx with rfl | rfl | rfl <;> omega
  · rw [Lib.encodeRuneZ_four (by omega) (by omega)]
    have e0 := byteZ (240 + (v : Int) / 262144) (by omega) (by omega)
    have e1 := byteZ (128 + (v : Int) / 4096 % 64) (by omega) (by omega)
    have e2 := byteZ (128 + (v : Int) / 64 % 64) (by omega) (by omega)
    have e3 := byteZ (128 + (v : Int) % 64) (by omega) (by omega)
    simp only [List.map_cons, List.map_nil]
    generalize (240 + (v : Int) / 262144).toNat.toUInt8 = x0 at *
    generalize (128 + (v : Int) / 4096 % 64).toNat.toUInt8 = x1 at *
    generalize (128 + (v : Int) / 64 % 64).toNat.toUInt8 = x2 at *
    generalize (128 + (v : Int) % 64).toNat.toUInt8 = x3 at *
    refine ⟨valid_nxt x0 [x1, x2, x3] ?_, ?_⟩
    · rw [nxt_cons, bnd4 _ (by omega)]
      simp only
      have a1 : ¬ (x1.toNat < (if x0.toNat = 240 then 144 else 128) ∨ (if x0.toNat = 244 then 143 else 191) < x1.toNat) := by
        split <;> split <;> omega
      rw [if_neg (by omega), nxtGo, if_neg (by omega), if_neg a1, nxtGo, if_neg (by omega), if_neg (by omega), nxtGo, if_neg (by omega), if_neg (by omega), nxtGo_full _ _ _ _ (by omega)]
      rfl
    · intro _ x hx
      simp at hx
      rcases hx with rfl | rfl | rfl | rfl <;> omega
theorem said_wid : ∀ c : Fin 256, widN (saidN c.val) ≤ 2 ∨ saidN c.val = 0 := by decide +kernel
/-- what one escape says is quoted in no more bytes than it had -/
theorem esc_short (t : List UInt8) (h : (escF t).2.2 = true) : sz (Lib.encodeRune ((escF t).1 : Int)) ≤ 1 + (escF t).2.1 := by
  cases t with
  | nil => simp [escF] at h
  | cons x t =>
    rw [escF_cons] at h ⊢
    by_cases c : x.toNat = 117
    · rw [if_pos c] at h ⊢
      simp only at h ⊢
      have hn := (numF_le t).2 h
      have hen := enc_len (numF t).1
      by_cases c1 : (numF t).1 < 128
      · have e : Lib.encodeRune ((numF t).1 : Int) = [UInt8.ofNat (numF t).1] := by
          unfold Lib.encodeRune
          rw [Lib.encodeRuneZ_one (by omega) (by omega)]
          simp
        rw [e]
        have : sz [UInt8.ofNat (numF t).1] = wid (UInt8.ofNat (numF t).1) := by simp [sz, body, esc_length]
        rw [this]
        have := (widN_le (UInt8.ofNat (numF t).1).toNat).2
        unfold wid
        omega
      · have hv := (enc_valid (numF t).1 hn.2.1 hn.2.2).2 (by omega)
        unfold sz
        rw [body_hi _ hv]
        omega
    · rw [if_neg c] at h ⊢
      by_cases c2 : saidN x.toNat = 0
      · rw [if_pos c2] at h; simp at h
      · rw [if_neg c2]
        simp only
        have hs := saidN_lt x.toNat
        have e : Lib.encodeRune ((saidN x.toNat : Nat) : Int) = [UInt8.ofNat (saidN x.toNat)] := by
          unfold Lib.encodeRune
          rw [Lib.encodeRuneZ_one (by omega) (by omega)]
          simp
        have t1 : (UInt8.ofNat (saidN x.toNat)).toNat = saidN x.toNat := by simp; omega
        have e2 : sz [UInt8.ofNat (saidN x.toNat)] = widN (saidN x.toNat) := by simp [sz, body, esc_length, wid, t1]
        rw [e, e2]
        have := said_wid ⟨x.toNat, x.toNat_lt⟩
        simp only at this
        omega
theorem sz_app (a b : List UInt8) : sz (a ++ b) = sz a + sz b := by unfold sz; rw [body_app, List.length_append]
/-- one step: what it says is a text string, quoted in no more bytes -/
theorem stp_good (t : List UInt8) (h : (stp t).1 = 2) : Lib.validD (stp t).2.1 = true ∧ sz (stp t).2.1 ≤ (stp t).2.2.1 := by
  cases t with
  | nil => simp [stp] at h
  | cons x t =>
    rw [stp_cons] at h ⊢
    by_cases c0 : x.toNat < 32
    · rw [if_pos c0] at h; simp at h
    rw [if_neg c0] at h ⊢
    by_cases c1 : x.toNat = 34
    · rw [if_pos c1] at h; simp at h
    rw [if_neg c1] at h ⊢
    by_cases c2 : x.toNat = 92
    · rw [if_pos c2] at h ⊢
      by_cases c3 : (escF t).2.2 = true
      · rw [if_pos c3]
        simp only
        have hv := (escF_le t).2 c3
        exact ⟨(enc_valid _ hv.1 hv.2.1).1, esc_short t c3⟩
      · rw [if_neg c3] at h; simp at h
    · rw [if_neg c2] at h ⊢
      by_cases c3 : (nxt (x :: t)).2 = true
      · rw [if_pos c3]
        simp only
        refine ⟨valid_take x t c3, ?_⟩
        have hp := nxt_pre x t c3 []
        have hlt : ((x :: t).take (nxt (x :: t)).1).length = (nxt (x :: t)).1 := by simp; omega
        by_cases c4 : x.toNat < 128
        · have hn : nxt (x :: t) = (1, true) := by
            rw [nxt_cons]
            have e1 : bnd x.toNat = (1, 0, 0) := by simp [bnd, c4]
            rw [e1]
            simp only
            rw [if_neg (by omega), nxtGo_full 1 1 0 0 (by omega)]
          rw [hn]
          have e : letN x.toNat = 0 := by
            unfold letN
            repeat' split
            all_goals first | omega | rfl
          simp [sz, body, esc_length, wid, widN, e, c0]
        · unfold sz
          rw [body_hi _ (hp.2.2.2 (by omega)), hlt]
          exact Nat.le_refl _
      · rw [if_neg c3] at h; simp at h
theorem unq_inv : ∀ (f : Nat) (t : List UInt8) (k : Nat) (out : List UInt8), t.length < f → Lib.validD out = true →
    (unq f t k out).2.1 ≤ k + t.length ∧ ((unq f t k out).2.2 = 0 → Lib.validD (unq f t k out).1 = true ∧ k + 1 ≤ (unq f t k out).2.1 ∧ sz (unq f t k out).1 + (k + 1) ≤ sz out + (unq f t k out).2.1 ∧ (unq f t k out).1.length + k ≤ out.length + (unq f t k out).2.1)
  | 0, t, k, out, hf, hv => by omega
  | f + 1, t, k, out, hf, hv => by
    have hs := stp_le t
    have he : (stp t).1 = 0 → (stp t).2.2.2 ≠ 0 := by
      intro h0
      cases t with
      | nil => simp [stp]
      | cons x t =>
        rw [stp_cons] at h0 ⊢
        repeat' split
        all_goals first | (simp; done) | (simp_all; done)
    rw [unq]
    by_cases c0 : (stp t).1 = 0
    · rw [if_pos c0]
      refine ⟨by simp only; omega, fun h => absurd h (he c0)⟩
    · rw [if_neg c0]
      have h1 := hs.2.1 c0
      by_cases c1 : (stp t).1 = 1
      · rw [if_pos c1]
        simp only
        refine ⟨by omega, fun _ => ⟨hv, by omega, by omega, by omega⟩⟩
      · rw [if_neg c1]
        have h2 : (stp t).1 = 2 := by omega
        have hg := stp_good t h2
        have hl : (t.drop (stp t).2.2.1).length = t.length - (stp t).2.2.1 := by simp
        have ih := unq_inv f (t.drop (stp t).2.2.1) (k + (stp t).2.2.1) (out ++ (stp t).2.1) (by omega) (valid_app _ out _ (Nat.le_refl _) hv hg.1)
        rw [hl, sz_app, List.length_append] at ih
        refine ⟨by omega, fun h => ?_⟩
        have := ih.2 h
        refine ⟨this.1, by omega, by omega, by omega⟩
theorem unqAll_inv (l : List UInt8) (z : Int) : (unqAll l z).2.1 ≤ l.length ∧ ((unqAll l z).2.2 = 0 → Lib.validD (unqAll l z).1 = true ∧ 0 ≤ z ∧ z + 1 < (unqAll l z).2.1 ∧ ((qt (unqAll l z).1).length : Int) ≤ (unqAll l z).2.1 - z ∧ (unqAll l z).1.length ≤ l.length) := by
  rw [unqAll]
  by_cases c : z < 0 ∨ (l.length : Int) < z
  · rw [if_pos c]; simp
  · rw [if_neg c]
    by_cases d : (l.drop z.toNat).head? = some 34
    · rw [if_pos d]
      have hlt : z.toNat < l.length := by
        rcases Nat.lt_or_ge z.toNat l.length with h | h
        · exact h
        · rw [List.drop_eq_nil_iff.2 h] at d; cases d
      have hl : (l.drop (z.toNat + 1)).length = l.length - (z.toNat + 1) := by simp
      have h := unq_inv (l.length + 1) (l.drop (z.toNat + 1)) (z.toNat + 1) [] (by omega) rfl
      rw [hl] at h
      refine ⟨by omega, fun g => ?_⟩
      have h2 := h.2 g
      rw [qt_length]
      have hz0 : sz [] = 0 := rfl
      have hn0 : ([] : List UInt8).length = 0 := rfl
      refine ⟨h2.1, by omega, by omega, by omega, by omega⟩
    · rw [if_neg d]
      simp
      omega
end Go.Proofs.YtolekldjbbjmjaaGreatDoor.Q
/- more of lists. -/
namespace Go.Proofs.YtolekldjbbjmjaaGreatDoor
open Go.RowKit Go.Lib
theorem drop_consW (s : ByteArray) (k : Nat) (h : k < s.size) : s.data.toList.drop k = s[k] :: s.data.toList.drop (k + 1) := by
  rw [List.drop_eq_getElem_cons (by simpa using h)]
  rfl
theorem drop_endW (s : ByteArray) (k : Nat) (h : s.size ≤ k) : s.data.toList.drop k = [] := by
  rw [List.drop_eq_nil_iff]
  simpa using h
end Go.Proofs.YtolekldjbbjmjaaGreatDoor
