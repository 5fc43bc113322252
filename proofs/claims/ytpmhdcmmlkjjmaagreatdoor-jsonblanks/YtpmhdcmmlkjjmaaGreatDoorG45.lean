/- joined: JoA JoB -/
import Derived.Test.YtpmhdcmmlkjjmaaGreatDoorG44
/- a quoted string that is cut off is refused: plain. -/
set_option linter.unusedSimpArgs false
set_option linter.unusedVariables false
set_option maxRecDepth 100000
namespace Go.Proofs.YtpmhdcmmlkjjmaaGreatDoor.Q
open Go.RowKit Go.Lib
theorem digs_app (aw : Bool) : ∀ (r i c : Nat) (t u : List UInt8), (digs aw r i c t).2.2 = true → digs aw r i c (t ++ u) = digs aw r i c t
  | 0, i, c, t, u, h => by rw [digs, digs]
  | r + 1, i, c, [], u, h => by rw [digs] at h; cases h
  | r + 1, i, c, x :: t, u, h => by
    rw [List.cons_append]
    rw [digs] at h ⊢
    rw [digs]
    split at h
    · cases h
    · rename_i hc
      rw [if_neg hc, if_neg hc]
      exact digs_app aw r _ _ t u h
theorem numF_app (t u : List UInt8) (h : (numF t).2.2 = true) : numF (t ++ u) = numF t := by
  have hd : (digs false 4 0 0 t).2.2 = true := by
    cases hq : (digs false 4 0 0 t).2.2 with
    | true => rfl
    | false => rw [numF, if_pos hq] at h; cases h
  have hl := (digs_le false 4 0 0 t)
  have h4 : 4 ≤ t.length := by have := hl.2.2.2 hd; omega
  have e := digs_app false 4 0 0 t u hd
  have ed : (t ++ u).drop 4 = t.drop 4 ++ u := List.drop_append_of_le_length h4
  have hn : ¬ (digs false 4 0 0 t).2.2 = false := by rw [hd]; simp
  rw [numF, if_neg hn] at h
  conv => lhs; rw [numF, e, ed, if_neg hn]
  conv => rhs; rw [numF, if_neg hn]
  split at h
  · rename_i hs
    rw [if_pos hs, if_pos hs]
    cases hx : t.drop 4 with
    | nil => rw [hx] at h; cases h
    | cons x r =>
      rw [hx] at h
      dsimp only at h
      rw [List.cons_append]
      dsimp only
      split at h
      · cases h
      · rename_i h92
        rw [if_neg h92, if_neg h92]
        cases r with
        | nil => cases h
        | cons y r2 =>
          dsimp only at h
          rw [List.cons_append]
          dsimp only
          split at h
          · cases h
          · rename_i h117
            rw [if_neg h117, if_neg h117]
            split at h
            · cases h
            · rename_i hq
              have hq' : (digs true 4 0 0 r2).2.2 = true := by simpa using hq
              rw [digs_app true 4 0 0 r2 u hq']
  · rename_i hs
    rw [if_neg hs, if_neg hs]
theorem escF_app (t u : List UInt8) (h : (escF t).2.2 = true) : escF (t ++ u) = escF t := by
  cases t with
  | nil => rw [escF] at h; cases h
  | cons x t =>
    rw [List.cons_append, escF_cons, escF_cons]
    rw [escF_cons] at h
    split at h
    · rename_i hx
      rw [if_pos hx, if_pos hx, numF_app t u h]
    · rename_i hx
      rw [if_neg hx, if_neg hx]
theorem stp_app (t u : List UInt8) (h : ¬ (stp t).1 = 0) : stp (t ++ u) = stp t := by
  cases t with
  | nil => rw [stp] at h; simp at h
  | cons x t =>
    rw [List.cons_append, stp_cons, stp_cons]
    rw [stp_cons] at h
    split at h
    · simp at h
    · rename_i h1
      rw [if_neg h1, if_neg h1]
      split at h
      · rename_i h2; rw [if_pos h2, if_pos h2]
      · rename_i h2
        rw [if_neg h2, if_neg h2]
        split at h
        · rename_i h3
          rw [if_pos h3, if_pos h3]
          split at h
          · rename_i h4
            rw [escF_app t u h4]
          · simp at h
        · rename_i h3
          rw [if_neg h3, if_neg h3]
          split at h
          · rename_i h4
            have hp := nxt_pre x t h4 (t.drop ((nxt (x :: t)).1 - 1) ++ u)
            have hle := nxt_le (x :: t)
            have h1' := hle.2.2 h4
            have e : (x :: t).take (nxt (x :: t)).1 ++ (t.drop ((nxt (x :: t)).1 - 1) ++ u) = x :: (t ++ u) := by
              have e1 : (x :: t).drop (nxt (x :: t)).1 = t.drop ((nxt (x :: t)).1 - 1) := by
                obtain ⟨q, hq⟩ : ∃ q, (nxt (x :: t)).1 = q + 1 := ⟨(nxt (x :: t)).1 - 1, by omega⟩
                rw [hq]; simp
              rw [← e1, ← List.append_assoc, List.take_append_drop, List.cons_append]
            rw [e] at hp
            rw [hp.1, if_pos rfl, if_pos h4]
            rw [← List.cons_append, List.take_append_of_le_length hle.1]
          · simp at h
theorem unq_app : ∀ (f : Nat) (t u : List UInt8) (k : Nat) (out : List UInt8), t.length < f → (unq f t k out).2.2 = 0 → unq f (t ++ u) k out = unq f t k out
  | 0, t, u, k, out, hf, h => by omega
  | f + 1, t, u, k, out, hf, h => by
    rw [unq] at h ⊢
    rw [unq]
    by_cases c0 : (stp t).1 = 0
    · rw [if_pos c0] at h
      exfalso
      cases t with
      | nil => simp [stp] at h
      | cons x t =>
        rw [stp_cons] at c0 h
        repeat' split at h
        all_goals first | (simp at h; done) | (simp_all; done)
    · rw [if_neg c0] at h
      rw [stp_app t u c0, if_neg c0, if_neg c0]
      split at h
      · rename_i c1; rw [if_pos c1, if_pos c1]
      · rename_i c1
        rw [if_neg c1, if_neg c1]
        have hs := stp_le t
        have h1 := hs.2.1 c0
        rw [List.drop_append_of_le_length hs.1]
        exact unq_app f _ u _ _ (by rw [List.length_drop]; omega) h
/-- what is wrong is told by one of three numbers -/
theorem unq_code : ∀ (f : Nat) (t : List UInt8) (k : Nat) (out : List UInt8), (unq f t k out).2.2 = 0 ∨ (unq f t k out).2.2 = 10 ∨ (unq f t k out).2.2 = 11 ∨ (unq f t k out).2.2 = 12
  | 0, t, k, out => .inl rfl
  | f + 1, t, k, out => by
    rw [unq]
    split
    · rename_i c0
      dsimp only
      cases t with
      | nil => simp [stp]
      | cons x t =>
        rw [stp_cons]
        repeat' split
        all_goals simp
    · split
      · exact .inl rfl
      · exact unq_code f _ _ _
/-- the beginning of a quoted string is none -/
theorem unq_cut (s : List UInt8) (hv : Lib.validD s = true) (p : List UInt8) (j : Nat) (hj : j ≤ (body s).length) (hp : p = (body s ++ [34]).take j) (f k : Nat) (hf : (body s).length + 1 ≤ f) : ¬ (unq f p k []).2.2 = 0 := fun h => by
  have hlp : p.length = j := by rw [hp, List.length_take]; simp; omega
  have e := unq_app f p ((body s ++ [34]).drop j) k [] (by omega) h
  rw [hp, List.take_append_drop] at e
  have hb := back s.length s (Nat.le_refl _) hv f k [] [] hf
  rw [hb, ← hp] at e
  have hi := (unq_inv f p k [] (by omega) rfl).1
  rw [← e] at hi
  dsimp only at hi
  omega
end Go.Proofs.YtpmhdcmmlkjjmaaGreatDoor.Q
namespace Go.Proofs.YtpmhdcmmlkjjmaaGreatDoor
open Go.RowKit Go.Lib
/-- of a quoted string that is cut off: one of three numbers, at a place of the text -/
theorem quo_cut {L l s : List UInt8} {k cut : Nat} {x : ByteArray} (h : L.drop k = Q.qt x.data.toList ++ s) (hv : validD x.data.toList = true) (hl : l = L.take cut) (hc : cut ≤ L.length) (h1 : k < cut) (h2 : cut < k + (Q.qt x.data.toList).length) :
    ∃ f : Flt, quoJ l k = .error f ∧ f.1 ≤ cut ∧ (f.2 = 10 ∨ f.2 = 11 ∨ f.2 = 12) := by
  have hll : l.length = cut := by rw [hl, List.length_take]; omega
  have e : l.drop k = (Q.qt x.data.toList ++ s).take (cut - k) := by rw [hl, List.drop_take, h]
  have eq : l.drop k = 34 :: (Q.body x.data.toList ++ [34]).take (cut - k - 1) := by
    rw [e, Q.qt, List.cons_append]
    obtain ⟨q, hq⟩ : ∃ q, cut - k = q + 1 := ⟨cut - k - 1, by omega⟩
    rw [hq, List.take_succ_cons]
    rw [Q.qt_length] at h2
    have : q ≤ (Q.body x.data.toList ++ [34]).length := by simp; show q ≤ Q.sz _ + 1; omega
    rw [List.take_append_of_le_length this]
    rfl
  have hq2 : cut - k - 1 ≤ (Q.body x.data.toList).length := by rw [Q.qt_length] at h2; show _ ≤ Q.sz _; omega
  obtain ⟨hk, _, hd⟩ := drop_cons eq
  have hun : Q.unqAll l (k : Int) = Q.unq (l.length + 1) (l.drop (k + 1)) (k + 1) [] := by
    rw [Q.unqAll, if_neg (by omega), Int.toNat_natCast, if_pos (by rw [eq]; rfl)]
  have hne : ¬ (Q.unqAll l (k : Int)).2.2 = 0 := by
    rw [hun, hd]
    intro hz
    -- more fuel than that of the text changes nothing
    have hbig : (Q.body x.data.toList).length + 1 ≤ (l.length + 1) + (Q.body x.data.toList).length := by omega
    refine Q.unq_cut x.data.toList hv _ (cut - k - 1) hq2 rfl ((l.length + 1) + (Q.body x.data.toList).length) (k + 1) hbig ?_
    have fuel : ∀ (f g : Nat) (t : List UInt8) (k : Nat) (out : List UInt8), t.length < f → Q.unq (f + g) t k out = Q.unq f t k out := by
      intro f
      induction f with
      | zero => intro g t k out h; omega
      | succ f ih =>
        intro g t k out h
        have ef : f + 1 + g = (f + g) + 1 := by omega
        rw [ef, Q.unq, Q.unq]
        by_cases c0 : (Q.stp t).1 = 0
        · rw [if_pos c0, if_pos c0]
        · rw [if_neg c0, if_neg c0]
          by_cases c1 : (Q.stp t).1 = 1
          · rw [if_pos c1, if_pos c1]
          · rw [if_neg c1, if_neg c1]
            have hs := Q.stp_le t
            have h1 := hs.2.1 c0
            exact ih g _ _ _ (by rw [List.length_drop]; omega)
    rw [fuel (l.length + 1) _ _ _ _ (by rw [← hd, List.length_drop]; omega)]
    exact hz
  refine ⟨((Q.unqAll l (k : Int)).2.1, (Q.unqAll l (k : Int)).2.2), ?_, ?_, ?_⟩
  · rw [quoJ, if_neg hne]
  · have := (Q.unqAll_inv l (k : Int)).1
    dsimp only
    omega
  · dsimp only
    rw [hun] at hne ⊢
    rcases Q.unq_code (l.length + 1) (l.drop (k + 1)) (k + 1) [] with q | q
    · exact absurd q hne
    · exact q
end Go.Proofs.YtpmhdcmmlkjjmaaGreatDoor
/- a text that is cut off is refused: plain. -/
set_option maxRecDepth 100000
namespace Go.Proofs.YtpmhdcmmlkjjmaaGreatDoor
open Go.RowKit Go.Lib
/-- the fault of a text that ends too early -/
def Early (L : List UInt8) (cut : Nat) (f : Flt) : Prop := f.1 ≤ cut ∧ ((f.2 = 31 ∧ f.1 = cut) ∨ f.2 = 10 ∨ f.2 = 11 ∨ f.2 = 12 ∨ (f.2 = 33 ∧ 0 < cut ∧ f.1 = cut - 1 ∧ L[cut - 1]? = some 45))
theorem cut_len {L l : List UInt8} {cut : Nat} (hl : l = L.take cut) (hc : cut ≤ L.length) : l.length = cut := by rw [hl, List.length_take]; omega
theorem cut_end (L : List UInt8) (cut : Nat) : Early L cut (cut, 31) := ⟨Nat.le_refl _, .inl ⟨rfl, rfl⟩⟩
theorem cut_drop {L l : List UInt8} {cut : Nat} (hl : l = L.take cut) (hc : cut ≤ L.length) (k : Nat) : l.drop k = (L.drop k).take (cut - k) := by rw [hl, List.drop_take]
theorem cut_cons {L l : List UInt8} {cut : Nat} (hl : l = L.take cut) (hc : cut ≤ L.length) {k : Nat} {c : UInt8} {r : List UInt8} (h : L.drop k = c :: r) (hk : k < cut) : l.drop k = c :: r.take (cut - k - 1) := by
  rw [cut_drop hl hc, h]
  obtain ⟨q, hq⟩ : ∃ q, cut - k = q + 1 := ⟨cut - k - 1, by omega⟩
  rw [hq, List.take_succ_cons]
  rfl
theorem cut_app {L l : List UInt8} {cut : Nat} (hl : l = L.take cut) (hc : cut ≤ L.length) {k : Nat} {a r : List UInt8} (h : L.drop k = a ++ r) (hk : k + a.length ≤ cut) : l.drop k = a ++ r.take (cut - k - a.length) := by
  rw [cut_drop hl hc, h, List.take_append, List.take_of_length_le (by omega)]
theorem cut_stop {r : List UInt8} (n : Nat) (h : stopB r) : stopB (r.take n) := fun c hc' => by
  cases n with
  | zero => simp at hc'
  | succ n =>
    cases r with
    | nil => simp at hc'
    | cons d r => exact h c hc'
theorem cut_blk {L l : List UInt8} {cut : Nat} (hl : l = L.take cut) (hc : cut ≤ L.length) {k : Nat} {c : UInt8} {r : List UInt8} (h : L.drop k = c :: r) (hb : isBl c = false) (hk : k ≤ cut) : blk l k = k := by
  rcases Nat.lt_or_ge k cut with q | q
  · exact blk_at (cut_cons hl hc h q) hb
  · exact blk_end (by rw [cut_len hl hc]; omega)
theorem cut_must {L l : List UInt8} {cut : Nat} (hl : l = L.take cut) (hc : cut ≤ L.length) {c : UInt8} : mustJ l cut c = .error (cut, 31) := by rw [mustJ, List.getElem?_eq_none (by rw [cut_len hl hc]; omega)]
theorem cut_goes {L l : List UInt8} {cut : Nat} (hl : l = L.take cut) (hc : cut ≤ L.length) {c : UInt8} : goesJ l cut c = .error (cut, 31) := by
  have hb : blk l cut = cut := blk_end (by rw [cut_len hl hc]; omega)
  refine goesJ_no ?_ (by rw [hb]; exact cut_must hl hc)
  rw [hb, tkJ, List.getElem?_eq_none (by rw [cut_len hl hc]; omega)]
  rfl
theorem cut_word {L l : List UInt8} {cut : Nat} (hl : l = L.take cut) (hc : cut ≤ L.length) : ∀ {p s : List UInt8} {k : Nat}, L.drop k = p ++ s → k ≤ cut → cut < k + p.length → wordJ l k p = .error (cut, 31)
  | [], s, k, h, h1, h2 => by simp at h2; omega
  | c :: p, s, k, h, h1, h2 => by
    rw [wordJ]
    rw [List.cons_append] at h
    rcases Nat.lt_or_ge k cut with q | q
    · rw [must_at (cut_cons hl hc h q)]
      obtain ⟨_, _, h3⟩ := drop_cons h
      exact cut_word hl hc h3 (by omega) (by simp at h2; omega)
    · obtain rfl : k = cut := by omega
      rw [cut_must hl hc]
theorem dec_take : ∀ (n u : Nat), u ≤ n → ∀ j, 1 ≤ j → j ≤ (decDigits u).length → ∃ u', u' ≤ u ∧ (decDigits u).take j = decDigits u'
  | 0, u, hn, j, h1, h2 => by
    have hd : decDigits u = [UInt8.ofNat (48 + u)] := by rw [decDigits]; simp; omega
    rw [hd] at h2
    exact ⟨u, Nat.le_refl _, by rw [List.take_of_length_le (by rw [hd]; simp at h2 ⊢; omega)]⟩
  | n + 1, u, hn, j, h1, h2 => by
    by_cases hu : u < 10
    · have hd : decDigits u = [UInt8.ofNat (48 + u)] := by rw [decDigits]; simp [hu]
      rw [hd] at h2
      exact ⟨u, Nat.le_refl _, by rw [List.take_of_length_le (by rw [hd]; simp at h2 ⊢; omega)]⟩
    · have hd : decDigits u = decDigits (u / 10) ++ [UInt8.ofNat (48 + u % 10)] := by rw [decDigits]; simp [hu]
      by_cases hj : j ≤ (decDigits (u / 10)).length
      · obtain ⟨u', h3, h4⟩ := dec_take n (u / 10) (by omega) j h1 hj
        exact ⟨u', by omega, by rw [hd, List.take_append_of_le_length hj, h4]⟩
      · exact ⟨u, Nat.le_refl _, by rw [List.take_of_length_le (by rw [hd]; simp; omega)]⟩
/-- a number that is cut off is another one, or a sign alone -/
theorem itoa_take (i : Int) (hi : In64 i) (j : Nat) (h1 : 1 ≤ j) (h2 : j ≤ (itoa i).length) : (∃ i', In64 i' ∧ (itoa i).take j = itoa i') ∨ (j = 1 ∧ (itoa i).take j = [45] ∧ intJ [45] = none) := by
  by_cases hn : i < 0
  · obtain ⟨u, rfl⟩ : ∃ u : Nat, i = -(u : Int) := ⟨i.natAbs, by omega⟩
    have hu0 : 1 ≤ u := by omega
    rw [itoa_neg u hu0] at h2 ⊢
    obtain ⟨q, rfl⟩ : ∃ q, j = q + 1 := ⟨j - 1, by omega⟩
    rw [List.take_succ_cons]
    by_cases hq : q = 0
    · subst hq
      exact .inr ⟨rfl, by simp, by decide⟩
    · left
      obtain ⟨u', h3, h4⟩ := dec_take u u (Nat.le_refl _) q (by omega) (by simpa using h2)
      by_cases hu' : u' = 0
      · exfalso
        subst hu'
        have hd0 : decDigits 0 = [48] := by rw [decDigits]; rfl
        have hh := h4
        rw [hd0] at hh
        -- the first digit of a number that is not nought is not 0
        have hz : (decDigits u).head? = some 48 := by
          cases hd : decDigits u with
          | nil => exact absurd hd (dec_ne u)
          | cons c r =>
            rw [hd] at hh
            obtain ⟨q', rfl⟩ : ∃ q', q = q' + 1 := ⟨q - 1, by omega⟩
            rw [List.take_succ_cons] at hh
            injection hh with hh _
            rw [hh]; rfl
        obtain ⟨c, r, hc1, hc2⟩ := dec_head u u (Nat.le_refl _) hu0
        rw [hc1] at hz
        exact hc2 (by simpa using hz)
      · refine ⟨-(u' : Int), ⟨by have := hi.1; omega, by omega⟩, ?_⟩
        rw [itoa_neg u' (by omega), h4]
  · left
    obtain ⟨u, rfl⟩ : ∃ u : Nat, i = (u : Int) := ⟨i.toNat, by omega⟩
    rw [itoa_nonneg] at h2 ⊢
    obtain ⟨u', h3, h4⟩ := dec_take u u (Nat.le_refl _) j h1 h2
    exact ⟨(u' : Int), ⟨by omega, by have := hi.2; omega⟩, by rw [itoa_nonneg, h4]⟩
end Go.Proofs.YtpmhdcmmlkjjmaaGreatDoor
