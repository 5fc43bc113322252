import Derived.Test.YtpmhdcmmlkjjmaaGreatDoorG45
/- what is written is read as what it was: words, numbers, strings (plain). -/
set_option linter.unusedSimpArgs false
set_option linter.unusedVariables false
set_option maxRecDepth 100000
namespace Go.Proofs.YtpmhdcmmlkjjmaaGreatDoor
open Go.RowKit Go.Lib
theorem dig_ofNat (d : Nat) (h : d < 10) : (UInt8.ofNat (48 + d)).toNat = 48 + d := UInt8.toNat_ofNat_of_lt' (by show 48 + d < 256; omega)
theorem dec_ne (u : Nat) : decDigits u ≠ [] := fun e => by
  have h1 := decDigits_length u
  have h2 := nDigits_pos u
  rw [e] at h1
  simp at h1
  omega
theorem dvJ_app : ∀ (l : List UInt8) (acc u : Nat) (c : UInt8), dvJ acc l = some u → 48 ≤ c.toNat ∧ c.toNat ≤ 57 → dvJ acc (l ++ [c]) = some (u * 10 + (c.toNat - 48))
  | [], acc, u, c, h, hc => by
    have e : acc = u := Option.some.inj h
    subst e
    rw [List.nil_append, dvJ, if_pos hc]; rfl
  | x :: l, acc, u, c, h, hc => by
    rw [dvJ] at h
    split at h
    · rename_i hx
      rw [List.cons_append, dvJ, if_pos hx]
      exact dvJ_app l _ u c h hc
    · cases h
theorem dvJ_dec : ∀ (n u : Nat), u ≤ n → dvJ 0 (decDigits u) = some u
  | n, u, hn => by
    by_cases h : u < 10
    · rw [decDigits_one h, dvJ, if_pos (by have := dig_ofNat u h; omega)]
      have := dig_ofNat u h
      rw [dvJ]
      congr 1
      omega
    · rw [decDigits, dif_neg h]
      have e := dig_ofNat (u % 10) (by omega)
      cases n with
      | zero => omega
      | succ n =>
        rw [dvJ_app _ 0 (u / 10) _ (dvJ_dec n (u / 10) (by omega)) (by omega)]
        congr 1
        omega
theorem dec_head : ∀ (n u : Nat), u ≤ n → 0 < u → ∃ c t, decDigits u = c :: t ∧ c ≠ 48
  | n, u, hn, h0 => by
    by_cases h : u < 10
    · refine ⟨_, _, decDigits_one h, ?_⟩
      intro e
      have e1 := dig_ofNat u h
      rw [e] at e1
      have : (48 : UInt8).toNat = 48 := rfl
      omega
    · cases n with
      | zero => omega
      | succ n =>
        obtain ⟨c, t, hc, hne⟩ := dec_head n (u / 10) (by omega) (by omega)
        exact ⟨c, t ++ [UInt8.ofNat (48 + u % 10)], by rw [decDigits, dif_neg h, hc]; rfl, hne⟩
theorem uJ_dec (u : Nat) (h : u < 10000000000000000000) : uJ (decDigits u) = some u := by
  have hl : (decDigits u).length ≤ 19 := dig_len (m := 19) (by simpa using h) (by omega)
  rw [uJ_dig (dec_ne u) ?_ (by omega), dvJ_dec u u (Nat.le_refl _)]
  rintro ⟨h1, h2⟩
  by_cases hu : u = 0
  · subst hu
    rw [decDigits_one (by omega)] at h1
    simp at h1
  · obtain ⟨c, t, hc, hn⟩ := dec_head u u (Nat.le_refl _) (by omega)
    rw [hc] at h2
    exact hn (Option.some.inj h2)
theorem dec_dig : ∀ (n u : Nat), u ≤ n → ∀ c ∈ decDigits u, 48 ≤ c.toNat ∧ c.toNat ≤ 57
  | n, u, hn => by
    intro c hc
    by_cases h : u < 10
    · rw [decDigits_one h, List.mem_singleton] at hc
      subst hc
      have := dig_ofNat u h
      omega
    · rw [decDigits, dif_neg h] at hc
      cases n with
      | zero => omega
      | succ n =>
        rcases List.mem_append.1 hc with hc | hc
        · exact dec_dig n (u / 10) (by omega) c hc
        · rw [List.mem_singleton] at hc
          subst hc
          have := dig_ofNat (u % 10) (by omega)
          omega
theorem int_back (i : Int) (h : In64 i) : intJ (itoa i) = some i := by
  obtain ⟨h1, h2⟩ := h
  rw [int_doc, dinJ]
  by_cases hn : i < 0
  · obtain ⟨u, rfl⟩ : ∃ u : Nat, i = -(u : Int) := ⟨i.natAbs, by omega⟩
    rw [itoa_neg u (by omega), if_pos (show (45 :: decDigits u).head? = some 45 from rfl), List.tail_cons, uJ_dec u (by omega), finJ]
    by_cases hm : u = 9223372036854775808
    · rw [if_pos ⟨rfl, hm⟩, hm]; rfl
    · rw [if_neg (fun h => hm h.2), if_neg (by omega), if_pos rfl]
  · obtain ⟨u, rfl⟩ : ∃ u : Nat, i = (u : Int) := ⟨i.natAbs, by omega⟩
    have hh : ¬ (decDigits u).head? = some 45 := fun e => by
      obtain ⟨c, t, ht⟩ := List.exists_cons_of_ne_nil (dec_ne u)
      have := dec_dig u u (Nat.le_refl _) c (by rw [ht]; exact List.mem_cons_self ..)
      rw [ht] at e
      have e' : c = 45 := Option.some.inj e
      subst e'
      have : (45 : UInt8).toNat = 45 := rfl
      omega
    rw [itoa_nonneg, if_neg hh, uJ_dec u (by omega), finJ, if_neg (by simp), if_neg (by omega), if_neg (by simp)]
theorem itoa_num (i : Int) : ∀ c ∈ itoa i, numC c = true := by
  intro c hc
  have dg : ∀ u : Nat, ∀ c ∈ decDigits u, numC c = true := fun u c hc => by
    have := dec_dig u u (Nat.le_refl _) c hc
    unfold numC
    simp [this]
  unfold itoa at hc
  split at hc
  · rcases List.mem_cons.1 hc with rfl | hc
    · decide
    · exact dg _ c hc
  · exact dg _ c hc
/-- what may stand behind a value -/
def stopB (s : List UInt8) : Prop := ∀ c, s.head? = some c → numC c = false ∧ isBl c = false
theorem drop_cons {l r : List UInt8} {k : Nat} {c : UInt8} (h : l.drop k = c :: r) : ∃ hk : k < l.length, l[k] = c ∧ l.drop (k + 1) = r := by
  have hk : k < l.length := by
    rcases Nat.lt_or_ge k l.length with q | q
    · exact q
    · rw [List.drop_eq_nil_of_le q] at h; cases h
  rw [List.drop_eq_getElem_cons hk] at h
  injection h with h1 h2
  exact ⟨hk, h1, h2⟩
theorem drop_app {l a r : List UInt8} {k : Nat} (h : l.drop k = a ++ r) : l.drop (k + a.length) = r := by
  rw [← List.drop_drop, h, List.drop_left]
theorem blk_at {l r : List UInt8} {k : Nat} {c : UInt8} (h : l.drop k = c :: r) (hb : isBl c = false) : blk l k = k := by
  obtain ⟨hk, e, _⟩ := drop_cons h
  exact blk_stop hk (by rw [e]; exact hb)
theorem must_at {l r : List UInt8} {k : Nat} {c : UInt8} (h : l.drop k = c :: r) : mustJ l k c = .ok (k + 1) := by
  obtain ⟨hk, e, _⟩ := drop_cons h
  exact mustJ_yes hk e
theorem tk_at {l r : List UInt8} {k : Nat} {c d : UInt8} (h : l.drop k = c :: r) : tkJ l k d = decide (c = d) := by
  obtain ⟨hk, e, _⟩ := drop_cons h
  rw [tkJ, List.getElem?_eq_getElem hk, e]
  by_cases q : c = d <;> simp [q]
theorem word_back {l : List UInt8} : ∀ {p s : List UInt8} {k : Nat}, l.drop k = p ++ s → wordJ l k p = .ok (k + p.length)
  | [], s, k, h => by rw [wordJ]; rfl
  | c :: p, s, k, h => by
    rw [List.cons_append] at h
    obtain ⟨hk, e, h2⟩ := drop_cons h
    rw [wordJ, must_at h]
    dsimp only
    rw [word_back h2, List.length_cons]
    congr 1
    omega
theorem run_back {l s : List UInt8} {k : Nat} {i : Int} (h : l.drop k = itoa i ++ s) (hs : stopB s) : runJ l k = itoa i := by
  rw [runJ, h, List.takeWhile_append_of_pos (itoa_num i)]
  have : s.takeWhile numC = [] := by
    cases s with
    | nil => rfl
    | cons c t => rw [List.takeWhile_cons_of_neg (by rw [(hs c rfl).1]; simp)]
  rw [this, List.append_nil]
theorem num_back {l s : List UInt8} {k : Nat} {i : Int} (h : l.drop k = itoa i ++ s) (hs : stopB s) (hi : In64 i) : numJ l k = .ok (i, k + (itoa i).length) := by
  rw [numJ_yes (v := i) (by rw [run_back h hs]; exact int_back i hi), run_back h hs]
theorem quo_back {l s : List UInt8} {k : Nat} {x : ByteArray} (h : l.drop k = Q.qt x.data.toList ++ s) (hk : k ≤ l.length) (hv : validD x.data.toList = true) : quoJ l k = .ok (x, k + (Q.qt x.data.toList).length) := by
  have hu := Q.unq_back x.data.toList (l.take k) s hv
  have e : l.take k ++ (Q.qt x.data.toList ++ s) = l := by rw [← h, List.take_append_drop]
  have el : (l.take k).length = k := by rw [List.length_take]; omega
  rw [e, el] at hu
  unfold quoJ
  rw [hu]
  rw [if_pos rfl]
end Go.Proofs.YtpmhdcmmlkjjmaaGreatDoor
