import Derived.Test.YtjgbjhahmgegiaaGreatDoorPlain
import Derived.Lib.Split
import Derived.Lib.Replace
/- pointers and their tokens, over lists of bytes. -/
set_option linter.unusedSimpArgs false
set_option linter.unusedVariables false
namespace Go.Proofs.YtjgbjhahmgegiaaGreatDoor
open Go.Lib
theorem index_dec (c : UInt8) : ∀ s : List UInt8, (index s [c] = -1 ∧ c ∉ s) ∨ (∃ a b, s = a ++ c :: b ∧ c ∉ a ∧ index s [c] = (a.length : Int))
  | [] => .inl ⟨by simp [index], by simp⟩
  | x :: t => by
    by_cases hx : x = c
    · subst hx
      exact .inr ⟨[], t, rfl, by simp, by simp [index]⟩
    · have hc : ¬ c = x := fun e => hx e.symm
      rcases index_dec c t with ⟨h1, h2⟩ | ⟨a, b, rfl, h2, h3⟩
      · exact .inl ⟨by simp [index, h1, hc], by simp [h2, hc]⟩
      · refine .inr ⟨x :: a, b, rfl, by simp [h2, hc], ?_⟩
        have : ¬ (a.length : Int) = -1 := by omega
        simp [index, h3, hc, this]
/-- the pieces between one byte -/
def spl (c : UInt8) : List UInt8 → List (List UInt8)
  | [] => [[]]
  | x :: t => if x = c then [] :: spl c t else
    match spl c t with
    | h :: r => (x :: h) :: r
    | [] => [[x]]
theorem spl_miss (c : UInt8) : ∀ a : List UInt8, c ∉ a → spl c a = [a]
  | [], _ => rfl
  | x :: t, h => by
    have hx : ¬ x = c := fun e => h (by simp [e])
    rw [spl, if_neg hx, spl_miss c t (fun h' => h (by simp [h']))]
theorem spl_hit (c : UInt8) (b : List UInt8) : ∀ a : List UInt8, c ∉ a → spl c (a ++ c :: b) = a :: spl c b
  | [], _ => by simp [spl]
  | x :: t, h => by
    have hx : ¬ x = c := fun e => h (by simp [e])
    rw [List.cons_append, spl, if_neg hx, spl_hit c b t (fun h' => h (by simp [h']))]
theorem drop_sep (a b : List UInt8) (c : UInt8) : (a ++ c :: b).drop (a.length + 1) = b := by
  rw [List.drop_append]; simp
theorem take_sep (a b : List UInt8) (c : UInt8) : (a ++ c :: b).take a.length = a := by simp
theorem split_spl (c : UInt8) (n : Nat) : ∀ s : List UInt8, s.length ≤ n → splitK [c] 0 (count s [c]) s = spl c s := by
  induction n with
  | zero =>
    intro s h
    obtain rfl : s = [] := List.length_eq_zero_iff.1 (by omega)
    rw [count_miss (by simp [index])]
    rfl
  | succ n ih =>
    intro s h
    rcases index_dec c s with ⟨h1, h2⟩ | ⟨a, b, rfl, h2, h3⟩
    · rw [count_miss h1, spl_miss c s h2]; rfl
    · rw [count_hit (by simp) h3, spl_hit c b a h2, Nat.add_comm 1, splitK]
      have hne : ¬ (index (a ++ c :: b) [c] == -1) = true := by rw [h3]; simp
      rw [if_neg hne, h3]
      simp only [Int.toNat_natCast, Nat.add_zero, List.length_cons, List.length_nil, Nat.zero_add, take_sep, drop_sep]
      rw [ih b (by simp at h; omega)]
/-- the token that is so written -/
def une : List UInt8 → Option (List UInt8)
  | [] => some []
  | x :: t =>
    if x = 126 then
      match t with
      | [] => none
      | y :: u => if y = 48 then (une u).map (126 :: ·) else if y = 49 then (une u).map (47 :: ·) else none
    else (une t).map (x :: ·)
theorem une_nil : une [] = some [] := by rw [une]
theorem une_plain {x : UInt8} (t : List UInt8) (h : x ≠ 126) : une (x :: t) = (une t).map (x :: ·) := by rw [une.eq_def]; simp only [if_neg h]
theorem une_end : une [126] = none := by rw [une.eq_def]; simp
theorem une_tilde (y : UInt8) (u : List UInt8) : une (126 :: y :: u) = if y = 48 then (une u).map (126 :: ·) else if y = 49 then (une u).map (47 :: ·) else none := by rw [une.eq_def]; simp
theorem une_pre : ∀ (a b : List UInt8), 126 ∉ a → une (a ++ b) = (une b).map (a ++ ·)
  | [], b, _ => by simp
  | x :: t, b, h => by
    have hx : x ≠ 126 := fun e => h (by simp [e])
    rw [List.cons_append, une_plain _ hx, une_pre t b (fun h' => h (by simp [h'])), Option.map_map]
    rfl
theorem une_all (a : List UInt8) (h : 126 ∉ a) : une a = some a := by
  have := une_pre a [] h
  rw [List.append_nil, une_nil] at this
  simpa using this
/- validity at a byte of its own -/
theorem nxtGo_sep (n : Nat) (c : UInt8) (hc : c.toNat < 128) (b : List UInt8) : ∀ (t : List UInt8) (k lo hi : Nat), 128 ≤ lo → k ≤ n → (Q.nxtGo n k lo hi (t ++ c :: b)).2 = (Q.nxtGo n k lo hi t).2 ∧ ((Q.nxtGo n k lo hi t).2 = true → n ≤ k + t.length)
  | [], k, lo, hi, hl, hk => by
    rw [List.nil_append]
    simp only [Q.nxtGo]
    by_cases h : n ≤ k
    · simp [h]
    · simp [h, show c.toNat < lo by omega]
  | x :: t, k, lo, hi, hl, hk => by
    rw [List.cons_append]
    simp only [Q.nxtGo]
    by_cases h : n ≤ k
    · simp [h]; omega
    · rw [if_neg h, if_neg h]
      split
      · simp
      · obtain ⟨h1, h2⟩ := nxtGo_sep n c hc b t (k + 1) 128 191 (by omega) (by omega)
        exact ⟨h1, fun h => by have := h2 h; simp; omega⟩
theorem bnd_facts (x : Nat) (h : (Q.bnd x).1 ≠ 0) : 1 ≤ (Q.bnd x).1 ∧ (1 < (Q.bnd x).1 → 128 ≤ (Q.bnd x).2.1) := by
  unfold Q.bnd at *
  repeat' split
  all_goals simp_all
theorem valid_sep (c : UInt8) (hc : c.toNat < 128) (b : List UInt8) (n : Nat) : ∀ a : List UInt8, a.length ≤ n → validD (a ++ c :: b) = (validD a && validD b) := by
  induction n with
  | zero =>
    intro a h
    obtain rfl : a = [] := List.length_eq_zero_iff.1 (by omega)
    rw [List.nil_append, validD_cons _ _ hc, validD_nil, Bool.true_and]
  | succ n ih =>
    intro a h
    cases a with
    | nil => rw [List.nil_append, validD_cons _ _ hc, validD_nil, Bool.true_and]
    | cons x t =>
      rw [List.cons_append, Q.valid_step _ (by simp), Q.valid_step (x :: t) (by simp), Q.nxt_cons, Q.nxt_cons]
      by_cases h0 : (Q.bnd x.toNat).1 = 0
      · simp [h0]
      · rw [if_neg h0, if_neg h0]
        obtain ⟨f1, f2⟩ := bnd_facts x.toNat h0
        by_cases h1 : (Q.bnd x.toNat).1 = 1
        · have e : ∀ u lo hi, Q.nxtGo 1 1 lo hi u = (1, true) := fun u lo hi => by cases u <;> simp [Q.nxtGo]
          rw [h1, e, e]
          simp only [if_true, List.drop_succ_cons, List.drop_zero]
          exact ih t (by simp at h; omega)
        · obtain ⟨g1, g2⟩ := nxtGo_sep (Q.bnd x.toNat).1 c hc b t 1 (Q.bnd x.toNat).2.1 (Q.bnd x.toNat).2.2 (f2 (by omega)) f1
          rw [g1]
          by_cases g : (Q.nxtGo (Q.bnd x.toNat).1 1 (Q.bnd x.toNat).2.1 (Q.bnd x.toNat).2.2 t).2 = true
          · have l1 := (Q.nxtGo_le (Q.bnd x.toNat).1 t 1 (Q.bnd x.toNat).2.1 (Q.bnd x.toNat).2.2 (by omega) f1).2.2.2 g
            have l2 := (Q.nxtGo_le (Q.bnd x.toNat).1 (t ++ c :: b) 1 (Q.bnd x.toNat).2.1 (Q.bnd x.toNat).2.2 (by omega) f1).2.2.2 (by rw [g1]; exact g)
            have hle := g2 g
            rw [if_pos g, if_pos g, l1, l2]
            have e2 : (x :: (t ++ c :: b)).drop (Q.bnd x.toNat).1 = (x :: t).drop (Q.bnd x.toNat).1 ++ c :: b := by
              rw [← List.cons_append, List.drop_append_of_le_length (by simp; omega)]
            rw [e2]
            exact ih _ (by simp at h ⊢; omega)
          · rw [if_neg g, if_neg g]; rfl
theorem valid_mid (c : UInt8) (hc : c.toNat < 128) (a b : List UInt8) : validD (a ++ c :: b) = (validD a && validD b) := valid_sep c hc b a.length a (Nat.le_refl _)
theorem valid_spl (c : UInt8) (hc : c.toNat < 128) (n : Nat) : ∀ s : List UInt8, s.length ≤ n → validD s = (spl c s).all validD := by
  induction n with
  | zero =>
    intro s h
    obtain rfl : s = [] := List.length_eq_zero_iff.1 (by omega)
    simp [spl, validD_nil]
  | succ n ih =>
    intro s h
    rcases index_dec c s with ⟨h1, h2⟩ | ⟨a, b, rfl, h2, h3⟩
    · rw [spl_miss c s h2]; simp
    · rw [spl_hit c b a h2, valid_mid c hc, ih b (by simp at h; omega), List.all_cons]
/-- what is written so is UTF-8 just if the token is -/
theorem valid_une (n : Nat) : ∀ (s : List UInt8) (p : List UInt8), s.length ≤ n → ∀ u, une s = some u → validD (p ++ s) = validD (p ++ u) := by
  induction n with
  | zero =>
    intro s p h u hu
    obtain rfl : s = [] := List.length_eq_zero_iff.1 (by omega)
    rw [une_nil] at hu
    cases hu; rfl
  | succ n ih =>
    intro s p h u hu
    cases s with
    | nil => rw [une_nil] at hu; cases hu; rfl
    | cons x t =>
      by_cases hx : x = 126
      · subst hx
        cases t with
        | nil => rw [une_end] at hu; cases hu
        | cons y v =>
          rw [une_tilde] at hu
          split at hu
          · rename_i hy
            obtain ⟨z, hz, rfl⟩ := Option.map_eq_some_iff.1 hu
            subst hy
            have e := ih v [] (by simp at h; omega) z hz
            rw [valid_mid 126 (by decide), valid_mid 126 (by decide), validD_cons 48 v (by decide)]
            simp only [List.nil_append] at e
            rw [e]
          · split at hu
            · rename_i _ hy
              obtain ⟨z, hz, rfl⟩ := Option.map_eq_some_iff.1 hu
              subst hy
              have e := ih v [] (by simp at h; omega) z hz
              rw [valid_mid 126 (by decide), valid_mid 47 (by decide), validD_cons 49 v (by decide)]
              simp only [List.nil_append] at e
              rw [e]
            · cases hu
      · rw [une_plain _ hx] at hu
        obtain ⟨z, hz, rfl⟩ := Option.map_eq_some_iff.1 hu
        have e := ih t (p ++ [x]) (by simp at h; omega) z hz
        simpa using e
/-- all pieces, read -/
def unes : List (List UInt8) → Option (List (List UInt8))
  | [] => some []
  | x :: t => match une x with
    | none => none
    | some u => (unes t).map (u :: ·)
/-- what Parse answers -/
def parF (p : List UInt8) : Option (List (List UInt8)) :=
  match p with
  | [] => some []
  | x :: q => if x = 47 ∧ validD p = true then unes (spl 47 q) else none
/-- the document's, byte by byte -/
def rpF : List UInt8 → List UInt8 → Option (List (List UInt8))
  | tok, [] => if validD tok = true then some [tok] else none
  | tok, x :: t =>
    if x = 47 then (if validD tok = true then (rpF [] t).map (tok :: ·) else none)
    else if x = 126 then
      match t with
      | [] => none
      | y :: u => if y = 48 then rpF (tok ++ [126]) u else if y = 49 then rpF (tok ++ [47]) u else none
    else rpF (tok ++ [x]) t
def okTs (l : List (List UInt8)) : Option (List (List UInt8)) := if l.all validD = true then some l else none
def headTs (tok : List UInt8) : Option (List (List UInt8)) → Option (List (List UInt8))
  | some (h :: r) => okTs ((tok ++ h) :: r)
  | _ => none
theorem spl_ne (c : UInt8) : ∀ s, spl c s ≠ []
  | [] => by simp [spl]
  | x :: t => by
    rw [spl]
    split
    · simp
    · split <;> simp
theorem unes_ne {l : List (List UInt8)} (h : l ≠ []) : ∀ r, unes l = some r → r ≠ [] := by
  intro r hr
  cases l with
  | nil => exact absurd rfl h
  | cons x t =>
    rw [unes] at hr
    split at hr
    · cases hr
    · obtain ⟨z, _, rfl⟩ := Option.map_eq_some_iff.1 hr
      simp
theorem unes_cons_head (x : UInt8) (t : List UInt8) (hx : x ≠ 47) (f : List UInt8 → List UInt8) (hf : ∀ h, une (x :: h) = (une h).map f) : unes (spl 47 (x :: t)) = (unes (spl 47 t)).map (fun l => match l with | h :: r => f h :: r | [] => []) := by
  rw [spl, if_neg hx]
  cases hs : spl 47 t with
  | nil => exact absurd hs (spl_ne 47 t)
  | cons h r =>
    simp only [unes, hf h]
    cases une h with
    | none => rfl
    | some u => simp [Option.map_map]; cases unes r <;> rfl
theorem rp_spec (n : Nat) : ∀ (q tok : List UInt8), q.length ≤ n → rpF tok q = headTs tok (unes (spl 47 q)) := by
  induction n with
  | zero =>
    intro q tok h
    obtain rfl : q = [] := List.length_eq_zero_iff.1 (by omega)
    rw [rpF]
    simp [spl, unes, une_nil, headTs, okTs]
  | succ n ih =>
    intro q tok h
    cases q with
    | nil =>
      rw [rpF]
      simp [spl, unes, une_nil, headTs, okTs]
    | cons x t =>
      by_cases hx : x = 47
      · subst hx
        rw [rpF.eq_def]
        simp only [if_true]
        rw [ih t [] (by simp at h; omega), spl, if_pos rfl]
        simp only [unes, une_nil]
        cases hu : unes (spl 47 t) with
        | none => simp [headTs]
        | some l =>
          cases l with
          | nil => exact absurd rfl (unes_ne (spl_ne 47 t) _ hu)
          | cons g r =>
            simp only [Option.map_some, headTs, okTs, List.append_nil, List.nil_append, List.all_cons]
            by_cases hv : validD tok = true
            · by_cases hw : (validD g && r.all validD) = true
              · simp [hv, hw]
              · simp [hv, hw]
            · simp [hv]
      · by_cases h6 : x = 126
        · subst h6
          rw [rpF.eq_def]
          simp only [if_neg hx, if_true]
          cases t with
          | nil => simp [spl, unes, une_end, headTs]
          | cons y u =>
            (try simp only)
            by_cases hy : y = 48
            · subst hy
              rw [if_pos rfl, ih u _ (by simp at h; omega)]
              have e1 := unes_cons_head 48 u (by decide) (48 :: ·) (fun h => une_plain h (by decide))
              rw [spl, if_neg hx, spl, if_neg (by decide)]
              cases hs : spl 47 u with
              | nil => exact absurd hs (spl_ne 47 u)
              | cons g r =>
                simp only [unes, une_tilde, if_true]
                cases une g with
                | none => simp [headTs]
                | some z => cases unes r <;> simp [headTs, okTs]
            · by_cases hy1 : y = 49
              · subst hy1
                rw [if_neg hy, if_pos rfl, ih u _ (by simp at h; omega)]
                rw [spl, if_neg hx, spl, if_neg (by decide)]
                cases hs : spl 47 u with
                | nil => exact absurd hs (spl_ne 47 u)
                | cons g r =>
                  simp only [unes, une_tilde, if_neg hy, if_true]
                  cases une g with
                  | none => simp [headTs]
                  | some z => cases unes r <;> simp [headTs, okTs]
              · rw [if_neg hy, if_neg hy1]
                by_cases hy2 : y = 47
                · subst hy2
                  rw [spl, if_neg hx, spl, if_pos rfl]
                  simp [unes, une_end, headTs]
                · rw [spl, if_neg hx, spl, if_neg hy2]
                  cases hs : spl 47 u with
                  | nil => exact absurd hs (spl_ne 47 u)
                  | cons g r => simp [unes, une_tilde, hy, hy1, headTs]
        · rw [rpF.eq_def]
          simp only [if_neg hx, if_neg h6]
          rw [ih t _ (by simp at h; omega), unes_cons_head x t hx (x :: ·) (fun h => une_plain h h6)]
          cases hu : unes (spl 47 t) with
          | none => simp [headTs]
          | some l =>
            cases l with
            | nil => exact absurd rfl (unes_ne (spl_ne 47 t) _ hu)
            | cons g r => simp [headTs]
theorem unes_valid : ∀ (l : List (List UInt8)) (r : List (List UInt8)), unes l = some r → l.all validD = r.all validD
  | [], r, h => by rw [unes] at h; cases h; rfl
  | x :: t, r, h => by
    rw [unes] at h
    split at h
    · cases h
    · rename_i u hu
      obtain ⟨z, hz, rfl⟩ := Option.map_eq_some_iff.1 h
      rw [List.all_cons, List.all_cons, unes_valid t z hz]
      have := valid_une x.length x [] (Nat.le_refl _) u hu
      simp only [List.nil_append] at this
      rw [this]
/-- the two are one -/
theorem par_rp (q : List UInt8) : parF (47 :: q) = rpF [] q := by
  rw [rp_spec q.length q [] (Nat.le_refl _), parF]
  rw [validD_cons 47 q (by decide), valid_spl 47 (by decide) q.length q (Nat.le_refl _)]
  cases hu : unes (spl 47 q) with
  | none => simp [headTs]
  | some l =>
    cases l with
    | nil => exact absurd rfl (unes_ne (spl_ne 47 q) _ hu)
    | cons g r =>
      rw [unes_valid _ _ hu]
      simp only [headTs, okTs, List.nil_append, true_and]
end Go.Proofs.YtjgbjhahmgegiaaGreatDoor
