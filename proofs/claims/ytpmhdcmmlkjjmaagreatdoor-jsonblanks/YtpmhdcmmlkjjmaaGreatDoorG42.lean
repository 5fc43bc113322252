/- joined: JgC JgD -/
import Derived.Test.YtpmhdcmmlkjjmaaGreatDoorJgB
import Derived.Test.YtpmhdcmmlkjjmaaGreatDoorG41
/- Canon, the program's and the document's. -/
set_option linter.unusedSimpArgs false
set_option linter.unusedVariables false
set_option maxRecDepth 100000
namespace Go.Proofs.YtpmhdcmmlkjjmaaGreatDoor
open Go.RowKit Go.Lib
theorem who_good {l : List UInt8} {D F : Nat} {v : V} (h : whoJ l D F = .ok v) (hl : l.length ≤ 1048576) : okD D v 0 ∧ (chkV D v 0 (0, 0, 0)).1 = 0 ∧ (txtV v).length ≤ l.length := by
  cases hv : valJ l D F 0 (blk l 0) 0 with
  | error f => rw [whoJ_val hv] at h; cases h
  | ok x =>
    have h1 := (allJ_le l D F).1 _ _ _ _ (by omega) hv
    have h2 := (allJ_good l D F).1 _ _ _ _ (by omega) hv
    by_cases hb : blk l x.2.1 < l.length
    · rw [whoJ_more hv hb] at h; cases h
    · rw [whoJ_ok hv hb] at h
      cases h
      refine ⟨h2.1, (chk_ok D _ 0 (0, 0, 0) h2.1 ?_ ?_).1, by omega⟩
      · dsimp only; omega
      · dsimp only; omega
/-- a fault has a number -/
theorem quoJ_no0 {l : List UInt8} {k : Nat} {f : Flt} (h : quoJ l k = .error f) : f.2 ≠ 0 := by
  unfold quoJ at h
  split at h
  · cases h
  · rename_i h0; cases h; exact h0
theorem mustJ_no0 {l : List UInt8} {k : Nat} {c : UInt8} {f : Flt} (h : mustJ l k c = .error f) : f.2 ≠ 0 := by
  rw [mustJ] at h
  split at h
  · cases h; simp
  · split at h
    · cases h
    · cases h; simp
theorem wordJ_no0 {l : List UInt8} {f : Flt} : ∀ {p : List UInt8} {k : Nat}, wordJ l k p = .error f → f.2 ≠ 0
  | [], k, h => by rw [wordJ] at h; cases h
  | c :: p, k, h => by
    rw [wordJ] at h
    cases hm : mustJ l k c with
    | error f => rw [hm] at h; cases h; exact mustJ_no0 hm
    | ok k1 => rw [hm] at h; exact wordJ_no0 h
theorem goesJ_no0 {l : List UInt8} {k : Nat} {c : UInt8} {f : Flt} (h : goesJ l k c = .error f) : f.2 ≠ 0 := by
  rw [goesJ] at h
  split at h
  · cases h
  · split at h
    · cases h
    · rename_i g hm; cases h; exact mustJ_no0 hm
theorem keyJ_no0 {l : List UInt8} {k : Nat} {ks : List (List UInt8)} {f : Flt} (h : keyJ l k ks = .error f) : f.2 ≠ 0 := by
  rcases Nat.lt_or_ge k l.length with hk | hk
  · by_cases e : l[k] = 34
    · cases hq : quoJ l k with
      | error f => rw [keyJ_quo hk e hq] at h; cases h; exact quoJ_no0 hq
      | ok x =>
        obtain ⟨x, k1⟩ := x
        by_cases hx : x.data.toList ∈ ks
        · rw [keyJ_twice hk e hq hx] at h; cases h; simp
        · cases hm : mustJ l (blk l k1) 58 with
          | error f => rw [keyJ_colon hk e hq hx hm] at h; cases h; exact mustJ_no0 hm
          | ok k2 => rw [keyJ_ok hk e hq hx hm] at h; cases h
    · rw [keyJ_byte hk e] at h; cases h; simp
  · rw [keyJ_end hk] at h; cases h; simp
theorem entJ_no0 {c : UInt8} {D n o k : Nat} {f : Flt} (h : entJ c D n o k = .error f) : f.2 ≠ 0 := by
  unfold entJ at h
  split at h
  · cases h; simp
  · split at h
    · cases h; simp
    · split at h
      · cases h; simp
      · cases h
theorem numJ_no0 {l : List UInt8} {k : Nat} {f : Flt} (h : numJ l k = .error f) : f.2 ≠ 0 := by
  rw [numJ] at h
  split at h
  · cases h
  · cases h; simp
theorem allJ_no0 (l : List UInt8) (D : Nat) : ∀ F : Nat,
    (∀ o k n f, n ≤ 65536 → k ≤ l.length → 2 * (l.length - k) + 1 ≤ F → valJ l D F o k n = .error f → f.2 ≠ 0) ∧
    (∀ o more k n acc f, n ≤ 65536 → k ≤ l.length → 2 * (l.length - k) + 2 ≤ F → lisJ l D F o more k n acc = .error f → f.2 ≠ 0) ∧
    (∀ o more k n acc f, n ≤ 65536 → k ≤ l.length → 2 * (l.length - k) + 2 ≤ F → memJ l D F o more k n acc = .error f → f.2 ≠ 0)
  | 0 => by
    refine ⟨?_, ?_, ?_⟩
    · intro o k n f _ _ h; omega
    · intro o more k n acc f _ _ h; omega
    · intro o more k n acc f _ _ h; omega
  | F + 1 => by
    obtain ⟨hV, hL, hM⟩ := allJ_no0 l D F
    obtain ⟨lV, lL, lM⟩ := allJ_le l D F
    refine ⟨?_, ?_, ?_⟩
    · intro o k n f hn hk hF h
      rcases Nat.lt_or_ge k l.length with hk | hk
      · cases he : entJ l[k] D n o k with
        | error e => rw [valJ_ent hk he] at h; cases h; exact entJ_no0 he
        | ok n1 =>
          rw [valJ_in hk he] at h
          obtain ⟨_, hn1, _⟩ := entJ_le hn he
          unfold swJ at h
          split at h
          · cases hw : wordJ l k [110, 117, 108, 108] with
            | error e => rw [hw] at h; cases h; exact wordJ_no0 hw
            | ok k1 => rw [hw] at h; cases h
          · split at h
            · cases hw : wordJ l k [116, 114, 117, 101] with
              | error e => rw [hw] at h; cases h; exact wordJ_no0 hw
              | ok k1 => rw [hw] at h; cases h
            · split at h
              · cases hw : wordJ l k [102, 97, 108, 115, 101] with
                | error e => rw [hw] at h; cases h; exact wordJ_no0 hw
                | ok k1 => rw [hw] at h; cases h
              · split at h
                · cases hw : quoJ l k with
                  | error e => rw [hw] at h; cases h; exact quoJ_no0 hw
                  | ok y => rw [hw] at h; cases h
                · split at h
                  · have hb := begunJ_le (c := 93) hk
                    cases hw : lisJ l D F (o + 1) (begunJ l k 93).1 (begunJ l k 93).2 n1 [] with
                    | error e => rw [hw] at h; cases h; exact hL _ _ _ _ _ _ hn1 hb.2 (by omega) hw
                    | ok y => rw [hw] at h; cases h
                  · split at h
                    · have hb := begunJ_le (c := 125) hk
                      cases hw : memJ l D F (o + 1) (begunJ l k 125).1 (begunJ l k 125).2 n1 [] with
                      | error e => rw [hw] at h; cases h; exact hM _ _ _ _ _ _ hn1 hb.2 (by omega) hw
                      | ok y => rw [hw] at h; cases h
                    · cases hw : numJ l k with
                      | error e => rw [hw] at h; cases h; exact numJ_no0 hw
                      | ok y => rw [hw] at h; cases h
      · rw [valJ_end hk] at h; cases h; simp
    · intro o more k n acc f hn hk hF h
      cases more with
      | false => rw [lisJ_end] at h; cases h
      | true =>
        cases hv : valJ l D F o k n with
        | error e => rw [lisJ_val hv] at h; cases h; exact hV _ _ _ _ hn hk (by omega) hv
        | ok y =>
          have h1 := lV _ _ _ _ hn hv
          cases hg : goesJ l y.2.1 93 with
          | error e => rw [lisJ_goes hv hg] at h; cases h; exact goesJ_no0 hg
          | ok z =>
            rw [lisJ_on hv hg] at h
            have h2 := goesJ_le h1.2.1 hg
            exact hL _ _ _ _ _ _ h1.2.2 h2.2 (by omega) h
    · intro o more k n acc f hn hk hF h
      cases more with
      | false => rw [memJ_end] at h; cases h
      | true =>
        cases hq : keyJ l k (acc.map fun x => x.1.data.toList) with
        | error e => rw [memJ_key hq] at h; cases h; exact keyJ_no0 hq
        | ok q =>
          have h0 := keyJ_in hq
          cases hv : valJ l D F o q.2 n with
          | error e => rw [memJ_val hq hv] at h; cases h; exact hV _ _ _ _ hn h0.2.1 (by omega) hv
          | ok y =>
            have h1 := lV _ _ _ _ hn hv
            cases hg : goesJ l y.2.1 125 with
            | error e => rw [memJ_goes hq hv hg] at h; cases h; exact goesJ_no0 hg
            | ok z =>
              rw [memJ_on hq hv hg] at h
              have h2 := goesJ_le h1.2.1 hg
              exact hM _ _ _ _ _ _ h1.2.2 h2.2 (by omega) h
theorem who_no {l : List UInt8} {D : Nat} {f : Flt} (h : whoJ l D (2 * l.length + 1) = .error f) : f.2 ≠ 0 := by
  have hb := blk_le (l := l) (k := 0) (Nat.zero_le _)
  cases hv : valJ l D (2 * l.length + 1) 0 (blk l 0) 0 with
  | error g => rw [whoJ_val hv] at h; cases h; exact (allJ_no0 l D _).1 _ _ _ _ (by omega) hb.2 (by omega) hv
  | ok x =>
    by_cases hm : blk l x.2.1 < l.length
    · rw [whoJ_more hv hm] at h; cases h; simp
    · rw [whoJ_ok hv hm] at h; cases h
theorem par_good {l : List UInt8} {z : Int} (h : (parJ l z).2.2 = 0) : 0 ≤ z ∧ z ≤ 40 ∧ l.length ≤ 1048576 ∧ (parJ l z).2.1 = -1 ∧ okD z.toNat (parJ l z).1 0 ∧ chkE (parJ l z).1 z = 0 ∧ (txtV (parJ l z).1).length ≤ l.length := by
  by_cases h1 : z < 0 ∨ 40 < z
  · rw [parJ_arg h1] at h; cases h
  · by_cases h2 : 1048576 < l.length
    · rw [parJ_long h1 h2] at h; cases h
    · cases hw : whoJ l z.toNat (2 * l.length + 1) with
      | error f =>
        rw [parJ_bad h1 h2 hw] at h
        exfalso
        exact who_no hw (by simpa using h)
      | ok v =>
        have hg := who_good hw (by omega)
        rw [parJ_ok h1 h2 hw]
        exact ⟨by omega, by omega, by omega, rfl, hg.1, by rw [chkE, if_neg h1]; exact hg.2.1, hg.2.2⟩
theorem byt_ownB {w : World} {B : Nat} {v : Value} {l : List UInt8} (h : OwnB B v l w) : Byt w v l := byt_own h rfl
end Go.Proofs.YtpmhdcmmlkjjmaaGreatDoor
/- what is written is read as what it was: words, numbers, strings (plain). -/
set_option maxRecDepth 100000
namespace Go.Proofs.YtpmhdcmmlkjjmaaGreatDoor
open Go.RowKit Go.Lib
theorem dig_ofNat (d : Nat) (h : d < 10) : (UInt8.ofNat (48 + d)).toNat = 48 + d := UInt8.toNat_ofNat_of_lt' (by show 48 + d < 256; omega)
theorem dec_ne (u : Nat) : decDigits u ≠ [] := fun e => by
  have h1 := decDigits_length u
  have h2 := nDigits_pos u
  rw [e] at h1
  simp at h1
  omega
theorem dvJ_app : ∀ (l : List UInt8) (acc u : Nat) (c : UInt8), dvJ acc l = some u → 48 ≤ c.toNat ∧ c.toNat ≤ 57 → dvJ acc (l ++ [c]) = some (u * 10 + (c.toNat - 48))
  | [], acc, u, c, h, hc => by
    have e : acc = u := Option.some.inj h
    subst e
    rw [List.nil_append, dvJ, if_pos hc]; rfl
  | x :: l, acc, u, c, h, hc => by
    rw [dvJ] at h
    split at h
    · rename_i hx
      rw [List.cons_append, dvJ, if_pos hx]
      exact dvJ_app l _ u c h hc
    · cases h
theorem dvJ_dec : ∀ (n u : Nat), u ≤ n → dvJ 0 (decDigits u) = some u
  | n, u, hn => by
    by_cases h : u < 10
    · rw [decDigits_one h, dvJ, if_pos (by have := dig_ofNat u h; omega)]
      have := dig_ofNat u h
      rw [dvJ]
      congr 1
      omega
    · rw [decDigits, dif_neg h]
      have e := dig_ofNat (u % 10) (by omega)
      cases n with
      | zero => omega
      | succ n =>
        rw [dvJ_app _ 0 (u / 10) _ (dvJ_dec n (u / 10) (by omega)) (by omega)]
        congr 1
        omega
theorem dec_head : ∀ (n u : Nat), u ≤ n → 0 < u → ∃ c t, decDigits u = c :: t ∧ c ≠ 48
  | n, u, hn, h0 => by
    by_cases h : u < 10
    · refine ⟨_, _, decDigits_one h, ?_⟩
      intro e
      have e1 := dig_ofNat u h
      rw [e] at e1
      have : (48 : UInt8).toNat = 48 := rfl
      omega
    · cases n with
      | zero => omega
      | succ n =>
        obtain ⟨c, t, hc, hne⟩ := dec_head n (u / 10) (by omega) (by omega)
        exact ⟨c, t ++ [UInt8.ofNat (48 + u % 10)], by rw [decDigits, dif_neg h, hc]; rfl, hne⟩
theorem uJ_dec (u : Nat) (h : u < 10000000000000000000) : uJ (decDigits u) = some u := by
  have hl : (decDigits u).length ≤ 19 := dig_len (m := 19) (by simpa using h) (by omega)
  rw [uJ_dig (dec_ne u) ?_ (by omega), dvJ_dec u u (Nat.le_refl _)]
  rintro ⟨h1, h2⟩
  by_cases hu : u = 0
  · subst hu
    rw [decDigits_one (by omega)] at h1
    simp at h1
  · obtain ⟨c, t, hc, hn⟩ := dec_head u u (Nat.le_refl _) (by omega)
    rw [hc] at h2
    exact hn (Option.some.inj h2)
theorem dec_dig : ∀ (n u : Nat), u ≤ n → ∀ c ∈ decDigits u, 48 ≤ c.toNat ∧ c.toNat ≤ 57
  | n, u, hn => by
    intro c hc
    by_cases h : u < 10
    · rw [decDigits_one h, List.mem_singleton] at hc
      subst hc
      have := dig_ofNat u h
      omega
    · rw [decDigits, dif_neg h] at hc
      cases n with
      | zero => omega
      | succ n =>
        rcases List.mem_append.1 hc with hc | hc
        · exact dec_dig n (u / 10) (by omega) c hc
        · rw [List.mem_singleton] at hc
          subst hc
          have := dig_ofNat (u % 10) (by omega)
          omega
theorem int_back (i : Int) (h : In64 i) : intJ (itoa i) = some i := by
  obtain ⟨h1, h2⟩ := h
  rw [int_doc, dinJ]
  by_cases hn : i < 0
  · obtain ⟨u, rfl⟩ : ∃ u : Nat, i = -(u : Int) := ⟨i.natAbs, by omega⟩
    rw [itoa_neg u (by omega), if_pos (show (45 :: decDigits u).head? = some 45 from rfl), List.tail_cons, uJ_dec u (by omega), finJ]
    by_cases hm : u = 9223372036854775808
    · rw [if_pos ⟨rfl, hm⟩, hm]; rfl
    · rw [if_neg (fun h => hm h.2), if_neg (by omega), if_pos rfl]
  · obtain ⟨u, rfl⟩ : ∃ u : Nat, i = (u : Int) := ⟨i.natAbs, by omega⟩
    have hh : ¬ (decDigits u).head? = some 45 := fun e => by
      obtain ⟨c, t, ht⟩ := List.exists_cons_of_ne_nil (dec_ne u)
      have := dec_dig u u (Nat.le_refl _) c (by rw [ht]; exact List.mem_cons_self ..)
      rw [ht] at e
      have e' : c = 45 := Option.some.inj e
      subst e'
      have : (45 : UInt8).toNat = 45 := rfl
      omega
    rw [itoa_nonneg, if_neg hh, uJ_dec u (by omega), finJ, if_neg (by simp), if_neg (by omega), if_neg (by simp)]
theorem itoa_num (i : Int) : ∀ c ∈ itoa i, numC c = true := by
  intro c hc
  have dg : ∀ u : Nat, ∀ c ∈ decDigits u, numC c = true := fun u c hc => by
    have := dec_dig u u (Nat.le_refl _) c hc
    unfold numC
    simp [this]
  unfold itoa at hc
  split at hc
  · rcases List.mem_cons.1 hc with rfl | hc
    · decide
    · exact dg _ c hc
  · exact dg _ c hc
/-- what may stand behind a value -/
def stopB (s : List UInt8) : Prop := ∀ c, s.head? = some c → numC c = false ∧ isBl c = false
theorem drop_cons {l r : List UInt8} {k : Nat} {c : UInt8} (h : l.drop k = c :: r) : ∃ hk : k < l.length, l[k] = c ∧ l.drop (k + 1) = r := by
  have hk : k < l.length := by
    rcases Nat.lt_or_ge k l.length with q | q
    · exact q
    · rw [List.drop_eq_nil_of_le q] at h; cases h
  rw [List.drop_eq_getElem_cons hk] at h
  injection h with h1 h2
  exact ⟨hk, h1, h2⟩
theorem drop_app {l a r : List UInt8} {k : Nat} (h : l.drop k = a ++ r) : l.drop (k + a.length) = r := by
  rw [← List.drop_drop, h, List.drop_left]
theorem blk_at {l r : List UInt8} {k : Nat} {c : UInt8} (h : l.drop k = c :: r) (hb : isBl c = false) : blk l k = k := by
  obtain ⟨hk, e, _⟩ := drop_cons h
  exact blk_stop hk (by rw [e]; exact hb)
theorem must_at {l r : List UInt8} {k : Nat} {c : UInt8} (h : l.drop k = c :: r) : mustJ l k c = .ok (k + 1) := by
  obtain ⟨hk, e, _⟩ := drop_cons h
  exact mustJ_yes hk e
theorem tk_at {l r : List UInt8} {k : Nat} {c d : UInt8} (h : l.drop k = c :: r) : tkJ l k d = decide (c = d) := by
  obtain ⟨hk, e, _⟩ := drop_cons h
  rw [tkJ, List.getElem?_eq_getElem hk, e]
  by_cases q : c = d <;> simp [q]
theorem word_back {l : List UInt8} : ∀ {p s : List UInt8} {k : Nat}, l.drop k = p ++ s → wordJ l k p = .ok (k + p.length)
  | [], s, k, h => by rw [wordJ]; rfl
  | c :: p, s, k, h => by
    rw [List.cons_append] at h
    obtain ⟨hk, e, h2⟩ := drop_cons h
    rw [wordJ, must_at h]
    dsimp only
    rw [word_back h2, List.length_cons]
    congr 1
    omega
theorem run_back {l s : List UInt8} {k : Nat} {i : Int} (h : l.drop k = itoa i ++ s) (hs : stopB s) : runJ l k = itoa i := by
  rw [runJ, h, List.takeWhile_append_of_pos (itoa_num i)]
  have : s.takeWhile numC = [] := by
    cases s with
    | nil => rfl
    | cons c t => rw [List.takeWhile_cons_of_neg (by rw [(hs c rfl).1]; simp)]
  rw [this, List.append_nil]
theorem num_back {l s : List UInt8} {k : Nat} {i : Int} (h : l.drop k = itoa i ++ s) (hs : stopB s) (hi : In64 i) : numJ l k = .ok (i, k + (itoa i).length) := by
  rw [numJ_yes (v := i) (by rw [run_back h hs]; exact int_back i hi), run_back h hs]
theorem quo_back {l s : List UInt8} {k : Nat} {x : ByteArray} (h : l.drop k = Q.qt x.data.toList ++ s) (hk : k ≤ l.length) (hv : validD x.data.toList = true) : quoJ l k = .ok (x, k + (Q.qt x.data.toList).length) := by
  have hu := Q.unq_back x.data.toList (l.take k) s hv
  have e : l.take k ++ (Q.qt x.data.toList ++ s) = l := by rw [← h, List.take_append_drop]
  have el : (l.take k).length = k := by rw [List.length_take]; omega
  rw [e, el] at hu
  unfold quoJ
  rw [hu]
  rw [if_pos rfl]
end Go.Proofs.YtpmhdcmmlkjjmaaGreatDoor
