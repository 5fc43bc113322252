/- joined: AbvR PlnT RblS -/
import Derived.Test.YthlhkhcbkgbhfaaGreatDoorSamS
/- Above: of paths that were looked at, and of any. -/
set_option linter.unusedSimpArgs false
set_option linter.unusedVariables false
namespace Go.Proofs.YthlhkhcbkgbhfaaGreatDoor
open Go.RowKit Go.Lib
/-- is the one at or above the other, by the order of paths alone -/
def cabP (a b : List El) : Bool := decide (a.length ≤ b.length) && decide (lexL oeE a (b.take a.length) = 0)
theorem abvP_cab {a b : List El} (ha : pathB a = true) (hb : pathB b = true) : abvP a b = cabP a b := by
  by_cases hlen : a.length ≤ b.length
  · rw [abvP_yes ha hb hlen, cabP, op_rp (pathB_all ha).2 (fun x hx => (pathB_all hb).2 x (List.mem_of_mem_take hx))]
    simp [hlen]
  · rw [abvP_len hlen, cabP]; simp [hlen]
set_option maxHeartbeats 8000000 in
set_option maxRecDepth 100000 in
theorem cabP_any (a b : List El) (S S' : Nat → Prop) (aa : Option Addr) (ca ba oa : Nat) (ab : Option Addr) (cb bb ob : Nat) (w : World) (hha : Headed aa a.length ca ba oa) (hla : liesP w S a ba oa) (hhb : Headed ab b.length cb bb ob) (hlb : liesP w S' b bb ob) (hS : ∀ x, S x → x < w.heap.size) (hS' : ∀ x, S' x → x < w.heap.size) :
    Calls Tryz.prog 43 #[.slice aa a.length ca, .slice ab b.length cb] w (BPost (cabP a b) w) := by
  have HA := hmk hla
  have HB := hmk hlb
  clear hla hlb
  have hna : a.length ≤ 9223372036854775807 := Nat.le_trans hha.le hha.max
  have hnb : b.length ≤ 9223372036854775807 := Nat.le_trans hhb.le hhb.max
  by_cases hlen : a.length ≤ b.length
  case neg =>
    have HF : Hid (cabP a b = false) := by show _ = _; rw [cabP]; simp [hlen]
    have y8 : ¬ (a.length : Int) ≤ b.length := by omega
    generalize cabP a b = RR at *
    go_enter Tryz.func43, Tryz.ntmps43
    go_wp2_with fail
    go_ret
    exact ⟨by rw [HF.out]; rfl, Below.refl _ _⟩
  have y8 : (a.length : Int) ≤ b.length := by omega
  have y9 : (a.length : Int) ≤ cb := by have := hhb.le; omega
  have htl : (b.take a.length).length = a.length := by simp; omega
  have HC : Hid (cabP a b = decide (lexL oeE a (b.take a.length) = 0)) := by show _ = _; rw [cabP]; simp [hlen]
  have hhc : Headed ab (b.take a.length).length cb bb ob := ⟨by rw [htl]; have := hhb.le; omega, hhb.max, by
    rcases hhb.at_ with h | h
    · exact .inl (by rw [htl]; omega)
    · exact .inr h, hhb.nil⟩
  have c := hmk (opaths_any a (b.take a.length) S S' aa ca ba oa ab cb bb ob w hha HA.out hhc (liesP_sub HB.out a.length) hS hS')
  rw [htl] at c
  generalize cabP a b = RR at *
  generalize lexL oeE a (b.take a.length) = ZZ at *
  clear htl hhc
  have HZ : Hid (decide (ZZ = 0) = (ZZ == 0)) := by show _ = _; by_cases h : ZZ = 0 <;> simp [h]
  cases ab with
  | none =>
    have hc0 : cb = 0 := hhb.nil rfl
    have h0 : a.length = 0 := by have := hhb.le; omega
    rw [h0, hc0] at c
    go_enter Tryz.func43, Tryz.ntmps43
    go_wp2_with fail
    refine c.out.mono ?_
    rintro e w3 ⟨rfl, b3⟩
    go_wp2_with fail
    go_ret
    exact ⟨by rw [HC.out, HZ.out]; rfl, b3⟩
  | some ad =>
    go_enter Tryz.func43, Tryz.ntmps43
    go_wp2_with fail
    refine c.out.mono ?_
    rintro e w3 ⟨rfl, b3⟩
    go_wp2_with fail
    go_ret
    exact ⟨by rw [HC.out, HZ.out]; rfl, b3⟩
set_option maxHeartbeats 8000000 in
set_option maxRecDepth 100000 in
theorem abvP_any (a b : List El) (S S' : Nat → Prop) (aa : Option Addr) (ca ba oa : Nat) (ab : Option Addr) (cb bb ob : Nat) (w : World) (tb : Tb w) (hha : Headed aa a.length ca ba oa) (hla : liesP w S a ba oa) (hhb : Headed ab b.length cb bb ob) (hlb : liesP w S' b bb ob) (hS : ∀ x, S x → x < w.heap.size) (hS' : ∀ x, S' x → x < w.heap.size) (hwa : wtP a ≤ 2147483647) (hwb : wtP b ≤ 2147483647) :
    Calls Tryz.prog 24 #[.slice aa a.length ca, .slice ab b.length cb] w (BPost (abvP a b) w) := by
  have HA := hmk hla
  have HB := hmk hlb
  clear hla hlb
  have hna : a.length ≤ 9223372036854775807 := Nat.le_trans hha.le hha.max
  have hnb : b.length ≤ 9223372036854775807 := Nat.le_trans hhb.le hhb.max
  have ca_ := hmk (pcheck_any a S aa ca ba oa w tb hha HA.out hS hwa)
  cases ha : pathB a with
  | false =>
    have ya : (((errP a : Nat) : Int) == 0) = false := by rw [errP_no ha]; rfl
    generalize errP a = Ea at *
    go_enter Tryz.func24, Tryz.ntmps24
    go_wp2_with fail
    refine ca_.out.mono ?_
    rintro e w1 ⟨rfl, b1⟩
    go_wp2_with fail
    go_ret
    exact ⟨by rw [abvP_no (by rw [ha]; simp)]; rfl, b1⟩
  | true =>
  cases hb : pathB b with
  | false =>
    have ya : (((errP a : Nat) : Int) == 0) = true := by rw [errP_yes ha]; rfl
    have yb : (((errP b : Nat) : Int) == 0) = false := by rw [errP_no hb]; rfl
    have cb_ : Hid (∀ W, Below w.heap.size w W → Calls Tryz.prog 21 #[.slice ab b.length cb] W (NPost (errP b) W)) := fun W h => pcheck_any b S' ab cb bb ob W (tb.below h tb.z) hhb (liesP_keep (fun x hx => h.block x (hS' x hx)) (fun _ h => h) HB.out) (fun x hx => Nat.lt_of_lt_of_le (hS' x hx) h.size) hwb
    generalize errP a = Ea at *
    generalize errP b = Eb at *
    go_enter Tryz.func24, Tryz.ntmps24
    go_wp2_with fail
    refine ca_.out.mono ?_
    rintro e w1 ⟨rfl, b1⟩
    go_wp2_with fail
    refine (cb_.out w1 b1).mono ?_
    rintro e w2 ⟨rfl, b2⟩
    have b2' := b1.trans (b2.mono b1.size)
    go_wp2_with fail
    go_ret
    exact ⟨by rw [abvP_no (by rw [hb]; simp)]; rfl, b2'⟩
  | true =>
    have ya : (((errP a : Nat) : Int) == 0) = true := by rw [errP_yes ha]; rfl
    have yb : (((errP b : Nat) : Int) == 0) = true := by rw [errP_yes hb]; rfl
    have cb_ : Hid (∀ W, Below w.heap.size w W → Calls Tryz.prog 21 #[.slice ab b.length cb] W (NPost (errP b) W)) := fun W h => pcheck_any b S' ab cb bb ob W (tb.below h tb.z) hhb (liesP_keep (fun x hx => h.block x (hS' x hx)) (fun _ h => h) HB.out) (fun x hx => Nat.lt_of_lt_of_le (hS' x hx) h.size) hwb
    generalize errP a = Ea at *
    generalize errP b = Eb at *
    go_enter Tryz.func24, Tryz.ntmps24
    go_wp2_with fail
    refine ca_.out.mono ?_
    rintro e w1 ⟨rfl, b1⟩
    go_wp2_with fail
    refine (cb_.out w1 b1).mono ?_
    rintro e w2 ⟨rfl, b2⟩
    have b2' := b1.trans (b2.mono b1.size)
    have HC := hmk (abvP_cab ha hb)
    have c := hmk (cabP_any a b S S' aa ca ba oa ab cb bb ob w2 hha (liesP_keep (fun x hx => b2'.block x (hS x hx)) (fun _ h => h) HA.out) hhb (liesP_keep (fun x hx => b2'.block x (hS' x hx)) (fun _ h => h) HB.out) (fun x hx => Nat.lt_of_lt_of_le (hS x hx) b2'.size) (fun x hx => Nat.lt_of_lt_of_le (hS' x hx) b2'.size))
    clear b1 b2 ca_ cb_
    generalize abvP a b = RR at *
    generalize cabP a b = ZZ at *
    clear ha hb
    go_wp2_with fail
    refine c.out.mono ?_
    rintro e w3 ⟨rfl, b3⟩
    go_wp2_with fail
    go_ret
    exact ⟨by rw [HC.out]; rfl, b2'.trans (b3.mono b2'.size)⟩
end Go.Proofs.YthlhkhcbkgbhfaaGreatDoor
/- What lies below a path in a set stands together; what ends are. -/
namespace Go.Proofs.YthlhkhcbkgbhfaaGreatDoor
open Go.RowKit Go.Lib
theorem cab_cons {a b : El} {p q : List El} : cabP (a :: p) (b :: q) = (decide (oeE a b = 0) && cabP p q) := by
  rw [cabP, cabP, List.length_cons, List.length_cons, List.take_succ_cons, lexL]
  by_cases h : oeE a b = 0
  · simp [h]
  · simp [h]
theorem cab_nil {q : List El} : cabP [] q = true := by simp [cabP, lexL, cmpI]
theorem cab_nil_r {a : El} {p : List El} : cabP (a :: p) [] = false := by simp [cabP]
/-- what is above is not greater -/
theorem cab_le : ∀ {p q : List El}, cabP p q = true → lexL oeE p q ≤ 0
  | [], q, _ => by rw [lex_nil_l]; unfold cmpI; split <;> (try split) <;> omega
  | a :: p, [], h => by rw [cab_nil_r] at h; cases h
  | a :: p, b :: q, h => by
    rw [cab_cons, Bool.and_eq_true, decide_eq_true_iff] at h
    rw [lexL, if_pos h.1]
    exact cab_le h.2
/-- above, and less: the other one is longer -/
theorem cab_longer : ∀ {p q : List El}, cabP p q = true → lexL oeE p q < 0 → p.length < q.length
  | [], [], _, h => by simp [lexL, cmpI] at h
  | [], b :: q, _, _ => by simp
  | a :: p, [], h, _ => by rw [cab_nil_r] at h; cases h
  | a :: p, b :: q, h, h2 => by
    rw [cab_cons, Bool.and_eq_true, decide_eq_true_iff] at h
    rw [lexL, if_pos h.1] at h2
    have := cab_longer h.2 h2
    simpa using this
/-- of one length: the same -/
theorem cab_less : ∀ {p q : List El}, cabP p q = true → p.length < q.length → lexL oeE p q < 0
  | [], [], _, h => by simp at h
  | [], b :: q, _, _ => by rw [lex_nil_l, List.length_cons, cmpI_0s]; omega
  | a :: p, [], h, _ => by rw [cab_nil_r] at h; cases h
  | a :: p, b :: q, h, h2 => by
    rw [cab_cons, Bool.and_eq_true, decide_eq_true_iff] at h
    rw [lexL, if_pos h.1]
    exact cab_less h.2 (by simpa using h2)
/-- what lies between is below too -/
theorem cab_between : ∀ {p x q : List El}, cabP p q = true → lexL oeE p x < 0 → lexL oeE x q < 0 → cabP p x = true
  | [], x, q, _, _, _ => cab_nil
  | a :: p, x, [], h, _, _ => by rw [cab_nil_r] at h; cases h
  | a :: p, [], b :: q, h, h1, _ => by rw [lex_nil_r, List.length_cons, cmpI_s0] at h1; omega
  | a :: p, c :: x, b :: q, h, h1, h2 => by
    rw [cab_cons, Bool.and_eq_true, decide_eq_true_iff] at h ⊢
    rw [lexL] at h1 h2
    have e1 := wk_E.cong a b c h.1
    have e2 := wk_E.anti b c
    by_cases hc : oeE a c = 0
    · rw [if_pos hc] at h1
      rw [if_pos (by omega)] at h2
      exact ⟨hc, cab_between h.2 h1 h2⟩
    · rw [if_neg hc] at h1
      rw [if_neg (by omega)] at h2
      omega
/-- does q lie below p -/
def isB (p q : List El) : Bool := decide (p.length < q.length) && cabP p q
theorem isB_iff {p q : List El} : isB p q = true ↔ cabP p q = true ∧ lexL oeE p q < 0 := by
  rw [isB, Bool.and_eq_true, decide_eq_true_iff]
  exact ⟨fun h => ⟨h.2, cab_less h.2 h.1⟩, fun h => ⟨cab_longer h.1 h.2, h.1⟩⟩
/-- what lies below p in a set: a run of it -/
theorem below_run {l : List (List El)} (hr : l.Pairwise (fun a b => lexL oeE a b < 0)) {p : List El} {i j : Nat} (hij : i ≤ j) (hjl : j ≤ l.length) (h1 : ∀ k, (hk : k < l.length) → k < i → ¬ lexL oeE p l[k] < 0) (h2 : ∀ k, (hk : k < l.length) → i ≤ k → k < j → cabP p l[k] = true) (h3 : ∀ k, (hk : k < l.length) → i ≤ k → lexL oeE p l[k] < 0) (h4 : ∀ (hj : j < l.length), cabP p l[j] = false) : l.filter (isB p) = (l.take j).drop i := by
  have hR := fun a b ha hb hab => List.pairwise_iff_getElem.1 hr a b ha hb hab
  have e : l = l.take i ++ ((l.take j).drop i ++ l.drop j) := by
    rw [← List.append_assoc]
    have : l.take i ++ (l.take j).drop i = l.take j := by
      have := List.take_append_drop i (l.take j)
      rwa [List.take_take, Nat.min_eq_left hij] at this
    rw [this, List.take_append_drop]
  have f1 : (l.take i).filter (isB p) = [] := by
    rw [List.filter_eq_nil_iff]
    intro q hq hb
    obtain ⟨k, hk, rfl⟩ := List.getElem_of_mem hq
    rw [List.length_take] at hk
    rw [List.getElem_take] at hb
    exact h1 k (by omega) (by omega) (isB_iff.1 hb).2
  have f2 : ((l.take j).drop i).filter (isB p) = (l.take j).drop i := by
    rw [List.filter_eq_self]
    intro q hq
    obtain ⟨k, hk, rfl⟩ := List.getElem_of_mem hq
    rw [List.length_drop, List.length_take] at hk
    rw [List.getElem_drop, List.getElem_take, isB_iff]
    exact ⟨h2 (i + k) (by omega) (by omega) (by omega), h3 (i + k) (by omega) (by omega)⟩
  have f3 : (l.drop j).filter (isB p) = [] := by
    rw [List.filter_eq_nil_iff]
    intro q hq hb
    obtain ⟨k, hk, rfl⟩ := List.getElem_of_mem hq
    rw [List.length_drop] at hk
    rw [List.getElem_drop] at hb
    have hj : j < l.length := by omega
    have hn := h4 hj
    by_cases hk0 : k = 0
    · subst hk0
      have hb' : isB p l[j] = true := by simpa using hb
      rw [(isB_iff.1 hb').1] at hn
      cases hn
    · have := cab_between (isB_iff.1 hb).1 (h3 j hj hij) (hR j (j + k) hj (by omega) (by omega))
      rw [this] at hn
      cases hn
  conv => lhs; rw [e]
  rw [List.filter_append, List.filter_append, f1, f2, f3, List.nil_append, List.append_nil]
/-- is nothing of l below q -/
def endB (l : List (List El)) (q : List El) : Bool := !l.any (isB q)
/-- in a set: the next one tells -/
theorem end_next {l : List (List El)} (hr : l.Pairwise (fun a b => lexL oeE a b < 0)) {i : Nat} (hi : i < l.length) : endB l l[i] = (decide (i + 1 = l.length) || !(match l[i + 1]? with | some x => cabP l[i] x | none => false)) := by
  have hR := fun a b ha hb hab => List.pairwise_iff_getElem.1 hr a b ha hb hab
  by_cases h1 : i + 1 = l.length
  · have : l.any (isB l[i]) = false := by
      rw [List.any_eq_false]
      intro q hq hb
      obtain ⟨k, hk, rfl⟩ := List.getElem_of_mem hq
      have h2 := (isB_iff.1 hb).2
      rcases Nat.lt_trichotomy i k with h | h | h
      · omega
      · subst h; have := wk_P.self l[i]; omega
      · have := hR k i hk hi h; have := wk_P.anti l[k] l[i]; omega
    rw [endB, this]; simp [h1]
  · have hi1 : i + 1 < l.length := by omega
    rw [List.getElem?_eq_getElem hi1]
    have h5 := hR i (i + 1) hi hi1 (by omega)
    have e : l.any (isB l[i]) = cabP l[i] l[i + 1] := by
      rw [Bool.eq_iff_iff, List.any_eq_true]
      constructor
      · rintro ⟨q, hq, hb⟩
        obtain ⟨k, hk, rfl⟩ := List.getElem_of_mem hq
        have h2 := isB_iff.1 hb
        rcases Nat.lt_trichotomy (i + 1) k with h | h | h
        · exact cab_between h2.1 h5 (hR (i + 1) k hi1 hk h)
        · subst h; exact h2.1
        · by_cases ek : k = i
          · subst ek; have := wk_P.self l[k]; omega
          · have := hR k i hk hi (by omega); have := wk_P.anti l[k] l[i]; omega
      · intro h
        exact ⟨l[i + 1], List.getElem_mem hi1, isB_iff.2 ⟨h, h5⟩⟩
    rw [endB, e]; simp [h1]
end Go.Proofs.YthlhkhcbkgbhfaaGreatDoor
/- The document's Below and Ends. -/
namespace Go.Proofs.YthlhkhcbkgbhfaaGreatDoor
open Go.RowKit Go.Lib
/-- what is answered: a list and an error -/
def BwPost (R : List (List El)) (er : Nat) (S : Nat → Prop) (w : World) (e : Ending) (w' : World) : Prop := ∃ a c b o, e = .returned (.tuple #[.slice a R.length c, .int .i64 (er : Int)]) ∧ Headed a R.length c b o ∧ liesQ w' (Tw S w w') R b o ∧ Below w.heap.size w w'
theorem bw_nil {er : Nat} {S : Nat → Prop} {w w' : World} (hb : Below w.heap.size w w') {e : Ending} (he : e = .returned (.tuple #[.slice none 0 0, .int .i64 (er : Int)])) : BwPost [] er S w e w' :=
  ⟨none, 0, 0, 0, he, ⟨Nat.le_refl _, by simp [maxLen], .inl rfl, fun _ => rfl⟩, fun j hj => by simp at hj, hb⟩
def errB (l : List (List El)) (p : List El) : Nat := if errS l = 0 then errP p else errS l
def belL (l : List (List El)) (p : List El) : List (List El) := if errB l p = 0 then l.filter (isB p) else []
def endL (l : List (List El)) : List (List El) := if errS l = 0 then l.filter (endB l) else []
end Go.Proofs.YthlhkhcbkgbhfaaGreatDoor
