/- joined: AbvR BckP -/
import Derived.Test.YtihcggepeadklaaGreatDoorG40
import Derived.Test.YtihcggepeadklaaGreatDoorRdrI
/- Above: of paths that were looked at, and of any. -/
set_option linter.unusedSimpArgs false
set_option linter.unusedVariables false
namespace Go.Proofs.YtihcggepeadklaaGreatDoor
open Go.RowKit Go.Lib
/-- is the one at or above the other, by the order of paths alone -/
def cabP (a b : List El) : Bool := decide (a.length ≤ b.length) && decide (lexL oeE a (b.take a.length) = 0)
theorem abvP_cab {a b : List El} (ha : pathB a = true) (hb : pathB b = true) : abvP a b = cabP a b := by
  by_cases hlen : a.length ≤ b.length
  · rw [abvP_yes ha hb hlen, cabP, op_rp (pathB_all ha).2 (fun x hx => (pathB_all hb).2 x (List.mem_of_mem_take hx))]
    simp [hlen]
  · rw [abvP_len hlen, cabP]; simp [hlen]
set_option maxHeartbeats 8000000 in
set_option maxRecDepth 100000 in
theorem cabP_any (a b : List El) (S S' : Nat → Prop) (aa : Option Addr) (ca ba oa : Nat) (ab : Option Addr) (cb bb ob : Nat) (w : World) (hha : Headed aa a.length ca ba oa) (hla : liesP w S a ba oa) (hhb : Headed ab b.length cb bb ob) (hlb : liesP w S' b bb ob) (hS : ∀ x, S x → x < w.heap.size) (hS' : ∀ x, S' x → x < w.heap.size) :
    Calls Tryz.prog 26 #[.slice aa a.length ca, .slice ab b.length cb] w (BPost (cabP a b) w) := by
  have HA := hmk hla
  have HB := hmk hlb
  clear hla hlb
  have hna : a.length ≤ 9223372036854775807 := Nat.le_trans hha.le hha.max
  have hnb : b.length ≤ 9223372036854775807 := Nat.le_trans hhb.le hhb.max
  by_cases hlen : a.length ≤ b.length
  case neg =>
    have HF : Hid (cabP a b = false) := by show _ = _; rw [cabP]; simp [hlen]
    have y8 : ¬ (a.length : Int) ≤ b.length := by omega
    generalize cabP a b = RR at *
    go_enter Tryz.func26, Tryz.ntmps26
    go_wp2_with fail
    go_ret
    exact ⟨by rw [HF.out]; rfl, Below.refl _ _⟩
  have y8 : (a.length : Int) ≤ b.length := by omega
  have y9 : (a.length : Int) ≤ cb := by have := hhb.le; omega
  have htl : (b.take a.length).length = a.length := by simp; omega
  have HC : Hid (cabP a b = decide (lexL oeE a (b.take a.length) = 0)) := by show _ = _; rw [cabP]; simp [hlen]
  have hhc : Headed ab (b.take a.length).length cb bb ob := ⟨by rw [htl]; have := hhb.le; omega, hhb.max, by
    rcases hhb.at_ with h | h
    · exact .inl (by rw [htl]; omega)
    · exact .inr h, hhb.nil⟩
  have c := hmk (opaths_any a (b.take a.length) S S' aa ca ba oa ab cb bb ob w hha HA.out hhc (liesP_sub HB.out a.length) hS hS')
  rw [htl] at c
  generalize cabP a b = RR at *
  generalize lexL oeE a (b.take a.length) = ZZ at *
  clear htl hhc
  have HZ : Hid (decide (ZZ = 0) = (ZZ == 0)) := by show _ = _; by_cases h : ZZ = 0 <;> simp [h]
  cases ab with
  | none =>
    have hc0 : cb = 0 := hhb.nil rfl
    have h0 : a.length = 0 := by have := hhb.le; omega
    rw [h0, hc0] at c
    go_enter Tryz.func26, Tryz.ntmps26
    go_wp2_with fail
    refine c.out.mono ?_
    rintro e w3 ⟨rfl, b3⟩
    go_wp2_with fail
    go_ret
    exact ⟨by rw [HC.out, HZ.out]; rfl, b3⟩
  | some ad =>
    go_enter Tryz.func26, Tryz.ntmps26
    go_wp2_with fail
    refine c.out.mono ?_
    rintro e w3 ⟨rfl, b3⟩
    go_wp2_with fail
    go_ret
    exact ⟨by rw [HC.out, HZ.out]; rfl, b3⟩
set_option maxHeartbeats 8000000 in
set_option maxRecDepth 100000 in
theorem abvP_any (a b : List El) (S S' : Nat → Prop) (aa : Option Addr) (ca ba oa : Nat) (ab : Option Addr) (cb bb ob : Nat) (w : World) (tb : Tb w) (hha : Headed aa a.length ca ba oa) (hla : liesP w S a ba oa) (hhb : Headed ab b.length cb bb ob) (hlb : liesP w S' b bb ob) (hS : ∀ x, S x → x < w.heap.size) (hS' : ∀ x, S' x → x < w.heap.size) (hwa : wtP a ≤ 2147483647) (hwb : wtP b ≤ 2147483647) :
    Calls Tryz.prog 14 #[.slice aa a.length ca, .slice ab b.length cb] w (BPost (abvP a b) w) := by
  have HA := hmk hla
  have HB := hmk hlb
  clear hla hlb
  have hna : a.length ≤ 9223372036854775807 := Nat.le_trans hha.le hha.max
  have hnb : b.length ≤ 9223372036854775807 := Nat.le_trans hhb.le hhb.max
  have ca_ := hmk (pcheck_any a S aa ca ba oa w tb hha HA.out hS hwa)
  cases ha : pathB a with
  | false =>
    have ya : (((errP a : Nat) : Int) == 0) = false := by rw [errP_no ha]; rfl
    generalize errP a = Ea at *
    go_enter Tryz.func14, Tryz.ntmps14
    go_wp2_with fail
    refine ca_.out.mono ?_
    rintro e w1 ⟨rfl, b1⟩
    go_wp2_with fail
    go_ret
    exact ⟨by rw [abvP_no (by rw [ha]; simp)]; rfl, b1⟩
  | true =>
  cases hb : pathB b with
  | false =>
    have ya : (((errP a : Nat) : Int) == 0) = true := by rw [errP_yes ha]; rfl
    have yb : (((errP b : Nat) : Int) == 0) = false := by rw [errP_no hb]; rfl
    have cb_ : Hid (∀ W, Below w.heap.size w W → Calls Tryz.prog 10 #[.slice ab b.length cb] W (NPost (errP b) W)) := fun W h => pcheck_any b S' ab cb bb ob W (tb.below h tb.z) hhb (liesP_keep (fun x hx => h.block x (hS' x hx)) (fun _ h => h) HB.out) (fun x hx => Nat.lt_of_lt_of_le (hS' x hx) h.size) hwb
    generalize errP a = Ea at *
    generalize errP b = Eb at *
    go_enter Tryz.func14, Tryz.ntmps14
    go_wp2_with fail
    refine ca_.out.mono ?_
    rintro e w1 ⟨rfl, b1⟩
    go_wp2_with fail
    refine (cb_.out w1 b1).mono ?_
    rintro e w2 ⟨rfl, b2⟩
    have b2' := b1.trans (b2.mono b1.size)
    go_wp2_with fail
    go_ret
    exact ⟨by rw [abvP_no (by rw [hb]; simp)]; rfl, b2'⟩
  | true =>
    have ya : (((errP a : Nat) : Int) == 0) = true := by rw [errP_yes ha]; rfl
    have yb : (((errP b : Nat) : Int) == 0) = true := by rw [errP_yes hb]; rfl
    have cb_ : Hid (∀ W, Below w.heap.size w W → Calls Tryz.prog 10 #[.slice ab b.length cb] W (NPost (errP b) W)) := fun W h => pcheck_any b S' ab cb bb ob W (tb.below h tb.z) hhb (liesP_keep (fun x hx => h.block x (hS' x hx)) (fun _ h => h) HB.out) (fun x hx => Nat.lt_of_lt_of_le (hS' x hx) h.size) hwb
    generalize errP a = Ea at *
    generalize errP b = Eb at *
    go_enter Tryz.func14, Tryz.ntmps14
    go_wp2_with fail
    refine ca_.out.mono ?_
    rintro e w1 ⟨rfl, b1⟩
    go_wp2_with fail
    refine (cb_.out w1 b1).mono ?_
    rintro e w2 ⟨rfl, b2⟩
    have b2' := b1.trans (b2.mono b1.size)
    have HC := hmk (abvP_cab ha hb)
    have c := hmk (cabP_any a b S S' aa ca ba oa ab cb bb ob w2 hha (liesP_keep (fun x hx => b2'.block x (hS x hx)) (fun _ h => h) HA.out) hhb (liesP_keep (fun x hx => b2'.block x (hS' x hx)) (fun _ h => h) HB.out) (fun x hx => Nat.lt_of_lt_of_le (hS x hx) b2'.size) (fun x hx => Nat.lt_of_lt_of_le (hS' x hx) b2'.size))
    clear b1 b2 ca_ cb_
    generalize abvP a b = RR at *
    generalize cabP a b = ZZ at *
    clear ha hb
    go_wp2_with fail
    refine c.out.mono ?_
    rintro e w3 ⟨rfl, b3⟩
    go_wp2_with fail
    go_ret
    exact ⟨by rw [HC.out]; rfl, b2'.trans (b3.mono b2'.size)⟩
end Go.Proofs.YtihcggepeadklaaGreatDoor
/- Texts there and back: what is written of an element is read as that element. -/
namespace Go.Proofs.YtihcggepeadklaaGreatDoor
open Go.RowKit Go.Lib
/-! numbers -/
theorem dig_ofNat (d : Nat) (h : d < 10) : (UInt8.ofNat (48 + d)).toNat = 48 + d := by
  rw [UInt8.toNat_ofNat']; omega
theorem puM_app (M : Nat) : ∀ (l : List UInt8) (acc u : Nat) (c : UInt8), parseUintM M acc l = .ok u → 48 ≤ c.toNat ∧ c.toNat ≤ 57 → u < 1844674407370955162 → u * 10 + (c.toNat - 48) ≤ M → parseUintM M acc (l ++ [c]) = .ok (u * 10 + (c.toNat - 48))
  | [], acc, u, c, h, hc, h1, h2 => by
    simp only [parseUintM, NumEnd.ok.injEq] at h
    subst h
    simp only [List.nil_append, parseUintM]
    rw [if_pos hc, if_neg (by omega), if_neg (by omega)]
  | x :: l, acc, u, c, h, hc, h1, h2 => by
    simp only [List.cons_append, parseUintM] at h ⊢
    split at h
    · rename_i hx
      rw [if_pos hx]
      split at h
      · cases h
      · rename_i hy
        rw [if_neg hy]
        split at h
        · cases h
        · rename_i hz
          rw [if_neg hz]
          exact puM_app M l _ u c h hc h1 h2
    · cases h
theorem puM_dec : ∀ (n u : Nat), u ≤ n → u ≤ 18446744073709551615 → parseUintM 18446744073709551615 0 (decDigits u) = .ok u
  | n, u, hn, hu => by
    by_cases h : u < 10
    · rw [decDigits_one h]
      simp only [parseUintM]
      have := dig_ofNat u h
      rw [if_pos (by omega), if_neg (by omega), if_neg (by omega)]
      congr 1
      omega
    · rw [decDigits, dif_neg h]
      have e := dig_ofNat (u % 10) (by omega)
      cases n with
      | zero => omega
      | succ n =>
        rw [puM_app _ _ 0 (u / 10) _ (puM_dec n (u / 10) (by omega) (by omega)) (by omega) (by omega) (by omega)]
        congr 1
        omega
theorem dec_ne (u : Nat) : decDigits u ≠ [] := by
  rw [decDigits]
  split <;> simp
theorem dec_dig : ∀ (n u : Nat), u ≤ n → ∀ c ∈ decDigits u, 48 ≤ c.toNat ∧ c.toNat ≤ 57
  | n, u, hn, c, hc => by
    by_cases h : u < 10
    · rw [decDigits_one h] at hc
      have := dig_ofNat u h
      rw [List.mem_singleton] at hc
      rw [hc]
      omega
    · rw [decDigits, dif_neg h] at hc
      rcases List.mem_append.1 hc with hc | hc
      · cases n with
        | zero => omega
        | succ n => exact dec_dig n (u / 10) (by omega) c hc
      · have := dig_ofNat (u % 10) (by omega)
        rw [List.mem_singleton] at hc
        rw [hc]
        omega
theorem pi_itoa (i : Int) (h : In64 i) : parseIntB 64 (itoa i) = .ok i := by
  obtain ⟨h1, h2⟩ := h
  unfold itoa
  by_cases hn : i < 0
  · rw [if_pos hn]
    unfold parseIntB
    dsimp only
    have e45 : (45 : UInt8).toNat = 45 := rfl
    rw [if_pos (by right; rfl), parseUintB, if_neg (dec_ne _)]
    have e2 : (2 : Nat) ^ 64 - 1 = 18446744073709551615 := by decide
    rw [e2, puM_dec i.natAbs i.natAbs (Nat.le_refl _) (by omega)]
    dsimp only
    rw [if_neg (fun h => h.1 rfl), if_neg (fun h => by have := h.2; have : (2 : Nat) ^ (64 - 1) = 9223372036854775808 := by decide
                                                       omega), if_pos e45]
    congr 1
    omega
  · rw [if_neg hn]
    have hd := dec_dig i.toNat i.toNat (Nat.le_refl _)
    unfold parseIntB
    split
    · rename_i h0; exact absurd h0 (dec_ne _)
    · rename_i c r h0
      have hc := hd c (by rw [h0]; simp)
      dsimp only
      rw [if_neg (by omega), parseUintB, if_neg (dec_ne _)]
      have e2 : (2 : Nat) ^ 64 - 1 = 18446744073709551615 := by decide
      have e3 : (2 : Nat) ^ (64 - 1) = 9223372036854775808 := by decide
      rw [e2, puM_dec i.toNat i.toNat (Nat.le_refl _) (by omega)]
      dsimp only
      rw [if_neg (fun h => by have := h.2; omega), if_neg (fun h => by have := h.1; omega), if_neg (by omega)]
      congr 1
      omega
theorem itoa_set (i : Int) : ∀ c ∈ itoa i, minDig.contains c = true := by
  have key : ∀ c : UInt8, 48 ≤ c.toNat ∧ c.toNat ≤ 57 → minDig.contains c = true := by
    intro c hc
    have : ∀ d : Fin 256, 48 ≤ d.val ∧ d.val ≤ 57 → minDig.contains (UInt8.ofNat d.val) = true := by decide +kernel
    have h := this ⟨c.toNat, c.toNat_lt⟩ hc
    simpa using h
  intro c hc
  unfold itoa at hc
  split at hc
  · rcases List.mem_cons.1 hc with rfl | hc
    · decide
    · exact key c (dec_dig _ _ (Nat.le_refl _) c hc)
  · exact key c (dec_dig _ _ (Nat.le_refl _) c hc)
/-! at a place -/
/-- the text from a place on -/
theorem tk_at (a p t : List UInt8) : tkB (a ++ t) a.length p = hasPrefix t p := by
  unfold tkB
  rw [List.drop_left]
theorem hp_yes (p t : List UInt8) : hasPrefix (p ++ t) p = true := by
  unfold hasPrefix
  exact List.isPrefixOf_iff_prefix.2 (List.prefix_append p t)
theorem hp_no {c d : UInt8} (t p : List UInt8) (h : c ≠ d) : hasPrefix (c :: t) (d :: p) = false := by
  unfold hasPrefix
  simp [List.isPrefixOf, Ne.symm h]
theorem quo_back (a l u : List UInt8) (hv : validD l = true) : quoF (a ++ (Q.qt l ++ u)) a.length = some (⟨l.toArray⟩, a.length + (Q.qt l).length) := by
  rw [quoF, Q.unq_back l a u hv, if_pos rfl]
/-- no byte of a plain name stands here -/
def stopN : List UInt8 → Prop
  | [] => True
  | c :: _ => okR 1 c.toNat = false
theorem prefN_stop : ∀ (i : Nat) (t : List UInt8), 0 < i → stopN t → prefN i t = i
  | i, [], _, _ => rfl
  | i, c :: t, hi, h => by
    have h' : okR 1 c.toNat = false := h
    rw [okR_pos 1 _ (by omega)] at h'
    rw [prefN, if_neg (by rw [okR_pos i _ (by omega), h']; decide)]
theorem prefN_app : ∀ (l : List UInt8) (i : Nat) (t : List UInt8), allN i l = true → 0 < i + l.length → stopN t → prefN i (l ++ t) = i + l.length
  | [], i, t, _, h0, ht => by rw [List.nil_append, prefN_stop i t (by simpa using h0) ht]; simp
  | c :: l, i, t, h, h0, ht => by
    rw [allN, Bool.and_eq_true] at h
    rw [List.cons_append, prefN, if_pos h.1, prefN_app l (i + 1) t h.2 (by omega) ht, List.length_cons]
    omega
theorem nam_back (a : List UInt8) (n : ByteArray) (t : List UInt8) (hv : utfB n = true) (ht : stopN t) : namF (a ++ (nmT n.data.toList ++ t)) a.length = some (n, a.length + (nmT n.data.toList).length) := by
  have hb : (⟨n.data.toList.toArray⟩ : ByteArray) = n := by simp
  unfold namF
  rw [List.drop_left]
  unfold nmT
  by_cases hp : plnN n.data.toList = true
  · rw [if_pos hp]
    unfold plnN at hp
    rw [Bool.and_eq_true] at hp
    have hne : 0 < n.data.toList.length := by
      cases h : n.data.toList with
      | nil => rw [h] at hp; simp at hp
      | cons _ _ => simp
    have e := prefN_app n.data.toList 0 t hp.2 (by omega) ht
    rw [Nat.zero_add] at e
    rw [e, if_pos hne, List.take_left, hb]
  · rw [if_neg hp]
    have e : prefN 0 (Q.qt n.data.toList ++ t) = 0 := by
      show prefN 0 (34 :: _) = 0
      rw [prefN, if_neg (by decide)]
    have hv' : validD n.data.toList = true := by simpa [utfB] using hv
    rw [e, if_neg (by omega), quo_back a _ t hv', hb]
/-- a scalar that may be -/
theorem sca_cases {v : V} (h : sizS v = true) : (∃ b, v = .mk 1 b 0 ⟨#[]⟩ [] []) ∨ (∃ i, v = .mk 2 false i ⟨#[]⟩ [] []) ∨ (∃ s, validD s.data.toList = true ∧ v = .mk 3 false 0 s [] []) := by
  obtain ⟨k, b, i, s, l, m⟩ := v
  obtain ⟨hk, hv, rfl, rfl⟩ := sizS_good h
  simp only [sizS, Bool.and_eq_true, decide_eq_true_eq] at h
  have gv := chkV_allG 40 _ 0 _ (okV_true h.1)
  rw [allG] at gv
  have p := goodB_plain gv.1
  have es : (k = 3 ∨ s = ⟨#[]⟩) := p.2.2.2.2.1.imp id (fun e => by
    have : s.toList = [] := by simpa using e
    exact bytes_eq (by rw [this]; rw [ByteArray.toList_eq]))
  rcases hk with rfl | rfl | rfl
  · refine .inl ⟨b, ?_⟩
    obtain rfl : i = 0 := p.2.2.2.1.resolve_left (by omega)
    rw [es.resolve_left (by omega)]
  · refine .inr (.inl ⟨i, ?_⟩)
    obtain rfl : b = false := p.2.2.1.resolve_left (by omega)
    rw [es.resolve_left (by omega)]
  · refine .inr (.inr ⟨s, hv, ?_⟩)
    obtain rfl : b = false := p.2.2.1.resolve_left (by omega)
    obtain rfl : i = 0 := p.2.2.2.1.resolve_left (by omega)
    rfl
end Go.Proofs.YtihcggepeadklaaGreatDoor
