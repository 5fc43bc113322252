import Derived.Test.YtolekldjbbjmjaaGreatDoorG10
/- Plain facts: what is quoted is read again; what is read is a text string, with a quoted text no longer. -/
set_option linter.unusedSimpArgs false
set_option linter.unusedVariables false
namespace Go.Proofs.YtolekldjbbjmjaaGreatDoor.Q
theorem nxtGo_full (n : Nat) (k lo hi : Nat) (h : n ≤ k) (u : List UInt8) : nxtGo n k lo hi u = (n, true) := by
  cases u <;> simp [nxtGo, h]
theorem nxtGo_pre (n : Nat) : ∀ (t : List UInt8) (k lo hi : Nat) (u : List UInt8), k ≤ n → (nxtGo n k lo hi t).2 = true →
    nxtGo n k lo hi (t.take (n - k) ++ u) = (n, true) ∧ n - k ≤ t.length ∧ (128 ≤ lo → ∀ x ∈ t.take (n - k), 128 ≤ x.toNat)
  | [], k, lo, hi, u, hk, h => by
    by_cases c : n ≤ k
    · have e : n - k = 0 := by omega
      rw [e]
      exact ⟨nxtGo_full n k lo hi c _, by simp, by simp⟩
    · simp [nxtGo, c] at h
  | c :: t, k, lo, hi, u, hk, h => by
    by_cases d : n ≤ k
    · have e : n - k = 0 := by omega
      rw [e]
      exact ⟨nxtGo_full n k lo hi d _, by simp, by simp⟩
    · rw [nxtGo, if_neg d] at h
      by_cases g : c.toNat < lo ∨ hi < c.toNat
      · rw [if_pos g] at h; simp at h
      · rw [if_neg g] at h
        have ih := nxtGo_pre n t (k + 1) 128 191 u (by omega) h
        have e : n - k = (n - (k + 1)) + 1 := by omega
        rw [e, List.take_succ_cons, List.cons_append, nxtGo, if_neg d, if_neg g]
        refine ⟨ih.1, by simp only [List.length_cons]; omega, ?_⟩
        intro hlo x hx
        rcases List.mem_cons.1 hx with rfl | hx
        · omega
        · exact ih.2.2 (by omega) x hx
theorem bnd_lo (b : Nat) (h : 128 ≤ b) (h0 : (bnd b).1 ≠ 0) : 128 ≤ (bnd b).2.1 := by
  revert h0
  unfold bnd
  repeat' split
  all_goals first | omega | simp
/-- a whole sequence at the head goes on being one, whatever stands behind it -/
theorem nxt_pre (b : UInt8) (t : List UInt8) (h : (nxt (b :: t)).2 = true) (u : List UInt8) :
    nxt ((b :: t).take (nxt (b :: t)).1 ++ u) = ((nxt (b :: t)).1, true) ∧ (nxt (b :: t)).1 ≤ t.length + 1 ∧ 1 ≤ (nxt (b :: t)).1 ∧ (128 ≤ b.toNat → ∀ x ∈ (b :: t).take (nxt (b :: t)).1, 128 ≤ x.toNat) := by
  have h1 := (nxt_le (b :: t)).2.2 h
  rw [nxt_cons] at h h1 ⊢
  by_cases c : (bnd b.toNat).1 = 0
  · rw [if_pos c] at h; simp at h
  · rw [if_neg c] at h h1 ⊢
    have hg := nxtGo_le (bnd b.toNat).1 t 1 (bnd b.toNat).2.1 (bnd b.toNat).2.2 (by omega) (by omega)
    have hn := hg.2.2.2 h
    have hp := nxtGo_pre (bnd b.toNat).1 t 1 (bnd b.toNat).2.1 (bnd b.toNat).2.2 u (by omega) h
    rw [hn]
    have e : (bnd b.toNat).1 = ((bnd b.toNat).1 - 1) + 1 := by omega
    have e2 : (b :: t).take (bnd b.toNat).1 = b :: t.take ((bnd b.toNat).1 - 1) := by
      conv => lhs; rw [e]
      rfl
    rw [e2, List.cons_append, nxt_cons, if_neg c]
    refine ⟨hp.1, by omega, by omega, ?_⟩
    intro hb x hx
    rcases List.mem_cons.1 hx with rfl | hx
    · exact hb
    · exact hp.2.2 (bnd_lo _ hb c) x hx
theorem valid_cons (b : UInt8) (t : List UInt8) : Lib.validD (b :: t) = true ↔ (nxt (b :: t)).2 = true ∧ Lib.validD ((b :: t).drop (nxt (b :: t)).1) = true := by
  rw [valid_step _ (by simp)]
  cases h : (nxt (b :: t)).2 <;> simp
theorem valid_app (m : Nat) : ∀ (a b : List UInt8), a.length ≤ m → Lib.validD a = true → Lib.validD b = true → Lib.validD (a ++ b) = true := by
  induction m with
  | zero =>
    intro a b hl ha hb
    have : a = [] := List.length_eq_zero_iff.1 (by omega)
    subst this
    exact hb
  | succ m ih =>
    intro a b hl ha hb
    cases a with
    | nil => exact hb
    | cons x t =>
      obtain ⟨h1, h2⟩ := (valid_cons x t).1 ha
      have hp := nxt_pre x t h1 ((x :: t).drop (nxt (x :: t)).1 ++ b)
      have e : (x :: t).take (nxt (x :: t)).1 ++ ((x :: t).drop (nxt (x :: t)).1 ++ b) = x :: (t ++ b) := by
        rw [← List.append_assoc, List.take_append_drop]; rfl
      rw [e] at hp
      rw [List.cons_append]
      refine (valid_cons x (t ++ b)).2 ⟨by rw [hp.1], ?_⟩
      rw [hp.1]
      have e2 : (x :: (t ++ b)).drop (nxt (x :: t)).1 = (x :: t).drop (nxt (x :: t)).1 ++ b := by
        rw [← List.cons_append, List.drop_append_of_le_length (by simp only [List.length_cons]; omega)]
      simp only
      rw [e2]
      refine ih _ b ?_ h2 hb
      simp only [List.length_drop, List.length_cons] at *
      omega
theorem valid_take (b : UInt8) (t : List UInt8) (h : (nxt (b :: t)).2 = true) : Lib.validD ((b :: t).take (nxt (b :: t)).1) = true := by
  have hp := nxt_pre b t h []
  rw [List.append_nil] at hp
  have hl : ((b :: t).take (nxt (b :: t)).1).length = (nxt (b :: t)).1 := by simp; omega
  generalize hq : (b :: t).take (nxt (b :: t)).1 = q at *
  cases q with
  | nil => rfl
  | cons x r =>
    refine (valid_cons x r).2 ⟨by rw [hp.1], ?_⟩
    rw [hp.1]
    simp only
    rw [← hl, List.drop_length]
    rfl
/-- quoted bytes -/
theorem body_app (a b : List UInt8) : body (a ++ b) = body a ++ body b := by simp [body]
theorem esc_hi (x : UInt8) (h : 128 ≤ x.toNat) : esc x = [x] := by
  have e : letN x.toNat = 0 := by
    unfold letN
    repeat' split
    all_goals first | omega | rfl
  simp [esc, escN, e, show ¬ x.toNat < 32 by omega]
theorem body_hi (l : List UInt8) (h : ∀ x ∈ l, 128 ≤ x.toNat) : body l = l := by
  induction l with
  | nil => rfl
  | cons x t ih =>
    have e : body (x :: t) = esc x ++ body t := by simp [body]
    rw [e, esc_hi x (h x (by simp)), ih (fun y hy => h y (by simp [hy]))]
    rfl
theorem let_said : ∀ c : Fin 256, letN c.val ≠ 0 → letN c.val ≠ 117 ∧ saidN (letN c.val) = c.val ∧ letN c.val < 256 := by decide +kernel
theorem hex_dig : ∀ d : Fin 16, dig (hexN d.val) = (d.val : Int) ∧ hexN d.val < 256 := by decide +kernel
theorem digs_low (x y : UInt8) (u : List UInt8) (a b : Nat) (ha : dig x.toNat = a) (hb : dig y.toNat = b) (hab : 16 * a + b < 55296) : numF (48 :: 48 :: x :: y :: u) = (16 * a + b, 4, true) := by
  have e : digs false 4 0 0 (48 :: 48 :: x :: y :: u) = (16 * a + b, 4, true) := by
    have e48 : dig (48 : UInt8).toNat = 0 := by decide
    have na : ¬ (a : Int) < 0 := by omega
    have nb : ¬ (b : Int) < 0 := by omega
    have e48' : dig 48 = 0 := by decide
    simp [digs, e48, e48', ha, hb, goes, na, nb]
  rw [numF, e]
  simp only
  rw [if_neg (by simp), if_neg (by omega)]
theorem enc1 (c : UInt8) (h : c.toNat < 128) : Lib.encodeRune (c.toNat : Int) = [c] := by
  unfold Lib.encodeRune
  rw [Lib.encodeRuneZ_one (by omega) (by omega)]
  simp
/-- a quoted byte below 128 is read as itself -/
theorem stp_esc (c : UInt8) (h : c.toNat < 128) (u : List UInt8) : stp (esc c ++ u) = (2, [c], wid c, 0) := by
  by_cases hl : letN c.toNat = 0
  · by_cases h32 : c.toNat < 32
    · have e : esc c = [92, 117, 48, 48, UInt8.ofNat (hexN (c.toNat / 16)), UInt8.ofNat (hexN (c.toNat % 16))] := by
        simp [esc, escN, hl, h32]
      have d1 := hex_dig ⟨c.toNat / 16, by omega⟩
      have d2 := hex_dig ⟨c.toNat % 16, by omega⟩
      simp only at d1 d2
      have t1 : (UInt8.ofNat (hexN (c.toNat / 16))).toNat = hexN (c.toNat / 16) := by simp; omega
      have t2 : (UInt8.ofNat (hexN (c.toNat % 16))).toNat = hexN (c.toNat % 16) := by simp; omega
      have hn := digs_low (UInt8.ofNat (hexN (c.toNat / 16))) (UInt8.ofNat (hexN (c.toNat % 16))) u (c.toNat / 16) (c.toNat % 16) (by rw [t1]; exact d1.1) (by rw [t2]; exact d2.1) (by omega)
      have hv : 16 * (c.toNat / 16) + c.toNat % 16 = c.toNat := by omega
      rw [hv] at hn
      have hw : wid c = 6 := by simp [wid, widN, hl, h32]
      rw [e]
      simp only [List.cons_append, List.nil_append]
      have he : escF (117 :: 48 :: 48 :: UInt8.ofNat (hexN (c.toNat / 16)) :: UInt8.ofNat (hexN (c.toNat % 16)) :: u) = (c.toNat, 5, true) := by
        rw [escF_cons, if_pos (show (117 : UInt8).toNat = 117 from rfl), hn]; rfl
      rw [stp_cons, if_neg (by decide), if_neg (by decide), if_pos (by decide), he]
      simp only [if_true]
      rw [enc1 c h, hw]
    · have e : esc c = [c] := by simp [esc, escN, hl, h32]
      have hw : wid c = 1 := by simp [wid, widN, hl, h32]
      have n34 : c.toNat ≠ 34 := by intro e; rw [e] at hl; simp [letN] at hl
      have n92 : c.toNat ≠ 92 := by intro e; rw [e] at hl; simp [letN] at hl
      have hn : nxt (c :: u) = (1, true) := by
        rw [nxt_cons]
        have e1 : bnd c.toNat = (1, 0, 0) := by simp [bnd, h]
        rw [e1]
        simp only
        rw [if_neg (by omega), nxtGo_full 1 1 0 0 (by omega)]
      rw [e, List.cons_append, List.nil_append, stp_cons, if_neg h32, if_neg n34, if_neg n92, hn]
      simp [hw]
  · have e : esc c = [92, UInt8.ofNat (letN c.toNat)] := by simp [esc, escN, hl]
    obtain ⟨g1, g2, g3⟩ := let_said ⟨c.toNat, c.toNat_lt⟩ hl
    simp only at g1 g2 g3
    have t1 : (UInt8.ofNat (letN c.toNat)).toNat = letN c.toNat := by simp; omega
    have hw : wid c = 2 := by simp [wid, widN, hl]
    have hc0 : c.toNat ≠ 0 := by intro e; rw [e] at hl; simp [letN] at hl
    rw [e]
    simp only [List.cons_append, List.nil_append]
    have he : escF (UInt8.ofNat (letN c.toNat) :: u) = (c.toNat, 1, true) := by
      rw [escF_cons, t1, if_neg g1, g2, if_neg hc0]
    rw [stp_cons, if_neg (by decide), if_neg (by decide), if_pos (by decide), he]
    simp only [if_true]
    rw [enc1 c h, hw]
theorem wid_pos (c : UInt8) : 1 ≤ wid c := (widN_le c.toNat).1
/-- what is quoted is read again -/
theorem back (m : Nat) : ∀ (l : List UInt8), l.length ≤ m → Lib.validD l = true → ∀ (f k : Nat) (out u : List UInt8), (body l).length + 1 ≤ f → unq f (body l ++ 34 :: u) k out = (out ++ l, k + (body l).length + 1, 0) := by
  induction m with
  | zero =>
    intro l hl hv f k out u hf
    have : l = [] := List.length_eq_zero_iff.1 (by omega)
    subst this
    obtain ⟨f', rfl⟩ : ∃ f', f = f' + 1 := ⟨f - 1, by omega⟩
    have e : stp (34 :: u) = (1, [], 1, 0) := by rw [stp_cons, if_neg (by decide), if_pos (by decide)]
    simp [body, unq, e]
  | succ m ih =>
    intro l hl hv f k out u hf
    cases l with
    | nil =>
      obtain ⟨f', rfl⟩ : ∃ f', f = f' + 1 := ⟨f - 1, by omega⟩
      have e : stp (34 :: u) = (1, [], 1, 0) := by rw [stp_cons, if_neg (by decide), if_pos (by decide)]
      simp [body, unq, e]
    | cons b t =>
      obtain ⟨f', rfl⟩ : ∃ f', f = f' + 1 := ⟨f - 1, by omega⟩
      obtain ⟨h1, h2⟩ := (valid_cons b t).1 hv
      by_cases hb : b.toNat < 128
      · have eb : body (b :: t) = esc b ++ body t := by simp [body]
        have hn : nxt (b :: t) = (1, true) := by
          rw [nxt_cons]
          have e1 : bnd b.toNat = (1, 0, 0) := by simp [bnd, hb]
          rw [e1]
          simp only
          rw [if_neg (by omega), nxtGo_full 1 1 0 0 (by omega)]
        rw [hn] at h2
        have hst := stp_esc b hb (body t ++ 34 :: u)
        have hl2 : (body (b :: t)).length = wid b + (body t).length := by rw [eb, List.length_append, esc_length]
        have hw := wid_pos b
        rw [eb, List.append_assoc, unq, hst]
        simp only
        rw [if_neg (by omega), if_neg (by omega)]
        have ed : (esc b ++ (body t ++ 34 :: u)).drop (wid b) = body t ++ 34 :: u := by
          rw [← esc_length, List.drop_left]
        rw [ed, ih t (by simp only [List.length_cons] at hl; omega) h2 f' _ _ u (by omega), List.append_assoc]
        simp only [List.length_append, esc_length]
        refine Prod.ext rfl (Prod.ext ?_ rfl)
        simp only
        omega
      · have hp := nxt_pre b t h1 (body ((b :: t).drop (nxt (b :: t)).1) ++ 34 :: u)
        have hge := hp.2.2.2 (by omega)
        have hlt : ((b :: t).take (nxt (b :: t)).1).length = (nxt (b :: t)).1 := by simp; omega
        have eb : body (b :: t) = (b :: t).take (nxt (b :: t)).1 ++ body ((b :: t).drop (nxt (b :: t)).1) := by
          conv => lhs; rw [← List.take_append_drop (nxt (b :: t)).1 (b :: t)]
          rw [body_app, body_hi _ hge]
        have hl2 := congrArg List.length eb
        rw [List.length_append, hlt] at hl2
        have hd : ((b :: t).drop (nxt (b :: t)).1).length = t.length + 1 - (nxt (b :: t)).1 := by simp
        have hst : stp ((b :: t).take (nxt (b :: t)).1 ++ (body ((b :: t).drop (nxt (b :: t)).1) ++ 34 :: u)) = (2, (b :: t).take (nxt (b :: t)).1, (nxt (b :: t)).1, 0) := by
          obtain ⟨q, hq⟩ : ∃ q, (b :: t).take (nxt (b :: t)).1 = b :: q := by
            obtain ⟨n', hn'⟩ : ∃ n', (nxt (b :: t)).1 = n' + 1 := ⟨(nxt (b :: t)).1 - 1, by omega⟩
            exact ⟨t.take n', by rw [hn']; rfl⟩
          have hp1 := hp.1
          have htk : ((b :: t).take (nxt (b :: t)).1 ++ (body ((b :: t).drop (nxt (b :: t)).1) ++ 34 :: u)).take (nxt (b :: t)).1 = (b :: t).take (nxt (b :: t)).1 := by
            conv => lhs; arg 1; rw [← hlt]
            rw [List.take_left]
          generalize body ((b :: t).drop (nxt (b :: t)).1) ++ 34 :: u = X at *
          generalize nxt (b :: t) = N at *
          rw [hq, List.cons_append] at hp1 htk ⊢
          rw [stp_cons, if_neg (by omega), if_neg (by omega), if_neg (by omega), hp1]
          simp only [if_true]
          rw [htk]
        have ed : ((b :: t).take (nxt (b :: t)).1 ++ (body ((b :: t).drop (nxt (b :: t)).1) ++ 34 :: u)).drop (nxt (b :: t)).1 = body ((b :: t).drop (nxt (b :: t)).1) ++ 34 :: u := by
          conv => lhs; arg 1; rw [← hlt]
          rw [List.drop_left]
        rw [eb, List.append_assoc, unq, hst]
        simp only
        rw [if_neg (by omega), if_neg (by omega), ed, ih _ (by simp only [List.length_cons] at hl; omega) h2 f' _ _ u (by omega), List.append_assoc, List.take_append_drop, List.length_append, hlt]
        refine Prod.ext rfl (Prod.ext ?_ rfl)
        simp only
        omega
/-- every text string, quoted, is read again as it was, among any bytes -/
theorem unq_back (l a u : List UInt8) (hv : Lib.validD l = true) : unqAll (a ++ (qt l ++ u)) (a.length : Int) = (l, a.length + (qt l).length, 0) := by
  have hl := qt_length l
  rw [unqAll, if_neg (by simp; omega), Int.toNat_natCast]
  have e1 : (a ++ (qt l ++ u)).drop a.length = qt l ++ u := List.drop_left
  have e2 : (a ++ (qt l ++ u)).drop (a.length + 1) = body l ++ 34 :: u := by
    rw [← List.drop_drop, e1]
    simp [qt]
  rw [e1, if_pos (by simp [qt]), e2, back l.length l (Nat.le_refl _) hv _ _ _ u (by simp only [List.length_append, sz] at *; omega)]
  simp only [List.nil_append]
  refine Prod.ext rfl (Prod.ext ?_ rfl)
  simp only [sz] at *
  omega
end Go.Proofs.YtolekldjbbjmjaaGreatDoor.Q
