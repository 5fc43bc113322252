/- joined: JrB PlainW -/
import Derived.Test.YtpmhdcmmlkjjmaaGreatDoorG10
/- json's reader: a word, a number's byte, entering. -/
set_option linter.unusedSimpArgs false
set_option linter.unusedVariables false
set_option maxRecDepth 100000
namespace Go.Proofs.YtpmhdcmmlkjjmaaGreatDoor
open Go.RowKit Go.Lib
theorem drop_at (p : ByteArray) (i : Nat) (h : i < p.size) : p.data.toList.drop i = p[i] :: p.data.toList.drop (i + 1) := drop_consW p i h
theorem wordJ_go {l : List UInt8} {k k1 : Nat} {c : UInt8} {p : List UInt8} (h : mustJ l k c = .ok k1) : wordJ l k (c :: p) = wordJ l k1 p := by rw [wordJ, h]
theorem wordJ_no {l : List UInt8} {k : Nat} {f : Flt} {c : UInt8} {p : List UInt8} (h : mustJ l k c = .error f) : wordJ l k (c :: p) = .error f := by rw [wordJ, h]
set_option maxHeartbeats 4000000 in
theorem jword_any (g : Nat) (s p : ByteArray) (k D n : Nat) (w : World) (h : JR g s k D n w) (hs : s.size ≤ 281474976710656) (hk : k ≤ s.size) (hp : p.size ≤ 100) :
    Calls Tryz.prog 86 #[.pointer (some ⟨g, 0, none⟩), .string p] w (JP (wordJ s.data.toList k p.data.toList) (fun k' e w' => e = .returned (.tuple #[]) ∧ JR g s k' D n w') g w) := by
  have hll : s.data.toList.length = s.size := by simp
  have HLL := hmk hll
  have CM : Hid (∀ (W : World) (i : Nat) (c : UInt8), JR g s i D n W → i ≤ s.size → Calls Tryz.prog 111 #[.pointer (some ⟨g, 0, none⟩), .int .u8 (c.toNat : Int)] W (JP (mustJ s.data.toList i c) (fun k' e w' => e = .returned (.tuple #[]) ∧ JR g s k' D n w') g W)) := fun W i c hW hi => jmust_any g s i D n c W hW hs hi
  clear hll
  go_enter Tryz.func86, Tryz.ntmps86
  go_wp2
  go_loopw [7] (fun e7 wr => ∃ i : Nat, i ≤ p.size ∧ e7 = .int .i64 (i : Int) ∧ k + i ≤ s.size ∧ JR g s (k + i) D n wr ∧ w.grownBy wr (some g) ∧ Hid (wordJ s.data.toList k p.data.toList = wordJ s.data.toList (k + i) (p.data.toList.drop i))) (fun e7 _ => p.size - (RowKit.intOf e7).toNat)
  case atStart => exact ⟨0, Nat.zero_le _, rfl, hk, h, World.grownBy.refl _ _, hmk rfl⟩
  case round =>
    obtain ⟨i, hi, rfl, hki, R, gr, HW⟩ := hrel
    clear h
    by_cases hlt : i < p.size
    · have y1 : (i : Int) < p.size := by omega
      cases hm : mustJ s.data.toList (k + i) p[i] with
      | ok k1 =>
        obtain ⟨e1, hl1⟩ := mustJ_le hm
        rw [HLL.out] at hl1
        subst e1
        have HW3 : Hid (wordJ s.data.toList k p.data.toList = wordJ s.data.toList (k + i + 1) (p.data.toList.drop (i + 1))) := by show _ = _; rw [HW.out, drop_at p i hlt, wordJ_go hm]
        have C1 := CM.out wr (k + i) p[i] R hki
        rw [hm] at C1
        clear hm HW
        go_wp2_with (go_at_call 111; refine C1.mono ?_; rintro e w1 ⟨⟨rfl, R1⟩, g1⟩)
        go_round
        case measure => simp only [RowKit.intOf]; omega
        case rel => exact ⟨i + 1, by omega, by simp, by omega, R1, gr.trans g1, HW3⟩
      | error f =>
        have HW3 : Hid (wordJ s.data.toList k p.data.toList = .error f) := by show _ = _; rw [HW.out, drop_at p i hlt, wordJ_no hm]
        have C1 := CM.out wr (k + i) p[i] R hki
        rw [hm] at C1
        clear hm HW
        go_wp2_with (go_at_call 111; refine C1.mono ?_; rintro e w1 ⟨he, g1⟩; unfold flt at he; subst he)
        refine ⟨rfl, ?_⟩
        rw [HW3.out]
        exact ⟨rfl, gr.trans g1⟩
    · obtain rfl : i = p.size := by omega
      go_wp2
      go_end0
      have e : p.data.toList.drop p.size = [] := List.drop_eq_nil_of_le (by simp)
      rw [HW.out, e, wordJ]
      exact ⟨⟨rfl, R⟩, gr⟩
theorem ixb_num (c : UInt8) : decide (0 ≤ indexByte [45, 43, 46, 101, 69] c) = (c == 45 || c == 43 || c == 46 || c == 101 || c == 69) := by
  rw [Bool.eq_iff_iff, decide_eq_true_eq, ixb_mem]
  simp [or_assoc]
set_option maxHeartbeats 4000000 in
theorem innum_any (c : UInt8) (w : World) : Calls Tryz.prog 110 #[.int .u8 (c.toNat : Int)] w fun e w' => e = .returned (.bool (numC c)) ∧ w' = w := by
  obtain ⟨I, CB, hb⟩ : ∃ I : Int, (∀ W, Calls Tryz.prog 83 #[.string ⟨#[45, 43, 46, 101, 69]⟩, .int .u8 (c.toNat : Int)] W fun e w' => e = .returned (.int .i64 I) ∧ w' = W) ∧ Hid (decide (0 ≤ I) = (c == 45 || c == 43 || c == 46 || c == 101 || c == 69)) :=
    ⟨_, fun W => ixb_any ⟨#[45, 43, 46, 101, 69]⟩ c W, ixb_num c⟩
  have HN : Hid (numC c = (decide (48 ≤ c.toNat ∧ c.toNat ≤ 57) || decide (0 ≤ I))) := by show _ = _; rw [numC, hb.out]
  go_enter Tryz.func110, Tryz.ntmps110
  go_wp2_with (go_at_call 83; refine (CB _).mono ?_; rintro e w' ⟨rfl, rfl⟩)
  all_goals go_ret
  all_goals refine ⟨?_, rfl⟩
  all_goals show Ending.returned (Value.bool _) = Ending.returned (Value.bool _)
  all_goals refine congrArg (fun r => Ending.returned (Value.bool r)) ?_
  all_goals rw [HN.out]
  all_goals rw [Bool.eq_iff_iff]
  all_goals simp only [Bool.or_eq_true, decide_eq_true_eq, true_iff]
  all_goals omega
def begJ (c : UInt8) : Bool := c == 110 || c == 116 || c == 102 || c == 34 || c == 91 || c == 123
theorem ixb_beg (c : UInt8) : decide (0 ≤ indexByte [110, 116, 102, 34, 91, 123] c) = begJ c := by
  rw [Bool.eq_iff_iff, decide_eq_true_eq, ixb_mem]
  simp [begJ, or_assoc]
theorem entJ_byte {c : UInt8} {D n o k : Nat} (h : begJ c = false) (h2 : numC c = false) : entJ c D n o k = .error (k, 32) := by
  have h' : ¬ (c = 110 ∨ c = 116 ∨ c = 102 ∨ c = 34 ∨ c = 91 ∨ c = 123 ∨ numC c = true) := by
    rw [h2]
    simp only [begJ, Bool.or_eq_false_iff, beq_eq_false_iff_ne] at h
    simp [h]
  rw [entJ, if_pos h']
theorem entJ_in {c : UInt8} {D n o k : Nat} (h : begJ c = true ∨ numC c = true) : entJ c D n o k = if n = 65536 then .error (k, 22) else if D < o then .error (k, 21) else .ok (n + 1) := by
  have h' : ¬ ¬ (c = 110 ∨ c = 116 ∨ c = 102 ∨ c = 34 ∨ c = 91 ∨ c = 123 ∨ numC c = true) := by
    intro q
    apply q
    simp only [begJ, Bool.or_eq_true, beq_iff_eq] at h
    rcases h with (((((h | h) | h) | h) | h) | h) | h <;> simp [h]
  rw [entJ, if_neg h']
set_option maxHeartbeats 8000000 in
theorem jenter_any (g : Nat) (s : ByteArray) (k D n o : Nat) (c : UInt8) (w : World) (h : JR g s k D n w) (hn : n ≤ 65536) (ho : o ≤ 1000) (hD : D ≤ 1000) :
    Calls Tryz.prog 85 #[.pointer (some ⟨g, 0, none⟩), .int .u8 (c.toNat : Int), .int .i64 (o : Int)] w (JP (entJ c D n o k) (fun n' e w' => e = .returned (.tuple #[]) ∧ JR g s k D n' w') g w) := by
  obtain ⟨I, CB, hb⟩ : ∃ I : Int, (∀ W, Calls Tryz.prog 83 #[.string ⟨#[110, 116, 102, 34, 91, 123]⟩, .int .u8 (c.toNat : Int)] W fun e w' => e = .returned (.int .i64 I) ∧ w' = W) ∧ decide (0 ≤ I) = begJ c :=
    ⟨_, fun W => ixb_any ⟨#[110, 116, 102, 34, 91, 123]⟩ c W, ixb_beg c⟩
  have CN : ∀ W, Calls Tryz.prog 110 #[.int .u8 (c.toNat : Int)] W fun e w' => e = .returned (.bool (numC c)) ∧ w' = W := fun W => innum_any c W
  have c1 := h.c1
  have c2 := h.c2
  have c3 := h.c3
  have f3 := h.fz 3
  have HR := hmk h
  clear h
  have HB : Hid (begJ c = false → numC c = false → entJ c D n o k = .error (k, 32)) := entJ_byte
  have HI : Hid ((begJ c = true ∨ numC c = true) → entJ c D n o k = if n = 65536 then .error (k, 22) else if D < o then .error (k, 21) else .ok (n + 1)) := entJ_in
  generalize entJ c D n o k = R at *
  by_cases hbyte : begJ c = false ∧ numC c = false
  · have hR := HB.out hbyte.1 hbyte.2
    subst hR
    rw [hbyte.1] at hb
    have y1 : I < 0 := by have := of_decide_eq_false hb; omega
    have y2 := hbyte.2
    rw [y2] at CN
    clear hbyte hb HB HI y2
    go_enter Tryz.func85, Tryz.ntmps85
    go_wp2_with first
      | (go_at_call 83; refine (CB _).mono ?_; rintro e w' ⟨rfl, rfl⟩)
      | (go_at_call 110; refine (CN _).mono ?_; rintro e w' ⟨rfl, rfl⟩)
      | (go_at_call 64; refine (giveup_any _ k 32 _).mono ?_; rintro e w' ⟨he, rfl⟩; unfold flt at he; subst he)
    exact ⟨rfl, rfl, World.grownBy.refl _ _⟩
  · have hin : begJ c = true ∨ numC c = true := by
      cases h1 : begJ c
      · cases h2 : numC c
        · exact absurd ⟨h1, h2⟩ hbyte
        · exact .inr rfl
      · exact .inl rfl
    have hR := HI.out hin
    by_cases y1 : I < 0
    · have y2 : numC c = true := by
        rcases hin with q | q
        · rw [q] at hb; have := of_decide_eq_true hb; omega
        · exact q
      rw [y2] at CN
      clear hbyte hb HB HI hin y2
      by_cases h1 : n = 65536
      · rw [if_pos h1] at hR
        subst hR
        subst h1
        go_enter Tryz.func85, Tryz.ntmps85
        go_wp2_with first
          | (go_at_call 83; refine (CB _).mono ?_; rintro e w' ⟨rfl, rfl⟩)
          | (go_at_call 110; refine (CN _).mono ?_; rintro e w' ⟨rfl, rfl⟩)
          | (go_at_call 64; refine (giveup_any _ k 22 _).mono ?_; rintro e w' ⟨he, rfl⟩; unfold flt at he; subst he)
        exact ⟨rfl, rfl, World.grownBy.refl _ _⟩
      · rw [if_neg h1] at hR
        have z1 : ((n : Int) == 65536) = false := by simp; omega
        by_cases h2 : D < o
        · rw [if_pos h2] at hR
          subst hR
          have z2 : (D : Int) < o := by omega
          go_enter Tryz.func85, Tryz.ntmps85
          go_wp2_with first
            | (go_at_call 83; refine (CB _).mono ?_; rintro e w' ⟨rfl, rfl⟩)
            | (go_at_call 110; refine (CN _).mono ?_; rintro e w' ⟨rfl, rfl⟩)
            | (go_at_call 64; refine (giveup_any _ k 21 _).mono ?_; rintro e w' ⟨he, rfl⟩; unfold flt at he; subst he)
          exact ⟨rfl, rfl, World.grownBy.refl _ _⟩
        · rw [if_neg h2] at hR
          subst hR
          have z2 : ¬ (D : Int) < o := by omega
          go_enter Tryz.func85, Tryz.ntmps85
          go_wp2_with first
            | (go_at_call 83; refine (CB _).mono ?_; rintro e w' ⟨rfl, rfl⟩)
            | (go_at_call 110; refine (CN _).mono ?_; rintro e w' ⟨rfl, rfl⟩)
          go_end0
          exact ⟨⟨rfl, HR.out.putN (n + 1) _ (by omega)⟩, grown_set (World.grownBy.refl _ _) _ _⟩
    · clear hbyte hb HB HI hin
      by_cases h1 : n = 65536
      · rw [if_pos h1] at hR
        subst hR
        subst h1
        go_enter Tryz.func85, Tryz.ntmps85
        go_wp2_with first
          | (go_at_call 83; refine (CB _).mono ?_; rintro e w' ⟨rfl, rfl⟩)
          | (go_at_call 110; refine (CN _).mono ?_; rintro e w' ⟨rfl, rfl⟩)
          | (go_at_call 64; refine (giveup_any _ k 22 _).mono ?_; rintro e w' ⟨he, rfl⟩; unfold flt at he; subst he)
        exact ⟨rfl, rfl, World.grownBy.refl _ _⟩
      · rw [if_neg h1] at hR
        have z1 : ((n : Int) == 65536) = false := by simp; omega
        by_cases h2 : D < o
        · rw [if_pos h2] at hR
          subst hR
          have z2 : (D : Int) < o := by omega
          go_enter Tryz.func85, Tryz.ntmps85
          go_wp2_with first
            | (go_at_call 83; refine (CB _).mono ?_; rintro e w' ⟨rfl, rfl⟩)
            | (go_at_call 110; refine (CN _).mono ?_; rintro e w' ⟨rfl, rfl⟩)
            | (go_at_call 64; refine (giveup_any _ k 21 _).mono ?_; rintro e w' ⟨he, rfl⟩; unfold flt at he; subst he)
          exact ⟨rfl, rfl, World.grownBy.refl _ _⟩
        · rw [if_neg h2] at hR
          subst hR
          have z2 : ¬ (D : Int) < o := by omega
          go_enter Tryz.func85, Tryz.ntmps85
          go_wp2_with first
            | (go_at_call 83; refine (CB _).mono ?_; rintro e w' ⟨rfl, rfl⟩)
            | (go_at_call 110; refine (CN _).mono ?_; rintro e w' ⟨rfl, rfl⟩)
          go_end0
          exact ⟨⟨rfl, HR.out.putN (n + 1) _ (by omega)⟩, grown_set (World.grownBy.refl _ _) _ _⟩
end Go.Proofs.YtpmhdcmmlkjjmaaGreatDoor
/- Plain facts: what is quoted is read again; what is read is a text string, with a quoted text no longer. -/
namespace Go.Proofs.YtpmhdcmmlkjjmaaGreatDoor.Q
theorem nxtGo_full (n : Nat) (k lo hi : Nat) (h : n ≤ k) (u : List UInt8) : nxtGo n k lo hi u = (n, true) := by
  cases u <;> simp [nxtGo, h]
theorem nxtGo_pre (n : Nat) : ∀ (t : List UInt8) (k lo hi : Nat) (u : List UInt8), k ≤ n → (nxtGo n k lo hi t).2 = true →
    nxtGo n k lo hi (t.take (n - k) ++ u) = (n, true) ∧ n - k ≤ t.length ∧ (128 ≤ lo → ∀ x ∈ t.take (n - k), 128 ≤ x.toNat)
  | [], k, lo, hi, u, hk, h => by
    by_cases c : n ≤ k
    · have e : n - k = 0 := by omega
      rw [e]
      exact ⟨nxtGo_full n k lo hi c _, by simp, by simp⟩
    · simp [nxtGo, c] at h
  | c :: t, k, lo, hi, u, hk, h => by
    by_cases d : n ≤ k
    · have e : n - k = 0 := by omega
      rw [e]
      exact ⟨nxtGo_full n k lo hi d _, by simp, by simp⟩
    · rw [nxtGo, if_neg d] at h
      by_cases g : c.toNat < lo ∨ hi < c.toNat
      · rw [if_pos g] at h; simp at h
      · rw [if_neg g] at h
        have ih := nxtGo_pre n t (k + 1) 128 191 u (by omega) h
        have e : n - k = (n - (k + 1)) + 1 := by omega
        rw [e, List.take_succ_cons, List.cons_append, nxtGo, if_neg d, if_neg g]
        refine ⟨ih.1, by simp only [List.length_cons]; omega, ?_⟩
        intro hlo x hx
        rcases List.mem_cons.1 hx with rfl | hx
        · omega
        · exact ih.2.2 (by omega) x hx
theorem bnd_lo (b : Nat) (h : 128 ≤ b) (h0 : (bnd b).1 ≠ 0) : 128 ≤ (bnd b).2.1 := by
  revert h0
  unfold bnd
  repeat' split
  all_goals first | omega | simp
/-- a whole sequence at the head goes on being one, whatever stands behind it -/
theorem nxt_pre (b : UInt8) (t : List UInt8) (h : (nxt (b :: t)).2 = true) (u : List UInt8) :
    nxt ((b :: t).take (nxt (b :: t)).1 ++ u) = ((nxt (b :: t)).1, true) ∧ (nxt (b :: t)).1 ≤ t.length + 1 ∧ 1 ≤ (nxt (b :: t)).1 ∧ (128 ≤ b.toNat → ∀ x ∈ (b :: t).take (nxt (b :: t)).1, 128 ≤ x.toNat) := by
  have h1 := (nxt_le (b :: t)).2.2 h
  rw [nxt_cons] at h h1 ⊢
  by_cases c : (bnd b.toNat).1 = 0
  · rw [if_pos c] at h; simp at h
  · rw [if_neg c] at h h1 ⊢
    have hg := nxtGo_le (bnd b.toNat).1 t 1 (bnd b.toNat).2.1 (bnd b.toNat).2.2 (by omega) (by omega)
    have hn := hg.2.2.2 h
    have hp := nxtGo_pre (bnd b.toNat).1 t 1 (bnd b.toNat).2.1 (bnd b.toNat).2.2 u (by omega) h
    rw [hn]
    have e : (bnd b.toNat).1 = ((bnd b.toNat).1 - 1) + 1 := by omega
    have e2 : (b :: t).take (bnd b.toNat).1 = b :: t.take ((bnd b.toNat).1 - 1) := by
      conv => lhs; rw [e]
      rfl
    rw [e2, List.cons_append, nxt_cons, if_neg c]
    refine ⟨hp.1, by omega, by omega, ?_⟩
    intro hb x hx
    rcases List.mem_cons.1 hx with rfl | hx
    · exact hb
    · exact hp.2.2 (bnd_lo _ hb c) x hx
theorem valid_cons (b : UInt8) (t : List UInt8) : Lib.validD (b :: t) = true ↔ (nxt (b :: t)).2 = true ∧ Lib.validD ((b :: t).drop (nxt (b :: t)).1) = true := by
  rw [valid_step _ (by simp)]
  cases h : (nxt (b :: t)).2 <;> simp
theorem valid_app (m : Nat) : ∀ (a b : List UInt8), a.length ≤ m → Lib.validD a = true → Lib.validD b = true → Lib.validD (a ++ b) = true := by
  induction m with
  | zero =>
    intro a b hl ha hb
    have : a = [] := List.length_eq_zero_iff.1 (by omega)
    subst this
    exact hb
  | succ m ih =>
    intro a b hl ha hb
    cases a with
    | nil => exact hb
    | cons x t =>
      obtain ⟨h1, h2⟩ := (valid_cons x t).1 ha
      have hp := nxt_pre x t h1 ((x :: t).drop (nxt (x :: t)).1 ++ b)
      have e : (x :: t).take (nxt (x :: t)).1 ++ ((x :: t).drop (nxt (x :: t)).1 ++ b) = x :: (t ++ b) := by
        rw [← List.append_assoc, List.take_append_drop]; rfl
      rw [e] at hp
      rw [List.cons_append]
      refine (valid_cons x (t ++ b)).2 ⟨by rw [hp.1], ?_⟩
      rw [hp.1]
      have e2 : (x :: (t ++ b)).drop (nxt (x :: t)).1 = (x :: t).drop (nxt (x :: t)).1 ++ b := by
        rw [← List.cons_append, List.drop_append_of_le_length (by simp only [List.length_cons]; omega)]
      simp only
      rw [e2]
      refine ih _ b ?_ h2 hb
      simp only [List.length_drop, List.length_cons] at *
      omega
theorem valid_take (b : UInt8) (t : List UInt8) (h : (nxt (b :: t)).2 = true) : Lib.validD ((b :: t).take (nxt (b :: t)).1) = true := by
  have hp := nxt_pre b t h []
  rw [List.append_nil] at hp
  have hl : ((b :: t).take (nxt (b :: t)).1).length = (nxt (b :: t)).1 := by simp; omega
  generalize hq : (b :: t).take (nxt (b :: t)).1 = q at *
  cases q with
  | nil => rfl
  | cons x r =>
    refine (valid_cons x r).2 ⟨by rw [hp.1], ?_⟩
    rw [hp.1]
    simp only
    rw [← hl, List.drop_length]
    rfl
/-- quoted bytes -/
theorem body_app (a b : List UInt8) : body (a ++ b) = body a ++ body b := by simp [body]
theorem esc_hi (x : UInt8) (h : 128 ≤ x.toNat) : esc x = [x] := by
  have e : letN x.toNat = 0 := by
    unfold letN
    repeat' split
    all_goals first | omega | rfl
  simp [esc, escN, e, show ¬ x.toNat < 32 by omega]
theorem body_hi (l : List UInt8) (h : ∀ x ∈ l, 128 ≤ x.toNat) : body l = l := by
  induction l with
  | nil => rfl
  | cons x t ih =>
    have e : body (x :: t) = esc x ++ body t := by simp [body]
    rw [e, esc_hi x (h x (by simp)), ih (fun y hy => h y (by simp [hy]))]
    rfl
theorem let_said : ∀ c : Fin 256, letN c.val ≠ 0 → letN c.val ≠ 117 ∧ saidN (letN c.val) = c.val ∧ letN c.val < 256 := by decide +kernel
theorem hex_dig : ∀ d : Fin 16, dig (hexN d.val) = (d.val : Int) ∧ hexN d.val < 256 := by decide +kernel
theorem digs_low (x y : UInt8) (u : List UInt8) (a b : Nat) (ha : dig x.toNat = a) (hb : dig y.toNat = b) (hab : 16 * a + b < 55296) : numF (48 :: 48 :: x :: y :: u) = (16 * a + b, 4, true) := by
  have e : digs false 4 0 0 (48 :: 48 :: x :: y :: u) = (16 * a + b, 4, true) := by
    have e48 : dig (48 : UInt8).toNat = 0 := by decide
    have na : ¬ (a : Int) < 0 := by omega
    have nb : ¬ (b : Int) < 0 := by omega
    have e48' : dig 48 = 0 := by decide
    simp [digs, e48, e48', ha, hb, goes, na, nb]
  rw [numF, e]
  simp only
  rw [if_neg (by simp), if_neg (by omega)]
theorem enc1 (c : UInt8) (h : c.toNat < 128) : Lib.encodeRune (c.toNat : Int) = [c] := by
  unfold Lib.encodeRune
  rw [Lib.encodeRuneZ_one (by omega) (by omega)]
  simp
/-- a quoted byte below 128 is read as itself -/
theorem stp_esc (c : UInt8) (h : c.toNat < 128) (u : List UInt8) : stp (esc c ++ u) = (2, [c], wid c, 0) := by
  by_cases hl : letN c.toNat = 0
  · by_cases h32 : c.toNat < 32
    · have e : esc c = [92, 117, 48, 48, UInt8.ofNat (hexN (c.toNat / 16)), UInt8.ofNat (hexN (c.toNat % 16))] := by
        simp [esc, escN, hl, h32]
      have d1 := hex_dig ⟨c.toNat / 16, by omega⟩
      have d2 := hex_dig ⟨c.toNat % 16, by omega⟩
      simp only at d1 d2
      have t1 : (UInt8.ofNat (hexN (c.toNat / 16))).toNat = hexN (c.toNat / 16) := by simp; omega
      have t2 : (UInt8.ofNat (hexN (c.toNat % 16))).toNat = hexN (c.toNat % 16) := by simp; omega
      have hn := digs_low (UInt8.ofNat (hexN (c.toNat / 16))) (UInt8.ofNat (hexN (c.toNat % 16))) u (c.toNat / 16) (c.toNat % 16) (by rw [t1]; exact d1.1) (by rw [t2]; exact d2.1) (by omega)
      have hv : 16 * (c.toNat / 16) + c.toNat % 16 = c.toNat := by omega
      rw [hv] at hn
      have hw : wid c = 6 := by simp [wid, widN, hl, h32]
      rw [e]
      simp only [List.cons_append, List.nil_append]
      have he : escF (117 :: 48 :: 48 :: UInt8.ofNat (hexN (c.toNat / 16)) :: UInt8.ofNat (hexN (c.toNat % 16)) :: u) = (c.toNat, 5, true) := by
        rw [escF_cons, if_pos (show (117 : UInt8).toNat = 117 from rfl), hn]; rfl
      rw [stp_cons, if_neg (by decide), if_neg (by decide), if_pos (by decide), he]
      simp only [if_true]
      rw [enc1 c h, hw]
    · have e : esc c = [c] := by simp [esc, escN, hl, h32]
      have hw : wid c = 1 := by simp [wid, widN, hl, h32]
      have n34 : c.toNat ≠ 34 := by intro e; rw [e] at hl; simp [letN] at hl
      have n92 : c.toNat ≠ 92 := by intro e; rw [e] at hl; simp [letN] at hl
      have hn : nxt (c :: u) = (1, true) := by
        rw [nxt_cons]
        have e1 : bnd c.toNat = (1, 0, 0) := by simp [bnd, h]
        rw [e1]
        simp only
        rw [if_neg (by omega), nxtGo_full 1 1 0 0 (by omega)]
      rw [e, List.cons_append, List.nil_append, stp_cons, if_neg h32, if_neg n34, if_neg n92, hn]
      simp [hw]
  · have e : esc c = [92, UInt8.ofNat (letN c.toNat)] := by simp [esc, escN, hl]
    obtain ⟨g1, g2, g3⟩ := let_said ⟨c.toNat, c.toNat_lt⟩ hl
    simp only at g1 g2 g3
    have t1 : (UInt8.ofNat (letN c.toNat)).toNat = letN c.toNat := by simp; omega
    have hw : wid c = 2 := by simp [wid, widN, hl]
    have hc0 : c.toNat ≠ 0 := by intro e; rw [e] at hl; simp [letN] at hl
    rw [e]
    simp only [List.cons_append, List.nil_append]
    have he : escF (UInt8.ofNat (letN c.toNat) :: u) = (c.toNat, 1, true) := by
      rw [escF_cons, t1, if_neg g1, g2, if_neg hc0]
    rw [stp_cons, if_neg (by decide), if_neg (by decide), if_pos (by decide), he]
    simp only [if_true]
    rw [enc1 c h, hw]
theorem wid_pos (c : UInt8) : 1 ≤ wid c := (widN_le c.toNat).1
/-- what is quoted is read again -/
theorem back (m : Nat) : ∀ (l : List UInt8), l.length ≤ m → Lib.validD l = true → ∀ (f k : Nat) (out u : List UInt8), (body l).length + 1 ≤ f → unq f (body l ++ 34 :: u) k out = (out ++ l, k + (body l).length + 1, 0) := by
  induction m with
  | zero =>
    intro l hl hv f k out u hf
    have : l = [] := List.length_eq_zero_iff.1 (by omega)
    subst this
    obtain ⟨f', rfl⟩ : ∃ f', f = f' + 1 := ⟨f - 1, by omega⟩
    have e : stp (34 :: u) = (1, [], 1, 0) := by rw [stp_cons, if_neg (by decide), if_pos (by decide)]
    simp [body, unq, e]
  | succ m ih =>
    intro l hl hv f k out u hf
    cases l with
    | nil =>
      obtain ⟨f', rfl⟩ : ∃ f', f = f' + 1 := ⟨f - 1, by omega⟩
      have e : stp (34 :: u) = (1, [], 1, 0) := by rw [stp_cons, if_neg (by decide), if_pos (by decide)]
      simp [body, unq, e]
    | cons b t =>
      obtain ⟨f', rfl⟩ : ∃ f', f = f' + 1 := ⟨f - 1, by omega⟩
      obtain ⟨h1, h2⟩ := (valid_cons b t).1 hv
      by_cases hb : b.toNat < 128
      · have eb : body (b :: t) = esc b ++ body t := by simp [body]
        have hn : nxt (b :: t) = (1, true) := by
          rw [nxt_cons]
          have e1 : bnd b.toNat = (1, 0, 0) := by simp [bnd, hb]
          rw [e1]
          simp only
          rw [if_neg (by omega), nxtGo_full 1 1 0 0 (by omega)]
        rw [hn] at h2
        have hst := stp_esc b hb (body t ++ 34 :: u)
        have hl2 : (body (b :: t)).length = wid b + (body t).length := by rw [eb, List.length_append, esc_length]
        have hw := wid_pos b
        rw [eb, List.append_assoc, unq, hst]
        simp only
        rw [if_neg (by omega), if_neg (by omega)]
        have ed : (esc b ++ (body t ++ 34 :: u)).drop (wid b) = body t ++ 34 :: u := by
          rw [← esc_length, List.drop_left]
        rw [ed, ih t (by simp only [List.length_cons] at hl; omega) h2 f' _ _ u (by omega), List.append_assoc]
        simp only [List.length_append, esc_length]
        refine Prod.ext rfl (Prod.ext ?_ rfl)
        simp only
        omega
      · have hp := nxt_pre b t h1 (body ((b :: t).drop (nxt (b :: t)).1) ++ 34 :: u)
        have hge := hp.2.2.2 (by omega)
        have hlt : ((b :: t).take (nxt (b :: t)).1).length = (nxt (b :: t)).1 := by simp; omega
        have eb : body (b :: t) = (b :: t).take (nxt (b :: t)).1 ++ body ((b :: t).drop (nxt (b :: t)).1) := by
          conv => lhs; rw [← List.take_append_drop (nxt (b :: t)).1 (b :: t)]
          rw [body_app, body_hi _ hge]
        have hl2 := congrArg List.length eb
        rw [List.length_append, hlt] at hl2
        have hd : ((b :: t).drop (nxt (b :: t)).1).length = t.length + 1 - (nxt (b :: t)).1 := by simp
        have hst : stp ((b :: t).take (nxt (b :: t)).1 ++ (body ((b :: t).drop (nxt (b :: t)).1) ++ 34 :: u)) = (2, (b :: t).take (nxt (b :: t)).1, (nxt (b :: t)).1, 0) := by
          obtain ⟨q, hq⟩ : ∃ q, (b :: t).take (nxt (b :: t)).1 = b :: q := by
            obtain ⟨n', hn'⟩ : ∃ n', (nxt (b :: t)).1 = n' + 1 := ⟨(nxt (b :: t)).1 - 1, by omega⟩
            exact ⟨t.take n', by rw [hn']; rfl⟩
          have hp1 := hp.1
          have htk : ((b :: t).take (nxt (b :: t)).1 ++ (body ((b :: t).drop (nxt (b :: t)).1) ++ 34 :: u)).take (nxt (b :: t)).1 = (b :: t).take (nxt (b :: t)).1 := by
            conv => lhs; arg 1; rw [← hlt]
            rw [List.take_left]
          generalize body ((b :: t).drop (nxt (b :: t)).1) ++ 34 :: u = X at *
          generalize nxt (b :: t) = N at *
          rw [hq, List.cons_append] at hp1 htk ⊢
          rw [stp_cons, if_neg (by omega), if_neg (by omega), if_neg (by omega), hp1]
          simp only [if_true]
          rw [htk]
        have ed : ((b :: t).take (nxt (b :: t)).1 ++ (body ((b :: t).drop (nxt (b :: t)).1) ++ 34 :: u)).drop (nxt (b :: t)).1 = body ((b :: t).drop (nxt (b :: t)).1) ++ 34 :: u := by
          conv => lhs; arg 1; rw [← hlt]
          rw [List.drop_left]
        rw [eb, List.append_assoc, unq, hst]
        simp only
        rw [if_neg (by omega), if_neg (by omega), ed, ih _ (by simp only [List.length_cons] at hl; omega) h2 f' _ _ u (by omega), List.append_assoc, List.take_append_drop, List.length_append, hlt]
        refine Prod.ext rfl (Prod.ext ?_ rfl)
        simp only
        omega
end Go.Proofs.YtpmhdcmmlkjjmaaGreatDoor.Q
