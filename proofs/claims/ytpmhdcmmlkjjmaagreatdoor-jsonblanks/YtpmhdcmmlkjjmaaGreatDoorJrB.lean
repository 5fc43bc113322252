import Derived.Test.YtpmhdcmmlkjjmaaGreatDoorJrA
/- json's reader: a word, a number's byte, entering. -/
set_option linter.unusedSimpArgs false
set_option linter.unusedVariables false
set_option maxRecDepth 100000
namespace Go.Proofs.YtpmhdcmmlkjjmaaGreatDoor
open Go.RowKit Go.Lib
theorem drop_at (p : ByteArray) (i : Nat) (h : i < p.size) : p.data.toList.drop i = p[i] :: p.data.toList.drop (i + 1) := drop_consW p i h
theorem wordJ_go {l : List UInt8} {k k1 : Nat} {c : UInt8} {p : List UInt8} (h : mustJ l k c = .ok k1) : wordJ l k (c :: p) = wordJ l k1 p := by rw [wordJ, h]
theorem wordJ_no {l : List UInt8} {k : Nat} {f : Flt} {c : UInt8} {p : List UInt8} (h : mustJ l k c = .error f) : wordJ l k (c :: p) = .error f := by rw [wordJ, h]
set_option maxHeartbeats 4000000 in
theorem jword_any (g : Nat) (s p : ByteArray) (k D n : Nat) (w : World) (h : JR g s k D n w) (hs : s.size ≤ 281474976710656) (hk : k ≤ s.size) (hp : p.size ≤ 100) :
    Calls Tryz.prog 86 #[.pointer (some ⟨g, 0, none⟩), .string p] w (JP (wordJ s.data.toList k p.data.toList) (fun k' e w' => e = .returned (.tuple #[]) ∧ JR g s k' D n w') g w) := by
  have hll : s.data.toList.length = s.size := by simp
  have HLL := hmk hll
  have CM : Hid (∀ (W : World) (i : Nat) (c : UInt8), JR g s i D n W → i ≤ s.size → Calls Tryz.prog 111 #[.pointer (some ⟨g, 0, none⟩), .int .u8 (c.toNat : Int)] W (JP (mustJ s.data.toList i c) (fun k' e w' => e = .returned (.tuple #[]) ∧ JR g s k' D n w') g W)) := fun W i c hW hi => jmust_any g s i D n c W hW hs hi
  clear hll
  go_enter Tryz.func86, Tryz.ntmps86
  go_wp2
  go_loopw [7] (fun e7 wr => ∃ i : Nat, i ≤ p.size ∧ e7 = .int .i64 (i : Int) ∧ k + i ≤ s.size ∧ JR g s (k + i) D n wr ∧ w.grownBy wr (some g) ∧ Hid (wordJ s.data.toList k p.data.toList = wordJ s.data.toList (k + i) (p.data.toList.drop i))) (fun e7 _ => p.size - (RowKit.intOf e7).toNat)
  case atStart => exact ⟨0, Nat.zero_le _, rfl, hk, h, World.grownBy.refl _ _, hmk rfl⟩
  case round =>
    obtain ⟨i, hi, rfl, hki, R, gr, HW⟩ := hrel
    clear h
    by_cases hlt : i < p.size
    · have y1 : (i : Int) < p.size := by omega
      cases hm : mustJ s.data.toList (k + i) p[i] with
      | ok k1 =>
        obtain ⟨e1, hl1⟩ := mustJ_le hm
        rw [HLL.out] at hl1
        subst e1
        have HW3 : Hid (wordJ s.data.toList k p.data.toList = wordJ s.data.toList (k + i + 1) (p.data.toList.drop (i + 1))) := by show _ = _; rw [HW.out, drop_at p i hlt, wordJ_go hm]
        have C1 := CM.out wr (k + i) p[i] R hki
        rw [hm] at C1
        clear hm HW
        go_wp2_with (go_at_call 111; refine C1.mono ?_; rintro e w1 ⟨⟨rfl, R1⟩, g1⟩)
        go_round
        case measure => simp only [RowKit.intOf]; omega
        case rel => exact ⟨i + 1, by omega, by simp, by omega, R1, gr.trans g1, HW3⟩
      | error f =>
        have HW3 : Hid (wordJ s.data.toList k p.data.toList = .error f) := by show _ = _; rw [HW.out, drop_at p i hlt, wordJ_no hm]
        have C1 := CM.out wr (k + i) p[i] R hki
        rw [hm] at C1
        clear hm HW
        go_wp2_with (go_at_call 111; refine C1.mono ?_; rintro e w1 ⟨he, g1⟩; unfold flt at he; subst he)
        refine ⟨rfl, ?_⟩
        rw [HW3.out]
        exact ⟨rfl, gr.trans g1⟩
    · obtain rfl : i = p.size := by omega
      go_wp2
      go_end0
      have e : p.data.toList.drop p.size = [] := List.drop_eq_nil_of_le (by simp)
      rw [HW.out, e, wordJ]
      exact ⟨⟨rfl, R⟩, gr⟩
theorem ixb_num (c : UInt8) : decide (0 ≤ indexByte [45, 43, 46, 101, 69] c) = (c == 45 || c == 43 || c == 46 || c == 101 || c == 69) := by
  rw [Bool.eq_iff_iff, decide_eq_true_eq, ixb_mem]
  simp [or_assoc]
set_option maxHeartbeats 4000000 in
theorem innum_any (c : UInt8) (w : World) : Calls Tryz.prog 110 #[.int .u8 (c.toNat : Int)] w fun e w' => e = .returned (.bool (numC c)) ∧ w' = w := by
  obtain ⟨I, CB, hb⟩ : ∃ I : Int, (∀ W, Calls Tryz.prog 83 #[.string ⟨#[45, 43, 46, 101, 69]⟩, .int .u8 (c.toNat : Int)] W fun e w' => e = .returned (.int .i64 I) ∧ w' = W) ∧ Hid (decide (0 ≤ I) = (c == 45 || c == 43 || c == 46 || c == 101 || c == 69)) :=
    ⟨_, fun W => ixb_any ⟨#[45, 43, 46, 101, 69]⟩ c W, ixb_num c⟩
  have HN : Hid (numC c = (decide (48 ≤ c.toNat ∧ c.toNat ≤ 57) || decide (0 ≤ I))) := by show _ = _; rw [numC, hb.out]
  go_enter Tryz.func110, Tryz.ntmps110
  go_wp2_with (go_at_call 83; refine (CB _).mono ?_; rintro e w' ⟨rfl, rfl⟩)
  all_goals go_ret
  all_goals refine ⟨?_, rfl⟩
  all_goals show Ending.returned (Value.bool _) = Ending.returned (Value.bool _)
  all_goals refine congrArg (fun r => Ending.returned (Value.bool r)) ?_
  all_goals rw [HN.out]
  all_goals rw [Bool.eq_iff_iff]
  all_goals simp only [Bool.or_eq_true, decide_eq_true_eq, true_iff]
  all_goals omega
def begJ (c : UInt8) : Bool := c == 110 || c == 116 || c == 102 || c == 34 || c == 91 || c == 123
theorem ixb_beg (c : UInt8) : decide (0 ≤ indexByte [110, 116, 102, 34, 91, 123] c) = begJ c := by
  rw [Bool.eq_iff_iff, decide_eq_true_eq, ixb_mem]
  simp [begJ, or_assoc]
theorem entJ_byte {c : UInt8} {D n o k : Nat} (h : begJ c = false) (h2 : numC c = false) : entJ c D n o k = .error (k, 32) := by
  have h' : ¬ (c = 110 ∨ c = 116 ∨ c = 102 ∨ c = 34 ∨ c = 91 ∨ c = 123 ∨ numC c = true) := by
    rw [h2]
    simp only [begJ, Bool.or_eq_false_iff, beq_eq_false_iff_ne] at h
    simp [h]
  rw [entJ, if_pos h']
theorem entJ_in {c : UInt8} {D n o k : Nat} (h : begJ c = true ∨ numC c = true) : entJ c D n o k = if n = 65536 then .error (k, 22) else if D < o then .error (k, 21) else .ok (n + 1) := by
  have h' : ¬ ¬ (c = 110 ∨ c = 116 ∨ c = 102 ∨ c = 34 ∨ c = 91 ∨ c = 123 ∨ numC c = true) := by
    intro q
    apply q
    simp only [begJ, Bool.or_eq_true, beq_iff_eq] at h
    rcases h with (((((h | h) | h) | h) | h) | h) | h <;> simp [h]
  rw [entJ, if_neg h']
set_option maxHeartbeats 8000000 in
theorem jenter_any (g : Nat) (s : ByteArray) (k D n o : Nat) (c : UInt8) (w : World) (h : JR g s k D n w) (hn : n ≤ 65536) (ho : o ≤ 1000) (hD : D ≤ 1000) :
    Calls Tryz.prog 85 #[.pointer (some ⟨g, 0, none⟩), .int .u8 (c.toNat : Int), .int .i64 (o : Int)] w (JP (entJ c D n o k) (fun n' e w' => e = .returned (.tuple #[]) ∧ JR g s k D n' w') g w) := by
  obtain ⟨I, CB, hb⟩ : ∃ I : Int, (∀ W, Calls Tryz.prog 83 #[.string ⟨#[110, 116, 102, 34, 91, 123]⟩, .int .u8 (c.toNat : Int)] W fun e w' => e = .returned (.int .i64 I) ∧ w' = W) ∧ decide (0 ≤ I) = begJ c :=
    ⟨_, fun W => ixb_any ⟨#[110, 116, 102, 34, 91, 123]⟩ c W, ixb_beg c⟩
  have CN : ∀ W, Calls Tryz.prog 110 #[.int .u8 (c.toNat : Int)] W fun e w' => e = .returned (.bool (numC c)) ∧ w' = W := fun W => innum_any c W
  have c1 := h.c1
  have c2 := h.c2
  have c3 := h.c3
  have f3 := h.fz 3
  have HR := hmk h
  clear h
  have HB : Hid (begJ c = false → numC c = false → entJ c D n o k = .error (k, 32)) := entJ_byte
  have HI : Hid ((begJ c = true ∨ numC c = true) → entJ c D n o k = if n = 65536 then .error (k, 22) else if D < o then .error (k, 21) else .ok (n + 1)) := entJ_in
  generalize entJ c D n o k = R at *
  by_cases hbyte : begJ c = false ∧ numC c = false
  · have hR := HB.out hbyte.1 hbyte.2
    subst hR
    rw [hbyte.1] at hb
    have y1 : I < 0 := by have := of_decide_eq_false hb; omega
    have y2 := hbyte.2
    rw [y2] at CN
    clear hbyte hb HB HI y2
    go_enter Tryz.func85, Tryz.ntmps85
    go_wp2_with first
      | (go_at_call 83; refine (CB _).mono ?_; rintro e w' ⟨rfl, rfl⟩)
      | (go_at_call 110; refine (CN _).mono ?_; rintro e w' ⟨rfl, rfl⟩)
      | (go_at_call 64; refine (giveup_any _ k 32 _).mono ?_; rintro e w' ⟨he, rfl⟩; unfold flt at he; subst he)
    exact ⟨rfl, rfl, World.grownBy.refl _ _⟩
  · have hin : begJ c = true ∨ numC c = true := by
      cases h1 : begJ c
      · cases h2 : numC c
        · exact absurd ⟨h1, h2⟩ hbyte
        · exact .inr rfl
      · exact .inl rfl
    have hR := HI.out hin
    by_cases y1 : I < 0
    · have y2 : numC c = true := by
        rcases hin with q | q
        · rw [q] at hb; have := of_decide_eq_true hb; omega
        · exact q
      rw [y2] at CN
      clear hbyte hb HB HI hin y2
      by_cases h1 : n = 65536
      · rw [if_pos h1] at hR
        subst hR
        subst h1
        go_enter Tryz.func85, Tryz.ntmps85
        go_wp2_with first
          | (go_at_call 83; refine (CB _).mono ?_; rintro e w' ⟨rfl, rfl⟩)
          | (go_at_call 110; refine (CN _).mono ?_; rintro e w' ⟨rfl, rfl⟩)
          | (go_at_call 64; refine (giveup_any _ k 22 _).mono ?_; rintro e w' ⟨he, rfl⟩; unfold flt at he; subst he)
        exact ⟨rfl, rfl, World.grownBy.refl _ _⟩
      · rw [if_neg h1] at hR
        have z1 : ((n : Int) == 65536) = false := by simp; omega
        by_cases h2 : D < o
        · rw [if_pos h2] at hR
          subst hR
          have z2 : (D : Int) < o := by omega
          go_enter Tryz.func85, Tryz.ntmps85
          go_wp2_with first
            | (go_at_call 83; refine (CB _).mono ?_; rintro e w' ⟨rfl, rfl⟩)
            | (go_at_call 110; refine (CN _).mono ?_; rintro e w' ⟨rfl, rfl⟩)
            | (go_at_call 64; refine (giveup_any _ k 21 _).mono ?_; rintro e w' ⟨he, rfl⟩; unfold flt at he; subst he)
          exact ⟨rfl, rfl, World.grownBy.refl _ _⟩
        · rw [if_neg h2] at hR
          subst hR
          have z2 : ¬ (D : Int) < o := by omega
          go_enter Tryz.func85, Tryz.ntmps85
          go_wp2_with first
            | (go_at_call 83; refine (CB _).mono ?_; rintro e w' ⟨rfl, rfl⟩)
            | (go_at_call 110; refine (CN _).mono ?_; rintro e w' ⟨rfl, rfl⟩)
          go_end0
          exact ⟨⟨rfl, HR.out.putN (n + 1) _ (by omega)⟩, grown_set (World.grownBy.refl _ _) _ _⟩
    · clear hbyte hb HB HI hin
      by_cases h1 : n = 65536
      · rw [if_pos h1] at hR
        subst hR
        subst h1
        go_enter Tryz.func85, Tryz.ntmps85
        go_wp2_with first
          | (go_at_call 83; refine (CB _).mono ?_; rintro e w' ⟨rfl, rfl⟩)
          | (go_at_call 110; refine (CN _).mono ?_; rintro e w' ⟨rfl, rfl⟩)
          | (go_at_call 64; refine (giveup_any _ k 22 _).mono ?_; rintro e w' ⟨he, rfl⟩; unfold flt at he; subst he)
        exact ⟨rfl, rfl, World.grownBy.refl _ _⟩
      · rw [if_neg h1] at hR
        have z1 : ((n : Int) == 65536) = false := by simp; omega
        by_cases h2 : D < o
        · rw [if_pos h2] at hR
          subst hR
          have z2 : (D : Int) < o := by omega
          go_enter Tryz.func85, Tryz.ntmps85
          go_wp2_with first
            | (go_at_call 83; refine (CB _).mono ?_; rintro e w' ⟨rfl, rfl⟩)
            | (go_at_call 110; refine (CN _).mono ?_; rintro e w' ⟨rfl, rfl⟩)
            | (go_at_call 64; refine (giveup_any _ k 21 _).mono ?_; rintro e w' ⟨he, rfl⟩; unfold flt at he; subst he)
          exact ⟨rfl, rfl, World.grownBy.refl _ _⟩
        · rw [if_neg h2] at hR
          subst hR
          have z2 : ¬ (D : Int) < o := by omega
          go_enter Tryz.func85, Tryz.ntmps85
          go_wp2_with first
            | (go_at_call 83; refine (CB _).mono ?_; rintro e w' ⟨rfl, rfl⟩)
            | (go_at_call 110; refine (CN _).mono ?_; rintro e w' ⟨rfl, rfl⟩)
          go_end0
          exact ⟨⟨rfl, HR.out.putN (n + 1) _ (by omega)⟩, grown_set (World.grownBy.refl _ _) _ _⟩
end Go.Proofs.YtpmhdcmmlkjjmaaGreatDoor
