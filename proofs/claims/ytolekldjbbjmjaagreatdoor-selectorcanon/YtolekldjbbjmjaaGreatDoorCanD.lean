import Derived.Test.YtolekldjbbjmjaaGreatDoorCanC
import Derived.Test.YtolekldjbbjmjaaGreatDoorAwkB
/- SelectorCanon: the law's own walk. -/
set_option linter.unusedSimpArgs false
set_option linter.unusedVariables false
namespace Go.Proofs.YtolekldjbbjmjaaGreatDoor
open Go.RowKit Go.Lib
theorem add_any (x y : ByteArray) (h : x.size + y.size ≤ 9223372036854775807) (W : World) : (Op.stringOp .add x y).run Tryz.prog W = .ok (.string (x ++ y)) W :=
  run_string_add_sum (P := Tryz.prog) W x y h
theorem blanks (s : ByteArray) : (((⟨#[32]⟩ : ByteArray) ++ s) ++ (⟨#[32]⟩ : ByteArray)).data.toList = 32 :: (s.data.toList ++ [32]) ∧ (((⟨#[32]⟩ : ByteArray) ++ s) ++ (⟨#[32]⟩ : ByteArray)).size = s.size + 2 := by
  have h : (((⟨#[32]⟩ : ByteArray) ++ s) ++ (⟨#[32]⟩ : ByteArray)).data.toList = 32 :: (s.data.toList ++ [32]) := by simp [ByteArray.data_append]
  refine ⟨h, ?_⟩
  have e : ∀ b : ByteArray, b.size = b.data.toList.length := fun b => by simp
  rw [e, h, e s]
  simp
set_option maxHeartbeats 16000000 in
set_option maxRecDepth 100000 in
theorem canon_walk (s : ByteArray) (w : World) (hT : Tq w) (hs : s.size ≤ 140737488355328) :
    Calls Tryz.prog 6 #[.string s] w (BPost true w) := by
  have HTQ : Hid (∀ W, Below w.heap.size w W → Tq W) := fun W hW => hT.below hW hT.z
  have CN : ∀ (z : Int) (W : World), Calls Tryz.prog 12 #[.int .i64 z] W (fun e w' => e = .returned (.int .i64 z) ∧ W = w') := fun z W => (num_any z W).mono (by rintro e w' ⟨h1, h2⟩; exact ⟨h1, h2.symm⟩)
  have CA := hmk (awake_any w hT)
  have hll : s.data.toList.length = s.size := by simp
  obtain ⟨p1, p2, p3⟩ := par_ok s.data.toList
  rw [hll] at p1 p3
  clear hT
  go_enter Tryz.func6, Tryz.ntmps6
  go_wp2_with fail
  refine CA.out.mono ?_
  rintro e w1 ⟨rfl, b1⟩
  have B1 := hmk b1
  have CP1 := parse_any s w1 (HTQ.out _ B1.out) hs
  clear b1 CA
  obtain ⟨R, hR⟩ : ∃ R, R = parF s.data.toList := ⟨_, rfl⟩
  rw [← hR] at p1 p2 p3 CP1
  obtain ⟨r1, r2⟩ := R
  simp only at p1 p2 p3
  cases r1 with
  | none =>
    have CP1 : Hid (Calls Tryz.prog 17 #[.string s] w1 (fun e w' => e = .returned (.tuple #[.slice none 0 0, .int .i64 (r2 : Int), .int .i64 200]) ∧ Below w1.heap.size w1 w')) := CP1.mono (by
      rintro e w' (⟨l', u, S, h1, _⟩ | ⟨_, rfl, h⟩)
      · cases h1
      · exact ⟨rfl, h⟩)
    have y1 : (r2 : Int) ≤ s.size := by omega
    have y2 : (r2 : Int) ≤ 1048576 := by omega
    have y0 : (0 : Int) ≤ (r2 : Int) := by omega
    clear hR p1 p2 p3 hll
    go_wp2_with fail
    refine CP1.out.mono ?_
    rintro e w2 ⟨rfl, b2⟩
    have B2 := hmk (B1.out.trans (b2.mono B1.out.size))
    clear b2 CP1
    go_wp2_with (first | (go_at_call 12; refine (CN _ _).mono ?_; rintro e wn ⟨rfl, rfl⟩) | fail)
    go_ret
    exact ⟨rfl, B2.out⟩
  | some l =>
    obtain ⟨hg, hwt, hsm⟩ := p3 l rfl
    have CP1 : Hid (Calls Tryz.prog 17 #[.string s] w1 (fun e w' => ∃ a c b o, e = .returned (.tuple #[.slice a l.length c, .int .i64 (-1), .int .i64 0]) ∧ Headed a l.length c b o ∧ liesT false w' (New w1 w') l b o ∧ Below w1.heap.size w1 w')) := CP1.mono (by
      rintro e w' (⟨l', u, S, h1, rfl, h3, _, h5⟩ | ⟨h1, _⟩)
      · obtain rfl : l = l' := Option.some.inj h1
        obtain ⟨a, c, b, o, rfl, h6, h7⟩ := own_terms h3
        exact ⟨a, c, b, o, rfl, h6, h7, h5⟩
      · cases h1)
    obtain ⟨X, hX⟩ : ∃ X, X = textL l := ⟨_, rfl⟩
    have hXs : X.size ≤ 412 * wtT l := by
      have := printI_len (fun t ht => List.all_eq_true.1 hg t ht) l.length (Nat.le_refl _)
      rw [List.take_length] at this
      rw [hX]
      unfold textL
      rw [if_pos hg, bs_size]
      exact this
    obtain ⟨hY1, hY2⟩ := blanks s
    have A1 := add_any ⟨#[32]⟩ s (by rw [show (⟨#[32]⟩ : ByteArray).size = 1 from rfl]; omega)
    have hY0 : ((⟨#[32]⟩ : ByteArray) ++ s).size = s.size + 1 := by
      have e : ∀ b : ByteArray, b.size = b.data.toList.length := fun b => by simp
      rw [e, ByteArray.data_append]
      simp [Nat.add_comm]
    have A2 := add_any ((⟨#[32]⟩ : ByteArray) ++ s) ⟨#[32]⟩ (by rw [hY0, show (⟨#[32]⟩ : ByteArray).size = 1 from rfl]; omega)
    obtain ⟨Y, hY⟩ : ∃ Y, Y = ((⟨#[32]⟩ : ByteArray) ++ s) ++ (⟨#[32]⟩ : ByteArray) := ⟨_, rfl⟩
    rw [← hY] at hY1 hY2 A2
    generalize ((⟨#[32]⟩ : ByteArray) ++ s) = Y0 at *
    have hWT : Hid (wtT l ≤ 2147483647) := by show _ ≤ _; omega
    have HPR : Hid (∀ (S : Nat → Prop) (a : Option Addr) (c b o : Nat) (W : World), Below w.heap.size w W → Headed a l.length c b o → liesT false W S l b o → (∀ y, S y → y < W.heap.size) →
        Calls Tryz.prog 10 #[.slice a l.length c] W (fun e w' => e = .returned (.tuple #[.string X, .int .i64 0]) ∧ Below W.heap.size W w')) := fun S a c b o W hb h1 h2 h3 => by
      have c := print_any l false S a c b o W h1 h2 h3 hWT.out (HTQ.out W hb).t
      unfold PnPost errN at c
      rw [hg, ← hX] at c
      exact c
    have HPX : Hid (∀ W, Below w.heap.size w W → Calls Tryz.prog 17 #[.string X] W (PaPost (parF X.data.toList) W)) := fun W hb => parse_any X W (HTQ.out W hb) (by omega)
    have HPY : Hid (∀ W, Below w.heap.size w W → Calls Tryz.prog 17 #[.string Y] W (PaPost (parF Y.data.toList) W)) := fun W hb => parse_any Y W (HTQ.out W hb) (by omega)
    have hpX : (X.size ≤ 1048576 ∧ (parF X.data.toList).1 = some l) ∨ (1048576 < X.size ∧ parF X.data.toList = (none, 1048576)) := by
      by_cases c : X.size ≤ 1048576
      · exact .inl ⟨c, by have := text_back hg (by rw [← hX]; exact c); rw [← hX] at this; rw [this]⟩
      · exact .inr ⟨by omega, by unfold parF; rw [if_pos (by rw [show X.data.toList.length = X.size by simp]; omega)]⟩
    have hpY : (s.size + 2 ≤ 1048576 ∧ (parF Y.data.toList).1 = some l) ∨ (1048576 < s.size + 2 ∧ parF Y.data.toList = (none, 1048576)) := by
      by_cases c : s.size + 2 ≤ 1048576
      · exact .inl ⟨c, by rw [hY1]; exact par_sh (by rw [← hR]) (by rw [hll]; exact c)⟩
      · exact .inr ⟨by omega, by unfold parF; rw [if_pos (by rw [hY1, List.length_cons, List.length_append, hll]; simp only [List.length_cons, List.length_nil]; omega)]⟩
    have hXb : X.size ≤ 28080865280 := by omega
    clear hR p1 p2 p3 hll hg hX hXs hY hY0 hY1 hY2 hwt
    go_wp2_with fail
    refine CP1.out.mono ?_
    rintro e w2 ⟨a2, c2, b2', o2, rfl, hh2, hl2, b2⟩
    have B2 := hmk (B1.out.trans (b2.mono B1.out.size))
    have HH2 := hmk hh2
    have HL2 : Hid (∀ W, Below w2.heap.size w2 W → liesT false W (New w1 w2) l b2' o2 ∧ ∀ y, New w1 w2 y → y < W.heap.size) := fun W hW => ⟨hl2.keep (fun h => h) (fun y hy => hW.block y hy.2) (fun _ h => h), fun y hy => Nat.lt_of_lt_of_le hy.2 hW.size⟩
    have CP := hmk (HPR.out _ a2 c2 b2' o2 w2 B2.out hh2 hl2 (fun y hy => hy.2))
    clear b2 CP1 hh2 hl2 HPR
    go_wp2_with (first | (go_at_call 12; refine (CN _ _).mono ?_; rintro e wn ⟨rfl, rfl⟩) | fail)
    refine CP.out.mono ?_
    rintro e w3 ⟨rfl, b3⟩
    have B23 := hmk b3
    have B3 := hmk (B2.out.trans (b3.mono B2.out.size))
    have CX := HPX.out w3 B3.out
    clear b3 CP HPX
    rcases hpX with ⟨hx, hpx⟩ | ⟨hx, hpx⟩
    · have CX : Hid (Calls Tryz.prog 17 #[.string X] w3 (fun e w' => ∃ a c b o, e = .returned (.tuple #[.slice a l.length c, .int .i64 (-1), .int .i64 0]) ∧ Headed a l.length c b o ∧ liesT false w' (New w3 w') l b o ∧ Below w3.heap.size w3 w')) := CX.mono (by
        rintro e w' (⟨l', u, S, h1, rfl, h3, _, h5⟩ | ⟨h1, _⟩)
        · obtain rfl : l = l' := Option.some.inj (hpx.symm.trans h1)
          obtain ⟨a, c, b, o, rfl, h6, h7⟩ := own_terms h3
          exact ⟨a, c, b, o, rfl, h6, h7, h5⟩
        · rw [hpx] at h1; cases h1)
      have xx : (X.size : Int) ≤ 1048576 := by omega
      clear hpx hx
      go_wp2_with (first | (go_at_call 12; refine (CN _ _).mono ?_; rintro e wn ⟨rfl, rfl⟩) | fail)
      refine CX.out.mono ?_
      rintro e w4 ⟨a4, c4, b4', o4, rfl, hh4, hl4, b4⟩
      have B4 := hmk (B3.out.trans (b4.mono B3.out.size))
      have B24 := hmk (B23.out.trans (b4.mono B23.out.size))
      have CS4 := hmk (same_any l false false _ _ a2 a4 c2 c4 b2' b4' o2 o4 w4 HH2.out hh4 (HL2.out w4 B24.out).1 hl4 (HL2.out w4 B24.out).2 (fun y hy => hy.2))
      clear b4 CX hh4 hl4
      go_wp2_with (first | (go_at_call 12; refine (CN _ _).mono ?_; rintro e wn ⟨rfl, rfl⟩) | (go_at_call 15; refine CS4.out.mono ?_; rintro e w5 ⟨rfl, b5⟩; have B5 := hmk (B4.out.trans (b5.mono B4.out.size)); have B25 := hmk (B24.out.trans (b5.mono B24.out.size)); clear b5) | fail)
      have CY := HPY.out w5 B5.out
      rcases hpY with ⟨hy, hpy⟩ | ⟨hy, hpy⟩
      · have CY : Hid (Calls Tryz.prog 17 #[.string Y] w5 (fun e w' => ∃ a c b o, e = .returned (.tuple #[.slice a l.length c, .int .i64 (-1), .int .i64 0]) ∧ Headed a l.length c b o ∧ liesT false w' (New w5 w') l b o ∧ Below w5.heap.size w5 w')) := CY.mono (by
          rintro e w' (⟨l', u, S, h1, rfl, h3, _, h5⟩ | ⟨h1, _⟩)
          · obtain rfl : l = l' := Option.some.inj (hpy.symm.trans h1)
            obtain ⟨a, c, b, o, rfl, h6, h7⟩ := own_terms h3
            exact ⟨a, c, b, o, rfl, h6, h7, h5⟩
          · rw [hpy] at h1; cases h1)
        have yy : ¬ ((s.size : Int) + 2 > 1048576) := by omega
        have yw : IntKind.i64.wrap ((s.size : Int) + 2) = (s.size : Int) + 2 := wrap_small _ (by omega) (by omega)
        clear hpy hy
        refine CY.out.mono ?_
        rintro e w6 ⟨a6, c6, b6', o6, rfl, hh6, hl6, b6⟩
        have B6 := hmk (B5.out.trans (b6.mono B5.out.size))
        have B26 := hmk (B25.out.trans (b6.mono B25.out.size))
        have CS6 := hmk (same_any l false false _ _ a6 a2 c6 c2 b6' b2' o6 o2 w6 hh6 HH2.out hl6 (HL2.out w6 B26.out).1 (fun y hy => hy.2) (HL2.out w6 B26.out).2)
        clear b6 CY hh6 hl6
        go_wp2_with (first | (go_at_call 12; refine (CN _ _).mono ?_; rintro e wn ⟨rfl, rfl⟩) | (go_at_call 15; refine CS6.out.mono ?_; rintro e w7 ⟨rfl, b7⟩) | fail)
        go_ret
        exact ⟨rfl, B6.out.trans (b7.mono B6.out.size)⟩
      · have CY : Hid (Calls Tryz.prog 17 #[.string Y] w5 (fun e w' => e = .returned (.tuple #[.slice none 0 0, .int .i64 1048576, .int .i64 200]) ∧ Below w5.heap.size w5 w')) := CY.mono (by
          rw [hpy]
          rintro e w' (⟨l', u, S, h1, _⟩ | ⟨_, rfl, h⟩)
          · cases h1
          · exact ⟨rfl, h⟩)
        have yy : (s.size : Int) + 2 > 1048576 := by omega
        have yw : IntKind.i64.wrap ((s.size : Int) + 2) = (s.size : Int) + 2 := wrap_small _ (by omega) (by omega)
        clear hpy hy
        refine CY.out.mono ?_
        rintro e w6 ⟨rfl, b6⟩
        have B6 := hmk (B5.out.trans (b6.mono B5.out.size))
        clear b6 CY
        go_wp2_with (first | (go_at_call 12; refine (CN _ _).mono ?_; rintro e wn ⟨rfl, rfl⟩) | fail)
        go_ret
        exact ⟨rfl, B6.out⟩
    · have CX : Hid (Calls Tryz.prog 17 #[.string X] w3 (fun e w' => e = .returned (.tuple #[.slice none 0 0, .int .i64 1048576, .int .i64 200]) ∧ Below w3.heap.size w3 w')) := CX.mono (by
        rw [hpx]
        rintro e w' (⟨l', u, S, h1, _⟩ | ⟨_, rfl, h⟩)
        · cases h1
        · exact ⟨rfl, h⟩)
      have xx : ¬ ((X.size : Int) ≤ 1048576) := by omega
      clear hpx hx
      go_wp2_with (first | (go_at_call 12; refine (CN _ _).mono ?_; rintro e wn ⟨rfl, rfl⟩) | fail)
      refine CX.out.mono ?_
      rintro e w4 ⟨rfl, b4⟩
      have B4 := hmk (B3.out.trans (b4.mono B3.out.size))
      have B24 := hmk (B23.out.trans (b4.mono B23.out.size))
      have CY := HPY.out w4 B4.out
      clear b4 CX
      go_wp2_with (first | (go_at_call 12; refine (CN _ _).mono ?_; rintro e wn ⟨rfl, rfl⟩) | fail)
      rcases hpY with ⟨hy, hpy⟩ | ⟨hy, hpy⟩
      · have CY : Hid (Calls Tryz.prog 17 #[.string Y] w4 (fun e w' => ∃ a c b o, e = .returned (.tuple #[.slice a l.length c, .int .i64 (-1), .int .i64 0]) ∧ Headed a l.length c b o ∧ liesT false w' (New w4 w') l b o ∧ Below w4.heap.size w4 w')) := CY.mono (by
          rintro e w' (⟨l', u, S, h1, rfl, h3, _, h5⟩ | ⟨h1, _⟩)
          · obtain rfl : l = l' := Option.some.inj (hpy.symm.trans h1)
            obtain ⟨a, c, b, o, rfl, h6, h7⟩ := own_terms h3
            exact ⟨a, c, b, o, rfl, h6, h7, h5⟩
          · rw [hpy] at h1; cases h1)
        have yy : ¬ ((s.size : Int) + 2 > 1048576) := by omega
        have yw : IntKind.i64.wrap ((s.size : Int) + 2) = (s.size : Int) + 2 := wrap_small _ (by omega) (by omega)
        clear hpy hy
        refine CY.out.mono ?_
        rintro e w6 ⟨a6, c6, b6', o6, rfl, hh6, hl6, b6⟩
        have B6 := hmk (B4.out.trans (b6.mono B4.out.size))
        have B26 := hmk (B24.out.trans (b6.mono B24.out.size))
        have CS6 := hmk (same_any l false false _ _ a6 a2 c6 c2 b6' b2' o6 o2 w6 hh6 HH2.out hl6 (HL2.out w6 B26.out).1 (fun y hy => hy.2) (HL2.out w6 B26.out).2)
        clear b6 CY hh6 hl6
        go_wp2_with (first | (go_at_call 12; refine (CN _ _).mono ?_; rintro e wn ⟨rfl, rfl⟩) | (go_at_call 15; refine CS6.out.mono ?_; rintro e w7 ⟨rfl, b7⟩) | fail)
        go_ret
        exact ⟨rfl, B6.out.trans (b7.mono B6.out.size)⟩
      · have CY : Hid (Calls Tryz.prog 17 #[.string Y] w4 (fun e w' => e = .returned (.tuple #[.slice none 0 0, .int .i64 1048576, .int .i64 200]) ∧ Below w4.heap.size w4 w')) := CY.mono (by
          rw [hpy]
          rintro e w' (⟨l', u, S, h1, _⟩ | ⟨_, rfl, h⟩)
          · cases h1
          · exact ⟨rfl, h⟩)
        have yy : (s.size : Int) + 2 > 1048576 := by omega
        have yw : IntKind.i64.wrap ((s.size : Int) + 2) = (s.size : Int) + 2 := wrap_small _ (by omega) (by omega)
        clear hpy hy
        refine CY.out.mono ?_
        rintro e w6 ⟨rfl, b6⟩
        have B6 := hmk (B4.out.trans (b6.mono B4.out.size))
        clear b6 CY
        go_wp2_with (first | (go_at_call 12; refine (CN _ _).mono ?_; rintro e wn ⟨rfl, rfl⟩) | fail)
        go_ret
        exact ⟨rfl, B6.out⟩
end Go.Proofs.YtolekldjbbjmjaaGreatDoor
