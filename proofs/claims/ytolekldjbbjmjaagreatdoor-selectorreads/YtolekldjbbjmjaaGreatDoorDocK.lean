import Derived.Test.YtolekldjbbjmjaaGreatDoorDocJ
/- SelectorReads: the law's own walk. -/
set_option linter.unusedSimpArgs false
set_option linter.unusedVariables false
namespace Go.Proofs.YtolekldjbbjmjaaGreatDoor
open Go.RowKit Go.Lib
/-- what both readers answer, told once -/
def Bo (R : Option (List Trm) × Nat) (W : World) (e : Ending) (w' : World) : Prop :=
  (∃ l a c b o, R = (some l, R.2) ∧ e = .returned (.tuple #[.slice a l.length c, .int .i64 (-1), .int .i64 0]) ∧ Headed a l.length c b o ∧ liesT false w' (New W w') l b o ∧ Below W.heap.size W w') ∨ (R = (none, R.2) ∧ e = .returned (.tuple #[.slice none 0 0, .int .i64 (R.2 : Int), .int .i64 200]) ∧ Below W.heap.size W w')
theorem bo_of {R : Option (List Trm) × Nat} {W : World} {e : Ending} {w' : World} (h : PaPost R W e w') : Bo R W e w' := by
  rcases h with ⟨l, u, S, h1, rfl, h3, _, h5⟩ | ⟨h1, rfl, h5⟩
  · obtain ⟨a, c, b, o, rfl, h6, h7⟩ := own_terms h3
    exact .inl ⟨l, a, c, b, o, Prod.ext h1 rfl, rfl, h6, h7, h5⟩
  · exact .inr ⟨Prod.ext h1 rfl, rfl, h5⟩
def BoS (l : List Trm) (W : World) (e : Ending) (w' : World) : Prop :=
  ∃ a c b o, e = .returned (.tuple #[.slice a l.length c, .int .i64 (-1), .int .i64 0]) ∧ Headed a l.length c b o ∧ liesT false w' (New W w') l b o ∧ Below W.heap.size W w'
def BoN (z : Nat) (W : World) (e : Ending) (w' : World) : Prop :=
  e = .returned (.tuple #[.slice none 0 0, .int .i64 (z : Int), .int .i64 200]) ∧ Below W.heap.size W w'
/-- the two readers of one text -/
theorem two_readers (s : ByteArray) (w : World) (t : Tp w) (hs : s.size ≤ 140737488355328) :
    (∃ l, ∀ W, Below w.heap.size w W → Calls Tryz.prog 17 #[.string s] W (BoS l W) ∧ Calls Tryz.prog 19 #[.string s] W (BoS l W)) ∨
    (∃ z, ∀ W, Below w.heap.size w W → Calls Tryz.prog 17 #[.string s] W (BoN z W) ∧ Calls Tryz.prog 19 #[.string s] W (BoN z W)) := by
  obtain ⟨r1, r2⟩ : Option (List Trm) × Nat := parF s.data.toList
  cases hr : (parF s.data.toList).1 with
  | some l =>
    refine .inl ⟨l, fun W hW => ?_⟩
    have hf : ∀ e w', PaPost (parF s.data.toList) W e w' → BoS l W e w' := fun e w' h => by
      rcases bo_of h with ⟨l', a, c, b, o, h1, h2⟩ | ⟨h1, _⟩
      · obtain rfl : l = l' := Option.some.inj (hr.symm.trans (congrArg Prod.fst h1))
        exact ⟨a, c, b, o, h2⟩
      · rw [h1] at hr; cases hr
    exact ⟨(parse_any s W (t.below hW t.z) hs).mono hf, (rparse_any s W hs).mono hf⟩
  | none =>
    refine .inr ⟨(parF s.data.toList).2, fun W hW => ?_⟩
    have hf : ∀ e w', PaPost (parF s.data.toList) W e w' → BoN (parF s.data.toList).2 W e w' := fun e w' h => by
      rcases bo_of h with ⟨l', a, c, b, o, h1, _⟩ | ⟨_, h2⟩
      · rw [h1] at hr; cases hr
      · exact h2
    exact ⟨(parse_any s W (t.below hW t.z) hs).mono hf, (rparse_any s W hs).mono hf⟩
set_option maxHeartbeats 16000000 in
set_option maxRecDepth 100000 in
theorem reads_walk (s : ByteArray) (w : World) (hT : Tp w) (hs : s.size ≤ 140737488355328) :
    Calls Tryz.prog 7 #[.string s] w (BPost true w) := by
  have HTQ : Hid (∀ W, Below w.heap.size w W → Tp W) := fun W hW => hT.below hW hT.z
  have H1 := two_readers s w hT hs
  have hxs : (pcdF s).size ≤ 140737488355328 := by have := pcsF_size s (min 30 s.size); unfold pcdF; omega
  have H2 := two_readers (pcdF s) w hT hxs
  have CX : Hid (∀ W, Calls Tryz.prog 20 #[.string s] W (fun e w' => e = .returned (.string (pcdF s)) ∧ w' = W)) := fun W => pieced_any s W hs
  have CG := hmk (greatest_any w hT)
  have hn := @nil_eq s
  generalize pcdF s = x at *
  clear hT hxs
  by_cases hz : s.size = 0
  · have y0 : (s.toList == []) = true := by rw [hn, decide_eq_true hz]
    clear hn hz
    go_enter Tryz.func7, Tryz.ntmps7
    go_wp2_with (first | (go_at_call 18; refine CG.out.mono ?_; rintro e w1 ⟨rfl, b1⟩) | fail)
    have B1 := hmk b1
    clear b1 CG y0
    rcases H1 with ⟨l3, h3⟩ | ⟨z3, h3⟩
    · have CA := hmk (h3 w1 B1.out).1
      refine CA.out.mono ?_
      rintro e w3 ⟨a3, c3, b3', o3, rfl, hh3, hl3, b3⟩
      have B3 := hmk (B1.out.trans (b3.mono B1.out.size))
      have HH3 := hmk hh3
      have HL3 : Hid (∀ W, Below w3.heap.size w3 W → liesT false W (New w1 w3) l3 b3' o3 ∧ ∀ y, New w1 w3 y → y < W.heap.size) := fun W hW => ⟨hl3.keep (fun h => h) (fun y hy => hW.block y hy.2) (fun _ h => h), fun y hy => Nat.lt_of_lt_of_le hy.2 hW.size⟩
      have CB := hmk (h3 w3 B3.out).2
      clear b3 CA hh3 hl3 h3
      go_wp2_with fail
      refine CB.out.mono ?_
      rintro e w4 ⟨a4, c4, b4', o4, rfl, hh4, hl4, b4⟩
      have B4 := hmk (B3.out.trans (b4.mono B3.out.size))
      have CSM := hmk (same_any l3 false false _ _ a3 a4 c3 c4 b3' b4' o3 o4 w4 HH3.out hh4 (HL3.out w4 b4).1 hl4 (HL3.out w4 b4).2 (fun y hy => hy.2))
      clear b4 CB hh4 hl4
      go_wp2_with (first | (go_at_call 15; refine CSM.out.mono ?_; rintro e w5 ⟨rfl, b5⟩; have B5 := hmk (B4.out.trans (b5.mono B4.out.size)); clear b5) | (go_at_call 20; refine (CX.out _).mono ?_; rintro e wx ⟨rfl, hwx⟩; obtain rfl := hwx.symm) | fail)
      clear CSM
      rcases H2 with ⟨l6, h6⟩ | ⟨z6, h6⟩
      · have CA := hmk (h6 w5 B5.out).1
        refine CA.out.mono ?_
        rintro e w6 ⟨a6, c6, b6', o6, rfl, hh6, hl6, b6⟩
        have B6 := hmk (B5.out.trans (b6.mono B5.out.size))
        have HH6 := hmk hh6
        have HL6 : Hid (∀ W, Below w6.heap.size w6 W → liesT false W (New w5 w6) l6 b6' o6 ∧ ∀ y, New w5 w6 y → y < W.heap.size) := fun W hW => ⟨hl6.keep (fun h => h) (fun y hy => hW.block y hy.2) (fun _ h => h), fun y hy => Nat.lt_of_lt_of_le hy.2 hW.size⟩
        have CB := hmk (h6 w6 B6.out).2
        clear b6 CA hh6 hl6 h6
        go_wp2_with (first | (go_at_call 20; refine (CX.out _).mono ?_; rintro e wx ⟨rfl, hwx⟩; obtain rfl := hwx.symm) | fail)
        refine CB.out.mono ?_
        rintro e w7 ⟨a7, c7, b7', o7, rfl, hh7, hl7, b7⟩
        have B7 := hmk (B6.out.trans (b7.mono B6.out.size))
        have CSM := hmk (same_any l6 false false _ _ a6 a7 c6 c7 b6' b7' o6 o7 w7 HH6.out hh7 (HL6.out w7 b7).1 hl7 (HL6.out w7 b7).2 (fun y hy => hy.2))
        clear b7 CB hh7 hl7
        go_wp2_with (first | (go_at_call 15; refine CSM.out.mono ?_; rintro e w8 ⟨rfl, b8⟩) | fail)
        go_ret
        exact ⟨rfl, B7.out.trans (b8.mono B7.out.size)⟩
      · have CA := hmk (h6 w5 B5.out).1
        refine CA.out.mono ?_
        rintro e w6 ⟨rfl, b6⟩
        have B6 := hmk (B5.out.trans (b6.mono B5.out.size))
        have CB := hmk (h6 w6 B6.out).2
        clear b6 CA h6
        go_wp2_with (first | (go_at_call 20; refine (CX.out _).mono ?_; rintro e wx ⟨rfl, hwx⟩; obtain rfl := hwx.symm) | fail)
        refine CB.out.mono ?_
        rintro e w7 ⟨rfl, b7⟩
        have B7 := hmk (B6.out.trans (b7.mono B6.out.size))
        have CSM : Hid (Calls Tryz.prog 15 #[.slice none 0 0, .slice none 0 0] w7 (BPost true w7)) := same_any [] false false (fun _ => False) (fun _ => False) none none 0 0 0 0 0 0 w7 head_nilS head_nilS (fun j hj => by simp at hj) (fun j hj => by simp at hj) (fun y hy => hy.elim) (fun y hy => hy.elim)
        clear b7 CB
        go_wp2_with (first | (go_at_call 15; refine CSM.out.mono ?_; rintro e w8 ⟨rfl, b8⟩) | fail)
        go_ret
        exact ⟨rfl, B7.out.trans (b8.mono B7.out.size)⟩
    · have CA := hmk (h3 w1 B1.out).1
      refine CA.out.mono ?_
      rintro e w3 ⟨rfl, b3⟩
      have B3 := hmk (B1.out.trans (b3.mono B1.out.size))
      have CB := hmk (h3 w3 B3.out).2
      clear b3 CA h3
      go_wp2_with fail
      refine CB.out.mono ?_
      rintro e w4 ⟨rfl, b4⟩
      have B4 := hmk (B3.out.trans (b4.mono B3.out.size))
      have CSM : Hid (Calls Tryz.prog 15 #[.slice none 0 0, .slice none 0 0] w4 (BPost true w4)) := same_any [] false false (fun _ => False) (fun _ => False) none none 0 0 0 0 0 0 w4 head_nilS head_nilS (fun j hj => by simp at hj) (fun j hj => by simp at hj) (fun y hy => hy.elim) (fun y hy => hy.elim)
      clear b4 CB
      go_wp2_with (first | (go_at_call 15; refine CSM.out.mono ?_; rintro e w5 ⟨rfl, b5⟩; have B5 := hmk (B4.out.trans (b5.mono B4.out.size)); clear b5) | (go_at_call 20; refine (CX.out _).mono ?_; rintro e wx ⟨rfl, hwx⟩; obtain rfl := hwx.symm) | fail)
      clear CSM
      rcases H2 with ⟨l6, h6⟩ | ⟨z6, h6⟩
      · have CA := hmk (h6 w5 B5.out).1
        refine CA.out.mono ?_
        rintro e w6 ⟨a6, c6, b6', o6, rfl, hh6, hl6, b6⟩
        have B6 := hmk (B5.out.trans (b6.mono B5.out.size))
        have HH6 := hmk hh6
        have HL6 : Hid (∀ W, Below w6.heap.size w6 W → liesT false W (New w5 w6) l6 b6' o6 ∧ ∀ y, New w5 w6 y → y < W.heap.size) := fun W hW => ⟨hl6.keep (fun h => h) (fun y hy => hW.block y hy.2) (fun _ h => h), fun y hy => Nat.lt_of_lt_of_le hy.2 hW.size⟩
        have CB := hmk (h6 w6 B6.out).2
        clear b6 CA hh6 hl6 h6
        go_wp2_with (first | (go_at_call 20; refine (CX.out _).mono ?_; rintro e wx ⟨rfl, hwx⟩; obtain rfl := hwx.symm) | fail)
        refine CB.out.mono ?_
        rintro e w7 ⟨a7, c7, b7', o7, rfl, hh7, hl7, b7⟩
        have B7 := hmk (B6.out.trans (b7.mono B6.out.size))
        have CSM := hmk (same_any l6 false false _ _ a6 a7 c6 c7 b6' b7' o6 o7 w7 HH6.out hh7 (HL6.out w7 b7).1 hl7 (HL6.out w7 b7).2 (fun y hy => hy.2))
        clear b7 CB hh7 hl7
        go_wp2_with (first | (go_at_call 15; refine CSM.out.mono ?_; rintro e w8 ⟨rfl, b8⟩) | fail)
        go_ret
        exact ⟨rfl, B7.out.trans (b8.mono B7.out.size)⟩
      · have CA := hmk (h6 w5 B5.out).1
        refine CA.out.mono ?_
        rintro e w6 ⟨rfl, b6⟩
        have B6 := hmk (B5.out.trans (b6.mono B5.out.size))
        have CB := hmk (h6 w6 B6.out).2
        clear b6 CA h6
        go_wp2_with (first | (go_at_call 20; refine (CX.out _).mono ?_; rintro e wx ⟨rfl, hwx⟩; obtain rfl := hwx.symm) | fail)
        refine CB.out.mono ?_
        rintro e w7 ⟨rfl, b7⟩
        have B7 := hmk (B6.out.trans (b7.mono B6.out.size))
        have CSM : Hid (Calls Tryz.prog 15 #[.slice none 0 0, .slice none 0 0] w7 (BPost true w7)) := same_any [] false false (fun _ => False) (fun _ => False) none none 0 0 0 0 0 0 w7 head_nilS head_nilS (fun j hj => by simp at hj) (fun j hj => by simp at hj) (fun y hy => hy.elim) (fun y hy => hy.elim)
        clear b7 CB
        go_wp2_with (first | (go_at_call 15; refine CSM.out.mono ?_; rintro e w8 ⟨rfl, b8⟩) | fail)
        go_ret
        exact ⟨rfl, B7.out.trans (b8.mono B7.out.size)⟩
  · have y0 : (s.toList == []) = false := by rw [hn, decide_eq_false hz]
    have B1 : Hid (Below w.heap.size w w) := Below.refl _ _
    clear hn hz CG
    go_enter Tryz.func7, Tryz.ntmps7
    go_wp2_with fail
    clear y0
    rcases H1 with ⟨l3, h3⟩ | ⟨z3, h3⟩
    · have CA := hmk (h3 w B1.out).1
      refine CA.out.mono ?_
      rintro e w3 ⟨a3, c3, b3', o3, rfl, hh3, hl3, b3⟩
      have B3 := hmk (B1.out.trans (b3.mono B1.out.size))
      have HH3 := hmk hh3
      have HL3 : Hid (∀ W, Below w3.heap.size w3 W → liesT false W (New w w3) l3 b3' o3 ∧ ∀ y, New w w3 y → y < W.heap.size) := fun W hW => ⟨hl3.keep (fun h => h) (fun y hy => hW.block y hy.2) (fun _ h => h), fun y hy => Nat.lt_of_lt_of_le hy.2 hW.size⟩
      have CB := hmk (h3 w3 B3.out).2
      clear b3 CA hh3 hl3 h3
      go_wp2_with fail
      refine CB.out.mono ?_
      rintro e w4 ⟨a4, c4, b4', o4, rfl, hh4, hl4, b4⟩
      have B4 := hmk (B3.out.trans (b4.mono B3.out.size))
      have CSM := hmk (same_any l3 false false _ _ a3 a4 c3 c4 b3' b4' o3 o4 w4 HH3.out hh4 (HL3.out w4 b4).1 hl4 (HL3.out w4 b4).2 (fun y hy => hy.2))
      clear b4 CB hh4 hl4
      go_wp2_with (first | (go_at_call 15; refine CSM.out.mono ?_; rintro e w5 ⟨rfl, b5⟩; have B5 := hmk (B4.out.trans (b5.mono B4.out.size)); clear b5) | (go_at_call 20; refine (CX.out _).mono ?_; rintro e wx ⟨rfl, hwx⟩; obtain rfl := hwx.symm) | fail)
      clear CSM
      rcases H2 with ⟨l6, h6⟩ | ⟨z6, h6⟩
      · have CA := hmk (h6 w5 B5.out).1
        refine CA.out.mono ?_
        rintro e w6 ⟨a6, c6, b6', o6, rfl, hh6, hl6, b6⟩
        have B6 := hmk (B5.out.trans (b6.mono B5.out.size))
        have HH6 := hmk hh6
        have HL6 : Hid (∀ W, Below w6.heap.size w6 W → liesT false W (New w5 w6) l6 b6' o6 ∧ ∀ y, New w5 w6 y → y < W.heap.size) := fun W hW => ⟨hl6.keep (fun h => h) (fun y hy => hW.block y hy.2) (fun _ h => h), fun y hy => Nat.lt_of_lt_of_le hy.2 hW.size⟩
        have CB := hmk (h6 w6 B6.out).2
        clear b6 CA hh6 hl6 h6
        go_wp2_with (first | (go_at_call 20; refine (CX.out _).mono ?_; rintro e wx ⟨rfl, hwx⟩; obtain rfl := hwx.symm) | fail)
        refine CB.out.mono ?_
        rintro e w7 ⟨a7, c7, b7', o7, rfl, hh7, hl7, b7⟩
        have B7 := hmk (B6.out.trans (b7.mono B6.out.size))
        have CSM := hmk (same_any l6 false false _ _ a6 a7 c6 c7 b6' b7' o6 o7 w7 HH6.out hh7 (HL6.out w7 b7).1 hl7 (HL6.out w7 b7).2 (fun y hy => hy.2))
        clear b7 CB hh7 hl7
        go_wp2_with (first | (go_at_call 15; refine CSM.out.mono ?_; rintro e w8 ⟨rfl, b8⟩) | fail)
        go_ret
        exact ⟨rfl, B7.out.trans (b8.mono B7.out.size)⟩
      · have CA := hmk (h6 w5 B5.out).1
        refine CA.out.mono ?_
        rintro e w6 ⟨rfl, b6⟩
        have B6 := hmk (B5.out.trans (b6.mono B5.out.size))
        have CB := hmk (h6 w6 B6.out).2
        clear b6 CA h6
        go_wp2_with (first | (go_at_call 20; refine (CX.out _).mono ?_; rintro e wx ⟨rfl, hwx⟩; obtain rfl := hwx.symm) | fail)
        refine CB.out.mono ?_
        rintro e w7 ⟨rfl, b7⟩
        have B7 := hmk (B6.out.trans (b7.mono B6.out.size))
        have CSM : Hid (Calls Tryz.prog 15 #[.slice none 0 0, .slice none 0 0] w7 (BPost true w7)) := same_any [] false false (fun _ => False) (fun _ => False) none none 0 0 0 0 0 0 w7 head_nilS head_nilS (fun j hj => by simp at hj) (fun j hj => by simp at hj) (fun y hy => hy.elim) (fun y hy => hy.elim)
        clear b7 CB
        go_wp2_with (first | (go_at_call 15; refine CSM.out.mono ?_; rintro e w8 ⟨rfl, b8⟩) | fail)
        go_ret
        exact ⟨rfl, B7.out.trans (b8.mono B7.out.size)⟩
    · have CA := hmk (h3 w B1.out).1
      refine CA.out.mono ?_
      rintro e w3 ⟨rfl, b3⟩
      have B3 := hmk (B1.out.trans (b3.mono B1.out.size))
      have CB := hmk (h3 w3 B3.out).2
      clear b3 CA h3
      go_wp2_with fail
      refine CB.out.mono ?_
      rintro e w4 ⟨rfl, b4⟩
      have B4 := hmk (B3.out.trans (b4.mono B3.out.size))
      have CSM : Hid (Calls Tryz.prog 15 #[.slice none 0 0, .slice none 0 0] w4 (BPost true w4)) := same_any [] false false (fun _ => False) (fun _ => False) none none 0 0 0 0 0 0 w4 head_nilS head_nilS (fun j hj => by simp at hj) (fun j hj => by simp at hj) (fun y hy => hy.elim) (fun y hy => hy.elim)
      clear b4 CB
      go_wp2_with (first | (go_at_call 15; refine CSM.out.mono ?_; rintro e w5 ⟨rfl, b5⟩; have B5 := hmk (B4.out.trans (b5.mono B4.out.size)); clear b5) | (go_at_call 20; refine (CX.out _).mono ?_; rintro e wx ⟨rfl, hwx⟩; obtain rfl := hwx.symm) | fail)
      clear CSM
      rcases H2 with ⟨l6, h6⟩ | ⟨z6, h6⟩
      · have CA := hmk (h6 w5 B5.out).1
        refine CA.out.mono ?_
        rintro e w6 ⟨a6, c6, b6', o6, rfl, hh6, hl6, b6⟩
        have B6 := hmk (B5.out.trans (b6.mono B5.out.size))
        have HH6 := hmk hh6
        have HL6 : Hid (∀ W, Below w6.heap.size w6 W → liesT false W (New w5 w6) l6 b6' o6 ∧ ∀ y, New w5 w6 y → y < W.heap.size) := fun W hW => ⟨hl6.keep (fun h => h) (fun y hy => hW.block y hy.2) (fun _ h => h), fun y hy => Nat.lt_of_lt_of_le hy.2 hW.size⟩
        have CB := hmk (h6 w6 B6.out).2
        clear b6 CA hh6 hl6 h6
        go_wp2_with (first | (go_at_call 20; refine (CX.out _).mono ?_; rintro e wx ⟨rfl, hwx⟩; obtain rfl := hwx.symm) | fail)
        refine CB.out.mono ?_
        rintro e w7 ⟨a7, c7, b7', o7, rfl, hh7, hl7, b7⟩
        have B7 := hmk (B6.out.trans (b7.mono B6.out.size))
        have CSM := hmk (same_any l6 false false _ _ a6 a7 c6 c7 b6' b7' o6 o7 w7 HH6.out hh7 (HL6.out w7 b7).1 hl7 (HL6.out w7 b7).2 (fun y hy => hy.2))
        clear b7 CB hh7 hl7
        go_wp2_with (first | (go_at_call 15; refine CSM.out.mono ?_; rintro e w8 ⟨rfl, b8⟩) | fail)
        go_ret
        exact ⟨rfl, B7.out.trans (b8.mono B7.out.size)⟩
      · have CA := hmk (h6 w5 B5.out).1
        refine CA.out.mono ?_
        rintro e w6 ⟨rfl, b6⟩
        have B6 := hmk (B5.out.trans (b6.mono B5.out.size))
        have CB := hmk (h6 w6 B6.out).2
        clear b6 CA h6
        go_wp2_with (first | (go_at_call 20; refine (CX.out _).mono ?_; rintro e wx ⟨rfl, hwx⟩; obtain rfl := hwx.symm) | fail)
        refine CB.out.mono ?_
        rintro e w7 ⟨rfl, b7⟩
        have B7 := hmk (B6.out.trans (b7.mono B6.out.size))
        have CSM : Hid (Calls Tryz.prog 15 #[.slice none 0 0, .slice none 0 0] w7 (BPost true w7)) := same_any [] false false (fun _ => False) (fun _ => False) none none 0 0 0 0 0 0 w7 head_nilS head_nilS (fun j hj => by simp at hj) (fun j hj => by simp at hj) (fun y hy => hy.elim) (fun y hy => hy.elim)
        clear b7 CB
        go_wp2_with (first | (go_at_call 15; refine CSM.out.mono ?_; rintro e w8 ⟨rfl, b8⟩) | fail)
        go_ret
        exact ⟨rfl, B7.out.trans (b8.mono B7.out.size)⟩
end Go.Proofs.YtolekldjbbjmjaaGreatDoor
