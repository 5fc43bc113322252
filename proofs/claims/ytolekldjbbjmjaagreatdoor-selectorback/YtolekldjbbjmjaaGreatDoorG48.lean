/- joined: AwkB BakC -/
import Derived.Test.YtolekldjbbjmjaaGreatDoorG47
import Derived.Test.YtolekldjbbjmjaaGreatDoorBakB
/- awake answers true. -/
set_option linter.unusedSimpArgs false
set_option linter.unusedVariables false
namespace Go.Proofs.YtolekldjbbjmjaaGreatDoor
open Go.RowKit Go.Lib
theorem liesT_take {R : Bool} {w : World} {S : Nat → Prop} {l : List Trm} {b o : Nat} (h : liesT R w S l b o) (i : Nat) : liesT R w S (l.take i) b o := fun j hj => by
  rw [List.length_take] at hj
  obtain ⟨h1, cs, h2, h3⟩ := h j (by omega)
  exact ⟨h1, cs, h2, by rw [List.getElem_take]; exact h3⟩
theorem head_take {a : Option Addr} {n c b o : Nat} (h : Headed a n c b o) {i : Nat} (hi : i ≤ n) : Headed a i c b o := ⟨Nat.le_trans hi h.le, h.max, by
  rcases h.at_ with e | e
  · left; omega
  · exact .inr e, h.nil⟩
theorem num_any (z : Int) (w : World) : Calls Tryz.prog 12 #[.int .i64 z] w (fun e w' => e = .returned (.int .i64 z) ∧ w' = w) := by
  go_enter Tryz.func12, Tryz.ntmps12
  go_wp2_with fail
  go_ret
  exact ⟨rfl, rfl⟩
theorem eq_lit {X : ByteArray} {l : List UInt8} (h : X = ⟨l.toArray⟩) : (X.toList == l) = true := by
  subst h
  rw [ByteArray.toList_eq]
  simp
/-- one label in a block of its own -/
theorem one_label (W : World) (k s : ByteArray) (hk : k.size ≤ 100) (hs : s.size ≤ 100) : liesM false (W.alloc (.cells #[.string k, .int .i64 3, .bool false, .int .i64 0, .string s, .slice none 0 0, .slice none 0 0] 53)) (fun y => y = W.heap.size) [(k, .mk 3 false 0 s [] [])] W.heap.size 0 := by
  have hT := heap_alloc_new W (.cells #[.string k, .int .i64 3, .bool false, .int .i64 0, .string s, .slice none 0 0, .slice none 0 0] 53)
  rw [liesM]
  refine ⟨rfl, ⟨by unfold maxLen; omega, _, fun j u hu => ?_, plain_lies (by unfold In64; omega) (by unfold In64; omega) (by omega) _ _⟩, by rw [liesM]; trivial⟩
  rw [cell_of_block hT, Nat.zero_add]
  simpa using hu
abbrev akM (s : ByteArray) : Obj := .cells #[.string ⟨#[97]⟩, .int .i64 3, .bool false, .int .i64 0, .string s, .slice none 0 0, .slice none 0 0] 53
set_option maxHeartbeats 16000000 in
set_option maxRecDepth 100000 in
theorem awake_any (w : World) (t : Tq w) : Calls Tryz.prog 9 #[] w (BPost true w) := by
  have C1 := parse_any awT w t (by decide)
  rw [aw_par] at C1
  have HTQ : Hid (∀ W, Below w.heap.size w W → Tq W) := fun W b => t.below b t.z
  have C1 := hmk C1
  have CN0 := num_any 0
  have HPR : Hid (∀ (l : List Trm) (S : Nat → Prop) (a : Option Addr) (c b o : Nat) (W : World), Below w.heap.size w W → Headed a l.length c b o → liesT false W S l b o → (∀ y, S y → y < W.heap.size) → wtT l ≤ 2147483647 → errN l = 0 →
      Calls Tryz.prog 10 #[.slice a l.length c] W (fun e w' => e = .returned (.tuple #[.string (textL l), .int .i64 0]) ∧ Below W.heap.size W w')) := fun l S a c b o W hb h1 h2 h3 h4 h5 => by
    have c := print_any l false S a c b o W h1 h2 h3 h4 (HTQ.out W hb).t
    unfold PnPost at c
    rw [h5] at c
    exact c
  have HSI : Hid (∀ (S : Nat → Prop) (a : Option Addr) (c b o : Nat) (W : World), Below w.heap.size w W → Headed a 3 c b o → liesT false W S awL b o → (∀ y, S y → y < W.heap.size) →
      Calls Tryz.prog 14 #[.slice a 2 c] W (fun e w' => ∃ a2 c2 b2 o2, e = .returned (.tuple #[.slice a2 1 c2, .bool true]) ∧ Headed a2 1 c2 b2 o2 ∧ liesT false w' (New W w') awS b2 o2 ∧ Below W.heap.size W w')) := fun S a c b o W hb h1 h2 h3 => by
    have c := simp_any (awL.take 2) false S a c b o W (head_take h1 (by decide)) (liesT_take h2 2) h3 (by decide) (HTQ.out W hb).t.t
    rw [aw_simp] at c
    exact c
  have HMA : Hid (∀ (l : List Trm) (s : ByteArray) (r : Bool) (S : Nat → Prop) (a : Option Addr) (c b o : Nat) (W : World), Below w.heap.size w W → Headed a l.length c b o → liesT false W S l b o → (∀ y, S y → y < W.heap.size) → wtT l ≤ 2147483647 → s.size ≤ 100 → matchB l (awM s) = r →
      Calls Tryz.prog 13 #[.slice a l.length c, .slice (some ⟨W.heap.size, 0, none⟩) 1 1] (W.alloc (akM s)) (fun e w' => e = .returned (.bool r) ∧ Below W.heap.size W w')) := fun l s r S a c b o W hb h1 h2 h3 h4 h5 h6 => by
    have bA : Below W.heap.size W (W.alloc (akM s)) := (Below.refl _ _).alloc (Nat.le_refl _) _
    have c := match_any l (awM s) false false S (fun y => y = W.heap.size) a c b o (some ⟨W.heap.size, 0, none⟩) 1 W.heap.size 0 (W.alloc (akM s)) h1 (h2.keep (fun h => h) (fun y hy => bA.block y (h3 y hy)) (fun _ h => h)) (fun y hy => Nat.lt_of_lt_of_le (h3 y hy) bA.size)
      ⟨Nat.le_refl _, by decide, .inr rfl, fun h => by cases h⟩ (one_label W _ s (by decide) h5) (fun y hy => by rw [hy, alloc_size]; omega) (by show 1 ≤ 2147483647; decide) h4 (HTQ.out _ (hb.trans (bA.mono hb.size))).t.t
    refine c.mono ?_
    rintro e w' ⟨rfl, b⟩
    exact ⟨by rw [h6], bA.trans (b.mono bA.size)⟩
  clear t
  go_enter Tryz.func9, Tryz.ntmps9
  go_wp2_with fail
  refine C1.out.mono ?_
  rintro e w1 (⟨l, u, S, h1, rfl, h3, h4, b1⟩ | ⟨h1, _⟩)
  case inr => cases h1
  obtain rfl : awL = l := Option.some.inj h1
  obtain ⟨a, c, b, o, rfl, hh, hl⟩ := own_terms h3
  have B1 := hmk b1
  have hh : Headed a 3 c b o := hh
  obtain rfl : a = some ⟨b, o, none⟩ := hh.at_.resolve_left (by decide)
  have HH := hmk hh
  have HL : Hid (∀ W, Below w1.heap.size w1 W → liesT false W (New w w1) awL b o ∧ ∀ y, New w w1 y → y < W.heap.size) := fun W hW => ⟨hl.keep (fun h => h) (fun y hy => hW.block y hy.2) (fun _ h => h), fun y hy => Nat.lt_of_lt_of_le hy.2 hW.size⟩
  have q : ∃ K : ByteArray, w1.cell? ⟨b, o + 6, none⟩ = some (.string K) ∧ (K.toList == [98, 32, 99]) = true := by
    obtain ⟨_, cs, hr, h5⟩ := hl 2 (by decide)
    obtain ⟨a2, c2, b2, o2, e, _⟩ := h5
    subst e
    exact ⟨_, hr 0 _ rfl, eq_lit rfl⟩
  obtain ⟨K, qK, hK⟩ := q
  have yc : (3 : Int) ≤ c := by have := hh.le; omega
  have hmx := hh.max
  have CP1 := hmk (HPR.out awL _ _ c b o w1 B1.out hh hl (fun y hy => hy.2) (by decide) aw_err)
  obtain ⟨X, hX⟩ : ∃ X, X = textL awL := ⟨_, rfl⟩
  rw [← hX] at CP1
  have hXL := eq_lit (hX.trans aw_text)
  clear h1 h3 h4 hl hh b1 hX
  have CP1 : Hid (Calls Tryz.prog 10 #[.slice (some ⟨b, o, none⟩) 3 c] w1 (fun e w' => e = .returned (.tuple #[.string X, .int .i64 0]) ∧ Below w1.heap.size w1 w')) := CP1
  go_wp2_with (first | (go_at_call 12; refine (CN0 _).mono ?_; rintro e wn ⟨rfl, rfl⟩) | fail)
  refine CP1.out.mono ?_
  rintro e w2 ⟨rfl, b2⟩
  have B2 := hmk (B1.out.trans (b2.mono B1.out.size))
  have B12 := hmk b2
  have CS := hmk (HSI.out _ _ c b o w2 B2.out HH.out (HL.out w2 b2).1 (HL.out w2 b2).2)
  clear b2 CP1 qK
  go_wp2_with fail
  refine CS.out.mono ?_
  rintro e w3 ⟨a3, c3, b3, o3, rfl, hh3, hl3, b23⟩
  have B3 := hmk (B2.out.trans (b23.mono B2.out.size))
  have B13 := hmk (B12.out.trans (b23.mono B12.out.size))
  have CP2 := hmk (HPR.out awS _ a3 c3 b3 o3 w3 B3.out hh3 hl3 (fun y hy => hy.2) (by decide) aw_err2)
  obtain ⟨Y, hY⟩ : ∃ Y, Y = textL awS := ⟨_, rfl⟩
  rw [← hY] at CP2
  have hYL := eq_lit (hY.trans aw_text2)
  have CP2 : Hid (Calls Tryz.prog 10 #[.slice a3 1 c3] w3 (fun e w' => e = .returned (.tuple #[.string Y, .int .i64 0]) ∧ Below w3.heap.size w3 w')) := CP2
  have HH3 := hmk hh3
  have HL3 : Hid (∀ W, Below w3.heap.size w3 W → liesT false W (New w2 w3) awS b3 o3 ∧ ∀ y, New w2 w3 y → y < W.heap.size) := fun W hW => ⟨hl3.keep (fun h => h) (fun y hy => hW.block y hy.2) (fun _ h => h), fun y hy => Nat.lt_of_lt_of_le hy.2 hW.size⟩
  clear hh3 hl3 b23 CS hY
  go_wp2_with fail
  refine CP2.out.mono ?_
  rintro e w4 ⟨rfl, b34⟩
  have B4 := hmk (B3.out.trans (b34.mono B3.out.size))
  have B14 := hmk (B13.out.trans (b34.mono B13.out.size))
  have CM1 : Hid (Calls Tryz.prog 13 #[.slice a3 1 c3, .slice (some ⟨w4.heap.size, 0, none⟩) 1 1] (w4.alloc (akM ⟨#[121]⟩)) (fun e w' => e = .returned (.bool true) ∧ Below w4.heap.size w4 w')) := HMA.out awS ⟨#[121]⟩ true _ a3 c3 b3 o3 w4 B4.out HH3.out (HL3.out w4 b34).1 (HL3.out w4 b34).2 (by decide) (by decide) aw_yes
  clear b34 CP2
  go_wp2_with fail
  refine CM1.out.mono ?_
  rintro e w5 ⟨rfl, b45⟩
  have B5 := hmk (B4.out.trans (b45.mono B4.out.size))
  have B15 := hmk (B14.out.trans (b45.mono B14.out.size))
  have CM2 : Hid (Calls Tryz.prog 13 #[.slice (some ⟨b, o, none⟩) 3 c, .slice (some ⟨w5.heap.size, 0, none⟩) 1 1] (w5.alloc (akM ⟨#[120]⟩)) (fun e w' => e = .returned (.bool false) ∧ Below w5.heap.size w5 w')) := HMA.out awL ⟨#[120]⟩ false _ _ c b o w5 B5.out HH.out (HL.out w5 B15.out).1 (HL.out w5 B15.out).2 (by decide) (by decide) aw_no
  clear b45 CM1
  go_wp2_with fail
  refine CM2.out.mono ?_
  rintro e w6 ⟨rfl, b56⟩
  have B6 := hmk (B5.out.trans (b56.mono B5.out.size))
  clear b56 CM2
  go_wp2_with (first | (go_at_call 12; refine (CN0 _).mono ?_; rintro e wn ⟨rfl, rfl⟩) | fail)
  go_ret
  exact ⟨rfl, B6.out⟩
end Go.Proofs.YtolekldjbbjmjaaGreatDoor
/- SelectorBack: the law's own walk. -/
namespace Go.Proofs.YtolekldjbbjmjaaGreatDoor
open Go.RowKit Go.Lib
set_option maxHeartbeats 16000000 in
set_option maxRecDepth 100000 in
theorem back_walk (l : List Trm) (al : Option Addr) (cl bl ol : Nat) (w : World) (hT : Tq w)
    (hh : Headed al l.length cl bl ol) (hl : liesT false w (Old w) l bl ol) :
    Calls Tryz.prog 5 #[.slice al l.length cl] w (BPost true w) := by
  have HH := hmk hh
  have HL : Hid (∀ W, Below w.heap.size w W → liesT false W (Old w) l bl ol) := fun W hW => hl.keep (fun h => h) (fun y hy => hW.block y hy) (fun _ h => h)
  have HTQ : Hid (∀ W, Below w.heap.size w W → Tq W) := fun W hW => hT.below hW hT.z
  have HOLD : Hid (∀ W, Below w.heap.size w W → ∀ y, Old w y → y < W.heap.size) := fun W hW y hy => Nat.lt_of_lt_of_le hy hW.size
  have H0 := hmk (terms_any l false (Old w) al cl bl ol w hh hl (fun y hy => hy))
  have CN := num_any
  clear hh hl hT
  go_enter Tryz.func5, Tryz.ntmps5
  go_wp2_with fail
  refine H0.out.mono ?_
  rintro e w1 ⟨r, rfl, hr, b1⟩
  have B1 := hmk b1
  cases r with
  | true =>
    go_wp2_with fail
    go_ret
    exact ⟨rfl, B1.out⟩
  | false =>
    have HWT : Hid (wtT l ≤ 2147483647) := hr rfl
    clear hr b1 H0
    have CA := hmk (awake_any w1 (HTQ.out _ B1.out))
    go_wp2_with fail
    refine CA.out.mono ?_
    rintro e w2 ⟨rfl, b2⟩
    have B2 := hmk (B1.out.trans (b2.mono B1.out.size))
    have CP := print_any l false (Old w) al cl bl ol w2 HH.out (HL.out _ B2.out) (HOLD.out _ B2.out) HWT.out (HTQ.out _ B2.out).t
    clear b2 CA
    cases hg : l.all goodB with
    | false =>
      have hs : simplV l = none := by unfold simplV; rw [hg]; rfl
      have hm : matchB l [] = false := by unfold matchB; rw [hg]; rfl
      have CP : Hid (Calls Tryz.prog 10 #[.slice al l.length cl] w2 (fun e w' => e = .returned (.tuple #[.string ⟨#[]⟩, .int .i64 200]) ∧ Below w2.heap.size w2 w')) := by
        unfold PnPost textL errN at CP
        rw [hg] at CP
        exact CP
      go_wp2_with fail
      refine CP.out.mono ?_
      rintro e w3 ⟨rfl, b3⟩
      have B3 := hmk (B2.out.trans (b3.mono B2.out.size))
      have CS := simp_any l false (Old w) al cl bl ol w3 HH.out (HL.out _ B3.out) (HOLD.out _ B3.out) HWT.out (HTQ.out _ B3.out).t.t
      rw [hs] at CS
      have CS : Hid (Calls Tryz.prog 14 #[.slice al l.length cl] w3 (fun e w' => ∃ a c b o, e = .returned (.tuple #[.slice a 0 c, .bool false]) ∧ Headed a 0 c b o ∧ liesT false w' (New w3 w') [] b o ∧ Below w3.heap.size w3 w')) := CS
      clear b3 CP hg hs
      go_wp2_with (first | (go_at_call 12; refine (CN _ _).mono ?_; rintro e wn ⟨rfl, rfl⟩) | fail)
      refine CS.out.mono ?_
      rintro e w4 ⟨a4, c4, b4', o4, rfl, _, _, b4⟩
      have B4 := hmk (B3.out.trans (b4.mono B3.out.size))
      have CM := match_any l [] false false (Old w) (fun _ => False) al cl bl ol none 0 0 0 w4 HH.out (HL.out _ B4.out) (HOLD.out _ B4.out) head_nilS (by first | trivial | simp [liesM]) (fun y hy => hy.elim) (by simp) HWT.out (HTQ.out _ B4.out).t.t
      rw [hm] at CM
      have CM : Hid (Calls Tryz.prog 13 #[.slice al l.length cl, .slice none 0 0] w4 (BPost false w4)) := CM
      clear b4 CS
      go_wp2_with (first | (go_at_call 12; refine (CN _ _).mono ?_; rintro e wn ⟨rfl, rfl⟩) | (go_at_call 13; refine CM.out.mono ?_; rintro e w5 ⟨rfl, b5⟩) | fail)
      go_ret
      exact ⟨rfl, B4.out.trans (b5.mono B4.out.size)⟩
    | true =>
      obtain ⟨X, hX⟩ : ∃ X, X = textL l := ⟨_, rfl⟩
      have CP : Hid (Calls Tryz.prog 10 #[.slice al l.length cl] w2 (fun e w' => e = .returned (.tuple #[.string X, .int .i64 0]) ∧ Below w2.heap.size w2 w')) := by
        unfold PnPost errN at CP
        rw [hg, ← hX] at CP
        exact CP
      have hXs : X.size ≤ 412 * wtT l := by
        have := printI_len (fun t ht => List.all_eq_true.1 hg t ht) l.length (Nat.le_refl _)
        rw [List.take_length] at this
        rw [hX]
        unfold textL
        rw [if_pos hg, bs_size]
        exact this
      have hwt := HWT.out
      go_wp2_with fail
      refine CP.out.mono ?_
      rintro e w3 ⟨rfl, b3⟩
      have B3 := hmk (B2.out.trans (b3.mono B2.out.size))
      have CR := parse_any X w3 (HTQ.out _ B3.out) (by omega)
      clear b3 CP
      by_cases hb : 1048576 < X.size
      · have hp : parF X.data.toList = (none, 1048576) := by unfold parF; rw [if_pos (by simpa using hb)]
        rw [hp] at CR
        have CR : Hid (Calls Tryz.prog 17 #[.string X] w3 (fun e w' => e = .returned (.tuple #[.slice none 0 0, .int .i64 1048576, .int .i64 200]) ∧ Below w3.heap.size w3 w')) := CR.mono (by
          rintro e w' (⟨l', u, S, h1, _⟩ | ⟨_, rfl, h⟩)
          · cases h1
          · exact ⟨rfl, h⟩)
        have y : (X.size : Int) > 1048576 := by omega
        clear hp hX hg hXs hb hwt
        go_wp2_with (first | (go_at_call 12; refine (CN _ _).mono ?_; rintro e wn ⟨rfl, rfl⟩) | fail)
        refine CR.out.mono ?_
        rintro e w4 ⟨rfl, b4⟩
        have B4 := hmk (B3.out.trans (b4.mono B3.out.size))
        clear b4 CR
        go_wp2_with (first | (go_at_call 12; refine (CN _ _).mono ?_; rintro e wn ⟨rfl, rfl⟩) | fail)
        go_ret
        exact ⟨rfl, B4.out⟩
      · have hp := text_back hg (by rw [← hX]; omega)
        rw [← hX] at hp
        rw [hp] at CR
        have CR : Hid (Calls Tryz.prog 17 #[.string X] w3 (fun e w' => ∃ a c b o, e = .returned (.tuple #[.slice a l.length c, .int .i64 (-1), .int .i64 0]) ∧ Headed a l.length c b o ∧ liesT false w' (New w3 w') l b o ∧ Below w3.heap.size w3 w')) := CR.mono (by
          rintro e w' (⟨l', u, S, h1, rfl, h3, _, h5⟩ | ⟨h1, _⟩)
          · obtain rfl : l = l' := Option.some.inj h1
            obtain ⟨a, c, b, o, rfl, h6, h7⟩ := own_terms h3
            exact ⟨a, c, b, o, rfl, h6, h7, h5⟩
          · cases h1)
        have y : ¬ (X.size : Int) > 1048576 := by omega
        clear hp hX hg hXs hb hwt
        go_wp2_with (first | (go_at_call 12; refine (CN _ _).mono ?_; rintro e wn ⟨rfl, rfl⟩) | fail)
        refine CR.out.mono ?_
        rintro e w4 ⟨a4, c4, b4', o4, rfl, hh4, hl4, b4⟩
        have B4 := hmk (B3.out.trans (b4.mono B3.out.size))
        have CSM := hmk (same_any l false false _ _ a4 al c4 cl b4' bl o4 ol w4 hh4 HH.out hl4 (HL.out w4 B4.out) (fun y hy => hy.2) (HOLD.out w4 B4.out))
        clear b4 CR hh4 hl4
        go_wp2_with (first | (go_at_call 12; refine (CN _ _).mono ?_; rintro e wn ⟨rfl, rfl⟩) | (go_at_call 15; refine CSM.out.mono ?_; rintro e w5 ⟨rfl, b5⟩) | fail)
        go_ret
        exact ⟨rfl, B4.out.trans (b5.mono B4.out.size)⟩
end Go.Proofs.YtolekldjbbjmjaaGreatDoor
