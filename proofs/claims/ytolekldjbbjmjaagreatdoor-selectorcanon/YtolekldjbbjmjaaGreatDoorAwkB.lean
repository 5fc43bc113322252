import Derived.Test.YtolekldjbbjmjaaGreatDoorG45
/- awake answers true. -/
set_option linter.unusedSimpArgs false
set_option linter.unusedVariables false
namespace Go.Proofs.YtolekldjbbjmjaaGreatDoor
open Go.RowKit Go.Lib
theorem liesT_take {R : Bool} {w : World} {S : Nat → Prop} {l : List Trm} {b o : Nat} (h : liesT R w S l b o) (i : Nat) : liesT R w S (l.take i) b o := fun j hj => by
  rw [List.length_take] at hj
  obtain ⟨h1, cs, h2, h3⟩ := h j (by omega)
  exact ⟨h1, cs, h2, by rw [List.getElem_take]; exact h3⟩
theorem head_take {a : Option Addr} {n c b o : Nat} (h : Headed a n c b o) {i : Nat} (hi : i ≤ n) : Headed a i c b o := ⟨Nat.le_trans hi h.le, h.max, by
  rcases h.at_ with e | e
  · left; omega
  · exact .inr e, h.nil⟩
theorem num_any (z : Int) (w : World) : Calls Tryz.prog 12 #[.int .i64 z] w (fun e w' => e = .returned (.int .i64 z) ∧ w' = w) := by
  go_enter Tryz.func12, Tryz.ntmps12
  go_wp2_with fail
  go_ret
  exact ⟨rfl, rfl⟩
theorem eq_lit {X : ByteArray} {l : List UInt8} (h : X = ⟨l.toArray⟩) : (X.toList == l) = true := by
  subst h
  rw [ByteArray.toList_eq]
  simp
/-- one label in a block of its own -/
theorem one_label (W : World) (k s : ByteArray) (hk : k.size ≤ 100) (hs : s.size ≤ 100) : liesM false (W.alloc (.cells #[.string k, .int .i64 3, .bool false, .int .i64 0, .string s, .slice none 0 0, .slice none 0 0] 53)) (fun y => y = W.heap.size) [(k, .mk 3 false 0 s [] [])] W.heap.size 0 := by
  have hT := heap_alloc_new W (.cells #[.string k, .int .i64 3, .bool false, .int .i64 0, .string s, .slice none 0 0, .slice none 0 0] 53)
  rw [liesM]
  refine ⟨rfl, ⟨by unfold maxLen; omega, _, fun j u hu => ?_, plain_lies (by unfold In64; omega) (by unfold In64; omega) (by omega) _ _⟩, by rw [liesM]; trivial⟩
  rw [cell_of_block hT, Nat.zero_add]
  simpa using hu
abbrev akM (s : ByteArray) : Obj := .cells #[.string ⟨#[97]⟩, .int .i64 3, .bool false, .int .i64 0, .string s, .slice none 0 0, .slice none 0 0] 53
set_option maxHeartbeats 16000000 in
set_option maxRecDepth 100000 in
theorem awake_any (w : World) (t : Tq w) : Calls Tryz.prog 9 #[] w (BPost true w) := by
  have C1 := parse_any awT w t (by decide)
  rw [aw_par] at C1
  have HTQ : Hid (∀ W, Below w.heap.size w W → Tq W) := fun W b => t.below b t.z
  have C1 := hmk C1
  have CN0 := num_any 0
  have HPR : Hid (∀ (l : List Trm) (S : Nat → Prop) (a : Option Addr) (c b o : Nat) (W : World), Below w.heap.size w W → Headed a l.length c b o → liesT false W S l b o → (∀ y, S y → y < W.heap.size) → wtT l ≤ 2147483647 → errN l = 0 →
      Calls Tryz.prog 10 #[.slice a l.length c] W (fun e w' => e = .returned (.tuple #[.string (textL l), .int .i64 0]) ∧ Below W.heap.size W w')) := fun l S a c b o W hb h1 h2 h3 h4 h5 => by
    have c := print_any l false S a c b o W h1 h2 h3 h4 (HTQ.out W hb).t
    unfold PnPost at c
    rw [h5] at c
    exact c
  have HSI : Hid (∀ (S : Nat → Prop) (a : Option Addr) (c b o : Nat) (W : World), Below w.heap.size w W → Headed a 3 c b o → liesT false W S awL b o → (∀ y, S y → y < W.heap.size) →
      Calls Tryz.prog 14 #[.slice a 2 c] W (fun e w' => ∃ a2 c2 b2 o2, e = .returned (.tuple #[.slice a2 1 c2, .bool true]) ∧ Headed a2 1 c2 b2 o2 ∧ liesT false w' (New W w') awS b2 o2 ∧ Below W.heap.size W w')) := fun S a c b o W hb h1 h2 h3 => by
    have c := simp_any (awL.take 2) false S a c b o W (head_take h1 (by decide)) (liesT_take h2 2) h3 (by decide) (HTQ.out W hb).t.t
    rw [aw_simp] at c
    exact c
  have HMA : Hid (∀ (l : List Trm) (s : ByteArray) (r : Bool) (S : Nat → Prop) (a : Option Addr) (c b o : Nat) (W : World), Below w.heap.size w W → Headed a l.length c b o → liesT false W S l b o → (∀ y, S y → y < W.heap.size) → wtT l ≤ 2147483647 → s.size ≤ 100 → matchB l (awM s) = r →
      Calls Tryz.prog 13 #[.slice a l.length c, .slice (some ⟨W.heap.size, 0, none⟩) 1 1] (W.alloc (akM s)) (fun e w' => e = .returned (.bool r) ∧ Below W.heap.size W w')) := fun l s r S a c b o W hb h1 h2 h3 h4 h5 h6 => by
    have bA : Below W.heap.size W (W.alloc (akM s)) := (Below.refl _ _).alloc (Nat.le_refl _) _
    have c := match_any l (awM s) false false S (fun y => y = W.heap.size) a c b o (some ⟨W.heap.size, 0, none⟩) 1 W.heap.size 0 (W.alloc (akM s)) h1 (h2.keep (fun h => h) (fun y hy => bA.block y (h3 y hy)) (fun _ h => h)) (fun y hy => Nat.lt_of_lt_of_le (h3 y hy) bA.size)
      ⟨Nat.le_refl _, by decide, .inr rfl, fun h => by cases h⟩ (one_label W _ s (by decide) h5) (fun y hy => by rw [hy, alloc_size]; omega) (by show 1 ≤ 2147483647; decide) h4 (HTQ.out _ (hb.trans (bA.mono hb.size))).t.t
    refine c.mono ?_
    rintro e w' ⟨rfl, b⟩
    exact ⟨by rw [h6], bA.trans (b.mono bA.size)⟩
  clear t
  go_enter Tryz.func9, Tryz.ntmps9
  go_wp2_with fail
  refine C1.out.mono ?_
  rintro e w1 (⟨l, u, S, h1, rfl, h3, h4, b1⟩ | ⟨h1, _⟩)
  case inr => cases h1
  obtain rfl : awL = l := Option.some.inj h1
  obtain ⟨a, c, b, o, rfl, hh, hl⟩ := own_terms h3
  have B1 := hmk b1
  have hh : Headed a 3 c b o := hh
  obtain rfl : a = some ⟨b, o, none⟩ := hh.at_.resolve_left (by decide)
  have HH := hmk hh
  have HL : Hid (∀ W, Below w1.heap.size w1 W → liesT false W (New w w1) awL b o ∧ ∀ y, New w w1 y → y < W.heap.size) := fun W hW => ⟨hl.keep (fun h => h) (fun y hy => hW.block y hy.2) (fun _ h => h), fun y hy => Nat.lt_of_lt_of_le hy.2 hW.size⟩
  have q : ∃ K : ByteArray, w1.cell? ⟨b, o + 6, none⟩ = some (.string K) ∧ (K.toList == [98, 32, 99]) = true := by
    obtain ⟨_, cs, hr, h5⟩ := hl 2 (by decide)
    obtain ⟨a2, c2, b2, o2, e, _⟩ := h5
    subst e
    exact ⟨_, hr 0 _ rfl, eq_lit rfl⟩
  obtain ⟨K, qK, hK⟩ := q
  have yc : (3 : Int) ≤ c := by have := hh.le; omega
  have hmx := hh.max
  have CP1 := hmk (HPR.out awL _ _ c b o w1 B1.out hh hl (fun y hy => hy.2) (by decide) aw_err)
  obtain ⟨X, hX⟩ : ∃ X, X = textL awL := ⟨_, rfl⟩
  rw [← hX] at CP1
  have hXL := eq_lit (hX.trans aw_text)
  clear h1 h3 h4 hl hh b1 hX
  have CP1 : Hid (Calls Tryz.prog 10 #[.slice (some ⟨b, o, none⟩) 3 c] w1 (fun e w' => e = .returned (.tuple #[.string X, .int .i64 0]) ∧ Below w1.heap.size w1 w')) := CP1
  go_wp2_with (first | (go_at_call 12; refine (CN0 _).mono ?_; rintro e wn ⟨rfl, rfl⟩) | fail)
  refine CP1.out.mono ?_
  rintro e w2 ⟨rfl, b2⟩
  have B2 := hmk (B1.out.trans (b2.mono B1.out.size))
  have B12 := hmk b2
  have CS := hmk (HSI.out _ _ c b o w2 B2.out HH.out (HL.out w2 b2).1 (HL.out w2 b2).2)
  clear b2 CP1 qK
  go_wp2_with fail
  refine CS.out.mono ?_
  rintro e w3 ⟨a3, c3, b3, o3, rfl, hh3, hl3, b23⟩
  have B3 := hmk (B2.out.trans (b23.mono B2.out.size))
  have B13 := hmk (B12.out.trans (b23.mono B12.out.size))
  have CP2 := hmk (HPR.out awS _ a3 c3 b3 o3 w3 B3.out hh3 hl3 (fun y hy => hy.2) (by decide) aw_err2)
  obtain ⟨Y, hY⟩ : ∃ Y, Y = textL awS := ⟨_, rfl⟩
  rw [← hY] at CP2
  have hYL := eq_lit (hY.trans aw_text2)
  have CP2 : Hid (Calls Tryz.prog 10 #[.slice a3 1 c3] w3 (fun e w' => e = .returned (.tuple #[.string Y, .int .i64 0]) ∧ Below w3.heap.size w3 w')) := CP2
  have HH3 := hmk hh3
  have HL3 : Hid (∀ W, Below w3.heap.size w3 W → liesT false W (New w2 w3) awS b3 o3 ∧ ∀ y, New w2 w3 y → y < W.heap.size) := fun W hW => ⟨hl3.keep (fun h => h) (fun y hy => hW.block y hy.2) (fun _ h => h), fun y hy => Nat.lt_of_lt_of_le hy.2 hW.size⟩
  clear hh3 hl3 b23 CS hY
  go_wp2_with fail
  refine CP2.out.mono ?_
  rintro e w4 ⟨rfl, b34⟩
  have B4 := hmk (B3.out.trans (b34.mono B3.out.size))
  have B14 := hmk (B13.out.trans (b34.mono B13.out.size))
  have CM1 : Hid (Calls Tryz.prog 13 #[.slice a3 1 c3, .slice (some ⟨w4.heap.size, 0, none⟩) 1 1] (w4.alloc (akM ⟨#[121]⟩)) (fun e w' => e = .returned (.bool true) ∧ Below w4.heap.size w4 w')) := HMA.out awS ⟨#[121]⟩ true _ a3 c3 b3 o3 w4 B4.out HH3.out (HL3.out w4 b34).1 (HL3.out w4 b34).2 (by decide) (by decide) aw_yes
  clear b34 CP2
  go_wp2_with fail
  refine CM1.out.mono ?_
  rintro e w5 ⟨rfl, b45⟩
  have B5 := hmk (B4.out.trans (b45.mono B4.out.size))
  have B15 := hmk (B14.out.trans (b45.mono B14.out.size))
  have CM2 : Hid (Calls Tryz.prog 13 #[.slice (some ⟨b, o, none⟩) 3 c, .slice (some ⟨w5.heap.size, 0, none⟩) 1 1] (w5.alloc (akM ⟨#[120]⟩)) (fun e w' => e = .returned (.bool false) ∧ Below w5.heap.size w5 w')) := HMA.out awL ⟨#[120]⟩ false _ _ c b o w5 B5.out HH.out (HL.out w5 B15.out).1 (HL.out w5 B15.out).2 (by decide) (by decide) aw_no
  clear b45 CM1
  go_wp2_with fail
  refine CM2.out.mono ?_
  rintro e w6 ⟨rfl, b56⟩
  have B6 := hmk (B5.out.trans (b56.mono B5.out.size))
  clear b56 CM2
  go_wp2_with (first | (go_at_call 12; refine (CN0 _).mono ?_; rintro e wn ⟨rfl, rfl⟩) | fail)
  go_ret
  exact ⟨rfl, B6.out⟩
end Go.Proofs.YtolekldjbbjmjaaGreatDoor
