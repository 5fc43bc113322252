import Derived.Test.YtolekldjbbjmjaaGreatDoorG40
/- writing a term to a builder. -/
set_option linter.unusedSimpArgs false
set_option linter.unusedVariables false
namespace Go.Proofs.YtolekldjbbjmjaaGreatDoor
open Go.RowKit Go.Lib
theorem good_opP {t : Trm} (h : goodB t = true) : ((t.2.1 = 1 ∨ t.2.1 = 2) ∧ t.2.2.length = 0) ∨ ((t.2.1 = 3 ∨ t.2.1 = 4) ∧ 0 < t.2.2.length) := by
  unfold goodB at h
  rw [Bool.and_eq_true] at h
  have h2 := h.2
  split at h2
  · rename_i h3; exact .inl ⟨h3, of_decide_eq_true h2⟩
  · split at h2
    · rename_i h3
      rw [Bool.and_eq_true] at h2
      exact .inr ⟨h3, of_decide_eq_true h2.1⟩
    · cases h2
theorem box_kept {b X : Nat} {cs : Array Value} {w w' : World} (k : OthersKept 5 (some b) w w') (h : w.heap[X]? = some (.cells cs 35)) (hX : X ≠ b) : w'.heap[X]? = some (.cells cs 35) :=
  k X _ h (fun e => hX (Option.some.inj e)) (fun c fz e => by simp at e)
theorem termL_vals {key : ByteArray} {op : Int} {l : List ByteArray} (h1 : op ≠ 1) (h2 : op ≠ 2) : termL (key, op, l) = wordL key ++ valsT (signL op) (nameL op) l := by
  unfold termL valsT
  simp only
  rw [if_neg h1, if_neg h2]
  split <;> simp
set_option maxHeartbeats 8000000 in
set_option maxRecDepth 100000 in
theorem writeterm_any (B b : Nat) (L : List UInt8) (key : ByteArray) (op : Int) (l : List ByteArray) (S : Nat → Prop) (a : Option Addr) (c bb o : Nat) (w : World) (h : Bd B b L w) (hB : B ≤ w.heap.size) (hB2 : 2 < B) (hbw : b < w.heap.size) (hT : Tl w)
    (hh : Headed a l.length c bb o) (hl : liesS w S l bb o) (hS : ∀ y, S y → y < B) (hg : goodB (key, op, l) = true) (hm : l.length ≤ 2147483647) (hL : L.length ≤ 900000000000) :
    Calls Tryz.prog 24 #[.pointer (some ⟨b, 0, none⟩), .agg #[.string key, .int .i64 op, .slice a l.length c]] w (fun e w' => e = .returned (.tuple #[]) ∧ Bd B b (L ++ termL (key, op, l)) w' ∧ Below B w w' ∧ OthersKept 5 (some b) w w') := by
  obtain ⟨hk, hf⟩ := good_fine hg
  dsimp only at hk hf
  have hops := good_opP hg
  dsimp only at hops
  have HWT := hmk (fun W (hW : Tl W) => wordtext_any key hk.1 hk.2 W hW)
  have HWK : Hid (wordS key = bsP (wordL key)) := rfl
  have hkl := wordL_len hk.1
  have b0 : Below B w (w.alloc (.cells #[.string key, .int .i64 op, .slice a l.length c] 35)) := (Below.refl _ _).alloc (by omega) _
  have k0 : OthersKept 5 (some b) w (w.alloc (.cells #[.string key, .int .i64 op, .slice a l.length c] 35)) := (OthersKept.refl _ _ _).alloc _
  have HP0 : Hid (Bd B b L (w.alloc (.cells #[.string key, .int .i64 op, .slice a l.length c] 35))) := Bd.below h ((Below.refl _ _).alloc (Nat.le_refl _) _)
  have hx0 := heap_alloc_new w (.cells #[.string key, .int .i64 op, .slice a l.length c] 35)
  have XB : Hid (∀ W : World, OthersKept 5 (some b) (w.alloc (.cells #[.string key, .int .i64 op, .slice a l.length c] 35)) W → W.cell? ⟨w.heap.size, 0, none⟩ = some (.string key) ∧ W.cell? ⟨w.heap.size, 1, none⟩ = some (.int .i64 op) ∧ W.cell? ⟨w.heap.size, 2, none⟩ = some (.slice a l.length c)) := fun W hW => by
    have hx := box_kept hW hx0 (by omega)
    exact ⟨by rw [cell_of_block hx]; rfl, by rw [cell_of_block hx]; rfl, by rw [cell_of_block hx]; rfl⟩
  have HT : Hid (∀ W, Below B w W → Tl W) := fun W hW => hT.below hW hB2
  have CV : Hid (∀ W L', Below B w W → Bd B b L' W → L'.length ≤ 1000000000000 → 0 < l.length → ∀ sg nm : List UInt8, sg.length ≤ 8 → nm.length ≤ 8 → Calls Tryz.prog 45 #[.pointer (some ⟨b, 0, none⟩), .slice a l.length c, .string (bsP sg), .string (bsP nm)] W (fun e w' => e = .returned (.tuple #[]) ∧ Bd B b (L' ++ valsT sg nm l) w' ∧ Below B W w' ∧ OthersKept 5 (some b) W w')) := fun W L' hW hb hl' hp sg nm hs hn =>
    writevals_any B b L' sg nm l S a c bb o W hb (Nat.le_trans hB hW.size) hB2 (HT.out W hW) hh (hl.keep (fun y hy => hW.block y (hS y hy)) (fun _ h => h)) hS hf hm hp hl' hs hn
  obtain ⟨v0, v1, v2⟩ := XB.out _ (OthersKept.refl _ _ _)
  obtain ⟨kw, hkw⟩ : ∃ kw, wordL key = kw := ⟨_, rfl⟩
  have HB0 := hmk b0
  have HK0 := hmk k0
  rcases hops with ⟨rfl | rfl, hlz⟩ | ⟨rfl | rfl, hlp⟩
  · have HTM : Hid (termL (key, 1, l) = kw) := by show _ = _; rw [← hkw]; rfl
    rw [hkw] at HWK hkl
    clear hkw b0 k0 hx0 h hh hl hS hf hk hg hlz
    have KP := OthersKept.refl 5 (some b) (w.alloc (.cells #[.string key, .int .i64 1, .slice a l.length c] 35))
    have HP := HP0.out
    go_enter Tryz.func24, Tryz.ntmps24
    have C1 := hmk (HWT.out (w.alloc (.cells #[.string key, .int .i64 1, .slice a l.length c] 35)) (HT.out _ HB0.out))
    go_wp2_with fail
    refine C1.out.mono ?_
    rintro e w2 ⟨rfl, b2⟩
    rw [HWK.out]
    have hz2 := b2.size
    have B2 : Below B w w2 := HB0.out.trans (b2.mono (by have := HB0.out.size; omega))
    have K2 := KP.trans (ok_below (b := some b) b2)
    have C2 := hmk (ws_any B b L kw w2 (Bd.below HP b2) (by omega) (by have := B2.size; omega))
    clear C1
    go_wp2_with fail
    refine C2.out.mono ?_
    rintro e w3 ⟨rfl, h3, b3, k3⟩
    have B3 : Below B w w3 := B2.trans b3
    have K3 := K2.trans k3
    obtain ⟨v0, v1, v2⟩ := XB.out _ K3
    clear C2
    go_wp2_with fail
    go_end0
    exact ⟨rfl, by rw [HTM.out]; exact h3, B3, HK0.out.trans K3⟩
  · have HTM : Hid (termL (key, 2, l) = [33] ++ kw) := by show _ = _; rw [← hkw]; rfl
    rw [hkw] at HWK hkl
    clear hkw b0 k0 hx0 h hh hl hS hf hk hg hlz
    have C0 := hmk (wb_any B b L 33 (by omega) (w.alloc (.cells #[.string key, .int .i64 2, .slice a l.length c] 35)) HP0.out (by omega) (by rw [alloc_size]; omega))
    go_enter Tryz.func24, Tryz.ntmps24
    go_wp2_with fail
    refine C0.out.mono ?_
    rintro e w1 ⟨rfl, h1, b1, k1⟩
    have B1 : Below B w w1 := HB0.out.trans b1
    have KP := (OthersKept.refl 5 (some b) (w.alloc (.cells #[.string key, .int .i64 2, .slice a l.length c] 35))).trans k1
    have HP := h1
    obtain ⟨z0, z1, z2⟩ := XB.out _ KP
    have C1 := hmk (HWT.out w1 (HT.out _ B1))
    go_wp2_with fail
    refine C1.out.mono ?_
    rintro e w2 ⟨rfl, b2⟩
    rw [HWK.out]
    have hz2 := b2.size
    have B2 : Below B w w2 := B1.trans (b2.mono (by have := B1.size; omega))
    have K2 := KP.trans (ok_below (b := some b) b2)
    have C2 := hmk (ws_any B b (L ++ [33]) kw w2 (Bd.below HP b2) (by simp; omega) (by have := B2.size; omega))
    clear C1
    go_wp2_with fail
    refine C2.out.mono ?_
    rintro e w3 ⟨rfl, h3, b3, k3⟩
    have B3 : Below B w w3 := B2.trans b3
    have K3 := K2.trans k3
    obtain ⟨v0, v1, v2⟩ := XB.out _ K3
    clear C2
    go_wp2_with fail
    go_end0
    exact ⟨rfl, by rw [HTM.out, ← List.append_assoc]; exact h3, B3, HK0.out.trans K3⟩
  · have HTM : Hid (termL (key, 3, l) = kw ++ valsT [61] [32, 105, 110, 32, 40] l) := by show _ = _; rw [← hkw]; exact termL_vals (by decide) (by decide)
    rw [hkw] at HWK hkl
    clear hkw b0 k0 hx0 h hh hl hS hf hk hg
    have KP := OthersKept.refl 5 (some b) (w.alloc (.cells #[.string key, .int .i64 3, .slice a l.length c] 35))
    have HP := HP0.out
    go_enter Tryz.func24, Tryz.ntmps24
    have C1 := hmk (HWT.out (w.alloc (.cells #[.string key, .int .i64 3, .slice a l.length c] 35)) (HT.out _ HB0.out))
    go_wp2_with fail
    refine C1.out.mono ?_
    rintro e w2 ⟨rfl, b2⟩
    rw [HWK.out]
    have hz2 := b2.size
    have B2 : Below B w w2 := HB0.out.trans (b2.mono (by have := HB0.out.size; omega))
    have K2 := KP.trans (ok_below (b := some b) b2)
    have C2 := hmk (ws_any B b L kw w2 (Bd.below HP b2) (by omega) (by have := B2.size; omega))
    clear C1
    go_wp2_with fail
    refine C2.out.mono ?_
    rintro e w3 ⟨rfl, h3, b3, k3⟩
    have B3 : Below B w w3 := B2.trans b3
    have K3 := K2.trans k3
    obtain ⟨v0, v1, v2⟩ := XB.out _ K3
    clear C2
    have C3 := hmk (CV.out w3 (L ++ kw) B3 h3 (by simp; omega) hlp [61] [32, 105, 110, 32, 40] (by decide) (by decide))
    go_wp2_with fail
    refine C3.out.mono ?_
    rintro e w4 ⟨rfl, h4, b4, k4⟩
    go_wp2_with fail
    go_end0
    exact ⟨rfl, by rw [HTM.out, ← List.append_assoc]; exact h4, B3.trans b4, HK0.out.trans (K3.trans k4)⟩
  · have HTM : Hid (termL (key, 4, l) = kw ++ valsT [33, 61] [32, 110, 111, 116, 105, 110, 32, 40] l) := by show _ = _; rw [← hkw]; exact termL_vals (by decide) (by decide)
    rw [hkw] at HWK hkl
    clear hkw b0 k0 hx0 h hh hl hS hf hk hg
    have KP := OthersKept.refl 5 (some b) (w.alloc (.cells #[.string key, .int .i64 4, .slice a l.length c] 35))
    have HP := HP0.out
    go_enter Tryz.func24, Tryz.ntmps24
    have C1 := hmk (HWT.out (w.alloc (.cells #[.string key, .int .i64 4, .slice a l.length c] 35)) (HT.out _ HB0.out))
    go_wp2_with fail
    refine C1.out.mono ?_
    rintro e w2 ⟨rfl, b2⟩
    rw [HWK.out]
    have hz2 := b2.size
    have B2 : Below B w w2 := HB0.out.trans (b2.mono (by have := HB0.out.size; omega))
    have K2 := KP.trans (ok_below (b := some b) b2)
    have C2 := hmk (ws_any B b L kw w2 (Bd.below HP b2) (by omega) (by have := B2.size; omega))
    clear C1
    go_wp2_with fail
    refine C2.out.mono ?_
    rintro e w3 ⟨rfl, h3, b3, k3⟩
    have B3 : Below B w w3 := B2.trans b3
    have K3 := K2.trans k3
    obtain ⟨v0, v1, v2⟩ := XB.out _ K3
    clear C2
    have C3 := hmk (CV.out w3 (L ++ kw) B3 h3 (by simp; omega) hlp [33, 61] [32, 110, 111, 116, 105, 110, 32, 40] (by decide) (by decide))
    go_wp2_with fail
    refine C3.out.mono ?_
    rintro e w4 ⟨rfl, h4, b4, k4⟩
    go_wp2_with fail
    go_end0
    exact ⟨rfl, by rw [HTM.out, ← List.append_assoc]; exact h4, B3.trans b4, HK0.out.trans (K3.trans k4)⟩
end Go.Proofs.YtolekldjbbjmjaaGreatDoor
