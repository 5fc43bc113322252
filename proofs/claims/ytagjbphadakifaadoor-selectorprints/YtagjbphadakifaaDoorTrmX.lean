/- SelectorMatches: the law's own walk. -/
import Derived.Test.YtagjbphadakifaaDoorTrmW
import Derived.Test.YtagjbphadakifaaDoorVkpA
import Derived.Test.YtagjbphadakifaaDoorTrmB
set_option linter.unusedSimpArgs false
set_option linter.unusedVariables false
namespace Go.Proofs.YtagjbphadakifaaDoor
open Go.RowKit Go.Lib
theorem row_mems {w : World} {base g n cap : Nat} {SM : Nat → Prop} {ms : List Mem} {t : List (Option Mem)} (h : OwnM false w base SM (.slice (some ⟨g, 0, none⟩) n cap) (ms.map some ++ t)) (hn : n = (ms.map some ++ t).length) : liesM false w (fun y => base ≤ y ∧ y < w.heap.size) ms g 0 :=
  liesM_mk fun j hj => by
    have hg := h.lt (g := g) rfl
    obtain ⟨cs, h1, h2⟩ := h.at hn j (by simp; omega)
    have e : (ms.map some ++ t)[j]'(by simp; omega) = some ms[j] := by rw [List.getElem_append_left (by simpa using hj), List.getElem_map]
    rw [e] at h2
    obtain ⟨cs', rfl, h3, h4⟩ := h2
    exact ⟨hg, h3, cs', h1, V.lies_keep (fun h => h) (fun _ _ => rfl) (fun b hb => ⟨(h.off b hb).1, (h.off b hb).2.1⟩) _ h4⟩
theorem own_mems {w : World} {base : Nat} {SM : Nat → Prop} {v : Value} {ms : List Mem} (h : OwnM false w base SM v (ms.map some)) : ∃ a c b o, v = .slice a ms.length c ∧ Headed a ms.length c b o ∧ liesM false w (fun y => base ≤ y ∧ y < w.heap.size) ms b o := by
  obtain ⟨a, c, rfl⟩ := own_slice h
  rw [List.length_map] at h ⊢
  cases ms with
  | nil =>
    have h' := h
    obtain ⟨⟨xs, h1, _⟩, _⟩ := h'
    rcases h1.2 with ⟨e, e2⟩ | ⟨g, cap, cur, e, _⟩
    · simp only [Value.slice.injEq] at e
      obtain ⟨rfl, _, rfl⟩ := e
      exact ⟨none, 0, 0, 0, rfl, head_nilS, by rw [liesM]; trivial⟩
    · simp only [Value.slice.injEq] at e
      obtain ⟨rfl, _, rfl⟩ := e
      have h2 := h.le
      exact ⟨_, _, g, 0, rfl, ⟨h2.1, h2.2, .inr rfl, fun h => by cases h⟩, by rw [liesM]; trivial⟩
  | cons x t =>
    obtain ⟨g, cap, hv, hc1, hc2, hg1, hg2⟩ := own_some h (by simp)
    simp only [Value.slice.injEq] at hv
    obtain ⟨rfl, _, rfl⟩ := hv
    simp only [List.length_map] at hc1
    refine ⟨_, _, g, 0, rfl, ⟨hc1, hc2, .inr rfl, fun h => by cases h⟩, ?_⟩
    have := row_mems (t := []) (by rw [List.append_nil]; exact h) (by simp)
    exact this
theorem wtS_short {l : List ByteArray} (h : Short l) : wtS l ≤ 4 * l.length := by
  induction l with
  | nil => simp [wtS]
  | cons s t ih =>
    have h1 := ih (fun x hx => h x (List.mem_cons_of_mem _ hx))
    have h2 := h s (by simp)
    simp only [wtS, List.length_cons]
    omega
theorem shVals_small (i : Nat) (t : Trm) : wtS (shVals i t) ≤ 24 := by
  have h1 := valsF_short (m := t.1.size == 7) (t.2.2.take 6)
  have h2 := wtS_short h1.1
  have h3 : (t.2.2.take 6).length ≤ 6 := by rw [List.length_take]; omega
  unfold shVals
  split
  · split
    · have := fewV_size (i : Int)
      simp only [wtS]
      have h4 : (ByteArray.size ⟨#[120]⟩) = 1 := rfl
      omega
    · omega
  · simp [wtS]
theorem wtT_le {l : List Trm} {k : Nat} (h : ∀ t ∈ l, 1 + t.1.size + wtS t.2.2 ≤ k) : wtT l ≤ k * l.length := by
  induction l with
  | nil => simp [wtT]
  | cons x t ih =>
    have h1 := ih (fun y hy => h y (List.mem_cons_of_mem _ hy))
    have h2 := h x (by simp)
    simp only [wtT, List.length_cons, Nat.mul_add]
    omega
theorem shaped_small (l : List Trm) : (shapedV l).length ≤ 8 ∧ ∀ t ∈ shapedV l, 1 + t.1.size + wtS t.2.2 ≤ 28 := by
  constructor
  · unfold shapedV; simp; omega
  · intro t ht
    unfold shapedV at ht
    obtain ⟨i, hi, rfl⟩ := List.mem_mapIdx.1 ht
    have := fewV_size (((l.take 8)[i]).1.size % 4 : Nat)
    have h2 := shVals_small i (l.take 8)[i]
    show 1 + (fewV _).size + wtS (shVals i _) ≤ 28
    omega
theorem memV_wt (x : Lab) : (memV x).2.wt ≤ 4 + x.2.1.size := by
  unfold memV
  split
  · simp [V.wt, wtL, wtM]; try omega
  · have h0 : (ByteArray.size ⟨#[]⟩) = 0 := rfl
    simp [V.wt, wtL, wtM]
    omega
set_option maxHeartbeats 8000000 in
set_option maxRecDepth 100000 in
theorem matches_walk (l : List Trm) (lb : List Lab) (al : Option Addr) (cl bl ol : Nat) (ab : Option Addr) (cb bb ob : Nat) (w : World) (hT : Tb w)
    (hh : Headed al l.length cl bl ol) (hl : liesT false w (Old w) l bl ol) (hh2 : Headed ab lb.length cb bb ob) (hl2 : liesB w (Old w) lb bb ob) (hlm : lb.length ≤ 1048576) (hls : ∀ x ∈ lb, x.1.size + x.2.1.size ≤ 1048576) :
    Calls Tryd.prog 3 #[.slice al l.length cl, .slice ab lb.length cb] w (BPost true w) := by
  have HH := hmk hh
  have HL : Hid (∀ W, Below w.heap.size w W → liesT false W (Old w) l bl ol) := fun W hW => hl.keep (fun h => h) (fun y hy => hW.block y hy) (fun _ h => h)
  have HH2 := hmk hh2
  have HL2 : Hid (∀ W, Below w.heap.size w W → liesB W (Old w) lb bb ob) := fun W hW => hl2.keep (fun y hy => hW.block y hy) (fun _ h => h)
  have HTB : Hid (∀ W, Below w.heap.size w W → Tb W) := fun W hW => hT.below hW hT.z
  have HLS := hmk hls
  have hOld : ∀ W, Below w.heap.size w W → ∀ y, Old w y → y < W.heap.size := fun W hW y hy => Nat.lt_of_lt_of_le hy hW.size
  have HOLD := hmk hOld
  have H0 := hmk (terms_any l false (Old w) al cl bl ol w hh hl (fun y hy => hy))
  clear hh hl hh2 hl2 hT hls hOld
  go_enter Tryd.func3, Tryd.ntmps3
  go_wp2_with fail
  refine H0.out.mono ?_
  rintro e w1 ⟨r, rfl, hr, b1⟩
  have B1 := hmk b1
  cases r with
  | true =>
    go_wp2_with fail
    go_ret
    exact ⟨rfl, B1.out⟩
  | false =>
    have hwt := hr rfl
    clear hr b1 H0
    have CSH := hmk (shaped_any l (Old w) al cl bl ol w1 HH.out (HL.out _ B1.out) (HOLD.out _ B1.out) hwt)
    go_wp2_with fail
    refine CSH.out.mono ?_
    rintro e w2 ⟨xa, xc, xb, xo, rfl, hXh, hXl, b2⟩
    have B2 : Hid (Below w.heap.size w w2) := B1.out.trans (b2.mono B1.out.size)
    have CTG := hmk (tagged_any lb (Old w) ab cb bb ob w2 HH2.out (HL2.out _ B2.out) (HOLD.out _ B2.out))
    clear b2 CSH
    go_wp2_with fail
    refine CTG.out.mono ?_
    rintro e w3 ⟨ya, yc, yb, yo, rfl, hYh, hYl, b3⟩
    have B3 : Hid (Below w.heap.size w w3) := B2.out.trans (b3.mono B2.out.size)
    have XS := shaped_small l
    obtain ⟨X, hXe⟩ : ∃ X, shapedV l = X := ⟨_, rfl⟩
    obtain ⟨Y, hYe⟩ : ∃ Y, taggedV lb = Y := ⟨_, rfl⟩
    have hYm : Y.length ≤ 8 := by rw [← hYe]; unfold taggedV; simp; omega
    rw [hXe] at hXh hXl XS ⊢
    rw [hYe] at hYh hYl ⊢
    have HXT : Hid (∀ W, Below w3.heap.size w3 W → liesT false W (New w1 w2) X xb xo ∧ ∀ y, New w1 w2 y → y < W.heap.size) := fun W hW => ⟨hXl.keep (fun h => h) (fun y hy => ((hW.block y (Nat.lt_of_lt_of_le hy.2 b3.size)).trans (b3.block y hy.2))) (fun _ h => h), fun y hy => Nat.lt_of_lt_of_le hy.2 (Nat.le_trans b3.size hW.size)⟩
    have CMY : Hid (∀ W, Below w3.heap.size w3 W → Calls Tryd.prog 10 #[.slice ya Y.length yc] W (MbPost Y W)) := fun W hW => members_any Y (New w2 w3) ya yc yb yo W hYh (hYl.keep (fun y hy => hW.block y hy.2) (fun _ h => h)) (fun y hy => Nat.lt_of_lt_of_le hy.2 hW.size) (by omega)
    have HB3 : Hid (∀ W, Below w3.heap.size w3 W → Below w.heap.size w W) := fun W hW => B3.out.trans (hW.mono B3.out.size)
    have CML : Hid (∀ W, Below w.heap.size w W → Calls Tryd.prog 10 #[.slice ab lb.length cb] W (MbPost lb W)) := fun W hW => members_any lb (Old w) ab cb bb ob W HH2.out (HL2.out W hW) (HOLD.out W hW) (by omega)
    have hwX : wtT X ≤ 28 * X.length := wtT_le XS.2
    have HXH := hmk hXh
    have CMX : Hid (∀ W, Below w3.heap.size w3 W → ∀ (ms : List Mem) (n : Nat) (S2 : Nat → Prop) (a : Option Addr) (c b o : Nat), ms.length = n → Headed a ms.length c b o → liesM false W S2 ms b o → (∀ y, S2 y → y < W.heap.size) → n ≤ 2147483647 → Calls Tryd.prog 9 #[.slice xa X.length xc, .slice a n c] W (BPost (matchB X ms) W)) := fun W hW ms n S2 a c b o hn h1 h2 h3 h4 => by
      subst hn
      exact
      match_any X ms false false (New w1 w2) S2 xa xc xb xo a c b o W HXH.out (HXT.out W hW).1 (HXT.out W hW).2 h1 h2 h3 h4 (by omega) (HTB.out W (HB3.out W hW))
    have CRX : Hid (∀ W, Below w3.heap.size w3 W → ∀ (ms : List Mem) (n : Nat) (S2 : Nat → Prop) (a : Option Addr) (c b o : Nat), ms.length = n → Headed a ms.length c b o → liesM false W S2 ms b o → (∀ y, S2 y → y < W.heap.size) → Calls Tryd.prog 11 #[.slice xa X.length xc, .slice a n c] W (BPost (matchB X ms) W)) := fun W hW ms n S2 a c b o hn h1 h2 h3 => by
      subst hn
      exact
      rmatch_any X ms false false (New w1 w2) S2 xa xc xb xo a c b o W HXH.out (HXT.out W hW).1 (HXT.out W hW).2 h1 h2 h3
    have HX8 : Hid (X.length ≤ 8) := XS.1
    have HWX := hmk hwX
    clear hwX
    clear hXe hYe hXl hYh hYl b3 CTG XS
    go_wp2_with fail
    refine (CMY.out _ (Below.refl _ _)).mono ?_
    rintro e w4 ⟨mv4, rfl, oM4, bM4⟩
    obtain ⟨ma4, mc4, mb4, mo4, rfl, hM4, lM4⟩ := own_mems oM4
    have HB4 : Hid (Below w3.heap.size w3 w4) := bM4
    have C5 := hmk (CMX.out w4 HB4.out (Y.map memV) Y.length _ ma4 mc4 mb4 mo4 (List.length_map _) hM4 lM4 (fun y hy => hy.2) (by omega))
    clear hM4 lM4 oM4 bM4
    go_wp2_with fail
    refine C5.out.mono ?_
    rintro e w5 ⟨rfl, b5⟩
    have HB5 : Hid (Below w3.heap.size w3 w5) := HB4.out.trans (b5.mono HB4.out.size)
    clear b5 C5
    go_wp2_with fail
    refine (CMY.out _ HB5.out).mono ?_
    rintro e w6 ⟨mv6, rfl, oM6, bM6⟩
    obtain ⟨ma6, mc6, mb6, mo6, rfl, hM6, lM6⟩ := own_mems oM6
    have HB6 : Hid (Below w3.heap.size w3 w6) := HB5.out.trans (bM6.mono HB5.out.size)
    have C7 := hmk (CRX.out w6 HB6.out (Y.map memV) Y.length _ ma6 mc6 mb6 mo6 (List.length_map _) hM6 lM6 (fun y hy => hy.2))
    clear hM6 lM6 oM6 bM6
    go_wp2_with fail
    refine C7.out.mono ?_
    rintro e w7 ⟨rfl, b7⟩
    have HB7 : Hid (Below w3.heap.size w3 w7) := HB6.out.trans (b7.mono HB6.out.size)
    clear b7 C7 HB4 HB5 HB6
    generalize matchB X (Y.map memV) = g1 at *
    have yg : (g1 != g1) = false := by cases g1 <;> rfl
    go_wp2_with fail
    go_loopw [7] (fun e7 wr => ∃ i : Nat, i ≤ X.length ∧ e7 = .int .i64 (i : Int) ∧ Below w3.heap.size w3 wr) (fun e7 _ => X.length - (RowKit.intOf e7).toNat)
    case atStart => exact ⟨0, by omega, rfl, HB7.out⟩
    case round =>
      clear HB7
      obtain ⟨i, hi, rfl, Bi⟩ := hrel
      by_cases hil : i < X.length
      · have y1 : (i : Int) < X.length := by omega
        obtain rfl : xa = some ⟨xb, xo, none⟩ := HXH.out.at_.resolve_left (by omega)
        have y2 : IntKind.i64.wrap ((i : Int) + 1) = (i : Int) + 1 := by have := HX8.out; rw [IntKind.wrap_i64]; omega
        have y3 : (i : Int) + 1 ≤ (xc : Int) := by have := HXH.out.le; omega
        have y4 : (i : Int) ≤ (i : Int) + 1 := by omega
        have y5 : ¬ xc = i := by have := HXH.out.le; omega
        have hh1 : Headed (some ⟨xb, xo + i * 3, none⟩) [X[i]].length (xc - i) xb (xo + i * 3) := ⟨(by have := HXH.out.le; show 1 ≤ xc - i; omega), (by have := HXH.out.max; omega), .inr rfl, fun h => by cases h⟩
        have hl1 : ∀ W, Below w3.heap.size w3 W → liesT false W (New w1 w2) [X[i]] xb (xo + i * 3) := fun W hW k hk => by
          have hk0 : k = 0 := by simp at hk; omega
          subst hk0
          obtain ⟨p1, cs, p2, p3⟩ := (HXT.out W hW).1 i hil
          exact ⟨p1, cs, by rw [Nat.zero_mul, Nat.add_zero]; exact p2, p3⟩
        have hw1 : wtT [X[i]] ≤ 2147483647 := by
          have e1 := wtT_mem (List.getElem_mem hil)
          have e2 := HWX.out
          have e3 := HX8.out
          simp only [wtT]
          omega
        have CX1 : Hid (∀ W, Below w3.heap.size w3 W → ∀ (ms : List Mem) (n : Nat) (S2 : Nat → Prop) (a : Option Addr) (c b o : Nat), ms.length = n → Headed a ms.length c b o → liesM false W S2 ms b o → (∀ y, S2 y → y < W.heap.size) → n ≤ 2147483647 → Calls Tryd.prog 9 #[.slice (some ⟨xb, xo + i * 3, none⟩) 1 (xc - i), .slice a n c] W (BPost (matchB [X[i]] ms) W)) := fun W hW ms n S2 a c b o hn h1 h2 h3 h4 => by
          subst hn
          exact match_any [X[i]] ms false false (New w1 w2) S2 _ _ _ _ a c b o W hh1 (hl1 W hW) (HXT.out W hW).2 h1 h2 h3 h4 hw1 (HTB.out W (HB3.out W hW))
        have CR1 : Hid (∀ W, Below w3.heap.size w3 W → ∀ (ms : List Mem) (n : Nat) (S2 : Nat → Prop) (a : Option Addr) (c b o : Nat), ms.length = n → Headed a ms.length c b o → liesM false W S2 ms b o → (∀ y, S2 y → y < W.heap.size) → Calls Tryd.prog 11 #[.slice (some ⟨xb, xo + i * 3, none⟩) 1 (xc - i), .slice a n c] W (BPost (matchB [X[i]] ms) W)) := fun W hW ms n S2 a c b o hn h1 h2 h3 => by
          subst hn
          exact rmatch_any [X[i]] ms false false (New w1 w2) S2 _ _ _ _ a c b o W hh1 (hl1 W hW) (HXT.out W hW).2 h1 h2 h3
        clear hh1 hl1 hw1
        obtain ⟨g2, hg2⟩ : ∃ g2, matchB [X[i]] (Y.map memV) = g2 := ⟨_, rfl⟩
        have yg2 : (g2 != g2) = false := by cases g2 <;> rfl
        go_wp2_with fail
        refine wp_region_held_drew (S := fun _ => True) (by kernel_rfl) trivial (fun hHeld => ?_)
        (refine wpAnyH_take (i := 0) (v := ?_) rfl (by kernel_rfl) (by kernel_rfl) (by kernel_rfl) (fun _ _ _ h => h) (Or.inl ⟨by kernel_rfl, ?_⟩) (by assumption) ?_; rotate_left 1; (intro W0 hSw; skip; go_simp; (try with_reducible rfl)); (try simp only [Act.put, List.setIfInBounds_toArray, List.set_cons_zero, List.set_cons_succ]))
        (refine wpAnyH_take (i := 1) (v := ?_) rfl (by kernel_rfl) (by kernel_rfl) (by kernel_rfl) (fun _ _ _ h => h) (Or.inl ⟨by kernel_rfl, ?_⟩) (by assumption) ?_; rotate_left 1; (intro W0 hSw; skip; go_simp; (try with_reducible rfl)); (try simp only [Act.put, List.setIfInBounds_toArray, List.set_cons_zero, List.set_cons_succ]))
        (refine wpAnyH_take (i := 2) (v := ?_) rfl (by kernel_rfl) (by kernel_rfl) (by kernel_rfl) (fun _ _ _ h => h) (Or.inl ⟨by kernel_rfl, ?_⟩) (by assumption) ?_; rotate_left 1; (intro W0 hSw; skip; go_simp; (try with_reducible rfl)); (try simp only [Act.put, List.setIfInBounds_toArray, List.set_cons_zero, List.set_cons_succ]))
        (refine wpAnyH_take (i := 3) (v := ?_) rfl (by kernel_rfl) (by kernel_rfl) (by kernel_rfl) (fun _ _ _ h => h) (Or.inl ⟨by kernel_rfl, ?_⟩) (by assumption) ?_; rotate_left 1; (intro W0 hSw; skip; go_simp; (try with_reducible rfl)); (try simp only [Act.put, List.setIfInBounds_toArray, List.set_cons_zero, List.set_cons_succ]))
        (refine wpAnyH_take (i := 4) (v := ?_) rfl (by kernel_rfl) (by kernel_rfl) (by kernel_rfl) (fun _ _ _ h => h) (Or.inl ⟨by kernel_rfl, ?_⟩) (by assumption) ?_; rotate_left 1; (intro W0 hSw; skip; go_simp; (try with_reducible rfl)); (try simp only [Act.put, List.setIfInBounds_toArray, List.set_cons_zero, List.set_cons_succ]))
        (refine wpAnyH_take (i := 5) (v := ?_) rfl (by kernel_rfl) (by kernel_rfl) (by kernel_rfl) (fun _ _ _ h => h) (Or.inl ⟨by kernel_rfl, ?_⟩) (by assumption) ?_; rotate_left 1; (intro W0 hSw; skip; go_simp; (try with_reducible rfl)); (try simp only [Act.put, List.setIfInBounds_toArray, List.set_cons_zero, List.set_cons_succ]))
        (refine wpAnyH_take (i := 8) (v := ?_) rfl (by kernel_rfl) (by kernel_rfl) (by kernel_rfl) (fun _ _ _ h => h) (Or.inl ⟨by kernel_rfl, ?_⟩) (by assumption) ?_; rotate_left 1; (intro W0 hSw; skip; go_simp; (try with_reducible rfl)); (try simp only [Act.put, List.setIfInBounds_toArray, List.set_cons_zero, List.set_cons_succ]))
        (refine wpAnyH_take (i := 9) (v := ?_) rfl (by kernel_rfl) (by kernel_rfl) (by kernel_rfl) (fun _ _ _ h => h) (Or.inl ⟨by kernel_rfl, ?_⟩) (by assumption) ?_; rotate_left 1; (intro W0 hSw; skip; go_simp; (try with_reducible rfl)); (try simp only [Act.put, List.setIfInBounds_toArray, List.set_cons_zero, List.set_cons_succ]))
        (refine wpAnyH_take (i := 10) (v := ?_) rfl (by kernel_rfl) (by kernel_rfl) (by kernel_rfl) (fun _ _ _ h => h) (Or.inl ⟨by kernel_rfl, ?_⟩) (by assumption) ?_; rotate_left 1; (intro W0 hSw; skip; go_simp; (try with_reducible rfl)); (try simp only [Act.put, List.setIfInBounds_toArray, List.set_cons_zero, List.set_cons_succ]))
        (refine wpAnyH_take (i := 11) (v := ?_) rfl (by kernel_rfl) (by kernel_rfl) (by kernel_rfl) (fun _ _ _ h => h) (Or.inl ⟨by kernel_rfl, ?_⟩) (by assumption) ?_; rotate_left 1; (intro W0 hSw; skip; go_simp; (try with_reducible rfl)); (try simp only [Act.put, List.setIfInBounds_toArray, List.set_cons_zero, List.set_cons_succ]))
        (refine wpAnyH_take (i := 12) (v := ?_) rfl (by kernel_rfl) (by kernel_rfl) (by kernel_rfl) (fun _ _ _ h => h) (Or.inl ⟨by kernel_rfl, ?_⟩) (by assumption) ?_; rotate_left 1; (intro W0 hSw; skip; go_simp; (try with_reducible rfl)); (try simp only [Act.put, List.setIfInBounds_toArray, List.set_cons_zero, List.set_cons_succ]))
        (refine wpAnyH_take (i := 13) (v := ?_) rfl (by kernel_rfl) (by kernel_rfl) (by kernel_rfl) (fun _ _ _ h => h) (Or.inl ⟨by kernel_rfl, ?_⟩) (by assumption) ?_; rotate_left 1; (intro W0 hSw; skip; go_simp; (try with_reducible rfl)); (try simp only [Act.put, List.setIfInBounds_toArray, List.set_cons_zero, List.set_cons_succ]))
        have Bd : Below w3.heap.size w3 wr.drew := Bi.drew
        refine wpAnyH_ready (rs := [6]) (by kernel_rfl) (by simp) ?_
        refine AllReadyH.cons rfl (fun K hK => ?_) AllReadyH.nil
        go_simp
        refine (CMY.out _ Bd).mono ?_
        rintro e wa ⟨mv1, rfl, oM1, bM1⟩
        obtain ⟨ma1, mc1, mb1, mo1, rfl, hM1, lM1⟩ := own_mems oM1
        have Ba : Below w3.heap.size w3 wa := Bd.trans (bM1.mono Bd.size)
        refine hK.out _ _ trivial (fun _ => ?_)
        clear hK K
        (try simp only [Act.put, List.setIfInBounds_toArray, List.set_cons_zero, List.set_cons_succ])
        refine wpAnyH_ready (rs := [7]) (by kernel_rfl) (by simp) ?_
        refine AllReadyH.cons rfl (fun K hK => ?_) AllReadyH.nil
        go_simp
        refine (CX1.out wa Ba (Y.map memV) Y.length _ ma1 mc1 mb1 mo1 (List.length_map _) hM1 lM1 (fun y hy => hy.2) (by omega)).mono ?_
        rintro e wb ⟨rfl, bb_⟩
        rw [hg2]
        have Bb : Below w3.heap.size w3 wb := Ba.trans (bb_.mono Ba.size)
        refine hK.out _ _ trivial (fun _ => ?_)
        clear hK K
        (try simp only [Act.put, List.setIfInBounds_toArray, List.set_cons_zero, List.set_cons_succ])
        refine wpAnyH_ready (rs := [14]) (by kernel_rfl) (by simp) ?_
        refine AllReadyH.cons rfl (fun K hK => ?_) AllReadyH.nil
        go_simp
        refine (CMY.out _ Bb).mono ?_
        rintro e wc ⟨mv2, rfl, oM2, bM2⟩
        obtain ⟨ma2, mc2, mb2, mo2, rfl, hM2, lM2⟩ := own_mems oM2
        have Bc : Below w3.heap.size w3 wc := Bb.trans (bM2.mono Bb.size)
        refine hK.out _ _ trivial (fun _ => ?_)
        clear hK K
        (try simp only [Act.put, List.setIfInBounds_toArray, List.set_cons_zero, List.set_cons_succ])
        refine wpAnyH_ready (rs := [15]) (by kernel_rfl) (by simp) ?_
        refine AllReadyH.cons rfl (fun K hK => ?_) AllReadyH.nil
        go_simp
        refine (CR1.out wc Bc (Y.map memV) Y.length _ ma2 mc2 mb2 mo2 (List.length_map _) hM2 lM2 (fun y hy => hy.2)).mono ?_
        rintro e wd ⟨rfl, bd_⟩
        rw [hg2]
        have Bd2 : Below w3.heap.size w3 wd := Bc.trans (bd_.mono Bc.size)
        refine hK.out _ _ trivial (fun _ => ?_)
        clear hK K
        (try simp only [Act.put, List.setIfInBounds_toArray, List.set_cons_zero, List.set_cons_succ])
        (refine wpAnyH_take (i := 16) (v := ?_) rfl (by kernel_rfl) (by kernel_rfl) (by kernel_rfl) (fun _ _ _ h => h) (Or.inl ⟨by kernel_rfl, ?_⟩) (by assumption) ?_; rotate_left 1; (intro W0 hSw; skip; go_simp; (try with_reducible rfl)); (try simp only [Act.put, List.setIfInBounds_toArray, List.set_cons_zero, List.set_cons_succ]))
        refine wpAnyH_done (by kernel_rfl) ?_ _
        (try dsimp only [Act.put, List.getElem_toArray, List.getElem_cons_succ, List.getElem_cons_zero, List.setIfInBounds_toArray, List.set_cons_zero, List.set_cons_succ])
        clear hHeld CX1 CR1 oM1 lM1 hM1 bM1 oM2 lM2 hM2 bM2 bb_ bd_
        go_wp2_with fail
        go_roundw
        case rel => exact ⟨i + 1, by omega, by go_num, Bd2⟩
        case measure => simp [RowKit.intOf]; omega
      · obtain rfl : i = X.length := by omega
        have y1 : ¬ (X.length : Int) < X.length := by omega
        have BW := HB3.out _ Bi
        have hzw := BW.size
        have C12 := hmk (roomyT_any l (Old w) al cl bl ol wr HH.out (HL.out _ BW) (HOLD.out _ BW) hwt)
        clear CMY CMX CRX HXT HXH
        go_wp2_with fail
        refine C12.out.mono ?_
        rintro e w9 ⟨g, cap, rfl, hc1, hc2, hg1, hg2, hR, hRm, b9⟩
        have B9 : Hid (Below w.heap.size w w9) := BW.trans (b9.mono hzw)
        have HRT : Hid (∀ W, Below w9.heap.size w9 W → liesT true W (New wr w9) l g 0 ∧ (∀ k, k < 70 → W.cell? ⟨g, (l.length + k) * 3 + 1, none⟩ = some (.int .i64 (-9))) ∧ (∀ y, New wr w9 y → y < W.heap.size) ∧ g < W.heap.size) := fun W hW => ⟨hR.keep (fun h => h) (fun y hy => hW.block y hy.2) (fun _ h => h), fun k hk => (hW.cell (p := ⟨g, (l.length + k) * 3 + 1, none⟩) hg2).trans (hRm k hk), fun y hy => Nat.lt_of_lt_of_le hy.2 hW.size, Nat.lt_of_lt_of_le hg2 hW.size⟩
        have hhg : Headed (some ⟨g, 0, none⟩) l.length cap g 0 := ⟨by omega, hc2, .inr rfl, fun h => by cases h⟩
        have HHG := hmk hhg
        have HCAP : Hid (l.length + 70 ≤ cap ∧ cap ≤ maxLen) := ⟨hc1, hc2⟩
        have HB9 : Hid (∀ W, Below w9.heap.size w9 W → Below w.heap.size w W) := fun W hW => B9.out.trans (hW.mono B9.out.size)
        clear BW Bi hR hRm b9 hc1 hc2 hg1 hg2 hhg C12 hzw hi hil y1 HX8 HWX B1 B2 B3 HB3
        go_wp2_with fail
        refine (CML.out w9 B9.out).mono ?_
        rintro e w10 ⟨mv3, rfl, oM3, bM3⟩
        obtain ⟨va, vc, rfl⟩ := own_slice oM3
        obtain ⟨i5, hi5, hz5⟩ := Option.map_eq_some_iff.1 info44
        simp only [Prod.mk.injEq] at hz5
        have hJ := hmk (And.intro hi5 hz5)
        clear hi5 hz5
        have hll : ((lb.map memV).map some).length = lb.length := by simp
        have hob : ∀ r, (Value.slice va ((lb.map memV).map some).length vc).ownBlock = some r → w9.heap.size ≤ r := fun r hr => (oM3.lt hr).1
        rw [hll] at oM3 hob ⊢
        have hzb := bM3.size
        have a10 : Below w9.heap.size w9 (w10.alloc (.cells #[.string ⟨#[114, 111, 111, 109]⟩, .int .i64 0, .bool false, .int .i64 0, .string ⟨#[]⟩, .slice none 0 0, .slice none 0 0] 34)) := bM3.alloc hzb _
        have hT := heap_alloc_new w10 (.cells #[.string ⟨#[114, 111, 111, 109]⟩, .int .i64 0, .bool false, .int .i64 0, .string ⟨#[]⟩, .slice none 0 0, .slice none 0 0] 34)
        have HAL : Hid (OwnM false (w10.alloc (.cells #[.string ⟨#[114, 111, 111, 109]⟩, .int .i64 0, .bool false, .int .i64 0, .string ⟨#[]⟩, .slice none 0 0, .slice none 0 0] 34)) w9.heap.size (fun _ => False) (.slice va lb.length vc) ((lb.map memV).map some)) := oM3.alloc (keepM false) _
        have HE : Hid (EM false none (w10.alloc (.cells #[.string ⟨#[114, 111, 111, 109]⟩, .int .i64 0, .bool false, .int .i64 0, .string ⟨#[]⟩, .slice none 0 0, .slice none 0 0] 34)) (fun _ => False) [.string ⟨#[114, 111, 111, 109]⟩, .int .i64 0, .bool false, .int .i64 0, .string ⟨#[]⟩, .slice none 0 0, .slice none 0 0]) := by show _ = _; rfl
        have HLN : Hid (((lb.map memV).map some).length ≤ 4294967296) := by show _ ≤ _; rw [hll]; omega
        have HBS : Hid (w9.heap.size ≤ (w10.alloc (.cells #[.string ⟨#[114, 111, 111, 109]⟩, .int .i64 0, .bool false, .int .i64 0, .string ⟨#[]⟩, .slice none 0 0, .slice none 0 0] 34)).heap.size) := a10.size
        have HLL := hmk hll
        have HOB := hmk hob
        have A10 := hmk a10
        clear oM3 bM3 hzb hll hob a10
        go_wp2_with (at_builtin; go_loud (refine wpl_push (keepM false) _ rfl (.tmp 54) (.tmp 56) 28 rfl w9.heap.size i5 _ 104 Tryd.underlying28 hJ.out.1 hJ.out.2.1 hJ.out.2.2.1 hJ.out.2.2.2 rfl (by decide) (by decide) (Sx := fun _ => False) _ (none : Option Mem) rfl HAL.out w10.heap.size 1 (0, 0) rfl hT rfl one7b HE.out (fun b hb => hb.elim) HLN.out HBS.out ?_))
        intro gm capm w11 o11 g11 e11
        rw [← List.map_map] at o11
        have B11 : Hid (Below w9.heap.size w9 w11) := A10.out.grown g11 HBS.out (fun r hr => HOB.out r hr)
        have hln : lb.length + 1 = ((lb.map memV).map some ++ [none]).length := by simp
        have hrm := row_mems o11 hln
        have hrl := o11.le
        have hrg := o11.lt (g := gm) rfl
        have hroom : w11.cell? ⟨gm, lb.length * 7, none⟩ = some (.string ⟨#[114, 111, 111, 109]⟩) := by
          obtain ⟨cs, h1, h2⟩ := o11.at hln lb.length (by simp)
          have e : ((lb.map memV).map some ++ [none])[lb.length]'(by simp) = none := by rw [List.getElem_append_right (by simp)]; simp
          rw [e] at h2
          have h3 : cs = _ := h2
          subst h3
          have := h1 0 _ rfl
          simpa using this
        rw [← hln] at hrl
        have HMR : Hid (∀ W, Below w11.heap.size w11 W → liesM false W (fun y => w9.heap.size ≤ y ∧ y < w11.heap.size) (lb.map memV) gm 0 ∧ W.cell? ⟨gm, lb.length * 7, none⟩ = some (.string ⟨#[114, 111, 111, 109]⟩) ∧ gm < W.heap.size) := fun W hW => ⟨liesM_keep (fun h => h) (fun y hy => hW.block y hy.2) (fun _ h => h) _ hrm, (hW.cell (p := ⟨gm, lb.length * 7, none⟩) hrg.2).trans hroom, Nat.lt_of_lt_of_le hrg.2 hW.size⟩
        have HRL : Hid (lb.length + 1 ≤ capm ∧ capm ≤ maxLen) := hrl
        have y1 : (lb.length : Int) ≤ (capm : Int) := by omega
        have y2 : (0 : Int) ≤ (lb.length : Int) := by omega
        have HB11 : Hid (∀ W, Below w11.heap.size w11 W → Below w9.heap.size w9 W) := fun W hW => B11.out.trans (hW.mono B11.out.size)
        have hh14 : Headed (some ⟨gm, 0, none⟩) (lb.map memV).length capm gm 0 := ⟨by simp; omega, hrl.2, .inr rfl, fun h => by cases h⟩
        have C14 : Hid (Calls Tryd.prog 9 #[.slice (some ⟨g, 0, none⟩) l.length cap, .slice (some ⟨gm, 0, none⟩) lb.length capm] w11 (BPost (matchB l (lb.map memV)) w11)) := by
          have h1 := HRT.out w11 B11.out
          have h2 := (HMR.out w11 (Below.refl _ _)).1
          have h3 := match_any l (lb.map memV) true false (New wr w9) _ (some ⟨g, 0, none⟩) cap g 0 (some ⟨gm, 0, none⟩) capm gm 0 w11 HHG.out h1.1 h1.2.2.1 hh14 h2 (fun y hy => hy.2) (by simp; omega) hwt (HTB.out _ (HB9.out _ B11.out))
          rw [List.length_map] at h3
          exact h3
        clear hT HAL HE HLN HLL HOB A10 g11 e11 hln hrm hrl hrg hroom o11 hh14
        go_wp2_with fail
        refine C14.out.mono ?_
        rintro e w12 ⟨rfl, b12⟩
        have HB12 : Hid (Below w11.heap.size w11 w12) := b12
        have HBW : Hid (∀ W, Below w11.heap.size w11 W → Below w.heap.size w W) := fun W hW => HB9.out W (HB11.out W hW)
        obtain ⟨g3, hg3⟩ : ∃ g3, matchB l (lb.map memV) = g3 := ⟨_, rfl⟩
        rw [hg3]
        have yg3 : (g3 != g3) = false := by cases g3 <;> rfl
        clear b12 C14 y1 y2
        go_wp2_with fail
        refine (CML.out _ (HBW.out _ HB12.out)).mono ?_
        rintro e w13 ⟨mv5, rfl, oM5, bM5⟩
        obtain ⟨ma5, mc5, mb5, mo5, rfl, hM5, lM5⟩ := own_mems oM5
        have HB13 : Hid (Below w11.heap.size w11 w13) := HB12.out.trans (bM5.mono HB12.out.size)
        have C16 : Hid (Calls Tryd.prog 11 #[.slice al l.length cl, .slice ma5 lb.length mc5] w13 (BPost g3 w13)) := by
          have h := rmatch_any l (lb.map memV) false false (Old w) _ al cl bl ol ma5 mc5 mb5 mo5 w13 HH.out (HL.out _ (HBW.out _ HB13.out)) (HOLD.out _ (HBW.out _ HB13.out)) hM5 lM5 (fun y hy => hy.2)
          rw [List.length_map, hg3] at h
          exact h
        clear hM5 lM5 oM5 bM5 hg3
        go_wp2_with fail
        refine C16.out.mono ?_
        rintro e w14 ⟨rfl, b14⟩
        have HB14 : Hid (Below w11.heap.size w11 w14) := HB13.out.trans (b14.mono HB13.out.size)
        have h17 := HRT.out w14 (HB11.out _ HB14.out)
        have C17 : Hid (Calls Tryd.prog 13 #[.slice (some ⟨g, 0, none⟩) l.length cap, .slice al l.length cl] w14 (BPost true w14)) := keptT_any l (New wr w9) (Old w) al g cap cl bl ol w14 HCAP.out.1 HCAP.out.2 h17.1 h17.2.1 h17.2.2.2 HH.out (HL.out _ (HBW.out _ HB14.out)) h17.2.2.1 (HOLD.out _ (HBW.out _ HB14.out)) hwt
        clear b14 C16 HB12 HB13 h17
        go_wp2_with fail
        refine C17.out.mono ?_
        rintro e w15 ⟨rfl, b15⟩
        have HB15 : Hid (Below w11.heap.size w11 w15) := HB14.out.trans (b15.mono HB14.out.size)
        clear b15 C17 HB14 HRT HCAP HHG
        go_wp2_with fail
        refine (CML.out _ (HBW.out _ HB15.out)).mono ?_
        rintro e w16 ⟨mv6, rfl, oM6, bM6⟩
        obtain ⟨ma6, mc6, mb6, mo6, rfl, hM6, lM6⟩ := own_mems oM6
        have HB16 : Hid (Below w11.heap.size w11 w16) := HB15.out.trans (bM6.mono HB15.out.size)
        have HNR : Hid (∀ W, Below w16.heap.size w16 W → liesM false W (fun y => w15.heap.size ≤ y ∧ y < w16.heap.size) (lb.map memV) mb6 mo6) := fun W hW => liesM_keep (fun h => h) (fun y hy => hW.block y hy.2) (fun _ h => h) _ lM6
        have HNH := hmk hM6
        have HB17 : Hid (∀ W, Below w16.heap.size w16 W → Below w11.heap.size w11 W) := fun W hW => HB16.out.trans (hW.mono HB16.out.size)
        clear hM6 lM6 oM6 bM6 HB15
        go_wp2_with fail
        go_loopw [12] (fun e12 wx => ∃ i : Nat, i ≤ lb.length ∧ e12 = .int .i64 (i : Int) ∧ Below w16.heap.size w16 wx) (fun e12 _ => lb.length - (RowKit.intOf e12).toNat)
        case atStart => exact ⟨0, by omega, rfl, Below.refl _ _⟩
        case round =>
          obtain ⟨i, hi, rfl, Bi⟩ := hrel
          have hzr := Bi.size
          by_cases hil : i < lb.length
          · have y1 : (i : Int) < lb.length := by omega
            have y2 : (i : Int) < (lb.length : Int) + 1 := by omega
            have hM := HMR.out _ (HB17.out _ Bi)
            have hmi : i < (lb.map memV).length := by simpa using hil
            obtain rfl : ma6 = some ⟨mb6, mo6, none⟩ := HNH.out.at_.resolve_left (by rw [List.length_map]; omega)
            obtain ⟨s1, hks, cs1, hr1, hv1⟩ := liesM_get hM.1 i hmi
            obtain ⟨s2, hks2, cs2, hr2, hv2⟩ := liesM_get (HNR.out _ Bi) i hmi
            have hwt1 : ((lb.map memV)[i]).2.wt ≤ 2147483648 := by
              rw [List.getElem_map]
              have := memV_wt lb[i]
              have := HLS.out _ (List.getElem_mem hil)
              omega
            obtain ⟨⟨key, v⟩, hx⟩ : ∃ p, (lb.map memV)[i] = p := ⟨_, rfl⟩
            rw [hx] at hr1 hv1 hr2 hv2 hwt1
            clear hx
            obtain ⟨k, vb, vi, vs, vl, vm⟩ := v
            have hw1 := hv1
            have hw2 := hv2
            rw [V.lies] at hw1 hw2
            obtain ⟨a1, c1, _, _, a2, c2, _, _, rfl, hk, hvi, hs, _⟩ := hw1
            obtain ⟨a3, c3, _, _, a4, c4, _, _, rfl, _⟩ := hw2
            rw [Nat.zero_add] at hr1
            obtain ⟨p, p0, p1, p2, p3, p4, p5⟩ := row7 hr1
            obtain ⟨q, q0, q1, q2, q3, q4, q5⟩ := row7 hr2
            have hgm := hM.2.2
            have hmb : mb6 < wr.heap.size := by omega
            have HTW : Hid (∀ W, Below wr.heap.size wr W → Calls Tryd.prog 15 #[.agg #[.int .i64 k, .bool vb, .int .i64 vi, .string vs, .slice a1 vl.length c1, .slice a2 vm.length c2]] W (TwinPost k vb vi vs vl vm W)) := fun W hW =>
              twin_any (V.mk k vb vi vs vl vm) _ _ W (V.lies_keep (fun h => h) (fun y hy => hW.block y (by have := hy.2; have := (HB17.out _ Bi).size; omega)) (fun _ h => h) _ hv1) (fun y hy => by have := hy.2; have := (HB17.out _ Bi).size; have := hW.size; omega) hwt1
            have HVK : Hid (∀ W, Below wr.heap.size wr W → ∀ (gl cl' gm' cm' N : Nat) (SL SM : Nat → Prop), OwnL true W N SL (.slice (some ⟨gl, 0, none⟩) (vl.length + 1) cl') (vl.map some ++ [none]) → OwnM true W N SM (.slice (some ⟨gm', 0, none⟩) (vm.length + 1) cm') (vm.map some ++ [none]) → Calls Tryd.prog 14 #[.agg #[.int .i64 k, .bool vb, .int .i64 vi, .string vs, .slice (some ⟨gl, 0, none⟩) vl.length cl', .slice (some ⟨gm', 0, none⟩) vm.length cm'], .agg #[.int .i64 k, .bool vb, .int .i64 vi, .string vs, .slice a3 vl.length c3, .slice a4 vm.length c4]] W (BPost true W)) := fun W hW gl cl' gm' cm' N SL SM oL oM => by
              have hl5 := TwinPost.lies (b := vb) hk hvi hs oL oM
              exact vkept_any (V.mk k vb vi vs vl vm) _ _ _ _ W hl5 (V.lies_keep (fun h => h) (fun y hy => hW.block y (Nat.lt_of_lt_of_le hy.2 hzr)) (fun _ h => h) _ hv2) (fun y hy => hy.2) (fun y hy => Nat.lt_of_lt_of_le hy.2 (Nat.le_trans hzr hW.size))
            clear hr1 hr2 hv1 hv2 hM s1 s2 hwt1 hks hks2 hmi
            go_wp2_with fail
            refine wp_region_held_drew (S := fun Y => Below wr.heap.size wr Y) (by kernel_rfl) ((Below.refl _ _).drew) (fun hHeld => ?_)
            (refine wpAnyH_take (i := 0) (v := ?_) rfl (by kernel_rfl) (by kernel_rfl) (by kernel_rfl) (fun _ _ _ h => h) (Or.inl ⟨by kernel_rfl, ?_⟩) (by assumption) ?_; rotate_left 1; (intro W0 hSw; (have f0 := (hSw.cell (p := ⟨gm, i * 7, none⟩) (by show gm < _; omega)).trans p; have f1 := (hSw.cell (p := ⟨gm, i * 7 + 1, none⟩) (by show gm < _; omega)).trans p0; have f2 := (hSw.cell (p := ⟨gm, i * 7 + 1 + 1, none⟩) (by show gm < _; omega)).trans p1; have f3 := (hSw.cell (p := ⟨gm, i * 7 + 1 + 2, none⟩) (by show gm < _; omega)).trans p2; have f4 := (hSw.cell (p := ⟨gm, i * 7 + 1 + 3, none⟩) (by show gm < _; omega)).trans p3; have f5 := (hSw.cell (p := ⟨gm, i * 7 + 1 + 4, none⟩) (by show gm < _; omega)).trans p4; have f6 := (hSw.cell (p := ⟨gm, i * 7 + 1 + 5, none⟩) (by show gm < _; omega)).trans p5; have h0 := (hSw.cell (p := ⟨mb6, mo6 + i * 7, none⟩) (by show mb6 < _; omega)).trans q; have h1 := (hSw.cell (p := ⟨mb6, mo6 + i * 7 + 1, none⟩) (by show mb6 < _; omega)).trans q0; have h2 := (hSw.cell (p := ⟨mb6, mo6 + i * 7 + 1 + 1, none⟩) (by show mb6 < _; omega)).trans q1; have h3 := (hSw.cell (p := ⟨mb6, mo6 + i * 7 + 1 + 2, none⟩) (by show mb6 < _; omega)).trans q2; have h4 := (hSw.cell (p := ⟨mb6, mo6 + i * 7 + 1 + 3, none⟩) (by show mb6 < _; omega)).trans q3; have h5 := (hSw.cell (p := ⟨mb6, mo6 + i * 7 + 1 + 4, none⟩) (by show mb6 < _; omega)).trans q4; have h6 := (hSw.cell (p := ⟨mb6, mo6 + i * 7 + 1 + 5, none⟩) (by show mb6 < _; omega)).trans q5); go_simp; (try with_reducible rfl)); (try simp only [Act.put, List.setIfInBounds_toArray, List.set_cons_zero, List.set_cons_succ]))
            (refine wpAnyH_take (i := 1) (v := ?_) rfl (by kernel_rfl) (by kernel_rfl) (by kernel_rfl) (fun _ _ _ h => h) (Or.inl ⟨by kernel_rfl, ?_⟩) (by assumption) ?_; rotate_left 1; (intro W0 hSw; (have f0 := (hSw.cell (p := ⟨gm, i * 7, none⟩) (by show gm < _; omega)).trans p; have f1 := (hSw.cell (p := ⟨gm, i * 7 + 1, none⟩) (by show gm < _; omega)).trans p0; have f2 := (hSw.cell (p := ⟨gm, i * 7 + 1 + 1, none⟩) (by show gm < _; omega)).trans p1; have f3 := (hSw.cell (p := ⟨gm, i * 7 + 1 + 2, none⟩) (by show gm < _; omega)).trans p2; have f4 := (hSw.cell (p := ⟨gm, i * 7 + 1 + 3, none⟩) (by show gm < _; omega)).trans p3; have f5 := (hSw.cell (p := ⟨gm, i * 7 + 1 + 4, none⟩) (by show gm < _; omega)).trans p4; have f6 := (hSw.cell (p := ⟨gm, i * 7 + 1 + 5, none⟩) (by show gm < _; omega)).trans p5; have h0 := (hSw.cell (p := ⟨mb6, mo6 + i * 7, none⟩) (by show mb6 < _; omega)).trans q; have h1 := (hSw.cell (p := ⟨mb6, mo6 + i * 7 + 1, none⟩) (by show mb6 < _; omega)).trans q0; have h2 := (hSw.cell (p := ⟨mb6, mo6 + i * 7 + 1 + 1, none⟩) (by show mb6 < _; omega)).trans q1; have h3 := (hSw.cell (p := ⟨mb6, mo6 + i * 7 + 1 + 2, none⟩) (by show mb6 < _; omega)).trans q2; have h4 := (hSw.cell (p := ⟨mb6, mo6 + i * 7 + 1 + 3, none⟩) (by show mb6 < _; omega)).trans q3; have h5 := (hSw.cell (p := ⟨mb6, mo6 + i * 7 + 1 + 4, none⟩) (by show mb6 < _; omega)).trans q4; have h6 := (hSw.cell (p := ⟨mb6, mo6 + i * 7 + 1 + 5, none⟩) (by show mb6 < _; omega)).trans q5); go_simp; (try with_reducible rfl)); (try simp only [Act.put, List.setIfInBounds_toArray, List.set_cons_zero, List.set_cons_succ]))
            (refine wpAnyH_take (i := 2) (v := ?_) rfl (by kernel_rfl) (by kernel_rfl) (by kernel_rfl) (fun _ _ _ h => h) (Or.inl ⟨by kernel_rfl, ?_⟩) (by assumption) ?_; rotate_left 1; (intro W0 hSw; (have f0 := (hSw.cell (p := ⟨gm, i * 7, none⟩) (by show gm < _; omega)).trans p; have f1 := (hSw.cell (p := ⟨gm, i * 7 + 1, none⟩) (by show gm < _; omega)).trans p0; have f2 := (hSw.cell (p := ⟨gm, i * 7 + 1 + 1, none⟩) (by show gm < _; omega)).trans p1; have f3 := (hSw.cell (p := ⟨gm, i * 7 + 1 + 2, none⟩) (by show gm < _; omega)).trans p2; have f4 := (hSw.cell (p := ⟨gm, i * 7 + 1 + 3, none⟩) (by show gm < _; omega)).trans p3; have f5 := (hSw.cell (p := ⟨gm, i * 7 + 1 + 4, none⟩) (by show gm < _; omega)).trans p4; have f6 := (hSw.cell (p := ⟨gm, i * 7 + 1 + 5, none⟩) (by show gm < _; omega)).trans p5; have h0 := (hSw.cell (p := ⟨mb6, mo6 + i * 7, none⟩) (by show mb6 < _; omega)).trans q; have h1 := (hSw.cell (p := ⟨mb6, mo6 + i * 7 + 1, none⟩) (by show mb6 < _; omega)).trans q0; have h2 := (hSw.cell (p := ⟨mb6, mo6 + i * 7 + 1 + 1, none⟩) (by show mb6 < _; omega)).trans q1; have h3 := (hSw.cell (p := ⟨mb6, mo6 + i * 7 + 1 + 2, none⟩) (by show mb6 < _; omega)).trans q2; have h4 := (hSw.cell (p := ⟨mb6, mo6 + i * 7 + 1 + 3, none⟩) (by show mb6 < _; omega)).trans q3; have h5 := (hSw.cell (p := ⟨mb6, mo6 + i * 7 + 1 + 4, none⟩) (by show mb6 < _; omega)).trans q4; have h6 := (hSw.cell (p := ⟨mb6, mo6 + i * 7 + 1 + 5, none⟩) (by show mb6 < _; omega)).trans q5); go_simp; (try with_reducible rfl)); (try simp only [Act.put, List.setIfInBounds_toArray, List.set_cons_zero, List.set_cons_succ]))
            (refine wpAnyH_take (i := 3) (v := ?_) rfl (by kernel_rfl) (by kernel_rfl) (by kernel_rfl) (fun _ _ _ h => h) (Or.inl ⟨by kernel_rfl, ?_⟩) (by assumption) ?_; rotate_left 1; (intro W0 hSw; (have f0 := (hSw.cell (p := ⟨gm, i * 7, none⟩) (by show gm < _; omega)).trans p; have f1 := (hSw.cell (p := ⟨gm, i * 7 + 1, none⟩) (by show gm < _; omega)).trans p0; have f2 := (hSw.cell (p := ⟨gm, i * 7 + 1 + 1, none⟩) (by show gm < _; omega)).trans p1; have f3 := (hSw.cell (p := ⟨gm, i * 7 + 1 + 2, none⟩) (by show gm < _; omega)).trans p2; have f4 := (hSw.cell (p := ⟨gm, i * 7 + 1 + 3, none⟩) (by show gm < _; omega)).trans p3; have f5 := (hSw.cell (p := ⟨gm, i * 7 + 1 + 4, none⟩) (by show gm < _; omega)).trans p4; have f6 := (hSw.cell (p := ⟨gm, i * 7 + 1 + 5, none⟩) (by show gm < _; omega)).trans p5; have h0 := (hSw.cell (p := ⟨mb6, mo6 + i * 7, none⟩) (by show mb6 < _; omega)).trans q; have h1 := (hSw.cell (p := ⟨mb6, mo6 + i * 7 + 1, none⟩) (by show mb6 < _; omega)).trans q0; have h2 := (hSw.cell (p := ⟨mb6, mo6 + i * 7 + 1 + 1, none⟩) (by show mb6 < _; omega)).trans q1; have h3 := (hSw.cell (p := ⟨mb6, mo6 + i * 7 + 1 + 2, none⟩) (by show mb6 < _; omega)).trans q2; have h4 := (hSw.cell (p := ⟨mb6, mo6 + i * 7 + 1 + 3, none⟩) (by show mb6 < _; omega)).trans q3; have h5 := (hSw.cell (p := ⟨mb6, mo6 + i * 7 + 1 + 4, none⟩) (by show mb6 < _; omega)).trans q4; have h6 := (hSw.cell (p := ⟨mb6, mo6 + i * 7 + 1 + 5, none⟩) (by show mb6 < _; omega)).trans q5); go_simp; (try with_reducible rfl)); (try simp only [Act.put, List.setIfInBounds_toArray, List.set_cons_zero, List.set_cons_succ]))
            (refine wpAnyH_take (i := 4) (v := ?_) rfl (by kernel_rfl) (by kernel_rfl) (by kernel_rfl) (fun _ _ _ h => h) (Or.inl ⟨by kernel_rfl, ?_⟩) (by assumption) ?_; rotate_left 1; (intro W0 hSw; (have f0 := (hSw.cell (p := ⟨gm, i * 7, none⟩) (by show gm < _; omega)).trans p; have f1 := (hSw.cell (p := ⟨gm, i * 7 + 1, none⟩) (by show gm < _; omega)).trans p0; have f2 := (hSw.cell (p := ⟨gm, i * 7 + 1 + 1, none⟩) (by show gm < _; omega)).trans p1; have f3 := (hSw.cell (p := ⟨gm, i * 7 + 1 + 2, none⟩) (by show gm < _; omega)).trans p2; have f4 := (hSw.cell (p := ⟨gm, i * 7 + 1 + 3, none⟩) (by show gm < _; omega)).trans p3; have f5 := (hSw.cell (p := ⟨gm, i * 7 + 1 + 4, none⟩) (by show gm < _; omega)).trans p4; have f6 := (hSw.cell (p := ⟨gm, i * 7 + 1 + 5, none⟩) (by show gm < _; omega)).trans p5; have h0 := (hSw.cell (p := ⟨mb6, mo6 + i * 7, none⟩) (by show mb6 < _; omega)).trans q; have h1 := (hSw.cell (p := ⟨mb6, mo6 + i * 7 + 1, none⟩) (by show mb6 < _; omega)).trans q0; have h2 := (hSw.cell (p := ⟨mb6, mo6 + i * 7 + 1 + 1, none⟩) (by show mb6 < _; omega)).trans q1; have h3 := (hSw.cell (p := ⟨mb6, mo6 + i * 7 + 1 + 2, none⟩) (by show mb6 < _; omega)).trans q2; have h4 := (hSw.cell (p := ⟨mb6, mo6 + i * 7 + 1 + 3, none⟩) (by show mb6 < _; omega)).trans q3; have h5 := (hSw.cell (p := ⟨mb6, mo6 + i * 7 + 1 + 4, none⟩) (by show mb6 < _; omega)).trans q4; have h6 := (hSw.cell (p := ⟨mb6, mo6 + i * 7 + 1 + 5, none⟩) (by show mb6 < _; omega)).trans q5); go_simp; (try with_reducible rfl)); (try simp only [Act.put, List.setIfInBounds_toArray, List.set_cons_zero, List.set_cons_succ]))
            (refine wpAnyH_take (i := 5) (v := ?_) rfl (by kernel_rfl) (by kernel_rfl) (by kernel_rfl) (fun _ _ _ h => h) (Or.inl ⟨by kernel_rfl, ?_⟩) (by assumption) ?_; rotate_left 1; (intro W0 hSw; (have f0 := (hSw.cell (p := ⟨gm, i * 7, none⟩) (by show gm < _; omega)).trans p; have f1 := (hSw.cell (p := ⟨gm, i * 7 + 1, none⟩) (by show gm < _; omega)).trans p0; have f2 := (hSw.cell (p := ⟨gm, i * 7 + 1 + 1, none⟩) (by show gm < _; omega)).trans p1; have f3 := (hSw.cell (p := ⟨gm, i * 7 + 1 + 2, none⟩) (by show gm < _; omega)).trans p2; have f4 := (hSw.cell (p := ⟨gm, i * 7 + 1 + 3, none⟩) (by show gm < _; omega)).trans p3; have f5 := (hSw.cell (p := ⟨gm, i * 7 + 1 + 4, none⟩) (by show gm < _; omega)).trans p4; have f6 := (hSw.cell (p := ⟨gm, i * 7 + 1 + 5, none⟩) (by show gm < _; omega)).trans p5; have h0 := (hSw.cell (p := ⟨mb6, mo6 + i * 7, none⟩) (by show mb6 < _; omega)).trans q; have h1 := (hSw.cell (p := ⟨mb6, mo6 + i * 7 + 1, none⟩) (by show mb6 < _; omega)).trans q0; have h2 := (hSw.cell (p := ⟨mb6, mo6 + i * 7 + 1 + 1, none⟩) (by show mb6 < _; omega)).trans q1; have h3 := (hSw.cell (p := ⟨mb6, mo6 + i * 7 + 1 + 2, none⟩) (by show mb6 < _; omega)).trans q2; have h4 := (hSw.cell (p := ⟨mb6, mo6 + i * 7 + 1 + 3, none⟩) (by show mb6 < _; omega)).trans q3; have h5 := (hSw.cell (p := ⟨mb6, mo6 + i * 7 + 1 + 4, none⟩) (by show mb6 < _; omega)).trans q4; have h6 := (hSw.cell (p := ⟨mb6, mo6 + i * 7 + 1 + 5, none⟩) (by show mb6 < _; omega)).trans q5); go_simp; (try with_reducible rfl)); (try simp only [Act.put, List.setIfInBounds_toArray, List.set_cons_zero, List.set_cons_succ]))
            (refine wpAnyH_take (i := 6) (v := ?_) rfl (by kernel_rfl) (by kernel_rfl) (by kernel_rfl) (fun _ _ _ h => h) (Or.inl ⟨by kernel_rfl, ?_⟩) (by assumption) ?_; rotate_left 1; (intro W0 hSw; (have f0 := (hSw.cell (p := ⟨gm, i * 7, none⟩) (by show gm < _; omega)).trans p; have f1 := (hSw.cell (p := ⟨gm, i * 7 + 1, none⟩) (by show gm < _; omega)).trans p0; have f2 := (hSw.cell (p := ⟨gm, i * 7 + 1 + 1, none⟩) (by show gm < _; omega)).trans p1; have f3 := (hSw.cell (p := ⟨gm, i * 7 + 1 + 2, none⟩) (by show gm < _; omega)).trans p2; have f4 := (hSw.cell (p := ⟨gm, i * 7 + 1 + 3, none⟩) (by show gm < _; omega)).trans p3; have f5 := (hSw.cell (p := ⟨gm, i * 7 + 1 + 4, none⟩) (by show gm < _; omega)).trans p4; have f6 := (hSw.cell (p := ⟨gm, i * 7 + 1 + 5, none⟩) (by show gm < _; omega)).trans p5; have h0 := (hSw.cell (p := ⟨mb6, mo6 + i * 7, none⟩) (by show mb6 < _; omega)).trans q; have h1 := (hSw.cell (p := ⟨mb6, mo6 + i * 7 + 1, none⟩) (by show mb6 < _; omega)).trans q0; have h2 := (hSw.cell (p := ⟨mb6, mo6 + i * 7 + 1 + 1, none⟩) (by show mb6 < _; omega)).trans q1; have h3 := (hSw.cell (p := ⟨mb6, mo6 + i * 7 + 1 + 2, none⟩) (by show mb6 < _; omega)).trans q2; have h4 := (hSw.cell (p := ⟨mb6, mo6 + i * 7 + 1 + 3, none⟩) (by show mb6 < _; omega)).trans q3; have h5 := (hSw.cell (p := ⟨mb6, mo6 + i * 7 + 1 + 4, none⟩) (by show mb6 < _; omega)).trans q4; have h6 := (hSw.cell (p := ⟨mb6, mo6 + i * 7 + 1 + 5, none⟩) (by show mb6 < _; omega)).trans q5); go_simp; (try with_reducible rfl)); (try simp only [Act.put, List.setIfInBounds_toArray, List.set_cons_zero, List.set_cons_succ]))
            (refine wpAnyH_take (i := 7) (v := ?_) rfl (by kernel_rfl) (by kernel_rfl) (by kernel_rfl) (fun _ _ _ h => h) (Or.inl ⟨by kernel_rfl, ?_⟩) (by assumption) ?_; rotate_left 1; (intro W0 hSw; (have f0 := (hSw.cell (p := ⟨gm, i * 7, none⟩) (by show gm < _; omega)).trans p; have f1 := (hSw.cell (p := ⟨gm, i * 7 + 1, none⟩) (by show gm < _; omega)).trans p0; have f2 := (hSw.cell (p := ⟨gm, i * 7 + 1 + 1, none⟩) (by show gm < _; omega)).trans p1; have f3 := (hSw.cell (p := ⟨gm, i * 7 + 1 + 2, none⟩) (by show gm < _; omega)).trans p2; have f4 := (hSw.cell (p := ⟨gm, i * 7 + 1 + 3, none⟩) (by show gm < _; omega)).trans p3; have f5 := (hSw.cell (p := ⟨gm, i * 7 + 1 + 4, none⟩) (by show gm < _; omega)).trans p4; have f6 := (hSw.cell (p := ⟨gm, i * 7 + 1 + 5, none⟩) (by show gm < _; omega)).trans p5; have h0 := (hSw.cell (p := ⟨mb6, mo6 + i * 7, none⟩) (by show mb6 < _; omega)).trans q; have h1 := (hSw.cell (p := ⟨mb6, mo6 + i * 7 + 1, none⟩) (by show mb6 < _; omega)).trans q0; have h2 := (hSw.cell (p := ⟨mb6, mo6 + i * 7 + 1 + 1, none⟩) (by show mb6 < _; omega)).trans q1; have h3 := (hSw.cell (p := ⟨mb6, mo6 + i * 7 + 1 + 2, none⟩) (by show mb6 < _; omega)).trans q2; have h4 := (hSw.cell (p := ⟨mb6, mo6 + i * 7 + 1 + 3, none⟩) (by show mb6 < _; omega)).trans q3; have h5 := (hSw.cell (p := ⟨mb6, mo6 + i * 7 + 1 + 4, none⟩) (by show mb6 < _; omega)).trans q4; have h6 := (hSw.cell (p := ⟨mb6, mo6 + i * 7 + 1 + 5, none⟩) (by show mb6 < _; omega)).trans q5); go_simp; (try with_reducible rfl)); (try simp only [Act.put, List.setIfInBounds_toArray, List.set_cons_zero, List.set_cons_succ]))
            (refine wpAnyH_take (i := 8) (v := ?_) rfl (by kernel_rfl) (by kernel_rfl) (by kernel_rfl) (fun _ _ _ h => h) (Or.inl ⟨by kernel_rfl, ?_⟩) (by assumption) ?_; rotate_left 1; (intro W0 hSw; (have f0 := (hSw.cell (p := ⟨gm, i * 7, none⟩) (by show gm < _; omega)).trans p; have f1 := (hSw.cell (p := ⟨gm, i * 7 + 1, none⟩) (by show gm < _; omega)).trans p0; have f2 := (hSw.cell (p := ⟨gm, i * 7 + 1 + 1, none⟩) (by show gm < _; omega)).trans p1; have f3 := (hSw.cell (p := ⟨gm, i * 7 + 1 + 2, none⟩) (by show gm < _; omega)).trans p2; have f4 := (hSw.cell (p := ⟨gm, i * 7 + 1 + 3, none⟩) (by show gm < _; omega)).trans p3; have f5 := (hSw.cell (p := ⟨gm, i * 7 + 1 + 4, none⟩) (by show gm < _; omega)).trans p4; have f6 := (hSw.cell (p := ⟨gm, i * 7 + 1 + 5, none⟩) (by show gm < _; omega)).trans p5; have h0 := (hSw.cell (p := ⟨mb6, mo6 + i * 7, none⟩) (by show mb6 < _; omega)).trans q; have h1 := (hSw.cell (p := ⟨mb6, mo6 + i * 7 + 1, none⟩) (by show mb6 < _; omega)).trans q0; have h2 := (hSw.cell (p := ⟨mb6, mo6 + i * 7 + 1 + 1, none⟩) (by show mb6 < _; omega)).trans q1; have h3 := (hSw.cell (p := ⟨mb6, mo6 + i * 7 + 1 + 2, none⟩) (by show mb6 < _; omega)).trans q2; have h4 := (hSw.cell (p := ⟨mb6, mo6 + i * 7 + 1 + 3, none⟩) (by show mb6 < _; omega)).trans q3; have h5 := (hSw.cell (p := ⟨mb6, mo6 + i * 7 + 1 + 4, none⟩) (by show mb6 < _; omega)).trans q4; have h6 := (hSw.cell (p := ⟨mb6, mo6 + i * 7 + 1 + 5, none⟩) (by show mb6 < _; omega)).trans q5); go_simp; (try with_reducible rfl)); (try simp only [Act.put, List.setIfInBounds_toArray, List.set_cons_zero, List.set_cons_succ]))
            (refine wpAnyH_take (i := 9) (v := ?_) rfl (by kernel_rfl) (by kernel_rfl) (by kernel_rfl) (fun _ _ _ h => h) (Or.inl ⟨by kernel_rfl, ?_⟩) (by assumption) ?_; rotate_left 1; (intro W0 hSw; (have f0 := (hSw.cell (p := ⟨gm, i * 7, none⟩) (by show gm < _; omega)).trans p; have f1 := (hSw.cell (p := ⟨gm, i * 7 + 1, none⟩) (by show gm < _; omega)).trans p0; have f2 := (hSw.cell (p := ⟨gm, i * 7 + 1 + 1, none⟩) (by show gm < _; omega)).trans p1; have f3 := (hSw.cell (p := ⟨gm, i * 7 + 1 + 2, none⟩) (by show gm < _; omega)).trans p2; have f4 := (hSw.cell (p := ⟨gm, i * 7 + 1 + 3, none⟩) (by show gm < _; omega)).trans p3; have f5 := (hSw.cell (p := ⟨gm, i * 7 + 1 + 4, none⟩) (by show gm < _; omega)).trans p4; have f6 := (hSw.cell (p := ⟨gm, i * 7 + 1 + 5, none⟩) (by show gm < _; omega)).trans p5; have h0 := (hSw.cell (p := ⟨mb6, mo6 + i * 7, none⟩) (by show mb6 < _; omega)).trans q; have h1 := (hSw.cell (p := ⟨mb6, mo6 + i * 7 + 1, none⟩) (by show mb6 < _; omega)).trans q0; have h2 := (hSw.cell (p := ⟨mb6, mo6 + i * 7 + 1 + 1, none⟩) (by show mb6 < _; omega)).trans q1; have h3 := (hSw.cell (p := ⟨mb6, mo6 + i * 7 + 1 + 2, none⟩) (by show mb6 < _; omega)).trans q2; have h4 := (hSw.cell (p := ⟨mb6, mo6 + i * 7 + 1 + 3, none⟩) (by show mb6 < _; omega)).trans q3; have h5 := (hSw.cell (p := ⟨mb6, mo6 + i * 7 + 1 + 4, none⟩) (by show mb6 < _; omega)).trans q4; have h6 := (hSw.cell (p := ⟨mb6, mo6 + i * 7 + 1 + 5, none⟩) (by show mb6 < _; omega)).trans q5); go_simp; (try with_reducible rfl)); (try simp only [Act.put, List.setIfInBounds_toArray, List.set_cons_zero, List.set_cons_succ]))
            (refine wpAnyH_take (i := 10) (v := ?_) rfl (by kernel_rfl) (by kernel_rfl) (by kernel_rfl) (fun _ _ _ h => h) (Or.inl ⟨by kernel_rfl, ?_⟩) (by assumption) ?_; rotate_left 1; (intro W0 hSw; (have f0 := (hSw.cell (p := ⟨gm, i * 7, none⟩) (by show gm < _; omega)).trans p; have f1 := (hSw.cell (p := ⟨gm, i * 7 + 1, none⟩) (by show gm < _; omega)).trans p0; have f2 := (hSw.cell (p := ⟨gm, i * 7 + 1 + 1, none⟩) (by show gm < _; omega)).trans p1; have f3 := (hSw.cell (p := ⟨gm, i * 7 + 1 + 2, none⟩) (by show gm < _; omega)).trans p2; have f4 := (hSw.cell (p := ⟨gm, i * 7 + 1 + 3, none⟩) (by show gm < _; omega)).trans p3; have f5 := (hSw.cell (p := ⟨gm, i * 7 + 1 + 4, none⟩) (by show gm < _; omega)).trans p4; have f6 := (hSw.cell (p := ⟨gm, i * 7 + 1 + 5, none⟩) (by show gm < _; omega)).trans p5; have h0 := (hSw.cell (p := ⟨mb6, mo6 + i * 7, none⟩) (by show mb6 < _; omega)).trans q; have h1 := (hSw.cell (p := ⟨mb6, mo6 + i * 7 + 1, none⟩) (by show mb6 < _; omega)).trans q0; have h2 := (hSw.cell (p := ⟨mb6, mo6 + i * 7 + 1 + 1, none⟩) (by show mb6 < _; omega)).trans q1; have h3 := (hSw.cell (p := ⟨mb6, mo6 + i * 7 + 1 + 2, none⟩) (by show mb6 < _; omega)).trans q2; have h4 := (hSw.cell (p := ⟨mb6, mo6 + i * 7 + 1 + 3, none⟩) (by show mb6 < _; omega)).trans q3; have h5 := (hSw.cell (p := ⟨mb6, mo6 + i * 7 + 1 + 4, none⟩) (by show mb6 < _; omega)).trans q4; have h6 := (hSw.cell (p := ⟨mb6, mo6 + i * 7 + 1 + 5, none⟩) (by show mb6 < _; omega)).trans q5); go_simp; (try with_reducible rfl)); (try simp only [Act.put, List.setIfInBounds_toArray, List.set_cons_zero, List.set_cons_succ]))
            (refine wpAnyH_take (i := 11) (v := ?_) rfl (by kernel_rfl) (by kernel_rfl) (by kernel_rfl) (fun _ _ _ h => h) (Or.inl ⟨by kernel_rfl, ?_⟩) (by assumption) ?_; rotate_left 1; (intro W0 hSw; (have f0 := (hSw.cell (p := ⟨gm, i * 7, none⟩) (by show gm < _; omega)).trans p; have f1 := (hSw.cell (p := ⟨gm, i * 7 + 1, none⟩) (by show gm < _; omega)).trans p0; have f2 := (hSw.cell (p := ⟨gm, i * 7 + 1 + 1, none⟩) (by show gm < _; omega)).trans p1; have f3 := (hSw.cell (p := ⟨gm, i * 7 + 1 + 2, none⟩) (by show gm < _; omega)).trans p2; have f4 := (hSw.cell (p := ⟨gm, i * 7 + 1 + 3, none⟩) (by show gm < _; omega)).trans p3; have f5 := (hSw.cell (p := ⟨gm, i * 7 + 1 + 4, none⟩) (by show gm < _; omega)).trans p4; have f6 := (hSw.cell (p := ⟨gm, i * 7 + 1 + 5, none⟩) (by show gm < _; omega)).trans p5; have h0 := (hSw.cell (p := ⟨mb6, mo6 + i * 7, none⟩) (by show mb6 < _; omega)).trans q; have h1 := (hSw.cell (p := ⟨mb6, mo6 + i * 7 + 1, none⟩) (by show mb6 < _; omega)).trans q0; have h2 := (hSw.cell (p := ⟨mb6, mo6 + i * 7 + 1 + 1, none⟩) (by show mb6 < _; omega)).trans q1; have h3 := (hSw.cell (p := ⟨mb6, mo6 + i * 7 + 1 + 2, none⟩) (by show mb6 < _; omega)).trans q2; have h4 := (hSw.cell (p := ⟨mb6, mo6 + i * 7 + 1 + 3, none⟩) (by show mb6 < _; omega)).trans q3; have h5 := (hSw.cell (p := ⟨mb6, mo6 + i * 7 + 1 + 4, none⟩) (by show mb6 < _; omega)).trans q4; have h6 := (hSw.cell (p := ⟨mb6, mo6 + i * 7 + 1 + 5, none⟩) (by show mb6 < _; omega)).trans q5); go_simp; (try with_reducible rfl)); (try simp only [Act.put, List.setIfInBounds_toArray, List.set_cons_zero, List.set_cons_succ]))
            (refine wpAnyH_take (i := 12) (v := ?_) rfl (by kernel_rfl) (by kernel_rfl) (by kernel_rfl) (fun _ _ _ h => h) (Or.inl ⟨by kernel_rfl, ?_⟩) (by assumption) ?_; rotate_left 1; (intro W0 hSw; (have f0 := (hSw.cell (p := ⟨gm, i * 7, none⟩) (by show gm < _; omega)).trans p; have f1 := (hSw.cell (p := ⟨gm, i * 7 + 1, none⟩) (by show gm < _; omega)).trans p0; have f2 := (hSw.cell (p := ⟨gm, i * 7 + 1 + 1, none⟩) (by show gm < _; omega)).trans p1; have f3 := (hSw.cell (p := ⟨gm, i * 7 + 1 + 2, none⟩) (by show gm < _; omega)).trans p2; have f4 := (hSw.cell (p := ⟨gm, i * 7 + 1 + 3, none⟩) (by show gm < _; omega)).trans p3; have f5 := (hSw.cell (p := ⟨gm, i * 7 + 1 + 4, none⟩) (by show gm < _; omega)).trans p4; have f6 := (hSw.cell (p := ⟨gm, i * 7 + 1 + 5, none⟩) (by show gm < _; omega)).trans p5; have h0 := (hSw.cell (p := ⟨mb6, mo6 + i * 7, none⟩) (by show mb6 < _; omega)).trans q; have h1 := (hSw.cell (p := ⟨mb6, mo6 + i * 7 + 1, none⟩) (by show mb6 < _; omega)).trans q0; have h2 := (hSw.cell (p := ⟨mb6, mo6 + i * 7 + 1 + 1, none⟩) (by show mb6 < _; omega)).trans q1; have h3 := (hSw.cell (p := ⟨mb6, mo6 + i * 7 + 1 + 2, none⟩) (by show mb6 < _; omega)).trans q2; have h4 := (hSw.cell (p := ⟨mb6, mo6 + i * 7 + 1 + 3, none⟩) (by show mb6 < _; omega)).trans q3; have h5 := (hSw.cell (p := ⟨mb6, mo6 + i * 7 + 1 + 4, none⟩) (by show mb6 < _; omega)).trans q4; have h6 := (hSw.cell (p := ⟨mb6, mo6 + i * 7 + 1 + 5, none⟩) (by show mb6 < _; omega)).trans q5); go_simp; (try with_reducible rfl)); (try simp only [Act.put, List.setIfInBounds_toArray, List.set_cons_zero, List.set_cons_succ]))
            (refine wpAnyH_take (i := 13) (v := ?_) rfl (by kernel_rfl) (by kernel_rfl) (by kernel_rfl) (fun _ _ _ h => h) (Or.inl ⟨by kernel_rfl, ?_⟩) (by assumption) ?_; rotate_left 1; (intro W0 hSw; (have f0 := (hSw.cell (p := ⟨gm, i * 7, none⟩) (by show gm < _; omega)).trans p; have f1 := (hSw.cell (p := ⟨gm, i * 7 + 1, none⟩) (by show gm < _; omega)).trans p0; have f2 := (hSw.cell (p := ⟨gm, i * 7 + 1 + 1, none⟩) (by show gm < _; omega)).trans p1; have f3 := (hSw.cell (p := ⟨gm, i * 7 + 1 + 2, none⟩) (by show gm < _; omega)).trans p2; have f4 := (hSw.cell (p := ⟨gm, i * 7 + 1 + 3, none⟩) (by show gm < _; omega)).trans p3; have f5 := (hSw.cell (p := ⟨gm, i * 7 + 1 + 4, none⟩) (by show gm < _; omega)).trans p4; have f6 := (hSw.cell (p := ⟨gm, i * 7 + 1 + 5, none⟩) (by show gm < _; omega)).trans p5; have h0 := (hSw.cell (p := ⟨mb6, mo6 + i * 7, none⟩) (by show mb6 < _; omega)).trans q; have h1 := (hSw.cell (p := ⟨mb6, mo6 + i * 7 + 1, none⟩) (by show mb6 < _; omega)).trans q0; have h2 := (hSw.cell (p := ⟨mb6, mo6 + i * 7 + 1 + 1, none⟩) (by show mb6 < _; omega)).trans q1; have h3 := (hSw.cell (p := ⟨mb6, mo6 + i * 7 + 1 + 2, none⟩) (by show mb6 < _; omega)).trans q2; have h4 := (hSw.cell (p := ⟨mb6, mo6 + i * 7 + 1 + 3, none⟩) (by show mb6 < _; omega)).trans q3; have h5 := (hSw.cell (p := ⟨mb6, mo6 + i * 7 + 1 + 4, none⟩) (by show mb6 < _; omega)).trans q4; have h6 := (hSw.cell (p := ⟨mb6, mo6 + i * 7 + 1 + 5, none⟩) (by show mb6 < _; omega)).trans q5); go_simp; (try with_reducible rfl)); (try simp only [Act.put, List.setIfInBounds_toArray, List.set_cons_zero, List.set_cons_succ]))
            (refine wpAnyH_take (i := 14) (v := ?_) rfl (by kernel_rfl) (by kernel_rfl) (by kernel_rfl) (fun _ _ _ h => h) (Or.inl ⟨by kernel_rfl, ?_⟩) (by assumption) ?_; rotate_left 1; (intro W0 hSw; (have f0 := (hSw.cell (p := ⟨gm, i * 7, none⟩) (by show gm < _; omega)).trans p; have f1 := (hSw.cell (p := ⟨gm, i * 7 + 1, none⟩) (by show gm < _; omega)).trans p0; have f2 := (hSw.cell (p := ⟨gm, i * 7 + 1 + 1, none⟩) (by show gm < _; omega)).trans p1; have f3 := (hSw.cell (p := ⟨gm, i * 7 + 1 + 2, none⟩) (by show gm < _; omega)).trans p2; have f4 := (hSw.cell (p := ⟨gm, i * 7 + 1 + 3, none⟩) (by show gm < _; omega)).trans p3; have f5 := (hSw.cell (p := ⟨gm, i * 7 + 1 + 4, none⟩) (by show gm < _; omega)).trans p4; have f6 := (hSw.cell (p := ⟨gm, i * 7 + 1 + 5, none⟩) (by show gm < _; omega)).trans p5; have h0 := (hSw.cell (p := ⟨mb6, mo6 + i * 7, none⟩) (by show mb6 < _; omega)).trans q; have h1 := (hSw.cell (p := ⟨mb6, mo6 + i * 7 + 1, none⟩) (by show mb6 < _; omega)).trans q0; have h2 := (hSw.cell (p := ⟨mb6, mo6 + i * 7 + 1 + 1, none⟩) (by show mb6 < _; omega)).trans q1; have h3 := (hSw.cell (p := ⟨mb6, mo6 + i * 7 + 1 + 2, none⟩) (by show mb6 < _; omega)).trans q2; have h4 := (hSw.cell (p := ⟨mb6, mo6 + i * 7 + 1 + 3, none⟩) (by show mb6 < _; omega)).trans q3; have h5 := (hSw.cell (p := ⟨mb6, mo6 + i * 7 + 1 + 4, none⟩) (by show mb6 < _; omega)).trans q4; have h6 := (hSw.cell (p := ⟨mb6, mo6 + i * 7 + 1 + 5, none⟩) (by show mb6 < _; omega)).trans q5); go_simp; (try with_reducible rfl)); (try simp only [Act.put, List.setIfInBounds_toArray, List.set_cons_zero, List.set_cons_succ]))
            (refine wpAnyH_take (i := 15) (v := ?_) rfl (by kernel_rfl) (by kernel_rfl) (by kernel_rfl) (fun _ _ _ h => h) (Or.inl ⟨by kernel_rfl, ?_⟩) (by assumption) ?_; rotate_left 1; (intro W0 hSw; (have f0 := (hSw.cell (p := ⟨gm, i * 7, none⟩) (by show gm < _; omega)).trans p; have f1 := (hSw.cell (p := ⟨gm, i * 7 + 1, none⟩) (by show gm < _; omega)).trans p0; have f2 := (hSw.cell (p := ⟨gm, i * 7 + 1 + 1, none⟩) (by show gm < _; omega)).trans p1; have f3 := (hSw.cell (p := ⟨gm, i * 7 + 1 + 2, none⟩) (by show gm < _; omega)).trans p2; have f4 := (hSw.cell (p := ⟨gm, i * 7 + 1 + 3, none⟩) (by show gm < _; omega)).trans p3; have f5 := (hSw.cell (p := ⟨gm, i * 7 + 1 + 4, none⟩) (by show gm < _; omega)).trans p4; have f6 := (hSw.cell (p := ⟨gm, i * 7 + 1 + 5, none⟩) (by show gm < _; omega)).trans p5; have h0 := (hSw.cell (p := ⟨mb6, mo6 + i * 7, none⟩) (by show mb6 < _; omega)).trans q; have h1 := (hSw.cell (p := ⟨mb6, mo6 + i * 7 + 1, none⟩) (by show mb6 < _; omega)).trans q0; have h2 := (hSw.cell (p := ⟨mb6, mo6 + i * 7 + 1 + 1, none⟩) (by show mb6 < _; omega)).trans q1; have h3 := (hSw.cell (p := ⟨mb6, mo6 + i * 7 + 1 + 2, none⟩) (by show mb6 < _; omega)).trans q2; have h4 := (hSw.cell (p := ⟨mb6, mo6 + i * 7 + 1 + 3, none⟩) (by show mb6 < _; omega)).trans q3; have h5 := (hSw.cell (p := ⟨mb6, mo6 + i * 7 + 1 + 4, none⟩) (by show mb6 < _; omega)).trans q4; have h6 := (hSw.cell (p := ⟨mb6, mo6 + i * 7 + 1 + 5, none⟩) (by show mb6 < _; omega)).trans q5); go_simp; (try with_reducible rfl)); (try simp only [Act.put, List.setIfInBounds_toArray, List.set_cons_zero, List.set_cons_succ]))
            (refine wpAnyH_take (i := 16) (v := ?_) rfl (by kernel_rfl) (by kernel_rfl) (by kernel_rfl) (fun _ _ _ h => h) (Or.inl ⟨by kernel_rfl, ?_⟩) (by assumption) ?_; rotate_left 1; (intro W0 hSw; (have f0 := (hSw.cell (p := ⟨gm, i * 7, none⟩) (by show gm < _; omega)).trans p; have f1 := (hSw.cell (p := ⟨gm, i * 7 + 1, none⟩) (by show gm < _; omega)).trans p0; have f2 := (hSw.cell (p := ⟨gm, i * 7 + 1 + 1, none⟩) (by show gm < _; omega)).trans p1; have f3 := (hSw.cell (p := ⟨gm, i * 7 + 1 + 2, none⟩) (by show gm < _; omega)).trans p2; have f4 := (hSw.cell (p := ⟨gm, i * 7 + 1 + 3, none⟩) (by show gm < _; omega)).trans p3; have f5 := (hSw.cell (p := ⟨gm, i * 7 + 1 + 4, none⟩) (by show gm < _; omega)).trans p4; have f6 := (hSw.cell (p := ⟨gm, i * 7 + 1 + 5, none⟩) (by show gm < _; omega)).trans p5; have h0 := (hSw.cell (p := ⟨mb6, mo6 + i * 7, none⟩) (by show mb6 < _; omega)).trans q; have h1 := (hSw.cell (p := ⟨mb6, mo6 + i * 7 + 1, none⟩) (by show mb6 < _; omega)).trans q0; have h2 := (hSw.cell (p := ⟨mb6, mo6 + i * 7 + 1 + 1, none⟩) (by show mb6 < _; omega)).trans q1; have h3 := (hSw.cell (p := ⟨mb6, mo6 + i * 7 + 1 + 2, none⟩) (by show mb6 < _; omega)).trans q2; have h4 := (hSw.cell (p := ⟨mb6, mo6 + i * 7 + 1 + 3, none⟩) (by show mb6 < _; omega)).trans q3; have h5 := (hSw.cell (p := ⟨mb6, mo6 + i * 7 + 1 + 4, none⟩) (by show mb6 < _; omega)).trans q4; have h6 := (hSw.cell (p := ⟨mb6, mo6 + i * 7 + 1 + 5, none⟩) (by show mb6 < _; omega)).trans q5); go_simp; (try with_reducible rfl)); (try simp only [Act.put, List.setIfInBounds_toArray, List.set_cons_zero, List.set_cons_succ]))
            (refine wpAnyH_take (i := 18) (v := ?_) rfl (by kernel_rfl) (by kernel_rfl) (by kernel_rfl) (fun _ _ _ h => h) (Or.inl ⟨by kernel_rfl, ?_⟩) (by assumption) ?_; rotate_left 1; (intro W0 hSw; (have f0 := (hSw.cell (p := ⟨gm, i * 7, none⟩) (by show gm < _; omega)).trans p; have f1 := (hSw.cell (p := ⟨gm, i * 7 + 1, none⟩) (by show gm < _; omega)).trans p0; have f2 := (hSw.cell (p := ⟨gm, i * 7 + 1 + 1, none⟩) (by show gm < _; omega)).trans p1; have f3 := (hSw.cell (p := ⟨gm, i * 7 + 1 + 2, none⟩) (by show gm < _; omega)).trans p2; have f4 := (hSw.cell (p := ⟨gm, i * 7 + 1 + 3, none⟩) (by show gm < _; omega)).trans p3; have f5 := (hSw.cell (p := ⟨gm, i * 7 + 1 + 4, none⟩) (by show gm < _; omega)).trans p4; have f6 := (hSw.cell (p := ⟨gm, i * 7 + 1 + 5, none⟩) (by show gm < _; omega)).trans p5; have h0 := (hSw.cell (p := ⟨mb6, mo6 + i * 7, none⟩) (by show mb6 < _; omega)).trans q; have h1 := (hSw.cell (p := ⟨mb6, mo6 + i * 7 + 1, none⟩) (by show mb6 < _; omega)).trans q0; have h2 := (hSw.cell (p := ⟨mb6, mo6 + i * 7 + 1 + 1, none⟩) (by show mb6 < _; omega)).trans q1; have h3 := (hSw.cell (p := ⟨mb6, mo6 + i * 7 + 1 + 2, none⟩) (by show mb6 < _; omega)).trans q2; have h4 := (hSw.cell (p := ⟨mb6, mo6 + i * 7 + 1 + 3, none⟩) (by show mb6 < _; omega)).trans q3; have h5 := (hSw.cell (p := ⟨mb6, mo6 + i * 7 + 1 + 4, none⟩) (by show mb6 < _; omega)).trans q4; have h6 := (hSw.cell (p := ⟨mb6, mo6 + i * 7 + 1 + 5, none⟩) (by show mb6 < _; omega)).trans q5); go_simp; (try with_reducible rfl)); (try simp only [Act.put, List.setIfInBounds_toArray, List.set_cons_zero, List.set_cons_succ]))
            (refine wpAnyH_take (i := 19) (v := ?_) rfl (by kernel_rfl) (by kernel_rfl) (by kernel_rfl) (fun _ _ _ h => h) (Or.inl ⟨by kernel_rfl, ?_⟩) (by assumption) ?_; rotate_left 1; (intro W0 hSw; (have f0 := (hSw.cell (p := ⟨gm, i * 7, none⟩) (by show gm < _; omega)).trans p; have f1 := (hSw.cell (p := ⟨gm, i * 7 + 1, none⟩) (by show gm < _; omega)).trans p0; have f2 := (hSw.cell (p := ⟨gm, i * 7 + 1 + 1, none⟩) (by show gm < _; omega)).trans p1; have f3 := (hSw.cell (p := ⟨gm, i * 7 + 1 + 2, none⟩) (by show gm < _; omega)).trans p2; have f4 := (hSw.cell (p := ⟨gm, i * 7 + 1 + 3, none⟩) (by show gm < _; omega)).trans p3; have f5 := (hSw.cell (p := ⟨gm, i * 7 + 1 + 4, none⟩) (by show gm < _; omega)).trans p4; have f6 := (hSw.cell (p := ⟨gm, i * 7 + 1 + 5, none⟩) (by show gm < _; omega)).trans p5; have h0 := (hSw.cell (p := ⟨mb6, mo6 + i * 7, none⟩) (by show mb6 < _; omega)).trans q; have h1 := (hSw.cell (p := ⟨mb6, mo6 + i * 7 + 1, none⟩) (by show mb6 < _; omega)).trans q0; have h2 := (hSw.cell (p := ⟨mb6, mo6 + i * 7 + 1 + 1, none⟩) (by show mb6 < _; omega)).trans q1; have h3 := (hSw.cell (p := ⟨mb6, mo6 + i * 7 + 1 + 2, none⟩) (by show mb6 < _; omega)).trans q2; have h4 := (hSw.cell (p := ⟨mb6, mo6 + i * 7 + 1 + 3, none⟩) (by show mb6 < _; omega)).trans q3; have h5 := (hSw.cell (p := ⟨mb6, mo6 + i * 7 + 1 + 4, none⟩) (by show mb6 < _; omega)).trans q4; have h6 := (hSw.cell (p := ⟨mb6, mo6 + i * 7 + 1 + 5, none⟩) (by show mb6 < _; omega)).trans q5); go_simp; (try with_reducible rfl)); (try simp only [Act.put, List.setIfInBounds_toArray, List.set_cons_zero, List.set_cons_succ]))
            (refine wpAnyH_take (i := 20) (v := ?_) rfl (by kernel_rfl) (by kernel_rfl) (by kernel_rfl) (fun _ _ _ h => h) (Or.inl ⟨by kernel_rfl, ?_⟩) (by assumption) ?_; rotate_left 1; (intro W0 hSw; (have f0 := (hSw.cell (p := ⟨gm, i * 7, none⟩) (by show gm < _; omega)).trans p; have f1 := (hSw.cell (p := ⟨gm, i * 7 + 1, none⟩) (by show gm < _; omega)).trans p0; have f2 := (hSw.cell (p := ⟨gm, i * 7 + 1 + 1, none⟩) (by show gm < _; omega)).trans p1; have f3 := (hSw.cell (p := ⟨gm, i * 7 + 1 + 2, none⟩) (by show gm < _; omega)).trans p2; have f4 := (hSw.cell (p := ⟨gm, i * 7 + 1 + 3, none⟩) (by show gm < _; omega)).trans p3; have f5 := (hSw.cell (p := ⟨gm, i * 7 + 1 + 4, none⟩) (by show gm < _; omega)).trans p4; have f6 := (hSw.cell (p := ⟨gm, i * 7 + 1 + 5, none⟩) (by show gm < _; omega)).trans p5; have h0 := (hSw.cell (p := ⟨mb6, mo6 + i * 7, none⟩) (by show mb6 < _; omega)).trans q; have h1 := (hSw.cell (p := ⟨mb6, mo6 + i * 7 + 1, none⟩) (by show mb6 < _; omega)).trans q0; have h2 := (hSw.cell (p := ⟨mb6, mo6 + i * 7 + 1 + 1, none⟩) (by show mb6 < _; omega)).trans q1; have h3 := (hSw.cell (p := ⟨mb6, mo6 + i * 7 + 1 + 2, none⟩) (by show mb6 < _; omega)).trans q2; have h4 := (hSw.cell (p := ⟨mb6, mo6 + i * 7 + 1 + 3, none⟩) (by show mb6 < _; omega)).trans q3; have h5 := (hSw.cell (p := ⟨mb6, mo6 + i * 7 + 1 + 4, none⟩) (by show mb6 < _; omega)).trans q4; have h6 := (hSw.cell (p := ⟨mb6, mo6 + i * 7 + 1 + 5, none⟩) (by show mb6 < _; omega)).trans q5); go_simp; (try with_reducible rfl)); (try simp only [Act.put, List.setIfInBounds_toArray, List.set_cons_zero, List.set_cons_succ]))
            (refine wpAnyH_take (i := 21) (v := ?_) rfl (by kernel_rfl) (by kernel_rfl) (by kernel_rfl) (fun _ _ _ h => h) (Or.inl ⟨by kernel_rfl, ?_⟩) (by assumption) ?_; rotate_left 1; (intro W0 hSw; (have f0 := (hSw.cell (p := ⟨gm, i * 7, none⟩) (by show gm < _; omega)).trans p; have f1 := (hSw.cell (p := ⟨gm, i * 7 + 1, none⟩) (by show gm < _; omega)).trans p0; have f2 := (hSw.cell (p := ⟨gm, i * 7 + 1 + 1, none⟩) (by show gm < _; omega)).trans p1; have f3 := (hSw.cell (p := ⟨gm, i * 7 + 1 + 2, none⟩) (by show gm < _; omega)).trans p2; have f4 := (hSw.cell (p := ⟨gm, i * 7 + 1 + 3, none⟩) (by show gm < _; omega)).trans p3; have f5 := (hSw.cell (p := ⟨gm, i * 7 + 1 + 4, none⟩) (by show gm < _; omega)).trans p4; have f6 := (hSw.cell (p := ⟨gm, i * 7 + 1 + 5, none⟩) (by show gm < _; omega)).trans p5; have h0 := (hSw.cell (p := ⟨mb6, mo6 + i * 7, none⟩) (by show mb6 < _; omega)).trans q; have h1 := (hSw.cell (p := ⟨mb6, mo6 + i * 7 + 1, none⟩) (by show mb6 < _; omega)).trans q0; have h2 := (hSw.cell (p := ⟨mb6, mo6 + i * 7 + 1 + 1, none⟩) (by show mb6 < _; omega)).trans q1; have h3 := (hSw.cell (p := ⟨mb6, mo6 + i * 7 + 1 + 2, none⟩) (by show mb6 < _; omega)).trans q2; have h4 := (hSw.cell (p := ⟨mb6, mo6 + i * 7 + 1 + 3, none⟩) (by show mb6 < _; omega)).trans q3; have h5 := (hSw.cell (p := ⟨mb6, mo6 + i * 7 + 1 + 4, none⟩) (by show mb6 < _; omega)).trans q4; have h6 := (hSw.cell (p := ⟨mb6, mo6 + i * 7 + 1 + 5, none⟩) (by show mb6 < _; omega)).trans q5); go_simp; (try with_reducible rfl)); (try simp only [Act.put, List.setIfInBounds_toArray, List.set_cons_zero, List.set_cons_succ]))
            (refine wpAnyH_take (i := 22) (v := ?_) rfl (by kernel_rfl) (by kernel_rfl) (by kernel_rfl) (fun _ _ _ h => h) (Or.inl ⟨by kernel_rfl, ?_⟩) (by assumption) ?_; rotate_left 1; (intro W0 hSw; (have f0 := (hSw.cell (p := ⟨gm, i * 7, none⟩) (by show gm < _; omega)).trans p; have f1 := (hSw.cell (p := ⟨gm, i * 7 + 1, none⟩) (by show gm < _; omega)).trans p0; have f2 := (hSw.cell (p := ⟨gm, i * 7 + 1 + 1, none⟩) (by show gm < _; omega)).trans p1; have f3 := (hSw.cell (p := ⟨gm, i * 7 + 1 + 2, none⟩) (by show gm < _; omega)).trans p2; have f4 := (hSw.cell (p := ⟨gm, i * 7 + 1 + 3, none⟩) (by show gm < _; omega)).trans p3; have f5 := (hSw.cell (p := ⟨gm, i * 7 + 1 + 4, none⟩) (by show gm < _; omega)).trans p4; have f6 := (hSw.cell (p := ⟨gm, i * 7 + 1 + 5, none⟩) (by show gm < _; omega)).trans p5; have h0 := (hSw.cell (p := ⟨mb6, mo6 + i * 7, none⟩) (by show mb6 < _; omega)).trans q; have h1 := (hSw.cell (p := ⟨mb6, mo6 + i * 7 + 1, none⟩) (by show mb6 < _; omega)).trans q0; have h2 := (hSw.cell (p := ⟨mb6, mo6 + i * 7 + 1 + 1, none⟩) (by show mb6 < _; omega)).trans q1; have h3 := (hSw.cell (p := ⟨mb6, mo6 + i * 7 + 1 + 2, none⟩) (by show mb6 < _; omega)).trans q2; have h4 := (hSw.cell (p := ⟨mb6, mo6 + i * 7 + 1 + 3, none⟩) (by show mb6 < _; omega)).trans q3; have h5 := (hSw.cell (p := ⟨mb6, mo6 + i * 7 + 1 + 4, none⟩) (by show mb6 < _; omega)).trans q4; have h6 := (hSw.cell (p := ⟨mb6, mo6 + i * 7 + 1 + 5, none⟩) (by show mb6 < _; omega)).trans q5); go_simp; (try with_reducible rfl)); (try simp only [Act.put, List.setIfInBounds_toArray, List.set_cons_zero, List.set_cons_succ]))
            have Bd : Below wr.heap.size wr wr.drew := (Below.refl _ _).drew
            refine wpAnyH_ready (rs := [17]) (by kernel_rfl) (by simp) ?_
            refine AllReadyH.cons rfl (fun K hK => ?_) AllReadyH.nil
            go_simp
            refine (HTW.out _ Bd).mono ?_
            rintro e wa ⟨gl, cl', gm', cm', SL, SM, rfl, ba, oL, oM, _, _, _⟩
            have Ba : Below wr.heap.size wr wa := Bd.trans (ba.mono Bd.size)
            have CV := hmk (HVK.out wa Ba gl cl' gm' cm' _ SL SM oL oM)
            refine hK.out _ _ Ba (fun _ => ?_)
            clear hK K
            (try simp only [Act.put, List.setIfInBounds_toArray, List.set_cons_zero, List.set_cons_succ])
            refine wpAnyH_ready (rs := [23]) (by kernel_rfl) (by simp) ?_
            refine AllReadyH.cons rfl (fun K hK => ?_) AllReadyH.nil
            go_simp
            refine CV.out.mono ?_
            rintro e wb ⟨rfl, bb_⟩
            have Bb : Below wr.heap.size wr wb := Ba.trans (bb_.mono Ba.size)
            refine hK.out _ _ Bb (fun _ => ?_)
            clear hK K
            (try simp only [Act.put, List.setIfInBounds_toArray, List.set_cons_zero, List.set_cons_succ])
            (refine wpAnyH_take (i := 24) (v := ?_) rfl (by kernel_rfl) (by kernel_rfl) (by kernel_rfl) (fun _ _ _ h => h) (Or.inl ⟨by kernel_rfl, ?_⟩) (by assumption) ?_; rotate_left 1; (intro W0 hSw; skip; go_simp; (try with_reducible rfl)); (try simp only [Act.put, List.setIfInBounds_toArray, List.set_cons_zero, List.set_cons_succ]))
            (refine wpAnyH_take (i := 25) (v := ?_) rfl (by kernel_rfl) (by kernel_rfl) (by kernel_rfl) (fun _ _ _ h => h) (Or.inl ⟨by kernel_rfl, ?_⟩) (by assumption) ?_; rotate_left 1; (intro W0 hSw; skip; go_simp; (try with_reducible rfl)); (try simp only [Act.put, List.setIfInBounds_toArray, List.set_cons_zero, List.set_cons_succ]))
            refine wpAnyH_done (by kernel_rfl) ?_ _
            (try dsimp only [Act.put, List.getElem_toArray, List.getElem_cons_succ, List.getElem_cons_zero, List.setIfInBounds_toArray, List.set_cons_zero, List.set_cons_succ])
            clear hHeld HTW HVK CV p p0 p1 p2 p3 p4 p5 q q0 q1 q2 q3 q4 q5 oL oM ba bb_
            go_wp2_with fail
            go_roundw
            case rel => exact ⟨i + 1, by omega, by go_num, Bi.trans (Bb.mono hzr)⟩
            case measure => simp [RowKit.intOf]; omega
          · obtain rfl : i = lb.length := by omega
            have y1 : ¬ (lb.length : Int) < lb.length := by omega
            have y2 : (lb.length : Int) < (lb.length : Int) + 1 := by omega
            have BW := HB17.out _ Bi
            have q := (HMR.out _ BW).2.1
            have HF := hmk (HBW.out _ BW)
            clear BW
            go_wp2_with fail
            (try simp only [Exit.inBlock, Exit.then])
            go_ret
            exact ⟨rfl, HF.out⟩
end Go.Proofs.YtagjbphadakifaaDoor
