import Derived.Test.YtpmhdcmmlkjjmaaGreatDoorJoC
/- blanks at the seams of a text change nothing: plain. -/
set_option linter.unusedSimpArgs false
set_option linter.unusedVariables false
set_option maxRecDepth 100000
namespace Go.Proofs.YtpmhdcmmlkjjmaaGreatDoor
open Go.RowKit Go.Lib
/-- blanks alone -/
def bl (B : List UInt8) : Prop := ∀ c ∈ B, isBl c = true
theorem bl_nil : bl [] := fun c h => by cases h
theorem blk_over {l B r : List UInt8} {k : Nat} {c : UInt8} (h : l.drop k = B ++ c :: r) (hB : bl B) (hc : isBl c = false) : blk l k = k + B.length := by
  rw [blk, h, List.takeWhile_append_of_pos hB]
  simp [hc]
theorem blk_tail {l B : List UInt8} {k : Nat} (h : l.drop k = B) (hB : bl B) : blk l k = k + B.length := by
  have := List.takeWhile_append_of_pos (p := isBl) (l₁ := B) (l₂ := []) hB
  rw [blk, h]
  simp at this
  rw [this]
def stopN (s : List UInt8) : Prop := ∀ c, s.head? = some c → numC c = false
theorem bl_num {c : UInt8} (h : isBl c = true) : numC c = false := by
  unfold isBl at h
  simp at h
  rcases h with ((rfl | rfl) | rfl) | rfl <;> decide
theorem stopN_bl {B s : List UInt8} {c : UInt8} (hB : bl B) (hc : numC c = false) : stopN (B ++ c :: s) := fun d h => by
  cases B with
  | nil => obtain rfl : c = d := by simpa using h
           exact hc
  | cons b B =>
    obtain rfl : b = d := by simpa using h
    exact bl_num (hB b (List.mem_cons_self ..))
theorem stopN_tail {B : List UInt8} (hB : bl B) : stopN B := fun d h => by
  cases B with
  | nil => cases h
  | cons b B =>
    obtain rfl : b = d := by simpa using h
    exact bl_num (hB b (List.mem_cons_self ..))
theorem num_backN {l s : List UInt8} {k : Nat} {i : Int} (h : l.drop k = itoa i ++ s) (hs : stopN s) (hi : In64 i) : numJ l k = .ok (i, k + (itoa i).length) := by
  have hr : runJ l k = itoa i := by
    rw [runJ, h, List.takeWhile_append_of_pos (itoa_num i)]
    have : s.takeWhile numC = [] := by
      cases s with
      | nil => rfl
      | cons c s => rw [List.takeWhile_cons, if_neg (by rw [hs c rfl]; simp)]
    rw [this, List.append_nil]
  rw [numJ_yes (v := i) (by rw [hr]; exact int_back i hi), hr]
mutual
/-- the texts of a value, with blanks at their seams -/
def WV : V → List UInt8 → Prop
  | .mk k b i s l m, W => if k = 4 then ∃ B T, W = 91 :: (B ++ T) ∧ bl B ∧ WL l T else if k = 5 then ∃ B T, W = 123 :: (B ++ T) ∧ bl B ∧ WM m T else W = txtV (.mk k b i s l m)
def WL : List V → List UInt8 → Prop
  | [], T => T = [93]
  | x :: t, T => ∃ X B, WV x X ∧ bl B ∧ ((t = [] ∧ T = X ++ (B ++ [93])) ∨ (∃ B' T', t ≠ [] ∧ T = X ++ (B ++ 44 :: (B' ++ T')) ∧ bl B' ∧ WL t T'))
def WM : List Mem → List UInt8 → Prop
  | [], T => T = [125]
  | (k, x) :: t, T => ∃ B1 B2 X B, WV x X ∧ bl B1 ∧ bl B2 ∧ bl B ∧ ((t = [] ∧ T = Q.qt k.data.toList ++ (B1 ++ 58 :: (B2 ++ (X ++ (B ++ [125]))))) ∨ (∃ B' T', t ≠ [] ∧ T = Q.qt k.data.toList ++ (B1 ++ 58 :: (B2 ++ (X ++ (B ++ 44 :: (B' ++ T'))))) ∧ bl B' ∧ WM t T'))
end
theorem txt4 (b : Bool) (i : Int) (s : ByteArray) (l : List V) (m : List Mem) : ∃ r, txtV (V.mk 4 b i s l m) = 91 :: r := by rw [txtV]; simp
theorem txt5 (b : Bool) (i : Int) (s : ByteArray) (l : List V) (m : List Mem) : ∃ r, txtV (V.mk 5 b i s l m) = 123 :: r := by rw [txtV]; simp
theorem wv_head {v : V} {W : List UInt8} (h : WV v W) : ∃ c r r', W = c :: r ∧ txtV v = c :: r' ∧ isBl c = false ∧ c ≠ 93 ∧ c ≠ 125 := by
  obtain ⟨c, r, hc, h1, h2, h3⟩ := txt_head v
  obtain ⟨k, b, i, s, l, m⟩ := v
  rw [WV] at h
  split at h
  · rename_i hk
    subst hk
    obtain ⟨B, T, rfl, _⟩ := h
    obtain ⟨q, hq⟩ := txt4 b i s l m
    exact ⟨91, _, _, rfl, hq, by decide, by decide, by decide⟩
  · split at h
    · rename_i hk
      subst hk
      obtain ⟨B, T, rfl, _⟩ := h
      obtain ⟨q, hq⟩ := txt5 b i s l m
      exact ⟨123, _, _, rfl, hq, by decide, by decide, by decide⟩
    · exact ⟨c, r, r, by rw [h, hc], hc, h1, h2, h3⟩
theorem wl_head {x : V} {t : List V} {T : List UInt8} (h : WL (x :: t) T) : ∃ c r, T = c :: r ∧ isBl c = false ∧ c ≠ 93 := by
  rw [WL] at h
  obtain ⟨X, B, hX, _, h⟩ := h
  obtain ⟨c, r, _, rfl, _, h1, h2, _⟩ := wv_head hX
  rcases h with ⟨_, rfl⟩ | ⟨B', T', _, rfl, _⟩
  · exact ⟨c, _, rfl, h1, h2⟩
  · exact ⟨c, _, rfl, h1, h2⟩
theorem wm_head {x : Mem} {t : List Mem} {T : List UInt8} (h : WM (x :: t) T) : ∃ r, T = 34 :: r := by
  obtain ⟨k, x⟩ := x
  rw [WM] at h
  obtain ⟨B1, B2, X, B, _, _, _, _, h⟩ := h
  rcases h with ⟨_, rfl⟩ | ⟨B', T', _, rfl, _⟩
  · rw [Q.qt]; exact ⟨_, rfl⟩
  · rw [Q.qt]; exact ⟨_, rfl⟩
theorem goes_commaB {l B B' r : List UInt8} {k : Nat} {c d : UInt8} (h : l.drop k = B ++ 44 :: (B' ++ d :: r)) (hB : bl B) (hB' : bl B') (hd : isBl d = false) : goesJ l k c = .ok (true, k + B.length + 1 + B'.length) := by
  have hb := blk_over h hB (by decide)
  have h2 := drop_app h
  obtain ⟨_, _, h3⟩ := drop_cons h2
  rw [goesJ_more (by rw [hb, tk_at h2]; simp), hb, blk_over h3 hB' hd]
theorem goes_closeB {l B r : List UInt8} {k : Nat} {c : UInt8} (h : l.drop k = B ++ c :: r) (hB : bl B) (hb : isBl c = false) (hc : c ≠ 44) : goesJ l k c = .ok (false, k + B.length + 1) := by
  have hb := blk_over h hB hb
  have h2 := drop_app h
  rw [goesJ_end (by rw [hb, tk_at h2]; simp [hc]) (by rw [hb]; exact must_at h2)]
theorem wide_all (l : List UInt8) (D : Nat) : ∀ F : Nat,
    (∀ v o k n W s, okD D v o → n + ndV v ≤ 65536 → 2 * (l.length - k) + 1 ≤ F → l.drop k = W ++ s → WV v W → stopN s → valJ l D F o k n = .ok (v, k + W.length, n + ndV v)) ∧
    (∀ xs o k n acc T s, xs ≠ [] → (∀ x ∈ xs, okD D x o) → n + ndL xs ≤ 65536 → 2 * (l.length - k) + 2 ≤ F → l.drop k = T ++ s → WL xs T → lisJ l D F o true k n acc = .ok (acc ++ xs, k + T.length, n + ndL xs)) ∧
    (∀ xs o k n acc T s, xs ≠ [] → (∀ x ∈ xs, okD D x.2 o ∧ validD x.1.data.toList = true) → (keysM (acc ++ xs)).Nodup → n + ndM xs ≤ 65536 → 2 * (l.length - k) + 2 ≤ F → l.drop k = T ++ s → WM xs T → memJ l D F o true k n acc = .ok (acc ++ xs, k + T.length, n + ndM xs))
  | 0 => by
    refine ⟨?_, ?_, ?_⟩
    · intro v o k n W s _ _ h; omega
    · intro xs o k n acc T s _ _ _ h; omega
    · intro xs o k n acc T s _ _ _ _ h; omega
  | F + 1 => by
    obtain ⟨hV, hL, hM⟩ := wide_all l D F
    refine ⟨?_, ?_, ?_⟩
    · intro v o k n W s ho hn hF hd hW hs
      obtain ⟨c, r, r', hcW, hc, hbl, _, _⟩ := wv_head hW
      have hd0 := hd
      rw [hcW, List.cons_append] at hd0
      obtain ⟨hk, hlc, hd1⟩ := drop_cons hd0
      have he := txt_ent (k := k) hc hn ho
      rw [valJ_in hk (by rw [hlc]; exact he), hlc]
      obtain ⟨kk, b, i, x, xs, ms⟩ := v
      rw [okD] at ho
      obtain ⟨hoD, hg, hi, hol, hom⟩ := ho
      rw [goodB, Bool.and_eq_true, Bool.and_eq_true] at hg
      obtain ⟨⟨hp, hu⟩, hr⟩ := hg
      rw [plainB, decide_eq_true_iff] at hp
      obtain ⟨hk0, hk5, p1, p2, p3, p4, p5⟩ := hp
      have hndv : ndV (V.mk kk b i x xs ms) = 1 + ndL xs + ndM ms := by rw [ndV]
      rw [hndv] at hn ⊢
      rw [WV] at hW
      rcases (show kk = 0 ∨ kk = 1 ∨ kk = 2 ∨ kk = 3 ∨ kk = 4 ∨ kk = 5 by omega) with rfl | rfl | rfl | rfl | rfl | rfl
      · rw [if_neg (by decide), if_neg (by decide)] at hW
        subst hW
        obtain rfl : b = false := p1.resolve_left (by decide)
        obtain rfl : i = 0 := p2.resolve_left (by decide)
        obtain rfl := emp_of (p3.resolve_left (by decide))
        obtain rfl : xs = [] := List.length_eq_zero_iff.1 (p4.resolve_left (by decide))
        obtain rfl : ms = [] := List.length_eq_zero_iff.1 (p5.resolve_left (by decide))
        have ht : txtV (V.mk 0 false 0 ⟨#[]⟩ [] []) = [110, 117, 108, 108] := by rw [txtV]; simp
        rw [ht] at hc hd ⊢
        injection hc with hc _
        subst hc
        rw [swJ, if_pos rfl, word_back hd]
        rfl
      · rw [if_neg (by decide), if_neg (by decide)] at hW
        subst hW
        obtain rfl : i = 0 := p2.resolve_left (by decide)
        obtain rfl := emp_of (p3.resolve_left (by decide))
        obtain rfl : xs = [] := List.length_eq_zero_iff.1 (p4.resolve_left (by decide))
        obtain rfl : ms = [] := List.length_eq_zero_iff.1 (p5.resolve_left (by decide))
        cases b with
        | true =>
          have ht : txtV (V.mk 1 true 0 ⟨#[]⟩ [] []) = [116, 114, 117, 101] := by rw [txtV]; simp
          rw [ht] at hc hd ⊢
          injection hc with hc _
          subst hc
          rw [swJ, if_neg (by decide), if_pos rfl, word_back hd]
          rfl
        | false =>
          have ht : txtV (V.mk 1 false 0 ⟨#[]⟩ [] []) = [102, 97, 108, 115, 101] := by rw [txtV]; simp
          rw [ht] at hc hd ⊢
          injection hc with hc _
          subst hc
          rw [swJ, if_neg (by decide), if_neg (by decide), if_pos rfl, word_back hd]
          rfl
      · rw [if_neg (by decide), if_neg (by decide)] at hW
        subst hW
        obtain rfl : b = false := p1.resolve_left (by decide)
        obtain rfl := emp_of (p3.resolve_left (by decide))
        obtain rfl : xs = [] := List.length_eq_zero_iff.1 (p4.resolve_left (by decide))
        obtain rfl : ms = [] := List.length_eq_zero_iff.1 (p5.resolve_left (by decide))
        have ht : txtV (V.mk 2 false i ⟨#[]⟩ [] []) = itoa i := by rw [txtV]; simp
        rw [ht] at hc hd ⊢
        have hnum := itoa_num i c (by rw [hc]; exact List.mem_cons_self ..)
        have hx : ∀ d : UInt8, numC d = false → ¬ c = d := fun d hd e => by rw [e, hd] at hnum; cases hnum
        rw [swJ, if_neg (hx _ (by decide)), if_neg (hx _ (by decide)), if_neg (hx _ (by decide)), if_neg (hx _ (by decide)), if_neg (hx _ (by decide)), if_neg (hx _ (by decide)), num_backN hd hs hi]
        rfl
      · rw [if_neg (by decide), if_neg (by decide)] at hW
        subst hW
        obtain rfl : b = false := p1.resolve_left (by decide)
        obtain rfl : i = 0 := p2.resolve_left (by decide)
        obtain rfl : xs = [] := List.length_eq_zero_iff.1 (p4.resolve_left (by decide))
        obtain rfl : ms = [] := List.length_eq_zero_iff.1 (p5.resolve_left (by decide))
        have ht : txtV (V.mk 3 false 0 x [] []) = Q.qt x.data.toList := by rw [txtV]; simp
        rw [ht] at hc hd ⊢
        have hc34 : c = 34 := by rw [Q.qt] at hc; injection hc with hc _; exact hc.symm
        subst hc34
        rw [swJ, if_neg (by decide), if_neg (by decide), if_neg (by decide), if_pos rfl, quo_back hd (by omega) hu]
        rfl
      · rw [if_pos rfl] at hW
        obtain ⟨B, T, rfl, hB, hT⟩ := hW
        obtain rfl : b = false := p1.resolve_left (by decide)
        obtain rfl : i = 0 := p2.resolve_left (by decide)
        obtain rfl := emp_of (p3.resolve_left (by decide))
        obtain rfl : ms = [] := List.length_eq_zero_iff.1 (p5.resolve_left (by decide))
        injection hcW with hcW _
        subst hcW
        rw [swJ, if_neg (by decide), if_neg (by decide), if_neg (by decide), if_neg (by decide), if_pos rfl]
        rw [List.cons_append, List.append_assoc] at hd
        obtain ⟨_, _, hd2⟩ := drop_cons hd
        have hd4 := drop_app hd2
        by_cases hx0 : xs = []
        · subst hx0
          rw [WL] at hT
          subst hT
          have hb : blk l (k + 1) = k + 1 + B.length := blk_over hd2 hB (by decide)
          have hbg : begunJ l k 93 = (false, k + 1 + B.length + 1) := by rw [begunJ, hb, tk_at hd4]; rfl
          obtain ⟨F', rfl⟩ : ∃ F', F = F' + 1 := ⟨F - 1, by omega⟩
          rw [hbg, lisJ_end]
          dsimp only
          rw [ndL, ndM, List.length_cons, List.length_append]
          congr 3
          simp; omega
        · obtain ⟨y, t, rfl⟩ := List.exists_cons_of_ne_nil hx0
          obtain ⟨c2, r2, hc2, hb2, hn93⟩ := wl_head hT
          have hd3 : l.drop (k + 1) = B ++ c2 :: (r2 ++ s) := by rw [hd2, hc2]; rfl
          have hd5 : l.drop (k + 1 + B.length) = c2 :: (r2 ++ s) := drop_app hd3
          have hb : blk l (k + 1) = k + 1 + B.length := blk_over hd3 hB hb2
          have hbg : begunJ l k 93 = (true, k + 1 + B.length) := by rw [begunJ, hb, tk_at hd5]; simp [hn93]
          have hL1 := hL (y :: t) (o + 1) (k + 1 + B.length) (n + 1) [] T s hx0 (okDL_iff.1 hol) (by omega) (by omega) hd4 hT
          rw [hbg]
          dsimp only
          rw [hL1]
          dsimp only
          rw [List.nil_append, List.length_cons, List.length_append, ndM]
          congr 3
          · omega
          · omega
      · rw [if_neg (by decide), if_pos rfl] at hW
        obtain ⟨B, T, rfl, hB, hT⟩ := hW
        obtain rfl : b = false := p1.resolve_left (by decide)
        obtain rfl : i = 0 := p2.resolve_left (by decide)
        obtain rfl := emp_of (p3.resolve_left (by decide))
        obtain rfl : xs = [] := List.length_eq_zero_iff.1 (p4.resolve_left (by decide))
        injection hcW with hcW _
        subst hcW
        rw [swJ, if_neg (by decide), if_neg (by decide), if_neg (by decide), if_neg (by decide), if_neg (by decide), if_pos rfl]
        rw [List.cons_append, List.append_assoc] at hd
        obtain ⟨_, _, hd2⟩ := drop_cons hd
        have hd4 := drop_app hd2
        obtain ⟨hsrt, hnd, hval⟩ := sorted_rise hr
        by_cases hx0 : ms = []
        · subst hx0
          rw [WM] at hT
          subst hT
          have hb : blk l (k + 1) = k + 1 + B.length := blk_over hd2 hB (by decide)
          have hbg : begunJ l k 125 = (false, k + 1 + B.length + 1) := by rw [begunJ, hb, tk_at hd4]; rfl
          obtain ⟨F', rfl⟩ : ∃ F', F = F' + 1 := ⟨F - 1, by omega⟩
          rw [hbg, memJ_end]
          dsimp only
          rw [hsrt, ndL, ndM, List.length_cons, List.length_append]
          congr 3
          simp; omega
        · obtain ⟨y, t, rfl⟩ := List.exists_cons_of_ne_nil hx0
          obtain ⟨r2, hc2⟩ := wm_head hT
          have hd3 : l.drop (k + 1) = B ++ 34 :: (r2 ++ s) := by rw [hd2, hc2]; rfl
          have hd5 : l.drop (k + 1 + B.length) = 34 :: (r2 ++ s) := drop_app hd3
          have hb : blk l (k + 1) = k + 1 + B.length := blk_over hd3 hB (by decide)
          have hbg : begunJ l k 125 = (true, k + 1 + B.length) := by rw [begunJ, hb, tk_at hd5]; rfl
          have hM1 := hM (y :: t) (o + 1) (k + 1 + B.length) (n + 1) [] T s hx0 (fun z hz => ⟨okDM_iff.1 hom z hz, hval z hz⟩) (by rw [List.nil_append]; exact hnd) (by omega) (by omega) hd4 hT
          rw [hbg]
          dsimp only
          rw [hM1]
          dsimp only
          rw [List.nil_append, hsrt, List.length_cons, List.length_append, ndL]
          congr 3
          · omega
          · omega
    · intro xs o k n acc T s hne hok hn hF hd hT
      obtain ⟨y, t, rfl⟩ := List.exists_cons_of_ne_nil hne
      rw [ndL] at hn
      rw [WL] at hT
      obtain ⟨X, B, hX, hB, hT⟩ := hT
      obtain ⟨c1, r1, _, hc1, _⟩ := wv_head hX
      have hlen : 1 ≤ X.length := by rw [hc1]; simp
      rcases hT with ⟨rfl, rfl⟩ | ⟨B', T', ht, rfl, hB', hT'⟩
      · rw [List.append_assoc, List.append_assoc] at hd
        have hd' : l.drop k = X ++ (B ++ 93 :: s) := hd
        have hv := hV y o k n X (B ++ 93 :: s) (hok y (List.mem_cons_self ..)) (by omega) (by omega) hd' hX (stopN_bl hB (by decide))
        have hd2 := drop_app hd'
        obtain ⟨F', rfl⟩ : ∃ F', F = F' + 1 := ⟨F - 1, by omega⟩
        rw [lisJ_on hv (goes_closeB hd2 hB (by decide) (by decide)), lisJ_end, ndL, ndL]
        congr 3
        simp; omega
      · obtain ⟨z, t', rfl⟩ := List.exists_cons_of_ne_nil ht
        obtain ⟨c2, r2, hc2, hb2, _⟩ := wl_head hT'
        rw [List.append_assoc, List.append_assoc, List.cons_append, List.append_assoc] at hd
        have hv := hV y o k n X _ (hok y (List.mem_cons_self ..)) (by omega) (by omega) hd hX (stopN_bl hB (by decide))
        have hd2 := drop_app hd
        have hg := goes_commaB (c := 93) (d := c2) (r := r2 ++ s) (by rw [hd2, hc2]; rfl) hB hB' hb2
        have hd3 := drop_app hd2
        obtain ⟨_, _, hd4⟩ := drop_cons hd3
        have hd5 := drop_app hd4
        have hL1 := hL (z :: t') o (k + X.length + B.length + 1 + B'.length) (n + ndV y) (acc ++ [y]) T' s (by simp) (fun x hx => hok x (List.mem_cons_of_mem _ hx)) (by omega) (by omega) hd5 hT'
        rw [lisJ_on hv hg]
        dsimp only
        rw [hL1]
        rw [List.append_assoc, show ndL (y :: z :: t') = ndV y + ndL (z :: t') by rw [ndL]]
        congr 3
        · simp; omega
        · omega
    · intro xs o k n acc T s hne hok hnd hn hF hd hT
      obtain ⟨⟨key, y⟩, t, rfl⟩ := List.exists_cons_of_ne_nil hne
      rw [ndM] at hn
      have hkv := (hok (key, y) (List.mem_cons_self ..)).2
      have hyo := (hok (key, y) (List.mem_cons_self ..)).1
      dsimp only at hkv hyo
      have hni : key.data.toList ∉ (acc.map fun x => x.1.data.toList) := fun hm => by
        rw [keysM, List.map_append] at hnd
        exact (List.nodup_append.1 hnd).2.2 _ hm _ (by rw [List.map_cons]; exact List.mem_cons_self ..) rfl
      rw [WM] at hT
      obtain ⟨B1, B2, X, B, hX, hB1, hB2, hB, hT⟩ := hT
      obtain ⟨c2, r2, _, hc2, _, hb2, _⟩ := wv_head hX
      have hlen1 : 1 ≤ X.length := by rw [hc2]; simp
      have hkey : ∀ rest, l.drop k = Q.qt key.data.toList ++ (B1 ++ 58 :: (B2 ++ (X ++ rest))) → keyJ l k (acc.map fun x => x.1.data.toList) = .ok (key, k + (Q.qt key.data.toList).length + B1.length + 1 + B2.length) ∧ l.drop (k + (Q.qt key.data.toList).length + B1.length + 1 + B2.length) = X ++ rest := fun rest h => by
        have h34 : ∃ q, Q.qt key.data.toList = 34 :: q := ⟨_, rfl⟩
        obtain ⟨q, hq⟩ := h34
        have h0 := h
        rw [hq, List.cons_append] at h0
        obtain ⟨hk, e, _⟩ := drop_cons h0
        have hd2 := drop_app h
        have hb1 := blk_over hd2 hB1 (by decide)
        have hd3 := drop_app hd2
        obtain ⟨_, _, hd4⟩ := drop_cons hd3
        have hd5 := hd4
        rw [hc2, List.cons_append] at hd5
        have hb3 := blk_over hd5 hB2 hb2
        have hd6 := drop_app hd4
        rw [keyJ_ok hk e (quo_back h (by omega) hkv) hni (by rw [hb1]; exact must_at hd3), hb3]
        exact ⟨rfl, hd6⟩
      rcases hT with ⟨rfl, rfl⟩ | ⟨B', T', ht, rfl, hB', hT'⟩
      · have hd' : l.drop k = Q.qt key.data.toList ++ (B1 ++ 58 :: (B2 ++ (X ++ (B ++ 125 :: s)))) := by rw [hd]; simp
        obtain ⟨hkj, hdv⟩ := hkey _ hd'
        have hv := hV y o _ n X (B ++ 125 :: s) hyo (by omega) (by omega) hdv hX (stopN_bl hB (by decide))
        have hd2 := drop_app hdv
        obtain ⟨F', rfl⟩ : ∃ F', F = F' + 1 := ⟨F - 1, by omega⟩
        rw [memJ_on hkj hv (goes_closeB hd2 hB (by decide) (by decide)), memJ_end, ndM, ndM]
        congr 3
        simp; omega
      · obtain ⟨z, t', rfl⟩ := List.exists_cons_of_ne_nil ht
        obtain ⟨r3, hr3⟩ := wm_head hT'
        have hd' : l.drop k = Q.qt key.data.toList ++ (B1 ++ 58 :: (B2 ++ (X ++ (B ++ 44 :: (B' ++ (T' ++ s)))))) := by rw [hd]; simp
        obtain ⟨hkj, hdv⟩ := hkey _ hd'
        have hv := hV y o _ n X _ hyo (by omega) (by omega) hdv hX (stopN_bl hB (by decide))
        have hd2 := drop_app hdv
        have hg := goes_commaB (c := 125) (d := 34) (r := r3 ++ s) (l := l) (by rw [hd2, hr3]; rfl) hB hB' (by decide)
        have hd3 := drop_app hd2
        obtain ⟨_, _, hd4⟩ := drop_cons hd3
        have hd5 := drop_app hd4
        have hM1 := hM (z :: t') o _ (n + ndV y) (acc ++ [(key, y)]) T' s (by simp) (fun x hx => hok x (List.mem_cons_of_mem _ hx)) (by rw [List.append_assoc]; exact hnd) (by omega) (by omega) hd5 hT'
        rw [memJ_on hkj hv hg]
        dsimp only
        rw [hM1]
        rw [List.append_assoc, show ndM ((key, y) :: z :: t') = ndV y + ndM (z :: t') by rw [ndM]]
        congr 3
        · simp; omega
        · omega
/-- a text with blanks at its seams is read as the value -/
theorem par_wide {v : V} {B W B' : List UInt8} (ho : okD 32 v 0) (hn : ndV v ≤ 65536) (hW : WV v W) (hB : bl B) (hB' : bl B') (hl : (B ++ (W ++ B')).length ≤ 1048576) : parJ (B ++ (W ++ B')) 32 = (v, -1, 0) := by
  obtain ⟨c, r, _, hc, _, hb, _⟩ := wv_head hW
  have h0 : blk (B ++ (W ++ B')) 0 = 0 + B.length := blk_over (c := c) (r := r ++ B') (by rw [List.drop_zero, hc]; rfl) hB hb
  have hd0 : (B ++ (W ++ B')).drop (0 + B.length) = W ++ B' := drop_app (by rw [List.drop_zero])
  have h := (wide_all (B ++ (W ++ B')) 32 (2 * (B ++ (W ++ B')).length + 1)).1 v 0 (0 + B.length) 0 W B' ho (by omega) (by omega) hd0 hW (stopN_tail hB')
  refine parJ_ok (by omega) (by omega) ?_
  rw [whoJ_ok (x := (v, 0 + B.length + W.length, 0 + ndV v)) (by rw [h0]; exact h)]
  dsimp only
  rw [blk_tail (drop_app hd0) hB']
  simp only [List.length_append]
  omega
end Go.Proofs.YtpmhdcmmlkjjmaaGreatDoor
