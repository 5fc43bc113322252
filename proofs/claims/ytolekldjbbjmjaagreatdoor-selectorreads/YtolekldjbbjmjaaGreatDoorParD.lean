import Derived.Test.YtolekldjbbjmjaaGreatDoorParC
/- the selector's reader: word. -/
set_option linter.unusedSimpArgs false
set_option linter.unusedVariables false
namespace Go.Proofs.YtolekldjbbjmjaaGreatDoor
open Go.RowKit Go.Lib
/-- what reading reads beside the reader: without the table of letters -/
structure Tp (w : World) : Prop where
  t : Tb w
  s : SaidT w
  z : 4 < w.heap.size
theorem Tp.below {B : Nat} {w w' : World} (h : Tp w) (hb : Below B w w') (hB : 4 < B) : Tp w' := ⟨h.t.below hb (by omega), h.s.below hb hB, Nat.lt_of_lt_of_le h.z hb.size⟩
theorem Tp.grown {w w' : World} {g : Nat} (t : Tp w) (h : w.grownBy w' (some g)) (hg : 4 < g) : Tp w' := by
  have hz := t.z
  have b : Below 5 w w' := (Below.refl 5 w).grown h (by omega) (fun k hk => by cases hk; omega)
  exact t.below b (by omega)
/-- a word read at a place: the word and the place behind it and its blanks -/
def wrdE (l : List UInt8) (least : Nat) (x : List UInt8) (k1 : Nat) : Option (ByteArray × Nat) :=
  if least ≤ x.length ∧ wordB ⟨x.toArray⟩ = true then some (⟨x.toArray⟩, skp l k1) else none
def wrdF (l : List UInt8) (least k : Nat) : Option (ByteArray × Nat) :=
  if plnT l k = [] then (if (Q.unqAll l (k : Int)).2.2 = 0 then wrdE l least (Q.unqAll l (k : Int)).1 (Q.unqAll l (k : Int)).2.1 else none)
  else wrdE l least (plnT l k) (k + (plnT l k).length)
/-- a word was read, or not -/
def StP (R : Option (ByteArray × Nat)) (g : Nat) (s : ByteArray) (k : Nat) (w : World) (e : Ending) (w' : World) : Prop :=
  (∃ x k1, R = some (x, k1) ∧ x.size ≤ 64 ∧ k ≤ k1 ∧ e = .returned (.tuple #[.string x, .bool true]) ∧ RdP g s w w' k1) ∨ (R = none ∧ e = .returned (.tuple #[.string ⟨#[]⟩, .bool false]) ∧ RdP g s w w' k)
theorem plnT_le (l : List UInt8) (k : Nat) : (plnT l k).length ≤ l.length - k := by
  unfold plnT
  have := (List.takeWhile_prefix (fun c : UInt8 => plainN c.toNat) (l := l.drop k)).length_le
  rw [List.length_drop] at this
  exact this
theorem ofB_size (x : List UInt8) : (⟨x.toArray⟩ : ByteArray).size = x.length := by show Array.size _ = _; simp
theorem unq_ge (s : ByteArray) (k : Nat) (hk : k ≤ s.size) : (Q.unqAll s.data.toList (k : Int)).2.2 = 0 → k ≤ (Q.unqAll s.data.toList (k : Int)).2.1 := by
  rw [Q.unqAll_in s k hk]
  by_cases h : hit s k 34 = true
  · rw [if_pos h]
    intro _
    have := (Q.unq_grows (s.size + 1) (s.data.toList.drop (k + 1)) (k + 1) []).1
    omega
  · rw [if_neg h]
    intro h; simp at h
set_option maxHeartbeats 4000000 in
set_option maxRecDepth 100000 in
theorem word_at (g : Nat) (s : ByteArray) (k least : Nat) (w : World) (h : PB g s k w) (t : Tp w) (hs : s.size ≤ 140737488355000) (hk : k ≤ s.size) (hg : 4 < g) (hl1 : least ≤ 1) :
    Calls Tryz.prog 73 #[.pointer (some ⟨g, 0, none⟩), .int .i64 (least : Int)] w (StP (wrdF s.data.toList least k) g s k w) := by
  have hlt := h.lt
  have hll : s.data.toList.length = s.size := by simp
  have hpl := plnT_le s.data.toList k
  have CR : Hid (Calls Tryz.prog 55 #[.pointer (some ⟨g, 0, none⟩)] w fun e w' => e = .returned (.string (s.extract k s.size)) ∧ Below w.heap.size w w') := by
    refine (rest_any g s k w h hk).mono ?_
    rintro e w' ⟨rfl, q, rfl⟩
    exact ⟨rfl, below_drewN (Below.refl _ _) q⟩
  have CA : Hid (∀ W, Calls Tryz.prog 64 #[.string (s.extract k s.size)] W fun e w' => e = .returned (.string ⟨(plnT s.data.toList k).toArray⟩) ∧ w' = W) := fun W => by
    have c := plainpre_any (s.extract k s.size) (by have := ext_size s k; omega) W
    have e1 : plnT (s.extract k s.size).data.toList 0 = plnT s.data.toList k := by unfold plnT; rw [ext_list s k, List.drop_zero]
    rw [e1] at c
    exact c
  have CC : Hid (∀ W, Calls Tryz.prog 101 #[.string ⟨(plnT s.data.toList k).toArray⟩] W fun e w' => e = .returned (.string ⟨(plnT s.data.toList k).toArray⟩) ∧ Below W.heap.size W w') := fun W => sclone_any _ W (by rw [ofB_size]; omega)
  have CW : Hid (∀ (x : List UInt8) W, x.length ≤ s.size → Below w.heap.size w W → Calls Tryz.prog 61 #[.string ⟨x.toArray⟩] W (BPost (wordB ⟨x.toArray⟩) W)) := fun x W hx b => word_any _ W (by rw [ofB_size]; omega) (t.t.below b (by have := t.z; omega))
  have CN : Hid (∀ (n : Nat) W, Below w.heap.size w W → k + n ≤ s.size → Calls Tryz.prog 54 #[.pointer (some ⟨g, 0, none⟩), .int .i64 (n : Int)] W (PsPost g s (k + n) W)) := fun n W b hn => pass_any g s k n W (h.keep b) hs hn
  have HK : Hid (∀ W, Below w.heap.size w W → RdP g s w W k) := fun W b => ⟨hk, h.keep b, grown_below b⟩
  by_cases hp : plnT s.data.toList k = []
  · have HF : Hid (wrdF s.data.toList least k = if (Q.unqAll s.data.toList (k : Int)).2.2 = 0 then wrdE s.data.toList least (Q.unqAll s.data.toList (k : Int)).1 (Q.unqAll s.data.toList (k : Int)).2.1 else none) := by show _ = _; unfold wrdF; rw [if_pos hp]
    rw [hp] at CA CC
    have CA : Hid (∀ W, Calls Tryz.prog 64 #[.string (s.extract k s.size)] W fun e w' => e = .returned (.string ⟨#[]⟩) ∧ w' = W) := CA
    have CC : Hid (∀ W, Calls Tryz.prog 101 #[.string ⟨#[]⟩] W fun e w' => e = .returned (.string ⟨#[]⟩) ∧ Below W.heap.size W w') := CC
    have hes : (⟨#[]⟩ : ByteArray).toList.isEmpty = true := by rw [ByteArray.toList_eq]; rfl
    have hez : (⟨#[]⟩ : ByteArray).size = 0 := rfl
    clear hp hpl
    have hplc := (Q.unq_place s (k : Int)).1
    have hlc := (Q.unq_place s (k : Int)).2
    have hgr := unq_ge s k hk
    obtain ⟨r, pl, er, hR⟩ : ∃ r pl er, Q.unqAll s.data.toList (k : Int) = (r, pl, er) := ⟨_, _, _, rfl⟩
    rw [hR] at hplc hlc hgr HF
    simp only at hplc hlc hgr HF
    have CU : Hid (∀ W, Below w.heap.size w W → ∀ x : Sub W.heap.size W, Calls Tryz.prog 102 #[.string s, .int .i64 (k : Int)] x.w fun e w'' => e = .returned (.tuple #[.string ⟨r.toArray⟩, .int .i64 (pl : Int), .int .i64 (er : Int)]) ∧ ∃ y : Sub W.heap.size W, w'' = y.w) := fun W b x => by
      have hx := (t.below b t.z).below x.b (by have := b.size; omega)
      have c := unquote_in s k x.w (by omega) hk hx.s hx.t.u hx.z (Q.borne_of s k hs)
      rw [hR] at c
      refine c.mono ?_
      rintro e w' ⟨rfl, b⟩
      exact ⟨rfl, ⟨w', x.b.trans (b.mono x.b.size)⟩, rfl⟩
    have HX : Hid (∀ W, Below w.heap.size w W → (∀ x : Sub W.heap.size W, x.w.cell? ⟨g, 0, none⟩ = some (.string s)) ∧ (∀ x : Sub W.heap.size W, x.w.cell? ⟨g, 1, none⟩ = some (.int .i64 (k : Int)))) := fun W b => ⟨sub_cell (h.keep b).c0 (h.keep b).lt, sub_cell (h.keep b).c1 (h.keep b).lt⟩
    have c1 : Hid (∀ W, Below w.heap.size w W → W.cell? ⟨g, 1, none⟩ = some (.int .i64 (k : Int))) := fun W b => (h.keep b).c1
    have HR := hmk hR
    have HLC := hmk hlc
    clear h t hR hlc
    by_cases h0 : er = 0
    · subst h0
      have hrl := HLC.out rfl
      have hgr := hgr rfl
      have CNX : Hid (∀ W, Below w.heap.size w W → Calls Tryz.prog 54 #[.pointer (some ⟨g, 0, none⟩), .int .i64 ((pl : Int) - (k : Int))] W (PsPost g s pl W)) := fun W b => by
        have c := CN.out (pl - k) W b (by omega)
        have e1 : ((pl - k : Nat) : Int) = (pl : Int) - (k : Int) := by omega
        have e2 : k + (pl - k) = pl := by omega
        rw [e1, e2] at c
        exact c
      have CWX := hmk (fun W b => CW.out r W hrl b)
      have hsz : ((⟨r.toArray⟩ : ByteArray).size : Int) = r.length := by rw [ofB_size]
      clear CW CN
      obtain ⟨wb, hwb⟩ : ∃ wb, wordB ⟨r.toArray⟩ = wb := ⟨_, rfl⟩
      rw [hwb] at CWX
      have HEX : Hid (wrdE s.data.toList least r pl = if least ≤ r.length ∧ wb = true then some (⟨r.toArray⟩, skp s.data.toList pl) else none) := by
        show _ = _
        unfold wrdE
        rw [hwb]
      have HSZ : Hid (wb = true → (⟨r.toArray⟩ : ByteArray).size ≤ 64) := fun h => wordB_size (hwb.trans h)
      have HSK := hmk (skp_ge s.data.toList pl)
      clear hwb
      generalize hD : (⟨r.toArray⟩ : ByteArray) = D at *
      clear hD
      by_cases hl : least ≤ r.length
      · have yl : ¬ ((r.length : Int) < least) := by omega
        cases wb with
        | true =>
          have HFF : Hid (wrdF s.data.toList least k = some (D, skp s.data.toList pl)) := by show _ = _; rw [HF.out, if_pos rfl, HEX.out, if_pos ⟨hl, rfl⟩]
          have HS2 := hmk (HSZ.out rfl)
          clear HSZ HEX HF
          go_enter Tryz.func73, Tryz.ntmps73
          go_wp2_with fail
          refine CR.out.mono ?_
          rintro e w1 ⟨rfl, b1⟩
          go_wp2_with (go_at_call 64; refine (CA.out _).mono ?_; rintro e w2 ⟨rfl, rfl⟩)
          refine (CC.out _).mono ?_
          rintro e w3 ⟨rfl, b3⟩
          have B3 := b1.trans (b3.mono b1.size)
          have d3 := c1.out _ B3
          go_wp2_with fail
          obtain ⟨X0, X1⟩ := HX.out _ B3
          have CU3 := hmk (CU.out _ B3)
          refine wp_region_sub w3.heap.size (by kernel_rfl) (by kernel_rfl) ?_
          repeat (go_big_quiet_step (first | exact CU3.out _))
          refine wpQuiet_nil ?_
          rintro wq ⟨⟨wq', bq⟩, hq⟩
          have hq' : wq = wq' := hq
          subst hq'
          clear hq
          have B5 := B3.trans (bq.mono B3.size)
          clear X0 X1 CU3 d3
          have d4 := c1.out _ B5
          go_wp2_with fail
          refine (CWX.out _ B5).mono ?_
          rintro e w6 ⟨rfl, b6⟩
          have B6 := B5.trans (b6.mono B5.size)
          have d6 := c1.out _ B6
          clear d4
          go_wp2_with fail
          refine (CNX.out _ B6).mono ?_
          rintro e w7 ⟨rfl, r7⟩
          go_wp2_with fail
          go_ret2
          exact .inl ⟨_, _, HFF.out, HS2.out, by have := HSK.out; omega, rfl, (HK.out _ B6).trans r7⟩
        | false =>
          have HFF : Hid (wrdF s.data.toList least k = none) := by show _ = _; rw [HF.out, if_pos rfl, HEX.out, if_neg (fun h => by cases h.2)]
          clear HSZ HEX HF
          go_enter Tryz.func73, Tryz.ntmps73
          go_wp2_with fail
          refine CR.out.mono ?_
          rintro e w1 ⟨rfl, b1⟩
          go_wp2_with (go_at_call 64; refine (CA.out _).mono ?_; rintro e w2 ⟨rfl, rfl⟩)
          refine (CC.out _).mono ?_
          rintro e w3 ⟨rfl, b3⟩
          have B3 := b1.trans (b3.mono b1.size)
          have d3 := c1.out _ B3
          go_wp2_with fail
          obtain ⟨X0, X1⟩ := HX.out _ B3
          have CU3 := hmk (CU.out _ B3)
          refine wp_region_sub w3.heap.size (by kernel_rfl) (by kernel_rfl) ?_
          repeat (go_big_quiet_step (first | exact CU3.out _))
          refine wpQuiet_nil ?_
          rintro wq ⟨⟨wq', bq⟩, hq⟩
          have hq' : wq = wq' := hq
          subst hq'
          clear hq
          have B5 := B3.trans (bq.mono B3.size)
          clear X0 X1 CU3 d3
          go_wp2_with fail
          refine (CWX.out _ B5).mono ?_
          rintro e w6 ⟨rfl, b6⟩
          have B6 := B5.trans (b6.mono B5.size)
          go_wp2_with fail
          go_ret2
          exact .inr ⟨HFF.out, rfl, HK.out _ B6⟩
      · have yl : ((r.length : Int) < least) := by omega
        have HFF : Hid (wrdF s.data.toList least k = none) := by show _ = _; rw [HF.out, if_pos rfl, HEX.out, if_neg (fun h => hl h.1)]
        clear HSZ HEX HF
        go_enter Tryz.func73, Tryz.ntmps73
        go_wp2_with fail
        refine CR.out.mono ?_
        rintro e w1 ⟨rfl, b1⟩
        go_wp2_with (go_at_call 64; refine (CA.out _).mono ?_; rintro e w2 ⟨rfl, rfl⟩)
        refine (CC.out _).mono ?_
        rintro e w3 ⟨rfl, b3⟩
        have B3 := b1.trans (b3.mono b1.size)
        have d3 := c1.out _ B3
        go_wp2_with fail
        obtain ⟨X0, X1⟩ := HX.out _ B3
        have CU3 := hmk (CU.out _ B3)
        refine wp_region_sub w3.heap.size (by kernel_rfl) (by kernel_rfl) ?_
        repeat (go_big_quiet_step (first | exact CU3.out _))
        refine wpQuiet_nil ?_
        rintro wq ⟨⟨wq', bq⟩, hq⟩
        have hq' : wq = wq' := hq
        subst hq'
        clear hq
        have B5 := B3.trans (bq.mono B3.size)
        clear X0 X1 CU3 d3
        go_wp2_with fail
        go_ret2
        exact .inr ⟨HFF.out, rfl, HK.out _ B5⟩
    · have y0 : ((er : Int) != 0) = true := by rw [bne_iff_ne]; omega
      have HN : Hid (wrdF s.data.toList least k = none) := by show _ = _; rw [HF.out, if_neg h0]
      clear h0 CW CN hgr
      go_enter Tryz.func73, Tryz.ntmps73
      go_wp2_with fail
      refine CR.out.mono ?_
      rintro e w1 ⟨rfl, b1⟩
      go_wp2_with (go_at_call 64; refine (CA.out _).mono ?_; rintro e w2 ⟨rfl, rfl⟩)
      refine (CC.out _).mono ?_
      rintro e w3 ⟨rfl, b3⟩
      have B3 := b1.trans (b3.mono b1.size)
      have d3 := c1.out _ B3
      go_wp2_with fail
      obtain ⟨X0, X1⟩ := HX.out _ B3
      have CU3 := hmk (CU.out _ B3)
      refine wp_region_sub w3.heap.size (by kernel_rfl) (by kernel_rfl) ?_
      repeat (go_big_quiet_step (first | exact CU3.out _))
      refine wpQuiet_nil ?_
      rintro wq ⟨⟨wq', bq⟩, hq⟩
      have hq' : wq = wq' := hq
      subst hq'
      clear hq
      have B5 := B3.trans (bq.mono B3.size)
      clear X0 X1 CU3 d3
      go_wp2_with fail
      go_ret2
      exact .inr ⟨HN.out, rfl, HK.out _ B5⟩
  · have HF : Hid (wrdF s.data.toList least k = wrdE s.data.toList least (plnT s.data.toList k) (k + (plnT s.data.toList k).length)) := by show _ = _; unfold wrdF; rw [if_neg hp]
    have c1 : Hid (∀ W, Below w.heap.size w W → W.cell? ⟨g, 1, none⟩ = some (.int .i64 (k : Int))) := fun W b => (h.keep b).c1
    have hle : 1 ≤ (plnT s.data.toList k).length := by
      rcases Nat.eq_zero_or_pos (plnT s.data.toList k).length with e | e
      · exact absurd (List.length_eq_zero_iff.1 e) hp
      · exact e
    have hne : (⟨(plnT s.data.toList k).toArray⟩ : ByteArray).toList.isEmpty = false := by
      rw [ByteArray.toList_eq]
      cases hX : plnT s.data.toList k with
      | nil => exact absurd hX hp
      | cons x t => rfl
    have hsz : ((⟨(plnT s.data.toList k).toArray⟩ : ByteArray).size : Int) = (plnT s.data.toList k).length := by rw [ofB_size]
    clear h t hp
    generalize plnT s.data.toList k = X at *
    have CWX := hmk (fun W b => CW.out X W (by omega) b)
    have CNX : Hid (∀ (z : Int) W, z = X.length → Below w.heap.size w W → Calls Tryz.prog 54 #[.pointer (some ⟨g, 0, none⟩), .int .i64 z] W (PsPost g s (k + X.length) W)) := fun z W hz b => by subst hz; exact CN.out X.length W b (by omega)
    clear CW CN
    have yl : ¬ ((X.length : Int) < least) := by omega
    obtain ⟨wb, hwb⟩ : ∃ wb, wordB ⟨X.toArray⟩ = wb := ⟨_, rfl⟩
    rw [hwb] at CWX
    have HEX : Hid (wrdE s.data.toList least X (k + X.length) = if wb = true then some (⟨X.toArray⟩, skp s.data.toList (k + X.length)) else none) := by
      show _ = _
      unfold wrdE
      rw [hwb]
      by_cases h : wb = true
      · rw [if_pos ⟨by omega, h⟩, if_pos h]
      · rw [if_neg (fun h' => h h'.2), if_neg h]
    have HSZ : Hid (wb = true → X.length ≤ 64) := fun h => by have := wordB_size (hwb.trans h); rw [ofB_size] at this; exact this
    clear hwb
    have hlen : X.length ≤ s.size := by omega
    generalize hD : (⟨X.toArray⟩ : ByteArray) = D at *
    cases wb with
    | true =>
      have HFF : Hid (wrdF s.data.toList least k = some (D, skp s.data.toList (k + X.length))) := by show _ = _; rw [HF.out, HEX.out, if_pos rfl]
      have HS2 : Hid (D.size ≤ 64) := by have := HSZ.out rfl; show _ ≤ _; omega
      clear HSZ HEX HF
      go_enter Tryz.func73, Tryz.ntmps73
      go_wp2_with fail
      refine CR.out.mono ?_
      rintro e w1 ⟨rfl, b1⟩
      go_wp2_with (go_at_call 64; refine (CA.out _).mono ?_; rintro e w2 ⟨rfl, rfl⟩)
      refine (CC.out _).mono ?_
      rintro e w3 ⟨rfl, b3⟩
      have B3 := b1.trans (b3.mono b1.size)
      have d3 := c1.out _ B3
      go_wp2_with fail
      refine (CWX.out _ B3).mono ?_
      rintro e w4 ⟨rfl, b4⟩
      have B4 := B3.trans (b4.mono B3.size)
      have d4 := c1.out _ B4
      clear d3
      go_wp2_with fail
      refine (CNX.out _ _ (by omega) B4).mono ?_
      rintro e w5 ⟨rfl, r5⟩
      go_wp2_with fail
      go_ret2
      exact .inl ⟨_, _, HFF.out, HS2.out, by have := skp_ge s.data.toList (k + X.length); omega, rfl, (HK.out _ B4).trans r5⟩
    | false =>
      have HFF : Hid (wrdF s.data.toList least k = none) := by show _ = _; rw [HF.out, HEX.out, if_neg (by decide)]
      clear HSZ HEX HF
      go_enter Tryz.func73, Tryz.ntmps73
      go_wp2_with fail
      refine CR.out.mono ?_
      rintro e w1 ⟨rfl, b1⟩
      go_wp2_with (go_at_call 64; refine (CA.out _).mono ?_; rintro e w2 ⟨rfl, rfl⟩)
      refine (CC.out _).mono ?_
      rintro e w3 ⟨rfl, b3⟩
      have B3 := b1.trans (b3.mono b1.size)
      have d3 := c1.out _ B3
      go_wp2_with fail
      refine (CWX.out _ B3).mono ?_
      rintro e w4 ⟨rfl, b4⟩
      have B4 := B3.trans (b4.mono B3.size)
      go_wp2_with fail
      go_ret2
      exact .inr ⟨HFF.out, rfl, HK.out _ B4⟩
end Go.Proofs.YtolekldjbbjmjaaGreatDoor
