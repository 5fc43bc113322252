import Derived.Test.YtihcggepeadklaaGreatDoorG27
/- path's reader: quoted, name. -/
set_option linter.unusedSimpArgs false
set_option linter.unusedVariables false
namespace Go.Proofs.YtihcggepeadklaaGreatDoor
open Go.RowKit Go.Lib
/-- the reader behind a call -/
structure RdP (g : Nat) (s : ByteArray) (w w' : World) (k : Nat) : Prop where
  le : k ≤ s.size
  pb : PB g s k w'
  gr : w.grownBy w' (some g)
theorem RdP.trans {g : Nat} {s : ByteArray} {w w1 w2 : World} {k k2 : Nat} (h : RdP g s w w1 k) (h2 : RdP g s w1 w2 k2) : RdP g s w w2 k2 := ⟨h2.le, h2.pb, grown_trans h.gr h2.gr⟩
theorem Td.grown {w w' : World} {g : Nat} (t : Td w) (h : w.grownBy w' (some g)) (hg : 9 < g) : Td w' := by
  have hz := t.z
  have b : Below 10 w w' := (Below.refl 10 w).grown h (by omega) (fun k hk => by cases hk; omega)
  exact t.below b (by omega) b.size
theorem below_dq {w w1 : World} {q : Nat} (h : Below (w.drewN q).heap.size (w.drewN q) w1) : Below w.heap.size w w1 := by
  have e := drewN_size w q
  rw [e] at h
  exact (below_drewN (Below.refl _ w) q).trans h
/-- a string was read, or not -/
def StP (R : Option (ByteArray × Nat)) (g : Nat) (s : ByteArray) (w : World) (e : Ending) (w' : World) : Prop :=
  (∃ x k1, R = some (x, k1) ∧ e = .returned (.tuple #[.string x, .bool true]) ∧ RdP g s w w' k1) ∨ (R = none ∧ ∃ k1, e = .returned (.tuple #[.string ⟨#[]⟩, .bool false]) ∧ RdP g s w w' k1)
theorem quoF_yes {l : List UInt8} {k : Nat} {r : List UInt8} {pl er : Nat} (h : Q.unqAll l (k : Int) = (r, pl, er)) (h0 : er = 0) : quoF l k = some (⟨r.toArray⟩, pl) := by rw [quoF, h, if_pos h0]
theorem quoF_no {l : List UInt8} {k : Nat} {r : List UInt8} {pl er : Nat} (h : Q.unqAll l (k : Int) = (r, pl, er)) (h0 : er ≠ 0) : quoF l k = none := by rw [quoF, h, if_neg h0]
set_option maxHeartbeats 4000000 in
set_option maxRecDepth 100000 in
theorem pquo_any (g : Nat) (s : ByteArray) (k : Nat) (w : World) (h : PB g s k w) (t : Td w) (hs : s.size ≤ 140737488355000) (hk : k ≤ s.size) :
    Calls Tryz.prog 109 #[.pointer (some ⟨g, 0, none⟩)] w (StP (quoF s.data.toList k) g s w) := by
  have hlt := h.lt
  have X0 : ∀ x : Sub w.heap.size w, x.w.cell? ⟨g, 0, none⟩ = some (.string s) := sub_cell h.c0 hlt
  have X1 : ∀ x : Sub w.heap.size w, x.w.cell? ⟨g, 1, none⟩ = some (.int .i64 (k : Int)) := sub_cell h.c1 hlt
  obtain ⟨r, pl, er, hR⟩ : ∃ r pl er, Q.unqAll s.data.toList (k : Int) = (r, pl, er) := ⟨_, _, _, rfl⟩
  have CU : Hid (∀ x : Sub w.heap.size w, Calls Tryz.prog 134 #[.string s, .int .i64 (k : Int)] x.w fun e w'' => e = .returned (.tuple #[.string ⟨r.toArray⟩, .int .i64 (pl : Int), .int .i64 (er : Int)]) ∧ ∃ y : Sub w.heap.size w, w'' = y.w) := fun x => by
    have hx := t.below x.b t.z x.b.size
    have c := unquote_in s k x.w (by omega) hk hx.s hx.u hx.z (Q.borne_of s k hs)
    rw [hR] at c
    refine c.mono ?_
    rintro e w' ⟨rfl, b⟩
    exact ⟨rfl, ⟨w', x.b.trans (b.mono x.b.size)⟩, rfl⟩
  have hpl := (Q.unq_place s (k : Int)).1
  rw [hR] at hpl
  simp only at hpl
  have HR := hmk hR
  have HH := hmk h
  clear h hR t
  by_cases h0 : er = 0
  · have y0 : ((er : Int) != 0) = false := by rw [bne_eq_false_iff_eq]; omega
    have HQ := hmk (quoF_yes HR.out h0)
    clear h0
    go_enter Tryz.func109, Tryz.ntmps109
    go_wp2_with fail
    refine wp_region_sub w.heap.size (by kernel_rfl) (by kernel_rfl) ?_
    repeat (go_big_quiet_step (first | exact CU.out _))
    refine wpQuiet_nil ?_
    rintro wq ⟨⟨wq', bq⟩, hq⟩
    have hq' : wq = wq' := hq
    subst hq'
    clear hq
    have P1 := HH.out.keep bq
    have f1 := P1.fz 1
    have c1 := P1.c1
    go_wp2_with fail
    go_ret2
    exact .inl ⟨_, pl, HQ.out, rfl, hpl, P1.put pl _ rfl, grown_set (grown_belowS bq g) _ _⟩
  · have y0 : ((er : Int) != 0) = true := by rw [bne_iff_ne]; omega
    have HQ := hmk (quoF_no HR.out h0)
    clear h0
    go_enter Tryz.func109, Tryz.ntmps109
    go_wp2_with fail
    refine wp_region_sub w.heap.size (by kernel_rfl) (by kernel_rfl) ?_
    repeat (go_big_quiet_step (first | exact CU.out _))
    refine wpQuiet_nil ?_
    rintro wq ⟨⟨wq', bq⟩, hq⟩
    have hq' : wq = wq' := hq
    subst hq'
    clear hq
    go_wp2_with fail
    go_ret2
    exact .inr ⟨HQ.out, k, rfl, hk, HH.out.keep bq, grown_belowS bq g⟩
theorem sclone_any (s : ByteArray) (w : World) (hs : s.size ≤ 281474976710656) : Calls Tryz.prog 108 #[.string s] w fun e w' => e = .returned (.string s) ∧ Below w.heap.size w w' := by
  have c := hmk (Any.stringslite_Clone Tryz.lays316 s w hs)
  go_enter Tryz.func108, Tryz.ntmps108
  go_wp2_with fail
  refine c.out.mono ?_
  rintro e w' ⟨rfl, b⟩
  go_wp2_with fail
  go_ret
  exact ⟨rfl, b⟩
theorem ext_to (s : ByteArray) (k n : Nat) : (s.extract k s.size).extract 0 n = ⟨((s.data.toList.drop k).take n).toArray⟩ := by
  apply ByteArray.ext
  apply Array.ext'
  have := ext_list s k
  simp only [ByteArray.data_extract, Array.toList_extract] at this ⊢
  simp [List.extract] at this ⊢
  rw [this]
set_option maxHeartbeats 4000000 in
set_option maxRecDepth 100000 in
theorem pname_any (g : Nat) (s : ByteArray) (k : Nat) (w : World) (h : PB g s k w) (t : Td w) (hs : s.size ≤ 140737488355000) (hk : k ≤ s.size) (hg : 9 < g) :
    Calls Tryz.prog 69 #[.pointer (some ⟨g, 0, none⟩)] w (StP (namF s.data.toList k) g s w) := by
  have c0 := h.c0
  have c1 := h.c1
  have hsl := slice_from s k hk
  have hlt := h.lt
  have hxs := ext_size s k
  have hpn := (prefN_le (s.data.toList.drop k) 0).2
  have hle : (s.data.toList.drop k).length = s.size - k := by simp
  have CA : Hid (∀ W, Calls Tryz.prog 62 #[.string (s.extract k s.size)] W fun e w' => e = .returned (.int .i64 (prefN 0 (s.data.toList.drop k) : Int)) ∧ Below W.heap.size W w') := fun W => by
    have c := ahead_any (s.extract k s.size) W (by omega)
    rw [ext_list s k] at c
    exact c
  have CQ : Hid (∀ W, Below w.heap.size w W → Calls Tryz.prog 109 #[.pointer (some ⟨g, 0, none⟩)] W (StP (quoF s.data.toList k) g s W)) := fun W b => pquo_any g s k W (h.keep b) (t.below b t.z b.size) hs hk
  have HT := hmk t
  have HH := hmk h
  have HE := hmk (ext_to s k (prefN 0 (s.data.toList.drop k)))
  have HN : Hid (namF s.data.toList k = if 0 < prefN 0 (s.data.toList.drop k) then some (⟨((s.data.toList.drop k).take (prefN 0 (s.data.toList.drop k))).toArray⟩, k + prefN 0 (s.data.toList.drop k)) else quoF s.data.toList k) := rfl
  clear h t
  generalize prefN 0 (s.data.toList.drop k) = n at *
  generalize hY : s.extract k s.size = Y at *
  have HY := hmk hY
  clear hY
  by_cases h0 : 0 < n
  · have y0 : (n : Int) > 0 := by omega
    have C8 : Hid (∀ W, Calls Tryz.prog 108 #[.string (Y.extract 0 n)] W fun e w' => e = .returned (.string (Y.extract 0 n)) ∧ Below W.heap.size W w') := fun W => sclone_any _ W (by rw [HE.out]; show ((s.data.toList.drop k).take n).toArray.size ≤ _; simp; omega)
    have hn2 : (n : Int) ≤ Y.size := by omega
    go_enter Tryz.func69, Tryz.ntmps69
    go_wp2_with fail
    go_quiet (fail)
    go_wp2_with fail
    refine (CA.out _).mono ?_
    rintro e w1 ⟨rfl, b1⟩
    have b0 : Below w.heap.size w w1 := below_dq b1
    have P1 := HH.out.keep b0
    have d1 := P1.c1
    have f1 := P1.fz 1
    go_wp2_with fail
    refine (C8.out _).mono ?_
    rintro e w2 ⟨rfl, b2⟩
    go_wp2_with fail
    go_ret2
    have P2 := P1.put (k + n) ((k : Int) + n) (by omega)
    refine .inl ⟨Y.extract 0 n, k + n, by rw [HN.out, if_pos h0, HE.out], rfl, by omega, P2.keep b2, ?_⟩
    exact grown_trans (grown_set (grown_belowS b0 g) _ _) (grown_belowS b2 g)
  · have y0 : ¬ (n : Int) > 0 := by omega
    go_enter Tryz.func69, Tryz.ntmps69
    go_wp2_with fail
    go_quiet (fail)
    go_wp2_with fail
    refine (CA.out _).mono ?_
    rintro e w1 ⟨rfl, b1⟩
    have b0 : Below w.heap.size w w1 := below_dq b1
    have HB := hmk b0
    go_wp2_with fail
    refine (CQ.out _ b0).mono ?_
    rintro e w2 (⟨x, k1, hq, rfl, r⟩ | ⟨hq, k1, rfl, r⟩)
    · have HQ := hmk hq
      clear hq
      go_wp2_with fail
      go_ret2
      exact .inl ⟨x, k1, by rw [HN.out, if_neg h0, HQ.out], rfl, r.le, r.pb, grown_trans (grown_belowS HB.out g) r.gr⟩
    · have HQ := hmk hq
      clear hq
      go_wp2_with fail
      go_ret2
      exact .inr ⟨by rw [HN.out, if_neg h0, HQ.out], k1, rfl, r.le, r.pb, grown_trans (grown_belowS HB.out g) r.gr⟩
end Go.Proofs.YtihcggepeadklaaGreatDoor
