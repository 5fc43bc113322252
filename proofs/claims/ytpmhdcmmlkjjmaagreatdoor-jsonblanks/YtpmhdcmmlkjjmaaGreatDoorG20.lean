/- joined: JrE JrF -/
import Derived.Test.YtpmhdcmmlkjjmaaGreatDoorG19
/- json.integer, the reader's number. -/
set_option linter.unusedSimpArgs false
set_option linter.unusedVariables false
set_option maxRecDepth 100000
namespace Go.Proofs.YtpmhdcmmlkjjmaaGreatDoor
open Go.RowKit Go.Lib
theorem intJ_plus {r : List UInt8} (h : hasPrefix r [43] = true) : intJ r = none := by rw [intJ, if_pos h]
theorem intJ_zero {r : List UInt8} (h : hasPrefix r [43] = false) (h2 : hasPrefix (trimPrefix r [45]) [48] = true) (h3 : 1 < (trimPrefix r [45]).length) : intJ r = none := by
  rw [intJ, if_neg (by rw [h]; simp), if_pos ⟨h2, h3⟩]
theorem intJ_ok {r : List UInt8} {v : Int} (h : hasPrefix r [43] = false) (h2 : ¬ (hasPrefix (trimPrefix r [45]) [48] = true ∧ 1 < (trimPrefix r [45]).length)) (h3 : parseIntB 64 r = .ok v) : intJ r = some v := by
  rw [intJ, if_neg (by rw [h]; simp), if_neg h2, h3]
theorem intJ_no {r : List UInt8} (h : hasPrefix r [43] = false) (h2 : ¬ (hasPrefix (trimPrefix r [45]) [48] = true ∧ 1 < (trimPrefix r [45]).length)) (h3 : ∀ u, parseIntB 64 r ≠ .ok u) : intJ r = none := by
  rw [intJ, if_neg (by rw [h]; simp), if_neg h2]
  cases hp : parseIntB 64 r with
  | ok v => exact absurd hp (h3 v)
  | «syntax» => rfl
  | range => rfl
theorem intJ_in {r : List UInt8} {v : Int} (h : intJ r = some v) : In64 v := by
  unfold intJ at h
  split at h
  · cases h
  · split at h
    · cases h
    · cases hp : parseIntB 64 r with
      | ok u => rw [hp] at h; cases h; exact parse_in64 hp
      | «syntax» => rw [hp] at h; cases h
      | range => rw [hp] at h; cases h
/-- the number beside integer's answer -/
def ivJ (r : List UInt8) : Int := if hasPrefix r [43] = true then 0 else if hasPrefix (trimPrefix r [45]) [48] = true ∧ 1 < (trimPrefix r [45]).length then 0 else pvJ r
theorem ivJ_plus {r : List UInt8} (h : hasPrefix r [43] = true) : ivJ r = 0 := by rw [ivJ, if_pos h]
theorem ivJ_zero {r : List UInt8} (h : hasPrefix r [43] = false) (h2 : hasPrefix (trimPrefix r [45]) [48] = true) (h3 : 1 < (trimPrefix r [45]).length) : ivJ r = 0 := by
  rw [ivJ, if_neg (by rw [h]; simp), if_pos ⟨h2, h3⟩]
theorem ivJ_else {r : List UInt8} (h : hasPrefix r [43] = false) (h2 : ¬ (hasPrefix (trimPrefix r [45]) [48] = true ∧ 1 < (trimPrefix r [45]).length)) : ivJ r = pvJ r := by
  rw [ivJ, if_neg (by rw [h]; simp), if_neg h2]
theorem ivJ_of {r : List UInt8} {v : Int} (h : intJ r = some v) : ivJ r = v := by
  unfold intJ at h
  split at h
  · cases h
  · split at h
    · cases h
    · rename_i h1 h2
      rw [ivJ_else (by simpa using h1) h2, pvJ]
      cases hp : parseIntB 64 r with
      | ok u => rw [hp] at h; cases h; rfl
      | «syntax» => rw [hp] at h; cases h
      | range => rw [hp] at h; cases h
/-- what integer answers -/
def InP (R : Option Int) (i : Int) (w : World) (e : Ending) (w' : World) : Prop :=
  e = .returned (.tuple #[.int .i64 i, .bool R.isSome]) ∧ Below w.heap.size w w'
set_option maxHeartbeats 8000000 in
theorem integer_any (r : ByteArray) (w : World) (t : Td w) (hr : r.size ≤ 281474976710656) :
    Calls Tryz.prog 119 #[.string r] w (InP (intJ r.data.toList) (ivJ r.data.toList) w) := by
  have CP : Hid (∀ W, Td W → Calls Tryz.prog 138 #[.string r, .int .i64 10, .int .i64 64] W fun e w' => ∃ (v : Int) (er : Value), e = .returned (.tuple #[.int .i64 v, er]) ∧ v = pvJ r.data.toList ∧ Below W.heap.size W w' ∧ ((parseIntB 64 r.data.toList = .ok v ∧ er = .nilIface) ∨ ((∀ u, parseIntB 64 r.data.toList ≠ .ok u) ∧ ∃ te pe, er = .iface te pe))) := fun W tW => pint_any r W tW hr
  obtain ⟨d, CT, hd⟩ : ∃ d : ByteArray, (∀ W, Calls Tryz.prog 136 #[.string r, .string ⟨#[45]⟩] W fun e w' => e = .returned (.string d) ∧ w' = W) ∧ d.data.toList = trimPrefix r.data.toList [45] :=
    ⟨_, fun W => Any.strings_TrimPrefix Tryz.lays101 r ⟨#[45]⟩ W, rfl⟩
  have C1 : ∀ W, Calls Tryz.prog 137 #[.string r, .string ⟨#[43]⟩] W fun e w' => e = .returned (.bool (hasPrefix r.data.toList [43])) ∧ w' = W := fun W => Any.strings_HasPrefix Tryz.lays99 r ⟨#[43]⟩ W
  have C2 : ∀ W, Calls Tryz.prog 137 #[.string d, .string ⟨#[48]⟩] W fun e w' => e = .returned (.bool (hasPrefix d.data.toList [48])) ∧ w' = W := fun W => Any.strings_HasPrefix Tryz.lays99 d ⟨#[48]⟩ W
  have hdl : d.data.toList.length = d.size := by simp
  have HP : Hid (hasPrefix r.data.toList [43] = true → intJ r.data.toList = none ∧ ivJ r.data.toList = 0) := fun h => ⟨intJ_plus h, ivJ_plus h⟩
  have HZ : Hid (hasPrefix r.data.toList [43] = false → hasPrefix (trimPrefix r.data.toList [45]) [48] = true → 1 < (trimPrefix r.data.toList [45]).length → intJ r.data.toList = none ∧ ivJ r.data.toList = 0) := fun h h2 h3 => ⟨intJ_zero h h2 h3, ivJ_zero h h2 h3⟩
  have HE : Hid (hasPrefix r.data.toList [43] = false → ¬ (hasPrefix (trimPrefix r.data.toList [45]) [48] = true ∧ 1 < (trimPrefix r.data.toList [45]).length) → ivJ r.data.toList = pvJ r.data.toList) := ivJ_else
  have HO : Hid (∀ v, hasPrefix r.data.toList [43] = false → ¬ (hasPrefix (trimPrefix r.data.toList [45]) [48] = true ∧ 1 < (trimPrefix r.data.toList [45]).length) → parseIntB 64 r.data.toList = .ok v → intJ r.data.toList = some v) := fun v => intJ_ok
  have HX := hmk (@intJ_no r.data.toList)
  rw [← hd, hdl] at HZ HO HX HE
  have HT := hmk t
  clear t hd hdl
  generalize intJ r.data.toList = R at *
  generalize ivJ r.data.toList = IV at *
  generalize hasPrefix r.data.toList [43] = B1 at *
  generalize hasPrefix d.data.toList [48] = B2 at *
  cases B1 with
  | true =>
    have hR := HP.out rfl
    clear HP HZ HO HX HE
    go_enter Tryz.func119, Tryz.ntmps119
    go_wp2_with first
      | (go_at_call 136; refine (CT _).mono ?_; rintro e w' ⟨rfl, rfl⟩)
      | (go_at_call 137; refine (C1 _).mono ?_; rintro e w' ⟨rfl, rfl⟩)
    go_ret2
    rw [hR.1, hR.2]
    exact ⟨rfl, Below.refl _ _⟩
  | false =>
    by_cases hz : B2 = true ∧ 1 < d.size
    · obtain ⟨rfl, h2⟩ := hz
      have hR := HZ.out rfl rfl h2
      have y1 : (1 : Int) < d.size := by omega
      clear HP HZ HO HX HE
      go_enter Tryz.func119, Tryz.ntmps119
      go_wp2_with first
        | (go_at_call 136; refine (CT _).mono ?_; rintro e w' ⟨rfl, rfl⟩)
        | (go_at_call 137; (first | refine (C1 _).mono ?_ | refine (C2 _).mono ?_); rintro e w' ⟨rfl, rfl⟩)
      go_ret2
      rw [hR.1, hR.2]
      exact ⟨rfl, Below.refl _ _⟩
    · have HO' : Hid (∀ v, parseIntB 64 r.data.toList = .ok v → R = some v) := fun v h => HO.out v rfl hz h
      have HX' : Hid ((∀ u, parseIntB 64 r.data.toList ≠ .ok u) → R = none) := fun h => HX.out rfl hz h
      have hE := HE.out rfl hz
      clear HP HZ HO HX HE
      cases B2 with
      | false =>
        clear hz
        go_enter Tryz.func119, Tryz.ntmps119
        go_wp2_with first
          | (go_at_call 136; refine (CT _).mono ?_; rintro e w' ⟨rfl, rfl⟩)
          | (go_at_call 137; (first | refine (C1 _).mono ?_ | refine (C2 _).mono ?_); rintro e w' ⟨rfl, rfl⟩)
        refine (CP.out _ HT.out).mono ?_
        rintro e w1 ⟨v, er, rfl, rfl, b1, hv⟩
        rcases hv with ⟨hp, rfl⟩ | ⟨hp, te, pe, rfl⟩
        · have hR := HO'.out _ hp
          clear HO' HX'
          go_wp2_with fail
          go_quiet (fail)
          go_wp2_with fail
          go_ret2
          rw [hR, hE]
          exact ⟨rfl, below_drewN b1 nq⟩
        · have hR := HX'.out hp
          clear HO' HX'
          go_wp2_with fail
          go_quiet (fail)
          go_wp2_with fail
          go_ret2
          rw [hR, hE]
          exact ⟨rfl, below_drewN b1 nq⟩
      | true =>
        have y1 : ¬ (1 : Int) < d.size := fun q => hz ⟨rfl, by omega⟩
        clear hz
        go_enter Tryz.func119, Tryz.ntmps119
        go_wp2_with first
          | (go_at_call 136; refine (CT _).mono ?_; rintro e w' ⟨rfl, rfl⟩)
          | (go_at_call 137; (first | refine (C1 _).mono ?_ | refine (C2 _).mono ?_); rintro e w' ⟨rfl, rfl⟩)
        refine (CP.out _ HT.out).mono ?_
        rintro e w1 ⟨v, er, rfl, rfl, b1, hv⟩
        rcases hv with ⟨hp, rfl⟩ | ⟨hp, te, pe, rfl⟩
        · have hR := HO'.out _ hp
          clear HO' HX'
          go_wp2_with fail
          go_quiet (fail)
          go_wp2_with fail
          go_ret2
          rw [hR, hE]
          exact ⟨rfl, below_drewN b1 nq⟩
        · have hR := HX'.out hp
          clear HO' HX'
          go_wp2_with fail
          go_quiet (fail)
          go_wp2_with fail
          go_ret2
          rw [hR, hE]
          exact ⟨rfl, below_drewN b1 nq⟩
end Go.Proofs.YtpmhdcmmlkjjmaaGreatDoor
/- the reader's number. -/
set_option maxRecDepth 100000
namespace Go.Proofs.YtpmhdcmmlkjjmaaGreatDoor
open Go.RowKit Go.Lib
theorem runJ_le (l : List UInt8) (k : Nat) : (runJ l k).length ≤ l.length - k := by
  have hp := (List.takeWhile_prefix numC (l := l.drop k)).length_le
  rw [List.length_drop] at hp
  exact hp
theorem runJ_go {l : List UInt8} {k : Nat} (h : k < l.length) (hb : numC l[k] = true) : k + (runJ l k).length = (k + 1) + (runJ l (k + 1)).length := by
  unfold runJ
  rw [List.drop_eq_getElem_cons h, List.takeWhile_cons_of_pos hb, List.length_cons]
  omega
theorem runJ_stop {l : List UInt8} {k : Nat} (h : k < l.length) (hb : numC l[k] = false) : (runJ l k).length = 0 := by
  unfold runJ
  rw [List.drop_eq_getElem_cons h, List.takeWhile_cons_of_neg (by rw [hb]; simp)]
  rfl
theorem runJ_end {l : List UInt8} {k : Nat} (h : l.length ≤ k) : (runJ l k).length = 0 := by
  unfold runJ
  rw [List.drop_eq_nil_of_le h]
  rfl
theorem hsl_in (s : ByteArray) (k m : Nat) (hkm : k ≤ m) (hm : m ≤ s.size) (W : World) : (Instr.slice 9 (.string s) (some (.int .i64 (k : Int))) (some (.int .i64 (m : Int))) none).run Tryz.prog W = .ok (.string (s.extract k m)) W := by
  have h := run_slice_string (P := Tryz.prog) W 9 s .i64 .i64 (k : Int) (m : Int) Tryz.underlying9 (by omega) (by omega) (by omega)
  have e1 : (k : Int).toNat = k := by omega
  have e2 : (m : Int).toNat = m := by omega
  rw [e1, e2] at h
  exact h
theorem ext_run (s : ByteArray) (k : Nat) : (s.extract k (k + (runJ s.data.toList k).length)).data.toList = runJ s.data.toList k := by
  have e : (s.extract k (k + (runJ s.data.toList k).length)).data.toList = (s.data.toList.drop k).take (runJ s.data.toList k).length := by
    rw [extract_data]
    simp
  rw [e]
  exact (tw_split (s.data.toList.drop k) numC).2
theorem numJ_yes {l : List UInt8} {k : Nat} {v : Int} (h : intJ (runJ l k) = some v) : numJ l k = .ok (v, k + (runJ l k).length) := by rw [numJ, h]
theorem numJ_no {l : List UInt8} {k : Nat} (h : intJ (runJ l k) = none) : numJ l k = .error (k, 33) := by rw [numJ, h]
set_option maxHeartbeats 8000000 in
theorem jnumber_any (g : Nat) (s : ByteArray) (k D n : Nat) (w : World) (h : JR g s k D n w) (t : Td w) (hs : s.size ≤ 140737488355000) (hk : k ≤ s.size) :
    Calls Tryz.prog 90 #[.pointer (some ⟨g, 0, none⟩)] w (JP (numJ s.data.toList k) (fun x e w' => e = .returned (.int .i64 x.1) ∧ JR g s x.2 D n w') g w) := by
  have hll : s.data.toList.length = s.size := by simp
  have HLL := hmk hll
  have c0 := h.c0
  have c1 := h.c1
  have hlt := h.lt
  have hrl := runJ_le s.data.toList k
  rw [hll] at hrl
  have HRL := hmk hrl
  have HH := hmk h
  have HT := hmk t
  clear h t hll hrl
  go_enter Tryz.func90, Tryz.ntmps90
  go_wp2_with fail
  go_loopw [3] (fun e3 wr => ∃ m : Nat, k ≤ m ∧ m ≤ s.size ∧ e3 = .int .i64 (m : Int) ∧ wr = w ∧ Hid (k + (runJ s.data.toList k).length = m + (runJ s.data.toList m).length)) (fun e3 _ => s.size - (RowKit.intOf e3).toNat)
  case atStart => exact ⟨k, Nat.le_refl _, hk, rfl, rfl, hmk rfl⟩
  case round =>
    obtain ⟨m, hkm, hm, rfl, rfl, HM⟩ := hrel
    by_cases hms : m < s.size
    · have y1 : (m : Int) < s.size := by omega
      have CN : ∀ W, Calls Tryz.prog 110 #[.int .u8 (s[m].toNat : Int)] W fun e w' => e = .returned (.bool (numC s[m])) ∧ w' = W := fun W => innum_any s[m] W
      cases hc : numC s[m] with
      | true =>
        rw [hc] at CN
        go_wp2_with (go_at_call 110; refine (CN _).mono ?_; rintro e w' ⟨rfl, hw⟩; rw [hw]; clear hw)
        go_round
        case measure => simp only [RowKit.intOf]; omega
        case rel =>
          refine ⟨m + 1, by omega, by omega, by simp, by simp, ?_⟩
          show _ = _
          rw [HM.out]
          exact runJ_go (by rw [HLL.out]; exact hms) hc
      | false =>
        rw [hc] at CN
        have h0 : (runJ s.data.toList m).length = 0 := runJ_stop (by rw [HLL.out]; exact hms) hc
        clear hc
        have hme : m = k + (runJ s.data.toList k).length := by have := HM.out; omega
        have HI : Hid (∀ x : Sub wr.heap.size wr, Calls Tryz.prog 119 #[.string (s.extract k m)] x.w fun e w'' => e = .returned (.tuple #[.int .i64 (ivJ (runJ s.data.toList k)), .bool (intJ (runJ s.data.toList k)).isSome]) ∧ ∃ y : Sub wr.heap.size wr, w'' = y.w) := fun x => by
          have hx := HT.out.below x.b HT.out.z x.b.size
          have hz : (s.extract k m).size ≤ 281474976710656 := by rw [ByteArray.size_extract]; omega
          have c := integer_any (s.extract k m) x.w hx hz
          rw [hme, ext_run] at c
          rw [hme]
          refine c.mono ?_
          rintro e w' ⟨rfl, b⟩
          exact ⟨rfl, ⟨w', x.b.trans (b.mono x.b.size)⟩, rfl⟩
        have HY : Hid (∀ v, intJ (runJ s.data.toList k) = some v → ivJ (runJ s.data.toList k) = v ∧ numJ s.data.toList k = .ok (v, m)) := fun v h => ⟨ivJ_of h, by rw [numJ_yes h, hme]⟩
        have HN : Hid (intJ (runJ s.data.toList k) = none → numJ s.data.toList k = .error (k, 33)) := numJ_no
        have X0 : ∀ x : Sub wr.heap.size wr, x.w.cell? ⟨g, 0, none⟩ = some (.string s) := sub_cell c0 hlt
        have X1 : ∀ x : Sub wr.heap.size wr, x.w.cell? ⟨g, 1, none⟩ = some (.int .i64 (k : Int)) := sub_cell c1 hlt
        have hsl := hsl_in s k m hkm hm
        clear hme HM HT HLL HRL
        generalize ivJ (runJ s.data.toList k) = IV at *
        cases hR : intJ (runJ s.data.toList k) with
        | some v =>
          obtain ⟨hv, hnum⟩ := HY.out v hR
          subst hv
          rw [hR] at HI
          have HNU := hmk hnum
          clear HY HN hR hnum
          go_wp2_with (go_at_call 110; refine (CN _).mono ?_; rintro e w' ⟨rfl, hw⟩; rw [hw]; clear hw)
          refine wp_region_sub wr.heap.size (by kernel_rfl) (by kernel_rfl) ?_
          repeat (go_big_quiet_step (first | exact HI.out _))
          refine wpQuiet_nil ?_
          rintro wq ⟨⟨wq', bq⟩, hq⟩
          have hq' : wq = wq' := hq
          subst hq'
          clear hq
          have P1 := HH.out.keep bq
          have f1 := P1.fz 1
          have c1' := P1.c1
          go_wp2_with fail
          go_ret
          rw [HNU.out]
          exact ⟨⟨rfl, P1.put m _ rfl⟩, grown_set (grown_belowS bq g) _ _⟩
        | none =>
          have HNU := hmk (HN.out hR)
          rw [hR] at HI
          clear HY HN hR
          go_wp2_with (go_at_call 110; refine (CN _).mono ?_; rintro e w' ⟨rfl, hw⟩; rw [hw]; clear hw)
          refine wp_region_sub wr.heap.size (by kernel_rfl) (by kernel_rfl) ?_
          repeat (go_big_quiet_step (first | exact HI.out _))
          refine wpQuiet_nil ?_
          rintro wq ⟨⟨wq', bq⟩, hq⟩
          have hq' : wq = wq' := hq
          subst hq'
          clear hq
          have c1' := (HH.out.keep bq).c1
          go_wp2_with (go_at_call 64; refine (giveup_any _ k 33 _).mono ?_; rintro e w' ⟨he, rfl⟩; unfold flt at he; subst he)
          refine ⟨rfl, ?_⟩
          rw [HNU.out]
          exact ⟨rfl, grown_belowS bq g⟩
    · have y1 : ¬ (m : Int) < s.size := by omega
      have h0 : (runJ s.data.toList m).length = 0 := runJ_end (by rw [HLL.out]; omega)
      have hme : m = k + (runJ s.data.toList k).length := by have := HM.out; omega
      have HI : Hid (∀ x : Sub wr.heap.size wr, Calls Tryz.prog 119 #[.string (s.extract k m)] x.w fun e w'' => e = .returned (.tuple #[.int .i64 (ivJ (runJ s.data.toList k)), .bool (intJ (runJ s.data.toList k)).isSome]) ∧ ∃ y : Sub wr.heap.size wr, w'' = y.w) := fun x => by
        have hx := HT.out.below x.b HT.out.z x.b.size
        have hz : (s.extract k m).size ≤ 281474976710656 := by rw [ByteArray.size_extract]; omega
        have c := integer_any (s.extract k m) x.w hx hz
        rw [hme, ext_run] at c
        rw [hme]
        refine c.mono ?_
        rintro e w' ⟨rfl, b⟩
        exact ⟨rfl, ⟨w', x.b.trans (b.mono x.b.size)⟩, rfl⟩
      have HY : Hid (∀ v, intJ (runJ s.data.toList k) = some v → ivJ (runJ s.data.toList k) = v ∧ numJ s.data.toList k = .ok (v, m)) := fun v h => ⟨ivJ_of h, by rw [numJ_yes h, hme]⟩
      have HN : Hid (intJ (runJ s.data.toList k) = none → numJ s.data.toList k = .error (k, 33)) := numJ_no
      have X0 : ∀ x : Sub wr.heap.size wr, x.w.cell? ⟨g, 0, none⟩ = some (.string s) := sub_cell c0 hlt
      have X1 : ∀ x : Sub wr.heap.size wr, x.w.cell? ⟨g, 1, none⟩ = some (.int .i64 (k : Int)) := sub_cell c1 hlt
      have hsl := hsl_in s k m hkm hm
      clear hme HM HT HLL HRL
      generalize ivJ (runJ s.data.toList k) = IV at *
      cases hR : intJ (runJ s.data.toList k) with
      | some v =>
        obtain ⟨hv, hnum⟩ := HY.out v hR
        subst hv
        rw [hR] at HI
        have HNU := hmk hnum
        clear HY HN hR hnum
        go_wp2_with fail
        refine wp_region_sub wr.heap.size (by kernel_rfl) (by kernel_rfl) ?_
        repeat (go_big_quiet_step (first | exact HI.out _))
        refine wpQuiet_nil ?_
        rintro wq ⟨⟨wq', bq⟩, hq⟩
        have hq' : wq = wq' := hq
        subst hq'
        clear hq
        have P1 := HH.out.keep bq
        have f1 := P1.fz 1
        have c1' := P1.c1
        go_wp2_with fail
        go_ret
        rw [HNU.out]
        exact ⟨⟨rfl, P1.put m _ rfl⟩, grown_set (grown_belowS bq g) _ _⟩
      | none =>
        have HNU := hmk (HN.out hR)
        rw [hR] at HI
        clear HY HN hR
        go_wp2_with fail
        refine wp_region_sub wr.heap.size (by kernel_rfl) (by kernel_rfl) ?_
        repeat (go_big_quiet_step (first | exact HI.out _))
        refine wpQuiet_nil ?_
        rintro wq ⟨⟨wq', bq⟩, hq⟩
        have hq' : wq = wq' := hq
        subst hq'
        clear hq
        have c1' := (HH.out.keep bq).c1
        go_wp2_with (go_at_call 64; refine (giveup_any _ k 33 _).mono ?_; rintro e w' ⟨he, rfl⟩; unfold flt at he; subst he)
        refine ⟨rfl, ?_⟩
        rw [HNU.out]
        exact ⟨rfl, grown_belowS bq g⟩
end Go.Proofs.YtpmhdcmmlkjjmaaGreatDoor
