import Derived.Test.YtpmhdcmmlkjjmaaGreatDoorG20
/- json.integer, the reader's number. -/
set_option linter.unusedSimpArgs false
set_option linter.unusedVariables false
set_option maxRecDepth 100000
namespace Go.Proofs.YtpmhdcmmlkjjmaaGreatDoor
open Go.RowKit Go.Lib
theorem intJ_plus {r : List UInt8} (h : hasPrefix r [43] = true) : intJ r = none := by rw [intJ, if_pos h]
theorem intJ_zero {r : List UInt8} (h : hasPrefix r [43] = false) (h2 : hasPrefix (trimPrefix r [45]) [48] = true) (h3 : 1 < (trimPrefix r [45]).length) : intJ r = none := by
  rw [intJ, if_neg (by rw [h]; simp), if_pos ⟨h2, h3⟩]
theorem intJ_ok {r : List UInt8} {v : Int} (h : hasPrefix r [43] = false) (h2 : ¬ (hasPrefix (trimPrefix r [45]) [48] = true ∧ 1 < (trimPrefix r [45]).length)) (h3 : parseIntB 64 r = .ok v) : intJ r = some v := by
  rw [intJ, if_neg (by rw [h]; simp), if_neg h2, h3]
theorem intJ_no {r : List UInt8} (h : hasPrefix r [43] = false) (h2 : ¬ (hasPrefix (trimPrefix r [45]) [48] = true ∧ 1 < (trimPrefix r [45]).length)) (h3 : ∀ u, parseIntB 64 r ≠ .ok u) : intJ r = none := by
  rw [intJ, if_neg (by rw [h]; simp), if_neg h2]
  cases hp : parseIntB 64 r with
  | ok v => exact absurd hp (h3 v)
  | «syntax» => rfl
  | range => rfl
theorem intJ_in {r : List UInt8} {v : Int} (h : intJ r = some v) : In64 v := by
  unfold intJ at h
  split at h
  · cases h
  · split at h
    · cases h
    · cases hp : parseIntB 64 r with
      | ok u => rw [hp] at h; cases h; exact parse_in64 hp
      | «syntax» => rw [hp] at h; cases h
      | range => rw [hp] at h; cases h
/-- the number beside integer's answer -/
def ivJ (r : List UInt8) : Int := if hasPrefix r [43] = true then 0 else if hasPrefix (trimPrefix r [45]) [48] = true ∧ 1 < (trimPrefix r [45]).length then 0 else pvJ r
theorem ivJ_plus {r : List UInt8} (h : hasPrefix r [43] = true) : ivJ r = 0 := by rw [ivJ, if_pos h]
theorem ivJ_zero {r : List UInt8} (h : hasPrefix r [43] = false) (h2 : hasPrefix (trimPrefix r [45]) [48] = true) (h3 : 1 < (trimPrefix r [45]).length) : ivJ r = 0 := by
  rw [ivJ, if_neg (by rw [h]; simp), if_pos ⟨h2, h3⟩]
theorem ivJ_else {r : List UInt8} (h : hasPrefix r [43] = false) (h2 : ¬ (hasPrefix (trimPrefix r [45]) [48] = true ∧ 1 < (trimPrefix r [45]).length)) : ivJ r = pvJ r := by
  rw [ivJ, if_neg (by rw [h]; simp), if_neg h2]
theorem ivJ_of {r : List UInt8} {v : Int} (h : intJ r = some v) : ivJ r = v := by
  unfold intJ at h
  split at h
  · cases h
  · split at h
    · cases h
    · rename_i h1 h2
      rw [ivJ_else (by simpa using h1) h2, pvJ]
      cases hp : parseIntB 64 r with
      | ok u => rw [hp] at h; cases h; rfl
      | «syntax» => rw [hp] at h; cases h
      | range => rw [hp] at h; cases h
/-- what integer answers -/
def InP (R : Option Int) (i : Int) (w : World) (e : Ending) (w' : World) : Prop :=
  e = .returned (.tuple #[.int .i64 i, .bool R.isSome]) ∧ Below w.heap.size w w'
set_option maxHeartbeats 8000000 in
theorem integer_any (r : ByteArray) (w : World) (t : Td w) (hr : r.size ≤ 281474976710656) :
    Calls Tryz.prog 119 #[.string r] w (InP (intJ r.data.toList) (ivJ r.data.toList) w) := by
  have CP : Hid (∀ W, Td W → Calls Tryz.prog 138 #[.string r, .int .i64 10, .int .i64 64] W fun e w' => ∃ (v : Int) (er : Value), e = .returned (.tuple #[.int .i64 v, er]) ∧ v = pvJ r.data.toList ∧ Below W.heap.size W w' ∧ ((parseIntB 64 r.data.toList = .ok v ∧ er = .nilIface) ∨ ((∀ u, parseIntB 64 r.data.toList ≠ .ok u) ∧ ∃ te pe, er = .iface te pe))) := fun W tW => pint_any r W tW hr
  obtain ⟨d, CT, hd⟩ : ∃ d : ByteArray, (∀ W, Calls Tryz.prog 136 #[.string r, .string ⟨#[45]⟩] W fun e w' => e = .returned (.string d) ∧ w' = W) ∧ d.data.toList = trimPrefix r.data.toList [45] :=
    ⟨_, fun W => Any.strings_TrimPrefix Tryz.lays101 r ⟨#[45]⟩ W, rfl⟩
  have C1 : ∀ W, Calls Tryz.prog 137 #[.string r, .string ⟨#[43]⟩] W fun e w' => e = .returned (.bool (hasPrefix r.data.toList [43])) ∧ w' = W := fun W => Any.strings_HasPrefix Tryz.lays99 r ⟨#[43]⟩ W
  have C2 : ∀ W, Calls Tryz.prog 137 #[.string d, .string ⟨#[48]⟩] W fun e w' => e = .returned (.bool (hasPrefix d.data.toList [48])) ∧ w' = W := fun W => Any.strings_HasPrefix Tryz.lays99 d ⟨#[48]⟩ W
  have hdl : d.data.toList.length = d.size := by simp
  have HP : Hid (hasPrefix r.data.toList [43] = true → intJ r.data.toList = none ∧ ivJ r.data.toList = 0) := fun h => ⟨intJ_plus h, ivJ_plus h⟩
  have HZ : Hid (hasPrefix r.data.toList [43] = false → hasPrefix (trimPrefix r.data.toList [45]) [48] = true → 1 < (trimPrefix r.data.toList [45]).length → intJ r.data.toList = none ∧ ivJ r.data.toList = 0) := fun h h2 h3 => ⟨intJ_zero h h2 h3, ivJ_zero h h2 h3⟩
  have HE : Hid (hasPrefix r.data.toList [43] = false → ¬ (hasPrefix (trimPrefix r.data.toList [45]) [48] = true ∧ 1 < (trimPrefix r.data.toList [45]).length) → ivJ r.data.toList = pvJ r.data.toList) := ivJ_else
  have HO : Hid (∀ v, hasPrefix r.data.toList [43] = false → ¬ (hasPrefix (trimPrefix r.data.toList [45]) [48] = true ∧ 1 < (trimPrefix r.data.toList [45]).length) → parseIntB 64 r.data.toList = .ok v → intJ r.data.toList = some v) := fun v => intJ_ok
  have HX := hmk (@intJ_no r.data.toList)
  rw [← hd, hdl] at HZ HO HX HE
  have HT := hmk t
  clear t hd hdl
  generalize intJ r.data.toList = R at *
  generalize ivJ r.data.toList = IV at *
  generalize hasPrefix r.data.toList [43] = B1 at *
  generalize hasPrefix d.data.toList [48] = B2 at *
  cases B1 with
  | true =>
    have hR := HP.out rfl
    clear HP HZ HO HX HE
    go_enter Tryz.func119, Tryz.ntmps119
    go_wp2_with first
      | (go_at_call 136; refine (CT _).mono ?_; rintro e w' ⟨rfl, rfl⟩)
      | (go_at_call 137; refine (C1 _).mono ?_; rintro e w' ⟨rfl, rfl⟩)
    go_ret2
    rw [hR.1, hR.2]
    exact ⟨rfl, Below.refl _ _⟩
  | false =>
    by_cases hz : B2 = true ∧ 1 < d.size
    · obtain ⟨rfl, h2⟩ := hz
      have hR := HZ.out rfl rfl h2
      have y1 : (1 : Int) < d.size := by omega
      clear HP HZ HO HX HE
      go_enter Tryz.func119, Tryz.ntmps119
      go_wp2_with first
        | (go_at_call 136; refine (CT _).mono ?_; rintro e w' ⟨rfl, rfl⟩)
        | (go_at_call 137; (first | refine (C1 _).mono ?_ | refine (C2 _).mono ?_); rintro e w' ⟨rfl, rfl⟩)
      go_ret2
      rw [hR.1, hR.2]
      exact ⟨rfl, Below.refl _ _⟩
    · have HO' : Hid (∀ v, parseIntB 64 r.data.toList = .ok v → R = some v) := fun v h => HO.out v rfl hz h
      have HX' : Hid ((∀ u, parseIntB 64 r.data.toList ≠ .ok u) → R = none) := fun h => HX.out rfl hz h
      have hE := HE.out rfl hz
      clear HP HZ HO HX HE
      cases B2 with
      | false =>
        clear hz
        go_enter Tryz.func119, Tryz.ntmps119
        go_wp2_with first
          | (go_at_call 136; refine (CT _).mono ?_; rintro e w' ⟨rfl, rfl⟩)
          | (go_at_call 137; (first | refine (C1 _).mono ?_ | refine (C2 _).mono ?_); rintro e w' ⟨rfl, rfl⟩)
        refine (CP.out _ HT.out).mono ?_
        rintro e w1 ⟨v, er, rfl, rfl, b1, hv⟩
        rcases hv with ⟨hp, rfl⟩ | ⟨hp, te, pe, rfl⟩
        · have hR := HO'.out _ hp
          clear HO' HX'
          go_wp2_with fail
          go_quiet (fail)
          go_wp2_with fail
          go_ret2
          rw [hR, hE]
          exact ⟨rfl, below_drewN b1 nq⟩
        · have hR := HX'.out hp
          clear HO' HX'
          go_wp2_with fail
          go_quiet (fail)
          go_wp2_with fail
          go_ret2
          rw [hR, hE]
          exact ⟨rfl, below_drewN b1 nq⟩
      | true =>
        have y1 : ¬ (1 : Int) < d.size := fun q => hz ⟨rfl, by omega⟩
        clear hz
        go_enter Tryz.func119, Tryz.ntmps119
        go_wp2_with first
          | (go_at_call 136; refine (CT _).mono ?_; rintro e w' ⟨rfl, rfl⟩)
          | (go_at_call 137; (first | refine (C1 _).mono ?_ | refine (C2 _).mono ?_); rintro e w' ⟨rfl, rfl⟩)
        refine (CP.out _ HT.out).mono ?_
        rintro e w1 ⟨v, er, rfl, rfl, b1, hv⟩
        rcases hv with ⟨hp, rfl⟩ | ⟨hp, te, pe, rfl⟩
        · have hR := HO'.out _ hp
          clear HO' HX'
          go_wp2_with fail
          go_quiet (fail)
          go_wp2_with fail
          go_ret2
          rw [hR, hE]
          exact ⟨rfl, below_drewN b1 nq⟩
        · have hR := HX'.out hp
          clear HO' HX'
          go_wp2_with fail
          go_quiet (fail)
          go_wp2_with fail
          go_ret2
          rw [hR, hE]
          exact ⟨rfl, below_drewN b1 nq⟩
end Go.Proofs.YtpmhdcmmlkjjmaaGreatDoor
