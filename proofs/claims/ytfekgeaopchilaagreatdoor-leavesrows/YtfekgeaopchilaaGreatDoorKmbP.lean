import Derived.Test.YtfekgeaopchilaaGreatDoorG16
/- nothing, quote.Valid, keyMayBe. -/
set_option linter.unusedSimpArgs false
set_option linter.unusedVariables false
namespace Go.Proofs.YtfekgeaopchilaaGreatDoor
open Go.RowKit Go.Lib
/-- is the value nothing at all? -/
def nilB (k : Int) (b : Bool) (i : Int) (s : ByteArray) (nl nm : Nat) : Bool := decide (k = 0 ∧ b = false ∧ i = 0 ∧ s.toList = [] ∧ nl = 0 ∧ nm = 0)
def nilV : V → Bool
  | .mk k b i s l m => nilB k b i s l.length m.length
set_option maxHeartbeats 4000000 in
set_option maxRecDepth 100000 in
theorem nothing_any (k : Int) (b : Bool) (i : Int) (s : ByteArray) (al : Option Addr) (nl cl : Nat) (am : Option Addr) (nm cm : Nat) (w : World) :
    Calls Tryz.prog 64 #[.agg #[.int .i64 k, .bool b, .int .i64 i, .string s, .slice al nl cl, .slice am nm cm]] w (BPost (nilB k b i s nl nm) w) := by
  go_enter Tryz.func64, Tryz.ntmps64
  go_wp2
  all_goals go_ret
  all_goals refine ⟨?_, (Below.refl _ _).alloc (Nat.le_refl _) _⟩
  all_goals show Ending.returned (Value.bool _) = Ending.returned (Value.bool _)
  all_goals refine congrArg (fun r => Ending.returned (Value.bool r)) ?_
  all_goals rw [Bool.eq_iff_iff]
  all_goals simp_all [nilB]
set_option maxHeartbeats 4000000 in
set_option maxRecDepth 100000 in
theorem rnull_any (k : Int) (b : Bool) (i : Int) (s : ByteArray) (al : Option Addr) (nl cl : Nat) (am : Option Addr) (nm cm : Nat) (w : World) :
    Calls Tryz.prog 59 #[.agg #[.int .i64 k, .bool b, .int .i64 i, .string s, .slice al nl cl, .slice am nm cm]] w (BPost (nilB k b i s nl nm) w) := by
  go_enter Tryz.func59, Tryz.ntmps59
  go_wp2
  all_goals go_ret
  all_goals refine ⟨?_, (Below.refl _ _).alloc (Nat.le_refl _) _⟩
  all_goals show Ending.returned (Value.bool _) = Ending.returned (Value.bool _)
  all_goals refine congrArg (fun r => Ending.returned (Value.bool r)) ?_
  all_goals rw [Bool.eq_iff_iff]
  all_goals simp_all [nilB]
set_option maxHeartbeats 400000 in
theorem qvalid_any (s : ByteArray) (w : World) (tb : Tb w) (hs : s.size ≤ 281474976710656) : Calls Tryz.prog 65 #[.string s] w (BPost (utfB s) w) := by
  have c := hmk (validString_any s w hs tb.u)
  go_enter Tryz.func65, Tryz.ntmps65
  go_wp2_with fail
  refine c.out.mono ?_
  rintro e w1 ⟨rfl, b1⟩
  go_wp2_with fail
  go_ret
  exact ⟨rfl, b1⟩
def valAt (l : List Mem) (j : Nat) : V := match l[j]? with | some x => x.2 | none => .mk 0 false 0 ⟨#[]⟩ [] []
theorem valAt_eq {l : List Mem} {j : Nat} (h : j < l.length) : valAt l j = (l[j]).2 := by simp [valAt, h]
/-- may the member stand there? -/
def okK (l : List Mem) (j : Nat) : Bool := okAt l j && sizS (valAt l j)
def keysB (l : List Mem) : Bool := decide (1 ≤ l.length ∧ l.length ≤ 8) && (List.range l.length).all (okK l)
theorem keysB_true {l : List Mem} (h1 : 1 ≤ l.length ∧ l.length ≤ 8) (h : ∀ j, j < l.length → okK l j = true) : keysB l = true := by
  rw [keysB, decide_eq_true h1]; simp only [Bool.true_and, List.all_eq_true, List.mem_range]; exact h
theorem keysB_false {l : List Mem} {j : Nat} (hj : j < l.length) (h : okK l j = false) : keysB l = false := by
  have : (List.range l.length).all (okK l) = false := by rw [List.all_eq_false]; exact ⟨j, by simpa using hj, by simp [h]⟩
  rw [keysB, this]; simp
theorem keysB_len {l : List Mem} (h1 : ¬ (1 ≤ l.length ∧ l.length ≤ 8)) : keysB l = false := by rw [keysB, decide_eq_false h1]; rfl
set_option maxHeartbeats 8000000 in
set_option maxRecDepth 100000 in
theorem keymay_any (l : List Mem) (am : Option Addr) (cm bm om : Nat) (S : Nat → Prop) (w : World) (t : Tb w) (ham : Headed am l.length cm bm om) (hl : liesM false w S l bm om) (hS : ∀ b, S b → b < w.heap.size) (hwt : wtM l ≤ 2147483647) :
    Calls Tryz.prog 66 #[.slice am l.length cm] w (BPost (keysB l) w) := by
  have HL := hmk hl
  clear hl
  by_cases h18 : 1 ≤ l.length ∧ l.length ≤ 8
  case neg =>
    have HF := hmk (keysB_len h18)
    by_cases h0 : l.length = 0
    · have y0 : ((l.length : Int) == 0) = true := by rw [h0]; rfl
      go_enter Tryz.func66, Tryz.ntmps66
      go_wp2_with fail
      go_ret
      exact ⟨by rw [HF.out]; rfl, Below.refl _ _⟩
    · have y0 : ((l.length : Int) == 0) = false := by rw [beq_eq_false_iff_ne]; omega
      have y1 : (8 : Int) < l.length := by omega
      go_enter Tryz.func66, Tryz.ntmps66
      go_wp2_with fail
      go_ret
      exact ⟨by rw [HF.out]; rfl, Below.refl _ _⟩
  have y0 : ((l.length : Int) == 0) = false := by rw [beq_eq_false_iff_ne]; omega
  have y01 : ¬ (8 : Int) < l.length := by omega
  have H18 := hmk h18
  clear h18
  have hlen := wtM_len l
  go_enter Tryz.func66, Tryz.ntmps66
  go_wp2_with fail
  go_loopw [15] (fun e wr => ∃ j : Nat, j ≤ l.length ∧ e = .int .i64 (j : Int) ∧ Below w.heap.size w wr ∧ Hid (∀ q, q < j → okK l q = true)) (fun e _ => l.length - (RowKit.intOf e).toNat)
  case atStart => exact ⟨0, by omega, rfl, Below.refl _ _, fun q hq => by omega⟩
  case round =>
    obtain ⟨j, hj, rfl, bj, ok⟩ := hrel
    by_cases hjl : j < l.length
    · have y1 : (j : Int) < l.length := by omega
      obtain ⟨hSb, hks, csj, hrow, hlj⟩ := liesM_get HL.out j hjl
      obtain rfl : am = some ⟨bm, om, none⟩ := ham.at_.resolve_left (by omega)
      have hrow' := hrow.keep (bj.block _ (hS _ hSb))
      have hlj' := V.lies_keep (R' := false) (S' := S) (fun h => h) (fun b hb => bj.block b (hS b hb)) (fun _ h => h) _ hlj
      obtain ⟨ek, eb, ei, es, eal, enl, ecl, eam, enm, ecm, rfl⟩ := V.ten hlj
      obtain ⟨q, q0, q1, q2, q3, q4, q5⟩ := row7 hrow'
      clear hlj hrow hrow'
      have hkz : (l[j]).1.size ≤ 281474976710656 ∧ (l[j]).2.wt ≤ 1099511627776 := by have := wtM_mem (List.getElem_mem hjl); omega
      have HK : Hid (keyAt l j = (l[j]).1) := keyAt_eq hjl
      have HVA : Hid (valAt l j = (l[j]).2) := valAt_eq hjl
      generalize (l[j]).1 = key at *
      generalize (l[j]).2 = xv at *
      have tj : Tb wr := t.below bj (by have := t.z; omega)
      have hz : wr.heap.size ≥ w.heap.size := bj.size
      let oB : Obj := .cells #[.string key, .int .i64 ek, .bool eb, .int .i64 ei, .string es, .slice eal enl ecl, .slice eam enm ecm] 62
      have hzo : (wr.alloc oB).heap.size = wr.heap.size + 1 := alloc_size wr oB
      have C31 : Hid (∀ x : Sub (wr.heap.size + 1) (wr.alloc oB), Calls Tryz.prog 65 #[.string key] x.w fun e w'' => e = .returned (.bool (utfB key)) ∧ ∃ y : Sub (wr.heap.size + 1) (wr.alloc oB), w'' = y.w) :=
        sub_call fun w' hb => by
          have t1 : Tb w' := (tj.grown (World.grownBy_alloc wr oB none) (fun r e => by cases e)).below hb (by have := tj.z; omega)
          exact (qvalid_any key w' t1 hkz.1).mono fun e w'' ⟨he, h2⟩ => ⟨he, hb.trans (h2.mono (by rw [← hzo]; exact hb.size))⟩
      have C33 : Hid (∀ x : Sub (wr.heap.size + 1) (wr.alloc oB), Calls Tryz.prog 67 #[.agg #[.int .i64 ek, .bool eb, .int .i64 ei, .string es, .slice eal enl ecl, .slice eam enm ecm]] x.w fun e w'' => e = .returned (.bool (sizS xv)) ∧ ∃ y : Sub (wr.heap.size + 1) (wr.alloc oB), w'' = y.w) :=
        sub_call fun w' hb => by
          have t1 : Tb w' := (tj.grown (World.grownBy_alloc wr oB none) (fun r e => by cases e)).below hb (by have := tj.z; omega)
          have hbs := hb.size
          exact (scalar_any false xv S _ w' t1 (V.lies_keep (fun h => h) (fun b hb' => (hb.block b (by have := hS b hb'; omega)).trans (Below.heap_alloc wr oB b (by have := hS b hb'; omega))) (fun _ h => h) _ hlj') (fun b hb' => by have := hS b hb'; omega) hkz.2).mono fun e w'' ⟨he, h2⟩ => ⟨he, hb.trans (h2.mono (by rw [← hzo]; exact hb.size))⟩
      have x0 : ∀ x : Sub (wr.heap.size + 1) (wr.alloc oB), _ := sub_cell (box_row wr [.string key, .int .i64 ek, .bool eb, .int .i64 ei, .string es, .slice eal enl ecl, .slice eam enm ecm] 62 0 _ rfl) (by omega)
      have x1 : ∀ x : Sub (wr.heap.size + 1) (wr.alloc oB), _ := sub_cell (box_row wr [.string key, .int .i64 ek, .bool eb, .int .i64 ei, .string es, .slice eal enl ecl, .slice eam enm ecm] 62 1 _ rfl) (by omega)
      have x2 : ∀ x : Sub (wr.heap.size + 1) (wr.alloc oB), _ := sub_cell (box_row wr [.string key, .int .i64 ek, .bool eb, .int .i64 ei, .string es, .slice eal enl ecl, .slice eam enm ecm] 62 2 _ rfl) (by omega)
      have x3 : ∀ x : Sub (wr.heap.size + 1) (wr.alloc oB), _ := sub_cell (box_row wr [.string key, .int .i64 ek, .bool eb, .int .i64 ei, .string es, .slice eal enl ecl, .slice eam enm ecm] 62 3 _ rfl) (by omega)
      have x4 : ∀ x : Sub (wr.heap.size + 1) (wr.alloc oB), _ := sub_cell (box_row wr [.string key, .int .i64 ek, .bool eb, .int .i64 ei, .string es, .slice eal enl ecl, .slice eam enm ecm] 62 4 _ rfl) (by omega)
      have x5 : ∀ x : Sub (wr.heap.size + 1) (wr.alloc oB), _ := sub_cell (box_row wr [.string key, .int .i64 ek, .bool eb, .int .i64 ei, .string es, .slice eal enl ecl, .slice eam enm ecm] 62 5 _ rfl) (by omega)
      have x6 : ∀ x : Sub (wr.heap.size + 1) (wr.alloc oB), _ := sub_cell (box_row wr [.string key, .int .i64 ek, .bool eb, .int .i64 ei, .string es, .slice eal enl ecl, .slice eam enm ecm] 62 6 _ rfl) (by omega)
      simp only [Nat.zero_add] at x0 x1 x2 x3 x4 x5 x6
      have hback : ∀ wq, Below (wr.heap.size + 1) (wr.alloc oB) wq → Below w.heap.size w wq := fun wq h => (bj.alloc (by omega) oB).trans (h.mono (by omega))
      clear hlj' hkz
      by_cases hj0 : j = 0
      · have yj : decide ((0 : Int) < (j : Int)) = false := by simp [hj0]
        have yk : decide (0 < j) = false := by simp [hj0]
        have HJ := hmk hj0
        clear hj0
        cases hV : utfB key with
        | false =>
          have C31b : Hid (∀ x : Sub (wr.heap.size + 1) (wr.alloc oB), Calls Tryz.prog 65 #[.string key] x.w fun e w'' => e = .returned (.bool false) ∧ ∃ y : Sub (wr.heap.size + 1) (wr.alloc oB), w'' = y.w) := by rw [← hV]; exact C31.out
          have HW : Hid (okK l j = false) := by show _ = _; simp [okK, okAt, HK.out, hV]
          clear hV
          go_wp2_with fail
          refine wp_region_sub (wr.heap.size + 1) (by kernel_rfl) (by kernel_rfl) ?_
          repeat (go_big_quiet_step (first | exact C31b.out _))
          refine wpQuiet_nil ?_
          rintro wq ⟨⟨wq', bq⟩, hq⟩
          have hq' : wq = wq' := hq
          subst hq'
          clear hq
          have HB := hmk (hback _ bq)
          go_wp2_with fail
          go_ret
          exact ⟨by rw [keysB_false hjl HW.out]; rfl, HB.out⟩
        | true =>
          have C31b : Hid (∀ x : Sub (wr.heap.size + 1) (wr.alloc oB), Calls Tryz.prog 65 #[.string key] x.w fun e w'' => e = .returned (.bool true) ∧ ∃ y : Sub (wr.heap.size + 1) (wr.alloc oB), w'' = y.w) := by rw [← hV]; exact C31.out
          cases hZ : sizS xv with
          | false =>
            have C33b : Hid (∀ x : Sub (wr.heap.size + 1) (wr.alloc oB), Calls Tryz.prog 67 #[.agg #[.int .i64 ek, .bool eb, .int .i64 ei, .string es, .slice eal enl ecl, .slice eam enm ecm]] x.w fun e w'' => e = .returned (.bool false) ∧ ∃ y : Sub (wr.heap.size + 1) (wr.alloc oB), w'' = y.w) := by rw [← hZ]; exact C33.out
            have HW : Hid (okK l j = false) := by show _ = _; rw [okK, HVA.out, hZ]; simp
            clear hV hZ
            go_wp2_with fail
            refine wp_region_sub (wr.heap.size + 1) (by kernel_rfl) (by kernel_rfl) ?_
            repeat (go_big_quiet_step (first | exact C31b.out _ | exact C33b.out _))
            refine wpQuiet_nil ?_
            rintro wq ⟨⟨wq', bq⟩, hq⟩
            have hq' : wq = wq' := hq
            subst hq'
            clear hq
            have HB := hmk (hback _ bq)
            go_wp2_with fail
            go_ret
            exact ⟨by rw [keysB_false hjl HW.out]; rfl, HB.out⟩
          | true =>
            have C33b : Hid (∀ x : Sub (wr.heap.size + 1) (wr.alloc oB), Calls Tryz.prog 67 #[.agg #[.int .i64 ek, .bool eb, .int .i64 ei, .string es, .slice eal enl ecl, .slice eam enm ecm]] x.w fun e w'' => e = .returned (.bool true) ∧ ∃ y : Sub (wr.heap.size + 1) (wr.alloc oB), w'' = y.w) := by rw [← hZ]; exact C33.out
            have HW : Hid (okK l j = true) := by show _ = _; rw [okK, HVA.out, hZ, okAt, HK.out, hV]; simp [HJ.out]
            have HO : Hid (∀ q, q < j + 1 → okK l q = true) := fun q hq => by
              by_cases hqj : q < j
              · exact ok.out q hqj
              · obtain rfl : q = j := by omega
                exact HW.out
            clear hV hZ HW
            go_wp2_with fail
            refine wp_region_sub (wr.heap.size + 1) (by kernel_rfl) (by kernel_rfl) ?_
            repeat (go_big_quiet_step (first | exact C31b.out _ | exact C33b.out _))
            refine wpQuiet_nil ?_
            rintro wq ⟨⟨wq', bq⟩, hq⟩
            have hq' : wq = wq' := hq
            subst hq'
            clear hq
            have HB := hmk (hback _ bq)
            go_wp2_with fail
            go_roundw
            case rel => exact ⟨j + 1, by omega, by go_num, HB.out, HO⟩
            case measure => simp [RowKit.intOf]; omega
      · obtain ⟨p, rfl⟩ : ∃ p, j = p + 1 := ⟨j - 1, by omega⟩
        obtain ⟨hSb', hks', csp, hrowp, _⟩ := liesM_get HL.out p (by omega)
        have hrowp' := hrowp.keep (bj.block _ (hS _ hSb'))
        have p0 : wr.cell? ⟨bm, om + p * 7, none⟩ = some (.string (l[p]'(by omega)).1) := hrowp' 0 _ rfl
        have HP : Hid (keyAt l p = (l[p]'(by omega)).1) := keyAt_eq (by omega)
        generalize (l[p]'(by omega)).1 = prev at *
        have hbb : bm < wr.heap.size := World.block_lt_of_cell? wr _ p0
        have p1 : (wr.alloc oB).cell? ⟨bm, om + p * 7, none⟩ = some (.string prev) := (World.cell?_of_block (w := wr) (a := ⟨bm, om + p * 7, none⟩) (Below.heap_alloc wr oB bm hbb)).trans p0
        have xp : ∀ x : Sub (wr.heap.size + 1) (wr.alloc oB), x.w.cell? ⟨bm, om + p * 7, none⟩ = some (.string prev) := sub_cell p1 (by omega)
        have y2 : (p : Int) < l.length := by omega
        have y3 : decide ((0 : Int) < (p : Int) + 1) = true := by simp
        clear hrowp hrowp' p0 p1
        cases hL : Op.bytesLess prev.toList key.toList
        · have HW : Hid (okK l (p + 1) = false) := by show _ = _; rw [okK, okAt, HK.out, Nat.add_sub_cancel, HP.out]; simp [ltB, hL]
          have C31b : Hid True := trivial
          go_wp2_with fail
          refine wp_region_sub (wr.heap.size + 1) (by kernel_rfl) (by kernel_rfl) ?_
          repeat (go_big_quiet_step (first | exact C31.out _))
          refine wpQuiet_nil ?_
          rintro wq ⟨⟨wq', bq⟩, hq⟩
          have hq' : wq = wq' := hq
          subst hq'
          clear hq
          have HB := hmk (hback _ bq)
          go_wp2_with fail
          go_ret
          exact ⟨by rw [keysB_false hjl HW.out]; rfl, HB.out⟩
        · have HLT := hmk hL
          cases hV : utfB key with
          | false =>
            have C31b : Hid (∀ x : Sub (wr.heap.size + 1) (wr.alloc oB), Calls Tryz.prog 65 #[.string key] x.w fun e w'' => e = .returned (.bool false) ∧ ∃ y : Sub (wr.heap.size + 1) (wr.alloc oB), w'' = y.w) := by rw [← hV]; exact C31.out
            have HW : Hid (okK l (p + 1) = false) := by show _ = _; simp [okK, okAt, HK.out, hV]
            clear hV
            go_wp2_with fail
            refine wp_region_sub (wr.heap.size + 1) (by kernel_rfl) (by kernel_rfl) ?_
            repeat (go_big_quiet_step (first | exact C31b.out _))
            refine wpQuiet_nil ?_
            rintro wq ⟨⟨wq', bq⟩, hq⟩
            have hq' : wq = wq' := hq
            subst hq'
            clear hq
            have HB := hmk (hback _ bq)
            go_wp2_with fail
            go_ret
            exact ⟨by rw [keysB_false hjl HW.out]; rfl, HB.out⟩
          | true =>
            have C31b : Hid (∀ x : Sub (wr.heap.size + 1) (wr.alloc oB), Calls Tryz.prog 65 #[.string key] x.w fun e w'' => e = .returned (.bool true) ∧ ∃ y : Sub (wr.heap.size + 1) (wr.alloc oB), w'' = y.w) := by rw [← hV]; exact C31.out
            cases hZ : sizS xv with
            | false =>
              have C33b : Hid (∀ x : Sub (wr.heap.size + 1) (wr.alloc oB), Calls Tryz.prog 67 #[.agg #[.int .i64 ek, .bool eb, .int .i64 ei, .string es, .slice eal enl ecl, .slice eam enm ecm]] x.w fun e w'' => e = .returned (.bool false) ∧ ∃ y : Sub (wr.heap.size + 1) (wr.alloc oB), w'' = y.w) := by rw [← hZ]; exact C33.out
              have HW : Hid (okK l (p + 1) = false) := by show _ = _; rw [okK, HVA.out, hZ]; simp
              clear hV hZ
              go_wp2_with fail
              refine wp_region_sub (wr.heap.size + 1) (by kernel_rfl) (by kernel_rfl) ?_
              repeat (go_big_quiet_step (first | exact C31b.out _ | exact C33b.out _))
              refine wpQuiet_nil ?_
              rintro wq ⟨⟨wq', bq⟩, hq⟩
              have hq' : wq = wq' := hq
              subst hq'
              clear hq
              have HB := hmk (hback _ bq)
              go_wp2_with fail
              go_ret
              exact ⟨by rw [keysB_false hjl HW.out]; rfl, HB.out⟩
            | true =>
              have C33b : Hid (∀ x : Sub (wr.heap.size + 1) (wr.alloc oB), Calls Tryz.prog 67 #[.agg #[.int .i64 ek, .bool eb, .int .i64 ei, .string es, .slice eal enl ecl, .slice eam enm ecm]] x.w fun e w'' => e = .returned (.bool true) ∧ ∃ y : Sub (wr.heap.size + 1) (wr.alloc oB), w'' = y.w) := by rw [← hZ]; exact C33.out
              have HW : Hid (okK l (p + 1) = true) := by show _ = _; rw [okK, HVA.out, hZ, okAt, HK.out, hV]; rw [Nat.add_sub_cancel, HP.out]; simp [ltB, HLT.out]
              have HO : Hid (∀ q, q < p + 1 + 1 → okK l q = true) := fun q hq => by
                by_cases hqj : q < p + 1
                · exact ok.out q hqj
                · obtain rfl : q = p + 1 := by omega
                  exact HW.out
              clear hV hZ HW
              go_wp2_with fail
              refine wp_region_sub (wr.heap.size + 1) (by kernel_rfl) (by kernel_rfl) ?_
              repeat (go_big_quiet_step (first | exact C31b.out _ | exact C33b.out _))
              refine wpQuiet_nil ?_
              rintro wq ⟨⟨wq', bq⟩, hq⟩
              have hq' : wq = wq' := hq
              subst hq'
              clear hq
              have HB := hmk (hback _ bq)
              go_wp2_with fail
              go_roundw
              case rel => exact ⟨p + 1 + 1, by omega, by go_num, HB.out, HO⟩
              case measure => simp [RowKit.intOf]; omega
    · obtain rfl : j = l.length := by omega
      have y1 : ¬ (l.length : Int) < l.length := by omega
      have HF := hmk (keysB_true H18.out (fun q hq => ok.out q hq))
      have HB := hmk bj
      go_wp2_with fail
      go_ret
      exact ⟨by rw [HF.out]; rfl, HB.out⟩
end Go.Proofs.YtfekgeaopchilaaGreatDoor
