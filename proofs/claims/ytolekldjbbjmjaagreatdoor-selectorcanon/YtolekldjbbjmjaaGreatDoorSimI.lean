import Derived.Test.YtolekldjbbjmjaaGreatDoorSimH
/- picked and its two closures; Clone; common (layer 20). -/
set_option linter.unusedSimpArgs false
set_option linter.unusedVariables false
namespace Go.Proofs.YtolekldjbbjmjaaGreatDoor
open Go.RowKit Go.Lib
set_option maxHeartbeats 8000000 in
set_option maxRecDepth 100000 in
theorem clo71_any (l : List ByteArray) (x : ByteArray) (X : Nat) (S : Nat → Prop) (a : Option Addr) (c b o : Nat) (w : World) (hX : w.heap[X]? = some (.cells #[.slice a l.length c] 33)) (hh : Headed a l.length c b o) (hl : liesS w S l b o) (hm : l.length ≤ 2147483647) (hr : Ris l) :
    Calls Tryz.prog 68 #[.string x, .pointer (some ⟨X, 0, none⟩)] w (fun e w' => e = .returned (.bool (amongB l x)) ∧ w' = w) := by
  have C := hmk (has_any l x (putI l x) S a c b o w hh hl hm (putI_le l x) (fun t ht => ris_search hr x t ht))
  rw [ris_hit hr x] at C
  have q : w.cell? ⟨X, 0, none⟩ = some (.slice a l.length c) := by rw [cell_of_block hX]; rfl
  clear hX hh hl hr
  go_enter Tryz.func68, Tryz.ntmps68
  go_wp2_with fail
  refine C.out.mono ?_
  rintro e w1 ⟨rfl, rfl⟩
  go_wp2_with fail
  go_ret
  exact ⟨rfl, rfl⟩
set_option maxHeartbeats 8000000 in
set_option maxRecDepth 100000 in
theorem clo60_any (l : List ByteArray) (x : ByteArray) (X : Nat) (S : Nat → Prop) (p1 p2 p3 : Bool) (sv : Value) (a : Option Addr) (c b o : Nat) (w : World) (hX : w.heap[X]? = some (.cells #[.bool p1, .bool p2, .bool p3, sv, .slice a l.length c] 70)) (hh : Headed a l.length c b o) (hl : liesS w S l b o) (hm : l.length ≤ 2147483647) (hr : Ris l) :
    Calls Tryz.prog 53 #[.string x, .pointer (some ⟨X, 0, none⟩)] w (fun e w' => e = .returned (.bool (!(amongB l x))) ∧ w' = w) := by
  have C := hmk (has_any l x (putI l x) S a c b o w hh hl hm (putI_le l x) (fun t ht => ris_search hr x t ht))
  rw [ris_hit hr x] at C
  have q : w.cell? ⟨X, 4, none⟩ = some (.slice a l.length c) := by rw [cell_of_block hX]; rfl
  clear hX hh hl hr
  go_enter Tryz.func53, Tryz.ntmps53
  go_wp2_with fail
  refine C.out.mono ?_
  rintro e w1 ⟨rfl, rfl⟩
  go_wp2_with fail
  go_ret
  exact ⟨rfl, rfl⟩
set_option maxHeartbeats 8000000 in
set_option maxRecDepth 100000 in
theorem picked71_any (l : List ByteArray) (P : ByteArray → Bool) (X : Nat) (S : Nat → Prop) (a : Option Addr) (c b o : Nat) (w : World) (hh : Headed a l.length c b o) (hl : liesS w S l b o) (hS : ∀ y, S y → y < w.heap.size) (hm : l.length ≤ 2147483647)
    (hP : ∀ W, Below w.heap.size w W → ∀ s, Calls Tryz.prog 68 #[.string s, .pointer (some ⟨X, 0, none⟩)] W (fun e w' => e = .returned (.bool (P s)) ∧ w' = W)) :
    Calls Tryz.prog 52 #[.slice a l.length c, .func (.func 68) #[] #[.pointer (some ⟨X, 0, none⟩)]] w (fun e w' => ∃ v, e = .returned v ∧ OwnSt w' w.heap.size (fun _ => False) v (l.filter P) ∧ Below w.heap.size w w') := by
  have HH := hmk hh
  have HL : Hid (∀ W, Below w.heap.size w W → ∀ j (hj : j < l.length), W.cell? ⟨b, o + j, none⟩ = some (.string l[j])) := fun W hW j hj => by
    obtain ⟨h1, _, h3⟩ := hl j hj
    exact (hW.cell (p := ⟨b, o + j, none⟩) (hS _ h1)).trans h3
  have HP := hmk hP
  obtain ⟨i9, hi9, hz9⟩ := Option.map_eq_some_iff.1 info9
  simp only [Prod.mk.injEq] at hz9
  have hI := hmk (And.intro hi9 hz9)
  clear hh hl hP hi9 hz9
  go_enter Tryz.func52, Tryz.ntmps52
  go_wp2_with fail
  go_loopw [5, 10] (fun e5 e10 wr => ∃ j : Nat, j ≤ l.length ∧ e10 = .int .i64 (j : Int) ∧ Below w.heap.size w wr ∧ Hid (OwnSt wr w.heap.size (fun _ => False) e5 ((l.take j).filter P))) (fun _ e10 _ => l.length - (RowKit.intOf e10).toNat)
  case atStart => exact ⟨0, by omega, rfl, Below.refl _ _, (by show OwnSt _ _ _ _ _; simpa using OwnR.nil _ _)⟩
  case round =>
    obtain ⟨j, hj, rfl, Bj, HO⟩ := hrel
    have hzr := Bj.size
    by_cases hjl : j < l.length
    · have y1 : (j : Int) < l.length := by omega
      obtain rfl : a = some ⟨b, o, none⟩ := HH.out.at_.resolve_left (by omega)
      have q := HL.out _ Bj j hjl
      have C := hmk (HP.out _ Bj l[j])
      have HT : Hid ((l.take (j + 1)).filter P = (l.take j).filter P ++ (if P l[j] then [l[j]] else [])) := by
        show _ = _
        rw [List.take_succ_eq_append_getElem hjl, List.filter_append]
        congr 1
        cases h : P l[j] <;> simp [h]
      have hfl : ((l.take j).filter P).length ≤ j := Nat.le_trans (List.length_filter_le _ _) (List.length_take_le _ _)
      generalize l[j] = x at *
      cases hx : P x with
      | false =>
        rw [hx] at C HT
        have HT1 : Hid ((l.take (j + 1)).filter P = (l.take j).filter P) := by show _ = _; rw [HT.out]; simp
        clear HT hx
        go_wp2_with fail
        refine C.out.mono ?_
        rintro e w2 ⟨rfl, hw2⟩
        obtain rfl : wr = w2 := hw2.symm
        clear hw2
        go_wp2_with fail
        go_roundw
        case rel => exact ⟨j + 1, by omega, by go_num, Bj, by rw [HT1.out]; exact HO⟩
        case measure => simp [RowKit.intOf]; omega
      | true =>
        rw [hx] at C HT
        have HT1 : Hid ((l.take (j + 1)).filter P = (l.take j).filter P ++ [x]) := by show _ = _; rw [HT.out]; simp
        clear HT hx
        go_wp2_with fail
        refine C.out.mono ?_
        rintro e w2 ⟨rfl, hw2⟩
        obtain rfl : wr = w2 := hw2.symm
        clear hw2
        have hob : ∀ r, u5.ownBlock = some r → w.heap.size ≤ r := fun r hr => (HO.out.lt hr).1
        have hT1 := heap_alloc_new wr (.cells #[.string x] 9)
        have HAL1 : Hid (OwnSt (wr.alloc (.cells #[.string x] 9)) w.heap.size (fun _ => False) u5 ((l.take j).filter P)) := HO.out.alloc keepS _
        have HLN1 : Hid (((l.take j).filter P).length ≤ 4294967296) := by show _ ≤ _; omega
        have HBS1 : Hid (w.heap.size ≤ (wr.alloc (.cells #[.string x] 9)).heap.size) := by show _ ≤ _; rw [alloc_size]; omega
        go_wp2_with (at_builtin; go_loud (refine wpl_push keepS _ rfl (.tmp 17) (.tmp 19) 33 rfl w.heap.size i9 _ 16 Tryz.underlying33 hI.out.1 hI.out.2.1 hI.out.2.2.1 hI.out.2.2.2 rfl (by decide) (by decide) (Sx := fun _ => False) _ x rfl HAL1.out wr.heap.size 1 (0, 0) rfl hT1 rfl oneS (es_mk _ _ _) (fun b hb => hb.elim) HLN1.out HBS1.out ?_))
        intro g1 cap1 w1 o1 gr1 e1
        have B1 : Below w.heap.size w w1 := (Bj.alloc (by omega) _).grown gr1 HBS1.out hob
        have HO1 : Hid (OwnSt w1 w.heap.size (fun _ => False) (.slice (some ⟨g1, 0, none⟩) (((l.take j).filter P).length + 1) cap1) ((l.take (j + 1)).filter P)) := by show OwnSt _ _ _ _ _; rw [HT1.out]; simpa using o1
        clear HAL1 hT1 o1 HO gr1
        go_wp2_with fail
        go_roundw
        case rel => exact ⟨j + 1, by omega, by go_num, B1, HO1⟩
        case measure => simp [RowKit.intOf]; omega
    · obtain rfl : j = l.length := by omega
      have y1 : ¬ (l.length : Int) < l.length := by omega
      rw [List.take_length] at HO
      go_wp2_with fail
      (try simp only [Exit.inBlock, Exit.then])
      go_ret
      exact ⟨_, rfl, HO.out, Bj⟩
set_option maxHeartbeats 8000000 in
set_option maxRecDepth 100000 in
theorem picked60_any (l : List ByteArray) (P : ByteArray → Bool) (X : Nat) (S : Nat → Prop) (a : Option Addr) (c b o : Nat) (w : World) (hh : Headed a l.length c b o) (hl : liesS w S l b o) (hS : ∀ y, S y → y < w.heap.size) (hm : l.length ≤ 2147483647)
    (hP : ∀ W, Below w.heap.size w W → ∀ s, Calls Tryz.prog 53 #[.string s, .pointer (some ⟨X, 0, none⟩)] W (fun e w' => e = .returned (.bool (P s)) ∧ w' = W)) :
    Calls Tryz.prog 52 #[.slice a l.length c, .func (.func 53) #[] #[.pointer (some ⟨X, 0, none⟩)]] w (fun e w' => ∃ v, e = .returned v ∧ OwnSt w' w.heap.size (fun _ => False) v (l.filter P) ∧ Below w.heap.size w w') := by
  have HH := hmk hh
  have HL : Hid (∀ W, Below w.heap.size w W → ∀ j (hj : j < l.length), W.cell? ⟨b, o + j, none⟩ = some (.string l[j])) := fun W hW j hj => by
    obtain ⟨h1, _, h3⟩ := hl j hj
    exact (hW.cell (p := ⟨b, o + j, none⟩) (hS _ h1)).trans h3
  have HP := hmk hP
  obtain ⟨i9, hi9, hz9⟩ := Option.map_eq_some_iff.1 info9
  simp only [Prod.mk.injEq] at hz9
  have hI := hmk (And.intro hi9 hz9)
  clear hh hl hP hi9 hz9
  go_enter Tryz.func52, Tryz.ntmps52
  go_wp2_with fail
  go_loopw [5, 10] (fun e5 e10 wr => ∃ j : Nat, j ≤ l.length ∧ e10 = .int .i64 (j : Int) ∧ Below w.heap.size w wr ∧ Hid (OwnSt wr w.heap.size (fun _ => False) e5 ((l.take j).filter P))) (fun _ e10 _ => l.length - (RowKit.intOf e10).toNat)
  case atStart => exact ⟨0, by omega, rfl, Below.refl _ _, (by show OwnSt _ _ _ _ _; simpa using OwnR.nil _ _)⟩
  case round =>
    obtain ⟨j, hj, rfl, Bj, HO⟩ := hrel
    have hzr := Bj.size
    by_cases hjl : j < l.length
    · have y1 : (j : Int) < l.length := by omega
      obtain rfl : a = some ⟨b, o, none⟩ := HH.out.at_.resolve_left (by omega)
      have q := HL.out _ Bj j hjl
      have C := hmk (HP.out _ Bj l[j])
      have HT : Hid ((l.take (j + 1)).filter P = (l.take j).filter P ++ (if P l[j] then [l[j]] else [])) := by
        show _ = _
        rw [List.take_succ_eq_append_getElem hjl, List.filter_append]
        congr 1
        cases h : P l[j] <;> simp [h]
      have hfl : ((l.take j).filter P).length ≤ j := Nat.le_trans (List.length_filter_le _ _) (List.length_take_le _ _)
      generalize l[j] = x at *
      cases hx : P x with
      | false =>
        rw [hx] at C HT
        have HT1 : Hid ((l.take (j + 1)).filter P = (l.take j).filter P) := by show _ = _; rw [HT.out]; simp
        clear HT hx
        go_wp2_with fail
        refine C.out.mono ?_
        rintro e w2 ⟨rfl, hw2⟩
        obtain rfl : wr = w2 := hw2.symm
        clear hw2
        go_wp2_with fail
        go_roundw
        case rel => exact ⟨j + 1, by omega, by go_num, Bj, by rw [HT1.out]; exact HO⟩
        case measure => simp [RowKit.intOf]; omega
      | true =>
        rw [hx] at C HT
        have HT1 : Hid ((l.take (j + 1)).filter P = (l.take j).filter P ++ [x]) := by show _ = _; rw [HT.out]; simp
        clear HT hx
        go_wp2_with fail
        refine C.out.mono ?_
        rintro e w2 ⟨rfl, hw2⟩
        obtain rfl : wr = w2 := hw2.symm
        clear hw2
        have hob : ∀ r, u5.ownBlock = some r → w.heap.size ≤ r := fun r hr => (HO.out.lt hr).1
        have hT1 := heap_alloc_new wr (.cells #[.string x] 9)
        have HAL1 : Hid (OwnSt (wr.alloc (.cells #[.string x] 9)) w.heap.size (fun _ => False) u5 ((l.take j).filter P)) := HO.out.alloc keepS _
        have HLN1 : Hid (((l.take j).filter P).length ≤ 4294967296) := by show _ ≤ _; omega
        have HBS1 : Hid (w.heap.size ≤ (wr.alloc (.cells #[.string x] 9)).heap.size) := by show _ ≤ _; rw [alloc_size]; omega
        go_wp2_with (at_builtin; go_loud (refine wpl_push keepS _ rfl (.tmp 17) (.tmp 19) 33 rfl w.heap.size i9 _ 16 Tryz.underlying33 hI.out.1 hI.out.2.1 hI.out.2.2.1 hI.out.2.2.2 rfl (by decide) (by decide) (Sx := fun _ => False) _ x rfl HAL1.out wr.heap.size 1 (0, 0) rfl hT1 rfl oneS (es_mk _ _ _) (fun b hb => hb.elim) HLN1.out HBS1.out ?_))
        intro g1 cap1 w1 o1 gr1 e1
        have B1 : Below w.heap.size w w1 := (Bj.alloc (by omega) _).grown gr1 HBS1.out hob
        have HO1 : Hid (OwnSt w1 w.heap.size (fun _ => False) (.slice (some ⟨g1, 0, none⟩) (((l.take j).filter P).length + 1) cap1) ((l.take (j + 1)).filter P)) := by show OwnSt _ _ _ _ _; rw [HT1.out]; simpa using o1
        clear HAL1 hT1 o1 HO gr1
        go_wp2_with fail
        go_roundw
        case rel => exact ⟨j + 1, by omega, by go_num, B1, HO1⟩
        case measure => simp [RowKit.intOf]; omega
    · obtain rfl : j = l.length := by omega
      have y1 : ¬ (l.length : Int) < l.length := by omega
      rw [List.take_length] at HO
      go_wp2_with fail
      (try simp only [Exit.inBlock, Exit.then])
      go_ret
      exact ⟨_, rfl, HO.out, Bj⟩
theorem clone_any (l : List ByteArray) (S : Nat → Prop) (a : Option Addr) (c b o : Nat) (w : World) (hh : Headed a l.length c b o) (hl : liesS w S l b o) (hm : l.length ≤ 2147483647) (h0 : 0 < l.length) :
    Calls Tryz.prog 67 #[.slice a l.length c] w (fun e w' => ∃ v, e = .returned v ∧ OwnSt w' w.heap.size (fun _ => False) v l ∧ Below w.heap.size w w') := by
  obtain ⟨i9, hi9, hz9⟩ := Option.map_eq_some_iff.1 info9
  simp only [Prod.mk.injEq] at hz9
  obtain rfl : a = some ⟨b, o, none⟩ := hh.at_.resolve_left (by omega)
  refine (AnyE.slices_Clone Tryz.clone70 i9 _ 1 16 hi9 hz9.1 hz9.2.1 hz9.2.2 rfl (by decide) Tryz.sizeOf9 b o l.length c (l.map Value.string) w (by simp) (by unfold maxLen; omega) (by omega) (fun j u h => ?_) (fun u hu => ?_)).mono ?_
  · have hj : j < l.length := by have := (List.getElem?_eq_some_iff.1 h).1; simpa using this
    obtain ⟨_, _, hc⟩ := hl j hj
    rw [List.getElem?_map, List.getElem?_eq_getElem hj] at h
    rw [hc]; simpa using h
  · obtain ⟨s, _, rfl⟩ := List.mem_map.1 hu
    rfl
  · rintro e w' ⟨v, rfl, h1, _, h2⟩
    exact ⟨v, rfl, own_strs h1, h2⟩
end Go.Proofs.YtolekldjbbjmjaaGreatDoor
