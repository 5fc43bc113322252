import Derived.Test.YtolekldjbbjmjaaGreatDoorG6
/- the document's add (layer 20). -/
set_option linter.unusedSimpArgs false
set_option linter.unusedVariables false
namespace Go.Proofs.YtolekldjbbjmjaaGreatDoor
open Go.RowKit Go.Lib
/-- the first place behind which the text belongs -/
def addI (l : List ByteArray) (s : ByteArray) : Nat := (l.takeWhile (fun x => !(Op.bytesLess s.toList x.toList))).length
def addV (l : List ByteArray) (s : ByteArray) : List ByteArray := if amongB l s then l else l.take (addI l s) ++ [s] ++ l.drop (addI l s)
def outI (l : List ByteArray) (s : ByteArray) (i : Nat) : List ByteArray := if addI l s < i then l.take (addI l s) ++ [s] ++ (l.take i).drop (addI l s) else l.take i
theorem addI_le (l : List ByteArray) (s : ByteArray) : addI l s ≤ l.length := (List.takeWhile_sublist _).length_le
theorem addI_lt : ∀ {l : List ByteArray} {s : ByteArray} {t : Nat} (h : t < addI l s), Op.bytesLess s.toList (l[t]'(Nat.lt_of_lt_of_le h (addI_le l s))).toList = false
  | [], s, t, h => by simp [addI] at h
  | x :: r, s, t, h => by
    unfold addI at h
    rw [List.takeWhile_cons] at h
    split at h
    · rename_i hs
      cases t with
      | zero => simpa using hs
      | succ t => exact addI_lt (l := r) (s := s) (t := t) (by simpa [addI] using h)
    · simp at h
theorem addI_stop : ∀ {l : List ByteArray} {s : ByteArray} (h : addI l s < l.length), Op.bytesLess s.toList (l[addI l s]).toList = true
  | [], s, h => by simp at h
  | x :: r, s, h => by
    by_cases hs : (!(Op.bytesLess s.toList x.toList)) = true
    · have e : addI (x :: r) s = addI r s + 1 := by unfold addI; rw [List.takeWhile_cons, if_pos hs]; rfl
      have h2 : addI r s < r.length := by rw [e] at h; simpa using h
      have := addI_stop (l := r) (s := s) h2
      simp only [e, List.getElem_cons_succ]
      exact this
    · have e : addI (x :: r) s = 0 := by unfold addI; rw [List.takeWhile_cons, if_neg hs]; rfl
      simp only [e, List.getElem_cons_zero]
      simpa using hs
theorem outI_zero (l : List ByteArray) (s : ByteArray) : outI l s 0 = [] := by unfold outI; rw [if_neg (by omega)]; rfl
theorem outI_behind {l : List ByteArray} {s : ByteArray} {i : Nat} (hi : i < l.length) (h : addI l s < i) : outI l s (i + 1) = outI l s i ++ [l[i]] := by
  unfold outI
  rw [if_pos (by omega), if_pos h, List.take_succ_eq_append_getElem hi, List.drop_append_of_le_length (by rw [List.length_take]; omega)]
  simp
theorem outI_here {l : List ByteArray} {s : ByteArray} (hi : addI l s < l.length) : outI l s (addI l s + 1) = outI l s (addI l s) ++ [s] ++ [l[addI l s]] := by
  unfold outI
  rw [if_pos (by omega), if_neg (by omega), List.take_succ_eq_append_getElem hi, List.drop_append_of_le_length (by rw [List.length_take]; omega)]
  have : (l.take (addI l s)).drop (addI l s) = [] := List.drop_eq_nil_of_le (by rw [List.length_take]; omega)
  rw [this]
  simp
theorem outI_ahead {l : List ByteArray} {s : ByteArray} {i : Nat} (hi : i < l.length) (h : i < addI l s) : outI l s (i + 1) = outI l s i ++ [l[i]] := by
  unfold outI
  rw [if_neg (by omega), if_neg (by omega), List.take_succ_eq_append_getElem hi]
theorem outI_end {l : List ByteArray} {s : ByteArray} (h : amongB l s = false) : addV l s = if addI l s < l.length then outI l s l.length else outI l s l.length ++ [s] := by
  unfold addV outI
  rw [h, if_neg (by simp), List.take_length]
  by_cases hp : addI l s < l.length
  · rw [if_pos hp, if_pos hp]
  · have e : addI l s = l.length := by have := addI_le l s; omega
    rw [if_neg hp, if_neg hp, e, List.take_length, List.drop_length, List.append_nil]
theorem outI_len (l : List ByteArray) (s : ByteArray) (i : Nat) : (outI l s i).length ≤ l.length + 1 := by
  unfold outI
  split
  · rw [List.length_append, List.length_append, List.length_take, List.length_drop, List.length_take]; simp only [List.length_singleton]; omega
  · rw [List.length_take]; omega
set_option maxHeartbeats 8000000 in
set_option maxRecDepth 100000 in
theorem radd_any (l : List ByteArray) (s : ByteArray) (S : Nat → Prop) (a : Option Addr) (c b o : Nat) (w : World) (hh : Headed a l.length c b o) (hl : liesS w S l b o) (hS : ∀ y, S y → y < w.heap.size) (hlen : l.length ≤ 2147483647) :
    Calls Tryz.prog 79 #[.slice a l.length c, .string s] w (fun e w' => ∃ v, e = .returned v ∧ ((v = .slice a l.length c ∧ amongB l s = true) ∨ (OwnSt w' w.heap.size (fun _ => False) v (addV l s) ∧ amongB l s = false)) ∧ Below w.heap.size w w') := by
  have HH := hmk hh
  have HL := hmk hl
  obtain ⟨i9, hi9, hz9⟩ := Option.map_eq_some_iff.1 info9
  simp only [Prod.mk.injEq] at hz9
  have hI := hmk (And.intro hi9 hz9)
  clear hh hl hi9 hz9
  obtain ⟨p, hp⟩ : ∃ p, addI l s = p := ⟨_, rfl⟩
  have HP := hmk hp
  clear hp
  go_enter Tryz.func79, Tryz.ntmps79
  go_wp2_with fail
  go_loopw [5, 6, 7] (fun e5 e6 e7 wr => ∃ j : Nat, j ≤ l.length ∧ e7 = .int .i64 (j : Int) ∧ e6 = .bool (decide (p < j)) ∧ Below w.heap.size w wr ∧ Hid (OwnSt wr w.heap.size (fun _ => False) e5 (outI l s j)) ∧ Hid (∀ k (h : k < l.length), k < j → ((l[k]).toList == s.toList) = false)) (fun _ _ e7 _ => l.length - (RowKit.intOf e7).toNat)
  case atStart => exact ⟨0, by omega, rfl, by simp, Below.refl _ _, (by show OwnSt _ _ _ _ _; rw [outI_zero]; exact OwnR.nil _ _), fun k _ h => by omega⟩
  case round =>
    obtain ⟨j, hj, rfl, rfl, Bj, HO, HN⟩ := hrel
    have hzr := Bj.size
    have hol := outI_len l s j
    by_cases hjl : j < l.length
    · have y1 : (j : Int) < l.length := by omega
      obtain rfl : a = some ⟨b, o, none⟩ := HH.out.at_.resolve_left (by omega)
      obtain ⟨s1, _, q1⟩ := HL.out j hjl
      have q := (Bj.cell (p := ⟨b, o + j, none⟩) (hS _ s1)).trans q1
      have hbs := hS _ s1
      by_cases heq : ((l[j]).toList == s.toList) = true
      · have HA := hmk (amongB_yes hjl heq)
        clear HN HO
        generalize l[j] = x at *
        go_wp2_with fail
        go_ret
        exact ⟨_, rfl, .inl ⟨rfl, HA.out⟩, Bj⟩
      · have heq' : ((l[j]).toList == s.toList) = false := by simpa using heq
        have HN2 : Hid (∀ k (h : k < l.length), k < j + 1 → ((l[k]).toList == s.toList) = false) := fun k hk h => by
          by_cases e : k = j
          · subst e; exact heq'
          · exact HN.out k hk (by omega)
        clear heq HN
        have hob : ∀ r, u5.ownBlock = some r → w.heap.size ≤ r := fun r hr => (HO.out.lt hr).1
        by_cases hd : p < j
        · have yd : decide (p < j) = true := decide_eq_true hd
          have HT : Hid (outI l s (j + 1) = outI l s j ++ [l[j]]) := outI_behind hjl (by rw [HP.out]; exact hd)
          generalize l[j] = x at *
          have hT1 := heap_alloc_new wr (.cells #[.string x] 9)
          have HAL1 : Hid (OwnSt (wr.alloc (.cells #[.string x] 9)) w.heap.size (fun _ => False) u5 (outI l s j)) := HO.out.alloc keepS _
          have HLN1 : Hid ((outI l s j).length ≤ 4294967296) := by show _ ≤ _; first | omega | (simp; omega)
          have HBS1 : Hid (w.heap.size ≤ (wr.alloc (.cells #[.string x] 9)).heap.size) := by show _ ≤ _; simp; omega
          go_wp2_with (at_builtin; go_loud (refine wpl_push keepS _ rfl (.tmp 35) (.tmp 40) 33 rfl w.heap.size i9 _ 16 Tryz.underlying33 hI.out.1 hI.out.2.1 hI.out.2.2.1 hI.out.2.2.2 rfl (by decide) (by decide) (Sx := fun _ => False) _ x rfl HAL1.out wr.heap.size 1 (0, 0) rfl hT1 rfl oneS (es_mk _ _ _) (fun b hb => hb.elim) HLN1.out HBS1.out ?_))
          intro g1 cap1 w1 o1 gr1 e1
          have B1 : Below w.heap.size w w1 := (Bj.alloc (by omega) _).grown gr1 HBS1.out hob
          have HO1 : Hid (OwnSt w1 w.heap.size (fun _ => False) (.slice (some ⟨g1, 0, none⟩) ((outI l s j).length + 1) cap1) (outI l s (j + 1))) := by show OwnSt _ _ _ _ _; rw [HT.out]; simpa using o1
          clear HAL1 hT1 o1 HO gr1
          go_wp2_with fail
          go_roundw
          case rel => exact ⟨j + 1, by omega, by go_num, by simp; omega, B1, HO1, HN2⟩
          case measure => simp [RowKit.intOf]; omega
        · have yd : decide (p < j) = false := decide_eq_false hd
          by_cases hp2 : p = j
          · have hjp : addI l s < l.length := by rw [HP.out]; omega
            have hlt : Op.bytesLess s.toList (l[j]).toList = true := by
              have h1 := addI_stop hjp
              have h2 : l[addI l s] = l[j] := by congr 1; rw [HP.out]; exact hp2
              rw [h2] at h1; exact h1
            have HT : Hid (outI l s (j + 1) = outI l s j ++ [s] ++ [l[j]]) := by
              have h1 := outI_here hjp
              have h2 : addI l s = j := by rw [HP.out]; exact hp2
              show _ = _
              simp only [h2] at h1
              exact h1
            generalize l[j] = x at *
            have hT1 := heap_alloc_new wr (.cells #[.string s] 9)
            have HAL1 : Hid (OwnSt (wr.alloc (.cells #[.string s] 9)) w.heap.size (fun _ => False) u5 (outI l s j)) := HO.out.alloc keepS _
            have HLN1 : Hid ((outI l s j).length ≤ 4294967296) := by show _ ≤ _; first | omega | (simp; omega)
            have HBS1 : Hid (w.heap.size ≤ (wr.alloc (.cells #[.string s] 9)).heap.size) := by show _ ≤ _; simp; omega
            go_wp2_with (at_builtin; go_loud (refine wpl_push keepS _ rfl (.tmp 31) (.tmp 33) 33 rfl w.heap.size i9 _ 16 Tryz.underlying33 hI.out.1 hI.out.2.1 hI.out.2.2.1 hI.out.2.2.2 rfl (by decide) (by decide) (Sx := fun _ => False) _ s rfl HAL1.out wr.heap.size 1 (0, 0) rfl hT1 rfl oneS (es_mk _ _ _) (fun b hb => hb.elim) HLN1.out HBS1.out ?_))
            intro g1 cap1 w1 o1 gr1 e1
            have B1 : Below w.heap.size w w1 := (Bj.alloc (by omega) _).grown gr1 HBS1.out hob
            have hz1 := B1.size
            have HO1 : Hid (OwnSt w1 w.heap.size (fun _ => False) (.slice (some ⟨g1, 0, none⟩) ((outI l s j).length + 1) cap1) (outI l s j ++ [s])) := by show OwnSt _ _ _ _ _; simpa using o1
            have hob1 : ∀ r, (Value.slice (some ⟨g1, 0, none⟩) ((outI l s j).length + 1) cap1).ownBlock = some r → w.heap.size ≤ r := fun r hr => (HO1.out.lt hr).1
            have q2 := ((B1.cell (p := ⟨b, o + j, none⟩) hbs).trans q1)
            clear HAL1 hT1 o1 HO gr1 hob
            have hT2 := heap_alloc_new w1 (.cells #[.string x] 9)
            have HAL2 : Hid (OwnSt (w1.alloc (.cells #[.string x] 9)) w.heap.size (fun _ => False) (.slice (some ⟨g1, 0, none⟩) ((outI l s j).length + 1) cap1) (outI l s j ++ [s])) := HO1.out.alloc keepS _
            have HLN2 : Hid ((outI l s j ++ [s]).length ≤ 4294967296) := by show _ ≤ _; simp; omega
            have HBS2 : Hid (w.heap.size ≤ (w1.alloc (.cells #[.string x] 9)).heap.size) := by show _ ≤ _; simp; omega
            go_wp2_with (at_builtin; go_loud (refine wpl_push keepS _ rfl (.tmp 35) (.tmp 40) 33 rfl w.heap.size i9 _ 16 Tryz.underlying33 hI.out.1 hI.out.2.1 hI.out.2.2.1 hI.out.2.2.2 rfl (by decide) (by decide) (Sx := fun _ => False) _ x rfl HAL2.out w1.heap.size 1 (0, 0) rfl hT2 rfl oneS (es_mk _ _ _) (fun b hb => hb.elim) HLN2.out HBS2.out ?_))
            intro g2 cap2 w2 o2 gr2 e2
            have B2 : Below w.heap.size w w2 := (B1.alloc (by omega) _).grown gr2 HBS2.out hob1
            have HO2 : Hid (OwnSt w2 w.heap.size (fun _ => False) (.slice (some ⟨g2, 0, none⟩) ((outI l s j ++ [s]).length + 1) cap2) (outI l s (j + 1))) := by show OwnSt _ _ _ _ _; rw [HT.out]; simpa using o2
            clear HAL2 hT2 o2 HO1 gr2
            go_wp2_with fail
            go_roundw
            case rel => exact ⟨j + 1, by omega, by go_num, by simp; omega, B2, by simpa using HO2, HN2⟩
            case measure => simp [RowKit.intOf]; omega
          · have hlt : Op.bytesLess s.toList (l[j]).toList = false := addI_lt (by rw [HP.out]; omega)
            have HT : Hid (outI l s (j + 1) = outI l s j ++ [l[j]]) := outI_ahead hjl (by rw [HP.out]; omega)
            generalize l[j] = x at *
            have hT1 := heap_alloc_new wr (.cells #[.string x] 9)
            have HAL1 : Hid (OwnSt (wr.alloc (.cells #[.string x] 9)) w.heap.size (fun _ => False) u5 (outI l s j)) := HO.out.alloc keepS _
            have HLN1 : Hid ((outI l s j).length ≤ 4294967296) := by show _ ≤ _; first | omega | (simp; omega)
            have HBS1 : Hid (w.heap.size ≤ (wr.alloc (.cells #[.string x] 9)).heap.size) := by show _ ≤ _; simp; omega
            go_wp2_with (at_builtin; go_loud (refine wpl_push keepS _ rfl (.tmp 35) (.tmp 40) 33 rfl w.heap.size i9 _ 16 Tryz.underlying33 hI.out.1 hI.out.2.1 hI.out.2.2.1 hI.out.2.2.2 rfl (by decide) (by decide) (Sx := fun _ => False) _ x rfl HAL1.out wr.heap.size 1 (0, 0) rfl hT1 rfl oneS (es_mk _ _ _) (fun b hb => hb.elim) HLN1.out HBS1.out ?_))
            intro g1 cap1 w1 o1 gr1 e1
            have B1 : Below w.heap.size w w1 := (Bj.alloc (by omega) _).grown gr1 HBS1.out hob
            have HO1 : Hid (OwnSt w1 w.heap.size (fun _ => False) (.slice (some ⟨g1, 0, none⟩) ((outI l s j).length + 1) cap1) (outI l s (j + 1))) := by show OwnSt _ _ _ _ _; rw [HT.out]; simpa using o1
            clear HAL1 hT1 o1 HO gr1
            go_wp2_with fail
            go_roundw
            case rel => exact ⟨j + 1, by omega, by go_num, by simp; omega, B1, HO1, HN2⟩
            case measure => simp [RowKit.intOf]; omega
    · obtain rfl : j = l.length := by omega
      have y1 : ¬ (l.length : Int) < l.length := by omega
      have HA : Hid (amongB l s = false) := amongB_no fun k hk => HN.out k hk hk
      have hE := outI_end HA.out
      rw [HP.out] at hE
      have hob : ∀ r, u5.ownBlock = some r → w.heap.size ≤ r := fun r hr => (HO.out.lt hr).1
      clear HN
      by_cases hd : p < l.length
      · have yd : decide (p < l.length) = true := decide_eq_true hd
        rw [if_pos hd] at hE
        have HE := hmk hE
        clear hE hd
        go_wp2_with fail
        (try simp only [Exit.inBlock, Exit.then])
        go_ret
        exact ⟨_, rfl, .inr ⟨by rw [HE.out]; exact HO.out, HA.out⟩, Bj⟩
      · have yd : decide (p < l.length) = false := decide_eq_false hd
        rw [if_neg hd] at hE
        have HE := hmk hE
        clear hE hd
        have hT1 := heap_alloc_new wr (.cells #[.string s] 9)
        have HAL1 : Hid (OwnSt (wr.alloc (.cells #[.string s] 9)) w.heap.size (fun _ => False) u5 (outI l s l.length)) := HO.out.alloc keepS _
        have HLN1 : Hid ((outI l s l.length).length ≤ 4294967296) := by show _ ≤ _; omega
        have HBS1 : Hid (w.heap.size ≤ (wr.alloc (.cells #[.string s] 9)).heap.size) := by show _ ≤ _; simp; omega
        go_wp2_with (at_builtin; go_loud (refine wpl_push keepS _ rfl (.tmp 44) (.tmp 46) 33 rfl w.heap.size i9 _ 16 Tryz.underlying33 hI.out.1 hI.out.2.1 hI.out.2.2.1 hI.out.2.2.2 rfl (by decide) (by decide) (Sx := fun _ => False) _ s rfl HAL1.out wr.heap.size 1 (0, 0) rfl hT1 rfl oneS (es_mk _ _ _) (fun b hb => hb.elim) HLN1.out HBS1.out ?_))
        intro g1 cap1 w1 o1 gr1 e1
        have B1 : Below w.heap.size w w1 := (Bj.alloc (by omega) _).grown gr1 HBS1.out hob
        have HO1 : Hid (OwnSt w1 w.heap.size (fun _ => False) (.slice (some ⟨g1, 0, none⟩) ((outI l s l.length).length + 1) cap1) (addV l s)) := by show OwnSt _ _ _ _ _; rw [HE.out]; simpa using o1
        clear HAL1 hT1 o1 HO gr1
        go_wp2_with fail
        (try simp only [Exit.inBlock, Exit.then])
        go_ret
        exact ⟨_, rfl, .inr ⟨HO1.out, HA.out⟩, B1⟩
end Go.Proofs.YtolekldjbbjmjaaGreatDoor
