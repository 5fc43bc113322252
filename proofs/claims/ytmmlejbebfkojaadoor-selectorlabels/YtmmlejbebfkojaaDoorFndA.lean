import Derived.Test.YtmmlejbebfkojaaDoorClnA
/- slices.BinarySearchFunc over members, value.find. -/
set_option linter.unusedSimpArgs false
set_option linter.unusedVariables false
namespace Go.Proofs.YtmmlejbebfkojaaDoor
open Go.RowKit Go.Lib
set_option maxHeartbeats 1000000 in
set_option maxRecDepth 100000 in
theorem findcmp_any (k key : ByteArray) (cs : List Value) (w : World) (h6 : ∃ ek eb ei es eal enl ecl eam enm ecm, cs = [.int .i64 ek, .bool eb, .int .i64 ei, .string es, .slice eal enl ecl, .slice eam enm ecm]) :
    Calls Tryd.prog 25 #[.agg (.string k :: cs).toArray, .string key] w (JPost (cmpS k key) w) := by
  obtain ⟨ek, eb, ei, es, eal, enl, ecl, eam, enm, ecm, rfl⟩ := h6
  have B1 : Below w.heap.size w (w.alloc (.cells #[.string k, .int .i64 ek, .bool eb, .int .i64 ei, .string es, .slice eal enl ecl, .slice eam enm ecm] 32)) := (Below.refl _ _).alloc (Nat.le_refl _) _
  have hc := scompare_any k key (w.alloc (.cells #[.string k, .int .i64 ek, .bool eb, .int .i64 ei, .string es, .slice eal enl ecl, .slice eam enm ecm] 32))
  generalize cmpS k key = c at *
  go_enter Tryd.func25, Tryd.ntmps25
  go_wp2_with fail
  refine hc.mono ?_
  rintro e w3 ⟨rfl, b3⟩
  go_wp2_with fail
  go_ret
  exact ⟨rfl, B1.trans (b3.mono B1.size)⟩
/-- where a key stands, or would -/
def posF (l : List Mem) (key : ByteArray) : Nat := (l.filter (lessKey key)).length
theorem pos_le (l : List Mem) (key : ByteArray) : posF l key ≤ l.length := List.length_filter_le _ _
theorem pos_less {l : List Mem} {key : ByteArray} (h : Srt l) {t : Nat} (ht : t < l.length) : ltB (l[t]).1 key = decide (t < posF l key) := by
  have hf := srt_filter (key := key) h
  have hle := pos_le l key
  change _ = decide (t < posF l key)
  by_cases hp : t < posF l key
  · rw [decide_eq_true hp]
    have hm : l[t] ∈ l.filter (lessKey key) := by
      rw [hf.1]
      have : (l.take (l.filter (lessKey key)).length)[t]? = some l[t] := by
        rw [List.getElem?_take, if_pos (show t < (l.filter (lessKey key)).length from hp), List.getElem?_eq_getElem ht]
      exact List.mem_of_getElem? this
    exact (List.mem_filter.1 hm).2
  · rw [decide_eq_false hp]
    refine hf.2 l[t] ?_
    have : (l.drop (l.filter (lessKey key)).length)[t - posF l key]? = some l[t] := by
      rw [List.getElem?_drop, show (l.filter (lessKey key)).length + (t - posF l key) = t from by have : posF l key = (l.filter (lessKey key)).length := rfl; omega, List.getElem?_eq_getElem ht]
    exact List.mem_of_getElem? this
set_option maxHeartbeats 1000000 in
set_option maxRecDepth 100000 in
theorem search_any (l : List Mem) (key : ByteArray) (R : Bool) (S : Nat → Prop) (am : Option Addr) (cm bm om : Nat) (w : World) (ham : Headed am l.length cm bm om) (hl : liesM R w S l bm om) (hS : ∀ b, S b → b < w.heap.size) (hs : Srt l) (hn : l.length ≤ 1099511627776) :
    Calls Tryd.prog 24 #[.slice am l.length cm, .string key, .func (.func 25) #[] #[]] w (fun e w' => e = .returned (.tuple #[.int .i64 (posF l key : Int), .bool (keyIs key l[posF l key]?)]) ∧ Below w.heap.size w w') := by
  have HL : Hid (liesM R w S l bm om) := hl
  clear hl
  have hpl := pos_le l key
  have HP : Hid (∀ t (ht : t < l.length), ltB (l[t]).1 key = decide (t < posF l key)) := fun t ht => pos_less hs ht
  clear hs
  go_enter Tryd.func24, Tryd.ntmps24
  go_wp2_with fail
  go_loopw [9, 10] (fun e9 e10 wr => ∃ i j : Nat, i ≤ posF l key ∧ posF l key ≤ j ∧ j ≤ l.length ∧ e9 = .int .i64 (i : Int) ∧ e10 = .int .i64 (j : Int) ∧ Below w.heap.size w wr) (fun e9 e10 _ => (RowKit.intOf e10).toNat - (RowKit.intOf e9).toNat)
  case atStart => exact ⟨0, l.length, by omega, by omega, by omega, rfl, rfl, Below.refl _ _⟩
  case round =>
    obtain ⟨i, j, hi, hj, hjl, rfl, rfl, bj⟩ := hrel
    by_cases hij : i < j
    · have y1 : (i : Int) < j := by omega
      obtain ⟨h, hh, hh1, hh2⟩ : ∃ h : Nat, ((i : Int) + (j : Int)) / 2 = (h : Int) ∧ i ≤ h ∧ h < j := ⟨(i + j) / 2, by omega, by omega, by omega⟩
      have hhl : h < l.length := by omega
      have y2 : (h : Int) < l.length := by omega
      obtain ⟨hSb, hks, csj, hrow, hlj⟩ := liesM_get HL.out h hhl
      obtain rfl : am = some ⟨bm, om, none⟩ := ham.at_.resolve_left (by omega)
      obtain ⟨ek, eb, ei, es, eal, enl, ecl, eam, enm, ecm, rfl⟩ := V.ten hlj
      have hP := HP.out h hhl
      obtain ⟨ekey, hek⟩ : ∃ ekey, (l[h]).1 = ekey := ⟨_, rfl⟩
      rw [hek] at hrow hP
      obtain ⟨q, q0, q1, q2, q3, q4, q5⟩ := row7 (hrow.keep (bj.block _ (hS _ hSb)))
      have hc := findcmp_any ekey key [.int .i64 ek, .bool eb, .int .i64 ei, .string es, .slice eal enl ecl, .slice eam enm ecm] wr ⟨_, _, _, _, _, _, _, _, _, _, rfl⟩
      have hlt := ltB_cmp ekey key
      have h1 := cmp_one ekey.data.toList key.data.toList
      change cmpS ekey key = -1 ∨ cmpS ekey key = 0 ∨ cmpS ekey key = 1 at h1
      rw [hP] at hlt
      generalize cmpS ekey key = c at *
      clear hrow hlj hP
      by_cases hp : h < posF l key
      · have hcm : c = -1 := hlt.1 (decide_eq_true hp)
        subst hcm
        clear hlt h1
        go_wp2_with fail
        refine hc.mono ?_
        rintro e w3 ⟨rfl, b3⟩
        go_wp2_with fail
        go_roundw
        case rel => exact ⟨h + 1, j, by omega, by omega, by omega, by go_num, rfl, bj.trans (b3.mono bj.size)⟩
        case measure => simp [RowKit.intOf]; omega
      · have hcm : ¬ c = -1 := fun e => hp (of_decide_eq_true (hlt.2 e))
        have y3 : ¬ c < 0 := by omega
        clear hlt h1
        go_wp2_with fail
        refine hc.mono ?_
        rintro e w3 ⟨rfl, b3⟩
        go_wp2_with fail
        go_roundw
        case rel => exact ⟨i, h, by omega, by omega, by omega, rfl, rfl, bj.trans (b3.mono bj.size)⟩
        case measure => simp [RowKit.intOf]; omega
    · have hie : i = posF l key := by omega
      have y1 : ¬ (i : Int) < j := by omega
      by_cases hpos : i < l.length
      · have y2 : (i : Int) < l.length := by omega
        obtain ⟨hSb, hks, csj, hrow, hlj⟩ := liesM_get HL.out i hpos
        obtain rfl : am = some ⟨bm, om, none⟩ := ham.at_.resolve_left (by omega)
        obtain ⟨ek, eb, ei, es, eal, enl, ecl, eam, enm, ecm, rfl⟩ := V.ten hlj
        have HK : Hid (keyIs key l[posF l key]? = ((l[i]).1.toList == key.toList)) := by show _ = _; rw [← hie, List.getElem?_eq_getElem hpos]; rfl
        obtain ⟨ekey, hek⟩ : ∃ ekey, (l[i]).1 = ekey := ⟨_, rfl⟩
        rw [hek] at hrow HK
        obtain ⟨q, q0, q1, q2, q3, q4, q5⟩ := row7 (hrow.keep (bj.block _ (hS _ hSb)))
        have hc := findcmp_any ekey key [.int .i64 ek, .bool eb, .int .i64 ei, .string es, .slice eal enl ecl, .slice eam enm ecm] wr ⟨_, _, _, _, _, _, _, _, _, _, rfl⟩
        have hz := cmpS_zero ekey key
        have HZ : Hid ((cmpS ekey key == 0) = (ekey.toList == key.toList)) := by show _ = _; rw [Bool.eq_iff_iff, beq_iff_eq, beq_iff_eq]; exact hz
        have HI : Hid (i = posF l key) := hie
        generalize cmpS ekey key = c at *
        clear hrow hlj hz hie
        go_wp2_with fail
        refine hc.mono ?_
        rintro e w3 ⟨rfl, b3⟩
        go_wp2_with fail
        go_ret2
        refine ⟨?_, bj.trans (b3.mono bj.size)⟩
        rw [HK.out, ← HZ.out, ← HI.out]
        rfl
      · have y2 : ¬ (i : Int) < l.length := by omega
        have HK : Hid (keyIs key l[posF l key]? = false) := by show _ = _; rw [← hie, List.getElem?_eq_none (by omega)]; rfl
        have HI : Hid (i = posF l key) := hie
        clear hie
        go_wp2_with fail
        go_ret2
        refine ⟨?_, bj⟩
        rw [HK.out, ← HI.out]
        rfl
set_option maxHeartbeats 1000000 in
set_option maxRecDepth 100000 in
theorem find_any (l : List Mem) (key : ByteArray) (R : Bool) (S : Nat → Prop) (am : Option Addr) (cm bm om : Nat) (w : World) (ham : Headed am l.length cm bm om) (hl : liesM R w S l bm om) (hS : ∀ b, S b → b < w.heap.size) (hs : Srt l) (hn : l.length ≤ 1099511627776) :
    Calls Tryd.prog 18 #[.slice am l.length cm, .string key] w (fun e w' => e = .returned (.tuple #[.int .i64 (posF l key : Int), .bool (keyIs key l[posF l key]?)]) ∧ Below w.heap.size w w') := by
  have hc := search_any l key R S am cm bm om w ham hl hS hs hn
  clear hl
  generalize posF l key = p at *
  generalize keyIs key l[p]? = q at *
  go_enter Tryd.func18, Tryd.ntmps18
  go_wp2_with fail
  refine hc.mono ?_
  rintro e w1 ⟨rfl, b1⟩
  go_wp2_with fail
  go_ret2
  exact ⟨rfl, b1⟩
theorem srt_rise {l : List Mem} (h : riseB l = true) : Srt l := by
  have h0 : ∀ j, j < l.length → okAt l j = true := by
    simpa only [riseB, List.all_eq_true, List.mem_range] using h
  have h1 : ∀ (j : Nat) (hj : j + 1 < l.length), ltB (l[j]).1 (l[j + 1]).1 = true := fun j hj => by
    have := h0 (j + 1) hj
    rw [okAt, keyAt_eq hj, Nat.add_sub_cancel, keyAt_eq (by omega)] at this
    simpa using (Bool.and_eq_true _ _ ▸ this).2
  have h2 : ∀ (d i : Nat) (hd : i + (d + 1) < l.length), ltB (l[i]).1 (l[i + (d + 1)]).1 = true := by
    intro d
    induction d with
    | zero => intro i hd; exact h1 i hd
    | succ d ih =>
      intro i hd
      exact ltB_trans (ih i (by omega)) (h1 (i + (d + 1)) hd)
  refine List.pairwise_iff_getElem.2 fun i j hi hj hij => ?_
  have := h2 (j - i - 1) i (by omega)
  have e : i + (j - i - 1 + 1) = j := by omega
  simp only [e] at this
  exact this
end Go.Proofs.YtmmlejbebfkojaaDoor
