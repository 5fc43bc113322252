import Derived.Test.YtolekldjbbjmjaaGreatDoorDocC
/- SelectorReads: the document's reader: values in brackets. -/
set_option linter.unusedSimpArgs false
set_option linter.unusedVariables false
namespace Go.Proofs.YtolekldjbbjmjaaGreatDoor
open Go.RowKit Go.Lib
def LsPost (R : Option (List ByteArray) × Nat) (g : Nat) (s : ByteArray) (w : World) (e : Ending) (w' : World) : Prop :=
  (∃ l a c b o, R.1 = some l ∧ e = .returned (.slice a l.length c) ∧ Headed a l.length c b o ∧ liesS w' (New w w') l b o ∧ DP g s w w' R.2 (-1)) ∨ (R.1 = none ∧ e = .returned (.slice none 0 0) ∧ ∃ k2, DP g s w w' k2 (R.2 : Int))
theorem comp_add (acc : List ByteArray) (x : ByteArray) : addV (compB (sortB acc)) x = compB (sortB (acc ++ [x])) :=
  ris_uniq (addV_ris (comp_sort_ris acc) x) (comp_sort_ris _) (fun y => by rw [addV_memI, comp_sort_mem, comp_sort_mem, List.mem_append]; simp)
theorem comp_nil : compB (sortB []) = [] := List.eq_nil_of_length_eq_zero (Nat.le_zero.1 (comp_sort_len []))
theorem small_comp {acc : List ByteArray} {x : ByteArray} (h : SmallS (compB (sortB acc))) (hx : x.size ≤ 64) : SmallS (compB (sortB (acc ++ [x]))) := by
  rw [← comp_add]
  exact addV_small h (by omega)
set_option maxHeartbeats 8000000 in
set_option maxRecDepth 100000 in
theorem dlist_any (g : Nat) (s : ByteArray) (k0 : Nat) (w : World) (h : DB g s k0 (-1) w) (hk0 : k0 ≤ s.size) (hs : s.size ≤ 1048576) :
    Calls Tryz.prog 60 #[.pointer (some ⟨g, 0, none⟩)] w (LsPost (manyF s.data.toList (skp s.data.toList k0)) g s w) := by
  have hll : s.data.toList.length = s.size := by simp
  have hlt := h.lt
  have CB : Hid (Calls Tryz.prog 37 #[.pointer (some ⟨g, 0, none⟩)] w (fun e w' => e = .returned (.tuple #[]) ∧ DP g s w w' (skp s.data.toList k0) (-1))) := blanks_any g s k0 w h hk0 (by omega)
  have CBL : Hid (∀ W k, DP g s w W k (-1) → Calls Tryz.prog 37 #[.pointer (some ⟨g, 0, none⟩)] W (fun e w' => e = .returned (.tuple #[]) ∧ DP g s W w' (skp s.data.toList k) (-1))) := fun W k r => blanks_any g s k W r.db r.le (by omega)
  have CF : Hid (∀ W k (z : Int), DP g s w W k (-1) → Calls Tryz.prog 77 #[.pointer (some ⟨g, 0, none⟩), .int .i64 z] W (fun e w' => e = .returned (.tuple #[]) ∧ DP g s W w' k z)) := fun W k z r => dfail_any g s k z W r.db r.le
  have CO : Hid (∀ W k, DP g s w W k (-1) → Calls Tryz.prog 39 #[.pointer (some ⟨g, 0, none⟩), .string ⟨#[40]⟩] W (fun e w' => e = .returned (.bool (tkB s.data.toList k [40])) ∧ DP g s W w' k (-1))) := fun W k r => sees_any g s ⟨#[40]⟩ k W r.db r.le (by omega) (by decide) (by decide)
  have CC : Hid (∀ W k, DP g s w W k (-1) → Calls Tryz.prog 39 #[.pointer (some ⟨g, 0, none⟩), .string ⟨#[41]⟩] W (fun e w' => e = .returned (.bool (tkB s.data.toList k [41])) ∧ DP g s W w' k (-1))) := fun W k r => sees_any g s ⟨#[41]⟩ k W r.db r.le (by omega) (by decide) (by decide)
  have CM : Hid (∀ W k, DP g s w W k (-1) → Calls Tryz.prog 39 #[.pointer (some ⟨g, 0, none⟩), .string ⟨#[44]⟩] W (fun e w' => e = .returned (.bool (tkB s.data.toList k [44])) ∧ DP g s W w' k (-1))) := fun W k r => sees_any g s ⟨#[44]⟩ k W r.db r.le (by omega) (by decide) (by decide)
  have CW : Hid (∀ W k, DP g s w W k (-1) → Calls Tryz.prog 58 #[.pointer (some ⟨g, 0, none⟩), .int .i64 0] W (WdPost (wrdF s.data.toList 0 (skp s.data.toList k)) g s (skp s.data.toList k) W)) := fun W k r => dword_any g s k 0 W r.db r.le (by omega) (by omega)
  obtain ⟨k, hk⟩ : ∃ k, skp s.data.toList k0 = k := ⟨_, rfl⟩
  rw [hk] at CB ⊢
  have HM : Hid (manyF s.data.toList k = if tkB s.data.toList k [40] = true then manF (s.data.toList.length + 1) s.data.toList (skp s.data.toList (k + 1)) [] else (none, k)) := rfl
  generalize manyF s.data.toList k = RES at *
  clear hk h
  go_enter Tryz.func60, Tryz.ntmps60
  go_wp2_with fail
  refine CB.out.mono ?_
  rintro e w1 ⟨rfl, r1⟩
  have hks := r1.le
  go_wp2_with fail
  refine (CO.out _ _ r1).mono ?_
  rintro e w2 ⟨rfl, r2'⟩
  have r2 := r1.trans r2'
  have c12 := r2.db.c1
  cases hT : tkB s.data.toList k [40] with
  | false =>
    have HX : Hid (RES = (none, k)) := by show _ = _; rw [HM.out, hT]; rfl
    clear HM CB
    go_wp2_with (first | (go_at_call 77; refine (CF.out _ _ _ r2).mono ?_; rintro e w3 ⟨rfl, r3⟩) | fail)
    go_ret
    exact .inr ⟨by rw [HX.out], rfl, _, by rw [HX.out]; exact r2.trans r3⟩
  | true =>
    have hle := tkB_le hT (by decide)
    simp only [List.length_cons, List.length_nil] at hle
    have HX : Hid (RES = manF (s.size + 1) s.data.toList (skp s.data.toList (k + 1)) []) := by show _ = _; rw [HM.out, if_pos hT, hll]
    have f12 := r2.db.fz 1
    have r3 := r2.put1 (k + 1) ((k : Int) + 1) (by omega) (by omega)
    clear HM CB hT
    go_wp2_with fail
    go_loopw [3] (fun e3 wr => ∃ (f p : Nat) (acc : List ByteArray), s.size < f + p ∧ DP g s w wr p (-1) ∧ acc.length ≤ p ∧ Hid (RES = manF f s.data.toList (skp s.data.toList p) acc) ∧ Hid (OwnSt wr w.heap.size (fun _ => False) e3 (compB (sortB acc))) ∧ Hid (SmallS (compB (sortB acc)))) (fun _ wr => s.size - at_ g wr)
    case atStart => exact ⟨s.size + 1, k + 1, [], by omega, r3, by simp, HX.out, by rw [comp_nil]; exact OwnR.nil _ _, by rw [comp_nil]; exact fun y hy => by cases hy⟩
    case round =>
      obtain ⟨f, p, acc, hf, rj, hac, HR, HO, HSm⟩ := hrel
      have hpl := rj.le
      obtain ⟨f, rfl⟩ : ∃ f', f = f' + 1 := ⟨f - 1, by omega⟩
      have hkat := hmk rj.db.at_
      have d2 := rj.db.c2
      have hlen : (compB (sortB acc)).length ≤ 2147483647 := by have := comp_sort_len acc; omega
      go_wp2_with fail
      refine (CW.out _ _ rj).mono ?_
      rintro e w3 (⟨x, k1, hx, rfl, hx64, r3'⟩ | ⟨hx, rfl, k2, r3'⟩)
      · have r4 := rj.trans r3'
        have HO3 : Hid (OwnSt w3 w.heap.size (fun _ => False) u3 (compB (sortB acc))) := HO.out.keep keepS r3'.gr (fun r hr => ⟨fun h => h, fun e => by have := (HO.out.lt e).1; cases hr; omega⟩)
        have hw3 := r4.gr.size
        have CA := own_add (compB (sortB acc)) x u3 w.heap.size w3 HO3.out hw3 HSm.out hlen
        rw [comp_add] at CA
        have CA := hmk CA
        have hpk : p ≤ k1 := by have := skp_ge s.data.toList p; have := wrd_ge hx; omega
        have HX := hmk hx
        have HS2 := hmk (small_comp HSm.out hx64)
        clear hx r3' HO3 HO HSm
        go_wp2_with fail
        refine CA.out.mono ?_
        rintro e w4 ⟨v4, rfl, o4, b4⟩
        have r5 := r4.below b4
        have e2 := r5.db.c2
        have HO4 := hmk o4
        clear b4 CA o4
        go_wp2_with fail
        refine (CC.out _ _ r5).mono ?_
        rintro e w5 ⟨rfl, r6'⟩
        have r6 := r5.trans r6'
        have e1 := r6.db.c1
        have f1 := r6.db.fz 1
        have HO5 : Hid (OwnSt w5 w.heap.size (fun _ => False) v4 (compB (sortB (acc ++ [x])))) := HO4.out.keep keepS r6'.gr (fun r hr => ⟨fun h => h, fun e => by have := (HO4.out.lt e).1; cases hr; omega⟩)
        clear r6' HO4
        cases hT : tkB s.data.toList k1 [41] with
        | true =>
          have hle1 := tkB_le hT (by decide)
          simp only [List.length_cons, List.length_nil] at hle1
          have HY : Hid (RES = (some (compB (sortB (acc ++ [x]))), skp s.data.toList (k1 + 1))) := by show _ = _; rw [HR.out, manF_end HX.out hT]
          have r7 := r6.put1 (k1 + 1) ((k1 : Int) + 1) (by omega) (by omega)
          have HO6 : Hid (OwnSt (w5.setCell ⟨g, 1, none⟩ (.int .i64 ((k1 : Int) + 1))) w.heap.size (fun _ => False) v4 (compB (sortB (acc ++ [x])))) := HO5.out.keep keepS (grown_set1 w5 g 1 _) (fun r hr => ⟨fun h => h, fun e => by have := (HO5.out.lt e).1; cases hr; omega⟩)
          clear hT HR HX
          go_wp2_with (first | (go_at_call 37; refine (CBL.out _ _ r7).mono ?_; rintro e w7 ⟨rfl, r8'⟩) | fail)
          (try simp only [Exit.inBlock, Exit.then])
          have r8 := r7.trans r8'
          have HO7 : OwnSt w7 w.heap.size (fun _ => False) v4 (compB (sortB (acc ++ [x]))) := HO6.out.keep keepS r8'.gr (fun r hr => ⟨fun h => h, fun e => by have := (HO6.out.lt e).1; cases hr; omega⟩)
          obtain ⟨a, c, b, o, rfl, hh, hl⟩ := own_read HO7 HS2.out
          go_ret
          exact .inl ⟨_, a, c, b, o, by rw [HY.out], rfl, hh, hl, by rw [HY.out]; exact r8⟩
        | false =>
          have HT := hmk hT
          clear hT
          go_wp2_with fail
          refine (CM.out _ _ r6).mono ?_
          rintro e w6 ⟨rfl, r7'⟩
          have r7 := r6.trans r7'
          have e12 := r7.db.c1
          have f12 := r7.db.fz 1
          have HO6 : Hid (OwnSt w6 w.heap.size (fun _ => False) v4 (compB (sortB (acc ++ [x])))) := HO5.out.keep keepS r7'.gr (fun r hr => ⟨fun h => h, fun e => by have := (HO5.out.lt e).1; cases hr; omega⟩)
          clear r7' HO5
          cases hT : tkB s.data.toList k1 [44] with
          | true =>
            have hle1 := tkB_le hT (by decide)
            simp only [List.length_cons, List.length_nil] at hle1
            have HY : Hid (RES = manF f s.data.toList (skp s.data.toList (k1 + 1)) (acc ++ [x])) := by show _ = _; rw [HR.out, manF_next HX.out HT.out hT]
            have r8 := r7.put1 (k1 + 1) ((k1 : Int) + 1) (by omega) (by omega)
            have HO7 : Hid (OwnSt (w6.setCell ⟨g, 1, none⟩ (.int .i64 ((k1 : Int) + 1))) w.heap.size (fun _ => False) v4 (compB (sortB (acc ++ [x])))) := HO6.out.keep keepS (grown_set1 w6 g 1 _) (fun r hr => ⟨fun h => h, fun e => by have := (HO6.out.lt e).1; cases hr; omega⟩)
            have hat8 := hmk r8.db.at_
            clear hT HR HX
            go_wp2_with fail
            go_roundw
            case rel => exact ⟨f, k1 + 1, acc ++ [x], by omega, r8, by rw [List.length_append]; simp only [List.length_singleton]; omega, HY.out, HO7.out, HS2.out⟩
            case measure => rw [hat8.out, hkat.out]; omega
          | false =>
            have HY : Hid (RES = (none, k1)) := by show _ = _; rw [HR.out, manF_stop HX.out HT.out hT]
            clear hT HR HX
            go_wp2_with (first | (go_at_call 77; refine (CF.out _ _ _ r7).mono ?_; rintro e w7 ⟨rfl, r8⟩) | fail)
            (try simp only [Exit.inBlock, Exit.then])
            go_ret
            exact .inr ⟨by rw [HY.out], rfl, _, by rw [HY.out]; exact r7.trans r8⟩
      · have r4 := rj.trans r3'
        have HO3 : Hid (OwnSt w3 w.heap.size (fun _ => False) u3 (compB (sortB acc))) := HO.out.keep keepS r3'.gr (fun r hr => ⟨fun h => h, fun e => by have := (HO.out.lt e).1; cases hr; omega⟩)
        have hw3 := r4.gr.size
        have CA := hmk (own_add (compB (sortB acc)) ⟨#[]⟩ u3 w.heap.size w3 HO3.out hw3 HSm.out hlen)
        have HY : Hid (RES = (none, skp s.data.toList p)) := by show _ = _; rw [HR.out, manF_no hx]
        clear hx r3' HO3 HO HSm HR
        generalize skp s.data.toList p = z at *
        have yz : (z : Int) ≥ 0 := by omega
        go_wp2_with fail
        refine CA.out.mono ?_
        rintro e w4 ⟨v4, rfl, o4, b4⟩
        have r5 := r4.below b4
        have e2 := r5.db.c2
        clear b4 CA o4
        go_wp2_with fail
        (try simp only [Exit.inBlock, Exit.then])
        go_ret
        exact .inr ⟨by rw [HY.out], rfl, _, by rw [HY.out]; exact r5⟩
end Go.Proofs.YtolekldjbbjmjaaGreatDoor
