import Derived.Test.YtfihgaffiobfhaaDoorKmbP
/- mayBe: the elements that may be. -/
set_option linter.unusedSimpArgs false
set_option linter.unusedVariables false
namespace Go.Proofs.YtfihgaffiobfhaaDoor
open Go.RowKit Go.Lib
theorem nil_toList : (⟨#[]⟩ : ByteArray).toList = [] := by rw [ByteArray.toList_eq]
/-- may the element be? -/
def elB (e : El) : Bool :=
  if e.kind = 1 then decide (e.key.length = 0) && (nilV e.item && utfB e.name)
  else if e.kind = 2 then decide (e.name.toList = []) && (nilV e.item && keysB e.key)
  else if e.kind = 3 then decide (e.name.toList = []) && (decide (e.key.length = 0) && sizS e.item) else false
theorem elB1 {k : Int} {nm : ByteArray} {m : List Mem} {v : V} (h : k = 1) : elB ⟨k, nm, m, v⟩ = (decide (m.length = 0) && (nilV v && utfB nm)) := by rw [elB]; dsimp only; rw [if_pos h]
theorem elB2 {k : Int} {nm : ByteArray} {m : List Mem} {v : V} (h : k = 2) : elB ⟨k, nm, m, v⟩ = (decide (nm.toList = []) && (nilV v && keysB m)) := by rw [elB]; dsimp only; rw [if_neg (by omega), if_pos h]
theorem elB3 {k : Int} {nm : ByteArray} {m : List Mem} {v : V} (h : k = 3) : elB ⟨k, nm, m, v⟩ = (decide (nm.toList = []) && (decide (m.length = 0) && sizS v)) := by rw [elB]; dsimp only; rw [if_neg (by omega), if_neg (by omega), if_pos h]
theorem elB0 {k : Int} {nm : ByteArray} {m : List Mem} {v : V} (h1 : k ≠ 1) (h2 : k ≠ 2) (h3 : k ≠ 3) : elB ⟨k, nm, m, v⟩ = false := by rw [elB]; dsimp only; rw [if_neg h1, if_neg h2, if_neg h3]
set_option maxHeartbeats 8000000 in
set_option maxRecDepth 100000 in
theorem maybe_any (e : El) (S : Nat → Prop) (cs : List Value) (w : World) (tb : Tb w) (hl : e.lies w S cs) (hS : ∀ b, S b → b < w.heap.size) (hwt : e.wt ≤ 2147483647) :
    Calls Tryd.prog 21 #[.agg cs.toArray] w (BPost (elB e) w) := by
  obtain ⟨k, nm, m, v⟩ := e
  obtain ⟨am, cm, bm, om, is, rfl, hk, hnm, ham, hm, hv⟩ := hl
  dsimp only at hk hnm ham hm hv
  obtain ⟨vk, vb, vi, vs, vl, vm⟩ := v
  have HV := hmk hv
  rw [V.lies] at hv
  obtain ⟨val, vcl, vbl, vol, vam, vcm, vbm, vom, rfl, _⟩ := hv
  have HM := hmk hm
  have HN : Hid (nilV (V.mk vk vb vi vs vl vm) = nilB vk vb vi vs vl.length vm.length) := rfl
  have hw1 : nm.size ≤ 2147483647 ∧ wtM m ≤ 2147483647 ∧ (V.mk vk vb vi vs vl vm).wt ≤ 2147483647 := by unfold El.wt at hwt; dsimp only at hwt; omega
  have b1 : Below w.heap.size w (w.alloc (.cells #[.int .i64 k, .string nm, .slice am m.length cm, .int .i64 vk, .bool vb, .int .i64 vi, .string vs, .slice val vl.length vcl, .slice vam vm.length vcm] 34)) := (Below.refl _ _).alloc (Nat.le_refl _) _
  have hz1 : (w.alloc (.cells #[.int .i64 k, .string nm, .slice am m.length cm, .int .i64 vk, .bool vb, .int .i64 vi, .string vs, .slice val vl.length vcl, .slice vam vm.length vcm] 34)).heap.size = w.heap.size + 1 := alloc_size _ _
  have hbx := box_row w [.int .i64 k, .string nm, .slice am m.length cm, .int .i64 vk, .bool vb, .int .i64 vi, .string vs, .slice val vl.length vcl, .slice vam vm.length vcm] 34
  obtain ⟨d0, d1, d2, d3, d4, d5, d6, d7, d8⟩ := row9z hbx
  clear hm
  generalize hvv : V.mk vk vb vi vs vl vm = v at *
  clear hvv
  by_cases k1 : k = 1
  · subst k1
    have HR := hmk (elB1 (nm := nm) (m := m) (v := v) (rfl : (1 : Int) = 1))
    generalize elB ⟨1, nm, m, v⟩ = RR at *
    have HB := hmk b1
    by_cases h0 : m.length = 0
    case neg =>
      have y0 : ((m.length : Int) == 0) = false := by rw [beq_eq_false_iff_ne]; omega
      have HF : Hid (RR = false) := by show _ = _; rw [HR.out, decide_eq_false h0]; rfl
      go_enter Tryd.func21, Tryd.ntmps21
      go_wp2_with fail
      go_ret
      exact ⟨by rw [HF.out]; rfl, HB.out⟩
    have y0 : ((m.length : Int) == 0) = true := by rw [h0]; rfl
    have HR2 : Hid (RR = (nilB vk vb vi vs vl.length vm.length && utfB nm)) := by show _ = _; rw [HR.out, decide_eq_true h0, HN.out]; rfl
    clear h0
    have c1 := hmk (nothing_any vk vb vi vs val vl.length vcl vam vm.length vcm (w.alloc (.cells #[.int .i64 1, .string nm, .slice am m.length cm, .int .i64 vk, .bool vb, .int .i64 vi, .string vs, .slice val vl.length vcl, .slice vam vm.length vcm] 34)))
    go_enter Tryd.func21, Tryd.ntmps21
    go_wp2_with fail
    refine c1.out.mono ?_
    rintro e w1 ⟨rfl, b2⟩
    have hz2 := b2.size
    have hbx2 := hbx.keep (b2.block _ (by omega))
    have tb2 : Tb w1 := (tb.below b1 tb.z).below b2 (by have := tb.z; omega)
    have HB2 := hmk (HB.out.trans (b2.mono (by omega)))
    clear d0 d1 d2 d3 d4 d5 d6 d7 d8 c1
    obtain ⟨d0, d1, d2, d3, d4, d5, d6, d7, d8⟩ := row9z hbx2
    cases hx : nilB vk vb vi vs vl.length vm.length with
    | false =>
      have HF : Hid (RR = false) := by show _ = _; rw [HR2.out, hx]; rfl
      go_wp2_with fail
      go_ret
      exact ⟨by rw [HF.out]; rfl, HB2.out⟩
    | true =>
      have HF : Hid (RR = utfB nm) := by show _ = _; rw [HR2.out, hx]; rfl
      have c2 := hmk (qvalid_any nm w1 tb2 (by omega))
      go_wp2_with fail
      refine c2.out.mono ?_
      rintro e w2 ⟨rfl, b3⟩
      have HB3 := hmk (HB2.out.trans (b3.mono (by omega)))
      go_wp2_with fail
      go_ret
      exact ⟨by rw [HF.out]; rfl, HB3.out⟩
  have z1 : (k == 1) = false := beq_eq_false_iff_ne.2 k1
  by_cases k2 : k = 2
  · subst k2
    have HR := hmk (elB2 (nm := nm) (m := m) (v := v) (rfl : (2 : Int) = 2))
    generalize elB ⟨2, nm, m, v⟩ = RR at *
    have HB := hmk b1
    by_cases hnn : nm.toList = []
    case neg =>
      have e1 : (nm.toList == (⟨#[]⟩ : ByteArray).toList) = false := by rw [nil_toList, beq_eq_false_iff_ne]; exact hnn
      have e2 : (nm.toList != (⟨#[]⟩ : ByteArray).toList) = true := by rw [nil_toList, bne_iff_ne]; exact hnn
      have e3 : (nm.toList == []) = false := by rw [beq_eq_false_iff_ne]; exact hnn
      have e4 : (nm.toList != []) = true := by rw [bne_iff_ne]; exact hnn
      have e5 : nm.toList.isEmpty = false := by rw [List.isEmpty_eq_false_iff]; exact hnn
      have HF : Hid (RR = false) := by show _ = _; rw [HR.out, decide_eq_false hnn]; rfl
      go_enter Tryd.func21, Tryd.ntmps21
      go_wp2_with fail
      go_ret
      exact ⟨by rw [HF.out]; rfl, HB.out⟩
    obtain rfl : nm = ⟨#[]⟩ := bytes_eq (by rw [hnn, nil_toList])
    have HR2 : Hid (RR = (nilB vk vb vi vs vl.length vm.length && keysB m)) := by show _ = _; rw [HR.out, decide_eq_true hnn, HN.out]; rfl
    have c1 := hmk (nothing_any vk vb vi vs val vl.length vcl vam vm.length vcm (w.alloc (.cells #[.int .i64 2, .string ⟨#[]⟩, .slice am m.length cm, .int .i64 vk, .bool vb, .int .i64 vi, .string vs, .slice val vl.length vcl, .slice vam vm.length vcm] 34)))
    clear hnn
    go_enter Tryd.func21, Tryd.ntmps21
    go_wp2_with fail
    refine c1.out.mono ?_
    rintro e w1 ⟨rfl, b2⟩
    have hz2 := b2.size
    have hbx2 := hbx.keep (b2.block _ (by omega))
    have tb2 : Tb w1 := (tb.below b1 tb.z).below b2 (by have := tb.z; omega)
    have HB2 := hmk (HB.out.trans (b2.mono (by omega)))
    clear d0 d1 d2 d3 d4 d5 d6 d7 d8 c1
    obtain ⟨d0, d1, d2, d3, d4, d5, d6, d7, d8⟩ := row9z hbx2
    cases hx : nilB vk vb vi vs vl.length vm.length with
    | false =>
      have HF : Hid (RR = false) := by show _ = _; rw [HR2.out, hx]; rfl
      go_wp2_with fail
      go_ret
      exact ⟨by rw [HF.out]; rfl, HB2.out⟩
    | true =>
      have HF : Hid (RR = keysB m) := by show _ = _; rw [HR2.out, hx]; rfl
      have c2 := hmk (keymay_any m am cm bm om S w1 tb2 ham (liesM_keep (fun h => h) (fun b hb => HB2.out.block b (hS b hb)) (fun _ h => h) _ HM.out) (fun b hb => Nat.lt_of_lt_of_le (hS b hb) HB2.out.size) (by omega))
      go_wp2_with fail
      refine c2.out.mono ?_
      rintro e w2 ⟨rfl, b3⟩
      have HB3 := hmk (HB2.out.trans (b3.mono (by omega)))
      go_wp2_with fail
      go_ret
      exact ⟨by rw [HF.out]; rfl, HB3.out⟩
  have z2 : (k == 2) = false := beq_eq_false_iff_ne.2 k2
  by_cases k3 : k = 3
  · subst k3
    have HR := hmk (elB3 (nm := nm) (m := m) (v := v) (rfl : (3 : Int) = 3))
    generalize elB ⟨3, nm, m, v⟩ = RR at *
    have HB := hmk b1
    by_cases hnn : nm.toList = []
    case neg =>
      have e1 : (nm.toList == (⟨#[]⟩ : ByteArray).toList) = false := by rw [nil_toList, beq_eq_false_iff_ne]; exact hnn
      have e2 : (nm.toList != (⟨#[]⟩ : ByteArray).toList) = true := by rw [nil_toList, bne_iff_ne]; exact hnn
      have e3 : (nm.toList == []) = false := by rw [beq_eq_false_iff_ne]; exact hnn
      have e4 : (nm.toList != []) = true := by rw [bne_iff_ne]; exact hnn
      have e5 : nm.toList.isEmpty = false := by rw [List.isEmpty_eq_false_iff]; exact hnn
      have HF : Hid (RR = false) := by show _ = _; rw [HR.out, decide_eq_false hnn]; rfl
      go_enter Tryd.func21, Tryd.ntmps21
      go_wp2_with fail
      go_ret
      exact ⟨by rw [HF.out]; rfl, HB.out⟩
    obtain rfl : nm = ⟨#[]⟩ := bytes_eq (by rw [hnn, nil_toList])
    have HR1 : Hid (RR = (decide (m.length = 0) && sizS v)) := by show _ = _; rw [HR.out, decide_eq_true hnn]; rfl
    clear hnn
    by_cases h0 : m.length = 0
    case neg =>
      have y0 : ((m.length : Int) == 0) = false := by rw [beq_eq_false_iff_ne]; omega
      have HF : Hid (RR = false) := by show _ = _; rw [HR1.out, decide_eq_false h0]; rfl
      go_enter Tryd.func21, Tryd.ntmps21
      go_wp2_with fail
      go_ret
      exact ⟨by rw [HF.out]; rfl, HB.out⟩
    have y0 : ((m.length : Int) == 0) = true := by rw [h0]; rfl
    have HF : Hid (RR = sizS v) := by show _ = _; rw [HR1.out, decide_eq_true h0]; rfl
    clear h0
    have c2 := hmk (scalar_any false v S _ (w.alloc (.cells #[.int .i64 3, .string ⟨#[]⟩, .slice am m.length cm, .int .i64 vk, .bool vb, .int .i64 vi, .string vs, .slice val vl.length vcl, .slice vam vm.length vcm] 34)) (tb.below HB.out tb.z) (V.lies_keep (fun h => h) (fun b hb => HB.out.block b (hS b hb)) (fun _ h => h) _ HV.out) (fun b hb => Nat.lt_of_lt_of_le (hS b hb) HB.out.size) (by omega))
    go_enter Tryd.func21, Tryd.ntmps21
    go_wp2_with fail
    refine c2.out.mono ?_
    rintro e w2 ⟨rfl, b3⟩
    have HB3 := hmk (HB.out.trans (b3.mono (by omega)))
    go_wp2_with fail
    go_ret
    exact ⟨by rw [HF.out]; rfl, HB3.out⟩
  have z3 : (k == 3) = false := beq_eq_false_iff_ne.2 k3
  have HF := hmk (elB0 (nm := nm) (m := m) (v := v) k1 k2 k3)
  have HB := hmk b1
  clear k1 k2 k3
  go_enter Tryd.func21, Tryd.ntmps21
  go_wp2_with fail
  go_ret
  exact ⟨by rw [HF.out]; rfl, HB.out⟩
end Go.Proofs.YtfihgaffiobfhaaDoor
