/- joined: MbyP ChpP -/
import Derived.Test.YtihcggepeadklaaGreatDoorKmbP
/- mayBe: the elements that may be. -/
set_option linter.unusedSimpArgs false
set_option linter.unusedVariables false
namespace Go.Proofs.YtihcggepeadklaaGreatDoor
open Go.RowKit Go.Lib
theorem nil_toList : (⟨#[]⟩ : ByteArray).toList = [] := by rw [ByteArray.toList_eq]
/-- may the element be? -/
def elB (e : El) : Bool :=
  if e.kind = 1 then decide (e.key.length = 0) && (nilV e.item && utfB e.name)
  else if e.kind = 2 then decide (e.name.toList = []) && (nilV e.item && keysB e.key)
  else if e.kind = 3 then decide (e.name.toList = []) && (decide (e.key.length = 0) && sizS e.item) else false
theorem elB1 {k : Int} {nm : ByteArray} {m : List Mem} {v : V} (h : k = 1) : elB ⟨k, nm, m, v⟩ = (decide (m.length = 0) && (nilV v && utfB nm)) := by rw [elB]; dsimp only; rw [if_pos h]
theorem elB2 {k : Int} {nm : ByteArray} {m : List Mem} {v : V} (h : k = 2) : elB ⟨k, nm, m, v⟩ = (decide (nm.toList = []) && (nilV v && keysB m)) := by rw [elB]; dsimp only; rw [if_neg (by omega), if_pos h]
theorem elB3 {k : Int} {nm : ByteArray} {m : List Mem} {v : V} (h : k = 3) : elB ⟨k, nm, m, v⟩ = (decide (nm.toList = []) && (decide (m.length = 0) && sizS v)) := by rw [elB]; dsimp only; rw [if_neg (by omega), if_neg (by omega), if_pos h]
theorem elB0 {k : Int} {nm : ByteArray} {m : List Mem} {v : V} (h1 : k ≠ 1) (h2 : k ≠ 2) (h3 : k ≠ 3) : elB ⟨k, nm, m, v⟩ = false := by rw [elB]; dsimp only; rw [if_neg h1, if_neg h2, if_neg h3]
set_option maxHeartbeats 8000000 in
set_option maxRecDepth 100000 in
theorem maybe_any (e : El) (S : Nat → Prop) (cs : List Value) (w : World) (tb : Tb w) (hl : e.lies w S cs) (hS : ∀ b, S b → b < w.heap.size) (hwt : e.wt ≤ 2147483647) :
    Calls Tryz.prog 22 #[.agg cs.toArray] w (BPost (elB e) w) := by
  obtain ⟨k, nm, m, v⟩ := e
  obtain ⟨am, cm, bm, om, is, rfl, hk, hnm, ham, hm, hv⟩ := hl
  dsimp only at hk hnm ham hm hv
  obtain ⟨vk, vb, vi, vs, vl, vm⟩ := v
  have HV := hmk hv
  rw [V.lies] at hv
  obtain ⟨val, vcl, vbl, vol, vam, vcm, vbm, vom, rfl, _⟩ := hv
  have HM := hmk hm
  have HN : Hid (nilV (V.mk vk vb vi vs vl vm) = nilB vk vb vi vs vl.length vm.length) := rfl
  have hw1 : nm.size ≤ 2147483647 ∧ wtM m ≤ 2147483647 ∧ (V.mk vk vb vi vs vl vm).wt ≤ 2147483647 := by unfold El.wt at hwt; dsimp only at hwt; omega
  have b1 : Below w.heap.size w (w.alloc (.cells #[.int .i64 k, .string nm, .slice am m.length cm, .int .i64 vk, .bool vb, .int .i64 vi, .string vs, .slice val vl.length vcl, .slice vam vm.length vcm] 48)) := (Below.refl _ _).alloc (Nat.le_refl _) _
  have hz1 : (w.alloc (.cells #[.int .i64 k, .string nm, .slice am m.length cm, .int .i64 vk, .bool vb, .int .i64 vi, .string vs, .slice val vl.length vcl, .slice vam vm.length vcm] 48)).heap.size = w.heap.size + 1 := alloc_size _ _
  have hbx := box_row w [.int .i64 k, .string nm, .slice am m.length cm, .int .i64 vk, .bool vb, .int .i64 vi, .string vs, .slice val vl.length vcl, .slice vam vm.length vcm] 48
  obtain ⟨d0, d1, d2, d3, d4, d5, d6, d7, d8⟩ := row9z hbx
  clear hm
  generalize hvv : V.mk vk vb vi vs vl vm = v at *
  clear hvv
  by_cases k1 : k = 1
  · subst k1
    have HR := hmk (elB1 (nm := nm) (m := m) (v := v) (rfl : (1 : Int) = 1))
    generalize elB ⟨1, nm, m, v⟩ = RR at *
    have HB := hmk b1
    by_cases h0 : m.length = 0
    case neg =>
      have y0 : ((m.length : Int) == 0) = false := by rw [beq_eq_false_iff_ne]; omega
      have HF : Hid (RR = false) := by show _ = _; rw [HR.out, decide_eq_false h0]; rfl
      go_enter Tryz.func22, Tryz.ntmps22
      go_wp2_with fail
      go_ret
      exact ⟨by rw [HF.out]; rfl, HB.out⟩
    have y0 : ((m.length : Int) == 0) = true := by rw [h0]; rfl
    have HR2 : Hid (RR = (nilB vk vb vi vs vl.length vm.length && utfB nm)) := by show _ = _; rw [HR.out, decide_eq_true h0, HN.out]; rfl
    clear h0
    have c1 := hmk (nothing_any vk vb vi vs val vl.length vcl vam vm.length vcm (w.alloc (.cells #[.int .i64 1, .string nm, .slice am m.length cm, .int .i64 vk, .bool vb, .int .i64 vi, .string vs, .slice val vl.length vcl, .slice vam vm.length vcm] 48)))
    go_enter Tryz.func22, Tryz.ntmps22
    go_wp2_with fail
    refine c1.out.mono ?_
    rintro e w1 ⟨rfl, b2⟩
    have hz2 := b2.size
    have hbx2 := hbx.keep (b2.block _ (by omega))
    have tb2 : Tb w1 := (tb.below b1 tb.z).below b2 (by have := tb.z; omega)
    have HB2 := hmk (HB.out.trans (b2.mono (by omega)))
    clear d0 d1 d2 d3 d4 d5 d6 d7 d8 c1
    obtain ⟨d0, d1, d2, d3, d4, d5, d6, d7, d8⟩ := row9z hbx2
    cases hx : nilB vk vb vi vs vl.length vm.length with
    | false =>
      have HF : Hid (RR = false) := by show _ = _; rw [HR2.out, hx]; rfl
      go_wp2_with fail
      go_ret
      exact ⟨by rw [HF.out]; rfl, HB2.out⟩
    | true =>
      have HF : Hid (RR = utfB nm) := by show _ = _; rw [HR2.out, hx]; rfl
      have c2 := hmk (qvalid_any nm w1 tb2 (by omega))
      go_wp2_with fail
      refine c2.out.mono ?_
      rintro e w2 ⟨rfl, b3⟩
      have HB3 := hmk (HB2.out.trans (b3.mono (by omega)))
      go_wp2_with fail
      go_ret
      exact ⟨by rw [HF.out]; rfl, HB3.out⟩
  have z1 : (k == 1) = false := beq_eq_false_iff_ne.2 k1
  by_cases k2 : k = 2
  · subst k2
    have HR := hmk (elB2 (nm := nm) (m := m) (v := v) (rfl : (2 : Int) = 2))
    generalize elB ⟨2, nm, m, v⟩ = RR at *
    have HB := hmk b1
    by_cases hnn : nm.toList = []
    case neg =>
      have e1 : (nm.toList == (⟨#[]⟩ : ByteArray).toList) = false := by rw [nil_toList, beq_eq_false_iff_ne]; exact hnn
      have e2 : (nm.toList != (⟨#[]⟩ : ByteArray).toList) = true := by rw [nil_toList, bne_iff_ne]; exact hnn
      have e3 : (nm.toList == []) = false := by rw [beq_eq_false_iff_ne]; exact hnn
      have e4 : (nm.toList != []) = true := by rw [bne_iff_ne]; exact hnn
      have e5 : nm.toList.isEmpty = false := by rw [List.isEmpty_eq_false_iff]; exact hnn
      have HF : Hid (RR = false) := by show _ = _; rw [HR.out, decide_eq_false hnn]; rfl
      go_enter Tryz.func22, Tryz.ntmps22
      go_wp2_with fail
      go_ret
      exact ⟨by rw [HF.out]; rfl, HB.out⟩
    obtain rfl : nm = ⟨#[]⟩ := bytes_eq (by rw [hnn, nil_toList])
    have HR2 : Hid (RR = (nilB vk vb vi vs vl.length vm.length && keysB m)) := by show _ = _; rw [HR.out, decide_eq_true hnn, HN.out]; rfl
    have c1 := hmk (nothing_any vk vb vi vs val vl.length vcl vam vm.length vcm (w.alloc (.cells #[.int .i64 2, .string ⟨#[]⟩, .slice am m.length cm, .int .i64 vk, .bool vb, .int .i64 vi, .string vs, .slice val vl.length vcl, .slice vam vm.length vcm] 48)))
    clear hnn
    go_enter Tryz.func22, Tryz.ntmps22
    go_wp2_with fail
    refine c1.out.mono ?_
    rintro e w1 ⟨rfl, b2⟩
    have hz2 := b2.size
    have hbx2 := hbx.keep (b2.block _ (by omega))
    have tb2 : Tb w1 := (tb.below b1 tb.z).below b2 (by have := tb.z; omega)
    have HB2 := hmk (HB.out.trans (b2.mono (by omega)))
    clear d0 d1 d2 d3 d4 d5 d6 d7 d8 c1
    obtain ⟨d0, d1, d2, d3, d4, d5, d6, d7, d8⟩ := row9z hbx2
    cases hx : nilB vk vb vi vs vl.length vm.length with
    | false =>
      have HF : Hid (RR = false) := by show _ = _; rw [HR2.out, hx]; rfl
      go_wp2_with fail
      go_ret
      exact ⟨by rw [HF.out]; rfl, HB2.out⟩
    | true =>
      have HF : Hid (RR = keysB m) := by show _ = _; rw [HR2.out, hx]; rfl
      have c2 := hmk (keymay_any m am cm bm om S w1 tb2 ham (liesM_keep (fun h => h) (fun b hb => HB2.out.block b (hS b hb)) (fun _ h => h) _ HM.out) (fun b hb => Nat.lt_of_lt_of_le (hS b hb) HB2.out.size) (by omega))
      go_wp2_with fail
      refine c2.out.mono ?_
      rintro e w2 ⟨rfl, b3⟩
      have HB3 := hmk (HB2.out.trans (b3.mono (by omega)))
      go_wp2_with fail
      go_ret
      exact ⟨by rw [HF.out]; rfl, HB3.out⟩
  have z2 : (k == 2) = false := beq_eq_false_iff_ne.2 k2
  by_cases k3 : k = 3
  · subst k3
    have HR := hmk (elB3 (nm := nm) (m := m) (v := v) (rfl : (3 : Int) = 3))
    generalize elB ⟨3, nm, m, v⟩ = RR at *
    have HB := hmk b1
    by_cases hnn : nm.toList = []
    case neg =>
      have e1 : (nm.toList == (⟨#[]⟩ : ByteArray).toList) = false := by rw [nil_toList, beq_eq_false_iff_ne]; exact hnn
      have e2 : (nm.toList != (⟨#[]⟩ : ByteArray).toList) = true := by rw [nil_toList, bne_iff_ne]; exact hnn
      have e3 : (nm.toList == []) = false := by rw [beq_eq_false_iff_ne]; exact hnn
      have e4 : (nm.toList != []) = true := by rw [bne_iff_ne]; exact hnn
      have e5 : nm.toList.isEmpty = false := by rw [List.isEmpty_eq_false_iff]; exact hnn
      have HF : Hid (RR = false) := by show _ = _; rw [HR.out, decide_eq_false hnn]; rfl
      go_enter Tryz.func22, Tryz.ntmps22
      go_wp2_with fail
      go_ret
      exact ⟨by rw [HF.out]; rfl, HB.out⟩
    obtain rfl : nm = ⟨#[]⟩ := bytes_eq (by rw [hnn, nil_toList])
    have HR1 : Hid (RR = (decide (m.length = 0) && sizS v)) := by show _ = _; rw [HR.out, decide_eq_true hnn]; rfl
    clear hnn
    by_cases h0 : m.length = 0
    case neg =>
      have y0 : ((m.length : Int) == 0) = false := by rw [beq_eq_false_iff_ne]; omega
      have HF : Hid (RR = false) := by show _ = _; rw [HR1.out, decide_eq_false h0]; rfl
      go_enter Tryz.func22, Tryz.ntmps22
      go_wp2_with fail
      go_ret
      exact ⟨by rw [HF.out]; rfl, HB.out⟩
    have y0 : ((m.length : Int) == 0) = true := by rw [h0]; rfl
    have HF : Hid (RR = sizS v) := by show _ = _; rw [HR1.out, decide_eq_true h0]; rfl
    clear h0
    have c2 := hmk (scalar_any false v S _ (w.alloc (.cells #[.int .i64 3, .string ⟨#[]⟩, .slice am m.length cm, .int .i64 vk, .bool vb, .int .i64 vi, .string vs, .slice val vl.length vcl, .slice vam vm.length vcm] 48)) (tb.below HB.out tb.z) (V.lies_keep (fun h => h) (fun b hb => HB.out.block b (hS b hb)) (fun _ h => h) _ HV.out) (fun b hb => Nat.lt_of_lt_of_le (hS b hb) HB.out.size) (by omega))
    go_enter Tryz.func22, Tryz.ntmps22
    go_wp2_with fail
    refine c2.out.mono ?_
    rintro e w2 ⟨rfl, b3⟩
    have HB3 := hmk (HB.out.trans (b3.mono (by omega)))
    go_wp2_with fail
    go_ret
    exact ⟨by rw [HF.out]; rfl, HB3.out⟩
  have z3 : (k == 3) = false := beq_eq_false_iff_ne.2 k3
  have HF := hmk (elB0 (nm := nm) (m := m) (v := v) k1 k2 k3)
  have HB := hmk b1
  clear k1 k2 k3
  go_enter Tryz.func22, Tryz.ntmps22
  go_wp2_with fail
  go_ret
  exact ⟨by rw [HF.out]; rfl, HB.out⟩
end Go.Proofs.YtihcggepeadklaaGreatDoor
/- Check. -/
namespace Go.Proofs.YtihcggepeadklaaGreatDoor
open Go.RowKit Go.Lib
/-- is it a path? -/
def pathB (p : List El) : Bool := decide (p.length ≤ 32) && p.all elB
def errP (p : List El) : Nat := if pathB p = true then 0 else 90
theorem pathB_true {p : List El} (h : p.length ≤ 32) (h' : ∀ (q : Nat) (h : q < p.length), elB p[q] = true) : pathB p = true := by
  rw [pathB, decide_eq_true h, Bool.true_and, List.all_eq_true]
  intro x hx
  obtain ⟨q, hq, rfl⟩ := List.getElem_of_mem hx
  exact h' q hq
theorem pathB_all {p : List El} (h : pathB p = true) : p.length ≤ 32 ∧ ∀ x ∈ p, elB x = true := by
  simpa [pathB] using h
theorem errP_ok {p : List El} (h : p.length ≤ 32) (h' : ∀ (q : Nat) (h : q < p.length), elB p[q] = true) : errP p = 0 := by rw [errP, if_pos (pathB_true h h')]
theorem errP_len {p : List El} (h : ¬ p.length ≤ 32) : errP p = 90 := by rw [errP, if_neg]; rw [pathB, decide_eq_false h]; simp
theorem errP_bad {p : List El} {j : Nat} (hj : j < p.length) (h : elB p[j] = false) : errP p = 90 := by
  rw [errP, if_neg]
  intro hp
  have := (pathB_all hp).2 _ (List.getElem_mem hj)
  rw [h] at this
  cases this
set_option maxHeartbeats 4000000 in
set_option maxRecDepth 100000 in
theorem pcheck_any (p : List El) (S : Nat → Prop) (ap : Option Addr) (cp bp op : Nat) (w : World) (t : Tb w) (hap : Headed ap p.length cp bp op) (hp : liesP w S p bp op) (hS : ∀ b, S b → b < w.heap.size) (hwt : wtP p ≤ 2147483647) :
    Calls Tryz.prog 10 #[.slice ap p.length cp] w (NPost (errP p) w) := by
  have HP := hmk hp
  clear hp
  by_cases h32 : p.length ≤ 32
  case neg =>
    have HF := hmk (errP_len h32)
    have y0 : (32 : Int) < p.length := by omega
    go_enter Tryz.func10, Tryz.ntmps10
    go_wp2_with fail
    go_ret
    exact ⟨by rw [HF.out]; rfl, Below.refl _ _⟩
  have y0 : ¬ (32 : Int) < p.length := by omega
  have H32 := hmk h32
  have hlm := wtP_len p
  clear h32
  go_enter Tryz.func10, Tryz.ntmps10
  go_wp2_with fail
  go_loopw [10] (fun e wr => ∃ j : Nat, j ≤ p.length ∧ e = .int .i64 (j : Int) ∧ Below w.heap.size w wr ∧ Hid (∀ (q : Nat) (h : q < j) (h' : q < p.length), elB p[q] = true)) (fun e _ => p.length - (RowKit.intOf e).toNat)
  case atStart => exact ⟨0, by omega, rfl, Below.refl _ _, fun q hq _ => by omega⟩
  case round =>
    obtain ⟨j, hj, rfl, bj, ok⟩ := hrel
    by_cases hjl : j < p.length
    · have y1 : (j : Int) < p.length := by omega
      obtain ⟨hSb, csj, hrow, hlj⟩ := HP.out j hjl
      obtain rfl : ap = some ⟨bp, op, none⟩ := hap.at_.resolve_left (by omega)
      have hwj : (p[j]).wt ≤ 2147483647 := by have := wtP_mem (List.getElem_mem hjl); omega
      obtain ⟨k, s, am, nm, cm, vk, vb, vi, vs, val, vnl, vcl, vam, vnm, vcm, rfl⟩ := El.nine hlj
      obtain ⟨q0, q1, q2, q3, q4, q5, q6, q7, q8⟩ := row9 (hrow.keep (bj.block bp (hS _ hSb)))
      have bA : Below w.heap.size w (wr.alloc (.cells #[.int .i64 k, .string s, .slice am nm cm, .int .i64 vk, .bool vb, .int .i64 vi, .string vs, .slice val vnl vcl, .slice vam vnm vcm] 48)) := bj.alloc bj.size _
      have c := hmk (maybe_any p[j] S _ (wr.alloc (.cells #[.int .i64 k, .string s, .slice am nm cm, .int .i64 vk, .bool vb, .int .i64 vi, .string vs, .slice val vnl vcl, .slice vam vnm vcm] 48)) (t.below bA t.z) (El.lies_keep (fun b hb => bA.block b (hS b hb)) (fun _ h => h) hlj) (fun b hb => Nat.lt_of_lt_of_le (hS b hb) bA.size) hwj)
      have HB := hmk bA
      clear hlj hrow bA hwj
      cases hx : elB p[j] with
      | false =>
        have HF := hmk (errP_bad hjl hx)
        rw [hx] at c
        clear hx
        go_wp2_with fail
        refine c.out.mono ?_
        rintro e w1 ⟨rfl, b1⟩
        go_wp2_with fail
        go_ret
        exact ⟨by rw [HF.out]; rfl, HB.out.trans (b1.mono HB.out.size)⟩
      | true =>
        have HO : Hid (∀ (q : Nat) (h : q < j + 1) (h' : q < p.length), elB p[q] = true) := fun q hq hq' => by
          by_cases hqj : q < j
          · exact ok.out q hqj hq'
          · obtain rfl : q = j := by omega
            exact hx
        rw [hx] at c
        clear hx
        go_wp2_with fail
        refine c.out.mono ?_
        rintro e w1 ⟨rfl, b1⟩
        have HB2 := hmk (HB.out.trans (b1.mono HB.out.size))
        go_wp2_with fail
        go_roundw
        case rel => exact ⟨j + 1, by omega, by go_num, HB2.out, HO⟩
        case measure => simp [RowKit.intOf]; omega
    · obtain rfl : j = p.length := by omega
      have y1 : ¬ (p.length : Int) < p.length := by omega
      have HF := hmk (errP_ok H32.out (fun q hq => ok.out q hq hq))
      have HB := hmk bj
      go_wp2_with fail
      go_ret
      exact ⟨by rw [HF.out]; rfl, HB.out⟩
end Go.Proofs.YtihcggepeadklaaGreatDoor
